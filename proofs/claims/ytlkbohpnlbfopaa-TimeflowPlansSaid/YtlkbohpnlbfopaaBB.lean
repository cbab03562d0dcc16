/- Lemmas of the layers below, several texts in one. -/
import Derived.Test.YtlkbohpnlbfopaaBA
import Derived.Maps.OwnSet
import Derived.Test.YtlkbohpnlbfopaaRows
import Derived.LoopTactic
import Derived.Deep.QuietTactic
import Derived.BigQuiet
import Derived.Deep.RegionHeld3
import Derived.Deep.OwnRows
import Derived.Deep.LoopGhost
namespace Go.Proofs.Ytlkbohpnlbfopaa
open Go.RowKit
set_option linter.unusedVariables false
section
variable {α : Type} {enc : α → Value}
theorem flat_one (A : List α) : (A.flatMap fun x => [enc x]) = A.map enc := by
  induction A with
  | nil => rfl
  | cons x r ih => rw [List.flatMap_cons, ih]; rfl
def OwnL (enc : α → Value) (w : World) (base : Nat) (e : TypeId) (v : Value) (L : List α) : Prop := w.ownsRow base e 1 v L.length (L.map enc)
theorem OwnL.nil (w : World) (base : Nat) (e : TypeId) : OwnL enc w base e (.slice none 0 0) [] := World.ownsRow_nil _ _ _ _
theorem OwnL.below {w w' : World} {base : Nat} {e : TypeId} {v : Value} {L : List α} (h : OwnL enc w base e v L) (hb : Below w.heap.size w w') : OwnL enc w' base e v L := own_below h hb
theorem OwnL.alloc {w : World} {base : Nat} {e : TypeId} {v : Value} {L : List α} (h : OwnL enc w base e v L) (o : Obj) : OwnL enc (w.alloc o) base e v L := World.ownsRow.alloc h o
theorem OwnL.mono {w : World} {a b : Nat} {e : TypeId} {v : Value} {L : List α} (h : OwnL enc w b e v L) (hab : a ≤ b) : OwnL enc w a e v L := own_mono h hab
theorem OwnL.lst {w : World} {base : Nat} {e : TypeId} {v : Value} {L : List α} (h : OwnL enc w base e v L) : ∃ ao cap, v = .slice ao L.length cap ∧ Lst enc w ao L := own_lst h
theorem OwnL.lstK {w : World} {base : Nat} {e : TypeId} {ao : Option Addr} {n cap : Nat} {L : List α} (h : OwnL enc w base e (.slice ao n cap) L) : Lst enc w ao L := by
  obtain ⟨ao', cap', e', hl⟩ := own_lst h
  injection e' with h1 h2 h3
  subst h1
  exact hl
theorem OwnL.cell {w : World} {base g n cap : Nat} {e : TypeId} {L : List α} (h : OwnL enc w base e (.slice (some ⟨g, 0, none⟩) n cap) L) {j : Nat} {x : α} (hj : L[j]? = some x) :
    w.cell? ⟨g, j, none⟩ = some (enc x) ∧ w.frozen? ⟨g, j, none⟩ = false := by
  rcases h.2 with ⟨h0, _⟩ | ⟨g', cap', cur, e1, hb, hg, h1, h2, h3, h4⟩
  · cases h0
  · injection e1 with e2 e3 e4
    injection e2 with e2
    have hg' : g' = g := by injection e2 with q; exact q.symm
    subst hg'
    refine ⟨?_, frozen_whole hg j⟩
    have hl : j < L.length := (List.getElem?_eq_some_iff.1 hj).1
    rw [cell_whole hg, ← Array.getElem?_toList]
    have e5 : (cur.toList.take (L.length * 1))[j]? = cur.toList[j]? := List.getElem?_take_of_lt (by omega)
    rw [← e5, h4, List.getElem?_map, hj]; rfl
theorem OwnL.put {w : World} {base g n cap : Nat} {e : TypeId} {L : List α} (h : OwnL enc w base e (.slice (some ⟨g, 0, none⟩) n cap) L) (j : Nat) (y : α) :
    OwnL enc (w.setCell ⟨g, j, none⟩ (enc y)) base e (.slice (some ⟨g, 0, none⟩) n cap) (L.set j y) := by
  refine ⟨by simp, ?_⟩
  rcases h.2 with ⟨h0, _⟩ | ⟨g', cap', cur, e1, hb, hg, h1, h2, h3, h4⟩
  · cases h0
  · injection e1 with e2 e3 e4
    injection e2 with e2
    have hg' : g' = g := by injection e2 with q; exact q.symm
    subst hg'
    subst e4
    refine .inr ⟨g', cap, _, by rw [List.length_set, ← e3], hb, set_whole hg _ _, by rw [List.length_set]; exact h1, h2, by simpa using h3, ?_⟩
    rw [Array.toList_setIfInBounds, List.length_set, List.take_set, h4, List.map_set]
theorem OwnL.some {w : World} {base : Nat} {e : TypeId} {v : Value} {L : List α} (h : OwnL enc w base e v L) (h0 : 0 < L.length) : ∃ g cap, v = .slice (some ⟨g, 0, none⟩) L.length cap ∧ base ≤ g ∧ g < w.heap.size := by
  rcases h.2 with ⟨_, h1⟩ | ⟨g', cap', cur, e1, hb, hg, h1, h2, h3, h4⟩
  · omega
  · exact ⟨g', cap', e1, hb, lt_whole hg⟩
theorem wpList_append_one {t e : TypeId} {bytes : Nat} {z : Value} (ht : Try.prog.underlying t = some (.slice e)) (hinfo : (Try.prog.info? e).map (fun i => (i.zero, i.size, i.bytes)) = some (some z, 1, bytes)) (hzs : z.cells.size = 1) (hby : bytes ≤ 64)
    {w : World} {ops : Array Oper} {rest : List Oper} {o : Oper} {a : Act} {Q : Exit → Act → World → Prop} (hgd : o.guard = none) (s y : Operand)
    (ho : o.op = .call { callee := .builtin .append, args := #[s, y], argTypes := #[t, t] })
    (base : Nat) (v : Value) (A : List α) (x : α) (hone : (enc x).oneCell' = true) (hs : a.eval s = v) (hown : OwnL enc w base e v A)
    (gs : Nat) (c : Nat) (hx : a.eval y = .slice (some ⟨gs, 0, none⟩) 1 c) (hc : w.cell? ⟨gs, 0, none⟩ = some (enc x))
    (hroom : A.length ≤ 200000) (hbase : base ≤ w.heap.size)
    (hK : ∀ g cap w', OwnL enc w' base e (.slice (some ⟨g, 0, none⟩) (A.length + 1) cap) (A ++ [x]) → w.grownBy w' v.ownBlock → (v.ownBlock = some g ∨ g = w.heap.size) → base ≤ g → g < w'.heap.size → wpList Try.prog ops Q rest (a.put o.dst (.slice (some ⟨g, 0, none⟩) (A.length + 1) cap)) w') : wpList Try.prog ops Q (o :: rest) a w := by
  refine wpList_append_row (enc := fun x => [enc x]) ht hinfo hzs (by omega) hby (fun _ => rfl) hgd s y ho base v A x (fun u hu => by rw [List.mem_singleton] at hu; subst hu; exact hone) hs (by rw [flat_one]; exact hown) gs c hx (fun j hj => by obtain rfl : j = 0 := (by omega); exact hc) hroom hbase ?_
  intro g cap w' h1 h2 h3 h4 h5
  rw [flat_one] at h1
  exact hK g cap w' h1 h2 h3 h4 h5
theorem OwnL.grown {β : Type} {en2 : β → Value} {w w' : World} {base : Nat} {e : TypeId} {v : Value} {L : List β} {row : Option Nat} (h : OwnL en2 w base e v L) (hg : w.grownBy w' row) (hne : v.ownBlock = none ∨ v.ownBlock ≠ row) : OwnL en2 w' base e v L := by
  refine ⟨h.1, ?_⟩
  rcases h.2 with h1 | ⟨g', cap, cur, rfl, h2, h3, h4⟩
  · exact .inl h1
  · refine .inr ⟨g', cap, cur, rfl, h2, (hg.block g' (lt_whole h3) (fun e => ?_)).trans h3, h4⟩
    rcases hne with hn | hn
    · simp [Value.ownBlock] at hn
    · exact hn (by simp [Value.ownBlock, e])
end
theorem made_one (z : Value) (hz : z.cells = #[z]) (n : Nat) : (madeCells z.cells (n * 1)).toList = (List.replicate n z) := by
  apply List.ext_getElem?
  intro i
  rw [List.getElem?_replicate]
  by_cases h : i < n
  · rw [if_pos h]; simp [madeCells, h, Nat.mod_one, hz]
  · rw [if_neg h, List.getElem?_eq_none (by simp [madeCells]; omega)]
theorem wpList_make_L {α : Type} {enc : α → Value} {t e : TypeId} {bytes : Nat} (z : α) (ht : Try.prog.underlying t = some (.slice e)) (hinfo : (Try.prog.info? e).map (fun i => (i.zero, i.size, i.bytes)) = some (some (enc z), 1, bytes)) (hz : (enc z).cells = #[enc z]) (hby : bytes ≤ 64)
    {w : World} {ops : Array Oper} {rest : List Oper} {o : Oper} {a : Act} {Q : Exit → Act → World → Prop} (hgd : o.guard = none) (l c : Operand) (hop : o.op = Op.makeSlice t l c)
    (n : Nat) (hl : a.eval l = .int .i64 (n : Int)) (hc : a.eval c = .int .i64 (n : Int)) (hn : n ≤ 200000)
    (hK : ∀ w', OwnL enc w' w.heap.size e (.slice (some ⟨w.heap.size, 0, none⟩) n n) (List.replicate n z) → Below w.heap.size w w' → wpList Try.prog ops Q rest (a.put o.dst (.slice (some ⟨w.heap.size, 0, none⟩) n n)) w') : wpList Try.prog ops Q (o :: rest) a w := by
  obtain ⟨i0, hi, hz0, hz1, hz2⟩ := info_parts hinfo
  refine wpList_make_full w hgd l c t hop w.heap.size e i0 (enc z) 1 ht hi hz0 hz1 .i64 .i64 (n : Int) (n : Int) n hl hc rfl rfl ?_ (by unfold maxLen; omega) (Nat.le_refl _) ?_
  · rw [hz2]
    have : bytes * n ≤ 64 * 200000 := Nat.mul_le_mul hby hn
    omega
  · intro w' h1 h2
    refine hK w' ?_ ((Below.refl _ w).grown h2 (Nat.le_refl _) (fun k hk => by cases hk))
    unfold OwnL
    rw [List.length_replicate, List.map_replicate, ← made_one (enc z) hz]
    exact h1
def natI (L : List Nat) : List Int := L.map fun (n : Nat) => (n : Int)
theorem natI_len (L : List Nat) : (natI L).length = L.length := by simp [natI]
theorem natI_snoc (L : List Nat) (t : Nat) : natI (L ++ [t]) = natI L ++ [(t : Int)] := by simp [natI]
def encV (v : Value) : Value := v
def GRow (w : World) (ga : Option Addr) (G : List (List Nat)) : Prop := ∀ i (hi : i < G.length), ∃ b o ao cap, ga = some ⟨b, o, none⟩ ∧ b < w.heap.size ∧ w.cell? ⟨b, o + i, none⟩ = some (.slice ao G[i].length cap) ∧ Lst encI w ao (natI G[i])
theorem GRow.below {w w' : World} {ga : Option Addr} {G : List (List Nat)} (h : GRow w ga G) (hb : Below w.heap.size w w') : GRow w' ga G := by
  intro i hi
  obtain ⟨b, o, ao, cap, e, h1, h2, h3⟩ := h i hi
  exact ⟨b, o, ao, cap, e, Nat.lt_of_lt_of_le h1 hb.size, by rw [hb.cell h1]; exact h2, h3.below hb⟩
theorem GRow.nil (w : World) (ga : Option Addr) : GRow w ga [] := fun i hi => absurd hi (by simp)
theorem Lst.lt {α : Type} {enc : α → Value} {w : World} {ao : Option Addr} {A : List α} (h : Lst enc w ao A) : ∀ ad, ao = some ad → 0 < A.length → ad.block < w.heap.size := by
  intro ad e h0
  obtain ⟨b, o, e', hb, _⟩ := h 0 h0
  rw [e] at e'; cases e'; exact hb
theorem Lst.grown {α : Type} {enc : α → Value} {w w' : World} {row : Option Nat} {ao : Option Addr} {A : List α} (h : Lst enc w ao A) (hg : w.grownBy w' row) (hn : ∀ ad, ao = some ad → 0 < A.length → some ad.block ≠ row) : Lst enc w' ao A := by
  intro i hi
  obtain ⟨b, o, h1, h2, h3⟩ := h i hi
  exact ⟨b, o, h1, Nat.lt_of_lt_of_le h2 hg.size, (cell_of_block (hg.block b h2 (hn _ h1 (by omega)))).trans h3⟩
def RG (w0 w : World) (ov : Value) (G : List (List Nat)) : Prop := ∃ vs : List Value, OwnL encV w w0.heap.size 65 ov vs ∧ vs.length = G.length ∧
  ∀ i (hi : i < G.length), ∃ ao cap, vs[i]? = some (.slice ao G[i].length cap) ∧ Lst encI w ao (natI G[i]) ∧ ∀ ad, ao = some ad → 0 < G[i].length → some ad.block ≠ ov.ownBlock
theorem RG.start (w : World) : RG w w (.slice none 0 0) [] := ⟨[], OwnL.nil _ _ _, rfl, fun i hi => absurd hi (by simp)⟩
theorem RG.below {w0 w w' : World} {ov : Value} {G : List (List Nat)} (h : RG w0 w ov G) (hb : Below w.heap.size w w') : RG w0 w' ov G := by
  obtain ⟨vs, h1, h2, h3⟩ := h
  refine ⟨vs, h1.below hb, h2, fun i hi => ?_⟩
  obtain ⟨ao, cap, e1, e2, e3⟩ := h3 i hi
  exact ⟨ao, cap, e1, e2.below hb, e3⟩
theorem RG.push {w0 w w' : World} {ov : Value} {G : List (List Nat)} {vs : List Value} (h2 : vs.length = G.length)
    (h3 : ∀ i (hi : i < G.length), ∃ ao cap, vs[i]? = some (.slice ao G[i].length cap) ∧ Lst encI w ao (natI G[i]) ∧ ∀ ad, ao = some ad → 0 < G[i].length → some ad.block ≠ ov.ownBlock)
    {a : Option Addr} {g : List Nat} {c : Nat} (hr : Lst encI w a (natI g)) (hn : ∀ ad, a = some ad → 0 < g.length → some ad.block ≠ ov.ownBlock) {gg n cap : Nat}
    (ho : OwnL encV w' w0.heap.size 65 (.slice (some ⟨gg, 0, none⟩) n cap) (vs ++ [Value.slice a g.length c])) (hg : w.grownBy w' ov.ownBlock) (hl : ov.ownBlock = some gg ∨ gg = w.heap.size) :
    RG w0 w' (.slice (some ⟨gg, 0, none⟩) n cap) (G ++ [g]) := by
  have fresh : ∀ (ao : Option Addr) (l : List Nat), Lst encI w ao (natI l) → (∀ ad, ao = some ad → 0 < l.length → some ad.block ≠ ov.ownBlock) → ∀ ad, ao = some ad → 0 < l.length → some ad.block ≠ (Value.slice (some ⟨gg, 0, none⟩) n cap).ownBlock := by
    intro ao l hrow hne ad e h0 e2
    have e3 : ad.block = gg := by simpa [Value.ownBlock] using e2
    rcases hl with hl | hl
    · exact hne ad e h0 (by rw [hl, e3])
    · have := hrow.lt ad e (by rw [natI_len]; exact h0)
      omega
  refine ⟨_, ho, by simp [h2], fun i hi => ?_⟩
  by_cases hi' : i < G.length
  · obtain ⟨ao, cp, e1, e2, e3⟩ := h3 i hi'
    have eG : (G ++ [g])[i] = G[i] := List.getElem_append_left hi'
    rw [eG]
    exact ⟨ao, cp, by rw [List.getElem?_append_left (by omega)]; exact e1, e2.grown hg (fun ad e h0 => e3 ad e (by rwa [natI_len] at h0)), fresh ao _ e2 e3⟩
  · have hie : i = G.length := by simp at hi; omega
    subst hie
    have eG : (G ++ [g])[G.length] = g := by simp
    rw [eG]
    exact ⟨a, c, by rw [← h2]; simp, hr.grown hg (fun ad e h0 => hn ad e (by rwa [natI_len] at h0)), fresh a _ hr hn⟩
theorem RG.row {w0 w : World} {ov : Value} {G : List (List Nat)} (h : RG w0 w ov G) : ∃ ga cap, ov = .slice ga G.length cap ∧ GRow w ga G := by
  obtain ⟨vs, h1, h2, h3⟩ := h
  obtain ⟨ga, cap, e, hr⟩ := h1.lst
  refine ⟨ga, cap, by rw [e, h2], fun i hi => ?_⟩
  obtain ⟨b, o, e1, hb, hc⟩ := hr i (by omega)
  obtain ⟨ao, cp, e2, e3, _⟩ := h3 i hi
  refine ⟨b, o, ao, cp, e1, hb, ?_, e3⟩
  rw [hc]
  have : vs[i] = .slice ao G[i].length cp := (List.getElem?_eq_some_iff.1 e2).2
  rw [this]; rfl
theorem RG.lt {w0 w : World} {ov : Value} {G : List (List Nat)} (h : RG w0 w ov G) : ∀ g, ov.ownBlock = some g → g < w.heap.size := by
  obtain ⟨vs, h1, _⟩ := h
  exact fun g e => own_lt h1 e
end Go.Proofs.Ytlkbohpnlbfopaa
namespace Go.Proofs.Ytlkbohpnlbfopaa
open Go.RowKit
set_option linter.unusedVariables false
def nilS : Value := .slice none 0 0
theorem infoInts : (Try.prog.info? 65).map (fun i => (i.zero, i.size, i.bytes)) = some (some (.slice none 0 0), 1, 24) := by kernel_rfl
theorem getD_lt {α : Type} {l : List α} {i : Nat} (h : i < l.length) (d : α) : l.getD i d = l[i] := by rw [List.getD_eq_getElem?_getD, List.getElem?_eq_getElem h]; rfl
theorem ne_row {own : Nat → Nat} {v : Value} {row : Option Nat} {a b : Nat} (hv : ∀ g, v.ownBlock = some g → own g = a) (hr : ∀ g, row = some g → own g = b) (hab : a ≠ b) : v.ownBlock = none ∨ v.ownBlock ≠ row := by
  cases hb : v.ownBlock with
  | none => exact .inl rfl
  | some g => right; rintro rfl; exact hab ((hv g hb).symm.trans (hr g rfl))
def ownSet (own : Nat → Nat) (g r : Nat) : Nat → Nat := fun i => if i = g then r else own i
theorem ownSet_old {own : Nat → Nat} {g r i n : Nat} (h : own i = n) (hi : i ≠ g) : ownSet own g r i = n := by unfold ownSet; rw [if_neg hi]; exact h
theorem ownSet_new (own : Nat → Nat) (g r : Nat) : ownSet own g r g = r := by unfold ownSet; rw [if_pos rfl]
theorem own_lt2 {α : Type} {enc : α → Value} {w : World} {B : Nat} {e : TypeId} {v : Value} {L : List α} (h : OwnL enc w B e v L) {g : Nat} (hg : v.ownBlock = some g) : B ≤ g ∧ g < w.heap.size := ⟨own_block h hg, own_lt h hg⟩
structure IX (B : Nat) (w : World) (g cap : Nat) (vs : List Value) (G : List (List Nat)) (own : Nat → Nat) : Prop where
  gr : OwnL encV w B 65 (.slice (some ⟨g, 0, none⟩) G.length cap) vs
  len : vs.length = G.length
  inn : ∀ i, i < G.length → OwnL encI w B 3 (vs.getD i nilS) (natI (G.getD i []))
  og : own g = 0
  oi : ∀ i b, i < G.length → (vs.getD i nilS).ownBlock = some b → own b = i + 1
section
variable {B : Nat} {w w' : World} {g cap : Nat} {vs : List Value} {G : List (List Nat)} {own : Nat → Nat}
theorem IX.start {N : Nat} (h : OwnL encV w B 65 (.slice (some ⟨g, 0, none⟩) N cap) (List.replicate N nilS)) : IX B w g cap (List.replicate N nilS) (List.replicate N []) (fun _ => 0) := by
  have e : ∀ i, (List.replicate N nilS).getD i nilS = nilS := by
    intro i; rw [List.getD_eq_getElem?_getD, List.getElem?_replicate]; split <;> rfl
  have e2 : ∀ i, (List.replicate N ([] : List Nat)).getD i [] = [] := by
    intro i; rw [List.getD_eq_getElem?_getD, List.getElem?_replicate]; split <;> rfl
  refine ⟨by rw [List.length_replicate]; exact h, by simp, ?_, rfl, ?_⟩
  · intro i hi; rw [e, e2]; exact OwnL.nil _ _ _
  · intro i b hi hb; rw [e] at hb; cases hb
theorem IX.below (h : IX B w g cap vs G own) (hb : Below w.heap.size w w') : IX B w' g cap vs G own :=
  ⟨h.gr.below hb, h.len, fun i hi => (h.inn i hi).below hb, h.og, h.oi⟩
theorem IX.lt (h : IX B w g cap vs G own) : B ≤ g ∧ g < w.heap.size := own_lt2 h.gr rfl
theorem IX.cell (h : IX B w g cap vs G own) {j : Nat} (hj : j < G.length) : w.cell? ⟨g, j, none⟩ = some (vs.getD j nilS) ∧ w.frozen? ⟨g, j, none⟩ = false := by
  have hl := h.len
  have := h.gr.cell (j := j) (x := vs[j]'(by omega)) (List.getElem?_eq_getElem _)
  rw [getD_lt (by omega)]
  exact this
theorem IX.reown (h : IX B w g cap vs G own) (r : Nat) : IX B w g cap vs G (ownSet own w.heap.size r) :=
  { h with
    og := ownSet_old h.og (by have := h.lt; omega)
    oi := fun i b hi e => ownSet_old (h.oi i b hi e) (by have := (own_lt2 (h.inn i hi) e).2; omega) }
theorem IX.add (h : IX B w g cap vs G own) {j : Nat} (hj : j < G.length) {p n c t : Nat}
    (hk : OwnL encI w' B 3 (.slice (some ⟨p, 0, none⟩) n c) (natI (G.getD j [] ++ [t]))) (hg : w.grownBy w' (vs.getD j nilS).ownBlock) (hl : (vs.getD j nilS).ownBlock = some p ∨ p = w.heap.size) :
    w'.cell? ⟨g, j, none⟩ = some (vs.getD j nilS) ∧ w'.frozen? ⟨g, j, none⟩ = false ∧ ∃ vs' own', IX B (w'.setCell ⟨g, j, none⟩ (.slice (some ⟨p, 0, none⟩) n c)) g cap vs' (G.set j (G.getD j [] ++ [t])) own' := by
  have hlen := h.len
  obtain ⟨hc, hf⟩ := h.cell hj
  have hlt := h.lt
  have hjo : ∀ own', IX B w g cap vs G own' → ∀ i, (vs.getD j nilS).ownBlock = some i → own' i = j + 1 := fun own' h i e => h.oi j i hj e
  have hne : some g ≠ (vs.getD j nilS).ownBlock := by
    intro e
    have a := hjo _ h g e.symm
    have b := h.og
    omega
  have hcell : w'.cell? ⟨g, j, none⟩ = some (vs.getD j nilS) := hg.cell hc hne
  have hfro : w'.frozen? ⟨g, j, none⟩ = false := by
    rw [World.frozen?_of_block (hg.block g hlt.2 hne)]; exact hf
  have sg : w'.grownBy (w'.setCell ⟨g, j, none⟩ (.slice (some ⟨p, 0, none⟩) n c)) (some g) := ⟨rfl, rfl, rfl, by simp [World.setCell], fun i hi hne => Below.heap_setCell w' _ _ i (fun e => hne (by rw [e]))⟩
  refine ⟨hcell, hfro, ?_⟩
  have main : ∀ own', IX B w g cap vs G own' → own' p = j + 1 → IX B (w'.setCell ⟨g, j, none⟩ (.slice (some ⟨p, 0, none⟩) n c)) g cap (vs.set j (.slice (some ⟨p, 0, none⟩) n c)) (G.set j (G.getD j [] ++ [t])) own' := by
    intro own' h hp
    have o0 : ∀ i, some g = some i → own' i = 0 := fun i e => by cases e; exact h.og
    have hgr := h.gr.grown hg (ne_row (a := 0) (b := j + 1) (fun i e => by simp [Value.ownBlock] at e; subst e; exact h.og) (hjo _ h) (by omega))
    refine ⟨?_, by simp [hlen], ?_, h.og, ?_⟩
    · rw [List.length_set]
      exact hgr.put j (.slice (some ⟨p, 0, none⟩) n c)
    · intro i hi
      rw [List.length_set] at hi
      by_cases hij : i = j
      · subst hij
        have e1 : (G.set i (G.getD i [] ++ [t])).getD i [] = G.getD i [] ++ [t] := by rw [List.getD_eq_getElem?_getD, List.getElem?_set_self hj]; rfl
        have e2 : (vs.set i (.slice (some ⟨p, 0, none⟩) n c)).getD i nilS = .slice (some ⟨p, 0, none⟩) n c := by rw [List.getD_eq_getElem?_getD, List.getElem?_set_self (by omega)]; rfl
        rw [e1, e2]
        refine hk.grown sg (ne_row (a := i + 1) (fun i' e => ?_) o0 (by omega))
        simp [Value.ownBlock] at e
        subst e; exact hp
      · have e1 : (G.set j (G.getD j [] ++ [t])).getD i [] = G.getD i [] := by rw [List.getD_eq_getElem?_getD, List.getElem?_set_ne (fun e => hij e.symm), ← List.getD_eq_getElem?_getD]
        have e2 : (vs.set j (.slice (some ⟨p, 0, none⟩) n c)).getD i nilS = vs.getD i nilS := by rw [List.getD_eq_getElem?_getD, List.getElem?_set_ne (fun e => hij e.symm), ← List.getD_eq_getElem?_getD]
        rw [e1, e2]
        exact ((h.inn i hi).grown hg (ne_row (fun b e => h.oi i b hi e) (hjo _ h) (by omega))).grown sg (ne_row (fun b e => h.oi i b hi e) o0 (by omega))
    · intro i b hi e
      rw [List.length_set] at hi
      by_cases hij : i = j
      · subst hij
        have e2 : (vs.set i (.slice (some ⟨p, 0, none⟩) n c)).getD i nilS = .slice (some ⟨p, 0, none⟩) n c := by rw [List.getD_eq_getElem?_getD, List.getElem?_set_self (by omega)]; rfl
        rw [e2] at e
        simp [Value.ownBlock] at e
        subst e; exact hp
      · have e2 : (vs.set j (.slice (some ⟨p, 0, none⟩) n c)).getD i nilS = vs.getD i nilS := by rw [List.getD_eq_getElem?_getD, List.getElem?_set_ne (fun e => hij e.symm), ← List.getD_eq_getElem?_getD]
        rw [e2] at e
        exact h.oi i b hi e
  rcases hl with hl | rfl
  · exact ⟨_, own, main own h (h.oi j p hj hl)⟩
  · exact ⟨_, _, main _ (h.reown (j + 1)) (ownSet_new _ _ _)⟩
theorem IX.row (h : IX B w g cap vs G own) : GRow w (some ⟨g, 0, none⟩) G := by
  intro i hi
  obtain ⟨hc, _⟩ := h.cell hi
  obtain ⟨ao, c, e, hl⟩ := (h.inn i hi).lst
  rw [e] at hc
  rw [getD_lt hi] at hc hl
  rw [natI_len] at hc
  exact ⟨g, 0, ao, c, rfl, h.lt.2, by rw [Nat.zero_add]; exact hc, hl⟩
end
theorem below_set {B : Nat} {w w' : World} (h : Below B w w') {g j : Nat} (hg : B ≤ g) (u : Value) : Below B w (w'.setCell ⟨g, j, none⟩ u) := h.setCell (p := ⟨g, j, none⟩) hg u
theorem below_grown {B : Nat} {w0 w w' : World} {row : Option Nat} (h : Below B w0 w) (hB : B ≤ w.heap.size) (hg : w.grownBy w' row) (hr : ∀ g, row = some g → B ≤ g) : Below B w0 w' := h.grown hg hB hr
def lists (f : ArcT → Nat) (Z : List ArcT) (N : Nat) : List (List Nat) := (List.range N).map (places f Z)
theorem lists_len (f : ArcT → Nat) (Z : List ArcT) (N : Nat) : (lists f Z N).length = N := by simp [lists]
structure GNew (B : Nat) (w : World) (g : Nat) (G : List (List Nat)) : Prop where
  row : GRow w (some ⟨g, 0, none⟩) G
  hd : B ≤ g
  inn : ∀ i, i < G.length → ∃ ao cap, w.cell? ⟨g, i, none⟩ = some (.slice ao (G.getD i []).length cap) ∧ Lst encI w ao (natI (G.getD i [])) ∧ ∀ ad, ao = some ad → B ≤ ad.block
theorem GNew.mono {A B : Nat} {w : World} {g : Nat} {G : List (List Nat)} (h : GNew B w g G) (hA : A ≤ B) : GNew A w g G :=
  ⟨h.row, Nat.le_trans hA h.hd, fun i hi => by obtain ⟨ao, cap, h1, h2, h3⟩ := h.inn i hi; exact ⟨ao, cap, h1, h2, fun ad e => Nat.le_trans hA (h3 ad e)⟩⟩
end Go.Proofs.Ytlkbohpnlbfopaa
namespace Go.Proofs.Ytlkbohpnlbfopaa
set_option linter.unusedVariables false
def toP (Z : List ArcT) (v p : Nat) : Bool := match Z[p]? with | some a => toN a == v | none => false
theorem toP_iff {Z : List ArcT} {v p : Nat} {a : ArcT} (h : Z[p]? = some a) : toP Z v p = true ↔ toN a = v := by unfold toP; rw [h]; simp
theorem toP_mem {Z : List ArcT} {v p : Nat} (h : toP Z v p = true) : ∃ a, Z[p]? = some a ∧ toN a = v := by
  unfold toP at h
  split at h
  · next a ha => exact ⟨a, ha, by simpa using h⟩
  · cases h
def cntP (Z : List ArcT) (P : List Nat) (v : Nat) : Nat := P.countP (toP Z v)
theorem cntP_zero {Z : List ArcT} {P : List Nat} {v : Nat} : cntP Z P v = 0 ↔ ∀ p ∈ P, ∀ a, Z[p]? = some a → toN a ≠ v := by
  unfold cntP
  rw [List.countP_eq_zero]
  constructor
  · intro h p hp a ha e
    exact h p hp ((toP_iff ha).2 e)
  · intro h p hp ht
    obtain ⟨a, ha, e⟩ := toP_mem ht
    exact h p hp a ha e
theorem cntP_erase {Z : List ArcT} {P : List Nat} {p : Nat} {a : ArcT} (hp : p ∈ P) (ha : Z[p]? = some a) (v : Nat) : cntP Z P v = cntP Z (P.erase p) v + if toN a = v then 1 else 0 := by
  unfold cntP
  have h := (List.perm_cons_erase hp).countP_eq (toP Z v)
  rw [h, List.countP_cons]
  congr 1
  by_cases e : toN a = v
  · rw [if_pos ((toP_iff ha).2 e), if_pos e]
  · rw [if_neg (fun h => e ((toP_iff ha).1 h)), if_neg e]
def prN (v : Nat) : Int × Int := ((v : Int), (v : Int))
theorem prN_inj {u v : Nat} (h : prN u = prN v) : u = v := by have := congrArg Prod.fst h; simp only [prN] at this; omega
structure OI (Z : List ArcT) (N : Nat) (pend : List Int) (P : List Nat) (L : List (Int × Int)) (l T : List Nat) : Prop where
  ord : orderK Z N l.length = some l
  len : pend.length = N
  pc : ∀ v, v < N → atI pend v = (cntP Z P v : Int)
  pn : P.Nodup
  tn : T.Nodup
  pm : ∀ p, p ∈ P ↔ ∃ a, Z[p]? = some a ∧ (frN a ∉ l ∨ p ∈ T)
  tl : ∀ p ∈ T, ∃ a, Z[p]? = some a ∧ frN a ∈ l
  ln : ∀ v ∈ l, cntP Z P v = 0
  lm : ∀ x, x ∈ L ↔ ∃ v, v < N ∧ x = prN v ∧ v ∉ l ∧ cntP Z P v = 0
  ld : L.Nodup
section
variable {Z : List ArcT} {N : Nat} {pend : List Int} {P : List Nat} {L : List (Int × Int)} {l T : List Nat}
theorem OI.start (hl : pend.length = N) (hp : ∀ v, v < N → atI pend v = (cntP Z (List.range Z.length) v : Int)) (hm : ∀ x, x ∈ L ↔ ∃ v, v < N ∧ x = prN v ∧ atI pend v = 0) (hd : L.Nodup) : OI Z N pend (List.range Z.length) L [] [] := by
  refine ⟨rfl, hl, hp, List.nodup_range, by simp, ?_, by simp, by simp, ?_, hd⟩
  · intro p
    rw [List.mem_range]
    constructor
    · intro h; exact ⟨Z[p], List.getElem?_eq_getElem h, by simp⟩
    · rintro ⟨a, ha, _⟩; exact (List.getElem?_eq_some_iff.1 ha).1
  · intro x
    rw [hm]
    constructor
    · rintro ⟨v, h1, h2, h3⟩; exact ⟨v, h1, h2, by simp, by have := hp v h1; omega⟩
    · rintro ⟨v, h1, h2, h3, h4⟩; exact ⟨v, h1, h2, by have := hp v h1; omega⟩
theorem OI.free (h : OI Z N pend P L l []) (v : Nat) (hv : v < N) : prN v ∈ L ↔ freeN Z l v = true := by
  rw [h.lm, freeN_iff]
  constructor
  · rintro ⟨u, h1, h2, h3, h4⟩
    have := prN_inj h2
    subst this
    refine ⟨h3, fun a ha he => ?_⟩
    obtain ⟨p, hp⟩ := List.getElem?_of_mem ha
    refine Classical.byContradiction fun hf => ?_
    exact cntP_zero.1 h4 p ((h.pm p).2 ⟨a, hp, .inl hf⟩) a hp he
  · rintro ⟨h1, h2⟩
    refine ⟨v, hv, rfl, h1, cntP_zero.2 fun p hp a ha he => ?_⟩
    obtain ⟨b, hb, h3⟩ := (h.pm p).1 hp
    rw [ha] at hb; cases hb
    rcases h3 with h3 | h3
    · exact h3 (h2 a (List.mem_of_getElem? ha) he)
    · cases h3
theorem OI.next {x : Int × Int} (h : OI Z N pend P (x :: L) l []) (hso : SortedP (x :: L)) : ∃ u, x = prN u ∧ u < N ∧ u ∉ l ∧ nextN Z N l = some u := by
  obtain ⟨u, h1, h2, h3, h4⟩ := (h.lm x).1 (by simp)
  refine ⟨u, h2, h1, h3, ?_⟩
  unfold nextN
  rw [List.find?_range_eq_some]
  refine ⟨(h.free u h1).1 (by rw [← h2]; simp), by simpa using h1, fun v hv => ?_⟩
  have hv' : v < N := by omega
  cases hf : freeN Z l v with
  | false => rfl
  | true =>
    exfalso
    have hm := (h.free v hv').2 hf
    rcases List.mem_cons.1 hm with e | hm
    · rw [h2] at e
      have := prN_inj e
      omega
    · have := List.rel_of_pairwise_cons hso hm
      rw [h2] at this
      simp [ltP, prN] at this
      omega
theorem OI.pop {u : Nat} (h : OI Z N pend P (prN u :: L) l []) (hso : SortedP (prN u :: L)) : OI Z N pend P L (l ++ [u]) (places frN Z u) ∧ u < N ∧ l.length < N := by
  obtain ⟨u', e, h1, h3, h4⟩ := h.next hso
  have := prN_inj e
  subst this
  have hnd := List.nodup_cons.1 h.ld
  have hc0 : cntP Z P u = 0 := by
    obtain ⟨v, g1, g2, g3, g4⟩ := (h.lm (prN u)).1 (by simp)
    have := prN_inj g2
    subst this
    exact g4
  have hord : orderK Z N (l ++ [u]).length = some (l ++ [u]) := by
    rw [List.length_append, List.length_singleton]
    unfold orderK
    rw [h.ord]
    simp only
    rw [h4]
  refine ⟨⟨hord, h.len, h.pc, h.pn, List.Nodup.sublist List.filter_sublist List.nodup_range, ?_, ?_, ?_, ?_, hnd.2⟩, h1, ?_⟩
  · intro p
    rw [h.pm]
    constructor
    · rintro ⟨a, ha, h5⟩
      refine ⟨a, ha, ?_⟩
      rcases h5 with h5 | h5
      · by_cases e : frN a = u
        · exact .inr (places_mem.2 ⟨a, ha, e⟩)
        · exact .inl (by simp [h5, e])
      · cases h5
    · rintro ⟨a, ha, h5⟩
      refine ⟨a, ha, .inl ?_⟩
      rcases h5 with h5 | h5
      · exact fun hm => h5 (by simp [hm])
      · obtain ⟨b, hb, e⟩ := places_mem.1 h5
        rw [ha] at hb; cases hb
        rw [e]; exact h3
  · intro p hp
    obtain ⟨a, ha, e⟩ := places_mem.1 hp
    exact ⟨a, ha, by simp [e]⟩
  · intro v hv
    rcases List.mem_append.1 hv with hv | hv
    · exact h.ln v hv
    · rw [List.mem_singleton] at hv; subst hv; exact hc0
  · intro x
    constructor
    · intro hx
      obtain ⟨v, g1, g2, g3, g4⟩ := (h.lm x).1 (by simp [hx])
      refine ⟨v, g1, g2, ?_, g4⟩
      intro hm
      rcases List.mem_append.1 hm with hm | hm
      · exact g3 hm
      · rw [List.mem_singleton] at hm
        subst hm
        rw [g2] at hx
        exact hnd.1 hx
    · rintro ⟨v, g1, g2, g3, g4⟩
      have hm := (h.lm x).2 ⟨v, g1, g2, fun hm => g3 (by simp [hm]), g4⟩
      rcases List.mem_cons.1 hm with e | hm
      · rw [g2] at e
        have := prN_inj e
        subst this
        exact absurd (by simp) g3
      · exact hm
  · obtain ⟨o1, o2, o3, _⟩ := orderK_props _ _ hord
    have := nodup_le o2 o3
    simp at this
    omega
theorem OI.mid {p : Nat} {a : ArcT} (h : OI Z N pend P L l (p :: T)) (hp : Z[p]? = some a) (ht : toN a < N) : p ∈ P ∧ toN a ∉ l ∧ atI pend (toN a) = (cntP Z (P.erase p) (toN a) : Int) + 1 ∧ prN (toN a) ∉ L := by
  have hmem : p ∈ P := (h.pm p).2 ⟨a, hp, .inr (by simp)⟩
  have hc := cntP_erase hmem hp (toN a)
  rw [if_pos rfl] at hc
  refine ⟨hmem, fun hl => by have := h.ln _ hl; omega, by rw [h.pc _ ht, hc]; push_cast; rfl, fun hm => ?_⟩
  obtain ⟨v, g1, g2, g3, g4⟩ := (h.lm _).1 hm
  have := prN_inj g2
  rw [← this] at g4
  omega
theorem OI.step {p : Nat} {a : ArcT} {L' : List (Int × Int)} (h : OI Z N pend P L l (p :: T)) (hp : Z[p]? = some a) (ht : toN a < N)
    (hL : ∀ x, x ∈ L' ↔ x ∈ L ∨ (x = prN (toN a) ∧ cntP Z (P.erase p) (toN a) = 0)) (hd : L'.Nodup) : OI Z N (pend.set (toN a) (atI pend (toN a) - 1)) (P.erase p) L' l T := by
  obtain ⟨hmem, hnl, hat, hnL⟩ := h.mid hp ht
  have htn := List.nodup_cons.1 h.tn
  have hle : ∀ v, cntP Z (P.erase p) v ≤ cntP Z P v := fun v => by rw [cntP_erase hmem hp v]; omega
  refine ⟨h.ord, by rw [List.length_set]; exact h.len, ?_, h.pn.erase p, htn.2, ?_, fun q hq => h.tl q (by simp [hq]), ?_, ?_, hd⟩
  · intro v hv
    rw [atI_set (by rw [h.len]; exact ht)]
    split
    · next e => subst e; omega
    · next e =>
      rw [h.pc v hv, cntP_erase hmem hp v, if_neg (fun e2 => e e2.symm)]
      rfl
  · intro q
    rw [h.pn.mem_erase_iff, h.pm]
    constructor
    · rintro ⟨h1, b, hb, h2⟩
      refine ⟨b, hb, ?_⟩
      rcases h2 with h2 | h2
      · exact .inl h2
      · rcases List.mem_cons.1 h2 with e | h2
        · exact absurd e h1
        · exact .inr h2
    · rintro ⟨b, hb, h2⟩
      refine ⟨?_, b, hb, ?_⟩
      · rintro rfl
        rcases h2 with h2 | h2
        · obtain ⟨c, hc, h3⟩ := h.tl q (by simp)
          rw [hb] at hc; cases hc
          exact h2 h3
        · exact htn.1 h2
      · rcases h2 with h2 | h2
        · exact .inl h2
        · exact .inr (by simp [h2])
  · intro v hv
    have := h.ln v hv
    have := hle v
    omega
  · intro x
    rw [hL, h.lm]
    constructor
    · rintro (⟨v, g1, g2, g3, g4⟩ | ⟨g1, g2⟩)
      · exact ⟨v, g1, g2, g3, by have := hle v; omega⟩
      · exact ⟨toN a, ht, g1, hnl, g2⟩
    · rintro ⟨v, g1, g2, g3, g4⟩
      by_cases e : v = toN a
      · subst e; exact .inr ⟨g2, g4⟩
      · left
        refine ⟨v, g1, g2, g3, ?_⟩
        have := cntP_erase hmem hp v
        rw [if_neg (fun e2 => e e2.symm)] at this
        omega
theorem OI.push {p : Nat} {a : ArcT} (h : OI Z N pend P L l (p :: T)) (hp : Z[p]? = some a) (ht : toN a < N) (h0 : atI pend (toN a) = 1) : OI Z N (pend.set (toN a) (atI pend (toN a) - 1)) (P.erase p) (insP (prN (toN a)) L) l T ∧ L.length < N := by
  obtain ⟨hmem, hnl, hat, hnL⟩ := h.mid hp ht
  have hnd : (prN (toN a) :: L).Nodup := List.nodup_cons.2 ⟨hnL, h.ld⟩
  refine ⟨h.step hp ht (fun x => ?_) (((insP_perm _ L).nodup_iff).2 hnd), ?_⟩
  · rw [(insP_perm _ L).mem_iff, List.mem_cons]
    constructor
    · rintro (rfl | hx)
      · exact .inr ⟨rfl, by omega⟩
      · exact .inl hx
    · rintro (hx | ⟨rfl, _⟩)
      · exact .inr hx
      · exact .inl rfl
  · have hn : ((prN (toN a) :: L).map fun x => x.1.toNat).Nodup := by
      rw [List.nodup_iff_pairwise_ne, List.pairwise_map]
      refine (List.nodup_iff_pairwise_ne.1 hnd).imp_of_mem ?_
      intro x y hx hy hne e
      have hx' : ∃ u, x = prN u := by
        rcases List.mem_cons.1 hx with rfl | hx
        · exact ⟨_, rfl⟩
        · obtain ⟨v, _, e, _⟩ := (h.lm x).1 hx; exact ⟨v, e⟩
      have hy' : ∃ u, y = prN u := by
        rcases List.mem_cons.1 hy with rfl | hy
        · exact ⟨_, rfl⟩
        · obtain ⟨v, _, e, _⟩ := (h.lm y).1 hy; exact ⟨v, e⟩
      obtain ⟨u, rfl⟩ := hx'
      obtain ⟨v, rfl⟩ := hy'
      simp only [prN, Int.toNat_natCast] at e
      exact hne (by rw [e])
    have := nodup_le (N := N) hn (by
      intro x hx
      obtain ⟨y, hy, rfl⟩ := List.mem_map.1 hx
      rcases List.mem_cons.1 hy with rfl | hy
      · simpa [prN] using ht
      · obtain ⟨v, g1, e, _⟩ := (h.lm y).1 hy
        subst e
        simpa [prN] using g1)
    simp at this
    omega
theorem orderK_none {Z : List ArcT} {N k : Nat} (h : orderK Z N k = none) : ∀ j, orderK Z N (k + j) = none
  | 0 => h
  | j + 1 => by
    rw [← Nat.add_assoc]
    unfold orderK
    rw [orderK_none h j]
theorem OI.len_le (h : OI Z N pend P L l T) : l.length ≤ N := by
  obtain ⟨o1, o2, o3, _⟩ := orderK_props _ _ h.ord
  exact nodup_le o2 o3
theorem OI.none (h : OI Z N pend P [] l []) (hl : l.length < N) : orderK Z N N = Option.none := by
  have hn : nextN Z N l = Option.none := by
    unfold nextN
    rw [List.find?_eq_none]
    intro v hv hf
    have := (h.free v (by simpa using hv)).2 hf
    cases this
  have h1 : orderK Z N (l.length + 1) = Option.none := by
    unfold orderK
    rw [h.ord]
    simp only
    rw [hn]
  have := orderK_none h1 (N - (l.length + 1))
  rwa [show l.length + 1 + (N - (l.length + 1)) = N by omega] at this
theorem OI.some (h : OI Z N pend P [] l []) (hl : ¬ l.length < N) : orderK Z N N = Option.some l := by
  have h1 := h.len_le
  have h2 : l.length = N := by omega
  have h3 := h.ord
  rwa [h2] at h3
end
end Go.Proofs.Ytlkbohpnlbfopaa
namespace Go.Proofs.Ytlkbohpnlbfopaa
open Go.RowKit
set_option linter.unusedVariables false
end Go.Proofs.Ytlkbohpnlbfopaa
namespace Go.Proofs.Ytlkbohpnlbfopaa
open Go.RowKit
set_option linter.unusedVariables false
def IsPow (R : Nat) : Prop := ∃ k, k ≤ 16 ∧ R = 2 ^ k
theorem IsPow.le {R : Nat} (h : IsPow R) : 1 ≤ R ∧ R ≤ 65536 := by
  obtain ⟨k, hk, rfl⟩ := h
  have h1 : (2 : Nat) ^ k ≤ 2 ^ 16 := Nat.pow_le_pow_right (by omega) hk
  have h2 : 0 < (2 : Nat) ^ k := Nat.pow_pos (by omega)
  omega
theorem Try.infoInt : (Try.prog.info? 3).map (fun i => (i.zero, i.size, i.bytes)) = some (some (.int .i64 0), 1, 8) := by kernel_rfl
end Go.Proofs.Ytlkbohpnlbfopaa
namespace Go.Proofs.Ytlkbohpnlbfopaa
open Go.RowKit
set_option linter.unusedVariables false
theorem ownL_kept {α : Type} {enc : α → Value} {S : Nat → Prop} {w w' : World} {base : Nat} {e : TypeId} {v : Value} {L : List α} (h : OwnL enc w base e v L) (k : Kept S w w') (hn : ∀ g, v.ownBlock = some g → ¬ S g) : OwnL enc w' base e v L := by
  refine ⟨h.1, ?_⟩
  rcases h.2 with h1 | ⟨g', cap, cur, rfl, h2, h3, h4⟩
  · exact .inl h1
  · exact .inr ⟨g', cap, cur, rfl, h2, k.old h3 (hn g' rfl), h4⟩
theorem GRow.at {w : World} {g N : Nat} {f : ArcT → Nat} {Z : List ArcT} (h : GRow w (some ⟨g, 0, none⟩) (lists f Z N)) {v : Nat} (hv : v < N) : ∃ ao cap, g < w.heap.size ∧ w.cell? ⟨g, v, none⟩ = some (.slice ao (places f Z v).length cap) ∧ Lst encI w ao (natI (places f Z v)) := by
  obtain ⟨b, o, ao, cap, e, h1, h2, h3⟩ := h v (by rw [lists_len]; exact hv)
  cases e
  have e : (lists f Z N)[v]'(by rw [lists_len]; exact hv) = places f Z v := by simp [lists]
  rw [e] at h2 h3
  rw [Nat.zero_add] at h2
  exact ⟨ao, cap, h1, h2, h3⟩
theorem arc_at {w : World} {ao : Option Addr} {Z : List ArcT} (h : Row encA 4 w ao Z) {p : Nat} {a : ArcT} (hp : Z[p]? = some a) : ∃ b o, ao = some ⟨b, o, none⟩ ∧ b < w.heap.size ∧
    w.cell? ⟨b, o + p * 4, none⟩ = some (.int .i64 a.1) ∧ w.cell? ⟨b, o + p * 4 + 1, none⟩ = some (.int .i64 a.2.1) ∧ w.cell? ⟨b, o + p * 4 + 2, none⟩ = some (.int .i64 a.2.2.1) ∧ w.cell? ⟨b, o + p * 4 + 3, none⟩ = some (.int .i64 a.2.2.2) := by
  obtain ⟨hi, e⟩ := List.getElem?_eq_some_iff.1 hp
  subst e
  exact h.arc hi
theorem right_arc {n : Int} {b : Bool} {Z : List ArcT} (h : Right (n, b, Z)) {a : ArcT} (ha : a ∈ Z) : a.1 = (frN a : Int) ∧ a.2.1 = (toN a : Int) ∧ frN a < n.toNat ∧ toN a < n.toNat ∧ 0 ≤ tm a ∧ tm a ≤ 1048576 := by
  obtain ⟨h1, h2⟩ := arcE_ok (h.2.2 a ha)
  unfold badEnds at h1
  unfold bigArc at h2
  unfold frN toN tm
  omega
section
variable {w1 wr w2 : World} {gd qb qg N : Nat} {d : List Int} {Q Q' : List Nat}
end
end Go.Proofs.Ytlkbohpnlbfopaa
