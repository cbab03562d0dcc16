/- Rows of one-cell elements of a call's own: read, written, appended to, made; lists of lists of places. -/
import Derived.Test.YtiefphkfddecbaaMNet
import Derived.Maps.OwnSet
namespace Go.Proofs.Ytiefphkfddecbaa
open Go.RowKit
set_option linter.unusedVariables false

section
variable {α : Type} {enc : α → Value}
theorem flat_one (A : List α) : (A.flatMap fun x => [enc x]) = A.map enc := by
  induction A with
  | nil => rfl
  | cons x r ih => rw [List.flatMap_cons, ih]; rfl
/-- A row of a call's own holds these elements. -/
def OwnL (enc : α → Value) (w : World) (base : Nat) (e : TypeId) (v : Value) (L : List α) : Prop := w.ownsRow base e 1 v L.length (L.map enc)
theorem OwnL.nil (w : World) (base : Nat) (e : TypeId) : OwnL enc w base e (.slice none 0 0) [] := World.ownsRow_nil _ _ _ _
theorem OwnL.below {w w' : World} {base : Nat} {e : TypeId} {v : Value} {L : List α} (h : OwnL enc w base e v L) (hb : Below w.heap.size w w') : OwnL enc w' base e v L := own_below h hb
theorem OwnL.alloc {w : World} {base : Nat} {e : TypeId} {v : Value} {L : List α} (h : OwnL enc w base e v L) (o : Obj) : OwnL enc (w.alloc o) base e v L := World.ownsRow.alloc h o
theorem OwnL.mono {w : World} {a b : Nat} {e : TypeId} {v : Value} {L : List α} (h : OwnL enc w b e v L) (hab : a ≤ b) : OwnL enc w a e v L := own_mono h hab
theorem OwnL.lst {w : World} {base : Nat} {e : TypeId} {v : Value} {L : List α} (h : OwnL enc w base e v L) : ∃ ao cap, v = .slice ao L.length cap ∧ Lst enc w ao L := own_lst h
theorem OwnL.lstK {w : World} {base : Nat} {e : TypeId} {ao : Option Addr} {n cap : Nat} {L : List α} (h : OwnL enc w base e (.slice ao n cap) L) : Lst enc w ao L := by
  obtain ⟨ao', cap', e', hl⟩ := own_lst h
  injection e' with h1 h2 h3
  subst h1
  exact hl
theorem OwnL.cell {w : World} {base g n cap : Nat} {e : TypeId} {L : List α} (h : OwnL enc w base e (.slice (some ⟨g, 0, none⟩) n cap) L) {j : Nat} {x : α} (hj : L[j]? = some x) :
    w.cell? ⟨g, j, none⟩ = some (enc x) ∧ w.frozen? ⟨g, j, none⟩ = false := by
  rcases h.2 with ⟨h0, _⟩ | ⟨g', cap', cur, e1, hb, hg, h1, h2, h3, h4⟩
  · cases h0
  · injection e1 with e2 e3 e4
    injection e2 with e2
    have hg' : g' = g := by injection e2 with q; exact q.symm
    subst hg'
    refine ⟨?_, frozen_whole hg j⟩
    have hl : j < L.length := (List.getElem?_eq_some_iff.1 hj).1
    rw [cell_whole hg, ← Array.getElem?_toList]
    have e5 : (cur.toList.take (L.length * 1))[j]? = cur.toList[j]? := List.getElem?_take_of_lt (by omega)
    rw [← e5, h4, List.getElem?_map, hj]; rfl
theorem OwnL.put {w : World} {base g n cap : Nat} {e : TypeId} {L : List α} (h : OwnL enc w base e (.slice (some ⟨g, 0, none⟩) n cap) L) (j : Nat) (y : α) :
    OwnL enc (w.setCell ⟨g, j, none⟩ (enc y)) base e (.slice (some ⟨g, 0, none⟩) n cap) (L.set j y) := by
  refine ⟨by simp, ?_⟩
  rcases h.2 with ⟨h0, _⟩ | ⟨g', cap', cur, e1, hb, hg, h1, h2, h3, h4⟩
  · cases h0
  · injection e1 with e2 e3 e4
    injection e2 with e2
    have hg' : g' = g := by injection e2 with q; exact q.symm
    subst hg'
    subst e4
    refine .inr ⟨g', cap, _, by rw [List.length_set, ← e3], hb, set_whole hg _ _, by rw [List.length_set]; exact h1, h2, by simpa using h3, ?_⟩
    rw [Array.toList_setIfInBounds, List.length_set, List.take_set, h4, List.map_set]
theorem OwnL.some {w : World} {base : Nat} {e : TypeId} {v : Value} {L : List α} (h : OwnL enc w base e v L) (h0 : 0 < L.length) : ∃ g cap, v = .slice (some ⟨g, 0, none⟩) L.length cap ∧ base ≤ g ∧ g < w.heap.size := by
  rcases h.2 with ⟨_, h1⟩ | ⟨g', cap', cur, e1, hb, hg, h1, h2, h3, h4⟩
  · omega
  · exact ⟨g', cap', e1, hb, lt_whole hg⟩
/-- One element is appended. -/
theorem wpList_append_one {t e : TypeId} {bytes : Nat} {z : Value} (ht : Try.prog.underlying t = some (.slice e)) (hinfo : (Try.prog.info? e).map (fun i => (i.zero, i.size, i.bytes)) = some (some z, 1, bytes)) (hzs : z.cells.size = 1) (hby : bytes ≤ 64)
    {w : World} {ops : Array Oper} {rest : List Oper} {o : Oper} {a : Act} {Q : Exit → Act → World → Prop} (hgd : o.guard = none) (s y : Operand)
    (ho : o.op = .call { callee := .builtin .append, args := #[s, y], argTypes := #[t, t] })
    (base : Nat) (v : Value) (A : List α) (x : α) (hone : (enc x).oneCell' = true) (hs : a.eval s = v) (hown : OwnL enc w base e v A)
    (gs : Nat) (c : Nat) (hx : a.eval y = .slice (some ⟨gs, 0, none⟩) 1 c) (hc : w.cell? ⟨gs, 0, none⟩ = some (enc x))
    (hroom : A.length ≤ 200000) (hbase : base ≤ w.heap.size)
    (hK : ∀ g cap w', OwnL enc w' base e (.slice (some ⟨g, 0, none⟩) (A.length + 1) cap) (A ++ [x]) → w.grownBy w' v.ownBlock → (v.ownBlock = some g ∨ g = w.heap.size) → base ≤ g → g < w'.heap.size → wpList Try.prog ops Q rest (a.put o.dst (.slice (some ⟨g, 0, none⟩) (A.length + 1) cap)) w') : wpList Try.prog ops Q (o :: rest) a w := by
  refine wpList_append_row (enc := fun x => [enc x]) ht hinfo hzs (by omega) hby (fun _ => rfl) hgd s y ho base v A x (fun u hu => by rw [List.mem_singleton] at hu; subst hu; exact hone) hs (by rw [flat_one]; exact hown) gs c hx (fun j hj => by obtain rfl : j = 0 := (by omega); exact hc) hroom hbase ?_
  intro g cap w' h1 h2 h3 h4 h5
  rw [flat_one] at h1
  exact hK g cap w' h1 h2 h3 h4 h5
/-- Another row of the call's own stays what it is when a row grows. -/
theorem OwnL.grown {β : Type} {en2 : β → Value} {w w' : World} {base : Nat} {e : TypeId} {v : Value} {L : List β} {row : Option Nat} (h : OwnL en2 w base e v L) (hg : w.grownBy w' row) (hne : v.ownBlock = none ∨ v.ownBlock ≠ row) : OwnL en2 w' base e v L := by
  refine ⟨h.1, ?_⟩
  rcases h.2 with h1 | ⟨g', cap, cur, rfl, h2, h3, h4⟩
  · exact .inl h1
  · refine .inr ⟨g', cap, cur, rfl, h2, (hg.block g' (lt_whole h3) (fun e => ?_)).trans h3, h4⟩
    rcases hne with hn | hn
    · simp [Value.ownBlock] at hn
    · exact hn (by simp [Value.ownBlock, e])
end
theorem made_one (z : Value) (hz : z.cells = #[z]) (n : Nat) : (madeCells z.cells (n * 1)).toList = (List.replicate n z) := by
  apply List.ext_getElem?
  intro i
  rw [List.getElem?_replicate]
  by_cases h : i < n
  · rw [if_pos h]; simp [madeCells, h, Nat.mod_one, hz]
  · rw [if_neg h, List.getElem?_eq_none (by simp [madeCells]; omega)]
/-- A row of so many zero values is made. -/
theorem wpList_make_L {α : Type} {enc : α → Value} {t e : TypeId} {bytes : Nat} (z : α) (ht : Try.prog.underlying t = some (.slice e)) (hinfo : (Try.prog.info? e).map (fun i => (i.zero, i.size, i.bytes)) = some (some (enc z), 1, bytes)) (hz : (enc z).cells = #[enc z]) (hby : bytes ≤ 64)
    {w : World} {ops : Array Oper} {rest : List Oper} {o : Oper} {a : Act} {Q : Exit → Act → World → Prop} (hgd : o.guard = none) (l c : Operand) (hop : o.op = Op.makeSlice t l c)
    (n : Nat) (hl : a.eval l = .int .i64 (n : Int)) (hc : a.eval c = .int .i64 (n : Int)) (hn : n ≤ 200000)
    (hK : ∀ w', OwnL enc w' w.heap.size e (.slice (some ⟨w.heap.size, 0, none⟩) n n) (List.replicate n z) → Below w.heap.size w w' → wpList Try.prog ops Q rest (a.put o.dst (.slice (some ⟨w.heap.size, 0, none⟩) n n)) w') : wpList Try.prog ops Q (o :: rest) a w := by
  obtain ⟨i0, hi, hz0, hz1, hz2⟩ := info_parts hinfo
  refine wpList_make_full w hgd l c t hop w.heap.size e i0 (enc z) 1 ht hi hz0 hz1 .i64 .i64 (n : Int) (n : Int) n hl hc rfl rfl ?_ (by unfold maxLen; omega) (Nat.le_refl _) ?_
  · rw [hz2]
    have : bytes * n ≤ 64 * 200000 := Nat.mul_le_mul hby hn
    omega
  · intro w' h1 h2
    refine hK w' ?_ ((Below.refl _ w).grown h2 (Nat.le_refl _) (fun k hk => by cases hk))
    unfold OwnL
    rw [List.length_replicate, List.map_replicate, ← made_one (enc z) hz]
    exact h1
/-! Lists of lists of places -/
def natI (L : List Nat) : List Int := L.map fun (n : Nat) => (n : Int)
theorem natI_len (L : List Nat) : (natI L).length = L.length := by simp [natI]
theorem natI_snoc (L : List Nat) (t : Nat) : natI (L ++ [t]) = natI L ++ [(t : Int)] := by simp [natI]
def encV (v : Value) : Value := v
/-- The places of a slice of slices hold these rows of places. -/
def GRow (w : World) (ga : Option Addr) (G : List (List Nat)) : Prop := ∀ i (hi : i < G.length), ∃ b o ao cap, ga = some ⟨b, o, none⟩ ∧ b < w.heap.size ∧ w.cell? ⟨b, o + i, none⟩ = some (.slice ao G[i].length cap) ∧ Lst encI w ao (natI G[i])
theorem GRow.below {w w' : World} {ga : Option Addr} {G : List (List Nat)} (h : GRow w ga G) (hb : Below w.heap.size w w') : GRow w' ga G := by
  intro i hi
  obtain ⟨b, o, ao, cap, e, h1, h2, h3⟩ := h i hi
  exact ⟨b, o, ao, cap, e, Nat.lt_of_lt_of_le h1 hb.size, by rw [hb.cell h1]; exact h2, h3.below hb⟩
theorem GRow.nil (w : World) (ga : Option Addr) : GRow w ga [] := fun i hi => absurd hi (by simp)
theorem Lst.lt {α : Type} {enc : α → Value} {w : World} {ao : Option Addr} {A : List α} (h : Lst enc w ao A) : ∀ ad, ao = some ad → 0 < A.length → ad.block < w.heap.size := by
  intro ad e h0
  obtain ⟨b, o, e', hb, _⟩ := h 0 h0
  rw [e] at e'; cases e'; exact hb
theorem Lst.grown {α : Type} {enc : α → Value} {w w' : World} {row : Option Nat} {ao : Option Addr} {A : List α} (h : Lst enc w ao A) (hg : w.grownBy w' row) (hn : ∀ ad, ao = some ad → 0 < A.length → some ad.block ≠ row) : Lst enc w' ao A := by
  intro i hi
  obtain ⟨b, o, h1, h2, h3⟩ := h i hi
  exact ⟨b, o, h1, Nat.lt_of_lt_of_le h2 hg.size, (cell_of_block (hg.block b h2 (hn _ h1 (by omega)))).trans h3⟩
/-- Rows of places, each written once, in a row of the call's own. -/
def RG (w0 w : World) (ov : Value) (G : List (List Nat)) : Prop := ∃ vs : List Value, OwnL encV w w0.heap.size 25 ov vs ∧ vs.length = G.length ∧
  ∀ i (hi : i < G.length), ∃ ao cap, vs[i]? = some (.slice ao G[i].length cap) ∧ Lst encI w ao (natI G[i]) ∧ ∀ ad, ao = some ad → 0 < G[i].length → some ad.block ≠ ov.ownBlock
theorem RG.start (w : World) : RG w w (.slice none 0 0) [] := ⟨[], OwnL.nil _ _ _, rfl, fun i hi => absurd hi (by simp)⟩
theorem RG.below {w0 w w' : World} {ov : Value} {G : List (List Nat)} (h : RG w0 w ov G) (hb : Below w.heap.size w w') : RG w0 w' ov G := by
  obtain ⟨vs, h1, h2, h3⟩ := h
  refine ⟨vs, h1.below hb, h2, fun i hi => ?_⟩
  obtain ⟨ao, cap, e1, e2, e3⟩ := h3 i hi
  exact ⟨ao, cap, e1, e2.below hb, e3⟩
theorem RG.push {w0 w w' : World} {ov : Value} {G : List (List Nat)} {vs : List Value} (h2 : vs.length = G.length)
    (h3 : ∀ i (hi : i < G.length), ∃ ao cap, vs[i]? = some (.slice ao G[i].length cap) ∧ Lst encI w ao (natI G[i]) ∧ ∀ ad, ao = some ad → 0 < G[i].length → some ad.block ≠ ov.ownBlock)
    {a : Option Addr} {g : List Nat} {c : Nat} (hr : Lst encI w a (natI g)) (hn : ∀ ad, a = some ad → 0 < g.length → some ad.block ≠ ov.ownBlock) {gg n cap : Nat}
    (ho : OwnL encV w' w0.heap.size 25 (.slice (some ⟨gg, 0, none⟩) n cap) (vs ++ [Value.slice a g.length c])) (hg : w.grownBy w' ov.ownBlock) (hl : ov.ownBlock = some gg ∨ gg = w.heap.size) :
    RG w0 w' (.slice (some ⟨gg, 0, none⟩) n cap) (G ++ [g]) := by
  have fresh : ∀ (ao : Option Addr) (l : List Nat), Lst encI w ao (natI l) → (∀ ad, ao = some ad → 0 < l.length → some ad.block ≠ ov.ownBlock) → ∀ ad, ao = some ad → 0 < l.length → some ad.block ≠ (Value.slice (some ⟨gg, 0, none⟩) n cap).ownBlock := by
    intro ao l hrow hne ad e h0 e2
    have e3 : ad.block = gg := by simpa [Value.ownBlock] using e2
    rcases hl with hl | hl
    · exact hne ad e h0 (by rw [hl, e3])
    · have := hrow.lt ad e (by rw [natI_len]; exact h0)
      omega
  refine ⟨_, ho, by simp [h2], fun i hi => ?_⟩
  by_cases hi' : i < G.length
  · obtain ⟨ao, cp, e1, e2, e3⟩ := h3 i hi'
    have eG : (G ++ [g])[i] = G[i] := List.getElem_append_left hi'
    rw [eG]
    exact ⟨ao, cp, by rw [List.getElem?_append_left (by omega)]; exact e1, e2.grown hg (fun ad e h0 => e3 ad e (by rwa [natI_len] at h0)), fresh ao _ e2 e3⟩
  · have hie : i = G.length := by simp at hi; omega
    subst hie
    have eG : (G ++ [g])[G.length] = g := by simp
    rw [eG]
    exact ⟨a, c, by rw [← h2]; simp, hr.grown hg (fun ad e h0 => hn ad e (by rwa [natI_len] at h0)), fresh a _ hr hn⟩
theorem RG.row {w0 w : World} {ov : Value} {G : List (List Nat)} (h : RG w0 w ov G) : ∃ ga cap, ov = .slice ga G.length cap ∧ GRow w ga G := by
  obtain ⟨vs, h1, h2, h3⟩ := h
  obtain ⟨ga, cap, e, hr⟩ := h1.lst
  refine ⟨ga, cap, by rw [e, h2], fun i hi => ?_⟩
  obtain ⟨b, o, e1, hb, hc⟩ := hr i (by omega)
  obtain ⟨ao, cp, e2, e3, _⟩ := h3 i hi
  refine ⟨b, o, ao, cp, e1, hb, ?_, e3⟩
  rw [hc]
  have : vs[i] = .slice ao G[i].length cp := (List.getElem?_eq_some_iff.1 e2).2
  rw [this]; rfl
theorem RG.lt {w0 w : World} {ov : Value} {G : List (List Nat)} (h : RG w0 w ov G) : ∀ g, ov.ownBlock = some g → g < w.heap.size := by
  obtain ⟨vs, h1, _⟩ := h
  exact fun g e => own_lt h1 e
end Go.Proofs.Ytiefphkfddecbaa
