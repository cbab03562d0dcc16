/- Lemmas of the layers below, several texts in one. -/
import Derived.Test.YtlkbohpnlbfopaaGreatBB
import Derived.Test.YtlkbohpnlbfopaaGreatBC
import Derived.Test.YtlkbohpnlbfopaaGreatBD
import Derived.Test.YtlkbohpnlbfopaaGreatBE
import Derived.Test.YtlkbohpnlbfopaaGreatAFrame
import Derived.WalkKit
import Derived.Laws.BitsLemmas
import Derived.Laws.BitsAllLaws
import Derived.Laws.Bits128
import Derived.Below
import Derived.Deep.Draws
import Derived.Lib.Hide
import Derived.Maps.AppendAt
import Derived.Test.YtlkbohpnlbfopaaGreatRows
import Derived.Maps.OwnSet
import Derived.DeepKeys4
import Derived.WideKeyPair
import Derived.LoopTactic
namespace Go.Proofs.YtlkbohpnlbfopaaGreat
open Go.RowKit
def wr (x : Int) : Int := if 9223372036854775807 < x then 1 else if x < -9223372036854775808 then -1 else 0
end Go.Proofs.YtlkbohpnlbfopaaGreat
namespace Go.Proofs.YtlkbohpnlbfopaaGreat
open Go.RowKit
end Go.Proofs.YtlkbohpnlbfopaaGreat
namespace Go.Proofs.YtlkbohpnlbfopaaGreat
open Go.RowKit Go.Maps
set_option linter.unusedVariables false
theorem wf_of_in64 {x : Int} (h : in64 x) : (Lit.int .i64 x).wf = true := by
  unfold in64 at h
  simp only [Lit.wf, IntKind.min, IntKind.max, IntKind.signed, IntKind.bits, Bool.and_eq_true, decide_eq_true_eq, if_true]
  omega
theorem laidOut0 : laidOutB Tryz.prog = true := by kernel_rfl
theorem lawSlot : Keyed Tryz.prog 59 := Keyed.of_law (deep_law_laid laidOut0 (m := 3) (by omega) (of_decide_eq_true (by kernel_rfl)) (by kernel_rfl) (by kernel_rfl))
theorem cellsSlot : Tryz.prog.cellsOf 59 = 2 := by kernel_rfl
theorem ktSlot : Tryz.prog.keyType 59 = true := by kernel_rfl
theorem tySize : ∃ m, Tryz.prog.types.size = m + 1 := Nat.exists_eq_add_one_of_ne_zero (of_decide_eq_true (by kernel_rfl))
def encPQ (x : Int × Int) : List Value := [.int .i64 x.1, .int .i64 x.2]
def encK (x : Int × Int × Int) : List Value := [.int .i64 x.1, .int .i64 x.2.1, .int .i64 x.2.2]
def okP (x : Int × Int) : Prop := in64 x.1 ∧ in64 x.2
theorem keyOf_slot {x : Int × Int} (h : okP x) : ∃ kl, keyOf Tryz.prog 59 (.agg (encPQ x).toArray) = some kl := by
  obtain ⟨a, b⟩ := x
  obtain ⟨ha, hb⟩ := h
  have wa := wf_of_in64 ha
  have wb := wf_of_in64 hb
  obtain ⟨m, hm⟩ := tySize
  refine ⟨.string (keyBytes [.int .i64 a, .int .i64 b]), ?_⟩
  unfold keyOf
  simp only [Tryz.underlying59]
  rw [if_pos (by simp [ktSlot, Value.formed, Tryz.underlying59, cellsSlot, encPQ]), hm]
  unfold Program.keyLits
  simp only [Tryz.underlying59, Value.cells]
  rw [if_pos (by rw [cellsSlot]; exact ⟨rfl, by simp⟩)]
  simp [encPQ, cellsInt, Program.keyLits, Tryz.underlying3, wa, wb]
end Go.Proofs.YtlkbohpnlbfopaaGreat
namespace Go.Proofs.YtlkbohpnlbfopaaGreat
open Go.RowKit Go.Maps
set_option linter.unusedVariables false
section
variable {α : Type} {k t : TypeId} {enc : α → List Value}
def MapIs (k : TypeId) (enc : α → List Value) (w : World) (b : Nat) (keys : List α) : Prop :=
  ∃ (n : Nat) (D : DataW Unit), n ≤ keys.length ∧ w.ownsMap Tryz.prog k (plainElem Tryz.prog 3) b n D ∧
    ∀ x kl, keyOf Tryz.prog k (.agg (enc x).toArray) = some kl → (x ∈ keys → Maps.has D kl = true ∧ ∃ j : Nat, keys[j]? = some x ∧ D.atKey kl (.lit (.int .i64 0)) = .lit (.int .i64 j)) ∧ (x ∉ keys → Maps.has D kl = false)
theorem MapIs.made (w : World) : MapIs k enc (w.alloc (.map #[] 0)) w.heap.size ([] : List α) :=
  ⟨0, .map [], Nat.le_refl _, World.ownsMap_made _ _ _ _, fun x kl h => ⟨fun h => by simp at h, fun _ => rfl⟩⟩
theorem MapIs.kept {w w' : World} {b : Nat} {keys : List α} {row : Option Nat} (h : MapIs k enc w b keys) (hg : w.grownBy w' row) (hne : some b ≠ row) : MapIs k enc w' b keys := by
  obtain ⟨n, D, hn, hm, hx⟩ := h
  exact ⟨n, D, hn, hm.kept hg hne, hx⟩
theorem MapIs.below {w w' : World} {b B : Nat} {keys : List α} (h : MapIs k enc w b keys) (hg : Below B w w') (hb : b < B) : MapIs k enc w' b keys := by
  obtain ⟨n, D, hn, ⟨es, clock, h1, h2⟩, hx⟩ := h
  exact ⟨n, D, hn, ⟨es, clock, (hg.block b hb).trans h1, h2⟩, hx⟩
theorem MapIs.lt {w : World} {b : Nat} {keys : List α} (h : MapIs k enc w b keys) : b < w.heap.size := by
  obtain ⟨n, D, hn, hm, hx⟩ := h
  exact hm.lt
end
end Go.Proofs.YtlkbohpnlbfopaaGreat
namespace Go.Proofs.YtlkbohpnlbfopaaGreat
set_option linter.unusedVariables false
section
variable {α : Type} [DecidableEq α]
end
end Go.Proofs.YtlkbohpnlbfopaaGreat
namespace Go.Proofs.YtlkbohpnlbfopaaGreat
open Go.RowKit
set_option linter.unusedVariables false
def In64Q (zs : List Int) : Prop := ∀ z ∈ zs, -9223372036854775808 ≤ z ∧ z ≤ 9223372036854775807
theorem In64Q.at {zs : List Int} (h : In64Q zs) {i : Nat} (hi : i < zs.length) : -9223372036854775808 ≤ zs.getD i 0 ∧ zs.getD i 0 ≤ 9223372036854775807 := by
  rw [List.getD_eq_getElem?_getD, List.getElem?_eq_getElem hi]
  exact h _ (List.getElem_mem hi)
end Go.Proofs.YtlkbohpnlbfopaaGreat
namespace Go.Proofs.YtlkbohpnlbfopaaGreat
open Go.RowKit
set_option linter.unusedVariables false
section
variable {α : Type} {enc : α → List Value} {k : Nat}
theorem own_rowQ (hk : ∀ x, (enc x).length = k) {w : World} {base : Nat} {e : TypeId} {v : Value} {A : List α} (h : w.ownsRow base e k v A.length (A.flatMap enc)) :
    ∃ ao cap, v = .slice ao A.length cap ∧ Row enc k w ao A ∧ ∀ ad, ao = some ad → ad = ⟨ad.block, 0, none⟩ ∧ base ≤ ad.block ∧ ad.block < w.heap.size := by
  rcases h.2 with ⟨rfl, h0⟩ | ⟨g, cap, cur, rfl, hb, hg, h1, h2, h3, h4⟩
  · refine ⟨none, 0, by rw [h0], ?_, fun ad e => by cases e⟩
    have : A = [] := List.eq_nil_of_length_eq_zero h0
    subst this; exact Row.nil _ _
  · refine ⟨_, cap, rfl, fun i hi => ⟨g, 0, rfl, lt_whole hg, fun j hj => ?_⟩, fun ad e => by cases e; exact ⟨rfl, hb, lt_whole hg⟩⟩
    have hlt : i * k + j < A.length * k := by
      have : (i + 1) * k ≤ A.length * k := Nat.mul_le_mul_right _ hi
      rw [Nat.add_mul] at this; omega
    rw [cell_whole hg, Nat.zero_add, ← Array.getElem?_toList]
    have e1 : (cur.toList.take (A.length * k))[i * k + j]? = cur.toList[i * k + j]? := List.getElem?_take_of_lt hlt
    rw [← e1, h4, flat_get hk A i j hj, List.getElem?_eq_getElem hi]; rfl
end
def encIQ (z : Int) : List Value := [.int .i64 z]
theorem encP_lenQ (z : Int × Int) : (encPQ z).length = 2 := rfl
theorem encP_oneQ (z : Int × Int) : ∀ u ∈ encPQ z, u.oneCell' = true := by intro u hu; simp [encPQ] at hu; rcases hu with rfl | rfl <;> rfl
theorem infoSlot : (Tryz.prog.info? 59).map (fun i => (i.zero, i.size, i.bytes)) = some (some (.agg #[.int .i64 0, .int .i64 0]), 2, 16) := by kernel_rfl
end Go.Proofs.YtlkbohpnlbfopaaGreat
namespace Go.Proofs.YtlkbohpnlbfopaaGreat
open Go.RowKit
set_option linter.unusedVariables false
def encVQ (v : Value) : List Value := [v]
theorem encV_flat (vs : List Value) : vs.flatMap encVQ = vs := by induction vs with | nil => rfl | cons v vs ih => rw [List.flatMap_cons, ih]; rfl
theorem grown_of_below {w w' : World} (h : Below w.heap.size w w') (row : Option Nat) : w.grownBy w' row := ⟨h.os, h.tape, h.output, h.size, fun i hi _ => h.block i hi⟩
theorem below_of_grown {w0 w w' : World} {row : Option Nat} (h : Below w0.heap.size w0 w) (hg : w.grownBy w' row) (hr : ∀ g, row = some g → w0.heap.size ≤ g) : Below w0.heap.size w0 w' :=
  h.grown hg h.size hr
section
variable {α : Type} {kt : TypeId} {enc : α → List Value} {k : Nat} {w0 w w' : World} {B : Nat} {ks gs : Value} {mk keys : List α} {G : List (List Nat)} {vs : List Value} {own : Nat → Nat}
structure GIx (kt : TypeId) (enc : α → List Value) (k : Nat) (w0 w : World) (B : Nat) (ks gs : Value) (mk keys : List α) (G : List (List Nat)) (vs : List Value) (own : Nat → Nat) : Prop where
  below : Below w0.heap.size w0 w
  bB : w0.heap.size ≤ B
  map : MapIs kt enc w B mk
  kr : w.ownsRow w0.heap.size kt k ks keys.length (keys.flatMap enc)
  gr : w.ownsRow w0.heap.size 51 1 gs vs.length (vs.flatMap encVQ)
  len : vs.length = G.length
  inn : ∀ i, i < G.length → w.ownsRow w0.heap.size 3 1 (vs.getD i nilS) (natI (G.getD i [])).length ((natI (G.getD i [])).flatMap encIQ)
  oB : own B = 0
  ok : ∀ g, ks.ownBlock = some g → own g = 1
  og : ∀ g, gs.ownBlock = some g → own g = 2
  oi : ∀ i g, i < G.length → (vs.getD i nilS).ownBlock = some g → own g = i + 3
theorem GIx.start (w : World) : ∃ vs own, GIx kt enc k w (w.alloc (.map #[] 0)) w.heap.size (.slice none 0 0) (.slice none 0 0) ([] : List α) [] [] vs own :=
  ⟨[], fun i => if i = w.heap.size then 0 else 1, (Below.refl _ w).alloc (Nat.le_refl _) _, Nat.le_refl _, MapIs.made w, World.ownsRow_nil _ _ _ _, World.ownsRow_nil _ _ _ _, rfl, (fun i hi => absurd hi (by simp)), if_pos rfl, (fun g e => by cases e), (fun g e => by cases e), (fun i g hi => absurd hi (by simp))⟩
theorem GIx.kept (h : GIx kt enc k w0 w B ks gs mk keys G vs own) {row : Option Nat} (hg : w.grownBy w' row) (hr : ∀ g, row = some g → w.heap.size ≤ g) : GIx kt enc k w0 w' B ks gs mk keys G vs own := by
  have nb : ∀ v e kk n xs, w.ownsRow w0.heap.size e kk v n xs → v.ownBlock = none ∨ v.ownBlock ≠ row := by
    intro v e kk n xs hv
    cases hb : v.ownBlock with
    | none => exact .inl rfl
    | some g =>
      right
      rintro rfl
      have := (hv.lt g hb).2
      have := hr g rfl
      omega
  refine ⟨below_of_grown h.below hg (fun g e => Nat.le_trans h.below.size (hr g e)), h.bB, h.map.kept hg ?_, h.kr.kept hg (nb _ _ _ _ _ h.kr), h.gr.kept hg (nb _ _ _ _ _ h.gr), h.len, fun i hi => (h.inn i hi).kept hg (nb _ _ _ _ _ (h.inn i hi)), h.oB, h.ok, h.og, h.oi⟩
  rintro rfl
  have := hr B rfl
  have := h.map.lt
  omega
theorem GIx.step (h : GIx kt enc k w0 w B ks gs mk keys G vs own) (hb : Below w.heap.size w w') : GIx kt enc k w0 w' B ks gs mk keys G vs own :=
  h.kept (grown_of_below hb none) (fun g e => by cases e)
theorem GIx.store (h : GIx kt enc k w0 w B ks gs mk keys G vs own) {mk' : List α} (hm : MapIs kt enc w' B mk') (hg : w.grownBy w' (some B)) : GIx kt enc k w0 w' B ks gs mk' keys G vs own := by
  have hr : ∀ g, some B = some g → own g = 0 := fun g e => by cases e; exact h.oB
  exact ⟨below_of_grown h.below hg (fun g e => by cases e; exact h.bB), h.bB, hm, h.kr.kept hg (ne_row h.ok hr (by omega)), h.gr.kept hg (ne_row h.og hr (by omega)), h.len, fun i hi => (h.inn i hi).kept hg (ne_row (fun g e => h.oi i g hi e) hr (by omega)), h.oB, h.ok, h.og, h.oi⟩
theorem GIx.lts (h : GIx kt enc k w0 w B ks gs mk keys G vs own) : B < w.heap.size ∧ (∀ g, ks.ownBlock = some g → g < w.heap.size) ∧ (∀ g, gs.ownBlock = some g → g < w.heap.size) ∧ ∀ i g, i < G.length → (vs.getD i nilS).ownBlock = some g → g < w.heap.size :=
  ⟨h.map.lt, fun g e => (h.kr.lt g e).2, fun g e => (h.gr.lt g e).2, fun i g hi e => ((h.inn i hi).lt g e).2⟩
theorem GIx.reown (h : GIx kt enc k w0 w B ks gs mk keys G vs own) (r : Nat) : GIx kt enc k w0 w B ks gs mk keys G vs (ownSet own w.heap.size r) := by
  obtain ⟨l0, l1, l2, l3⟩ := h.lts
  exact { h with
    oB := ownSet_old h.oB (by omega)
    ok := fun g e => ownSet_old (h.ok g e) (by have := l1 g e; omega)
    og := fun g e => ownSet_old (h.og g e) (by have := l2 g e; omega)
    oi := fun i g hi e => ownSet_old (h.oi i g hi e) (by have := l3 i g hi e; omega) }
theorem GIx.key (h : GIx kt enc k w0 w B ks gs mk keys G vs own) {g cap : Nat} {keys' : List α} {n : Nat} (hk : w'.ownsRow w0.heap.size kt k (.slice (some ⟨g, 0, none⟩) n cap) keys'.length (keys'.flatMap enc)) (hg : w.grownBy w' ks.ownBlock) (hl : ks.ownBlock = some g ∨ g = w.heap.size) (hb : w0.heap.size ≤ g) :
    ∃ own', GIx kt enc k w0 w' B (.slice (some ⟨g, 0, none⟩) n cap) gs mk keys' G vs own' := by
  have main : ∀ own', GIx kt enc k w0 w B ks gs mk keys G vs own' → own' g = 1 → GIx kt enc k w0 w' B (.slice (some ⟨g, 0, none⟩) n cap) gs mk keys' G vs own' := by
    intro own' h h1
    refine ⟨below_of_grown h.below hg (fun g e => (h.kr.lt g e).1), h.bB, h.map.kept hg ?_, hk, h.gr.kept hg (ne_row h.og h.ok (by omega)), h.len, fun i hi => (h.inn i hi).kept hg (ne_row (fun g e => h.oi i g hi e) h.ok (by omega)), h.oB, ?_, h.og, h.oi⟩
    · intro e
      have := h.ok B e.symm
      have := h.oB
      omega
    · intro g' e
      simp [Value.ownBlock] at e
      subst e; exact h1
  rcases hl with hl | rfl
  · exact ⟨own, main own h (h.ok g hl)⟩
  · exact ⟨_, main _ (h.reown 1) (ownSet_new _ _ _)⟩
theorem GIx.slot (h : GIx kt enc k w0 w B ks gs mk keys G vs own) {j : Nat} (hj : j < G.length) : ∃ g cap, gs = .slice (some ⟨g, 0, none⟩) G.length cap ∧ w.cell? ⟨g, j, none⟩ = some (vs.getD j nilS) ∧ w.frozen? ⟨g, j, none⟩ = false ∧ w0.heap.size ≤ g ∧ g < w.heap.size := by
  have hl := h.len
  rcases h.gr.2 with ⟨_, h0⟩ | ⟨g, cap, cur, e, hb, hg, h1, h2, h3, h4⟩
  · omega
  · refine ⟨g, cap, by rw [e, hl], ?_, frozen_whole hg j, hb, lt_whole hg⟩
    rw [cell_whole hg, ← Array.getElem?_toList]
    have e1 : (cur.toList.take (vs.length * 1))[j]? = cur.toList[j]? := List.getElem?_take_of_lt (by omega)
    rw [← e1, h4, encV_flat, List.getD_eq_getElem?_getD, List.getElem?_eq_getElem (by omega)]; rfl
theorem GIx.cell (h : GIx kt enc k w0 w B ks gs mk keys G vs own) {j g nn cap : Nat} (hj : j < G.length) (hgs : gs = .slice (some ⟨g, 0, none⟩) nn cap) : w.cell? ⟨g, j, none⟩ = some (vs.getD j nilS) ∧ w.frozen? ⟨g, j, none⟩ = false ∧ nn = G.length ∧ g < w.heap.size := by
  obtain ⟨g1, cap1, e1, h1, h2, _, h3⟩ := h.slot hj
  rw [hgs] at e1
  cases e1
  exact ⟨h1, h2, rfl, h3⟩
theorem own_setQ {w : World} {base g n cap j : Nat} {e : TypeId} {vs : List Value} (h : w.ownsRow base e 1 (.slice (some ⟨g, 0, none⟩) n cap) vs.length (vs.flatMap encVQ)) (v : Value) : (w.setCell ⟨g, j, none⟩ v).ownsRow base e 1 (.slice (some ⟨g, 0, none⟩) n cap) (vs.set j v).length ((vs.set j v).flatMap encVQ) := by
  rw [encV_flat] at h ⊢
  rw [List.length_set]
  refine ⟨by simp, ?_⟩
  rcases h.2 with ⟨h0, _⟩ | ⟨g', cap', cur, e1, hb, hg, h1, h2, h3, h4⟩
  · cases h0
  · cases e1
    refine .inr ⟨g, cap, _, rfl, hb, set_whole hg j v, h1, h2, by simpa using h3, ?_⟩
    rw [Array.toList_setIfInBounds, List.take_set, h4]
theorem GIx.add (h : GIx kt enc k w0 w B ks gs mk keys G vs own) {j : Nat} (hj : j < G.length) {g nn cap : Nat} (hgs : gs = .slice (some ⟨g, 0, none⟩) nn cap) {p n c t : Nat}
    (hk : w'.ownsRow w0.heap.size 3 1 (.slice (some ⟨p, 0, none⟩) n c) (natI (G.getD j [] ++ [t])).length ((natI (G.getD j [] ++ [t])).flatMap encIQ)) (hg : w.grownBy w' (vs.getD j nilS).ownBlock) (hl : (vs.getD j nilS).ownBlock = some p ∨ p = w.heap.size) (hb : w0.heap.size ≤ p) :
    w'.cell? ⟨g, j, none⟩ = some (vs.getD j nilS) ∧ w'.frozen? ⟨g, j, none⟩ = false ∧ ∃ own', GIx kt enc k w0 (w'.setCell ⟨g, j, none⟩ (.slice (some ⟨p, 0, none⟩) n c)) B ks gs mk keys (G.set j (G.getD j [] ++ [t])) (vs.set j (.slice (some ⟨p, 0, none⟩) n c)) own' := by
  obtain rfl := (h.cell hj hgs).2.2.1
  subst hgs
  have hgo : ∀ own', GIx kt enc k w0 w B ks (.slice (some ⟨g, 0, none⟩) G.length cap) mk keys G vs own' → own' g = 2 := fun own' h => h.og g rfl
  have hjo : ∀ own', GIx kt enc k w0 w B ks (.slice (some ⟨g, 0, none⟩) G.length cap) mk keys G vs own' → ∀ i, (vs.getD j nilS).ownBlock = some i → own' i = j + 3 := fun own' h i e => h.oi j i hj e
  have hgr' := h.gr.kept hg (ne_row h.og (hjo _ h) (by omega))
  have hlen := h.len
  obtain ⟨g1, cap1, e1, hc, hf, _, hlt⟩ := h.slot hj
  cases e1
  have hne : some g ≠ (vs.getD j nilS).ownBlock := by
    intro e
    have a := hjo _ h g e.symm
    have b := hgo _ h
    omega
  have hcell : w'.cell? ⟨g, j, none⟩ = some (vs.getD j nilS) := hg.cell hc hne
  have hfro : w'.frozen? ⟨g, j, none⟩ = false := by
    rw [World.frozen?_of_block (hg.block g hlt hne)]; exact hf
  refine ⟨hcell, hfro, ?_⟩
  have main : ∀ own', GIx kt enc k w0 w B ks (.slice (some ⟨g, 0, none⟩) G.length cap) mk keys G vs own' → own' p = j + 3 → GIx kt enc k w0 (w'.setCell ⟨g, j, none⟩ (.slice (some ⟨p, 0, none⟩) n c)) B ks (.slice (some ⟨g, 0, none⟩) G.length cap) mk keys (G.set j (G.getD j [] ++ [t])) (vs.set j (.slice (some ⟨p, 0, none⟩) n c)) own' := by
    intro own' h hp
    have sg : w'.grownBy (w'.setCell ⟨g, j, none⟩ (.slice (some ⟨p, 0, none⟩) n c)) (some g) := ⟨rfl, rfl, rfl, by simp [World.setCell], fun i hi hne => Below.heap_setCell w' _ _ i (fun e => hne (by rw [e]))⟩
    have o2 : ∀ i, some g = some i → own' i = 2 := fun i e => by cases e; exact hgo _ h
    refine ⟨below_of_grown (below_of_grown h.below hg (fun i e => ((h.inn j hj).lt i e).1)) sg (fun i e => by cases e; exact (h.gr.lt g rfl).1), h.bB, (h.map.kept hg ?_).kept sg ?_, (h.kr.kept hg (ne_row h.ok (hjo _ h) (by omega))).kept sg (ne_row h.ok o2 (by omega)), ?_, by simp [hlen], ?_, h.oB, h.ok, h.og, ?_⟩
    · intro e
      have a := hjo _ h B e.symm
      have b := h.oB
      omega
    · intro e
      have a := o2 B e.symm
      have b := h.oB
      omega
    · exact own_setQ hgr' _
    · intro i hi
      rw [List.length_set] at hi
      by_cases hij : i = j
      · subst hij
        have e1 : (G.set i (G.getD i [] ++ [t])).getD i [] = G.getD i [] ++ [t] := by rw [List.getD_eq_getElem?_getD, List.getElem?_set_self hj]; rfl
        have e2 : (vs.set i (.slice (some ⟨p, 0, none⟩) n c)).getD i nilS = .slice (some ⟨p, 0, none⟩) n c := by rw [List.getD_eq_getElem?_getD, List.getElem?_set_self (by omega)]; rfl
        rw [e1, e2]
        refine hk.kept sg (ne_row (a := i + 3) (fun i' e => ?_) o2 (by omega))
        simp [Value.ownBlock] at e
        subst e; exact hp
      · have e1 : (G.set j (G.getD j [] ++ [t])).getD i [] = G.getD i [] := by rw [List.getD_eq_getElem?_getD, List.getElem?_set_ne (fun e => hij e.symm), ← List.getD_eq_getElem?_getD]
        have e2 : (vs.set j (.slice (some ⟨p, 0, none⟩) n c)).getD i nilS = vs.getD i nilS := by rw [List.getD_eq_getElem?_getD, List.getElem?_set_ne (fun e => hij e.symm), ← List.getD_eq_getElem?_getD]
        rw [e1, e2]
        exact ((h.inn i hi).kept hg (ne_row (fun i' e => h.oi i i' hi e) (hjo _ h) (by omega))).kept sg (ne_row (fun i' e => h.oi i i' hi e) o2 (by omega))
    · intro i i' hi e
      rw [List.length_set] at hi
      by_cases hij : i = j
      · subst hij
        have e2 : (vs.set i (.slice (some ⟨p, 0, none⟩) n c)).getD i nilS = .slice (some ⟨p, 0, none⟩) n c := by rw [List.getD_eq_getElem?_getD, List.getElem?_set_self (by omega)]; rfl
        rw [e2] at e
        simp [Value.ownBlock] at e
        subst e; exact hp
      · have e2 : (vs.set j (.slice (some ⟨p, 0, none⟩) n c)).getD i nilS = vs.getD i nilS := by rw [List.getD_eq_getElem?_getD, List.getElem?_set_ne (fun e => hij e.symm), ← List.getD_eq_getElem?_getD]
        rw [e2] at e
        exact h.oi i i' hi e
  rcases hl with hl | rfl
  · exact ⟨own, main own h (h.oi j p hj hl)⟩
  · exact ⟨_, main _ (h.reown (j + 3)) (ownSet_new _ _ _)⟩
end
end Go.Proofs.YtlkbohpnlbfopaaGreat
