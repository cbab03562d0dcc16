/- Lemmas of the layers below, several texts in one. -/
import Derived.Test.YtlkbohpnlbfopaaGreatBF
import Derived.Test.YtlkbohpnlbfopaaGreatBD
import Derived.Test.YtlkbohpnlbfopaaGreatARord
import Derived.Test.YtlkbohpnlbfopaaGreatBG
import Derived.Deep.DeepCutAuto
import Derived.Deep.RegionHeld3
namespace Go.Proofs.YtlkbohpnlbfopaaGreat
set_option linter.unusedVariables false
def rowS (Z : List ArcT) (x : StepT) : ArcT := ((fromS Z x : Int), (toS Z x : Int), 0, tmS Z x)
theorem rowS_fr (Z : List ArcT) (x : StepT) : frN (rowS Z x) = fromS Z x := by unfold frN rowS; simp
theorem rowS_to (Z : List ArcT) (x : StepT) : toN (rowS Z x) = toS Z x := by unfold toN rowS; simp
theorem rowS_tm (Z : List ArcT) (x : StepT) : tm (rowS Z x) = tmS Z x := rfl
def rowsR (Z : List ArcT) (F : List Int) : List ArcT := (stepsK Z F Z.length).map (rowS Z)
theorem rowsR_mem {Z : List ArcT} {F : List Int} {a : ArcT} : a ∈ rowsR Z F ↔ ∃ x, (isArc Z x ∧ 0 < leftS Z F x) ∧ rowS Z x = a := by
  unfold rowsR
  rw [List.mem_map]
  constructor
  · rintro ⟨x, hx, e⟩
    have := (stepsK_mem (Nat.le_refl _)).1 hx
    exact ⟨x, ⟨this.1, this.2.2⟩, e⟩
  · rintro ⟨x, ⟨h1, h2⟩, e⟩
    exact ⟨x, (stepsK_mem (Nat.le_refl _)).2 ⟨h1, h1.2, h2⟩, e⟩
def valO (x : Option Int) : Int := x.getD 0
def valsO (d : List (Option Int)) : List Int := d.map valO
def isO (d : List (Option Int)) : List Bool := d.map Option.isSome
theorem isO_at {d : List (Option Int)} {v : Nat} (h : v < d.length) : (isO d)[v]? = some (getO d v).isSome := by
  unfold isO getO
  rw [List.getElem?_map, List.getD_eq_getElem?_getD, List.getElem?_eq_getElem h]
  rfl
theorem isO_set (d : List (Option Int)) (v : Nat) (x : Int) : isO (d.set v (some x)) = (isO d).set v true := by unfold isO; rw [List.map_set]; rfl
theorem valsO_start (N s : Nat) : valsO (startO N s) = List.replicate N 0 := by
  unfold startO valsO
  apply List.ext_getElem
  · simp
  · intro i h1 h2
    simp only [List.getElem_map, List.getElem_set, List.getElem_replicate]
    split <;> rfl
theorem isO_start (N s : Nat) : isO (startO N s) = (List.replicate N false).set s true := by
  unfold startO
  rw [isO_set]
  unfold isO
  rw [List.map_replicate]
  rfl
def BdO (d : List (Option Int)) (u : Nat) : Prop := ∀ v x, getO d v = some x → -(u * 1073741824 : Int) ≤ x ∧ x ≤ u * 1073741824
theorem BdO.val {d : List (Option Int)} {u : Nat} (h : BdO d u) (v : Nat) : -(u * 1073741824 : Int) ≤ valO (getO d v) ∧ valO (getO d v) ≤ u * 1073741824 := by
  cases hg : getO d v with
  | none => simp only [valO, Option.getD_none]; omega
  | some x => exact h v x hg
theorem BdO.start (N s : Nat) : BdO (startO N s) 0 := by
  intro v x hx
  unfold startO at hx
  by_cases hs : s < N
  · rw [getO_set (by simp; exact hs)] at hx
    split at hx
    · cases hx; simp
    · unfold getO at hx
      rw [List.getD_eq_getElem?_getD, List.getElem?_replicate] at hx
      split at hx <;> cases hx
  · unfold getO at hx
    rw [List.set_eq_of_length_le (by simp; omega), List.getD_eq_getElem?_getD, List.getElem?_replicate] at hx
    split at hx <;> cases hx
def dN (Z : List ArcT) (F : List Int) (N s k : Nat) : List (Option Int) := bellK tm (rowsR Z F) N s k
def NoGainF (Z : List ArcT) (F : List Int) (s : Nat) : Prop := NoGain (rowsR Z F) tm s
theorem rowsR_to {Z : List ArcT} {F : List Int} {N : Nat} (h : ∀ a ∈ Z, frN a < N ∧ toN a < N) : ∀ a ∈ rowsR Z F, frN a < N ∧ toN a < N := by
  intro a ha
  obtain ⟨x, ⟨h1, _⟩, rfl⟩ := rowsR_mem.1 ha
  have hm := h _ (List.mem_of_getElem? (arcOf_at h1))
  rw [rowS_fr, rowS_to]
  unfold fromS toS
  split <;> exact ⟨by omega, by omega⟩
end Go.Proofs.YtlkbohpnlbfopaaGreat
namespace Go.Proofs.YtlkbohpnlbfopaaGreat
open Go.RowKit
set_option linter.unusedVariables false
section
variable (n : Int) (b : Bool) (ao : Option Addr) (cap : Nat) (Z : List ArcT)
end
structure RX (w1 wr : World) (gd gi gt N : Nat) (ok : Bool) (d : List (Option Int)) (la : Option Addr) (L : List StepT) : Prop where
  below : Below w1.heap.size w1 wr
  len : d.length = N
  dd : OwnL encI wr w1.heap.size 3 (.slice (some ⟨gd, 0, none⟩) N N) (valsO d)
  ii : OwnL encB wr w1.heap.size 4 (.slice (some ⟨gi, 0, none⟩) N N) (isO d)
  var : wr.heap[gt]? = some (.cells #[.slice (some ⟨gd, 0, none⟩) N N, .slice (some ⟨gi, 0, none⟩) N N, .bool ok] 96 (0, 0))
  ne : gd ≠ gi ∧ gt ≠ gd ∧ gt ≠ gi
  big : w1.heap.size ≤ gt
  row : Row encS 2 wr la L
  off : ∀ ad, la = some ad → 0 < L.length → ad.block ≠ gd ∧ ad.block ≠ gi ∧ ad.block ≠ gt
theorem cellArr {w : World} {b j : Nat} {cs : Array Value} {t : TypeId} {v : Value} (h : w.heap[b]? = some (.cells cs t (0, 0))) (hc : w.cell? ⟨b, j, none⟩ = some v) : cs[j]? = some v := (cell_whole h j).symm.trans hc
theorem rowOffO {α : Type} {enc : α → List Value} {k : Nat} {S : Nat → Prop} {w w' : World} {ao : Option Addr} {A : List α} (h : Row enc k w ao A) (hk : Kept S w w') (hn : ∀ ad, ao = some ad → 0 < A.length → ¬ S ad.block) : Row enc k w' ao A := by
  intro i hi
  obtain ⟨b, o, e, hb, hc⟩ := h i hi
  exact ⟨b, o, e, Nat.lt_of_lt_of_le hb hk.size, fun j hj => (cell_of_block (hk.block b hb (hn _ e (by omega)))).trans (hc j hj)⟩
section
variable {w0 w1 wr w2 : World} {gd gi gt N : Nat} {ok : Bool} {d : List (Option Int)} {la : Option Addr} {L : List StepT}
theorem RX.next (h : RX w1 wr gd gi gt N ok d la L) (hb : Below wr.heap.size wr w2) : RX w1 w2 gd gi gt N ok d la L :=
  ⟨h.below.trans (hb.mono h.below.size), h.len, h.dd.below hb, h.ii.below hb, kept_box h.var hb, h.ne, h.big, h.row.below' hb, h.off⟩
theorem RX.lt (h : RX w1 wr gd gi gt N ok d la L) : (w1.heap.size ≤ gd ∧ gd < wr.heap.size) ∧ (w1.heap.size ≤ gi ∧ gi < wr.heap.size) ∧ w1.heap.size ≤ gt ∧ gt < wr.heap.size := ⟨own_lt2 h.dd rfl, own_lt2 h.ii rfl, h.big, lt_whole h.var⟩
theorem RX.off_d (h : RX w1 wr gd gi gt N ok d la L) {S : Nat → Prop} (hS : ∀ i, S i → i = gd ∨ i = gi ∨ i = gt) : ∀ ad, la = some ad → 0 < L.length → ¬ S ad.block := by
  intro ad e hl hs
  obtain ⟨h1, h2, h3⟩ := h.off ad e hl
  rcases hS _ hs with h | h | h
  · exact h1 h
  · exact h2 h
  · exact h3 h
theorem RX.first (h : RX w1 wr gd gi gt N ok (List.replicate N none) la L) (s : Nat) : RX w1 (wr.setCell ⟨gi, s, none⟩ (.bool true)) gd gi gt N ok (startO N s) la L := by
  have hk1 : Kept (fun i => i = gi) wr (wr.setCell ⟨gi, s, none⟩ (.bool true)) := (Kept.refl (fun i => i = gi) wr).set (.inl rfl) _
  have e1 : valsO (startO N s) = valsO (List.replicate N none) := by rw [valsO_start]; unfold valsO; rw [List.map_replicate]; rfl
  have e2 : isO (startO N s) = (isO (List.replicate N none)).set s true := by rw [isO_start]; unfold isO; rw [List.map_replicate]; rfl
  refine ⟨below_set h.below h.lt.2.1.1 _, by simp [startO], ?_, ?_, set_other h.var h.ne.2.2 _ _, h.ne, h.big, rowOffO h.row hk1 (h.off_d fun i e => .inr (.inl e)), h.off⟩
  · rw [e1]
    refine ownL_kept h.dd hk1 (fun g e => ?_)
    simp [Value.ownBlock] at e
    subst e
    exact h.ne.1
  · rw [e2]
    exact h.ii.put s true
theorem RX.cells (h : RX w1 wr gd gi gt N ok d la L) : (wr.cell? ⟨gt, 0, none⟩ = some (.slice (some ⟨gd, 0, none⟩) N N) ∧ wr.cell? ⟨gt, 1, none⟩ = some (.slice (some ⟨gi, 0, none⟩) N N) ∧ wr.cell? ⟨gt, 2, none⟩ = some (.bool ok)) ∧ wr.frozen? ⟨gt, 2, none⟩ = false :=
  ⟨⟨cell_whole h.var 0, cell_whole h.var 1, cell_whole h.var 2⟩, frozen_whole h.var 2⟩
theorem RX.has (h : RX w1 wr gd gi gt N ok d la L) {v : Nat} (hv : v < N) : wr.cell? ⟨gi, v, none⟩ = some (.bool (getO d v).isSome) ∧ wr.frozen? ⟨gi, v, none⟩ = false := h.ii.cell (isO_at (by rw [h.len]; exact hv))
theorem RX.steps (h : RX w1 wr gd gi gt N ok d la L) {lb : Option Addr} {M : List StepT} (hr : Row encS 2 wr lb M) : RX w1 wr gd gi gt N ok d lb M := by
  refine { h with row := hr, off := ?_ }
  rintro ad e hl
  obtain ⟨b, o, e2, _, hc⟩ := hr 0 hl
  rw [e] at e2
  cases e2
  have c0 := hc 0 (by decide)
  have c1 := hc 1 (by decide)
  rw [show (encS M[0])[0]? = some (.int .i64 M[0].1) from rfl] at c0
  rw [show (encS M[0])[1]? = some (.bool M[0].2) from rfl] at c1
  have f1 := own_full h.dd
  have f2 := own_full h.ii
  refine ⟨?_, ?_, ?_⟩
  · intro e3
    have e3 : b = gd := e3
    subst e3
    have c1 := cellArr f1.1 c1
    rw [List.getElem?_toArray, List.getElem?_map] at c1
    cases hx : (valsO d)[o + 0 * 2 + 1]? with
    | none => rw [hx] at c1; cases c1
    | some x => rw [hx] at c1; cases c1
  · intro e3
    have e3 : b = gi := e3
    subst e3
    have c0 := cellArr f2.1 c0
    rw [List.getElem?_toArray, List.getElem?_map] at c0
    cases hx : (isO d)[o + 0 * 2 + 0]? with
    | none => rw [hx] at c0; cases c0
    | some x => rw [hx] at c0; cases c0
  · intro e3
    have e3 : b = gt := e3
    subst e3
    have c0 := cellArr h.var c0
    generalize o + 0 * 2 + 0 = m at c0
    match m, c0 with
    | 0, c0 => cases c0
    | 1, c0 => cases c0
    | 2, c0 => cases c0
    | m + 3, c0 => simp at c0
end
end Go.Proofs.YtlkbohpnlbfopaaGreat
