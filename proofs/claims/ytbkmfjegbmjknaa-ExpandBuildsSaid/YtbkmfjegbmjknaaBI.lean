/- Lemmas of the layers below, several texts in one. -/
import Derived.Test.YtbkmfjegbmjknaaBF
import Derived.Test.YtbkmfjegbmjknaaBD
import Derived.Test.YtbkmfjegbmjknaaARord
import Derived.Test.YtbkmfjegbmjknaaBG
import Derived.Deep.DeepCutAuto
import Derived.Deep.RegionHeld3
namespace Go.Proofs.Ytbkmfjegbmjknaa
set_option linter.unusedVariables false

/-- A step as an arc whose time is the step's. -/
def rowS (Z : List ArcT) (x : StepT) : ArcT := ((fromS Z x : Int), (toS Z x : Int), 0, tmS Z x)
theorem rowS_fr (Z : List ArcT) (x : StepT) : frN (rowS Z x) = fromS Z x := by unfold frN rowS; simp
theorem rowS_to (Z : List ArcT) (x : StepT) : toN (rowS Z x) = toS Z x := by unfold toN rowS; simp
theorem rowS_tm (Z : List ArcT) (x : StepT) : tm (rowS Z x) = tmS Z x := rfl
def rowsR (Z : List ArcT) (F : List Int) : List ArcT := (stepsK Z F Z.length).map (rowS Z)
theorem rowsR_len (Z : List ArcT) (F : List Int) : (rowsR Z F).length = (stepsK Z F Z.length).length := by unfold rowsR; simp
theorem rowsR_mem {Z : List ArcT} {F : List Int} {a : ArcT} : a ∈ rowsR Z F ↔ ∃ x, (isArc Z x ∧ 0 < leftS Z F x) ∧ rowS Z x = a := by
  unfold rowsR
  rw [List.mem_map]
  constructor
  · rintro ⟨x, hx, e⟩
    have := (stepsK_mem (Nat.le_refl _)).1 hx
    exact ⟨x, ⟨this.1, this.2.2⟩, e⟩
  · rintro ⟨x, ⟨h1, h2⟩, e⟩
    exact ⟨x, (stepsK_mem (Nat.le_refl _)).2 ⟨h1, h1.2, h2⟩, e⟩
/-! Times and marks -/
def valO (x : Option Int) : Int := x.getD 0
def valsO (d : List (Option Int)) : List Int := d.map valO
def isO (d : List (Option Int)) : List Bool := d.map Option.isSome
theorem valsO_len (d : List (Option Int)) : (valsO d).length = d.length := by unfold valsO; simp
theorem isO_len (d : List (Option Int)) : (isO d).length = d.length := by unfold isO; simp
theorem valsO_at {d : List (Option Int)} {v : Nat} (h : v < d.length) : (valsO d)[v]? = some (valO (getO d v)) := by
  unfold valsO getO
  rw [List.getElem?_map, List.getD_eq_getElem?_getD, List.getElem?_eq_getElem h]
  rfl
theorem isO_at {d : List (Option Int)} {v : Nat} (h : v < d.length) : (isO d)[v]? = some (getO d v).isSome := by
  unfold isO getO
  rw [List.getElem?_map, List.getD_eq_getElem?_getD, List.getElem?_eq_getElem h]
  rfl
theorem valsO_set (d : List (Option Int)) (v : Nat) (x : Int) : valsO (d.set v (some x)) = (valsO d).set v x := by unfold valsO; rw [List.map_set]; rfl
theorem isO_set (d : List (Option Int)) (v : Nat) (x : Int) : isO (d.set v (some x)) = (isO d).set v true := by unfold isO; rw [List.map_set]; rfl
theorem valsO_start (N s : Nat) : valsO (startO N s) = List.replicate N 0 := by
  unfold startO valsO
  apply List.ext_getElem
  · simp
  · intro i h1 h2
    simp only [List.getElem_map, List.getElem_set, List.getElem_replicate]
    split <;> rfl
theorem isO_start (N s : Nat) : isO (startO N s) = (List.replicate N false).set s true := by
  unfold startO
  rw [isO_set]
  unfold isO
  rw [List.map_replicate]
  rfl
/-! One round -/
def okO (c : ArcT → Int) : List ArcT → List (Option Int) → Bool
  | [], _ => true
  | a :: r, d => !gives c d a && okO c r (relaxO c d a)
theorem okO_snoc (c : ArcT → Int) (a : ArcT) : ∀ (Y : List ArcT) (d : List (Option Int)), okO c (Y ++ [a]) d = (okO c Y d && !gives c (relaxAllO c Y d) a)
  | [], d => by simp [okO, relaxAllO]
  | b :: r, d => by
    show (!gives c d b && okO c (r ++ [a]) (relaxO c d b)) = (!gives c d b && okO c r (relaxO c d b) && !gives c (relaxAllO c r (relaxO c d b)) a)
    rw [okO_snoc c a r, Bool.and_assoc]
theorem relaxAllO_snoc (c : ArcT → Int) (a : ArcT) (Y : List ArcT) (d : List (Option Int)) : relaxAllO c (Y ++ [a]) d = relaxO c (relaxAllO c Y d) a := by unfold relaxAllO; rw [List.foldl_append]; rfl
theorem relaxO_same {c : ArcT → Int} {d : List (Option Int)} {a : ArcT} (h : gives c d a = false) : relaxO c d a = d := by unfold relaxO; rw [h]; rfl
theorem gives_eq {c : ArcT → Int} {d : List (Option Int)} {a : ArcT} : gives c d a = ((getO d (frN a)).isSome && (!(getO d (toN a)).isSome || decide (valO (getO d (frN a)) + c a < valO (getO d (toN a))))) := by
  unfold gives
  cases getO d (frN a) with
  | none => rfl
  | some x =>
    cases getO d (toN a) with
    | none => rfl
    | some y => rfl
theorem relaxO_yes {c : ArcT → Int} {d : List (Option Int)} {a : ArcT} (h : gives c d a = true) : relaxO c d a = d.set (toN a) (some (valO (getO d (frN a)) + c a)) := by
  unfold relaxO
  rw [if_pos h]
  rfl
theorem okO_iff (c : ArcT → Int) : ∀ (Y : List ArcT) (d : List (Option Int)), okO c Y d = true ↔ ∀ a ∈ Y, gives c d a = false
  | [], d => by simp [okO]
  | b :: r, d => by
    show (!gives c d b && okO c r (relaxO c d b)) = true ↔ _
    rw [Bool.and_eq_true, Bool.not_eq_true']
    constructor
    · rintro ⟨h1, h2⟩ a ha
      rw [relaxO_same h1] at h2
      rcases List.mem_cons.1 ha with rfl | ha
      · exact h1
      · exact (okO_iff c r d).1 h2 a ha
    · intro h
      have h1 := h b (by simp)
      rw [relaxO_same h1]
      exact ⟨h1, (okO_iff c r d).2 fun a ha => h a (by simp [ha])⟩
theorem okO_same (c : ArcT → Int) : ∀ (Y : List ArcT) (d : List (Option Int)), okO c Y d = true → relaxAllO c Y d = d
  | [], d, _ => rfl
  | b :: r, d, h => by
    have h1 := (okO_iff c (b :: r) d).1 h b (by simp)
    have e : relaxAllO c (b :: r) d = relaxAllO c r (relaxO c d b) := rfl
    rw [e, relaxO_same h1]
    exact okO_same c r d ((okO_iff c r d).2 fun a ha => (okO_iff c (b :: r) d).1 h a (by simp [ha]))
/-- How far times may lie from 0 when so many steps have been looked at. -/
def BdO (d : List (Option Int)) (u : Nat) : Prop := ∀ v x, getO d v = some x → -(u * 1073741824 : Int) ≤ x ∧ x ≤ u * 1073741824
theorem BdO.relax {c : ArcT → Int} {d : List (Option Int)} {u : Nat} {a : ArcT} (h : BdO d u) (hc : -1073741824 ≤ c a ∧ c a ≤ 1073741824) (hto : toN a < d.length) : BdO (relaxO c d a) (u + 1) := by
  intro v x hx
  unfold relaxO at hx
  split at hx
  · next hg =>
    rw [getO_set hto] at hx
    split at hx
    · cases hx
      cases hf : getO d (frN a) with
      | none => simp only [Option.getD_none]; omega
      | some y =>
        have := h _ _ hf
        simp only [Option.getD_some]
        omega
    · have := h v x hx
      omega
  · have := h v x hx
    omega
theorem BdO.val {d : List (Option Int)} {u : Nat} (h : BdO d u) (v : Nat) : -(u * 1073741824 : Int) ≤ valO (getO d v) ∧ valO (getO d v) ≤ u * 1073741824 := by
  cases hg : getO d v with
  | none => simp only [valO, Option.getD_none]; omega
  | some x => exact h v x hg
theorem BdO.start (N s : Nat) : BdO (startO N s) 0 := by
  intro v x hx
  unfold startO at hx
  by_cases hs : s < N
  · rw [getO_set (by simp; exact hs)] at hx
    split at hx
    · cases hx; simp
    · unfold getO at hx
      rw [List.getD_eq_getElem?_getD, List.getElem?_replicate] at hx
      split at hx <;> cases hx
  · unfold getO at hx
    rw [List.set_eq_of_length_le (by simp; omega), List.getD_eq_getElem?_getD, List.getElem?_replicate] at hx
    split at hx <;> cases hx
/-! What is told of a start -/
def dN (Z : List ArcT) (F : List Int) (N s k : Nat) : List (Option Int) := bellK tm (rowsR Z F) N s k
def calmN (Z : List ArcT) (F : List Int) (N s : Nat) : Bool := okO tm (rowsR Z F) (dN Z F N s N)
def NoGainF (Z : List ArcT) (F : List Int) (s : Nat) : Prop := NoGain (rowsR Z F) tm s
theorem rowsR_to {Z : List ArcT} {F : List Int} {N : Nat} (h : ∀ a ∈ Z, frN a < N ∧ toN a < N) : ∀ a ∈ rowsR Z F, frN a < N ∧ toN a < N := by
  intro a ha
  obtain ⟨x, ⟨h1, _⟩, rfl⟩ := rowsR_mem.1 ha
  have hm := h _ (List.mem_of_getElem? (arcOf_at h1))
  rw [rowS_fr, rowS_to]
  unfold fromS toS
  split <;> exact ⟨by omega, by omega⟩
theorem calmN_iff {Z : List ArcT} {F : List Int} {N s : Nat} (h : ∀ a ∈ Z, frN a < N ∧ toN a < N) (hs : s < N) : calmN Z F N s = true ↔ NoGainF Z F s := by
  have hZ := fun a ha => (rowsR_to (F := F) h a ha).2
  unfold calmN
  rw [okO_iff, ← closed_iff]
  constructor
  · intro hc
    exact closed_noGain hs hZ hc
  · intro hn
    exact noGain_closed hs hZ hn
theorem calmN_far {Z : List ArcT} {F : List Int} {N s : Nat} (h : ∀ a ∈ Z, frN a < N ∧ toN a < N) (hs : s < N) (ho : calmN Z F N s = true) : dN Z F N s (N + 1) = dN Z F N s N ∧ IsFarO (rowsR Z F) tm s N (dN Z F N s N) := by
  refine ⟨okO_same tm _ _ ho, ?_⟩
  exact bell_isFar hs (fun a ha => (rowsR_to (F := F) h a ha).2) ((calmN_iff h hs).1 ho)
end Go.Proofs.Ytbkmfjegbmjknaa

namespace Go.Proofs.Ytbkmfjegbmjknaa
open Go.RowKit
set_option linter.unusedVariables false

/-- The time of a step along an arc, or back. -/
def timeI (a : ArcT) (k : Bool) : Int := if k then - a.2.2.2 else a.2.2.2
section
variable (n : Int) (b : Bool) (ao : Option Addr) (cap : Nat) (Z : List ArcT)
end
theorem stepC {w : World} {lb lx : Nat} {L : List StepT} (h : Row encS 2 w (some ⟨lb, lx, none⟩) L) {i : Nat} {x : StepT} (hx : L[i]? = some x) : w.cell? ⟨lb, lx + i * 2, none⟩ = some (.int .i64 x.1) ∧ w.cell? ⟨lb, lx + i * 2 + 1, none⟩ = some (.bool x.2) := by
  obtain ⟨b, o, e, _, s0, s1⟩ := step_at h hx
  cases e
  exact ⟨s0, s1⟩
/-! The variable that holds times and marks -/
theorem cellArr {w : World} {b j : Nat} {cs : Array Value} {t : TypeId} {v : Value} (h : w.heap[b]? = some (.cells cs t (0, 0))) (hc : w.cell? ⟨b, j, none⟩ = some v) : cs[j]? = some v := (cell_whole h j).symm.trans hc
theorem rowOffO {α : Type} {enc : α → List Value} {k : Nat} {S : Nat → Prop} {w w' : World} {ao : Option Addr} {A : List α} (h : Row enc k w ao A) (hk : Kept S w w') (hn : ∀ ad, ao = some ad → 0 < A.length → ¬ S ad.block) : Row enc k w' ao A := by
  intro i hi
  obtain ⟨b, o, e, hb, hc⟩ := h i hi
  exact ⟨b, o, e, Nat.lt_of_lt_of_le hb hk.size, fun j hj => (cell_of_block (hk.block b hb (hn _ e (by omega)))).trans (hc j hj)⟩
section
variable {w0 w1 wr w2 : World} {gd gi gt N : Nat} {ok : Bool} {d : List (Option Int)} {la : Option Addr} {L : List StepT}
end
end Go.Proofs.Ytbkmfjegbmjknaa
