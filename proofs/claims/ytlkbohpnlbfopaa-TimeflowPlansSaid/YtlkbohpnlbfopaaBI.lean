/- Lemmas of the layers below, several texts in one. -/
import Derived.Test.YtlkbohpnlbfopaaBF
import Derived.Test.YtlkbohpnlbfopaaBD
import Derived.Test.YtlkbohpnlbfopaaARord
import Derived.Test.YtlkbohpnlbfopaaBG
import Derived.Deep.DeepCutAuto
import Derived.Deep.RegionHeld3
namespace Go.Proofs.Ytlkbohpnlbfopaa
set_option linter.unusedVariables false
def rowS (Z : List ArcT) (x : StepT) : ArcT := ((fromS Z x : Int), (toS Z x : Int), 0, tmS Z x)
theorem rowS_fr (Z : List ArcT) (x : StepT) : frN (rowS Z x) = fromS Z x := by unfold frN rowS; simp
theorem rowS_to (Z : List ArcT) (x : StepT) : toN (rowS Z x) = toS Z x := by unfold toN rowS; simp
theorem rowS_tm (Z : List ArcT) (x : StepT) : tm (rowS Z x) = tmS Z x := rfl
def rowsR (Z : List ArcT) (F : List Int) : List ArcT := (stepsK Z F Z.length).map (rowS Z)
theorem rowsR_mem {Z : List ArcT} {F : List Int} {a : ArcT} : a ∈ rowsR Z F ↔ ∃ x, (isArc Z x ∧ 0 < leftS Z F x) ∧ rowS Z x = a := by
  unfold rowsR
  rw [List.mem_map]
  constructor
  · rintro ⟨x, hx, e⟩
    have := (stepsK_mem (Nat.le_refl _)).1 hx
    exact ⟨x, ⟨this.1, this.2.2⟩, e⟩
  · rintro ⟨x, ⟨h1, h2⟩, e⟩
    exact ⟨x, (stepsK_mem (Nat.le_refl _)).2 ⟨h1, h1.2, h2⟩, e⟩
def valO (x : Option Int) : Int := x.getD 0
def BdO (d : List (Option Int)) (u : Nat) : Prop := ∀ v x, getO d v = some x → -(u * 1073741824 : Int) ≤ x ∧ x ≤ u * 1073741824
theorem BdO.val {d : List (Option Int)} {u : Nat} (h : BdO d u) (v : Nat) : -(u * 1073741824 : Int) ≤ valO (getO d v) ∧ valO (getO d v) ≤ u * 1073741824 := by
  cases hg : getO d v with
  | none => simp only [valO, Option.getD_none]; omega
  | some x => exact h v x hg
theorem BdO.start (N s : Nat) : BdO (startO N s) 0 := by
  intro v x hx
  unfold startO at hx
  by_cases hs : s < N
  · rw [getO_set (by simp; exact hs)] at hx
    split at hx
    · cases hx; simp
    · unfold getO at hx
      rw [List.getD_eq_getElem?_getD, List.getElem?_replicate] at hx
      split at hx <;> cases hx
  · unfold getO at hx
    rw [List.set_eq_of_length_le (by simp; omega), List.getD_eq_getElem?_getD, List.getElem?_replicate] at hx
    split at hx <;> cases hx
def dN (Z : List ArcT) (F : List Int) (N s k : Nat) : List (Option Int) := bellK tm (rowsR Z F) N s k
def NoGainF (Z : List ArcT) (F : List Int) (s : Nat) : Prop := NoGain (rowsR Z F) tm s
theorem rowsR_to {Z : List ArcT} {F : List Int} {N : Nat} (h : ∀ a ∈ Z, frN a < N ∧ toN a < N) : ∀ a ∈ rowsR Z F, frN a < N ∧ toN a < N := by
  intro a ha
  obtain ⟨x, ⟨h1, _⟩, rfl⟩ := rowsR_mem.1 ha
  have hm := h _ (List.mem_of_getElem? (arcOf_at h1))
  rw [rowS_fr, rowS_to]
  unfold fromS toS
  split <;> exact ⟨by omega, by omega⟩
end Go.Proofs.Ytlkbohpnlbfopaa
namespace Go.Proofs.Ytlkbohpnlbfopaa
open Go.RowKit
set_option linter.unusedVariables false
section
variable (n : Int) (b : Bool) (ao : Option Addr) (cap : Nat) (Z : List ArcT)
end
theorem rowOffO {α : Type} {enc : α → List Value} {k : Nat} {S : Nat → Prop} {w w' : World} {ao : Option Addr} {A : List α} (h : Row enc k w ao A) (hk : Kept S w w') (hn : ∀ ad, ao = some ad → 0 < A.length → ¬ S ad.block) : Row enc k w' ao A := by
  intro i hi
  obtain ⟨b, o, e, hb, hc⟩ := h i hi
  exact ⟨b, o, e, Nat.lt_of_lt_of_le hb hk.size, fun j hj => (cell_of_block (hk.block b hb (hn _ e (by omega)))).trans (hc j hj)⟩
section
variable {w0 w1 wr w2 : World} {gd gi gt N : Nat} {ok : Bool} {d : List (Option Int)} {la : Option Addr} {L : List StepT}
end
end Go.Proofs.Ytlkbohpnlbfopaa
