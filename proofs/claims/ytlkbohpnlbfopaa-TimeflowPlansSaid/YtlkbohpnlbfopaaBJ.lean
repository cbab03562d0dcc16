/- Lemmas of the layers below, several texts in one. -/
import Derived.Test.YtlkbohpnlbfopaaBI
import Derived.Test.YtlkbohpnlbfopaaBD
import Derived.Test.YtlkbohpnlbfopaaBG
namespace Go.Proofs.Ytlkbohpnlbfopaa
open Go.RowKit
set_option linter.unusedVariables false
section
variable (b : Bool) (ao fo : Option Addr) (cap fc : Nat) (Z : List ArcT) (F : List Int)
end
end Go.Proofs.Ytlkbohpnlbfopaa
namespace Go.Proofs.Ytlkbohpnlbfopaa
open Go.RowKit
set_option linter.unusedVariables false
section
variable (n : Int) (b : Bool) (ao fo : Option Addr) (cap fc : Nat) (Z : List ArcT) (F : List Int)
end
end Go.Proofs.Ytlkbohpnlbfopaa
namespace Go.Proofs.Ytlkbohpnlbfopaa
open Go.RowKit
set_option linter.unusedVariables false
section
variable (n : Int) (b : Bool) (ao fo po : Option Addr) (cap fc pc : Nat) (Z : List ArcT) (F P : List Int)
end
end Go.Proofs.Ytlkbohpnlbfopaa
namespace Go.Proofs.Ytlkbohpnlbfopaa
set_option linter.unusedVariables false
def relI (P : List Int) (a : ArcT) : List Int := P.set (toN a) (min (atI P (toN a)) (atI P (frN a) + tm a))
def relAllI (P : List Int) (Y : List ArcT) : List Int := Y.foldl relI P
def tightA (P : List Int) (a : ArcT) : Bool := decide (atI P (toN a) ≤ atI P (frN a) + tm a)
def itI (R : List ArcT) (P : List Int) : Nat → List Int
  | 0 => P
  | k + 1 => relAllI (itI R P k) R
theorem relI_len (P : List Int) (a : ArcT) : (relI P a).length = P.length := by unfold relI; simp
theorem relAllI_len : ∀ (Y : List ArcT) (P : List Int), (relAllI P Y).length = P.length
  | [], P => rfl
  | a :: r, P => by
    show (relAllI (relI P a) r).length = _
    rw [relAllI_len r, relI_len]
theorem itI_len (R : List ArcT) (P : List Int) : ∀ k, (itI R P k).length = P.length
  | 0 => rfl
  | k + 1 => by
    show (relAllI (itI R P k) R).length = _
    rw [relAllI_len, itI_len R P k]
theorem relI_at {P : List Int} {a : ArcT} (h : toN a < P.length) (v : Nat) : atI (relI P a) v = if v = toN a then min (atI P (toN a)) (atI P (frN a) + tm a) else atI P v := by
  unfold relI
  exact atI_set h
def SetIs (R : List ArcT) (P : List Int) (b : Bool) (Q : List Int) : Prop :=
  ∃ k, k ≤ P.length ∧ Q = itI R P k ∧ (b = true → ∀ a ∈ R, tightA Q a = true) ∧ (b = false → ∀ j, j < P.length → ∃ a ∈ R, tightA (itI R P j) a = false)
theorem SetIs.len {R : List ArcT} {P Q : List Int} {b : Bool} (h : SetIs R P b Q) : Q.length = P.length := by
  obtain ⟨k, _, e, _⟩ := h
  rw [e, itI_len]
theorem zeros_at (N v : Nat) : atI (List.replicate N 0) v = 0 := by
  unfold atI
  rw [List.getD_eq_getElem?_getD, List.getElem?_replicate]
  split <;> rfl
def BdI (P : List Int) (u : Nat) : Prop := ∀ v, -(u * 1073741824 : Int) ≤ atI P v ∧ atI P v ≤ u * 1073741824
theorem BdI.rel {P : List Int} {u : Nat} {a : ArcT} (h : BdI P u) (hc : -1073741824 ≤ tm a ∧ tm a ≤ 1073741824) (hto : toN a < P.length) : BdI (relI P a) (u + 1) := by
  intro v
  rw [relI_at hto]
  have h1 := h (frN a)
  have h2 := h (toN a)
  have h3 := h v
  generalize atI P (frN a) = x at *
  generalize atI P (toN a) = y at *
  generalize atI P v = z at *
  generalize tm a = t at *
  split <;> omega
theorem BdI.relAll : ∀ (Y : List ArcT) (P : List Int) (u : Nat), BdI P u → (∀ a ∈ Y, (-1073741824 ≤ tm a ∧ tm a ≤ 1073741824) ∧ toN a < P.length) → BdI (relAllI P Y) (u + Y.length) := by
  intro Y
  induction Y with
  | nil => intro P u h _; exact h
  | cons a r ih =>
    intro P u h hY
    obtain ⟨h1, h2⟩ := hY a (by simp)
    have := ih (relI P a) (u + 1) (h.rel h1 h2) (fun b hb => by rw [relI_len]; exact hY b (by simp [hb]))
    rw [List.length_cons, show u + (r.length + 1) = u + 1 + r.length by omega]
    exact this
theorem BdI.it {R : List ArcT} {P : List Int} {u : Nat} (h : BdI P u) (hR : ∀ a ∈ R, (-1073741824 ≤ tm a ∧ tm a ≤ 1073741824) ∧ toN a < P.length) : ∀ k, BdI (itI R P k) (u + k * R.length)
  | 0 => by rw [Nat.zero_mul]; exact h
  | k + 1 => by
    have := BdI.relAll R _ _ (BdI.it h hR k) (fun a ha => by rw [itI_len]; exact hR a ha)
    rw [Nat.succ_mul, ← Nat.add_assoc]
    exact this
end Go.Proofs.Ytlkbohpnlbfopaa
