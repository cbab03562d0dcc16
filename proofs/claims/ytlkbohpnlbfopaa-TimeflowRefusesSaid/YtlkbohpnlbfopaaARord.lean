/- The document's Order, of any network. -/
import Derived.Test.YtlkbohpnlbfopaaBC
namespace Go.Proofs.Ytlkbohpnlbfopaa
open Go.RowKit
set_option linter.unusedVariables false
def NextIs (Z : List ArcT) (N : Nat) (out : List Nat) (m : Nat) (nx : Int) : Prop :=
  (nx = -1 ∧ ∀ u, m ≤ u → u < N → freeN Z out u = false) ∨ (∃ x : Nat, nx = (x : Int) ∧ m ≤ x ∧ x < N ∧ freeN Z out x = true ∧ ∀ u, m ≤ u → u < x → freeN Z out u = false)
theorem NextIs.start (Z : List ArcT) (N : Nat) (out : List Nat) : NextIs Z N out N (-1) := .inl ⟨rfl, fun u h1 h2 => by omega⟩
theorem NextIs.none {Z : List ArcT} {N : Nat} {out : List Nat} {nx : Int} (h : NextIs Z N out 0 nx) (h0 : nx < 0) : nextN Z N out = Option.none := by
  rcases h with ⟨h1, h2⟩ | ⟨x, h1, _⟩
  · unfold nextN
    rw [List.find?_eq_none]
    intro u hu
    rw [h2 u (Nat.zero_le _) (by simpa using hu)]
    simp
  · omega
theorem NextIs.some {Z : List ArcT} {N : Nat} {out : List Nat} {nx : Int} (h : NextIs Z N out 0 nx) (h0 : ¬ nx < 0) : ∃ x : Nat, nx = (x : Int) ∧ x < N ∧ nextN Z N out = Option.some x := by
  rcases h with ⟨h1, h2⟩ | ⟨x, h1, h2, h3, h4, h5⟩
  · omega
  · refine ⟨x, h1, h3, ?_⟩
    unfold nextN
    rw [List.find?_range_eq_some]
    exact ⟨h4, by simpa using h3, fun u hu => by rw [h5 u (Nat.zero_le _) hu]; rfl⟩
end Go.Proofs.Ytlkbohpnlbfopaa
