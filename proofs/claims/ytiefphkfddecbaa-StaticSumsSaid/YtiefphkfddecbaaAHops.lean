/- Hops of package adj, of any network. -/
import Derived.Test.YtiefphkfddecbaaAStart
import Derived.Test.YtiefphkfddecbaaPQueue
import Derived.Deep.LoopGhost
namespace Go.Proofs.Ytiefphkfddecbaa
open Go.RowKit
set_option linter.unusedVariables false

theorem ownL_kept {α : Type} {enc : α → Value} {S : Nat → Prop} {w w' : World} {base : Nat} {e : TypeId} {v : Value} {L : List α} (h : OwnL enc w base e v L) (k : Kept S w w') (hn : ∀ g, v.ownBlock = some g → ¬ S g) : OwnL enc w' base e v L := by
  refine ⟨h.1, ?_⟩
  rcases h.2 with h1 | ⟨g', cap, cur, rfl, h2, h3, h4⟩
  · exact .inl h1
  · exact .inr ⟨g', cap, cur, rfl, h2, k.old h3 (hn g' rfl), h4⟩
theorem GRow.at {w : World} {g N : Nat} {f : ArcT → Nat} {Z : List ArcT} (h : GRow w (some ⟨g, 0, none⟩) (lists f Z N)) {v : Nat} (hv : v < N) : ∃ ao cap, g < w.heap.size ∧ w.cell? ⟨g, v, none⟩ = some (.slice ao (places f Z v).length cap) ∧ Lst encI w ao (natI (places f Z v)) := by
  obtain ⟨b, o, ao, cap, e, h1, h2, h3⟩ := h v (by rw [lists_len]; exact hv)
  cases e
  have e : (lists f Z N)[v]'(by rw [lists_len]; exact hv) = places f Z v := by simp [lists]
  rw [e] at h2 h3
  rw [Nat.zero_add] at h2
  exact ⟨ao, cap, h1, h2, h3⟩
theorem arc_at {w : World} {ao : Option Addr} {Z : List ArcT} (h : Row encA 4 w ao Z) {p : Nat} {a : ArcT} (hp : Z[p]? = some a) : ∃ b o, ao = some ⟨b, o, none⟩ ∧ b < w.heap.size ∧
    w.cell? ⟨b, o + p * 4, none⟩ = some (.int .i64 a.1) ∧ w.cell? ⟨b, o + p * 4 + 1, none⟩ = some (.int .i64 a.2.1) ∧ w.cell? ⟨b, o + p * 4 + 2, none⟩ = some (.int .i64 a.2.2.1) ∧ w.cell? ⟨b, o + p * 4 + 3, none⟩ = some (.int .i64 a.2.2.2) := by
  obtain ⟨hi, e⟩ := List.getElem?_eq_some_iff.1 hp
  subst e
  exact h.arc hi
theorem right_arc {n : Int} {b : Bool} {Z : List ArcT} (h : Right (n, b, Z)) {a : ArcT} (ha : a ∈ Z) : a.1 = (frN a : Int) ∧ a.2.1 = (toN a : Int) ∧ frN a < n.toNat ∧ toN a < n.toNat ∧ 0 ≤ tm a ∧ tm a ≤ 1048576 := by
  obtain ⟨h1, h2⟩ := arcE_ok (h.2.2 a ha)
  unfold badEnds at h1
  unfold bigArc at h2
  unfold frN toN tm
  omega
theorem right_ends {n : Int} {b : Bool} {Z : List ArcT} (h : Right (n, b, Z)) : ∀ a ∈ Z, frN a < n.toNat ∧ toN a < n.toNat := fun a ha => ⟨(right_arc h ha).2.2.1, (right_arc h ha).2.2.2.1⟩
theorem natI_at {l : List Nat} {j : Nat} (h : j < l.length) : (natI l)[j]? = some ((l[j] : Nat) : Int) := by simp [natI, h]
/-- Numbers that a call tells, and that nothing is wrong. -/
def NumRes (d : List Int) (w : World) (e : Ending) (w' : World) : Prop :=
  ∃ a c, e = .returned (.tuple #[.slice a d.length c, .int .i64 0]) ∧ Lst encI w' a d ∧ Below w.heap.size w w'
section
variable {w1 wr w2 : World} {gd qb qg N : Nat} {d : List Int} {Q Q' : List Nat}
end
end Go.Proofs.Ytiefphkfddecbaa
