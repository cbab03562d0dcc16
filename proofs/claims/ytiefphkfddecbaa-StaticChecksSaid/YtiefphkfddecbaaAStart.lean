/- What a search from a node begins with: the lists of arcs, and the distances while only the node itself is reached. -/
import Derived.Test.YtiefphkfddecbaaAInc
import Derived.Test.YtiefphkfddecbaaAKahn
namespace Go.Proofs.Ytiefphkfddecbaa
open Go.RowKit
set_option linter.unusedVariables false

def fillD (t N : Nat) : List Int := List.replicate t (-1) ++ List.replicate (N - t) 0
theorem fillD_len {t N : Nat} (h : t ≤ N) : (fillD t N).length = N := by simp [fillD]; omega
theorem fillD_set {t N : Nat} (h : t < N) : (fillD t N).set t (-1) = fillD (t + 1) N := by
  unfold fillD
  rw [List.set_append_right _ _ (by simp), List.length_replicate, Nat.sub_self, show N - t = (N - (t + 1)) + 1 by omega, List.replicate_succ, List.set_cons_zero, List.replicate_succ' (n := t), List.append_assoc]
  rfl
theorem fillD_zero (N : Nat) : fillD 0 N = List.replicate N 0 := by simp [fillD]
theorem fillD_full (N : Nat) : fillD N N = List.replicate N (-1) := by simp [fillD]
theorem fillD_at {t N : Nat} (h : t < N) : (fillD t N)[t]? = some 0 := by
  unfold fillD
  rw [List.getElem?_append_right (by simp), List.length_replicate, Nat.sub_self, List.getElem?_replicate, if_pos (by omega)]
def StartRes (n : Int) (Z : List ArcT) (s : Nat) (w : World) (e : Ending) (w' : World) : Prop :=
  ∃ w1 g1 gc gd, e = .returned (.tuple #[.slice (some ⟨g1, 0, none⟩) n.toNat gc, .slice (some ⟨gd, 0, none⟩) n.toNat n.toNat, .int .i64 0]) ∧ Below w.heap.size w w1 ∧ GRow w1 (some ⟨g1, 0, none⟩) (lists frN Z n.toNat) ∧ w1.heap.size ≤ gd ∧
    OwnL encI w' w1.heap.size 3 (.slice (some ⟨gd, 0, none⟩) n.toNat n.toNat) (startD n.toNat s) ∧ Below w1.heap.size w1 w'
end Go.Proofs.Ytiefphkfddecbaa
