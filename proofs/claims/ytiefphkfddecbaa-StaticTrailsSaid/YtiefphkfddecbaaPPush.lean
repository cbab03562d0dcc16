/- What New, Push, Least and Pop of package pile do: a pile holds pairs, of which the first in their order is told and taken first. -/
import Derived.Test.YtiefphkfddecbaaPRise
import Derived.Test.YtiefphkfddecbaaPQueue
import Derived.Deep.AppendLies
import Derived.Deep.RegionLaw
namespace Go.Proofs.Ytiefphkfddecbaa
open Go.RowKit Go.Sort
set_option linter.unusedVariables false

/-- The cells of pairs, one behind the other. -/
def flatP : List (Int × Int) → List Value
  | [] => []
  | x :: l => .int .i64 x.1 :: .int .i64 x.2 :: flatP l
theorem flatP_length : ∀ l : List (Int × Int), (flatP l).length = l.length * 2
  | [] => rfl
  | x :: l => by simp only [flatP, List.length_cons, flatP_length l]; omega
theorem flatP_append : ∀ l m : List (Int × Int), flatP (l ++ m) = flatP l ++ flatP m
  | [], m => rfl
  | x :: l, m => by simp only [flatP, List.cons_append, flatP_append l m]
theorem flatP_get : ∀ (l : List (Int × Int)) (j : Nat) (h : j < l.length), (flatP l)[j * 2]? = some (.int .i64 l[j].1) ∧ (flatP l)[j * 2 + 1]? = some (.int .i64 l[j].2)
  | [], j, h => by simp at h
  | x :: l, 0, h => ⟨rfl, rfl⟩
  | x :: l, j + 1, h => by
    have := flatP_get l j (by simpa using h)
    simp only [flatP, show (j + 1) * 2 = j * 2 + 1 + 1 by omega, List.getElem?_cons_succ, List.getElem_cons_succ]
    exact this
theorem flatP_one (l : List (Int × Int)) : ∀ u ∈ flatP l, u.oneCell' = true := by
  induction l with
  | nil => intro u hu; cases hu
  | cons x l ih =>
    intro u hu
    simp only [flatP, List.mem_cons] at hu
    rcases hu with rfl | rfl | hu
    · rfl
    · rfl
    · exact ih u hu
theorem Heap.push {d : Array (Int × Int)} (h : Heap d) (x : Int × Int) : Up (d.push x) d.size := by
  have get : ∀ t, t < d.size → (d.push x)[t]! = d[t]! := fun t ht => by
    rw [getElem!_pos (d.push x) t (by simp; omega), getElem!_pos d t ht, Array.getElem_push_lt]
  refine ⟨fun t h1 h2 hn => ?_, fun t h1 h2 he _ => ?_⟩
  · have h2' : t < d.size := by simp at h2; omega
    have hp : par t < t := by unfold par; omega
    rw [get t h2', get _ (by omega)]
    exact h t h1 h2'
  · have hp : par t < t := by unfold par; omega
    simp at h2
    omega
end Go.Proofs.Ytiefphkfddecbaa
