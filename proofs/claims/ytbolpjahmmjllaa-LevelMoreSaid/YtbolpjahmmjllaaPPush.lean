/- What New, Push, Least and Pop of package pile do: a pile holds pairs, of which the first in their order is told and taken first. -/
import Derived.Test.YtbolpjahmmjllaaPRise
import Derived.Test.YtbolpjahmmjllaaBB
import Derived.Deep.AppendLies
import Derived.Deep.RegionLaw
namespace Go.Proofs.Ytbolpjahmmjllaa
open Go.RowKit Go.Sort
set_option linter.unusedVariables false

/-- The cells of pairs, one behind the other. -/
def flatP : List (Int × Int) → List Value
  | [] => []
  | x :: l => .int .i64 x.1 :: .int .i64 x.2 :: flatP l
theorem flatP_length : ∀ l : List (Int × Int), (flatP l).length = l.length * 2
  | [] => rfl
  | x :: l => by simp only [flatP, List.length_cons, flatP_length l]; omega
theorem flatP_append : ∀ l m : List (Int × Int), flatP (l ++ m) = flatP l ++ flatP m
  | [], m => rfl
  | x :: l, m => by simp only [flatP, List.cons_append, flatP_append l m]
theorem flatP_get : ∀ (l : List (Int × Int)) (j : Nat) (h : j < l.length), (flatP l)[j * 2]? = some (.int .i64 l[j].1) ∧ (flatP l)[j * 2 + 1]? = some (.int .i64 l[j].2)
  | [], j, h => by simp at h
  | x :: l, 0, h => ⟨rfl, rfl⟩
  | x :: l, j + 1, h => by
    have := flatP_get l j (by simpa using h)
    simp only [flatP, show (j + 1) * 2 = j * 2 + 1 + 1 by omega, List.getElem?_cons_succ, List.getElem_cons_succ]
    exact this
theorem flatP_one (l : List (Int × Int)) : ∀ u ∈ flatP l, u.oneCell' = true := by
  induction l with
  | nil => intro u hu; cases hu
  | cons x l ih =>
    intro u hu
    simp only [flatP, List.mem_cons] at hu
    rcases hu with rfl | rfl | hu
    · rfl
    · rfl
    · exact ih u hu
theorem RowP.own {w : World} {G : Option Nat} {v : Value} {d : Array (Int × Int)} (h : RowP w G v d) : w.ownsRow 0 99 2 v d.size (flatP d.toList) := by
  refine ⟨by rw [flatP_length]; simp, ?_⟩
  rcases h with ⟨rfl, rfl, _⟩ | ⟨g, cap, cur, _, rfl, hg, h1, h2, h3, h4⟩
  · exact .inl ⟨rfl, rfl⟩
  · refine .inr ⟨g, cap, cur, rfl, Nat.zero_le _, hg, h1, h2, h3, ?_⟩
    apply List.ext_getElem?
    intro t
    rw [List.getElem?_take]
    by_cases ht : t < d.size * 2
    · rw [if_pos ht, Array.getElem?_toList]
      have hj : t / 2 < d.size := by omega
      obtain ⟨a, b⟩ := h4 (t / 2) hj
      obtain ⟨c, e⟩ := flatP_get d.toList (t / 2) (by simpa using hj)
      rw [getElem!_pos d _ hj] at a b
      have em : t = t / 2 * 2 ∨ t = t / 2 * 2 + 1 := by omega
      rcases em with em | em
      · rw [em, show t / 2 * 2 / 2 = t / 2 by omega] at *; rw [a, c]; simp
      · rw [em, show (t / 2 * 2 + 1) / 2 = t / 2 by omega] at *; rw [b, e]; simp
    · rw [if_neg ht, List.getElem?_eq_none (by rw [flatP_length]; simp; omega)]
theorem RowP.blk {w : World} {G : Option Nat} {v : Value} {d : Array (Int × Int)} (h : RowP w G v d) : v.ownBlock = G := by
  rcases h with ⟨rfl, rfl, rfl⟩ | ⟨g, cap, cur, rfl, rfl, _⟩ <;> rfl
theorem row_of_own {w : World} {base g n cap : Nat} {l : List (Int × Int)} (h : w.ownsRow base 99 2 (.slice (some ⟨g, 0, none⟩) n cap) n (flatP l)) (d : Array (Int × Int)) (hd : d.toList = l) :
    RowP w (some g) (.slice (some ⟨g, 0, none⟩) n cap) d ∧ n = d.size := by
  subst hd
  have hl : d.size = n := by have := h.1; rw [flatP_length] at this; simp at this; omega
  subst hl
  rcases h.2 with ⟨h0, _⟩ | ⟨g', cap', cur, hv, hb, hg, hnc, hcm, hcs, ht⟩
  · cases h0
  · cases hv
    refine ⟨.inr ⟨g, cap, cur, rfl, rfl, hg, hnc, hcm, hcs, fun j hj => ?_⟩, rfl⟩
    have key : ∀ t, t < d.size * 2 → cur[t]? = (flatP d.toList)[t]? := fun t h => by
      rw [← ht, List.getElem?_take, if_pos h, Array.getElem?_toList]
    obtain ⟨c, e⟩ := flatP_get d.toList j (by simpa using hj)
    rw [key _ (by omega), key _ (by omega), getElem!_pos d _ hj]
    simp at c e
    exact ⟨c, e⟩
theorem Try.infoPair : (Try.prog.info? 99).map (fun i => (i.zero, i.size, i.bytes)) = some (some (.agg #[.int .i64 0, .int .i64 0]), 2, 16) := by kernel_rfl

theorem Heap.push {d : Array (Int × Int)} (h : Heap d) (x : Int × Int) : Up (d.push x) d.size := by
  have get : ∀ t, t < d.size → (d.push x)[t]! = d[t]! := fun t ht => by
    rw [getElem!_pos (d.push x) t (by simp; omega), getElem!_pos d t ht, Array.getElem_push_lt]
  refine ⟨fun t h1 h2 hn => ?_, fun t h1 h2 he _ => ?_⟩
  · have h2' : t < d.size := by simp at h2; omega
    have hp : par t < t := by unfold par; omega
    rw [get t h2', get _ (by omega)]
    exact h t h1 h2'
  · have hp : par t < t := by unfold par; omega
    simp at h2
    omega
end Go.Proofs.Ytbolpjahmmjllaa
