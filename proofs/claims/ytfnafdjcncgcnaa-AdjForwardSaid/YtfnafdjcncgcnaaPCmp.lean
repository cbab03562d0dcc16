/- The order of pairs as package pile has it: comparePairs tells of any two pairs which comes first; only new blocks are made. -/
import Derived.Test.YtfnafdjcncgcnaaPKept
import Derived.Test.YtfnafdjcncgcnaaRows
import Derived.Sort.Grow
namespace Go.Proofs.Ytfnafdjcncgcnaa
open Go.RowKit Go.Sort
set_option linter.unusedVariables false

/-- What cmp.Compare says of two numbers. -/
def cmpI (x y : Int) : Int := if x < y then -1 else if y < x then 1 else 0
/-- What comparePairs says of two pairs. -/
def cmpP (a b : Int × Int) : Int := if a.1 = b.1 then cmpI a.2 b.2 else cmpI a.1 b.1
/-- Does a pair come before another one? -/
def ltP (a b : Int × Int) : Bool := decide (a.1 < b.1 ∨ a.1 = b.1 ∧ a.2 < b.2)
theorem cmpP_lt (a b : Int × Int) : decide (cmpP a b < 0) = ltP a b := by
  unfold ltP cmpP cmpI
  apply decide_eq_decide.2
  repeat' split
  all_goals omega
theorem below_grow (w : World) (os : Array Obj) : Below w.heap.size w (grow w os) :=
  ⟨rfl, rfl, rfl, by simp [grow], fun k hk => by simp [grow, Array.getElem?_append_left hk]⟩

theorem nan_any (x : Int) (w : World) : Calls Try.prog 58 #[.int .i64 x] w fun e w' => e = .returned (.bool false) ∧ w = w' := by
  go_enter Try.func58, Try.ntmps58
  go_wp2
  go_ret
  exact ⟨by simp, rfl⟩
theorem cmpi_any (x y : Int) (w : World) : Calls Try.prog 57 #[.int .i64 x, .int .i64 y] w fun e w' => e = .returned (.int .i64 (cmpI x y)) ∧ w = w' := by
  by_cases h1 : x < y
  · have HE : Hid (cmpI x y = -1) := Lib.hid (by unfold cmpI; rw [if_pos h1])
    go_enter Try.func57, Try.ntmps57
    go_wp2_with (go_at_call 58; refine (nan_any _ _).mono ?_; rintro e w' ⟨rfl, rfl⟩)
    go_ret
    exact ⟨ret_int HE.out.symm, rfl⟩
  · by_cases h2 : y < x
    · have HE : Hid (cmpI x y = 1) := Lib.hid (by unfold cmpI; rw [if_neg h1, if_pos h2])
      go_enter Try.func57, Try.ntmps57
      go_wp2_with (go_at_call 58; refine (nan_any _ _).mono ?_; rintro e w' ⟨rfl, rfl⟩)
      go_ret
      exact ⟨ret_int HE.out.symm, rfl⟩
    · have HE : Hid (cmpI x y = 0) := Lib.hid (by unfold cmpI; rw [if_neg h1, if_neg h2])
      go_enter Try.func57, Try.ntmps57
      go_wp2_with (go_at_call 58; refine (nan_any _ _).mono ?_; rintro e w' ⟨rfl, rfl⟩)
      go_ret
      exact ⟨ret_int HE.out.symm, rfl⟩
theorem cmpg_any (a b : Int × Int) (w : World) : Calls Try.prog 55 #[.agg #[.int .i64 a.1, .int .i64 a.2], .agg #[.int .i64 b.1, .int .i64 b.2]] w fun e w' => e = .returned (.int .i64 (cmpP a b)) ∧ ∃ os, w' = grow w os := by
  by_cases h : a.1 = b.1
  · have HE : Hid (cmpP a b = cmpI a.2 b.2) := Lib.hid (by unfold cmpP; rw [if_pos h])
    obtain ⟨x, y⟩ := a
    obtain ⟨z, u⟩ := b
    simp only at h HE ⊢
    subst h
    go_enter Try.func55, Try.ntmps55
    go_wp2_with (go_at_call 57; refine (cmpi_any _ _ _).mono ?_; rintro e w' ⟨rfl, rfl⟩)
    go_ret
    exact ⟨ret_int HE.out.symm, _, by rw [alloc_eq_grow, alloc_eq_grow, grow_grow]⟩
  · have HE : Hid (cmpP a b = cmpI a.1 b.1) := Lib.hid (by unfold cmpP; rw [if_neg h])
    obtain ⟨x, y⟩ := a
    obtain ⟨z, u⟩ := b
    simp only at h HE ⊢
    have h1 : (x == z) = false := by simpa using h
    have h2 : (x != z) = true := by simpa using h
    clear h
    go_enter Try.func55, Try.ntmps55
    go_wp2_with (go_at_call 57; refine (cmpi_any _ _ _).mono ?_; rintro e w' ⟨rfl, rfl⟩)
    go_ret
    exact ⟨ret_int HE.out.symm, _, by rw [alloc_eq_grow, alloc_eq_grow, grow_grow]⟩
theorem cmpp_any (a b : Int × Int) (w : World) : Calls Try.prog 50 #[.agg #[.int .i64 a.1, .int .i64 a.2], .agg #[.int .i64 b.1, .int .i64 b.2]] w fun e w' => e = .returned (.int .i64 (cmpP a b)) ∧ ∃ os, w' = grow w os := by
  go_enter Try.func50, Try.ntmps50
  go_wp2_with (go_at_call 55; refine (cmpg_any a b _).mono ?_; rintro e w' ⟨rfl, os, rfl⟩)
  go_ret
  exact ⟨rfl, _, by rw [alloc_eq_grow, alloc_eq_grow, grow_grow, grow_grow]⟩
end Go.Proofs.Ytfnafdjcncgcnaa
