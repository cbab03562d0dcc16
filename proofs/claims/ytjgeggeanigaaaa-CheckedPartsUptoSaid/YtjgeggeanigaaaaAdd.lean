/- What Add, Sub and Neg of package checked, and of the document's answer, return for any two numbers of 64 bits: the sum, difference or negative if it fits, else 0. -/
import Derived.Test.YtjgeggeanigaaaaRows
import Derived.Test.YtjgeggeanigaaaaNum
import Derived.WalkKit
import Derived.Lib.Hide
import Derived.ProofKit
import Derived.Handy
namespace Go.Proofs.Ytjgeggeanigaaaa
open Go.RowKit

theorem addWrapped_any (a b : Int) (w : World) (ha1 : -9223372036854775808 ≤ a) (ha2 : a ≤ 9223372036854775807) (hb1 : -9223372036854775808 ≤ b) (hb2 : b ≤ 9223372036854775807) :
    Calls Try.prog 42 #[.int .i64 a, .int .i64 b] w fun e w' => e = .returned (wrR (a + b)) ∧ w = w' := by
  by_cases h1 : 9223372036854775807 < a + b
  · have hx := wrap_up h1 ha2 hb2
    go_enter Try.func42, Try.ntmps42
    go_wp2
    all_goals (go_ret2; exact ⟨ret_eq (wrR_up h1 (by omega)).symm, rfl⟩)
  by_cases h2 : a + b < -9223372036854775808
  · have hx := wrap_dn h2 ha1 hb1
    clear h1
    go_enter Try.func42, Try.ntmps42
    go_wp2
    all_goals (go_ret2; exact ⟨ret_eq (wrR_dn h2 (by omega)).symm, rfl⟩)
  replace h1 : a + b ≤ 9223372036854775807 := by omega
  replace h2 : -9223372036854775808 ≤ a + b := by omega
  go_enter Try.func42, Try.ntmps42
  go_wp2
  all_goals (go_ret2; exact ⟨ret_eq (wrR_in h2 h1).symm, rfl⟩)

theorem add_any (a b : Int) (w : World) (ha1 : -9223372036854775808 ≤ a) (ha2 : a ≤ 9223372036854775807) (hb1 : -9223372036854775808 ≤ b) (hb2 : b ≤ 9223372036854775807) :
    Calls Try.prog 15 #[.int .i64 a, .int .i64 b] w fun e w' => e = .returned (fitR (a + b)) ∧ w = w' := by
  by_cases h : -9223372036854775808 ≤ a + b ∧ a + b ≤ 9223372036854775807
  · rw [fitR_yes h]
    have H := Lib.hid (wrR_in h.1 h.2)
    go_enter Try.func15, Try.ntmps15
    go_wp2_with (go_at_call 42; refine (addWrapped_any _ _ _ (by omega) (by omega) (by omega) (by omega)).mono ?_; rintro e w' ⟨rfl, rfl⟩; rw [H.out])
    go_ret2; exact ⟨rfl, rfl⟩
  · rw [fitR_no h]
    have hn := wr_ne h
    go_enter Try.func15, Try.ntmps15
    go_wp2_with (go_at_call 42; refine (addWrapped_any _ _ _ (by omega) (by omega) (by omega) (by omega)).mono ?_; rintro e w' ⟨rfl, rfl⟩; unfold wrR)
    go_ret2; exact ⟨rfl, rfl⟩

theorem addRef_any (a b : Int) (w : World) (ha1 : -9223372036854775808 ≤ a) (ha2 : a ≤ 9223372036854775807) (hb1 : -9223372036854775808 ≤ b) (hb2 : b ≤ 9223372036854775807) :
    Calls Try.prog 16 #[.int .i64 a, .int .i64 b] w fun e w' => e = .returned (fitR (a + b)) ∧ w = w' := by
  go_enter Try.func16, Try.ntmps16
  go_wp2
  all_goals (go_ret2; first | exact ⟨ret_eq (fitR_yes (by omega)).symm, rfl⟩ | exact ⟨ret_eq (fitR_no (by omega)).symm, rfl⟩)

theorem sub_any (a b : Int) (w : World) (ha1 : -9223372036854775808 ≤ a) (ha2 : a ≤ 9223372036854775807) (hb1 : -9223372036854775808 ≤ b) (hb2 : b ≤ 9223372036854775807) :
    Calls Try.prog 17 #[.int .i64 a, .int .i64 b] w fun e w' => e = .returned (fitR (a - b)) ∧ w = w' := by
  by_cases h1 : 9223372036854775807 < a - b
  · have hx := wrap_subup h1 ha2 hb1
    go_enter Try.func17, Try.ntmps17
    go_wp2
    all_goals (go_ret2; exact ⟨ret_eq (fitR_no (by omega)).symm, rfl⟩)
  by_cases h2 : a - b < -9223372036854775808
  · have hx := wrap_subdn h2 ha1 hb2
    clear h1
    go_enter Try.func17, Try.ntmps17
    go_wp2
    all_goals (go_ret2; exact ⟨ret_eq (fitR_no (by omega)).symm, rfl⟩)
  replace h1 : a - b ≤ 9223372036854775807 := by omega
  replace h2 : -9223372036854775808 ≤ a - b := by omega
  go_enter Try.func17, Try.ntmps17
  go_wp2
  all_goals (go_ret2; exact ⟨ret_eq (fitR_yes ⟨h2, h1⟩).symm, rfl⟩)

theorem subRef_any (a b : Int) (w : World) (ha1 : -9223372036854775808 ≤ a) (ha2 : a ≤ 9223372036854775807) (hb1 : -9223372036854775808 ≤ b) (hb2 : b ≤ 9223372036854775807) :
    Calls Try.prog 18 #[.int .i64 a, .int .i64 b] w fun e w' => e = .returned (fitR (a - b)) ∧ w = w' := by
  go_enter Try.func18, Try.ntmps18
  go_wp2
  all_goals (go_ret2; first | exact ⟨ret_eq (fitR_yes (by omega)).symm, rfl⟩ | exact ⟨ret_eq (fitR_no (by omega)).symm, rfl⟩)

theorem neg_any (a : Int) (w : World) (ha1 : -9223372036854775808 ≤ a) (ha2 : a ≤ 9223372036854775807) :
    Calls Try.prog 19 #[.int .i64 a] w fun e w' => e = .returned (fitR (-a)) ∧ w = w' := by
  go_enter Try.func19, Try.ntmps19
  go_wp2_with (go_at_call 17; refine (sub_any _ _ _ (by omega) (by omega) (by omega) (by omega)).mono ?_; rintro e w' ⟨rfl, rfl⟩; unfold fitR)
  go_ret2; exact ⟨rfl, rfl⟩

theorem negRef_any (a : Int) (w : World) (ha1 : -9223372036854775808 ≤ a) (ha2 : a ≤ 9223372036854775807) :
    Calls Try.prog 20 #[.int .i64 a] w fun e w' => e = .returned (fitR (-a)) ∧ w = w' := by
  go_enter Try.func20, Try.ntmps20
  go_wp2_with (go_at_call 18; refine (subRef_any _ _ _ (by omega) (by omega) (by omega) (by omega)).mono ?_; rintro e w' ⟨rfl, rfl⟩; unfold fitR)
  go_ret2; exact ⟨rfl, rfl⟩
end Go.Proofs.Ytjgeggeanigaaaa
