/- What Shl, Shr, Narrow and Fits of package checked, and of the document's answer, return for any two numbers of 64 bits. -/
import Derived.Test.YtjgeggeanigaaaaAdd
import Derived.Test.YtjgeggeanigaaaaNumb
import Derived.LoopTactic
namespace Go.Proofs.Ytjgeggeanigaaaa
open Go.RowKit
set_option linter.unusedVariables false

theorem isShift_any (n : Int) (w : World) (hn1 : -9223372036854775808 ≤ n) (hn2 : n ≤ 9223372036854775807) :
    Calls Try.prog 44 #[.int .i64 n] w fun e w' => e = .returned (.bool (shB n)) ∧ w = w' := by
  by_cases h1 : n < 0
  · rw [shB_no (Or.inl h1)]
    go_enter Try.func44, Try.ntmps44
    go_wp2
    all_goals (go_ret; exact ⟨rfl, rfl⟩)
  by_cases h2 : 63 < n
  · rw [shB_no (Or.inr h2)]
    have h3 : decide (n < 64) = false := decide_eq_false (by omega)
    go_enter Try.func44, Try.ntmps44
    go_wp2
    all_goals (go_ret; exact ⟨rfl, rfl⟩)
  rw [shB_yes (by omega) (by omega)]
  have h3 : decide (n < 64) = true := decide_eq_true (by omega)
  go_enter Try.func44, Try.ntmps44
  go_wp2
  all_goals (go_ret; exact ⟨rfl, rfl⟩)

theorem shl_any (a n : Int) (w : World) (ha1 : -9223372036854775808 ≤ a) (ha2 : a ≤ 9223372036854775807) (hn1 : -9223372036854775808 ≤ n) (hn2 : n ≤ 9223372036854775807) :
    Calls Try.prog 26 #[.int .i64 a, .int .i64 n] w fun e w' => e = .returned (shlR a n) ∧ w = w' := by
  by_cases h : n < 0 ∨ 63 < n
  · rw [shlR_out h]
    have H := Lib.hid (shB_no h)
    go_enter Try.func26, Try.ntmps26
    go_wp2_with (go_at_call 44; refine (isShift_any _ _ (by omega) (by omega)).mono ?_; rintro e w' ⟨rfl, rfl⟩; rw [H.out])
    all_goals (go_ret2; exact ⟨rfl, rfl⟩)
  have g1 : 0 ≤ n := by omega
  have g2 : n ≤ 63 := by omega
  clear h
  have H := Lib.hid (shB_yes g1 g2)
  by_cases h : -9223372036854775808 ≤ a * 2 ^ n.toNat ∧ a * 2 ^ n.toNat ≤ 9223372036854775807
  · rw [shlR_yes g1 g2 h]
    have hb : (wrap64 (a * 2 ^ n.toNat) / 2 ^ n.toNat != a) = false := by rw [shl_back h]; simp
    have HW := Lib.hid (IntWalk.wrap64_in _ h)
    clear h
    go_enter Try.func26, Try.ntmps26
    go_wp2_with (go_at_call 44; refine (isShift_any _ _ (by omega) (by omega)).mono ?_; rintro e w' ⟨rfl, rfl⟩; rw [H.out])
    all_goals (go_ret2; exact ⟨ret_eq (tup_eq HW.out), rfl⟩)
  · rw [shlR_no g1 g2 h]
    have hb : (wrap64 (a * 2 ^ n.toNat) / 2 ^ n.toNat != a) = true := by have := shl_off (by omega) h; simp [this]
    clear h
    go_enter Try.func26, Try.ntmps26
    go_wp2_with (go_at_call 44; refine (isShift_any _ _ (by omega) (by omega)).mono ?_; rintro e w' ⟨rfl, rfl⟩; rw [H.out])
    all_goals (go_ret2; exact ⟨rfl, rfl⟩)

theorem shr_any (a n : Int) (w : World) (ha1 : -9223372036854775808 ≤ a) (ha2 : a ≤ 9223372036854775807) (hn1 : -9223372036854775808 ≤ n) (hn2 : n ≤ 9223372036854775807) :
    Calls Try.prog 28 #[.int .i64 a, .int .i64 n] w fun e w' => e = .returned (shrR a n) ∧ w = w' := by
  by_cases h : n < 0 ∨ 63 < n
  · rw [shrR_out h]
    have H := Lib.hid (shB_no h)
    go_enter Try.func28, Try.ntmps28
    go_wp2_with (go_at_call 44; refine (isShift_any _ _ (by omega) (by omega)).mono ?_; rintro e w' ⟨rfl, rfl⟩; rw [H.out])
    all_goals (go_ret2; exact ⟨rfl, rfl⟩)
  have g1 : 0 ≤ n := by omega
  have g2 : n ≤ 63 := by omega
  clear h
  have H := Lib.hid (shB_yes g1 g2)
  rw [shrR_yes g1 g2]
  go_enter Try.func28, Try.ntmps28
  go_wp2_with (go_at_call 44; refine (isShift_any _ _ (by omega) (by omega)).mono ?_; rintro e w' ⟨rfl, rfl⟩; rw [H.out])
  all_goals (go_ret2; exact ⟨rfl, rfl⟩)

theorem narrow_any (a n : Int) (w : World) (ha1 : -9223372036854775808 ≤ a) (ha2 : a ≤ 9223372036854775807) (hn1 : -9223372036854775808 ≤ n) (hn2 : n ≤ 9223372036854775807) :
    Calls Try.prog 30 #[.int .i64 a, .int .i64 n] w fun e w' => e = .returned (narR a n) ∧ w = w' := by
  by_cases h : n < 1 ∨ 64 < n
  · rw [narR_out h]
    go_enter Try.func30, Try.ntmps30
    go_wp2
    all_goals (go_ret2; exact ⟨rfl, rfl⟩)
  have g1 : 1 ≤ n := by omega
  have g2 : n ≤ 64 := by omega
  clear h
  rw [narR_yes g1 g2]
  have e : (64 - n).toNat = 64 - n.toNat := by omega
  have H := Lib.hid (e ▸ nar_shift (a := a) (k := n.toNat) (by omega) (by omega) : wrap64 (a * 2 ^ (64 - n).toNat) / 2 ^ (64 - n).toNat = nar n.toNat a)
  clear e
  go_enter Try.func30, Try.ntmps30
  go_wp2
  all_goals (go_ret2; exact ⟨ret_eq (tup_eq H.out), rfl⟩)

theorem fits_any (a n : Int) (w : World) (ha1 : -9223372036854775808 ≤ a) (ha2 : a ≤ 9223372036854775807) (hn1 : -9223372036854775808 ≤ n) (hn2 : n ≤ 9223372036854775807) :
    Calls Try.prog 32 #[.int .i64 a, .int .i64 n] w fun e w' => e = .returned (.bool (fitsB a n)) ∧ w = w' := by
  by_cases h : n < 1 ∨ 64 < n
  · rw [fitsB_out h]
    have H := Lib.hid (narR_out (a := a) h)
    go_enter Try.func32, Try.ntmps32
    go_wp2_with (go_at_call 30; refine (narrow_any _ _ _ (by omega) (by omega) (by omega) (by omega)).mono ?_; rintro e w' ⟨rfl, rfl⟩; rw [H.out])
    all_goals (go_ret; exact ⟨rfl, rfl⟩)
  have g1 : 1 ≤ n := by omega
  have g2 : n ≤ 64 := by omega
  clear h
  have H := Lib.hid (narR_yes (a := a) g1 g2)
  rw [fitsB_nar g1 g2]
  go_enter Try.func32, Try.ntmps32
  go_wp2_with (go_at_call 30; refine (narrow_any _ _ _ (by omega) (by omega) (by omega) (by omega)).mono ?_; rintro e w' ⟨rfl, rfl⟩; rw [H.out])
  all_goals (go_ret; exact ⟨rfl, rfl⟩)
end Go.Proofs.Ytjgeggeanigaaaa
