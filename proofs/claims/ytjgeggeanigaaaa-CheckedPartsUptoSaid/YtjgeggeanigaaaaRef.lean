/- What Shl, Shr, Narrow and Fits of the document's answer return for any two numbers of 64 bits; and both ways to make one number of two halves, and two halves of one. -/
import Derived.Test.YtjgeggeanigaaaaShift
namespace Go.Proofs.Ytjgeggeanigaaaa
open Go.RowKit
set_option linter.unusedVariables false

theorem shlRef_step {x m y : Int} (hm : 1 ≤ m) (h : x * 2 ^ m.toNat = y) : (x + x) * 2 ^ (m - 1).toNat = y := by
  rw [← h, show m.toNat = (m - 1).toNat + 1 by omega, Int.pow_succ]
  generalize (2 : Int) ^ (m - 1).toNat = p
  rw [Int.add_mul, Int.mul_comm p 2, ← Int.mul_assoc, Int.mul_comm x 2, Int.mul_assoc]; omega
theorem shlRef_any (a n : Int) (w : World) (ha1 : -9223372036854775808 ≤ a) (ha2 : a ≤ 9223372036854775807) (hn1 : -9223372036854775808 ≤ n) (hn2 : n ≤ 9223372036854775807) :
    Calls Try.prog 27 #[.int .i64 a, .int .i64 n] w fun e w' => e = .returned (shlR a n) ∧ w = w' := by
  by_cases h : n < 0 ∨ 63 < n
  · rw [shlR_out h]
    go_enter Try.func27, Try.ntmps27
    go_wp2
    all_goals (go_ret2; exact ⟨rfl, rfl⟩)
  have g1 : 0 ≤ n := by omega
  have g2 : n ≤ 63 := by omega
  clear h hn1 hn2
  go_enter Try.func27, Try.ntmps27
  go_wp2
  go_loop [0, 1] (fun u v => ∃ x m : Int, -9223372036854775808 ≤ x ∧ x ≤ 9223372036854775807 ∧ 0 ≤ m ∧ m ≤ 63 ∧ Hid (x * 2 ^ m.toNat = a * 2 ^ n.toNat) ∧ u = .int .i64 x ∧ v = .int .i64 m) (fun _ v => (intOf v).toNat)
  case atStart => exact ⟨a, n, ha1, ha2, g1, g2, Lib.hid rfl, rfl, rfl⟩
  case round =>
    obtain ⟨x, m, hx1, hx2, hm1, hm2, HX, rfl, rfl⟩ := hrel
    by_cases hlt : 0 < m
    · have HS := Lib.hid (shlRef_step (by omega) HX.out)
      by_cases hf : -9223372036854775808 ≤ x + x ∧ x + x ≤ 9223372036854775807
      · have HF := Lib.hid (fitR_yes hf)
        obtain ⟨hf1, hf2⟩ := hf
        go_wp2_with (go_at_call 16; refine (addRef_any _ _ _ (by omega) (by omega) (by omega) (by omega)).mono ?_; rintro e w' ⟨rfl, rfl⟩; rw [HF.out])
        go_round
        case rel => exact ⟨x + x, m - 1, hf1, hf2, by omega, by omega, HS, rfl, rfl⟩
        case measure => simp [intOf]; omega
      · have HF := Lib.hid (fitR_no hf)
        have HN := Lib.hid (shlR_no g1 g2 (HS.out ▸ big_up hf))
        clear hf
        go_wp2_with (go_at_call 16; refine (addRef_any _ _ _ (by omega) (by omega) (by omega) (by omega)).mono ?_; rintro e w' ⟨rfl, rfl⟩; rw [HF.out])
        go_ret2
        exact ⟨ret_eq HN.out.symm, rfl⟩
    · have HE : Hid (x = a * 2 ^ n.toNat) := Lib.hid (by rw [← HX.out, show m.toNat = 0 by omega, Int.pow_zero, Int.mul_one])
      go_wp2
      go_ret2
      exact ⟨ret_eq (by rw [shlR_yes g1 g2 (by rw [← HE.out]; exact ⟨hx1, hx2⟩)]; exact tup_eq HE.out), rfl⟩

theorem shrRef_step {x m y : Int} (hm : 1 ≤ m) (h : x / 2 ^ m.toNat = y) : (x / 2) / 2 ^ (m - 1).toNat = y := by
  rw [← h, show m.toNat = (m - 1).toNat + 1 by omega, Int.pow_succ]
  rw [Int.ediv_ediv_of_nonneg (by omega), Int.mul_comm]
theorem tmod_below {x p : Int} (h : x < 0) : x.tmod p = -((-x) % p) := by
  have e := Int.neg_tmod (-x) p
  rw [Int.neg_neg] at e
  rw [e, Int.tmod_eq_emod_of_nonneg (by omega)]
theorem tdiv_below {x p : Int} (h : x < 0) : x.tdiv p = -((-x) / p) := by
  have e := Int.neg_tdiv (-x) p
  rw [Int.neg_neg] at e
  rw [e, Int.tdiv_eq_ediv_of_nonneg (by omega)]
theorem tmod2_neg {x : Int} (h : x < 0) (h2 : x % 2 = 1) : x.tmod 2 < 0 := by rw [tmod_below h]; omega
theorem tmod2_pos {x : Int} (h : ¬ (x < 0 ∧ x % 2 = 1)) : 0 ≤ x.tmod 2 ∧ x.tmod 2 ≤ 1 ∧ (x - x.tmod 2).tdiv 2 = x / 2 ∧ (x < 0 → x.tmod 2 = 0) := by
  by_cases hx : x < 0
  · have e : x.tmod 2 = 0 := by rw [tmod_below hx]; omega
    rw [e, show x - 0 = x by omega, tdiv_below hx]; omega
  · rw [Int.tmod_eq_emod_of_nonneg (by omega), Int.tdiv_eq_ediv_of_nonneg (by omega)]; omega
theorem tdiv2_neg {x : Int} (h : x < 0) (h2 : x % 2 = 1) : (x - 1).tdiv 2 = x / 2 := by rw [tdiv_below (by omega)]; omega
theorem shrRef_any (a n : Int) (w : World) (ha1 : -9223372036854775808 ≤ a) (ha2 : a ≤ 9223372036854775807) (hn1 : -9223372036854775808 ≤ n) (hn2 : n ≤ 9223372036854775807) :
    Calls Try.prog 29 #[.int .i64 a, .int .i64 n] w fun e w' => e = .returned (shrR a n) ∧ w = w' := by
  by_cases h : n < 0 ∨ 63 < n
  · rw [shrR_out h]
    go_enter Try.func29, Try.ntmps29
    go_wp2
    all_goals (go_ret2; exact ⟨rfl, rfl⟩)
  have g1 : 0 ≤ n := by omega
  have g2 : n ≤ 63 := by omega
  clear h hn1 hn2
  go_enter Try.func29, Try.ntmps29
  go_wp2
  go_loop [0, 1] (fun u v => ∃ x m : Int, -9223372036854775808 ≤ x ∧ x ≤ 9223372036854775807 ∧ 0 ≤ m ∧ m ≤ 63 ∧ Hid (x / 2 ^ m.toNat = a / 2 ^ n.toNat) ∧ u = .int .i64 x ∧ v = .int .i64 m) (fun _ v => (intOf v).toNat)
  case atStart => exact ⟨a, n, ha1, ha2, g1, g2, Lib.hid rfl, rfl, rfl⟩
  case round =>
    obtain ⟨x, m, hx1, hx2, hm1, hm2, HX, rfl, rfl⟩ := hrel
    by_cases hlt : 0 < m
    · have HS := Lib.hid (shrRef_step (by omega) HX.out)
      by_cases hf : x < 0 ∧ x % 2 = 1
      · have ht := tmod2_neg hf.1 hf.2
        have hx3 : -9223372036854775808 ≤ x - 1 := by omega
        have HV := Lib.hid (tdiv2_neg hf.1 hf.2)
        clear hf
        go_wp2
        all_goals
          go_round
          case rel => exact ⟨x / 2, m - 1, by omega, by omega, by omega, by omega, HS, by rw [HV.out], rfl⟩
          case measure => simp [intOf]; omega
      · obtain ⟨ht, ht2, HV, ht3⟩ := tmod2_pos hf
        replace HV := Lib.hid HV
        have hx3 : -9223372036854775808 ≤ x - x.tmod 2 := by by_cases hx : x < 0; (have := ht3 hx; omega); omega
        clear hf ht3
        go_wp2
        all_goals
          go_round
          case rel => exact ⟨x / 2, m - 1, by omega, by omega, by omega, by omega, HS, by rw [HV.out], rfl⟩
          case measure => simp [intOf]; omega
    · have HE : Hid (x = a / 2 ^ n.toNat) := Lib.hid (by rw [← HX.out, show m.toNat = 0 by omega, Int.pow_zero, Int.ediv_one])
      go_wp2
      go_ret2
      exact ⟨ret_eq (by rw [shrR_yes g1 g2]; exact tup_eq HE.out), rfl⟩

theorem power_step {p m y : Int} (hm : 1 ≤ m) (h : p * 2 ^ m.toNat = y) : (p * 2) * 2 ^ (m - 1).toNat = y := by
  rw [← h, show m.toNat = (m - 1).toNat + 1 by omega, Int.pow_succ, Int.mul_comm ((2 : Int) ^ (m - 1).toNat) 2, Int.mul_assoc]
theorem power_bd {p m y : Int} (hp : 1 ≤ p) (h : p * 2 ^ m.toNat = y) : p ≤ y := by
  have := Int.mul_le_mul_of_nonneg_left (pow_pos2 m.toNat) (by omega : 0 ≤ p)
  omega
theorem power_any (n : Int) (w : World) (hn1 : 0 ≤ n) (hn2 : n ≤ 62) :
    Calls Try.prog 45 #[.int .i64 n] w fun e w' => e = .returned (.int .i64 (2 ^ n.toNat)) ∧ w = w' := by
  have hy : (2 : Int) ^ n.toNat ≤ 4611686018427387904 := by have := pow_le2 (show n.toNat ≤ 62 by omega); have h62 : (2 : Int) ^ 62 = 4611686018427387904 := by decide
                                                            omega
  go_enter Try.func45, Try.ntmps45
  go_wp2
  go_loop [0, 3] (fun v u => ∃ p m : Int, 1 ≤ p ∧ 0 ≤ m ∧ m ≤ 62 ∧ Hid (p * 2 ^ m.toNat = 2 ^ n.toNat) ∧ u = .int .i64 p ∧ v = .int .i64 m) (fun v _ => (intOf v).toNat)
  case atStart => exact ⟨1, n, by omega, hn1, hn2, Lib.hid (by rw [Int.one_mul]), rfl, rfl⟩
  case round =>
    obtain ⟨p, m, hp1, hm1, hm2, HX, rfl, rfl⟩ := hrel
    by_cases hlt : 0 < m
    · have HS := Lib.hid (power_step (by omega) HX.out)
      have hb := power_bd (by omega) HS.out
      go_wp2
      go_round
      case rel => exact ⟨p * 2, m - 1, by omega, by omega, by omega, HS, rfl, rfl⟩
      case measure => simp [intOf]; omega
    · have HE : Hid (p = 2 ^ n.toNat) := Lib.hid (by rw [← HX.out, show m.toNat = 0 by omega, Int.pow_zero, Int.mul_one])
      go_wp2
      go_ret
      exact ⟨ret_eq (by rw [← HE.out]; rfl), rfl⟩
end Go.Proofs.Ytjgeggeanigaaaa
