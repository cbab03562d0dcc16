/- What Mul of package checked, and of the document's answer, returns for any two numbers of 64 bits: the product if it fits, else 0. -/
import Derived.Test.YtjgeggeanigaaaaShift
namespace Go.Proofs.Ytjgeggeanigaaaa
open Go.RowKit
set_option linter.unusedVariables false

theorem mul_any (a b : Int) (w : World) (ha1 : -9223372036854775808 ≤ a) (ha2 : a ≤ 9223372036854775807) (hb1 : -9223372036854775808 ≤ b) (hb2 : b ≤ 9223372036854775807) :
    Calls Try.prog 22 #[.int .i64 a, .int .i64 b] w fun e w' => e = .returned (fitR (a * b)) ∧ w = w' := by
  by_cases h0 : b = 0
  · subst h0
    rw [Int.mul_zero, fitR_yes (by omega)]
    go_enter Try.func22, Try.ntmps22
    go_wp2
    go_ret2; exact ⟨rfl, rfl⟩
  by_cases h1 : b = -1
  · subst h1
    have e : a * -1 = -a := by omega
    rw [e]; clear e
    go_enter Try.func22, Try.ntmps22
    go_wp2_with (go_at_call 19; refine (neg_any _ _ (by omega) (by omega)).mono ?_; rintro e w' ⟨rfl, rfl⟩; unfold fitR)
    go_ret2; exact ⟨rfl, rfl⟩
  by_cases h : -9223372036854775808 ≤ a * b ∧ a * b ≤ 9223372036854775807
  · rw [fitR_yes h]
    have ht : (wrap64 ((wrap64 (a * b)).tdiv b) != a) = false := by rw [mul_back h0 ⟨ha1, ha2⟩ h]; simp
    have HW := Lib.hid (IntWalk.wrap64_in _ h)
    clear h
    go_enter Try.func22, Try.ntmps22
    go_wp2
    go_ret2; exact ⟨ret_eq (tup_eq HW.out), rfl⟩
  · rw [fitR_no h]
    have ht : (wrap64 ((wrap64 (a * b)).tdiv b) != a) = true := by have := mul_off h0 h1 ⟨hb1, hb2⟩ h; simp [this]
    clear h
    go_enter Try.func22, Try.ntmps22
    go_wp2
    go_ret2; exact ⟨rfl, rfl⟩

/-- A number without its sign. -/
def mag (a : Int) : Int := if a < 0 then -a else a
theorem mag_bd {a : Int} (ha1 : -9223372036854775808 ≤ a) (ha2 : a ≤ 9223372036854775807) : 0 ≤ mag a ∧ mag a ≤ 9223372036854775808 := by unfold mag; split <;> omega
theorem size_any (a x : Int) (w : World) (hx : mag a = x) (ha1 : -9223372036854775808 ≤ a) (ha2 : a ≤ 9223372036854775807) :
    Calls Try.prog 43 #[.int .i64 a] w fun e w' => e = .returned (.int .u64 x) ∧ w = w' := by
  subst hx
  by_cases h : a < 0
  · have H := Lib.hid (show -(a + 1) + 1 = mag a by unfold mag; rw [if_pos h]; omega)
    go_enter Try.func43, Try.ntmps43
    go_wp2
    go_ret
    exact ⟨ret_eq (by rw [← H.out]; rfl), rfl⟩
  · rw [show mag a = a by unfold mag; rw [if_neg h]]
    have h' : 0 ≤ a := by omega
    clear h
    go_enter Try.func43, Try.ntmps43
    go_wp2
    go_ret
    exact ⟨rfl, rfl⟩
theorem halves (x y : Int) : x * y = x / 4294967296 * (y / 4294967296) * 18446744073709551616 + (x / 4294967296 * (y % 4294967296) + x % 4294967296 * (y / 4294967296)) * 4294967296 + x % 4294967296 * (y % 4294967296) := by
  have ex := Int.mul_ediv_add_emod x 4294967296
  have ey := Int.mul_ediv_add_emod y 4294967296
  generalize x / 4294967296 = xh at *
  generalize x % 4294967296 = xl at *
  generalize y / 4294967296 = yh at *
  generalize y % 4294967296 = yl at *
  subst ex ey
  grind
theorem mul_bd {p q A B : Int} (hp1 : 0 ≤ p) (hp2 : p ≤ A) (hq1 : 0 ≤ q) (hq2 : q ≤ B) : 0 ≤ p * q ∧ p * q ≤ A * B :=
  ⟨Int.mul_nonneg hp1 hq1, Int.mul_le_mul hp2 hq2 hq1 (by omega)⟩

set_option maxHeartbeats 1000000 in
theorem mulRef_neg (a b x y : Int) (w : World) (ha1 : -9223372036854775808 ≤ a) (ha2 : a ≤ 9223372036854775807) (hb1 : -9223372036854775808 ≤ b) (hb2 : b ≤ 9223372036854775807)
    (HX : Hid (mag a = x)) (HY : Hid (mag b = y)) (hx1 : 0 ≤ x) (hx2 : x ≤ 9223372036854775808) (hy1 : 0 ≤ y) (hy2 : y ≤ 9223372036854775808)
    (hg : (!(decide (a < 0) == decide (b < 0))) = true) (HP : Hid (a * b = -(x * y))) :
    Calls Try.prog 23 #[.int .i64 a, .int .i64 b] w fun e w' => e = .returned (fitR (a * b)) ∧ w = w' := by
  have HH := Lib.hid (halves x y)
  obtain ⟨m11, m12⟩ := mul_bd (p := x / 4294967296) (q := y % 4294967296) (A := 2147483648) (B := 4294967295) (by omega) (by omega) (by omega) (by omega)
  obtain ⟨m21, m22⟩ := mul_bd (p := x % 4294967296) (q := y / 4294967296) (A := 4294967295) (B := 2147483648) (by omega) (by omega) (by omega) (by omega)
  obtain ⟨l1, l2⟩ := mul_bd (p := x % 4294967296) (q := y % 4294967296) (A := 4294967295) (B := 4294967295) (by omega) (by omega) (by omega) (by omega)
  obtain ⟨k1, k2⟩ := mul_bd (p := x / 4294967296) (q := y / 4294967296) (A := 2147483648) (B := 2147483648) (by omega) (by omega) (by omega) (by omega)
  have ebx := u64_and32 x
  have eby := u64_and32 y
  by_cases c1 : 0 < x / 4294967296 ∧ 0 < y / 4294967296
  · obtain ⟨c1, c2⟩ := c1
    have k3 : 1 ≤ x / 4294967296 * (y / 4294967296) := by have := Int.mul_le_mul (show (1 : Int) ≤ x / 4294967296 by omega) (show (1 : Int) ≤ y / 4294967296 by omega) (by omega) (by omega); omega
    have hbig : 18446744073709551616 ≤ x * y := by rw [HH.out]; omega
    rw [fitR_no (x := a * b) (by rw [HP.out]; omega)]
    clear hbig k3
    go_enter Try.func23, Try.ntmps23
    go_wp2_with (go_at_call 43; first | ((with_reducible refine (size_any a x _ HX.out ha1 ha2).mono ?_); rintro e w' ⟨rfl, rfl⟩) | ((with_reducible refine (size_any b y _ HY.out hb1 hb2).mono ?_); rintro e w' ⟨rfl, rfl⟩))
    all_goals (go_ret2; exact ⟨rfl, rfl⟩)
  have hz : x / 4294967296 * (y / 4294967296) = 0 := by
    by_cases h : x / 4294967296 = 0
    · rw [h, Int.zero_mul]
    · rw [show y / 4294967296 = 0 by omega, Int.mul_zero]
  have HS : Hid (x * y = (x / 4294967296 * (y % 4294967296) + x % 4294967296 * (y / 4294967296)) * 4294967296 + x % 4294967296 * (y % 4294967296)) := Lib.hid (by rw [HH.out, hz]; omega)
  have hmm : x / 4294967296 * (y % 4294967296) + x % 4294967296 * (y / 4294967296) ≤ 9223372036854775807 := by
    by_cases h : x / 4294967296 = 0
    · have : x / 4294967296 * (y % 4294967296) = 0 := by rw [h, Int.zero_mul]
      omega
    · have : x % 4294967296 * (y / 4294967296) = 0 := by rw [show y / 4294967296 = 0 by omega, Int.mul_zero]
      omega
  have ht : (decide (0 < x / 4294967296) && decide (0 < y / 4294967296)) = false := by simp; omega
  clear c1 hz HH k1 k2
  have ht2 : 0 < x / 4294967296 → y / 4294967296 ≤ 0 := by intro h; simp at ht; omega
  clear ht
  by_cases c2 : 4294967296 ≤ x / 4294967296 * (y % 4294967296) + x % 4294967296 * (y / 4294967296)
  · have hbig : 18446744073709551616 ≤ x * y := by rw [HS.out]; omega
    rw [fitR_no (x := a * b) (by rw [HP.out]; omega)]
    clear hbig
    by_cases c3 : 0 < x / 4294967296
    · have c4 := ht2 c3
      clear ht2
      go_enter Try.func23, Try.ntmps23
      go_wp2_with (go_at_call 43; first | ((with_reducible refine (size_any a x _ HX.out ha1 ha2).mono ?_); rintro e w' ⟨rfl, rfl⟩) | ((with_reducible refine (size_any b y _ HY.out hb1 hb2).mono ?_); rintro e w' ⟨rfl, rfl⟩))
      all_goals (go_ret2; exact ⟨rfl, rfl⟩)
    · clear ht2
      go_enter Try.func23, Try.ntmps23
      go_wp2_with (go_at_call 43; first | ((with_reducible refine (size_any a x _ HX.out ha1 ha2).mono ?_); rintro e w' ⟨rfl, rfl⟩) | ((with_reducible refine (size_any b y _ HY.out hb1 hb2).mono ?_); rintro e w' ⟨rfl, rfl⟩))
      all_goals (go_ret2; exact ⟨rfl, rfl⟩)
  by_cases c6 : 18446744073709551616 ≤ (x / 4294967296 * (y % 4294967296) + x % 4294967296 * (y / 4294967296)) * 4294967296 + x % 4294967296 * (y % 4294967296)
  · have hbig : 18446744073709551616 ≤ x * y := by rw [HS.out]; exact c6
    rw [fitR_no (x := a * b) (by rw [HP.out]; omega)]
    have c7 : IntKind.u64.wrap ((x / 4294967296 * (y % 4294967296) + x % 4294967296 * (y / 4294967296)) * 4294967296 + x % 4294967296 * (y % 4294967296)) < x % 4294967296 * (y % 4294967296) := by rw [IntKind.wrap_u64]; omega
    clear hbig c6
    by_cases c3 : 0 < x / 4294967296
    · have c4 := ht2 c3
      clear ht2
      go_enter Try.func23, Try.ntmps23
      go_wp2_with (go_at_call 43; first | ((with_reducible refine (size_any a x _ HX.out ha1 ha2).mono ?_); rintro e w' ⟨rfl, rfl⟩) | ((with_reducible refine (size_any b y _ HY.out hb1 hb2).mono ?_); rintro e w' ⟨rfl, rfl⟩))
      all_goals (go_ret2; exact ⟨rfl, rfl⟩)
    · clear ht2
      go_enter Try.func23, Try.ntmps23
      go_wp2_with (go_at_call 43; first | ((with_reducible refine (size_any a x _ HX.out ha1 ha2).mono ?_); rintro e w' ⟨rfl, rfl⟩) | ((with_reducible refine (size_any b y _ HY.out hb1 hb2).mono ?_); rintro e w' ⟨rfl, rfl⟩))
      all_goals (go_ret2; exact ⟨rfl, rfl⟩)
  replace c6 : (x / 4294967296 * (y % 4294967296) + x % 4294967296 * (y / 4294967296)) * 4294967296 + x % 4294967296 * (y % 4294967296) ≤ 18446744073709551615 := by omega
  by_cases c8 : 9223372036854775808 < (x / 4294967296 * (y % 4294967296) + x % 4294967296 * (y / 4294967296)) * 4294967296 + x % 4294967296 * (y % 4294967296)
  · have hbig : 9223372036854775808 < x * y := by rw [HS.out]; exact c8
    rw [fitR_no (x := a * b) (by rw [HP.out]; omega)]
    clear hbig
    by_cases c3 : 0 < x / 4294967296
    · have c4 := ht2 c3
      clear ht2
      go_enter Try.func23, Try.ntmps23
      go_wp2_with (go_at_call 43; first | ((with_reducible refine (size_any a x _ HX.out ha1 ha2).mono ?_); rintro e w' ⟨rfl, rfl⟩) | ((with_reducible refine (size_any b y _ HY.out hb1 hb2).mono ?_); rintro e w' ⟨rfl, rfl⟩))
      all_goals (go_ret2; exact ⟨rfl, rfl⟩)
    · clear ht2
      go_enter Try.func23, Try.ntmps23
      go_wp2_with (go_at_call 43; first | ((with_reducible refine (size_any a x _ HX.out ha1 ha2).mono ?_); rintro e w' ⟨rfl, rfl⟩) | ((with_reducible refine (size_any b y _ HY.out hb1 hb2).mono ?_); rintro e w' ⟨rfl, rfl⟩))
      all_goals (go_ret2; exact ⟨rfl, rfl⟩)
  replace c8 : (x / 4294967296 * (y % 4294967296) + x % 4294967296 * (y / 4294967296)) * 4294967296 + x % 4294967296 * (y % 4294967296) ≤ 9223372036854775808 := by omega
  have HE : Hid (a * b = -((x / 4294967296 * (y % 4294967296) + x % 4294967296 * (y / 4294967296)) * 4294967296 + x % 4294967296 * (y % 4294967296))) := Lib.hid (by rw [HP.out, HS.out])
  rw [fitR_yes (x := a * b) (by rw [HE.out]; omega), HE.out]
  ·
    by_cases c3 : 0 < x / 4294967296
    · have c4 := ht2 c3
      clear ht2
      go_enter Try.func23, Try.ntmps23
      go_wp2_with (go_at_call 43; first | ((with_reducible refine (size_any a x _ HX.out ha1 ha2).mono ?_); rintro e w' ⟨rfl, rfl⟩) | ((with_reducible refine (size_any b y _ HY.out hb1 hb2).mono ?_); rintro e w' ⟨rfl, rfl⟩))
      all_goals (go_ret2; exact ⟨ret_eq (tup_eq (by omega)), rfl⟩)
    · clear ht2
      go_enter Try.func23, Try.ntmps23
      go_wp2_with (go_at_call 43; first | ((with_reducible refine (size_any a x _ HX.out ha1 ha2).mono ?_); rintro e w' ⟨rfl, rfl⟩) | ((with_reducible refine (size_any b y _ HY.out hb1 hb2).mono ?_); rintro e w' ⟨rfl, rfl⟩))
      all_goals (go_ret2; exact ⟨ret_eq (tup_eq (by omega)), rfl⟩)

set_option maxHeartbeats 1000000 in
theorem mulRef_pos (a b x y : Int) (w : World) (ha1 : -9223372036854775808 ≤ a) (ha2 : a ≤ 9223372036854775807) (hb1 : -9223372036854775808 ≤ b) (hb2 : b ≤ 9223372036854775807)
    (HX : Hid (mag a = x)) (HY : Hid (mag b = y)) (hx1 : 0 ≤ x) (hx2 : x ≤ 9223372036854775808) (hy1 : 0 ≤ y) (hy2 : y ≤ 9223372036854775808)
    (hg : (!(decide (a < 0) == decide (b < 0))) = false) (HP : Hid (a * b = x * y)) :
    Calls Try.prog 23 #[.int .i64 a, .int .i64 b] w fun e w' => e = .returned (fitR (a * b)) ∧ w = w' := by
  have HH := Lib.hid (halves x y)
  obtain ⟨m11, m12⟩ := mul_bd (p := x / 4294967296) (q := y % 4294967296) (A := 2147483648) (B := 4294967295) (by omega) (by omega) (by omega) (by omega)
  obtain ⟨m21, m22⟩ := mul_bd (p := x % 4294967296) (q := y / 4294967296) (A := 4294967295) (B := 2147483648) (by omega) (by omega) (by omega) (by omega)
  obtain ⟨l1, l2⟩ := mul_bd (p := x % 4294967296) (q := y % 4294967296) (A := 4294967295) (B := 4294967295) (by omega) (by omega) (by omega) (by omega)
  obtain ⟨k1, k2⟩ := mul_bd (p := x / 4294967296) (q := y / 4294967296) (A := 2147483648) (B := 2147483648) (by omega) (by omega) (by omega) (by omega)
  have ebx := u64_and32 x
  have eby := u64_and32 y
  by_cases c1 : 0 < x / 4294967296 ∧ 0 < y / 4294967296
  · obtain ⟨c1, c2⟩ := c1
    have k3 : 1 ≤ x / 4294967296 * (y / 4294967296) := by have := Int.mul_le_mul (show (1 : Int) ≤ x / 4294967296 by omega) (show (1 : Int) ≤ y / 4294967296 by omega) (by omega) (by omega); omega
    have hbig : 18446744073709551616 ≤ x * y := by rw [HH.out]; omega
    rw [fitR_no (x := a * b) (by rw [HP.out]; omega)]
    clear hbig k3
    go_enter Try.func23, Try.ntmps23
    go_wp2_with (go_at_call 43; first | ((with_reducible refine (size_any a x _ HX.out ha1 ha2).mono ?_); rintro e w' ⟨rfl, rfl⟩) | ((with_reducible refine (size_any b y _ HY.out hb1 hb2).mono ?_); rintro e w' ⟨rfl, rfl⟩))
    all_goals (go_ret2; exact ⟨rfl, rfl⟩)
  have hz : x / 4294967296 * (y / 4294967296) = 0 := by
    by_cases h : x / 4294967296 = 0
    · rw [h, Int.zero_mul]
    · rw [show y / 4294967296 = 0 by omega, Int.mul_zero]
  have HS : Hid (x * y = (x / 4294967296 * (y % 4294967296) + x % 4294967296 * (y / 4294967296)) * 4294967296 + x % 4294967296 * (y % 4294967296)) := Lib.hid (by rw [HH.out, hz]; omega)
  have hmm : x / 4294967296 * (y % 4294967296) + x % 4294967296 * (y / 4294967296) ≤ 9223372036854775807 := by
    by_cases h : x / 4294967296 = 0
    · have : x / 4294967296 * (y % 4294967296) = 0 := by rw [h, Int.zero_mul]
      omega
    · have : x % 4294967296 * (y / 4294967296) = 0 := by rw [show y / 4294967296 = 0 by omega, Int.mul_zero]
      omega
  have ht : (decide (0 < x / 4294967296) && decide (0 < y / 4294967296)) = false := by simp; omega
  clear c1 hz HH k1 k2
  have ht2 : 0 < x / 4294967296 → y / 4294967296 ≤ 0 := by intro h; simp at ht; omega
  clear ht
  by_cases c2 : 4294967296 ≤ x / 4294967296 * (y % 4294967296) + x % 4294967296 * (y / 4294967296)
  · have hbig : 18446744073709551616 ≤ x * y := by rw [HS.out]; omega
    rw [fitR_no (x := a * b) (by rw [HP.out]; omega)]
    clear hbig
    by_cases c3 : 0 < x / 4294967296
    · have c4 := ht2 c3
      clear ht2
      go_enter Try.func23, Try.ntmps23
      go_wp2_with (go_at_call 43; first | ((with_reducible refine (size_any a x _ HX.out ha1 ha2).mono ?_); rintro e w' ⟨rfl, rfl⟩) | ((with_reducible refine (size_any b y _ HY.out hb1 hb2).mono ?_); rintro e w' ⟨rfl, rfl⟩))
      all_goals (go_ret2; exact ⟨rfl, rfl⟩)
    · clear ht2
      go_enter Try.func23, Try.ntmps23
      go_wp2_with (go_at_call 43; first | ((with_reducible refine (size_any a x _ HX.out ha1 ha2).mono ?_); rintro e w' ⟨rfl, rfl⟩) | ((with_reducible refine (size_any b y _ HY.out hb1 hb2).mono ?_); rintro e w' ⟨rfl, rfl⟩))
      all_goals (go_ret2; exact ⟨rfl, rfl⟩)
  by_cases c6 : 18446744073709551616 ≤ (x / 4294967296 * (y % 4294967296) + x % 4294967296 * (y / 4294967296)) * 4294967296 + x % 4294967296 * (y % 4294967296)
  · have hbig : 18446744073709551616 ≤ x * y := by rw [HS.out]; exact c6
    rw [fitR_no (x := a * b) (by rw [HP.out]; omega)]
    have c7 : IntKind.u64.wrap ((x / 4294967296 * (y % 4294967296) + x % 4294967296 * (y / 4294967296)) * 4294967296 + x % 4294967296 * (y % 4294967296)) < x % 4294967296 * (y % 4294967296) := by rw [IntKind.wrap_u64]; omega
    clear hbig c6
    by_cases c3 : 0 < x / 4294967296
    · have c4 := ht2 c3
      clear ht2
      go_enter Try.func23, Try.ntmps23
      go_wp2_with (go_at_call 43; first | ((with_reducible refine (size_any a x _ HX.out ha1 ha2).mono ?_); rintro e w' ⟨rfl, rfl⟩) | ((with_reducible refine (size_any b y _ HY.out hb1 hb2).mono ?_); rintro e w' ⟨rfl, rfl⟩))
      all_goals (go_ret2; exact ⟨rfl, rfl⟩)
    · clear ht2
      go_enter Try.func23, Try.ntmps23
      go_wp2_with (go_at_call 43; first | ((with_reducible refine (size_any a x _ HX.out ha1 ha2).mono ?_); rintro e w' ⟨rfl, rfl⟩) | ((with_reducible refine (size_any b y _ HY.out hb1 hb2).mono ?_); rintro e w' ⟨rfl, rfl⟩))
      all_goals (go_ret2; exact ⟨rfl, rfl⟩)
  replace c6 : (x / 4294967296 * (y % 4294967296) + x % 4294967296 * (y / 4294967296)) * 4294967296 + x % 4294967296 * (y % 4294967296) ≤ 18446744073709551615 := by omega
  by_cases c8 : 9223372036854775807 < (x / 4294967296 * (y % 4294967296) + x % 4294967296 * (y / 4294967296)) * 4294967296 + x % 4294967296 * (y % 4294967296)
  · have hbig : 9223372036854775807 < x * y := by rw [HS.out]; exact c8
    rw [fitR_no (x := a * b) (by rw [HP.out]; omega)]
    clear hbig
    by_cases c3 : 0 < x / 4294967296
    · have c4 := ht2 c3
      clear ht2
      go_enter Try.func23, Try.ntmps23
      go_wp2_with (go_at_call 43; first | ((with_reducible refine (size_any a x _ HX.out ha1 ha2).mono ?_); rintro e w' ⟨rfl, rfl⟩) | ((with_reducible refine (size_any b y _ HY.out hb1 hb2).mono ?_); rintro e w' ⟨rfl, rfl⟩))
      all_goals (go_ret2; exact ⟨rfl, rfl⟩)
    · clear ht2
      go_enter Try.func23, Try.ntmps23
      go_wp2_with (go_at_call 43; first | ((with_reducible refine (size_any a x _ HX.out ha1 ha2).mono ?_); rintro e w' ⟨rfl, rfl⟩) | ((with_reducible refine (size_any b y _ HY.out hb1 hb2).mono ?_); rintro e w' ⟨rfl, rfl⟩))
      all_goals (go_ret2; exact ⟨rfl, rfl⟩)
  replace c8 : (x / 4294967296 * (y % 4294967296) + x % 4294967296 * (y / 4294967296)) * 4294967296 + x % 4294967296 * (y % 4294967296) ≤ 9223372036854775807 := by omega
  have HE : Hid (a * b = (x / 4294967296 * (y % 4294967296) + x % 4294967296 * (y / 4294967296)) * 4294967296 + x % 4294967296 * (y % 4294967296)) := Lib.hid (by rw [HP.out, HS.out])
  rw [fitR_yes (x := a * b) (by rw [HE.out]; omega), HE.out]
  ·
    by_cases c3 : 0 < x / 4294967296
    · have c4 := ht2 c3
      clear ht2
      go_enter Try.func23, Try.ntmps23
      go_wp2_with (go_at_call 43; first | ((with_reducible refine (size_any a x _ HX.out ha1 ha2).mono ?_); rintro e w' ⟨rfl, rfl⟩) | ((with_reducible refine (size_any b y _ HY.out hb1 hb2).mono ?_); rintro e w' ⟨rfl, rfl⟩))
      all_goals (go_ret2; exact ⟨ret_eq (tup_eq (by omega)), rfl⟩)
    · clear ht2
      go_enter Try.func23, Try.ntmps23
      go_wp2_with (go_at_call 43; first | ((with_reducible refine (size_any a x _ HX.out ha1 ha2).mono ?_); rintro e w' ⟨rfl, rfl⟩) | ((with_reducible refine (size_any b y _ HY.out hb1 hb2).mono ?_); rintro e w' ⟨rfl, rfl⟩))
      all_goals (go_ret2; exact ⟨ret_eq (tup_eq (by omega)), rfl⟩)

theorem mulRef_any (a b : Int) (w : World) (ha1 : -9223372036854775808 ≤ a) (ha2 : a ≤ 9223372036854775807) (hb1 : -9223372036854775808 ≤ b) (hb2 : b ≤ 9223372036854775807) :
    Calls Try.prog 23 #[.int .i64 a, .int .i64 b] w fun e w' => e = .returned (fitR (a * b)) ∧ w = w' := by
  obtain ⟨hx1, hx2⟩ := mag_bd ha1 ha2
  obtain ⟨hy1, hy2⟩ := mag_bd hb1 hb2
  by_cases h1 : a < 0
  · by_cases h2 : b < 0
    · exact mulRef_pos a b _ _ w ha1 ha2 hb1 hb2 (Lib.hid rfl) (Lib.hid rfl) hx1 hx2 hy1 hy2 (by simp [h1, h2]) (Lib.hid (by unfold mag; rw [if_pos h1, if_pos h2, Int.neg_mul_neg]))
    · exact mulRef_neg a b _ _ w ha1 ha2 hb1 hb2 (Lib.hid rfl) (Lib.hid rfl) hx1 hx2 hy1 hy2 (by simp [h1, h2]) (Lib.hid (by unfold mag; rw [if_pos h1, if_neg h2, Int.neg_mul, Int.neg_neg]))
  · by_cases h2 : b < 0
    · exact mulRef_neg a b _ _ w ha1 ha2 hb1 hb2 (Lib.hid rfl) (Lib.hid rfl) hx1 hx2 hy1 hy2 (by simp [h1, h2]) (Lib.hid (by unfold mag; rw [if_neg h1, if_pos h2, Int.mul_neg, Int.neg_neg]))
    · exact mulRef_pos a b _ _ w ha1 ha2 hb1 hb2 (Lib.hid rfl) (Lib.hid rfl) hx1 hx2 hy1 hy2 (by simp [h1, h2]) (Lib.hid (by unfold mag; rw [if_neg h1, if_neg h2]))
end Go.Proofs.Ytjgeggeanigaaaa
