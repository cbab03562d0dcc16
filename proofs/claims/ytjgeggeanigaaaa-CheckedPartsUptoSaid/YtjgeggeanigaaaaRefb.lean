/- What Narrow and Fits of the document's answer return for any two numbers of 64 bits; and both ways to make one number of two halves, and two halves of one. -/
import Derived.Test.YtjgeggeanigaaaaRef
namespace Go.Proofs.Ytjgeggeanigaaaa
open Go.RowKit
set_option linter.unusedVariables false

theorem tmod2_odd (h : Int) : (h.tmod 2 != 0) = (h % 2 != 0) := by
  by_cases hx : h < 0
  · rw [tmod_below hx, Bool.eq_iff_iff]; simp <;> omega
  · rw [Int.tmod_eq_emod_of_nonneg (by omega)]
theorem nar64 {a : Int} (ha1 : -9223372036854775808 ≤ a) (ha2 : a ≤ 9223372036854775807) : nar 64 a = a := by
  unfold nar; show (a + 2 ^ 63) % 2 ^ 64 - 2 ^ 63 = a; omega
theorem nar63 (a r : Int) (hr : a % 4611686018427387904 = r) : nar 63 a = if a / 4611686018427387904 % 2 != 0 then r - 4611686018427387904 else r := by
  unfold nar; show (a + 2 ^ 62) % 2 ^ 63 - 2 ^ 62 = _
  by_cases h : a / 4611686018427387904 % 2 = 0
  · rw [if_neg (by simp [h])]; omega
  · rw [if_pos (by simp [h])]; omega
theorem narR64 {a n : Int} (hn : n = 64) (ha1 : -9223372036854775808 ≤ a) (ha2 : a ≤ 9223372036854775807) : narR a n = .tuple #[.int .i64 a, .bool true] := by
  subst hn; rw [narR_yes (by omega) (by omega)]; exact tup_eq (nar64 ha1 ha2)
theorem narR63 {a r : Int} (hr : a % 4611686018427387904 = r) : narR a 63 = .tuple #[.int .i64 (if a / 4611686018427387904 % 2 != 0 then r - 4611686018427387904 else r), .bool true] := by
  rw [narR_yes (by omega) (by omega)]; exact tup_eq (nar63 a r hr)
theorem shr62 (a : Int) : shrR a 62 = .tuple #[.int .i64 (a / 4611686018427387904), .bool true] := by
  rw [shrR_yes (by omega) (by omega)]; rfl
theorem narrowRef_any (a n : Int) (w : World) (ha1 : -9223372036854775808 ≤ a) (ha2 : a ≤ 9223372036854775807) (hn1 : -9223372036854775808 ≤ n) (hn2 : n ≤ 9223372036854775807) :
    Calls Try.prog 31 #[.int .i64 a, .int .i64 n] w fun e w' => e = .returned (narR a n) ∧ w = w' := by
  by_cases h : n < 1 ∨ 64 < n
  · rw [narR_out h]
    go_enter Try.func31, Try.ntmps31
    go_wp2
    all_goals (go_ret2; exact ⟨rfl, rfl⟩)
  have g1 : 1 ≤ n := by omega
  have g2 : n ≤ 64 := by omega
  clear h hn1 hn2
  by_cases h64 : n = 64
  · rw [narR64 h64 ha1 ha2]
    subst h64
    go_enter Try.func31, Try.ntmps31
    go_wp2
    all_goals (go_ret2; exact ⟨rfl, rfl⟩)
  by_cases h63 : n = 63
  · subst h63
    have HO := Lib.hid (tmod2_odd (a / 4611686018427387904))
    have hb := tmod_bd (a := a) (p := 4611686018427387904) (by omega)
    obtain ⟨hb1, hb2⟩ := hb
    by_cases ht : a.tmod 4611686018427387904 < 0
    · rw [narR63 (tmod_neg (by omega) ht)]
      by_cases ho : a / 4611686018427387904 % 2 = 0
      · have h2 : ((a / 4611686018427387904).tmod 2 != 0) = false := by rw [HO.out]; simp [ho]
        rw [if_neg (by simp [ho])]
        clear ho
        go_enter Try.func31, Try.ntmps31
        go_wp2_with (go_at_call 29; refine (shrRef_any _ _ _ (by omega) (by omega) (by omega) (by omega)).mono ?_; rintro e w' ⟨rfl, rfl⟩; rw [shr62])
        go_ret2; exact ⟨rfl, rfl⟩
      · have h2 : ((a / 4611686018427387904).tmod 2 != 0) = true := by rw [HO.out]; simp [ho]
        rw [if_pos (by simp [ho])]
        clear ho
        go_enter Try.func31, Try.ntmps31
        go_wp2_with (go_at_call 29; refine (shrRef_any _ _ _ (by omega) (by omega) (by omega) (by omega)).mono ?_; rintro e w' ⟨rfl, rfl⟩; rw [shr62])
        go_ret2; exact ⟨ret_eq (tup_eq (by omega)), rfl⟩
    · have ht' : 0 ≤ a.tmod 4611686018427387904 := by omega
      clear ht
      rw [narR63 (tmod_pos (by omega) ht')]
      by_cases ho : a / 4611686018427387904 % 2 = 0
      · have h2 : ((a / 4611686018427387904).tmod 2 != 0) = false := by rw [HO.out]; simp [ho]
        rw [if_neg (by simp [ho])]
        clear ho
        go_enter Try.func31, Try.ntmps31
        go_wp2_with (go_at_call 29; refine (shrRef_any _ _ _ (by omega) (by omega) (by omega) (by omega)).mono ?_; rintro e w' ⟨rfl, rfl⟩; rw [shr62])
        go_ret2; exact ⟨rfl, rfl⟩
      · have h2 : ((a / 4611686018427387904).tmod 2 != 0) = true := by rw [HO.out]; simp [ho]
        rw [if_pos (by simp [ho])]
        clear ho
        go_enter Try.func31, Try.ntmps31
        go_wp2_with (go_at_call 29; refine (shrRef_any _ _ _ (by omega) (by omega) (by omega) (by omega)).mono ?_; rintro e w' ⟨rfl, rfl⟩; rw [shr62])
        go_ret2; exact ⟨ret_eq (tup_eq (by omega)), rfl⟩
  have g3 : n ≤ 62 := by omega
  clear h63 h64 g2
  have hp1 := pow_pos2 n.toNat
  have hp2 : (2 : Int) ^ n.toNat ≤ 4611686018427387904 := by have := pow_le2 (show n.toNat ≤ 62 by omega); have h62 : (2 : Int) ^ 62 = 4611686018427387904 := by decide
                                                             omega
  have hb := tmod_bd (a := a) hp1
  have HN := Lib.hid (nar_tmod (k := n.toNat) (by omega) a)
  rw [narR_yes (by omega) (by omega), HN.out]
  obtain ⟨hb1, hb2⟩ := hb
  by_cases ht : a.tmod (2 ^ n.toNat) < 0
  · have HT := Lib.hid (tmod_neg hp1 ht)
    rw [HT.out]
    go_enter Try.func31, Try.ntmps31
    go_wp2_with (go_at_call 45; refine (power_any _ _ (by omega) (by omega)).mono ?_; rintro e w' ⟨rfl, rfl⟩)
    all_goals (go_ret2; exact ⟨ret_eq (tup_eq (by omega)), rfl⟩)
  · have ht' : 0 ≤ a.tmod (2 ^ n.toNat) := by omega
    clear ht
    have HT := Lib.hid (tmod_pos hp1 ht')
    rw [HT.out]
    go_enter Try.func31, Try.ntmps31
    go_wp2_with (go_at_call 45; refine (power_any _ _ (by omega) (by omega)).mono ?_; rintro e w' ⟨rfl, rfl⟩)
    all_goals (go_ret2; exact ⟨ret_eq (tup_eq (by omega)), rfl⟩)

theorem fitsRef_any (a n : Int) (w : World) (ha1 : -9223372036854775808 ≤ a) (ha2 : a ≤ 9223372036854775807) (hn1 : -9223372036854775808 ≤ n) (hn2 : n ≤ 9223372036854775807) :
    Calls Try.prog 33 #[.int .i64 a, .int .i64 n] w fun e w' => e = .returned (.bool (fitsB a n)) ∧ w = w' := by
  by_cases h : n < 1 ∨ 64 < n
  · rw [fitsB_out h]
    go_enter Try.func33, Try.ntmps33
    go_wp2
    all_goals (go_ret; exact ⟨rfl, rfl⟩)
  have g1 : 1 ≤ n := by omega
  have g2 : n ≤ 64 := by omega
  clear h hn1 hn2
  by_cases h64 : n = 64
  · subst h64
    rw [fitsB_yes (by omega) (by omega) (by show -2 ^ 63 ≤ a ∧ a ≤ 2 ^ 63 - 1; omega)]
    go_enter Try.func33, Try.ntmps33
    go_wp2
    all_goals (go_ret; exact ⟨rfl, rfl⟩)
  have g3 : n ≤ 63 := by omega
  clear h64 g2
  have HE := Lib.hid (by omega : (n - 1).toNat = n.toNat - 1)
  have hp1 := pow_pos2 (n.toNat - 1)
  have hp2 : (2 : Int) ^ (n.toNat - 1) ≤ 4611686018427387904 := by have := pow_le2 (show n.toNat - 1 ≤ 62 by omega); have h62 : (2 : Int) ^ 62 = 4611686018427387904 := by decide
                                                                   omega
  by_cases h1 : -2 ^ (n.toNat - 1) ≤ a
  · by_cases h2 : a ≤ 2 ^ (n.toNat - 1) - 1
    · rw [fitsB_yes g1 (by omega) ⟨h1, h2⟩]
      go_enter Try.func33, Try.ntmps33
      go_wp2_with (go_at_call 45; refine (power_any _ _ (by omega) (by omega)).mono ?_; rintro e w' ⟨rfl, rfl⟩; rw [HE.out])
      all_goals (go_ret; exact ⟨by simp <;> omega, rfl⟩)
    · rw [fitsB_no (by omega)]
      go_enter Try.func33, Try.ntmps33
      go_wp2_with (go_at_call 45; refine (power_any _ _ (by omega) (by omega)).mono ?_; rintro e w' ⟨rfl, rfl⟩; rw [HE.out])
      all_goals (go_ret; exact ⟨by simp <;> omega, rfl⟩)
  · rw [fitsB_no (by omega)]
    go_enter Try.func33, Try.ntmps33
    go_wp2_with (go_at_call 45; refine (power_any _ _ (by omega) (by omega)).mono ?_; rintro e w' ⟨rfl, rfl⟩; rw [HE.out])
    all_goals (go_ret; exact ⟨rfl, rfl⟩)

theorem pack_any (a n : Int) (w : World) (ha1 : -2147483648 ≤ a) (ha2 : a ≤ 2147483647) (hn1 : -2147483648 ≤ n) (hn2 : n ≤ 2147483647) :
    Calls Try.prog 36 #[.int .i32 a, .int .i32 n] w fun e w' => e = .returned (.int .i64 (a * 4294967296 + n % 4294967296)) ∧ w = w' := by
  have H := Lib.hid (i64_or_join 32 (a * 4294967296) (n % 4294967296) (by omega) (by show a * 4294967296 % 4294967296 = 0; omega) (by omega) (by show n % 4294967296 < 4294967296; omega) (by omega) (by omega))
  go_enter Try.func36, Try.ntmps36
  go_wp2
  go_ret
  exact ⟨ret_eq (by rw [← H.out]; rfl), rfl⟩
theorem packRef_any (a n : Int) (w : World) (ha1 : -2147483648 ≤ a) (ha2 : a ≤ 2147483647) (hn1 : -2147483648 ≤ n) (hn2 : n ≤ 2147483647) :
    Calls Try.prog 37 #[.int .i32 a, .int .i32 n] w fun e w' => e = .returned (.int .i64 (a * 4294967296 + n % 4294967296)) ∧ w = w' := by
  by_cases h : n < 0
  · have H := Lib.hid (by omega : n % 4294967296 = n + 4294967296)
    rw [H.out]
    go_enter Try.func37, Try.ntmps37
    go_wp2
    go_ret
    exact ⟨rfl, rfl⟩
  · have h' : 0 ≤ n := by omega
    clear h
    have H := Lib.hid (by omega : n % 4294967296 = n)
    rw [H.out]
    go_enter Try.func37, Try.ntmps37
    go_wp2
    go_ret
    exact ⟨rfl, rfl⟩
theorem unpack_any (a : Int) (w : World) (ha1 : -9223372036854775808 ≤ a) (ha2 : a ≤ 9223372036854775807) :
    Calls Try.prog 34 #[.int .i64 a] w fun e w' => e = .returned (.tuple #[.int .i32 (a / 4294967296), .int .i32 (wrap32 a)]) ∧ w = w' := by
  go_enter Try.func34, Try.ntmps34
  go_wp2
  go_ret2
  exact ⟨rfl, rfl⟩
theorem nar32 (a : Int) : narR a 32 = .tuple #[.int .i64 (wrap32 a), .bool true] := by
  rw [narR_yes (by omega) (by omega)]; refine tup_eq ?_; unfold nar wrap32; show (a + 2 ^ 31) % 2 ^ 32 - 2 ^ 31 = _; omega
theorem shr32 (a : Int) : shrR a 32 = .tuple #[.int .i64 (a / 4294967296), .bool true] := by
  rw [shrR_yes (by omega) (by omega)]; rfl
theorem unpackRef_any (a : Int) (w : World) (ha1 : -9223372036854775808 ≤ a) (ha2 : a ≤ 9223372036854775807) :
    Calls Try.prog 35 #[.int .i64 a] w fun e w' => e = .returned (.tuple #[.int .i32 (a / 4294967296), .int .i32 (wrap32 a)]) ∧ w = w' := by
  have hb1 : -2147483648 ≤ wrap32 a := by unfold wrap32; omega
  have hb2 : wrap32 a ≤ 2147483647 := by unfold wrap32; omega
  go_enter Try.func35, Try.ntmps35
  go_wp2_with (first | (go_at_call 29; refine (shrRef_any _ _ _ (by omega) (by omega) (by omega) (by omega)).mono ?_; rintro e w' ⟨rfl, rfl⟩; rw [shr32]) | (go_at_call 31; refine (narrowRef_any _ _ _ (by omega) (by omega) (by omega) (by omega)).mono ?_; rintro e w' ⟨rfl, rfl⟩; rw [nar32]))
  go_ret2
  exact ⟨rfl, rfl⟩
end Go.Proofs.Ytjgeggeanigaaaa
