/- Statement CheckedBack, at the commit that the claim names: for any two numbers of 64 bits and any text, shifts up are undone by shifts down, and bytes and halves come back. No condition. -/
import Derived.Test.YtjgeggeanigaaaaAwake
import Derived.Test.YtjgeggeanigaaaaBack
import Derived.ProofKit
import Derived.ChangeMaps5
namespace Go.Proofs.Ytjgeggeanigaaaa.checkedBack
open Go.ChangeShapes Go.WideShapes Go.ChangeAt Go.RowKit Go.ChangeMaps
set_option linter.unusedVariables false

theorem own : ownKnob Try.prog.godebug = none := by kernel_rfl
theorem shl_down {a n : Int} (h : shlB a n = true) : -9223372036854775808 ≤ a * 2 ^ n.toNat ∧ a * 2 ^ n.toNat ≤ 9223372036854775807 ∧ shrR (a * 2 ^ n.toNat) n = .tuple #[.int .i64 a, .bool true] := by
  unfold shlB at h
  rw [Bool.and_eq_true] at h
  have h1 := fitB_iff.1 h.2
  refine ⟨h1.1, h1.2, ?_⟩
  unfold shrR
  rw [okR_yes h.1]
  exact tup_eq (Int.mul_ediv_cancel _ (by have := pow_pos2 n.toNat; omega))
set_option maxHeartbeats 1000000 in
theorem walk000 (a : Int) (ha1 : -9223372036854775808 ≤ a) (ha2 : a ≤ 9223372036854775807) (n : Int) (hn1 : -9223372036854775808 ≤ n) (hn2 : n ≤ 9223372036854775807) (s : ByteArray) (hs : s.size ≤ maxLen) (w : World) (hsh : shlB a n = false) (hby : bytesB a n = false) (kof : (s.size : Int) < 1 ∨ 8 < (s.size : Int)) :
    Calls Try.prog 13 #[.int .i64 a, .int .i64 n, .string s] w fun e w' => e = .returned (.bool true) ∧ Below w.heap.size w w' := by
  have hs2 : s.size ≤ 9223372036854775807 := hs
  have HP := Lib.hid (pack_back (a := a))
  have hw1 : -2147483648 ≤ wrap32 a := by unfold wrap32; omega
  have hw2 : wrap32 a ≤ 2147483647 := by unfold wrap32; omega
  have HS : Hid (shlR a n = .tuple #[.int .i64 0, .bool false]) := Lib.hid (okR_no hsh)
  have HB := Lib.hid (bytesR_no hby)
  have HO := Lib.hid (ofR_out kof)
  clear kof
  clear hsh hby
  go_enter Try.func13, Try.ntmps13
  go_wp2_with (first | (go_at_call 21; refine (awake_any _).mono ?_; rintro e w0 ⟨rfl, hb0⟩) | (go_at_call 26; refine (shl_any _ _ _ (by omega) (by omega) (by omega) (by omega)).mono ?_; rintro e w' ⟨rfl, rfl⟩; rw [HS.out]) | (go_at_call 38; first | ((with_reducible refine (bytes_any a n _ ha1 ha2 hn1 hn2).mono ?_); rintro e w1 ⟨rfl, hbx⟩; have hb1 := hb0.trans (hbx.mono hb0.size); rw [HB.out])) | (go_at_call 40; first | ((with_reducible refine (of_any s _ hs).mono ?_); rintro e w' ⟨rfl, rfl⟩; rw [HO.out])) | (go_at_call 34; refine (unpack_any _ _ (by omega) (by omega)).mono ?_; rintro e w' ⟨rfl, rfl⟩) | (go_at_call 36; refine (pack_any _ _ _ (by omega) (by omega) (by omega) (by omega)).mono ?_; rintro e w' ⟨rfl, rfl⟩; rw [HP.out]))
  all_goals (go_ret; exact ⟨by simp, hb1⟩)
set_option maxHeartbeats 1000000 in
theorem walk001 (a : Int) (ha1 : -9223372036854775808 ≤ a) (ha2 : a ≤ 9223372036854775807) (n : Int) (hn1 : -9223372036854775808 ≤ n) (hn2 : n ≤ 9223372036854775807) (s : ByteArray) (hs : s.size ≤ maxLen) (w : World) (hsh : shlB a n = false) (hby : bytesB a n = false) (k1 : 1 ≤ s.size) (k2 : s.size ≤ 8) :
    Calls Try.prog 13 #[.int .i64 a, .int .i64 n, .string s] w fun e w' => e = .returned (.bool true) ∧ Below w.heap.size w w' := by
  have hs2 : s.size ≤ 9223372036854775807 := hs
  have HP := Lib.hid (pack_back (a := a))
  have hw1 : -2147483648 ≤ wrap32 a := by unfold wrap32; omega
  have hw2 : wrap32 a ≤ 2147483647 := by unfold wrap32; omega
  have HS : Hid (shlR a n = .tuple #[.int .i64 0, .bool false]) := Lib.hid (okR_no hsh)
  have HB := Lib.hid (bytesR_no hby)
  have HO := Lib.hid (ofR_yes k1 k2)
  have HR := Lib.hid (bytesR_of k1 k2)
  obtain ⟨ho1, ho2⟩ := ofN_bd k1 k2
  clear hsh hby
  go_enter Try.func13, Try.ntmps13
  go_wp2_with (first | (go_at_call 21; refine (awake_any _).mono ?_; rintro e w0 ⟨rfl, hb0⟩) | (go_at_call 26; refine (shl_any _ _ _ (by omega) (by omega) (by omega) (by omega)).mono ?_; rintro e w' ⟨rfl, rfl⟩; rw [HS.out]) | (go_at_call 38; first | ((with_reducible refine (bytes_any a n _ ha1 ha2 hn1 hn2).mono ?_); rintro e w1 ⟨rfl, hbx⟩; have hb1 := hb0.trans (hbx.mono hb0.size); rw [HB.out]) | ((with_reducible refine (bytes_any (ofN s) (s.size : Int) _ ho1 ho2 (by omega) (by omega)).mono ?_); rintro e w2 ⟨rfl, hbx⟩; have hb2 := hb1.trans (hbx.mono hb1.size); rw [HR.out])) | (go_at_call 40; first | ((with_reducible refine (of_any s _ hs).mono ?_); rintro e w' ⟨rfl, rfl⟩; rw [HO.out])) | (go_at_call 34; refine (unpack_any _ _ (by omega) (by omega)).mono ?_; rintro e w' ⟨rfl, rfl⟩) | (go_at_call 36; refine (pack_any _ _ _ (by omega) (by omega) (by omega) (by omega)).mono ?_; rintro e w' ⟨rfl, rfl⟩; rw [HP.out]))
  all_goals (go_ret; exact ⟨by simp, hb2⟩)
set_option maxHeartbeats 1000000 in
theorem walk010 (a : Int) (ha1 : -9223372036854775808 ≤ a) (ha2 : a ≤ 9223372036854775807) (n : Int) (hn1 : -9223372036854775808 ≤ n) (hn2 : n ≤ 9223372036854775807) (s : ByteArray) (hs : s.size ≤ maxLen) (w : World) (hsh : shlB a n = false) (hby : bytesB a n = true) (kof : (s.size : Int) < 1 ∨ 8 < (s.size : Int)) :
    Calls Try.prog 13 #[.int .i64 a, .int .i64 n, .string s] w fun e w' => e = .returned (.bool true) ∧ Below w.heap.size w w' := by
  have hs2 : s.size ≤ 9223372036854775807 := hs
  have HP := Lib.hid (pack_back (a := a))
  have hw1 : -2147483648 ≤ wrap32 a := by unfold wrap32; omega
  have hw2 : wrap32 a ≤ 2147483647 := by unfold wrap32; omega
  have HS : Hid (shlR a n = .tuple #[.int .i64 0, .bool false]) := Lib.hid (okR_no hsh)
  have HB := Lib.hid (bytesR_yes hby)
  obtain ⟨HT, hsz, g1, g2⟩ := ofR_bytes hby
  have hts : (strOfNums (beL n.toNat a)).size ≤ maxLen := by rw [hsz]; unfold maxLen; omega
  have HT := Lib.hid HT
  have hsz2 : (((strOfNums (beL n.toNat a)).size : Int) != n) = false := by rw [hsz]; simp; omega
  have hsz3 : (((strOfNums (beL n.toNat a)).size : Int) == n) = true := by rw [hsz]; simp; omega
  clear hsz
  have HO := Lib.hid (ofR_out kof)
  clear kof
  clear hsh hby
  go_enter Try.func13, Try.ntmps13
  go_wp2_with (first | (go_at_call 21; refine (awake_any _).mono ?_; rintro e w0 ⟨rfl, hb0⟩) | (go_at_call 26; refine (shl_any _ _ _ (by omega) (by omega) (by omega) (by omega)).mono ?_; rintro e w' ⟨rfl, rfl⟩; rw [HS.out]) | (go_at_call 38; first | ((with_reducible refine (bytes_any a n _ ha1 ha2 hn1 hn2).mono ?_); rintro e w1 ⟨rfl, hbx⟩; have hb1 := hb0.trans (hbx.mono hb0.size); rw [HB.out])) | (go_at_call 40; first | ((with_reducible refine (of_any (strOfNums (beL n.toNat a)) _ hts).mono ?_); rintro e w' ⟨rfl, rfl⟩; rw [HT.out]) | ((with_reducible refine (of_any s _ hs).mono ?_); rintro e w' ⟨rfl, rfl⟩; rw [HO.out])) | (go_at_call 34; refine (unpack_any _ _ (by omega) (by omega)).mono ?_; rintro e w' ⟨rfl, rfl⟩) | (go_at_call 36; refine (pack_any _ _ _ (by omega) (by omega) (by omega) (by omega)).mono ?_; rintro e w' ⟨rfl, rfl⟩; rw [HP.out]))
  all_goals (go_ret; exact ⟨by simp, hb1⟩)
set_option maxHeartbeats 1000000 in
theorem walk011 (a : Int) (ha1 : -9223372036854775808 ≤ a) (ha2 : a ≤ 9223372036854775807) (n : Int) (hn1 : -9223372036854775808 ≤ n) (hn2 : n ≤ 9223372036854775807) (s : ByteArray) (hs : s.size ≤ maxLen) (w : World) (hsh : shlB a n = false) (hby : bytesB a n = true) (k1 : 1 ≤ s.size) (k2 : s.size ≤ 8) :
    Calls Try.prog 13 #[.int .i64 a, .int .i64 n, .string s] w fun e w' => e = .returned (.bool true) ∧ Below w.heap.size w w' := by
  have hs2 : s.size ≤ 9223372036854775807 := hs
  have HP := Lib.hid (pack_back (a := a))
  have hw1 : -2147483648 ≤ wrap32 a := by unfold wrap32; omega
  have hw2 : wrap32 a ≤ 2147483647 := by unfold wrap32; omega
  have HS : Hid (shlR a n = .tuple #[.int .i64 0, .bool false]) := Lib.hid (okR_no hsh)
  have HB := Lib.hid (bytesR_yes hby)
  obtain ⟨HT, hsz, g1, g2⟩ := ofR_bytes hby
  have hts : (strOfNums (beL n.toNat a)).size ≤ maxLen := by rw [hsz]; unfold maxLen; omega
  have HT := Lib.hid HT
  have hsz2 : (((strOfNums (beL n.toNat a)).size : Int) != n) = false := by rw [hsz]; simp; omega
  have hsz3 : (((strOfNums (beL n.toNat a)).size : Int) == n) = true := by rw [hsz]; simp; omega
  clear hsz
  have HO := Lib.hid (ofR_yes k1 k2)
  have HR := Lib.hid (bytesR_of k1 k2)
  obtain ⟨ho1, ho2⟩ := ofN_bd k1 k2
  clear hsh hby
  go_enter Try.func13, Try.ntmps13
  go_wp2_with (first | (go_at_call 21; refine (awake_any _).mono ?_; rintro e w0 ⟨rfl, hb0⟩) | (go_at_call 26; refine (shl_any _ _ _ (by omega) (by omega) (by omega) (by omega)).mono ?_; rintro e w' ⟨rfl, rfl⟩; rw [HS.out]) | (go_at_call 38; first | ((with_reducible refine (bytes_any a n _ ha1 ha2 hn1 hn2).mono ?_); rintro e w1 ⟨rfl, hbx⟩; have hb1 := hb0.trans (hbx.mono hb0.size); rw [HB.out]) | ((with_reducible refine (bytes_any (ofN s) (s.size : Int) _ ho1 ho2 (by omega) (by omega)).mono ?_); rintro e w2 ⟨rfl, hbx⟩; have hb2 := hb1.trans (hbx.mono hb1.size); rw [HR.out])) | (go_at_call 40; first | ((with_reducible refine (of_any (strOfNums (beL n.toNat a)) _ hts).mono ?_); rintro e w' ⟨rfl, rfl⟩; rw [HT.out]) | ((with_reducible refine (of_any s _ hs).mono ?_); rintro e w' ⟨rfl, rfl⟩; rw [HO.out])) | (go_at_call 34; refine (unpack_any _ _ (by omega) (by omega)).mono ?_; rintro e w' ⟨rfl, rfl⟩) | (go_at_call 36; refine (pack_any _ _ _ (by omega) (by omega) (by omega) (by omega)).mono ?_; rintro e w' ⟨rfl, rfl⟩; rw [HP.out]))
  all_goals (go_ret; exact ⟨by simp, hb2⟩)
set_option maxHeartbeats 1000000 in
theorem walk100 (a : Int) (ha1 : -9223372036854775808 ≤ a) (ha2 : a ≤ 9223372036854775807) (n : Int) (hn1 : -9223372036854775808 ≤ n) (hn2 : n ≤ 9223372036854775807) (s : ByteArray) (hs : s.size ≤ maxLen) (w : World) (hsh : shlB a n = true) (hby : bytesB a n = false) (kof : (s.size : Int) < 1 ∨ 8 < (s.size : Int)) :
    Calls Try.prog 13 #[.int .i64 a, .int .i64 n, .string s] w fun e w' => e = .returned (.bool true) ∧ Below w.heap.size w w' := by
  have hs2 : s.size ≤ 9223372036854775807 := hs
  have HP := Lib.hid (pack_back (a := a))
  have hw1 : -2147483648 ≤ wrap32 a := by unfold wrap32; omega
  have hw2 : wrap32 a ≤ 2147483647 := by unfold wrap32; omega
  have HS : Hid (shlR a n = .tuple #[.int .i64 (a * 2 ^ n.toNat), .bool true]) := Lib.hid (okR_yes hsh)
  obtain ⟨hd1, hd2, HD⟩ := shl_down hsh
  replace HD := Lib.hid HD
  have HB := Lib.hid (bytesR_no hby)
  have HO := Lib.hid (ofR_out kof)
  clear kof
  clear hsh hby
  go_enter Try.func13, Try.ntmps13
  go_wp2_with (first | (go_at_call 21; refine (awake_any _).mono ?_; rintro e w0 ⟨rfl, hb0⟩) | (go_at_call 26; refine (shl_any _ _ _ (by omega) (by omega) (by omega) (by omega)).mono ?_; rintro e w' ⟨rfl, rfl⟩; rw [HS.out]) | (go_at_call 28; refine (shr_any _ _ _ (by omega) (by omega) (by omega) (by omega)).mono ?_; rintro e w' ⟨rfl, rfl⟩; rw [HD.out]) | (go_at_call 38; first | ((with_reducible refine (bytes_any a n _ ha1 ha2 hn1 hn2).mono ?_); rintro e w1 ⟨rfl, hbx⟩; have hb1 := hb0.trans (hbx.mono hb0.size); rw [HB.out])) | (go_at_call 40; first | ((with_reducible refine (of_any s _ hs).mono ?_); rintro e w' ⟨rfl, rfl⟩; rw [HO.out])) | (go_at_call 34; refine (unpack_any _ _ (by omega) (by omega)).mono ?_; rintro e w' ⟨rfl, rfl⟩) | (go_at_call 36; refine (pack_any _ _ _ (by omega) (by omega) (by omega) (by omega)).mono ?_; rintro e w' ⟨rfl, rfl⟩; rw [HP.out]))
  all_goals (go_ret; exact ⟨by simp, hb1⟩)
set_option maxHeartbeats 1000000 in
theorem walk101 (a : Int) (ha1 : -9223372036854775808 ≤ a) (ha2 : a ≤ 9223372036854775807) (n : Int) (hn1 : -9223372036854775808 ≤ n) (hn2 : n ≤ 9223372036854775807) (s : ByteArray) (hs : s.size ≤ maxLen) (w : World) (hsh : shlB a n = true) (hby : bytesB a n = false) (k1 : 1 ≤ s.size) (k2 : s.size ≤ 8) :
    Calls Try.prog 13 #[.int .i64 a, .int .i64 n, .string s] w fun e w' => e = .returned (.bool true) ∧ Below w.heap.size w w' := by
  have hs2 : s.size ≤ 9223372036854775807 := hs
  have HP := Lib.hid (pack_back (a := a))
  have hw1 : -2147483648 ≤ wrap32 a := by unfold wrap32; omega
  have hw2 : wrap32 a ≤ 2147483647 := by unfold wrap32; omega
  have HS : Hid (shlR a n = .tuple #[.int .i64 (a * 2 ^ n.toNat), .bool true]) := Lib.hid (okR_yes hsh)
  obtain ⟨hd1, hd2, HD⟩ := shl_down hsh
  replace HD := Lib.hid HD
  have HB := Lib.hid (bytesR_no hby)
  have HO := Lib.hid (ofR_yes k1 k2)
  have HR := Lib.hid (bytesR_of k1 k2)
  obtain ⟨ho1, ho2⟩ := ofN_bd k1 k2
  clear hsh hby
  go_enter Try.func13, Try.ntmps13
  go_wp2_with (first | (go_at_call 21; refine (awake_any _).mono ?_; rintro e w0 ⟨rfl, hb0⟩) | (go_at_call 26; refine (shl_any _ _ _ (by omega) (by omega) (by omega) (by omega)).mono ?_; rintro e w' ⟨rfl, rfl⟩; rw [HS.out]) | (go_at_call 28; refine (shr_any _ _ _ (by omega) (by omega) (by omega) (by omega)).mono ?_; rintro e w' ⟨rfl, rfl⟩; rw [HD.out]) | (go_at_call 38; first | ((with_reducible refine (bytes_any a n _ ha1 ha2 hn1 hn2).mono ?_); rintro e w1 ⟨rfl, hbx⟩; have hb1 := hb0.trans (hbx.mono hb0.size); rw [HB.out]) | ((with_reducible refine (bytes_any (ofN s) (s.size : Int) _ ho1 ho2 (by omega) (by omega)).mono ?_); rintro e w2 ⟨rfl, hbx⟩; have hb2 := hb1.trans (hbx.mono hb1.size); rw [HR.out])) | (go_at_call 40; first | ((with_reducible refine (of_any s _ hs).mono ?_); rintro e w' ⟨rfl, rfl⟩; rw [HO.out])) | (go_at_call 34; refine (unpack_any _ _ (by omega) (by omega)).mono ?_; rintro e w' ⟨rfl, rfl⟩) | (go_at_call 36; refine (pack_any _ _ _ (by omega) (by omega) (by omega) (by omega)).mono ?_; rintro e w' ⟨rfl, rfl⟩; rw [HP.out]))
  all_goals (go_ret; exact ⟨by simp, hb2⟩)
set_option maxHeartbeats 1000000 in
theorem walk110 (a : Int) (ha1 : -9223372036854775808 ≤ a) (ha2 : a ≤ 9223372036854775807) (n : Int) (hn1 : -9223372036854775808 ≤ n) (hn2 : n ≤ 9223372036854775807) (s : ByteArray) (hs : s.size ≤ maxLen) (w : World) (hsh : shlB a n = true) (hby : bytesB a n = true) (kof : (s.size : Int) < 1 ∨ 8 < (s.size : Int)) :
    Calls Try.prog 13 #[.int .i64 a, .int .i64 n, .string s] w fun e w' => e = .returned (.bool true) ∧ Below w.heap.size w w' := by
  have hs2 : s.size ≤ 9223372036854775807 := hs
  have HP := Lib.hid (pack_back (a := a))
  have hw1 : -2147483648 ≤ wrap32 a := by unfold wrap32; omega
  have hw2 : wrap32 a ≤ 2147483647 := by unfold wrap32; omega
  have HS : Hid (shlR a n = .tuple #[.int .i64 (a * 2 ^ n.toNat), .bool true]) := Lib.hid (okR_yes hsh)
  obtain ⟨hd1, hd2, HD⟩ := shl_down hsh
  replace HD := Lib.hid HD
  have HB := Lib.hid (bytesR_yes hby)
  obtain ⟨HT, hsz, g1, g2⟩ := ofR_bytes hby
  have hts : (strOfNums (beL n.toNat a)).size ≤ maxLen := by rw [hsz]; unfold maxLen; omega
  have HT := Lib.hid HT
  have hsz2 : (((strOfNums (beL n.toNat a)).size : Int) != n) = false := by rw [hsz]; simp; omega
  have hsz3 : (((strOfNums (beL n.toNat a)).size : Int) == n) = true := by rw [hsz]; simp; omega
  clear hsz
  have HO := Lib.hid (ofR_out kof)
  clear kof
  clear hsh hby
  go_enter Try.func13, Try.ntmps13
  go_wp2_with (first | (go_at_call 21; refine (awake_any _).mono ?_; rintro e w0 ⟨rfl, hb0⟩) | (go_at_call 26; refine (shl_any _ _ _ (by omega) (by omega) (by omega) (by omega)).mono ?_; rintro e w' ⟨rfl, rfl⟩; rw [HS.out]) | (go_at_call 28; refine (shr_any _ _ _ (by omega) (by omega) (by omega) (by omega)).mono ?_; rintro e w' ⟨rfl, rfl⟩; rw [HD.out]) | (go_at_call 38; first | ((with_reducible refine (bytes_any a n _ ha1 ha2 hn1 hn2).mono ?_); rintro e w1 ⟨rfl, hbx⟩; have hb1 := hb0.trans (hbx.mono hb0.size); rw [HB.out])) | (go_at_call 40; first | ((with_reducible refine (of_any (strOfNums (beL n.toNat a)) _ hts).mono ?_); rintro e w' ⟨rfl, rfl⟩; rw [HT.out]) | ((with_reducible refine (of_any s _ hs).mono ?_); rintro e w' ⟨rfl, rfl⟩; rw [HO.out])) | (go_at_call 34; refine (unpack_any _ _ (by omega) (by omega)).mono ?_; rintro e w' ⟨rfl, rfl⟩) | (go_at_call 36; refine (pack_any _ _ _ (by omega) (by omega) (by omega) (by omega)).mono ?_; rintro e w' ⟨rfl, rfl⟩; rw [HP.out]))
  all_goals (go_ret; exact ⟨by simp, hb1⟩)
set_option maxHeartbeats 1000000 in
theorem walk111 (a : Int) (ha1 : -9223372036854775808 ≤ a) (ha2 : a ≤ 9223372036854775807) (n : Int) (hn1 : -9223372036854775808 ≤ n) (hn2 : n ≤ 9223372036854775807) (s : ByteArray) (hs : s.size ≤ maxLen) (w : World) (hsh : shlB a n = true) (hby : bytesB a n = true) (k1 : 1 ≤ s.size) (k2 : s.size ≤ 8) :
    Calls Try.prog 13 #[.int .i64 a, .int .i64 n, .string s] w fun e w' => e = .returned (.bool true) ∧ Below w.heap.size w w' := by
  have hs2 : s.size ≤ 9223372036854775807 := hs
  have HP := Lib.hid (pack_back (a := a))
  have hw1 : -2147483648 ≤ wrap32 a := by unfold wrap32; omega
  have hw2 : wrap32 a ≤ 2147483647 := by unfold wrap32; omega
  have HS : Hid (shlR a n = .tuple #[.int .i64 (a * 2 ^ n.toNat), .bool true]) := Lib.hid (okR_yes hsh)
  obtain ⟨hd1, hd2, HD⟩ := shl_down hsh
  replace HD := Lib.hid HD
  have HB := Lib.hid (bytesR_yes hby)
  obtain ⟨HT, hsz, g1, g2⟩ := ofR_bytes hby
  have hts : (strOfNums (beL n.toNat a)).size ≤ maxLen := by rw [hsz]; unfold maxLen; omega
  have HT := Lib.hid HT
  have hsz2 : (((strOfNums (beL n.toNat a)).size : Int) != n) = false := by rw [hsz]; simp; omega
  have hsz3 : (((strOfNums (beL n.toNat a)).size : Int) == n) = true := by rw [hsz]; simp; omega
  clear hsz
  have HO := Lib.hid (ofR_yes k1 k2)
  have HR := Lib.hid (bytesR_of k1 k2)
  obtain ⟨ho1, ho2⟩ := ofN_bd k1 k2
  clear hsh hby
  go_enter Try.func13, Try.ntmps13
  go_wp2_with (first | (go_at_call 21; refine (awake_any _).mono ?_; rintro e w0 ⟨rfl, hb0⟩) | (go_at_call 26; refine (shl_any _ _ _ (by omega) (by omega) (by omega) (by omega)).mono ?_; rintro e w' ⟨rfl, rfl⟩; rw [HS.out]) | (go_at_call 28; refine (shr_any _ _ _ (by omega) (by omega) (by omega) (by omega)).mono ?_; rintro e w' ⟨rfl, rfl⟩; rw [HD.out]) | (go_at_call 38; first | ((with_reducible refine (bytes_any a n _ ha1 ha2 hn1 hn2).mono ?_); rintro e w1 ⟨rfl, hbx⟩; have hb1 := hb0.trans (hbx.mono hb0.size); rw [HB.out]) | ((with_reducible refine (bytes_any (ofN s) (s.size : Int) _ ho1 ho2 (by omega) (by omega)).mono ?_); rintro e w2 ⟨rfl, hbx⟩; have hb2 := hb1.trans (hbx.mono hb1.size); rw [HR.out])) | (go_at_call 40; first | ((with_reducible refine (of_any (strOfNums (beL n.toNat a)) _ hts).mono ?_); rintro e w' ⟨rfl, rfl⟩; rw [HT.out]) | ((with_reducible refine (of_any s _ hs).mono ?_); rintro e w' ⟨rfl, rfl⟩; rw [HO.out])) | (go_at_call 34; refine (unpack_any _ _ (by omega) (by omega)).mono ?_; rintro e w' ⟨rfl, rfl⟩) | (go_at_call 36; refine (pack_any _ _ _ (by omega) (by omega) (by omega) (by omega)).mono ?_; rintro e w' ⟨rfl, rfl⟩; rw [HP.out]))
  all_goals (go_ret; exact ⟨by simp, hb2⟩)
theorem walk (a : Int) (ha1 : -9223372036854775808 ≤ a) (ha2 : a ≤ 9223372036854775807) (n : Int) (hn1 : -9223372036854775808 ≤ n) (hn2 : n ≤ 9223372036854775807) (s : ByteArray) (hs : s.size ≤ maxLen) (w : World) :
    Calls Try.prog 13 #[.int .i64 a, .int .i64 n, .string s] w fun e w' => e = .returned (.bool true) ∧ Below w.heap.size w w' := by
  by_cases h1 : shlB a n = true
  · by_cases h2 : bytesB a n = true
    · by_cases h3 : (s.size : Int) < 1 ∨ 8 < (s.size : Int)
      · exact walk110 a ha1 ha2 n hn1 hn2 s hs w h1 h2 h3
      · exact walk111 a ha1 ha2 n hn1 hn2 s hs w h1 h2 (by omega) (by omega)
    · have h2 : bytesB a n = false := by simpa using h2
      by_cases h3 : (s.size : Int) < 1 ∨ 8 < (s.size : Int)
      · exact walk100 a ha1 ha2 n hn1 hn2 s hs w h1 h2 h3
      · exact walk101 a ha1 ha2 n hn1 hn2 s hs w h1 h2 (by omega) (by omega)
  · have h1 : shlB a n = false := by simpa using h1
    by_cases h2 : bytesB a n = true
    · by_cases h3 : (s.size : Int) < 1 ∨ 8 < (s.size : Int)
      · exact walk010 a ha1 ha2 n hn1 hn2 s hs w h1 h2 h3
      · exact walk011 a ha1 ha2 n hn1 hn2 s hs w h1 h2 (by omega) (by omega)
    · have h2 : bytesB a n = false := by simpa using h2
      by_cases h3 : (s.size : Int) < 1 ∨ 8 < (s.size : Int)
      · exact walk000 a ha1 ha2 n hn1 hn2 s hs w h1 h2 h3
      · exact walk001 a ha1 ha2 n hn1 hn2 s hs w h1 h2 (by omega) (by omega)

set_option maxRecDepth 100000 in
theorem lifted (os : Os) (started : os.Started) (H : Type) (enc : TypeId × Value → H) :
    ReturnsInHanded {} Try.checked os 13 .any (Rows.checkedBackSpec.pre6 enc Try.prog Try.f13 Rows.checkedBackRow.domain false) (Rows.checkedBackSpec.post enc Try.prog Try.f13 false true false false) := by
  refine returnsInHanded_of_change (C := Try.checked) own started (by kernel_rfl) Try.func13
    (ChangeSpec.witness6 (enc := enc) (C := Try.checked) false ⟨#[], #[.int .i64 0, .int .i64 0, .string ⟨#[]⟩], []⟩ 8 (by kernel_rfl) (by kernel_rfl) (by kernel_rfl) (by kernel_rfl)) ?_
  intro W base args ds gs before hval0 hW hcnd _
  have hval : ∀ (j : Nat) t v, Try.f13.params[j]? = some t → args[j]? = some v → Value.okWide Try.prog W .any base t v := hval0
  have hW' := hW
  obtain ⟨p, q, hA0, hV, rfl, hfz, hnd⟩ := hW
  have hA : DataW.TrodAll enc Try.prog W 0 (fun _ => true) true Try.f13.params.toList args.toList ds p := hA0
  rw [Try.params13] at hA hval
  obtain ⟨v0, vs0, d0, ds0, p0, q0, hargs, rfl, rfl, h0, r0⟩ := trodAll_cons hA
  obtain ⟨v1, vs1, d1, ds1, p1, q1, rfl, rfl, rfl, h1, r1⟩ := trodAll_cons r0
  obtain ⟨v2, vs2, d2, ds2, p2, q2, rfl, rfl, rfl, h2, r2⟩ := trodAll_cons r1
  obtain ⟨rfl, rfl, rfl⟩ := trodAll_nil r2
  obtain rfl : args = #[v0, v1, v2] := by cases args; simp_all
  obtain ⟨rfl, rfl⟩ := trodVars_none hV
  obtain ⟨a0, rfl, rfl, rfl, w0⟩ := open_int Try.underlying3 (hval 0 3 v0 rfl rfl) h0
  obtain ⟨a1, rfl, rfl, rfl, w1⟩ := open_int Try.underlying3 (hval 1 3 v1 rfl rfl) h1
  obtain ⟨a2, rfl, rfl, rfl, w2⟩ := open_string Try.underlying9 (hval 2 9 v2 rfl rfl) h2
  clear hA0 hval0
  simp only [List.append_nil] at hW'
  refine (walk a0 (wf_i64 w0).1 (wf_i64 w0).2 a1 (wf_i64 w1).1 (wf_i64 w1).2 a2 w2 W).mono fun e W' ⟨he, hg⟩ => ?_
  subst he
  exact ⟨_, rfl, post_of_below (pa := []) (pv := []) hW' (fun _ _ _ => (trodAll_cons_mk (shut_bool Try.underlying4 _) trodAll_mk0)) (fun sp _ => (trodAll_cons_mk (shut_int Try.underlying3 w0) (trodAll_cons_mk (shut_int Try.underlying3 w1) (trodAll_cons_mk (shut_string Try.underlying9 w2) trodAll_mk0)))) (fun _ _ => rfl) rfl
    hg (ok_one (by kernel_rfl) rfl (okWide_bool_mk Try.underlying4 _))⟩

theorem over : Rows.checkedBackRow.holds Try.pinned (OpenSpec.ofChange Rows.checkedBackSpec) :=
  OpenClaim.holds_of_wide 13 Try.f13 rfl rfl rfl rfl rfl rfl rfl ⟨rfl, rfl, rfl, rfl, rfl⟩ rfl rfl rfl rfl rfl (by kernel_rfl) Try.func13 (by kernel_rfl)
    (of_decide_eq_true (by kernel_rfl)) (by unfold Func.isWrapper; first | (rw [if_pos (by decide +kernel)]; kernel_rfl) | (rw [if_neg (by decide +kernel)]; exact ⟨rfl, rfl⟩))
    (fun os started H enc _ => lifted os started H enc)

/-- The given statement. -/
theorem proved : Rows.CheckedBackSaid :=
  over
#print axioms proved
end Go.Proofs.Ytjgeggeanigaaaa.checkedBack
