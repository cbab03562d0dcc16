/- What Bytes and Of of package checked, and of the document's answer, return: the bytes of a number that fits into so many, and the number that a text of one to eight bytes is. -/
import Derived.Test.YtjgeggeanigaaaaRefb
import Derived.Test.YtjgeggeanigaaaaByt
import Derived.WalkLawsBesides
namespace Go.Proofs.Ytjgeggeanigaaaa
open Go.RowKit
set_option linter.unusedVariables false

theorem isByteCount_any (n : Int) (w : World) (hn1 : -9223372036854775808 ≤ n) (hn2 : n ≤ 9223372036854775807) :
    Calls Try.prog 46 #[.int .i64 n] w fun e w' => e = .returned (.bool (byB n)) ∧ w = w' := by
  by_cases h1 : n < 1
  · rw [byB_no (Or.inl h1)]
    go_enter Try.func46, Try.ntmps46
    go_wp2
    all_goals (go_ret; exact ⟨rfl, rfl⟩)
  by_cases h2 : 8 < n
  · rw [byB_no (Or.inr h2)]
    have h3 : decide (n ≤ 8) = false := decide_eq_false (by omega)
    go_enter Try.func46, Try.ntmps46
    go_wp2
    all_goals (go_ret; exact ⟨rfl, rfl⟩)
  rw [byB_yes (by omega) (by omega)]
  have h3 : decide (n ≤ 8) = true := decide_eq_true (by omega)
  go_enter Try.func46, Try.ntmps46
  go_wp2
  all_goals (go_ret; exact ⟨rfl, rfl⟩)

theorem of_any (s : ByteArray) (w : World) (hs : s.size ≤ maxLen) :
    Calls Try.prog 40 #[.string s] w fun e w' => e = .returned (ofR s) ∧ w = w' := by
  unfold maxLen at hs
  by_cases h : (s.size : Int) < 1 ∨ 8 < (s.size : Int)
  · rw [ofR_out h]
    have H := Lib.hid (byB_no h)
    go_enter Try.func40, Try.ntmps40
    go_wp2_with (go_at_call 46; refine (isByteCount_any _ _ (by omega) (by omega)).mono ?_; rintro e w' ⟨rfl, rfl⟩; rw [H.out])
    all_goals (go_ret2; exact ⟨rfl, rfl⟩)
  have g1 : 1 ≤ s.size := by omega
  have g2 : s.size ≤ 8 := by omega
  clear h hs
  have H := Lib.hid (byB_yes (n := (s.size : Int)) (by omega) (by omega))
  rw [ofR_yes g1 g2]
  go_enter Try.func40, Try.ntmps40
  go_wp2_with (go_at_call 46; refine (isByteCount_any _ _ (by omega) (by omega)).mono ?_; rintro e w' ⟨rfl, rfl⟩; rw [H.out])
  go_loop [4, 12] (fun u v => ∃ (k : Nat) (x : Int), k ≤ s.size ∧ -9223372036854775808 ≤ x ∧ x ≤ 9223372036854775807 ∧ Hid (x = wrap64 (ubig ((nums s).take k))) ∧ u = .int .i64 x ∧ v = .int .i64 k) (fun _ v => s.size - (intOf v).toNat)
  case atStart => exact ⟨0, 0, by omega, by omega, by omega, Lib.hid (by simp [ubig, wrap64]), rfl, rfl⟩
  case round =>
    obtain ⟨k, x, hk, hx1, hx2, HX, rfl, rfl⟩ := hrel
    by_cases hlt : k < s.size
    · have hb := ubig_take_bd s hk
      have hp := pow256_le (show k ≤ 7 by omega)
      have HX2 : Hid (x = ubig ((nums s).take k)) := Lib.hid (by rw [HX.out]; exact IntWalk.wrap64_in _ (by omega))
      have hx3 : 0 ≤ x := by rw [HX2.out]; omega
      have hx4 : x ≤ 72057594037927935 := by rw [HX2.out]; omega
      have hc : s[k].toNat < 256 := s[k].toNat_lt
      have HO := Lib.hid (or_byte (b := (s[k].toNat : Int)) hx3 hx4 (by omega) (by omega))
      have HT : Hid (wrap64 (x * 256 + (s[k].toNat : Int)) = wrap64 (ubig ((nums s).take (k + 1)))) := Lib.hid (by rw [ubig_take s hlt, ← HX2.out])
      clear hb hp
      go_wp2
      go_round
      case rel => exact ⟨k + 1, _, by omega, by rw [HO.out]; unfold wrap64; omega, by rw [HO.out]; unfold wrap64; omega, Lib.hid (by rw [← HT.out, ← HO.out]), rfl, by go_num⟩
      case measure => simp [intOf]; omega
    · have HE : Hid (nar (8 * (s.size : Int)).toNat x = ofN s) := Lib.hid (by rw [HX.out, show (8 * (s.size : Int)).toNat = 8 * s.size by omega, nar_wrap (by omega)]; unfold ofN; rw [List.take_of_length_le (by rw [nums_length]; omega)])
      have HN := Lib.hid (narR_yes (a := x) (n := 8 * (s.size : Int)) (by omega) (by omega))
      go_wp2_with (go_at_call 30; refine (narrow_any _ _ _ (by omega) (by omega) (by omega) (by omega)).mono ?_; rintro e w' ⟨rfl, rfl⟩; rw [HN.out])
      go_ret2
      exact ⟨ret_eq (tup_eq HE.out), rfl⟩

theorem ofRef_any (s : ByteArray) (w : World) (hs : s.size ≤ maxLen) :
    Calls Try.prog 41 #[.string s] w fun e w' => e = .returned (ofR s) ∧ w = w' := by
  unfold maxLen at hs
  by_cases h : (s.size : Int) < 1 ∨ 8 < (s.size : Int)
  · rw [ofR_out h]
    by_cases h1 : s.size < 1
    · clear h
      go_enter Try.func41, Try.ntmps41
      go_wp2
      all_goals (go_ret2; exact ⟨rfl, rfl⟩)
    · have h2 : 8 < s.size := by omega
      clear h h1
      go_enter Try.func41, Try.ntmps41
      go_wp2
      all_goals (go_ret2; exact ⟨rfl, rfl⟩)
  have g1 : 1 ≤ s.size := by omega
  have g2 : s.size ≤ 8 := by omega
  clear h hs
  have h0 : 0 < s.size := by omega
  rw [ofR_yes g1 g2]
  have H1 := Lib.hid (sb_one h0)
  have hc0 : s[0].toNat < 256 := s[0].toNat_lt
  by_cases hc : 127 < (s[0].toNat : Int)
  · have HV : Hid ((s[0].toNat : Int) - 256 = sb s 1 h0) := Lib.hid (by rw [H1.out, if_pos hc])
    go_enter Try.func41, Try.ntmps41
    go_wp2
    all_goals
      go_loop [4, 5] (fun u v => ∃ k : Nat, 1 ≤ k ∧ k ≤ s.size ∧ u = .int .i64 (sb s k h0) ∧ v = .int .i64 k) (fun _ v => s.size - (intOf v).toNat)
      case atStart => exact ⟨1, by omega, g1, by rw [← HV.out], rfl⟩
      case round =>
        obtain ⟨k, hk1, hk, rfl, rfl⟩ := hrel
        by_cases hlt : k < s.size
        · obtain ⟨hb1, hb2⟩ := sb_bd h0 hk1 hk (by omega)
          have hck : s[k].toNat < 256 := s[k].toNat_lt
          have HS := Lib.hid (sb_step h0 hlt)
          go_wp2
          go_round
          case rel => exact ⟨k + 1, by omega, by omega, by rw [HS.out], by go_num⟩
          case measure => simp [intOf]; omega
        · have HE : Hid (sb s k h0 = ofN s) := Lib.hid (by rw [show k = s.size by omega]; exact ofN_sb h0 g2)
          go_wp2
          go_ret2
          exact ⟨ret_eq (tup_eq HE.out), rfl⟩
  · have HV : Hid ((s[0].toNat : Int) = sb s 1 h0) := Lib.hid (by rw [H1.out, if_neg hc]; omega)
    go_enter Try.func41, Try.ntmps41
    go_wp2
    all_goals
      go_loop [4, 5] (fun u v => ∃ k : Nat, 1 ≤ k ∧ k ≤ s.size ∧ u = .int .i64 (sb s k h0) ∧ v = .int .i64 k) (fun _ v => s.size - (intOf v).toNat)
      case atStart => exact ⟨1, by omega, g1, by rw [← HV.out], rfl⟩
      case round =>
        obtain ⟨k, hk1, hk, rfl, rfl⟩ := hrel
        by_cases hlt : k < s.size
        · obtain ⟨hb1, hb2⟩ := sb_bd h0 hk1 hk (by omega)
          have hck : s[k].toNat < 256 := s[k].toNat_lt
          have HS := Lib.hid (sb_step h0 hlt)
          go_wp2
          go_round
          case rel => exact ⟨k + 1, by omega, by omega, by rw [HS.out], by go_num⟩
          case measure => simp [intOf]; omega
        · have HE : Hid (sb s k h0 = ofN s) := Lib.hid (by rw [show k = s.size by omega]; exact ofN_sb h0 g2)
          go_wp2
          go_ret2
          exact ⟨ret_eq (tup_eq HE.out), rfl⟩
end Go.Proofs.Ytjgeggeanigaaaa
