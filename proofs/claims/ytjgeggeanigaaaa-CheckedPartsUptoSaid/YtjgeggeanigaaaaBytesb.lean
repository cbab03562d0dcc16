/- What Bytes of package checked, and of the document's answer, returns: the bytes of a number that fits into so many. Nothing that was in memory is changed. -/
import Derived.Test.YtjgeggeanigaaaaBytes
import Derived.Maps.AppendAt
namespace Go.Proofs.Ytjgeggeanigaaaa
open Go.RowKit
set_option linter.unusedVariables false

theorem Try.info5 : (Try.prog.info? 5).map (fun i => (i.zero, i.size, i.bytes)) = some (some (.int .u8 0), 1, 1) := by kernel_rfl

theorem made_row (n : Nat) (a : Int) : (madeCells (Value.int .u8 0).cells (n * 1)).toList = (row n 0 a).map (Value.int .u8) := by
  rw [show (Value.int .u8 0).cells = #[.int .u8 0] by rfl, toList_madeCells_one, row_zero]
  simp
theorem row_cell {w : World} {base g n k : Nat} {a : Int} (h : w.ownsRow base 5 1 (.slice (some ⟨g, 0, none⟩) n n) n ((row n k a).map (Value.int .u8))) {j : Nat} (hj : j < n) :
    ∃ x : Int, w.cell? ⟨g, j, none⟩ = some (.int .u8 x) := by
  rw [h.cellAt j (by omega), List.getElem?_map, row_get hj]
  exact ⟨_, rfl⟩
theorem row_stored {w : World} {base g n k : Nat} {a : Int} (h : w.ownsRow base 5 1 (.slice (some ⟨g, 0, none⟩) n n) n ((row n k a).map (Value.int .u8))) (hk : k < n) :
    (w.setCell ⟨g, n - 1 - k, none⟩ (.int .u8 (byteAt a k))).ownsRow base 5 1 (.slice (some ⟨g, 0, none⟩) n n) n ((row n (k + 1) a).map (Value.int .u8)) := by
  have := (h.stored (n - 1 - k) (.int .u8 (byteAt a k))).1
  rw [← List.map_set, row_set hk] at this
  exact this

theorem bytes_any (a n : Int) (w : World) (ha1 : -9223372036854775808 ≤ a) (ha2 : a ≤ 9223372036854775807) (hn1 : -9223372036854775808 ≤ n) (hn2 : n ≤ 9223372036854775807) :
    Calls Try.prog 38 #[.int .i64 a, .int .i64 n] w fun e w' => e = .returned (bytesR a n) ∧ Below w.heap.size w w' := by
  by_cases h : n < 1 ∨ 8 < n
  · rw [bytesR_no (bytesB_out h)]
    have H := Lib.hid (byB_no h)
    go_enter Try.func38, Try.ntmps38
    go_wp2_with (go_at_call 46; refine (isByteCount_any _ _ (by omega) (by omega)).mono ?_; rintro e w' ⟨rfl, rfl⟩; rw [H.out])
    all_goals (go_ret2; exact ⟨rfl, Below.refl _ _⟩)
  have g1 : 1 ≤ n := by omega
  have g2 : n ≤ 8 := by omega
  clear h hn1 hn2
  have H := Lib.hid (byB_yes g1 g2)
  by_cases hf : fitsB a (8 * n) = false
  · rw [bytesR_no (bytesB_off hf)]
    have HF := Lib.hid hf
    clear hf
    go_enter Try.func38, Try.ntmps38
    go_wp2_with (first | (go_at_call 46; refine (isByteCount_any _ _ (by omega) (by omega)).mono ?_; rintro e w' ⟨rfl, rfl⟩; rw [H.out]) | (go_at_call 32; refine (fits_any _ _ _ (by omega) (by omega) (by omega) (by omega)).mono ?_; rintro e w' ⟨rfl, rfl⟩; rw [HF.out]))
    all_goals (go_ret2; exact ⟨rfl, Below.refl _ _⟩)
  have HF := Lib.hid (by simpa using hf : fitsB a (8 * n) = true)
  clear hf
  rw [bytesR_yes (bytesB_yes g1 g2 HF.out)]
  obtain ⟨m, rfl⟩ : ∃ m : Nat, n = m := ⟨n.toNat, by omega⟩
  obtain ⟨i0, hi, hz0, hz1, hz2⟩ := info_parts Try.info5
  have Hz1 := Lib.hid hz1
  have Hz2 := Lib.hid hz2
  have Hi := Lib.hid hi
  have Hz0 := Lib.hid hz0
  clear hi hz0 hz1 hz2
  go_enter Try.func38, Try.ntmps38
  go_wp2_with (first | (go_at_call 46; refine (isByteCount_any _ _ (by omega) (by omega)).mono ?_; rintro e w' ⟨rfl, rfl⟩; rw [H.out]) | (go_at_call 32; refine (fits_any _ _ _ (by omega) (by omega) (by omega) (by omega)).mono ?_; rintro e w' ⟨rfl, rfl⟩; rw [HF.out]) | (refine wpList_make_full _ rfl _ _ 48 rfl w.heap.size 5 i0 (.int .u8 0) 1 Try.underlying48 Hi.out Hz0.out Hz1.out .i64 .i64 _ _ m rfl rfl rfl rfl (by rw [Hz2.out]; omega) (by unfold maxLen; omega) (Nat.le_refl _) ?_; rw [made_row m a]; intro w1 hown hgrow))
  have HB : Hid (Below w.heap.size w w1) := Lib.hid ((Below.refl _ _).grown hgrow (Nat.le_refl _) (fun k hk => by cases hk))
  have HR := Lib.hid hown
  clear hown hgrow
  go_loopw [22] (fun v wr => ∃ k : Nat, k ≤ m ∧ v = .int .i64 k ∧ Hid (wr.ownsRow w.heap.size 5 1 (.slice (some ⟨w.heap.size, 0, none⟩) m m) m ((row m k a).map (Value.int .u8))) ∧ Hid (Below w.heap.size w wr)) (fun v _ => m - (intOf v).toNat)
  case atStart => exact ⟨0, by omega, rfl, HR, HB⟩
  case round =>
    obtain ⟨k, hk, rfl, HR, HB⟩ := hrel
    by_cases hlt : k < m
    · obtain ⟨x, hx⟩ := row_cell HR.out (j := m - 1 - k) (by omega)
      have hfr := HR.out.frozenAt (m - 1 - k)
      have HS := Lib.hid (row_stored HR.out hlt)
      have HV := Lib.hid (byte_shift a k)
      go_wp2
      rw [HV.out]
      go_roundw
      case rel => exact ⟨k + 1, by omega, by go_num, HS, Lib.hid (HB.out.setCell (Nat.le_refl _) _)⟩
      case measure => simp [intOf]; omega
    · have HC := Lib.hid (run_convert_bytes_arg (P := Try.prog) wr 48 5 Try.underlying48 Try.underlying5 w.heap.size 0 m m (row m m a) (row_length m m a) (fun i hi => by
        have e : k = m := by omega
        rw [Nat.zero_add, HR.out.cellAt i (by omega), e, List.getElem?_map, List.getD_eq_getElem?_getD, row_get hi]; rfl) 9 Try.underlying9)
      have hconv := HC.out
      go_wp2
      go_ret2
      exact ⟨rfl, HB.out⟩

theorem own_one {w : World} {base : Nat} {v : Value} {b : Int} (h : w.ownsRow base 5 1 v 1 [.int .u8 b]) :
    ∃ g cap : Nat, v = .slice (some ⟨g, 0, none⟩) 1 cap ∧ base ≤ g ∧ (convert 48 9 (.slice (some ⟨g, 0, none⟩) 1 cap)).run Try.prog w = .ok (.string (strOfNums [b])) w := by
  rcases h.2 with ⟨_, h0⟩ | ⟨g, cap, cur, hv, hb, _, _, _, _, _⟩
  · omega
  · subst hv
    refine ⟨g, cap, rfl, hb, run_convert_bytes_arg (P := Try.prog) w 48 5 Try.underlying48 Try.underlying5 g 0 1 cap [b] rfl (fun i hi => ?_) 9 Try.underlying9⟩
    rw [Nat.zero_add, h.cellAt i (by omega), show i = 0 by omega]
    rfl
theorem add_text (b : Int) (k : Nat) (a : Int) (hb : b = byteAt a k) (hk : k ≤ 8) (w : World) : (Op.stringOp .add (strOfNums [b]) (strOfNums (beL k a))).run Try.prog w = .ok (.string (strOfNums (beL (k + 1) a))) w := by
  rw [run_string_add_sum w _ _ (by rw [strOfNums_size, strOfNums_size, beL_length]; simp; omega), strOfNums_cons, beL_succ, hb]

theorem bytesRef_any (a n : Int) (w : World) (ha1 : -9223372036854775808 ≤ a) (ha2 : a ≤ 9223372036854775807) (hn1 : -9223372036854775808 ≤ n) (hn2 : n ≤ 9223372036854775807) :
    Calls Try.prog 39 #[.int .i64 a, .int .i64 n] w fun e w' => e = .returned (bytesR a n) ∧ Below w.heap.size w w' := by
  by_cases h : n < 1 ∨ 8 < n
  · rw [bytesR_no (bytesB_out h)]
    go_enter Try.func39, Try.ntmps39
    go_wp2
    all_goals (go_ret2; exact ⟨rfl, Below.refl _ _⟩)
  have g1 : 1 ≤ n := by omega
  have g2 : n ≤ 8 := by omega
  clear h hn1 hn2
  by_cases hf : fitsB a (8 * n) = false
  · rw [bytesR_no (bytesB_off hf)]
    have HF := Lib.hid hf
    clear hf
    go_enter Try.func39, Try.ntmps39
    go_wp2_with (go_at_call 33; refine (fitsRef_any _ _ _ (by omega) (by omega) (by omega) (by omega)).mono ?_; rintro e w' ⟨rfl, rfl⟩; rw [HF.out])
    all_goals (go_ret2; exact ⟨rfl, Below.refl _ _⟩)
  have HF := Lib.hid (by simpa using hf : fitsB a (8 * n) = true)
  clear hf
  rw [bytesR_yes (bytesB_yes g1 g2 HF.out)]
  obtain ⟨m, rfl⟩ : ∃ m : Nat, n = m := ⟨n.toNat, by omega⟩
  obtain ⟨i0, hi, hz0, hz1, hz2⟩ := info_parts Try.info5
  have Hz1 := Lib.hid hz1
  have Hz2 := Lib.hid hz2
  have Hi := Lib.hid hi
  have Hz0 := Lib.hid hz0
  clear hi hz0 hz1 hz2
  go_enter Try.func39, Try.ntmps39
  go_wp2_with (go_at_call 33; refine (fitsRef_any _ _ _ (by omega) (by omega) (by omega) (by omega)).mono ?_; rintro e w' ⟨rfl, rfl⟩; rw [HF.out])
  go_loopw [0, 6, 7] (fun u t v wr => ∃ (k : Nat) (y : Int), k ≤ m ∧ -9223372036854775808 ≤ y ∧ y ≤ 9223372036854775807 ∧ Hid (a / 256 ^ k = y) ∧ u = .int .i64 y ∧ t = .string (strOfNums (beL k a)) ∧ v = .int .i64 k ∧ Hid (Below w.heap.size w wr)) (fun _ _ v _ => m - (intOf v).toNat)
  case atStart => exact ⟨0, a, by omega, ha1, ha2, Lib.hid (by simp), rfl, rfl, rfl, Lib.hid (Below.refl _ _)⟩
  case round =>
    obtain ⟨k, y, hk, hy1, hy2, HY, rfl, rfl, rfl, HB⟩ := hrel
    by_cases hlt : k < m
    · have HY2 : Hid (a / 256 ^ (k + 1) = y / 256) := Lib.hid (by rw [← div_step, HY.out])
      have HV : Hid (y % 256 = byteAt a k) := Lib.hid (by rw [← HY.out]; rfl)
      by_cases hneg : (y + 128) % 256 - 128 < 0
      · go_wp2_with (first | (go_at_call 31; refine (narrowRef_any _ _ _ (by omega) (by omega) (by omega) (by omega)).mono ?_; rintro e w' ⟨rfl, rfl⟩; rw [nar8]) | (go_at_call 29; refine (shrRef_any _ _ _ (by omega) (by omega) (by omega) (by omega)).mono ?_; rintro e w' ⟨rfl, rfl⟩; rw [shr8]) | (at_builtin; refine wpList_append_own _ rfl _ _ 48 rfl w.heap.size 5 i0 (.int .u8 0) 1 1 Try.underlying48 Hi.out Hz0.out Hz1.out Hz2.out rfl (by decide) (.slice none 0 0) 0 [] rfl (World.ownsRow_nil _ _ _ _) ⟨wr.heap.size, 0, none⟩ 1 1 [.int .u8 ((y + 128) % 256 - 128 + 256)] rfl rfl (cell_one_new _ _ _) (by intro u hu; simp at hu; subst hu; rfl) (by unfold maxLen; omega) (by omega) (by have := HB.out.size; simp; omega) ?_; intro v1 w1 hown hgrow _; have HB1 : Hid (Below w.heap.size w w1) := Lib.hid ((HB.out.alloc HB.out.size _).grown hgrow (by have := HB.out.size; simp; omega) (fun k hk => by cases hk)); obtain ⟨g, cap, rfl, hbg, hconv⟩ := own_one hown; have hadd := add_text ((y + 128) % 256 - 128 + 256) k a (by rw [← HV.out]; omega) (by omega) w1; clear hown hgrow))
        go_roundw
        case rel => exact ⟨k + 1, y / 256, by omega, by omega, by omega, HY2, rfl, rfl, by go_num, HB1⟩
        case measure => simp [intOf]; omega
      · have hpos : 0 ≤ (y + 128) % 256 - 128 := by omega
        clear hneg
        go_wp2_with (first | (go_at_call 31; refine (narrowRef_any _ _ _ (by omega) (by omega) (by omega) (by omega)).mono ?_; rintro e w' ⟨rfl, rfl⟩; rw [nar8]) | (go_at_call 29; refine (shrRef_any _ _ _ (by omega) (by omega) (by omega) (by omega)).mono ?_; rintro e w' ⟨rfl, rfl⟩; rw [shr8]) | (at_builtin; refine wpList_append_own _ rfl _ _ 48 rfl w.heap.size 5 i0 (.int .u8 0) 1 1 Try.underlying48 Hi.out Hz0.out Hz1.out Hz2.out rfl (by decide) (.slice none 0 0) 0 [] rfl (World.ownsRow_nil _ _ _ _) ⟨wr.heap.size, 0, none⟩ 1 1 [.int .u8 ((y + 128) % 256 - 128)] rfl rfl (cell_one_new _ _ _) (by intro u hu; simp at hu; subst hu; rfl) (by unfold maxLen; omega) (by omega) (by have := HB.out.size; simp; omega) ?_; intro v1 w1 hown hgrow _; have HB1 : Hid (Below w.heap.size w w1) := Lib.hid ((HB.out.alloc HB.out.size _).grown hgrow (by have := HB.out.size; simp; omega) (fun k hk => by cases hk)); obtain ⟨g, cap, rfl, hbg, hconv⟩ := own_one hown; have hadd := add_text ((y + 128) % 256 - 128) k a (by rw [← HV.out]; omega) (by omega) w1; clear hown hgrow))
        go_roundw
        case rel => exact ⟨k + 1, y / 256, by omega, by omega, by omega, HY2, rfl, rfl, by go_num, HB1⟩
        case measure => simp [intOf]; omega
    · have e : k = m := by omega
      subst e
      go_wp2
      go_ret2
      exact ⟨rfl, HB.out⟩
end Go.Proofs.Ytjgeggeanigaaaa
