/- What Sum of package checked returns for any numbers of 64 bits: their sum if it fits, else 0; and Sum of the document's answer, for at most 1048576 of them. -/
import Derived.Test.YtieomjkiabfhcaaRows
import Derived.Lib.Hide
import Derived.Test.YtieomjkiabfhcaaNumb
import Derived.LoopTactic
namespace Go.Proofs.Ytieomjkiabfhcaa
open Go.RowKit
set_option linter.unusedVariables false

/-- The places of a slice hold these numbers. -/
def RI (w : World) (ao : Option Addr) (zs : List Int) : Prop := ∀ i, i < zs.length → ∃ ad, ao = some ad ∧ ad.block < w.heap.size ∧ w.cell? (ad.add i) = some (.int .i64 (zs.getD i 0))
def In64 (zs : List Int) : Prop := ∀ z ∈ zs, -9223372036854775808 ≤ z ∧ z ≤ 9223372036854775807
theorem In64.at {zs : List Int} (h : In64 zs) {i : Nat} (hi : i < zs.length) : -9223372036854775808 ≤ zs.getD i 0 ∧ zs.getD i 0 ≤ 9223372036854775807 := by
  rw [List.getD_eq_getElem?_getD, List.getElem?_eq_getElem hi]
  exact h _ (List.getElem_mem hi)
theorem sum_take (zs : List Int) {k : Nat} (hk : k < zs.length) : (zs.take (k + 1)).sum = (zs.take k).sum + zs.getD k 0 := by
  rw [List.take_succ_eq_append_getElem hk, List.sum_append, List.getD_eq_getElem?_getD, List.getElem?_eq_getElem hk]
  simp
theorem wv_wr (x : Int) : wv x + 18446744073709551616 * wr x = x := by unfold wv; omega

theorem addWrapped_any (a b : Int) (w : World) (ha1 : -9223372036854775808 ≤ a) (ha2 : a ≤ 9223372036854775807) (hb1 : -9223372036854775808 ≤ b) (hb2 : b ≤ 9223372036854775807) :
    Calls Try.prog 61 #[.int .i64 a, .int .i64 b] w fun e w' => e = .returned (wrR (a + b)) ∧ w = w' := by
  by_cases h1 : 9223372036854775807 < a + b
  · have hx := wrap_up h1 ha2 hb2
    go_enter Try.func61, Try.ntmps61
    go_wp2
    all_goals (go_ret2; exact ⟨ret_eq (wrR_up h1 (by omega)).symm, rfl⟩)
  by_cases h2 : a + b < -9223372036854775808
  · have hx := wrap_dn h2 ha1 hb1
    clear h1
    go_enter Try.func61, Try.ntmps61
    go_wp2
    all_goals (go_ret2; exact ⟨ret_eq (wrR_dn h2 (by omega)).symm, rfl⟩)
  replace h1 : a + b ≤ 9223372036854775807 := by omega
  replace h2 : -9223372036854775808 ≤ a + b := by omega
  go_enter Try.func61, Try.ntmps61
  go_wp2
  all_goals (go_ret2; exact ⟨ret_eq (wrR_in h2 h1).symm, rfl⟩)

theorem sum_none (ao : Option Addr) (cap : Nat) (w : World) :
    Calls Try.prog 54 #[.slice ao 0 cap] w fun e w' => e = .returned (fitR 0) ∧ w = w' := by
  rw [fitR_yes (by omega)]
  go_enter Try.func54, Try.ntmps54
  go_wp2
  refine wp_loop_rounds 1 ?_
  rw [rounds_succ]
  go_wp2
  go_ret2
  exact ⟨rfl, rfl⟩
theorem sum_some (ad : Addr) (cap : Nat) (zs : List Int) (w : World) (h : RI w (some ad) zs) (hz : In64 zs) (hl : zs.length ≤ 140737488355328) :
    Calls Try.prog 54 #[.slice (some ad) zs.length cap] w fun e w' => e = .returned (fitR zs.sum) ∧ w = w' := by
  have H := Lib.hid h
  have HZ := Lib.hid hz
  clear h hz
  go_enter Try.func54, Try.ntmps54
  go_wp2
  go_loop [4, 5, 12] (fun u b v => ∃ (k : Nat) (x y : Int), k ≤ zs.length ∧ -9223372036854775808 ≤ x ∧ x ≤ 9223372036854775807 ∧ -(k : Int) ≤ y ∧ y ≤ k ∧ Hid (x + 18446744073709551616 * y = (zs.take k).sum) ∧ u = .int .i64 x ∧ b = .int .i64 y ∧ v = .int .i64 k) (fun _ _ v => zs.length - (intOf v).toNat)
  case atStart => exact ⟨0, 0, 0, by omega, by omega, by omega, by omega, by omega, Lib.hid (by simp), rfl, rfl, rfl⟩
  case round =>
    obtain ⟨k, x, y, hk, hx1, hx2, hy1, hy2, HX, rfl, rfl, rfl⟩ := hrel
    by_cases hlt : k < zs.length
    · obtain ⟨ad', he, hb, hcell⟩ := H.out k hlt
      obtain rfl := Option.some.inj he
      obtain ⟨hz1, hz2⟩ := HZ.out.at hlt
      have HT := Lib.hid (sum_take zs hlt)
      clear he hb
      generalize zs.getD k 0 = z at *
      obtain ⟨hv1, hv2⟩ := wv_bd (x := x + z) (by omega) (by omega)
      obtain ⟨hr1, hr2⟩ := wr_bd (x + z)
      have HE : Hid (wv (x + z) + 18446744073709551616 * (y + wr (x + z)) = (zs.take (k + 1)).sum) := Lib.hid (by rw [HT.out, ← HX.out]; have := wv_wr (x + z); omega)
      go_wp2_with (go_at_call 61; refine (addWrapped_any _ _ _ (by omega) (by omega) (by omega) (by omega)).mono ?_; rintro e w' ⟨rfl, rfl⟩; unfold wrR)
      go_round
      case rel => exact ⟨k + 1, wv (x + z), y + wr (x + z), by omega, hv1, hv2, by omega, by omega, HE, rfl, rfl, by go_num⟩
      case measure => simp [intOf]; omega
    · have HE : Hid (x + 18446744073709551616 * y = zs.sum) := Lib.hid (by rw [HX.out, List.take_of_length_le (by omega)])
      by_cases h0 : y = 0
      · subst h0
        have HV : Hid (fitR zs.sum = .tuple #[.int .i64 x, .bool true]) := Lib.hid (by rw [← HE.out, show x + 18446744073709551616 * 0 = x by omega]; exact fitR_yes ⟨hx1, hx2⟩)
        go_wp2
        go_ret2
        exact ⟨ret_eq HV.out.symm, rfl⟩
      · have HV : Hid (fitR zs.sum = .tuple #[.int .i64 0, .bool false]) := Lib.hid (fitR_no (by rw [← HE.out]; omega))
        go_wp2
        go_ret2
        exact ⟨ret_eq HV.out.symm, rfl⟩
theorem sum_any (ao : Option Addr) (len cap : Nat) (zs : List Int) (w : World) (he : zs.length = len) (h : RI w ao zs) (hz : In64 zs) (hl : zs.length ≤ 140737488355328) :
    Calls Try.prog 54 #[.slice ao len cap] w fun e w' => e = .returned (fitR zs.sum) ∧ w = w' := by
  subst he
  cases zs with
  | nil => exact sum_none ao cap w
  | cons z zs =>
    obtain ⟨ad, rfl, _, _⟩ := h 0 (by simp)
    exact sum_some ad cap _ w h hz hl

theorem sumRef_none (ao : Option Addr) (cap : Nat) (w : World) :
    Calls Try.prog 33 #[.slice ao 0 cap] w fun e w' => e = .returned (fitR 0) ∧ w = w' := by
  rw [fitR_yes (by omega)]
  have e0 := i64_and32 0
  go_enter Try.func33, Try.ntmps33
  go_wp2
  refine wp_loop_rounds 1 ?_
  rw [rounds_succ]
  go_wp2
  go_ret2
  exact ⟨rfl, rfl⟩
theorem sumRef_some (ad : Addr) (cap : Nat) (zs : List Int) (w : World) (h : RI w (some ad) zs) (hz : In64 zs) (hl : zs.length ≤ 1048576) :
    Calls Try.prog 33 #[.slice (some ad) zs.length cap] w fun e w' => e = .returned (fitR zs.sum) ∧ w = w' := by
  have H := Lib.hid h
  have HZ := Lib.hid hz
  clear h hz
  go_enter Try.func33, Try.ntmps33
  go_wp2
  go_loop [4, 5, 6] (fun u b v => ∃ (k : Nat) (x y : Int), k ≤ zs.length ∧ -2147483648 * (k : Int) ≤ x ∧ x ≤ 2147483648 * (k : Int) ∧ 0 ≤ y ∧ y ≤ 4294967295 * (k : Int) ∧ Hid (x * 4294967296 + y = (zs.take k).sum) ∧ u = .int .i64 x ∧ b = .int .i64 y ∧ v = .int .i64 k) (fun _ _ v => zs.length - (intOf v).toNat)
  case atStart => exact ⟨0, 0, 0, by omega, by omega, by omega, by omega, by omega, Lib.hid (by simp), rfl, rfl, rfl⟩
  case round =>
    obtain ⟨k, x, y, hk, hx1, hx2, hy1, hy2, HX, rfl, rfl, rfl⟩ := hrel
    by_cases hlt : k < zs.length
    · obtain ⟨ad', he, hb, hcell⟩ := H.out k hlt
      obtain rfl := Option.some.inj he
      obtain ⟨hz1, hz2⟩ := HZ.out.at hlt
      have HT := Lib.hid (sum_take zs hlt)
      clear he hb
      generalize zs.getD k 0 = z at *
      have HE : Hid ((x + z / 4294967296) * 4294967296 + (y + z % 4294967296) = (zs.take (k + 1)).sum) := Lib.hid (by rw [HT.out, ← HX.out]; omega)
      have ez := i64_and32 z
      go_wp2
      go_round
      case rel => exact ⟨k + 1, x + z / 4294967296, y + z % 4294967296, by omega, by omega, by omega, by omega, by omega, HE, rfl, rfl, by go_num⟩
      case measure => simp [intOf]; omega
    · have HE : Hid (x * 4294967296 + y = zs.sum) := Lib.hid (by rw [HX.out, List.take_of_length_le (by omega)])
      have ez := i64_and32 y
      by_cases h1 : x + y / 4294967296 < -2147483648
      · have HV : Hid (fitR zs.sum = .tuple #[.int .i64 0, .bool false]) := Lib.hid (fitR_no (by rw [← HE.out]; omega))
        go_wp2
        go_ret2
        exact ⟨ret_eq HV.out.symm, rfl⟩
      by_cases h2 : 2147483648 ≤ x + y / 4294967296
      · have HV : Hid (fitR zs.sum = .tuple #[.int .i64 0, .bool false]) := Lib.hid (fitR_no (by rw [← HE.out]; omega))
        clear h1
        go_wp2
        go_ret2
        exact ⟨ret_eq HV.out.symm, rfl⟩
      have HV : Hid (fitR zs.sum = .tuple #[.int .i64 ((x + y / 4294967296) * 4294967296 + y % 4294967296), .bool true]) := Lib.hid (by rw [fitR_yes (by rw [← HE.out]; omega)]; exact tup_eq (by rw [← HE.out]; omega))
      replace h1 : -2147483648 ≤ x + y / 4294967296 := by omega
      replace h2 : x + y / 4294967296 < 2147483648 := by omega
      go_wp2
      go_ret2
      exact ⟨ret_eq HV.out.symm, rfl⟩
theorem sumRef_any (ao : Option Addr) (len cap : Nat) (zs : List Int) (w : World) (he : zs.length = len) (h : RI w ao zs) (hz : In64 zs) (hl : zs.length ≤ 1048576) :
    Calls Try.prog 33 #[.slice ao len cap] w fun e w' => e = .returned (fitR zs.sum) ∧ w = w' := by
  subst he
  cases zs with
  | nil => exact sumRef_none ao cap w
  | cons z zs =>
    obtain ⟨ad, rfl, _, _⟩ := h 0 (by simp)
    exact sumRef_some ad cap _ w h hz hl
end Go.Proofs.Ytieomjkiabfhcaa
