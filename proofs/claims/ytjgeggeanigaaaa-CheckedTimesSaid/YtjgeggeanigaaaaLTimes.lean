/- Statement CheckedTimes, at the commit that the claim names: for any two numbers of 64 bits, a product divided by a factor is the other one, and a product that does not fit is 0, of factors that are not. No condition. -/
import Derived.Test.YtjgeggeanigaaaaAwake
import Derived.ProofKit
import Derived.ChangeMaps5
namespace Go.Proofs.Ytjgeggeanigaaaa.checkedTimes
open Go.ChangeShapes Go.WideShapes Go.ChangeAt Go.RowKit Go.ChangeMaps
set_option linter.unusedVariables false

theorem own : ownKnob Try.prog.godebug = none := by kernel_rfl
theorem walk (a : Int) (ha1 : -9223372036854775808 ≤ a) (ha2 : a ≤ 9223372036854775807) (b : Int) (hb1 : -9223372036854775808 ≤ b) (hb2 : b ≤ 9223372036854775807) (w : World) :
    Calls Try.prog 11 #[.int .i64 a, .int .i64 b] w fun e w' => e = .returned (.bool true) ∧ Below w.heap.size w w' := by
  by_cases h : -9223372036854775808 ≤ a * b ∧ a * b ≤ 9223372036854775807
  · have HA := Lib.hid (fitR_yes h)
    have HB : Hid (fitR (b * a) = .tuple #[.int .i64 (a * b), .bool true]) := Lib.hid (by rw [Int.mul_comm]; exact HA.out)
    obtain ⟨h1, h2⟩ := h
    by_cases ha0 : a = 0
    · subst ha0
      have HA2 := Lib.hid (show fitR (0 * b) = .tuple #[.int .i64 0, .bool true] by rw [HA.out]; simp)
      have HB2 := Lib.hid (show fitR (b * 0) = .tuple #[.int .i64 0, .bool true] by rw [HB.out]; simp)
      clear h1 h2
      go_enter Try.func11, Try.ntmps11
      go_wp2_with (first | (go_at_call 22; first | ((with_reducible refine (mul_any 0 b _ ha1 ha2 hb1 hb2).mono ?_); rintro e w' ⟨rfl, rfl⟩; rw [HA2.out]) | ((with_reducible refine (mul_any b 0 _ hb1 hb2 ha1 ha2).mono ?_); rintro e w' ⟨rfl, rfl⟩; rw [HB2.out])) | (go_at_call 21; refine (awake_any _).mono ?_; rintro e w' ⟨rfl, hb⟩))
      all_goals (go_ret; exact ⟨by simp, by assumption⟩)
    by_cases hb0 : b = 0
    · subst hb0
      have HA2 := Lib.hid (show fitR (a * 0) = .tuple #[.int .i64 0, .bool true] by rw [HA.out]; simp)
      have HB2 := Lib.hid (show fitR (0 * a) = .tuple #[.int .i64 0, .bool true] by rw [HB.out]; simp)
      clear h1 h2
      go_enter Try.func11, Try.ntmps11
      go_wp2_with (first | (go_at_call 22; first | ((with_reducible refine (mul_any a 0 _ ha1 ha2 hb1 hb2).mono ?_); rintro e w' ⟨rfl, rfl⟩; rw [HA2.out]) | ((with_reducible refine (mul_any 0 a _ hb1 hb2 ha1 ha2).mono ?_); rintro e w' ⟨rfl, rfl⟩; rw [HB2.out])) | (go_at_call 21; refine (awake_any _).mono ?_; rintro e w' ⟨rfl, hb⟩))
      all_goals (go_ret; exact ⟨by simp, by assumption⟩)
    have e1 : (a * b).tdiv b = a := Int.mul_tdiv_cancel _ hb0
    have e2 : (a * b).tmod b = 0 := Int.mul_tmod_left _ _
    have e3 : wrap64 a = a := IntWalk.wrap64_in _ ⟨ha1, ha2⟩
    have e4 : (a == 0) = false := by simp [ha0]
    have e5 : (b == 0) = false := by simp [hb0]
    go_enter Try.func11, Try.ntmps11
    go_wp2_with (first | (go_at_call 22; first | ((with_reducible refine (mul_any a b _ ha1 ha2 hb1 hb2).mono ?_); rintro e w' ⟨rfl, rfl⟩; rw [HA.out]) | ((with_reducible refine (mul_any b a _ hb1 hb2 ha1 ha2).mono ?_); rintro e w' ⟨rfl, rfl⟩; rw [HB.out])) | (go_at_call 21; refine (awake_any _).mono ?_; rintro e w' ⟨rfl, hb⟩))
    all_goals (go_ret; exact ⟨by simp, by assumption⟩)
  · have HA := Lib.hid (fitR_no h)
    have HB : Hid (fitR (b * a) = .tuple #[.int .i64 0, .bool false]) := Lib.hid (by rw [Int.mul_comm]; exact HA.out)
    have ha0 : a ≠ 0 := by intro e; subst e; simp at h
    have hb0 : b ≠ 0 := by intro e; subst e; simp at h
    clear h
    have e4 : (a == 0) = false := by simp [ha0]
    have e5 : (b == 0) = false := by simp [hb0]
    have e6 : (a != 0) = true := by simp [ha0]
    have e7 : (b != 0) = true := by simp [hb0]
    go_enter Try.func11, Try.ntmps11
    go_wp2_with (first | (go_at_call 22; first | ((with_reducible refine (mul_any a b _ ha1 ha2 hb1 hb2).mono ?_); rintro e w' ⟨rfl, rfl⟩; rw [HA.out]) | ((with_reducible refine (mul_any b a _ hb1 hb2 ha1 ha2).mono ?_); rintro e w' ⟨rfl, rfl⟩; rw [HB.out])) | (go_at_call 21; refine (awake_any _).mono ?_; rintro e w' ⟨rfl, hb⟩))
    all_goals (go_ret; exact ⟨by simp, by assumption⟩)

set_option maxRecDepth 100000 in
theorem lifted (os : Os) (started : os.Started) (H : Type) (enc : TypeId × Value → H) :
    ReturnsInHanded {} Try.checked os 11 .any (Rows.checkedTimesSpec.pre6 enc Try.prog Try.f11 Rows.checkedTimesRow.domain false) (Rows.checkedTimesSpec.post enc Try.prog Try.f11 false true false false) := by
  refine returnsInHanded_of_change (C := Try.checked) own started (by kernel_rfl) Try.func11
    (ChangeSpec.witness6 (enc := enc) (C := Try.checked) false ⟨#[], #[.int .i64 0, .int .i64 0], []⟩ 8 (by kernel_rfl) (by kernel_rfl) (by kernel_rfl) (by kernel_rfl)) ?_
  intro W base args ds gs before hval0 hW hcnd _
  have hval : ∀ (j : Nat) t v, Try.f11.params[j]? = some t → args[j]? = some v → Value.okWide Try.prog W .any base t v := hval0
  have hW' := hW
  obtain ⟨p, q, hA0, hV, rfl, hfz, hnd⟩ := hW
  have hA : DataW.TrodAll enc Try.prog W 0 (fun _ => true) true Try.f11.params.toList args.toList ds p := hA0
  rw [Try.params11] at hA hval
  obtain ⟨v0, vs0, d0, ds0, p0, q0, hargs, rfl, rfl, h0, r0⟩ := trodAll_cons hA
  obtain ⟨v1, vs1, d1, ds1, p1, q1, rfl, rfl, rfl, h1, r1⟩ := trodAll_cons r0
  obtain ⟨rfl, rfl, rfl⟩ := trodAll_nil r1
  obtain rfl : args = #[v0, v1] := by cases args; simp_all
  obtain ⟨rfl, rfl⟩ := trodVars_none hV
  obtain ⟨a0, rfl, rfl, rfl, w0⟩ := open_int Try.underlying3 (hval 0 3 v0 rfl rfl) h0
  obtain ⟨a1, rfl, rfl, rfl, w1⟩ := open_int Try.underlying3 (hval 1 3 v1 rfl rfl) h1
  clear hA0 hval0
  simp only [List.append_nil] at hW'
  refine (walk a0 (wf_i64 w0).1 (wf_i64 w0).2 a1 (wf_i64 w1).1 (wf_i64 w1).2 W).mono fun e W' ⟨he, hg⟩ => ?_
  subst he
  exact ⟨_, rfl, post_of_below (pa := []) (pv := []) hW' (fun _ _ _ => (trodAll_cons_mk (shut_bool Try.underlying4 _) trodAll_mk0)) (fun sp _ => (trodAll_cons_mk (shut_int Try.underlying3 w0) (trodAll_cons_mk (shut_int Try.underlying3 w1) trodAll_mk0))) (fun _ _ => rfl) rfl
    hg (ok_one (by kernel_rfl) rfl (okWide_bool_mk Try.underlying4 _))⟩

theorem over : Rows.checkedTimesRow.holds Try.pinned (OpenSpec.ofChange Rows.checkedTimesSpec) :=
  OpenClaim.holds_of_wide 11 Try.f11 rfl rfl rfl rfl rfl rfl rfl ⟨rfl, rfl, rfl, rfl, rfl⟩ rfl rfl rfl rfl rfl (by kernel_rfl) Try.func11 (by kernel_rfl)
    (of_decide_eq_true (by kernel_rfl)) (by unfold Func.isWrapper; first | (rw [if_pos (by decide +kernel)]; kernel_rfl) | (rw [if_neg (by decide +kernel)]; exact ⟨rfl, rfl⟩))
    (fun os started H enc _ => lifted os started H enc)

/-- The given statement. -/
theorem proved : Rows.CheckedTimesSaid :=
  over
#print axioms proved
end Go.Proofs.Ytjgeggeanigaaaa.checkedTimes
