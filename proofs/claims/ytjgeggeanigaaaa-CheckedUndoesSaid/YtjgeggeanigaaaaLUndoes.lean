/- Statement CheckedUndoes, at the commit that the claim names: for any two numbers of 64 bits, what was added can be taken away, in any order, and a sum that does not fit is 0, of numbers of one sign. No condition. -/
import Derived.Test.YtjgeggeanigaaaaAwake
import Derived.ProofKit
import Derived.ChangeMaps5
namespace Go.Proofs.Ytjgeggeanigaaaa.checkedUndoes
open Go.ChangeShapes Go.WideShapes Go.ChangeAt Go.RowKit Go.ChangeMaps
set_option linter.unusedVariables false

theorem own : ownKnob Try.prog.godebug = none := by kernel_rfl
theorem walk (a : Int) (ha1 : -9223372036854775808 ≤ a) (ha2 : a ≤ 9223372036854775807) (b : Int) (hb1 : -9223372036854775808 ≤ b) (hb2 : b ≤ 9223372036854775807) (w : World) :
    Calls Try.prog 10 #[.int .i64 a, .int .i64 b] w fun e w' => e = .returned (.bool true) ∧ Below w.heap.size w w' := by
  by_cases h : -9223372036854775808 ≤ a + b ∧ a + b ≤ 9223372036854775807
  · have HA := Lib.hid (fitR_yes h)
    have HB : Hid (fitR (b + a) = .tuple #[.int .i64 (a + b), .bool true]) := Lib.hid (by rw [Int.add_comm]; exact HA.out)
    have HC : Hid (fitR (a + b - b) = .tuple #[.int .i64 a, .bool true]) := Lib.hid (by rw [Int.add_sub_cancel]; exact fitR_yes ⟨ha1, ha2⟩)
    obtain ⟨h1, h2⟩ := h
    go_enter Try.func10, Try.ntmps10
    go_wp2_with (first | (go_at_call 15; first | ((with_reducible refine (add_any a b _ ha1 ha2 hb1 hb2).mono ?_); rintro e w' ⟨rfl, rfl⟩; rw [HA.out]) | ((with_reducible refine (add_any b a _ hb1 hb2 ha1 ha2).mono ?_); rintro e w' ⟨rfl, rfl⟩; rw [HB.out])) | (go_at_call 17; refine (sub_any _ _ _ (by omega) (by omega) (by omega) (by omega)).mono ?_; rintro e w' ⟨rfl, rfl⟩; rw [HC.out]) | (go_at_call 21; refine (awake_any _).mono ?_; rintro e w' ⟨rfl, hb⟩))
    all_goals (go_ret; exact ⟨by simp, by assumption⟩)
  · have HA := Lib.hid (fitR_no h)
    have HB : Hid (fitR (b + a) = .tuple #[.int .i64 0, .bool false]) := Lib.hid (by rw [Int.add_comm]; exact HA.out)
    by_cases hp : 0 < a
    · have hq : 0 < b := by omega
      clear h
      go_enter Try.func10, Try.ntmps10
      go_wp2_with (first | (go_at_call 15; first | ((with_reducible refine (add_any a b _ ha1 ha2 hb1 hb2).mono ?_); rintro e w' ⟨rfl, rfl⟩; rw [HA.out]) | ((with_reducible refine (add_any b a _ hb1 hb2 ha1 ha2).mono ?_); rintro e w' ⟨rfl, rfl⟩; rw [HB.out])) | (go_at_call 21; refine (awake_any _).mono ?_; rintro e w' ⟨rfl, hb⟩))
      all_goals (go_ret; exact ⟨by simp, by assumption⟩)
    · have hp' : a ≤ 0 := by omega
      have hq : b ≤ 0 := by omega
      clear h hp
      have e1 : decide (0 < a) = false := decide_eq_false (by omega)
      have e2 : decide (0 < b) = false := decide_eq_false (by omega)
      go_enter Try.func10, Try.ntmps10
      go_wp2_with (first | (go_at_call 15; first | ((with_reducible refine (add_any a b _ ha1 ha2 hb1 hb2).mono ?_); rintro e w' ⟨rfl, rfl⟩; rw [HA.out]) | ((with_reducible refine (add_any b a _ hb1 hb2 ha1 ha2).mono ?_); rintro e w' ⟨rfl, rfl⟩; rw [HB.out])) | (go_at_call 21; refine (awake_any _).mono ?_; rintro e w' ⟨rfl, hb⟩))
      all_goals (go_ret; exact ⟨by simp, by assumption⟩)

set_option maxRecDepth 100000 in
theorem lifted (os : Os) (started : os.Started) (H : Type) (enc : TypeId × Value → H) :
    ReturnsInHanded {} Try.checked os 10 .any (Rows.checkedUndoesSpec.pre6 enc Try.prog Try.f10 Rows.checkedUndoesRow.domain false) (Rows.checkedUndoesSpec.post enc Try.prog Try.f10 false true false false) := by
  refine returnsInHanded_of_change (C := Try.checked) own started (by kernel_rfl) Try.func10
    (ChangeSpec.witness6 (enc := enc) (C := Try.checked) false ⟨#[], #[.int .i64 0, .int .i64 0], []⟩ 8 (by kernel_rfl) (by kernel_rfl) (by kernel_rfl) (by kernel_rfl)) ?_
  intro W base args ds gs before hval0 hW hcnd _
  have hval : ∀ (j : Nat) t v, Try.f10.params[j]? = some t → args[j]? = some v → Value.okWide Try.prog W .any base t v := hval0
  have hW' := hW
  obtain ⟨p, q, hA0, hV, rfl, hfz, hnd⟩ := hW
  have hA : DataW.TrodAll enc Try.prog W 0 (fun _ => true) true Try.f10.params.toList args.toList ds p := hA0
  rw [Try.params10] at hA hval
  obtain ⟨v0, vs0, d0, ds0, p0, q0, hargs, rfl, rfl, h0, r0⟩ := trodAll_cons hA
  obtain ⟨v1, vs1, d1, ds1, p1, q1, rfl, rfl, rfl, h1, r1⟩ := trodAll_cons r0
  obtain ⟨rfl, rfl, rfl⟩ := trodAll_nil r1
  obtain rfl : args = #[v0, v1] := by cases args; simp_all
  obtain ⟨rfl, rfl⟩ := trodVars_none hV
  obtain ⟨a0, rfl, rfl, rfl, w0⟩ := open_int Try.underlying3 (hval 0 3 v0 rfl rfl) h0
  obtain ⟨a1, rfl, rfl, rfl, w1⟩ := open_int Try.underlying3 (hval 1 3 v1 rfl rfl) h1
  clear hA0 hval0
  simp only [List.append_nil] at hW'
  refine (walk a0 (wf_i64 w0).1 (wf_i64 w0).2 a1 (wf_i64 w1).1 (wf_i64 w1).2 W).mono fun e W' ⟨he, hg⟩ => ?_
  subst he
  exact ⟨_, rfl, post_of_below (pa := []) (pv := []) hW' (fun _ _ _ => (trodAll_cons_mk (shut_bool Try.underlying4 _) trodAll_mk0)) (fun sp _ => (trodAll_cons_mk (shut_int Try.underlying3 w0) (trodAll_cons_mk (shut_int Try.underlying3 w1) trodAll_mk0))) (fun _ _ => rfl) rfl
    hg (ok_one (by kernel_rfl) rfl (okWide_bool_mk Try.underlying4 _))⟩

theorem over : Rows.checkedUndoesRow.holds Try.pinned (OpenSpec.ofChange Rows.checkedUndoesSpec) :=
  OpenClaim.holds_of_wide 10 Try.f10 rfl rfl rfl rfl rfl rfl rfl ⟨rfl, rfl, rfl, rfl, rfl⟩ rfl rfl rfl rfl rfl (by kernel_rfl) Try.func10 (by kernel_rfl)
    (of_decide_eq_true (by kernel_rfl)) (by unfold Func.isWrapper; first | (rw [if_pos (by decide +kernel)]; kernel_rfl) | (rw [if_neg (by decide +kernel)]; exact ⟨rfl, rfl⟩))
    (fun os started H enc _ => lifted os started H enc)

/-- The given statement. -/
theorem proved : Rows.CheckedUndoesSaid :=
  over
#print axioms proved
end Go.Proofs.Ytjgeggeanigaaaa.checkedUndoes
