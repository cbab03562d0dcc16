/- Statement CheckedWidths, at the commit that the claim names: for any three numbers of 64 bits, what is narrowed fits, is narrowed already, and fits into more bits. No condition. -/
import Derived.Test.YtjgeggeanigaaaaAwake
import Derived.ProofKit
import Derived.ChangeMaps5
namespace Go.Proofs.Ytjgeggeanigaaaa.checkedWidths
open Go.ChangeShapes Go.WideShapes Go.ChangeAt Go.RowKit Go.ChangeMaps
set_option linter.unusedVariables false

theorem own : ownKnob Try.prog.godebug = none := by kernel_rfl
theorem walk (a : Int) (ha1 : -9223372036854775808 ≤ a) (ha2 : a ≤ 9223372036854775807) (b : Int) (hb1 : -9223372036854775808 ≤ b) (hb2 : b ≤ 9223372036854775807) (m : Int) (hm1 : -9223372036854775808 ≤ m) (hm2 : m ≤ 9223372036854775807) (w : World) :
    Calls Try.prog 14 #[.int .i64 a, .int .i64 b, .int .i64 m] w fun e w' => e = .returned (.bool true) ∧ Below w.heap.size w w' := by
  by_cases h : b < 1 ∨ 64 < b
  · have HA := Lib.hid (narR_out (a := a) h)
    by_cases h1 : b < 1
    · clear h
      go_enter Try.func14, Try.ntmps14
      go_wp2_with (first | (go_at_call 30; refine (narrow_any a b _ ha1 ha2 hb1 hb2).mono ?_; rintro e w' ⟨rfl, rfl⟩; rw [HA.out]) | (go_at_call 21; refine (awake_any _).mono ?_; rintro e w' ⟨rfl, hb⟩))
      all_goals (go_ret; exact ⟨by simp, by assumption⟩)
    · have h2 : 64 < b := by omega
      clear h h1
      go_enter Try.func14, Try.ntmps14
      go_wp2_with (first | (go_at_call 30; refine (narrow_any a b _ ha1 ha2 hb1 hb2).mono ?_; rintro e w' ⟨rfl, rfl⟩; rw [HA.out]) | (go_at_call 21; refine (awake_any _).mono ?_; rintro e w' ⟨rfl, hb⟩))
      all_goals (go_ret; exact ⟨by simp, by assumption⟩)
  have g1 : 1 ≤ b := by omega
  have g2 : b ≤ 64 := by omega
  clear h
  have HA := Lib.hid (narR_yes (a := a) g1 g2)
  obtain ⟨hc1, hc2⟩ := nar_in64 (k := b.toNat) (by omega) (by omega) a
  have Hbd := Lib.hid (nar_bd (k := b.toNat) (by omega) a)
  have HI := Lib.hid (nar_id (k := b.toNat) (by omega) Hbd.out.1 Hbd.out.2)
  have HC : Hid (narR (nar b.toNat a) b = .tuple #[.int .i64 (nar b.toNat a), .bool true]) := Lib.hid (by rw [narR_yes g1 g2]; exact tup_eq HI.out)
  have HFc := Lib.hid (fitsB_yes g1 g2 Hbd.out)
  have HFa : Hid (fitsB a b = (a == nar b.toNat a)) := Lib.hid (by rw [fitsB_nar g1 g2, BEq.comm])
  by_cases k1 : m < b
  · skip
    go_enter Try.func14, Try.ntmps14
    go_wp2_with (first | (go_at_call 30; first | ((with_reducible refine (narrow_any a b _ ha1 ha2 hb1 hb2).mono ?_); rintro e w' ⟨rfl, rfl⟩; rw [HA.out]) | ((with_reducible refine (narrow_any _ b _ hc1 hc2 hb1 hb2).mono ?_); rintro e w' ⟨rfl, rfl⟩; rw [HC.out])) | (go_at_call 32; first | ((with_reducible refine (fits_any a b _ ha1 ha2 hb1 hb2).mono ?_); rintro e w' ⟨rfl, rfl⟩; rw [HFa.out]) | ((with_reducible refine (fits_any (nar b.toNat a) b _ hc1 hc2 hb1 hb2).mono ?_); rintro e w' ⟨rfl, rfl⟩; rw [HFc.out])) | (go_at_call 21; refine (awake_any _).mono ?_; rintro e w' ⟨rfl, hb⟩))
    all_goals (go_ret; exact ⟨by simp, by assumption⟩)
  by_cases k2 : 64 < m
  · skip
    go_enter Try.func14, Try.ntmps14
    go_wp2_with (first | (go_at_call 30; first | ((with_reducible refine (narrow_any a b _ ha1 ha2 hb1 hb2).mono ?_); rintro e w' ⟨rfl, rfl⟩; rw [HA.out]) | ((with_reducible refine (narrow_any _ b _ hc1 hc2 hb1 hb2).mono ?_); rintro e w' ⟨rfl, rfl⟩; rw [HC.out])) | (go_at_call 32; first | ((with_reducible refine (fits_any a b _ ha1 ha2 hb1 hb2).mono ?_); rintro e w' ⟨rfl, rfl⟩; rw [HFa.out]) | ((with_reducible refine (fits_any (nar b.toNat a) b _ hc1 hc2 hb1 hb2).mono ?_); rintro e w' ⟨rfl, rfl⟩; rw [HFc.out])) | (go_at_call 21; refine (awake_any _).mono ?_; rintro e w' ⟨rfl, hb⟩))
    all_goals (go_ret; exact ⟨by simp, by assumption⟩)
  have k3 : b ≤ m := by omega
  have k4 : m ≤ 64 := by omega
  clear k1 k2
  have HFm : Hid (fitsB (nar b.toNat a) m = true) := Lib.hid (fitsB_yes (by omega) (by omega) (by have := pow_le2 (show b.toNat - 1 ≤ m.toNat - 1 by omega); have := Hbd.out; omega))
  go_enter Try.func14, Try.ntmps14
  go_wp2_with (first | (go_at_call 30; first | ((with_reducible refine (narrow_any a b _ ha1 ha2 hb1 hb2).mono ?_); rintro e w' ⟨rfl, rfl⟩; rw [HA.out]) | ((with_reducible refine (narrow_any _ b _ hc1 hc2 hb1 hb2).mono ?_); rintro e w' ⟨rfl, rfl⟩; rw [HC.out])) | (go_at_call 32; first | ((with_reducible refine (fits_any a b _ ha1 ha2 hb1 hb2).mono ?_); rintro e w' ⟨rfl, rfl⟩; rw [HFa.out]) | ((with_reducible refine (fits_any (nar b.toNat a) b _ hc1 hc2 hb1 hb2).mono ?_); rintro e w' ⟨rfl, rfl⟩; rw [HFc.out]) | ((with_reducible refine (fits_any (nar b.toNat a) m _ hc1 hc2 hm1 hm2).mono ?_); rintro e w' ⟨rfl, rfl⟩; rw [HFm.out])) | (go_at_call 21; refine (awake_any _).mono ?_; rintro e w' ⟨rfl, hb⟩))
  all_goals (go_ret; exact ⟨by simp, by assumption⟩)

set_option maxRecDepth 100000 in
theorem lifted (os : Os) (started : os.Started) (H : Type) (enc : TypeId × Value → H) :
    ReturnsInHanded {} Try.checked os 14 .any (Rows.checkedWidthsSpec.pre6 enc Try.prog Try.f14 Rows.checkedWidthsRow.domain false) (Rows.checkedWidthsSpec.post enc Try.prog Try.f14 false true false false) := by
  refine returnsInHanded_of_change (C := Try.checked) own started (by kernel_rfl) Try.func14
    (ChangeSpec.witness6 (enc := enc) (C := Try.checked) false ⟨#[], #[.int .i64 0, .int .i64 0, .int .i64 0], []⟩ 8 (by kernel_rfl) (by kernel_rfl) (by kernel_rfl) (by kernel_rfl)) ?_
  intro W base args ds gs before hval0 hW hcnd _
  have hval : ∀ (j : Nat) t v, Try.f14.params[j]? = some t → args[j]? = some v → Value.okWide Try.prog W .any base t v := hval0
  have hW' := hW
  obtain ⟨p, q, hA0, hV, rfl, hfz, hnd⟩ := hW
  have hA : DataW.TrodAll enc Try.prog W 0 (fun _ => true) true Try.f14.params.toList args.toList ds p := hA0
  rw [Try.params14] at hA hval
  obtain ⟨v0, vs0, d0, ds0, p0, q0, hargs, rfl, rfl, h0, r0⟩ := trodAll_cons hA
  obtain ⟨v1, vs1, d1, ds1, p1, q1, rfl, rfl, rfl, h1, r1⟩ := trodAll_cons r0
  obtain ⟨v2, vs2, d2, ds2, p2, q2, rfl, rfl, rfl, h2, r2⟩ := trodAll_cons r1
  obtain ⟨rfl, rfl, rfl⟩ := trodAll_nil r2
  obtain rfl : args = #[v0, v1, v2] := by cases args; simp_all
  obtain ⟨rfl, rfl⟩ := trodVars_none hV
  obtain ⟨a0, rfl, rfl, rfl, w0⟩ := open_int Try.underlying3 (hval 0 3 v0 rfl rfl) h0
  obtain ⟨a1, rfl, rfl, rfl, w1⟩ := open_int Try.underlying3 (hval 1 3 v1 rfl rfl) h1
  obtain ⟨a2, rfl, rfl, rfl, w2⟩ := open_int Try.underlying3 (hval 2 3 v2 rfl rfl) h2
  clear hA0 hval0
  simp only [List.append_nil] at hW'
  refine (walk a0 (wf_i64 w0).1 (wf_i64 w0).2 a1 (wf_i64 w1).1 (wf_i64 w1).2 a2 (wf_i64 w2).1 (wf_i64 w2).2 W).mono fun e W' ⟨he, hg⟩ => ?_
  subst he
  exact ⟨_, rfl, post_of_below (pa := []) (pv := []) hW' (fun _ _ _ => (trodAll_cons_mk (shut_bool Try.underlying4 _) trodAll_mk0)) (fun sp _ => (trodAll_cons_mk (shut_int Try.underlying3 w0) (trodAll_cons_mk (shut_int Try.underlying3 w1) (trodAll_cons_mk (shut_int Try.underlying3 w2) trodAll_mk0)))) (fun _ _ => rfl) rfl
    hg (ok_one (by kernel_rfl) rfl (okWide_bool_mk Try.underlying4 _))⟩

theorem over : Rows.checkedWidthsRow.holds Try.pinned (OpenSpec.ofChange Rows.checkedWidthsSpec) :=
  OpenClaim.holds_of_wide 14 Try.f14 rfl rfl rfl rfl rfl rfl rfl ⟨rfl, rfl, rfl, rfl, rfl⟩ rfl rfl rfl rfl rfl (by kernel_rfl) Try.func14 (by kernel_rfl)
    (of_decide_eq_true (by kernel_rfl)) (by unfold Func.isWrapper; first | (rw [if_pos (by decide +kernel)]; kernel_rfl) | (rw [if_neg (by decide +kernel)]; exact ⟨rfl, rfl⟩))
    (fun os started H enc _ => lifted os started H enc)

/-- The given statement. -/
theorem proved : Rows.CheckedWidthsSaid :=
  over
#print axioms proved
end Go.Proofs.Ytjgeggeanigaaaa.checkedWidths
