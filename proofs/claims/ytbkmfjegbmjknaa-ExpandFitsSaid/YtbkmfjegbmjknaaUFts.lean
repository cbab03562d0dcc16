/- ExpandFits. -/
import Derived.Test.YtbkmfjegbmjknaaBY
import Derived.BigQuiet
import Derived.Deep.QuietTactic
import Derived.Deep.RegionHeld3
namespace Go.Proofs.Ytbkmfjegbmjknaa
open Go.RowKit
set_option linter.unusedVariables false

set_option maxRecDepth 100000 in
set_option maxHeartbeats 8000000 in
theorem ufits_law (n : Int) (b : Bool) (ao : Option Addr) (nl cap : Nat) (Z : List ArcT) (H v u i : Int) (w : World) (hl : Z.length = nl) (hm : nl ≤ maxLen) (hr : Row encA 4 w ao Z) :
    Calls Try.prog 3 #[.agg #[.int .i64 n, .bool b, .slice ao nl cap], .int .i64 H, .agg #[.int .i64 v, .int .i64 u], .int .i64 i] w fun e w' => e = .returned (.bool true) ∧ Below w.heap.size w w' := by
  have hb00 := ((Below.refl _ w).alloc (Nat.le_refl _) (.cells #[.int .i64 n, .bool b, .slice ao nl cap] 24)).alloc (by simp) (.cells #[.int .i64 v, .int .i64 u] 26)
  have HB0 := Lib.hid hb00
  have HN := Lib.hid (alloc_whole (heap_alloc_new w (.cells #[.int .i64 n, .bool b, .slice ao nl cap] 24)) (.cells #[.int .i64 v, .int .i64 u] 26))
  have HX := Lib.hid (new_whole1 w (.cells #[.int .i64 n, .bool b, .slice ao nl cap] 24) (.cells #[.int .i64 v, .int .i64 u] 26))
  have HR := Lib.hid (hr.below' hb00)
  have HNL := Lib.hid hl
  have HM : Hid (Z.length ≤ maxLen) := Lib.hid (by rw [hl]; exact hm)
  have x0 := cell_whole HN.out 0
  have x1 := cell_whole HN.out 1
  have x2 := cell_whole HN.out 2
  have y0 := cell_whole HX.out 0
  have y1 := cell_whole HX.out 1
  clear hr hm hb00 hl
  obtain ⟨f, hf⟩ : ∃ f, fitN n Z H = f := ⟨_, rfl⟩
  obtain ⟨sv, hsv⟩ : ∃ sv, sltV f n H (v, u) = sv := ⟨_, rfl⟩
  obtain ⟨se, hse⟩ : ∃ se, sltE f n H (v, u) = se := ⟨_, rfl⟩
  obtain ⟨⟨p1, p2⟩, hpv⟩ : ∃ p, plcV f n H i = p := ⟨_, rfl⟩
  obtain ⟨pe, hpe⟩ : ∃ pe, plcE f n H i = pe := ⟨_, rfl⟩
  have HF := Lib.hid hf
  have HSV := Lib.hid hsv
  have HSE := Lib.hid hse
  have HPV := Lib.hid hpv
  have HPE := Lib.hid hpe
  clear hf hsv hse hpv hpe
  have e1 := fun W => eq_slot p1 p2 p1 p2 W
  go_enter Try.func3, Try.ntmps3
  go_wp2_with (first
    | ((with_reducible show wpList _ _ _ (Oper.mk none (Op.store 26 _ _) _ _ _ _ :: _) _ _); refine wpList_store_box sizeSlot15 rfl _ _ rfl w5.heap.size _ [.int .i64 p1, .int .i64 p2] rfl rfl (heap_alloc_new w5 _) rfl rfl (two_one _ _) ?_; intro w6 hg3 hk3; have hb : Below w5.heap.size w5 w6 := ((Below.refl _ w5).alloc (Nat.le_refl _) _).trans (hk3.below (by simp) (fun i e => by have e2 : i = w5.heap.size := e; omega)); have HR := Lib.hid (HR.out.below' hb); have hn := kept_box HN.out hb; have HN := Lib.hid hn; have x0 := cell_whole hn 0; have x1 := cell_whole hn 1; have x2 := cell_whole hn 2; clear hn; have hn := kept_box HX.out hb; have HX := Lib.hid hn; have y0 := cell_whole hn 0; have y1 := cell_whole hn 1; clear hn; have hn := kept_box HP.out hb; have HP := Lib.hid hn; have cp0 := cell_whole hn 0; have cp1 := cell_whole hn 1; clear hn; have HQ := Lib.hid hg3; have cq0 := cell_whole hg3 0; have cq1 := cell_whole hg3 1; have HB6 := Lib.hid (HB5.out.trans (hb.mono HB5.out.size)); clear hb hg3 hk3)
    | (go_at_call 13; refine (rplace15_any n H b ao nl cap Z i _ HR.out HNL.out HM.out).mono ?_; rw [HF.out, HPV.out, HPE.out]; unfold slotV; rintro e w5 ⟨rfl, hb⟩; have HR := Lib.hid (HR.out.below' hb); have hn := kept_box HN.out hb; have HN := Lib.hid hn; have x0 := cell_whole hn 0; have x1 := cell_whole hn 1; have x2 := cell_whole hn 2; clear hn; have hn := kept_box HX.out hb; have HX := Lib.hid hn; have y0 := cell_whole hn 0; have y1 := cell_whole hn 1; clear hn; have hn := kept_box HP.out hb; have HP := Lib.hid hn; have cp0 := cell_whole hn 0; have cp1 := cell_whole hn 1; clear hn; have HB5 := Lib.hid (HB4.out.trans (hb.mono HB4.out.size)); clear hb)
    | ((with_reducible show wpList _ _ _ (Oper.mk none (Op.store 26 _ _) _ _ _ _ :: _) _ _); refine wpList_store_box sizeSlot15 rfl _ _ rfl w3.heap.size _ [.int .i64 p1, .int .i64 p2] rfl rfl (heap_alloc_new w3 _) rfl rfl (two_one _ _) ?_; intro w4 hg3 hk3; have hb : Below w3.heap.size w3 w4 := ((Below.refl _ w3).alloc (Nat.le_refl _) _).trans (hk3.below (by simp) (fun i e => by have e2 : i = w3.heap.size := e; omega)); have HR := Lib.hid (HR.out.below' hb); have hn := kept_box HN.out hb; have HN := Lib.hid hn; have x0 := cell_whole hn 0; have x1 := cell_whole hn 1; have x2 := cell_whole hn 2; clear hn; have hn := kept_box HX.out hb; have HX := Lib.hid hn; have y0 := cell_whole hn 0; have y1 := cell_whole hn 1; clear hn; have HP := Lib.hid hg3; have cp0 := cell_whole hg3 0; have cp1 := cell_whole hg3 1; have HB4 := Lib.hid (HB3.out.trans (hb.mono HB3.out.size)); clear hb hg3 hk3)
    | (go_at_call 12; refine (uplace_any n H b ao nl cap Z i _ HR.out HNL.out HM.out).mono ?_; rw [HF.out, HPV.out, HPE.out]; unfold slotV; rintro e w3 ⟨rfl, hb⟩; have HR := Lib.hid (HR.out.below' hb); have hn := kept_box HN.out hb; have HN := Lib.hid hn; have x0 := cell_whole hn 0; have x1 := cell_whole hn 1; have x2 := cell_whole hn 2; clear hn; have hn := kept_box HX.out hb; have HX := Lib.hid hn; have y0 := cell_whole hn 0; have y1 := cell_whole hn 1; clear hn; have HB3 := Lib.hid (HB2.out.trans (hb.mono HB2.out.size)); clear hb)
    | (go_at_call 11; refine (rindex15_any n H b ao nl cap Z v u _ HR.out HNL.out HM.out).mono ?_; rw [HF.out, HSV.out, HSE.out]; rintro e w2 ⟨rfl, hb⟩; have HR := Lib.hid (HR.out.below' hb); have hn := kept_box HN.out hb; have HN := Lib.hid hn; have x0 := cell_whole hn 0; have x1 := cell_whole hn 1; have x2 := cell_whole hn 2; clear hn; have hn := kept_box HX.out hb; have HX := Lib.hid hn; have y0 := cell_whole hn 0; have y1 := cell_whole hn 1; clear hn; have HB2 := Lib.hid (HB1.out.trans (hb.mono HB1.out.size)); clear hb)
    | (go_at_call 10; refine (uindex_any n H b ao nl cap Z v u _ HR.out HNL.out HM.out).mono ?_; rw [HF.out, HSV.out, HSE.out]; rintro e w1 ⟨rfl, hb⟩; have HR := Lib.hid (HR.out.below' hb); have hn := kept_box HN.out hb; have HN := Lib.hid hn; have x0 := cell_whole hn 0; have x1 := cell_whole hn 1; have x2 := cell_whole hn 2; clear hn; have hn := kept_box HX.out hb; have HX := Lib.hid hn; have y0 := cell_whole hn 0; have y1 := cell_whole hn 1; clear hn; have HB1 := Lib.hid (HB0.out.trans (hb.mono HB0.out.size)); clear hb))
  have bD := Lib.hid (below_drew (Below.refl w6.heap.size w6))
  have HRD := Lib.hid (HR.out.below' bD.out)
  have HBD := Lib.hid (HB6.out.trans (bD.out.mono HB6.out.size))
  have z0 := cell_below bD.out x0
  have z1 := cell_below bD.out x1
  have z2 := cell_below bD.out x2
  have z3 := cell_below bD.out cp0
  have z4 := cell_below bD.out cp1
  have z5 := cell_below bD.out cq0
  have z6 := cell_below bD.out cq1
  go_region_held3 (fun W => W.cell? ⟨w.heap.size, 0, none⟩ = some (.int .i64 n) ∧ W.cell? ⟨w.heap.size, 1, none⟩ = some (.bool b) ∧ W.cell? ⟨w.heap.size, 2, none⟩ = some (.slice ao nl cap) ∧ W.cell? ⟨w3.heap.size, 0, none⟩ = some (.int .i64 p1) ∧ W.cell? ⟨w3.heap.size, 1, none⟩ = some (.int .i64 p2) ∧ W.cell? ⟨w5.heap.size, 0, none⟩ = some (.int .i64 p1) ∧ W.cell? ⟨w5.heap.size, 1, none⟩ = some (.int .i64 p2)) (first | exact ⟨x0, x1, x2, cp0, cp1, cq0, cq1⟩ | exact ⟨z0, z1, z2, z3, z4, z5, z6⟩ | go_keep)
    (first
      | (go_at_call 14; refine (uawake_any _).mono ?_; rintro e wn ⟨rfl, hb⟩; have HRD := Lib.hid (HRD.out.below' hb); have HBD := Lib.hid (HBD.out.trans (hb.mono HBD.out.size)); have z0 := cell_below hb z0; have z1 := cell_below hb z1; have z2 := cell_below hb z2; have z3 := cell_below hb z3; have z4 := cell_below hb z4; have z5 := cell_below hb z5; have z6 := cell_below hb z6; clear hb)
      | (go_at_call 15; refine (ufits_any n b ao nl cap Z H _ HRD.out HNL.out HM.out).mono ?_; rw [HF.out]; rintro e wn ⟨rfl, hb⟩; have HRD := Lib.hid (HRD.out.below' hb); have HBD := Lib.hid (HBD.out.trans (hb.mono HBD.out.size)); have z0 := cell_below hb z0; have z1 := cell_below hb z1; have z2 := cell_below hb z2; have z3 := cell_below hb z3; have z4 := cell_below hb z4; have z5 := cell_below hb z5; have z6 := cell_below hb z6; clear hb)
      | (go_at_call 16; refine (rfits15_any n b ao nl cap Z H _ HRD.out HNL.out HM.out).mono ?_; rw [HF.out]; rintro e wn ⟨rfl, hb⟩; have HRD := Lib.hid (HRD.out.below' hb); have HBD := Lib.hid (HBD.out.trans (hb.mono HBD.out.size)); have z0 := cell_below hb z0; have z1 := cell_below hb z1; have z2 := cell_below hb z2; have z3 := cell_below hb z3; have z4 := cell_below hb z4; have z5 := cell_below hb z5; have z6 := cell_below hb z6; clear hb))
  all_goals
    go_wp2
    go_ret
    exact ⟨by simp, HBD.out⟩
end Go.Proofs.Ytbkmfjegbmjknaa
