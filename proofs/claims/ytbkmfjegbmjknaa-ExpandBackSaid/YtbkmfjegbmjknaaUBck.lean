/- ExpandBack. -/
import Derived.Test.YtbkmfjegbmjknaaBY
import Derived.BigQuiet
import Derived.Deep.QuietTactic
import Derived.Deep.RegionHeld3
namespace Go.Proofs.Ytbkmfjegbmjknaa
open Go.RowKit
set_option linter.unusedVariables false

theorem slot_back {n : Int} {Z : List ArcT} {H v u : Int} (hf : fitN n Z H = true) (hs : slotB n H (v, u) = true) : plcV true n H (u * n + v) = (v, u) ∧ plcE true n H (u * n + v) = 0 := by
  obtain ⟨N, K, rfl, rfl, h1, _⟩ := fit_nat hf
  have hs2 : 0 ≤ v ∧ v < (N : Int) ∧ 0 ≤ u ∧ u ≤ (K : Int) := by unfold slotB at hs; exact of_decide_eq_true hs
  have h3 : 0 ≤ u * (N : Int) := Int.mul_nonneg hs2.2.2.1 (by omega)
  have h4 : u * (N : Int) ≤ (K : Int) * (N : Int) := Int.mul_le_mul_of_nonneg_right hs2.2.2.2 (by omega)
  have h5 : ((K : Int) + 1) * (N : Int) = (K : Int) * (N : Int) + (N : Int) := by rw [Int.add_mul, Int.one_mul]
  have hi : inB (N : Int) (K : Int) (u * (N : Int) + v) = true := by unfold inB; exact decide_eq_true ⟨by omega, by omega⟩
  have h6 : (u * (N : Int) + v) % (N : Int) = v := by rw [Int.add_comm, Int.add_mul_emod_self_right, Int.emod_eq_of_lt hs2.1 hs2.2.1]
  have h7 : (u * (N : Int) + v) / (N : Int) = u := by rw [Int.add_comm, Int.add_mul_ediv_right _ _ (by omega), Int.ediv_eq_zero_of_lt hs2.1 hs2.2.1, Int.zero_add]
  unfold plcV plcE
  rw [if_pos rfl, if_pos rfl, if_pos hi, if_pos hi, h6, h7]
  exact ⟨rfl, rfl⟩
theorem place_back {n : Int} {Z : List ArcT} {H i : Int} (hf : fitN n Z H = true) (hi : inB n H i = true) : sltV true n H (i % n, i / n) = i ∧ sltE true n H (i % n, i / n) = 0 := by
  obtain ⟨N, K, rfl, rfl, h1, _⟩ := fit_nat hf
  have hi2 : 0 ≤ i ∧ i < ((K : Int) + 1) * (N : Int) := by unfold inB at hi; exact of_decide_eq_true hi
  have h2 := Int.emod_nonneg i (show (N : Int) ≠ 0 by omega)
  have h3 := Int.emod_lt_of_pos i (show 0 < (N : Int) by omega)
  have h4 : 0 ≤ i / (N : Int) := Int.ediv_nonneg hi2.1 (by omega)
  have h5 : i / (N : Int) < (K : Int) + 1 := Int.ediv_lt_of_lt_mul (by omega) hi2.2
  have hs : slotB (N : Int) (K : Int) (i % (N : Int), i / (N : Int)) = true := by unfold slotB; exact decide_eq_true ⟨h2, h3, h4, by omega⟩
  unfold sltV sltE
  rw [if_pos rfl, if_pos rfl, if_pos hs, if_pos hs]
  exact ⟨Int.ediv_mul_add_emod i (N : Int), rfl⟩
set_option maxRecDepth 100000 in
set_option maxHeartbeats 8000000 in
theorem uback_law (n : Int) (b : Bool) (ao : Option Addr) (nl cap : Nat) (Z : List ArcT) (H v u i : Int) (w : World) (hl : Z.length = nl) (hm : nl ≤ maxLen) (hr : Row encA 4 w ao Z) :
    Calls Try.prog 7 #[.agg #[.int .i64 n, .bool b, .slice ao nl cap], .int .i64 H, .agg #[.int .i64 v, .int .i64 u], .int .i64 i] w fun e w' => e = .returned (.bool true) ∧ Below w.heap.size w w' := by
  have hb00 := ((Below.refl _ w).alloc (Nat.le_refl _) (.cells #[.int .i64 n, .bool b, .slice ao nl cap] 24)).alloc (by simp) (.cells #[.int .i64 v, .int .i64 u] 26)
  have HB0 := Lib.hid hb00
  have HN := Lib.hid (alloc_whole (heap_alloc_new w (.cells #[.int .i64 n, .bool b, .slice ao nl cap] 24)) (.cells #[.int .i64 v, .int .i64 u] 26))
  have HX := Lib.hid (new_whole1 w (.cells #[.int .i64 n, .bool b, .slice ao nl cap] 24) (.cells #[.int .i64 v, .int .i64 u] 26))
  have HR := Lib.hid (hr.below' hb00)
  have HNL := Lib.hid hl
  have HM : Hid (Z.length ≤ maxLen) := Lib.hid (by rw [hl]; exact hm)
  have x0 := cell_whole HN.out 0
  have x1 := cell_whole HN.out 1
  have x2 := cell_whole HN.out 2
  have y0 := cell_whole HX.out 0
  have y1 := cell_whole HX.out 1
  clear hr hm hb00 hl
  obtain ⟨f, hf⟩ : ∃ f, fitN n Z H = f := ⟨_, rfl⟩
  have HF := Lib.hid hf
  clear hf
  cases f
  · obtain ⟨sv, hsv⟩ : ∃ sv, sltV false n H (v, u) = sv := ⟨_, rfl⟩
    obtain ⟨⟨p1, p2⟩, hpv⟩ : ∃ p, plcV false n H i = p := ⟨_, rfl⟩
    have HSV := Lib.hid hsv
    have HPV := Lib.hid hpv
    have HSE : Hid (sltE false n H (v, u) = 2) := Lib.hid (rfl)
    have HPE : Hid (plcE false n H i = 2) := Lib.hid (rfl)
    clear hsv hpv
    go_enter Try.func7, Try.ntmps7
    go_wp2_with (first
      | ((with_reducible show wpList _ _ _ (Oper.mk none (Op.store 26 _ _) _ _ _ _ :: _) _ _); refine wpList_store_box sizeSlot15 rfl _ _ rfl w3.heap.size _ [.int .i64 p1, .int .i64 p2] rfl rfl (heap_alloc_new w3 _) rfl rfl (two_one _ _) ?_; intro w4 hg3 hk3; have hb : Below w3.heap.size w3 w4 := ((Below.refl _ w3).alloc (Nat.le_refl _) _).trans (hk3.below (by simp) (fun i e => by have e2 : i = w3.heap.size := e; omega)); have HR := Lib.hid (HR.out.below' hb); have hn := kept_box HN.out hb; have HN := Lib.hid hn; have x0 := cell_whole hn 0; have x1 := cell_whole hn 1; have x2 := cell_whole hn 2; clear hn; have hn := kept_box HX.out hb; have HX := Lib.hid hn; have y0 := cell_whole hn 0; have y1 := cell_whole hn 1; clear hn; have HQ := Lib.hid hg3; have cq0 := cell_whole hg3 0; have cq1 := cell_whole hg3 1; have HB4 := Lib.hid (HB3.out.trans (hb.mono HB3.out.size)); clear hb hg3 hk3)
      | (go_at_call 12; refine (uplace_any n H b ao nl cap Z i _ HR.out HNL.out HM.out).mono ?_; rw [HF.out, HPV.out, HPE.out]; unfold slotV; rintro e w3 ⟨rfl, hb⟩; have HR := Lib.hid (HR.out.below' hb); have hn := kept_box HN.out hb; have HN := Lib.hid hn; have x0 := cell_whole hn 0; have x1 := cell_whole hn 1; have x2 := cell_whole hn 2; clear hn; have hn := kept_box HX.out hb; have HX := Lib.hid hn; have y0 := cell_whole hn 0; have y1 := cell_whole hn 1; clear hn; have HB3 := Lib.hid (HB2.out.trans (hb.mono HB2.out.size)); clear hb)
      | (go_at_call 10; refine (uindex_any n H b ao nl cap Z v u _ HR.out HNL.out HM.out).mono ?_; rw [HF.out, HSV.out, HSE.out]; rintro e w2 ⟨rfl, hb⟩; have HR := Lib.hid (HR.out.below' hb); have hn := kept_box HN.out hb; have HN := Lib.hid hn; have x0 := cell_whole hn 0; have x1 := cell_whole hn 1; have x2 := cell_whole hn 2; clear hn; have hn := kept_box HX.out hb; have HX := Lib.hid hn; have y0 := cell_whole hn 0; have y1 := cell_whole hn 1; clear hn; have HB2 := Lib.hid (HB1.out.trans (hb.mono HB1.out.size)); clear hb)
      | (go_at_call 14; refine (uawake_any _).mono ?_; rintro e w1 ⟨rfl, hb⟩; have HR := Lib.hid (HR.out.below' hb); have hn := kept_box HN.out hb; have HN := Lib.hid hn; have x0 := cell_whole hn 0; have x1 := cell_whole hn 1; have x2 := cell_whole hn 2; clear hn; have hn := kept_box HX.out hb; have HX := Lib.hid hn; have y0 := cell_whole hn 0; have y1 := cell_whole hn 1; clear hn; have HB1 := Lib.hid (HB0.out.trans (hb.mono HB0.out.size)); clear hb))
    go_ret
    exact ⟨by simp, HB4.out⟩
  · by_cases hs : slotB n H (v, u) = true <;> by_cases hi : inB n H i = true
    · obtain ⟨sv, hsv⟩ : ∃ sv, sltV true n H (v, u) = sv := ⟨_, rfl⟩
      obtain ⟨⟨p1, p2⟩, hpv⟩ : ∃ p, plcV true n H i = p := ⟨_, rfl⟩
      have HSV := Lib.hid hsv
      have HPV := Lib.hid hpv
      have HSE : Hid (sltE true n H (v, u) = 0) := Lib.hid (by unfold sltE; rw [if_pos rfl, if_pos hs])
      have HPE : Hid (plcE true n H i = 0) := Lib.hid (by unfold plcE; rw [if_pos rfl, if_pos hi])
      have hvv : sv = u * n + v := by rw [← hsv]; unfold sltV; rw [if_pos rfl, if_pos hs]
      have HBV : Hid (plcV true n H sv = (v, u)) := Lib.hid (by rw [hvv]; exact (slot_back HF.out hs).1)
      have HBE : Hid (plcE true n H sv = 0) := Lib.hid (by rw [hvv]; exact (slot_back HF.out hs).2)
      have e1 := fun W => ne_slot v u v u W
      clear hvv
      have hpp : (i % n, i / n) = (p1, p2) := by rw [← hpv]; unfold plcV; rw [if_pos rfl, if_pos hi]
      have HCV : Hid (sltV true n H (p1, p2) = i) := Lib.hid (by rw [← hpp]; exact (place_back HF.out hi).1)
      have HCE : Hid (sltE true n H (p1, p2) = 0) := Lib.hid (by rw [← hpp]; exact (place_back HF.out hi).2)
      clear hpp
      clear hsv hpv hs hi
      go_enter Try.func7, Try.ntmps7
      go_wp2_with (first
        | (go_at_call 10; have hgate := HQ; clear hgate; refine (uindex_any n H b ao nl cap Z p1 p2 _ HR.out HNL.out HM.out).mono ?_; rw [HF.out, HCV.out, HCE.out]; rintro e w7 ⟨rfl, hb⟩; have HR := Lib.hid (HR.out.below' hb); have hn := kept_box HN.out hb; have HN := Lib.hid hn; have x0 := cell_whole hn 0; have x1 := cell_whole hn 1; have x2 := cell_whole hn 2; clear hn; have hn := kept_box HX.out hb; have HX := Lib.hid hn; have y0 := cell_whole hn 0; have y1 := cell_whole hn 1; clear hn; have hn := kept_box HP.out hb; have HP := Lib.hid hn; have cp0 := cell_whole hn 0; have cp1 := cell_whole hn 1; clear hn; have hn := kept_box HQ.out hb; have HQ := Lib.hid hn; have cq0 := cell_whole hn 0; have cq1 := cell_whole hn 1; clear hn; have HB7 := Lib.hid (HB6.out.trans (hb.mono HB6.out.size)); clear hb)
        | ((with_reducible show wpList _ _ _ (Oper.mk none (Op.store 26 _ _) _ _ _ _ :: _) _ _); refine wpList_store_box sizeSlot15 rfl _ _ rfl w5.heap.size _ [.int .i64 p1, .int .i64 p2] rfl rfl (heap_alloc_new w5 _) rfl rfl (two_one _ _) ?_; intro w6 hg3 hk3; have hb : Below w5.heap.size w5 w6 := ((Below.refl _ w5).alloc (Nat.le_refl _) _).trans (hk3.below (by simp) (fun i e => by have e2 : i = w5.heap.size := e; omega)); have HR := Lib.hid (HR.out.below' hb); have hn := kept_box HN.out hb; have HN := Lib.hid hn; have x0 := cell_whole hn 0; have x1 := cell_whole hn 1; have x2 := cell_whole hn 2; clear hn; have hn := kept_box HX.out hb; have HX := Lib.hid hn; have y0 := cell_whole hn 0; have y1 := cell_whole hn 1; clear hn; have hn := kept_box HP.out hb; have HP := Lib.hid hn; have cp0 := cell_whole hn 0; have cp1 := cell_whole hn 1; clear hn; have HQ := Lib.hid hg3; have cq0 := cell_whole hg3 0; have cq1 := cell_whole hg3 1; have HB6 := Lib.hid (HB5.out.trans (hb.mono HB5.out.size)); clear hb hg3 hk3)
        | (go_at_call 12; have hgate := HP; clear hgate; refine (uplace_any n H b ao nl cap Z i _ HR.out HNL.out HM.out).mono ?_; rw [HF.out, HPV.out, HPE.out]; unfold slotV; rintro e w5 ⟨rfl, hb⟩; have HR := Lib.hid (HR.out.below' hb); have hn := kept_box HN.out hb; have HN := Lib.hid hn; have x0 := cell_whole hn 0; have x1 := cell_whole hn 1; have x2 := cell_whole hn 2; clear hn; have hn := kept_box HX.out hb; have HX := Lib.hid hn; have y0 := cell_whole hn 0; have y1 := cell_whole hn 1; clear hn; have hn := kept_box HP.out hb; have HP := Lib.hid hn; have cp0 := cell_whole hn 0; have cp1 := cell_whole hn 1; clear hn; have HB5 := Lib.hid (HB4.out.trans (hb.mono HB4.out.size)); clear hb)
        | ((with_reducible show wpList _ _ _ (Oper.mk none (Op.store 26 _ _) _ _ _ _ :: _) _ _); refine wpList_store_box sizeSlot15 rfl _ _ rfl w3.heap.size _ [.int .i64 v, .int .i64 u] rfl rfl (heap_alloc_new w3 _) rfl rfl (two_one _ _) ?_; intro w4 hg3 hk3; have hb : Below w3.heap.size w3 w4 := ((Below.refl _ w3).alloc (Nat.le_refl _) _).trans (hk3.below (by simp) (fun i e => by have e2 : i = w3.heap.size := e; omega)); have HR := Lib.hid (HR.out.below' hb); have hn := kept_box HN.out hb; have HN := Lib.hid hn; have x0 := cell_whole hn 0; have x1 := cell_whole hn 1; have x2 := cell_whole hn 2; clear hn; have hn := kept_box HX.out hb; have HX := Lib.hid hn; have y0 := cell_whole hn 0; have y1 := cell_whole hn 1; clear hn; have HP := Lib.hid hg3; have cp0 := cell_whole hg3 0; have cp1 := cell_whole hg3 1; have HB4 := Lib.hid (HB3.out.trans (hb.mono HB3.out.size)); clear hb hg3 hk3)
        | (go_at_call 12; refine (uplace_any n H b ao nl cap Z sv _ HR.out HNL.out HM.out).mono ?_; rw [HF.out, HBV.out, HBE.out]; unfold slotV; rintro e w3 ⟨rfl, hb⟩; have HR := Lib.hid (HR.out.below' hb); have hn := kept_box HN.out hb; have HN := Lib.hid hn; have x0 := cell_whole hn 0; have x1 := cell_whole hn 1; have x2 := cell_whole hn 2; clear hn; have hn := kept_box HX.out hb; have HX := Lib.hid hn; have y0 := cell_whole hn 0; have y1 := cell_whole hn 1; clear hn; have HB3 := Lib.hid (HB2.out.trans (hb.mono HB2.out.size)); clear hb)
        | (go_at_call 10; refine (uindex_any n H b ao nl cap Z v u _ HR.out HNL.out HM.out).mono ?_; rw [HF.out, HSV.out, HSE.out]; rintro e w2 ⟨rfl, hb⟩; have HR := Lib.hid (HR.out.below' hb); have hn := kept_box HN.out hb; have HN := Lib.hid hn; have x0 := cell_whole hn 0; have x1 := cell_whole hn 1; have x2 := cell_whole hn 2; clear hn; have hn := kept_box HX.out hb; have HX := Lib.hid hn; have y0 := cell_whole hn 0; have y1 := cell_whole hn 1; clear hn; have HB2 := Lib.hid (HB1.out.trans (hb.mono HB1.out.size)); clear hb)
        | (go_at_call 14; refine (uawake_any _).mono ?_; rintro e w1 ⟨rfl, hb⟩; have HR := Lib.hid (HR.out.below' hb); have hn := kept_box HN.out hb; have HN := Lib.hid hn; have x0 := cell_whole hn 0; have x1 := cell_whole hn 1; have x2 := cell_whole hn 2; clear hn; have hn := kept_box HX.out hb; have HX := Lib.hid hn; have y0 := cell_whole hn 0; have y1 := cell_whole hn 1; clear hn; have HB1 := Lib.hid (HB0.out.trans (hb.mono HB0.out.size)); clear hb))
      go_ret
      exact ⟨by simp, HB7.out⟩
    · obtain ⟨sv, hsv⟩ : ∃ sv, sltV true n H (v, u) = sv := ⟨_, rfl⟩
      obtain ⟨⟨p1, p2⟩, hpv⟩ : ∃ p, plcV true n H i = p := ⟨_, rfl⟩
      have HSV := Lib.hid hsv
      have HPV := Lib.hid hpv
      have HSE : Hid (sltE true n H (v, u) = 0) := Lib.hid (by unfold sltE; rw [if_pos rfl, if_pos hs])
      have HPE : Hid (plcE true n H i = 180) := Lib.hid (by unfold plcE; rw [if_pos rfl, if_neg hi])
      have hvv : sv = u * n + v := by rw [← hsv]; unfold sltV; rw [if_pos rfl, if_pos hs]
      have HBV : Hid (plcV true n H sv = (v, u)) := Lib.hid (by rw [hvv]; exact (slot_back HF.out hs).1)
      have HBE : Hid (plcE true n H sv = 0) := Lib.hid (by rw [hvv]; exact (slot_back HF.out hs).2)
      have e1 := fun W => ne_slot v u v u W
      clear hvv
      clear hsv hpv hs hi
      go_enter Try.func7, Try.ntmps7
      go_wp2_with (first
        | ((with_reducible show wpList _ _ _ (Oper.mk none (Op.store 26 _ _) _ _ _ _ :: _) _ _); refine wpList_store_box sizeSlot15 rfl _ _ rfl w5.heap.size _ [.int .i64 p1, .int .i64 p2] rfl rfl (heap_alloc_new w5 _) rfl rfl (two_one _ _) ?_; intro w6 hg3 hk3; have hb : Below w5.heap.size w5 w6 := ((Below.refl _ w5).alloc (Nat.le_refl _) _).trans (hk3.below (by simp) (fun i e => by have e2 : i = w5.heap.size := e; omega)); have HR := Lib.hid (HR.out.below' hb); have hn := kept_box HN.out hb; have HN := Lib.hid hn; have x0 := cell_whole hn 0; have x1 := cell_whole hn 1; have x2 := cell_whole hn 2; clear hn; have hn := kept_box HX.out hb; have HX := Lib.hid hn; have y0 := cell_whole hn 0; have y1 := cell_whole hn 1; clear hn; have hn := kept_box HP.out hb; have HP := Lib.hid hn; have cp0 := cell_whole hn 0; have cp1 := cell_whole hn 1; clear hn; have HQ := Lib.hid hg3; have cq0 := cell_whole hg3 0; have cq1 := cell_whole hg3 1; have HB6 := Lib.hid (HB5.out.trans (hb.mono HB5.out.size)); clear hb hg3 hk3)
        | (go_at_call 12; have hgate := HP; clear hgate; refine (uplace_any n H b ao nl cap Z i _ HR.out HNL.out HM.out).mono ?_; rw [HF.out, HPV.out, HPE.out]; unfold slotV; rintro e w5 ⟨rfl, hb⟩; have HR := Lib.hid (HR.out.below' hb); have hn := kept_box HN.out hb; have HN := Lib.hid hn; have x0 := cell_whole hn 0; have x1 := cell_whole hn 1; have x2 := cell_whole hn 2; clear hn; have hn := kept_box HX.out hb; have HX := Lib.hid hn; have y0 := cell_whole hn 0; have y1 := cell_whole hn 1; clear hn; have hn := kept_box HP.out hb; have HP := Lib.hid hn; have cp0 := cell_whole hn 0; have cp1 := cell_whole hn 1; clear hn; have HB5 := Lib.hid (HB4.out.trans (hb.mono HB4.out.size)); clear hb)
        | ((with_reducible show wpList _ _ _ (Oper.mk none (Op.store 26 _ _) _ _ _ _ :: _) _ _); refine wpList_store_box sizeSlot15 rfl _ _ rfl w3.heap.size _ [.int .i64 v, .int .i64 u] rfl rfl (heap_alloc_new w3 _) rfl rfl (two_one _ _) ?_; intro w4 hg3 hk3; have hb : Below w3.heap.size w3 w4 := ((Below.refl _ w3).alloc (Nat.le_refl _) _).trans (hk3.below (by simp) (fun i e => by have e2 : i = w3.heap.size := e; omega)); have HR := Lib.hid (HR.out.below' hb); have hn := kept_box HN.out hb; have HN := Lib.hid hn; have x0 := cell_whole hn 0; have x1 := cell_whole hn 1; have x2 := cell_whole hn 2; clear hn; have hn := kept_box HX.out hb; have HX := Lib.hid hn; have y0 := cell_whole hn 0; have y1 := cell_whole hn 1; clear hn; have HP := Lib.hid hg3; have cp0 := cell_whole hg3 0; have cp1 := cell_whole hg3 1; have HB4 := Lib.hid (HB3.out.trans (hb.mono HB3.out.size)); clear hb hg3 hk3)
        | (go_at_call 12; refine (uplace_any n H b ao nl cap Z sv _ HR.out HNL.out HM.out).mono ?_; rw [HF.out, HBV.out, HBE.out]; unfold slotV; rintro e w3 ⟨rfl, hb⟩; have HR := Lib.hid (HR.out.below' hb); have hn := kept_box HN.out hb; have HN := Lib.hid hn; have x0 := cell_whole hn 0; have x1 := cell_whole hn 1; have x2 := cell_whole hn 2; clear hn; have hn := kept_box HX.out hb; have HX := Lib.hid hn; have y0 := cell_whole hn 0; have y1 := cell_whole hn 1; clear hn; have HB3 := Lib.hid (HB2.out.trans (hb.mono HB2.out.size)); clear hb)
        | (go_at_call 10; refine (uindex_any n H b ao nl cap Z v u _ HR.out HNL.out HM.out).mono ?_; rw [HF.out, HSV.out, HSE.out]; rintro e w2 ⟨rfl, hb⟩; have HR := Lib.hid (HR.out.below' hb); have hn := kept_box HN.out hb; have HN := Lib.hid hn; have x0 := cell_whole hn 0; have x1 := cell_whole hn 1; have x2 := cell_whole hn 2; clear hn; have hn := kept_box HX.out hb; have HX := Lib.hid hn; have y0 := cell_whole hn 0; have y1 := cell_whole hn 1; clear hn; have HB2 := Lib.hid (HB1.out.trans (hb.mono HB1.out.size)); clear hb)
        | (go_at_call 14; refine (uawake_any _).mono ?_; rintro e w1 ⟨rfl, hb⟩; have HR := Lib.hid (HR.out.below' hb); have hn := kept_box HN.out hb; have HN := Lib.hid hn; have x0 := cell_whole hn 0; have x1 := cell_whole hn 1; have x2 := cell_whole hn 2; clear hn; have hn := kept_box HX.out hb; have HX := Lib.hid hn; have y0 := cell_whole hn 0; have y1 := cell_whole hn 1; clear hn; have HB1 := Lib.hid (HB0.out.trans (hb.mono HB0.out.size)); clear hb))
      go_ret
      exact ⟨by simp, HB6.out⟩
    · obtain ⟨sv, hsv⟩ : ∃ sv, sltV true n H (v, u) = sv := ⟨_, rfl⟩
      obtain ⟨⟨p1, p2⟩, hpv⟩ : ∃ p, plcV true n H i = p := ⟨_, rfl⟩
      have HSV := Lib.hid hsv
      have HPV := Lib.hid hpv
      have HSE : Hid (sltE true n H (v, u) = 180) := Lib.hid (by unfold sltE; rw [if_pos rfl, if_neg hs])
      have HPE : Hid (plcE true n H i = 0) := Lib.hid (by unfold plcE; rw [if_pos rfl, if_pos hi])
      have hpp : (i % n, i / n) = (p1, p2) := by rw [← hpv]; unfold plcV; rw [if_pos rfl, if_pos hi]
      have HCV : Hid (sltV true n H (p1, p2) = i) := Lib.hid (by rw [← hpp]; exact (place_back HF.out hi).1)
      have HCE : Hid (sltE true n H (p1, p2) = 0) := Lib.hid (by rw [← hpp]; exact (place_back HF.out hi).2)
      clear hpp
      clear hsv hpv hs hi
      go_enter Try.func7, Try.ntmps7
      go_wp2_with (first
        | (go_at_call 10; have hgate := HQ; clear hgate; refine (uindex_any n H b ao nl cap Z p1 p2 _ HR.out HNL.out HM.out).mono ?_; rw [HF.out, HCV.out, HCE.out]; rintro e w5 ⟨rfl, hb⟩; have HR := Lib.hid (HR.out.below' hb); have hn := kept_box HN.out hb; have HN := Lib.hid hn; have x0 := cell_whole hn 0; have x1 := cell_whole hn 1; have x2 := cell_whole hn 2; clear hn; have hn := kept_box HX.out hb; have HX := Lib.hid hn; have y0 := cell_whole hn 0; have y1 := cell_whole hn 1; clear hn; have hn := kept_box HQ.out hb; have HQ := Lib.hid hn; have cq0 := cell_whole hn 0; have cq1 := cell_whole hn 1; clear hn; have HB5 := Lib.hid (HB4.out.trans (hb.mono HB4.out.size)); clear hb)
        | ((with_reducible show wpList _ _ _ (Oper.mk none (Op.store 26 _ _) _ _ _ _ :: _) _ _); refine wpList_store_box sizeSlot15 rfl _ _ rfl w3.heap.size _ [.int .i64 p1, .int .i64 p2] rfl rfl (heap_alloc_new w3 _) rfl rfl (two_one _ _) ?_; intro w4 hg3 hk3; have hb : Below w3.heap.size w3 w4 := ((Below.refl _ w3).alloc (Nat.le_refl _) _).trans (hk3.below (by simp) (fun i e => by have e2 : i = w3.heap.size := e; omega)); have HR := Lib.hid (HR.out.below' hb); have hn := kept_box HN.out hb; have HN := Lib.hid hn; have x0 := cell_whole hn 0; have x1 := cell_whole hn 1; have x2 := cell_whole hn 2; clear hn; have hn := kept_box HX.out hb; have HX := Lib.hid hn; have y0 := cell_whole hn 0; have y1 := cell_whole hn 1; clear hn; have HQ := Lib.hid hg3; have cq0 := cell_whole hg3 0; have cq1 := cell_whole hg3 1; have HB4 := Lib.hid (HB3.out.trans (hb.mono HB3.out.size)); clear hb hg3 hk3)
        | (go_at_call 12; refine (uplace_any n H b ao nl cap Z i _ HR.out HNL.out HM.out).mono ?_; rw [HF.out, HPV.out, HPE.out]; unfold slotV; rintro e w3 ⟨rfl, hb⟩; have HR := Lib.hid (HR.out.below' hb); have hn := kept_box HN.out hb; have HN := Lib.hid hn; have x0 := cell_whole hn 0; have x1 := cell_whole hn 1; have x2 := cell_whole hn 2; clear hn; have hn := kept_box HX.out hb; have HX := Lib.hid hn; have y0 := cell_whole hn 0; have y1 := cell_whole hn 1; clear hn; have HB3 := Lib.hid (HB2.out.trans (hb.mono HB2.out.size)); clear hb)
        | (go_at_call 10; refine (uindex_any n H b ao nl cap Z v u _ HR.out HNL.out HM.out).mono ?_; rw [HF.out, HSV.out, HSE.out]; rintro e w2 ⟨rfl, hb⟩; have HR := Lib.hid (HR.out.below' hb); have hn := kept_box HN.out hb; have HN := Lib.hid hn; have x0 := cell_whole hn 0; have x1 := cell_whole hn 1; have x2 := cell_whole hn 2; clear hn; have hn := kept_box HX.out hb; have HX := Lib.hid hn; have y0 := cell_whole hn 0; have y1 := cell_whole hn 1; clear hn; have HB2 := Lib.hid (HB1.out.trans (hb.mono HB1.out.size)); clear hb)
        | (go_at_call 14; refine (uawake_any _).mono ?_; rintro e w1 ⟨rfl, hb⟩; have HR := Lib.hid (HR.out.below' hb); have hn := kept_box HN.out hb; have HN := Lib.hid hn; have x0 := cell_whole hn 0; have x1 := cell_whole hn 1; have x2 := cell_whole hn 2; clear hn; have hn := kept_box HX.out hb; have HX := Lib.hid hn; have y0 := cell_whole hn 0; have y1 := cell_whole hn 1; clear hn; have HB1 := Lib.hid (HB0.out.trans (hb.mono HB0.out.size)); clear hb))
      go_ret
      exact ⟨by simp, HB5.out⟩
    · obtain ⟨sv, hsv⟩ : ∃ sv, sltV true n H (v, u) = sv := ⟨_, rfl⟩
      obtain ⟨⟨p1, p2⟩, hpv⟩ : ∃ p, plcV true n H i = p := ⟨_, rfl⟩
      have HSV := Lib.hid hsv
      have HPV := Lib.hid hpv
      have HSE : Hid (sltE true n H (v, u) = 180) := Lib.hid (by unfold sltE; rw [if_pos rfl, if_neg hs])
      have HPE : Hid (plcE true n H i = 180) := Lib.hid (by unfold plcE; rw [if_pos rfl, if_neg hi])
      clear hsv hpv hs hi
      go_enter Try.func7, Try.ntmps7
      go_wp2_with (first
        | ((with_reducible show wpList _ _ _ (Oper.mk none (Op.store 26 _ _) _ _ _ _ :: _) _ _); refine wpList_store_box sizeSlot15 rfl _ _ rfl w3.heap.size _ [.int .i64 p1, .int .i64 p2] rfl rfl (heap_alloc_new w3 _) rfl rfl (two_one _ _) ?_; intro w4 hg3 hk3; have hb : Below w3.heap.size w3 w4 := ((Below.refl _ w3).alloc (Nat.le_refl _) _).trans (hk3.below (by simp) (fun i e => by have e2 : i = w3.heap.size := e; omega)); have HR := Lib.hid (HR.out.below' hb); have hn := kept_box HN.out hb; have HN := Lib.hid hn; have x0 := cell_whole hn 0; have x1 := cell_whole hn 1; have x2 := cell_whole hn 2; clear hn; have hn := kept_box HX.out hb; have HX := Lib.hid hn; have y0 := cell_whole hn 0; have y1 := cell_whole hn 1; clear hn; have HQ := Lib.hid hg3; have cq0 := cell_whole hg3 0; have cq1 := cell_whole hg3 1; have HB4 := Lib.hid (HB3.out.trans (hb.mono HB3.out.size)); clear hb hg3 hk3)
        | (go_at_call 12; refine (uplace_any n H b ao nl cap Z i _ HR.out HNL.out HM.out).mono ?_; rw [HF.out, HPV.out, HPE.out]; unfold slotV; rintro e w3 ⟨rfl, hb⟩; have HR := Lib.hid (HR.out.below' hb); have hn := kept_box HN.out hb; have HN := Lib.hid hn; have x0 := cell_whole hn 0; have x1 := cell_whole hn 1; have x2 := cell_whole hn 2; clear hn; have hn := kept_box HX.out hb; have HX := Lib.hid hn; have y0 := cell_whole hn 0; have y1 := cell_whole hn 1; clear hn; have HB3 := Lib.hid (HB2.out.trans (hb.mono HB2.out.size)); clear hb)
        | (go_at_call 10; refine (uindex_any n H b ao nl cap Z v u _ HR.out HNL.out HM.out).mono ?_; rw [HF.out, HSV.out, HSE.out]; rintro e w2 ⟨rfl, hb⟩; have HR := Lib.hid (HR.out.below' hb); have hn := kept_box HN.out hb; have HN := Lib.hid hn; have x0 := cell_whole hn 0; have x1 := cell_whole hn 1; have x2 := cell_whole hn 2; clear hn; have hn := kept_box HX.out hb; have HX := Lib.hid hn; have y0 := cell_whole hn 0; have y1 := cell_whole hn 1; clear hn; have HB2 := Lib.hid (HB1.out.trans (hb.mono HB1.out.size)); clear hb)
        | (go_at_call 14; refine (uawake_any _).mono ?_; rintro e w1 ⟨rfl, hb⟩; have HR := Lib.hid (HR.out.below' hb); have hn := kept_box HN.out hb; have HN := Lib.hid hn; have x0 := cell_whole hn 0; have x1 := cell_whole hn 1; have x2 := cell_whole hn 2; clear hn; have hn := kept_box HX.out hb; have HX := Lib.hid hn; have y0 := cell_whole hn 0; have y1 := cell_whole hn 1; clear hn; have HB1 := Lib.hid (HB0.out.trans (hb.mono HB0.out.size)); clear hb))
      go_ret
      exact ⟨by simp, HB4.out⟩
end Go.Proofs.Ytbkmfjegbmjknaa
