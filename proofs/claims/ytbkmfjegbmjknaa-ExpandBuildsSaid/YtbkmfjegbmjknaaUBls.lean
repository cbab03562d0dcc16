/- ExpandBuilds. -/
import Derived.Test.YtbkmfjegbmjknaaBY
import Derived.Test.YtbkmfjegbmjknaaUSme
import Derived.BigQuiet
import Derived.Deep.QuietTactic
import Derived.Deep.RegionHeld3
namespace Go.Proofs.Ytbkmfjegbmjknaa
open Go.RowKit
set_option linter.unusedVariables false

theorem timeK_len (E : Exp) : ∀ u, (E.timeK u).length ≤ u * (E.Z.length + E.N)
  | 0 => by simp [Exp.timeK]
  | u + 1 => by
    show (E.timeK u ++ (E.mvK u E.Z.length ++ E.wtK u E.N)).length ≤ _
    rw [List.length_append, List.length_append, Nat.succ_mul]
    have h1 := timeK_len E u
    have h2 := mvK_len E u E.Z.length
    have h3 := wtK_len E u E.N
    omega
theorem soK_len : ∀ u, (Exp.soK u).length = u
  | 0 => rfl
  | u + 1 => by show (Exp.soK u ++ [Kd.so u]).length = _; rw [List.length_append, soK_len u]; rfl
theorem siK_len : ∀ u, (Exp.siK u).length = u
  | 0 => rfl
  | u + 1 => by show (Exp.siK u ++ [Kd.si u]).length = _; rw [List.length_append, siK_len u]; rfl
theorem kinds_len (E : Exp) : E.kinds.length ≤ (E.H + 1) * E.Z.length + (E.H + 1) * E.N + 2 * (E.H + 1) := by
  unfold Exp.kinds
  rw [List.length_append, List.length_append, soK_len, siK_len]
  have h1 := timeK_len E (E.H + 1)
  rw [Nat.mul_add] at h1
  omega
theorem bldA_len (n : Int) (Z : List ArcT) (s t H : Int) (b : Bool) : (bldA n Z s t H b).length ≤ 1099511627776 := by
  unfold bldA
  by_cases h : xpE n Z s t H = 0
  · rw [if_pos h]
    obtain ⟨N, i, j, K, rfl, rfl, rfl, rfl, _, _, _, hW, hK, hm1, hm2⟩ := xpE_nat h
    rw [expOf_nat]
    have h1 := kinds_len ⟨Z, N, i, j, K, b⟩
    simp only [Exp.net, List.length_map]
    simp only at h1
    omega
  · rw [if_neg h]; simp
set_option maxRecDepth 100000 in
set_option maxHeartbeats 8000000 in
theorem ubuilds_law (n : Int) (b : Bool) (ao : Option Addr) (nl cap : Nat) (Z : List ArcT) (s t H : Int) (w : World) (hl : Z.length = nl) (hm : nl ≤ maxLen) (hr : Row encA 4 w ao Z) (hw : nl * 32 ≤ 140737488351232) :
    Calls Try.prog 4 #[.agg #[.int .i64 n, .bool b, .slice ao nl cap], .int .i64 s, .int .i64 t, .int .i64 H] w fun e w' => e = .returned (.bool true) ∧ Below w.heap.size w w' := by
  have hb00 := (Below.refl _ w).alloc (Nat.le_refl _) (.cells #[.int .i64 n, .bool b, .slice ao nl cap] 24)
  have HB0 := Lib.hid hb00
  have HN := Lib.hid (heap_alloc_new w (.cells #[.int .i64 n, .bool b, .slice ao nl cap] 24))
  have HR := Lib.hid (hr.below' hb00)
  have HNL := Lib.hid hl
  have HM : Hid (Z.length ≤ maxLen) := Lib.hid (by rw [hl]; exact hm)
  have HZ : Hid (Z.length ≤ 4398046511104) := Lib.hid (by omega)
  have x0 := cell_whole HN.out 0
  have x1 := cell_whole HN.out 1
  have x2 := cell_whole HN.out 2
  clear hr hm hb00 hl hw
  obtain ⟨K, hK⟩ : ∃ K, (if 30 < H ∧ fitN n Z H = true then H % 31 else H) = K := ⟨_, rfl⟩
  obtain ⟨bn, hbn⟩ : ∃ bn, bldN n Z s t K = bn := ⟨_, rfl⟩
  obtain ⟨A, hA⟩ : ∃ A, bldA n Z s t K b = A := ⟨_, rfl⟩
  obtain ⟨al, hal⟩ : ∃ al, A.length = al := ⟨_, rfl⟩
  obtain ⟨e0, he⟩ : ∃ e0, xpE n Z s t K = e0 := ⟨_, rfl⟩
  have hsz : al ≤ 1099511627776 := by rw [← hal, ← hA]; exact bldA_len _ _ _ _ _ _
  have HA := Lib.hid hA
  have HAL := Lib.hid hal
  have HBN := Lib.hid hbn
  have HE := Lib.hid he
  have HS := Lib.hid hsz
  clear hbn hA hal he hsz
  by_cases h30 : 30 < H
  · obtain ⟨f, hf⟩ : ∃ f, fitN n Z H = f := ⟨_, rfl⟩
    have HF := Lib.hid hf
    cases f
    · rw [if_neg (fun e => by rw [hf] at e; cases e.2)] at hK
      subst hK
      clear hf
      go_enter Try.func4, Try.ntmps4
      go_wp2_with (first
        | (go_at_call 19; refine (rsame15_any bn false A al HAL.out oa pa oc pc _ HRA.out HRB.out HS.out).mono ?_; rintro e w7 ⟨rfl, hb⟩; have HB7 := Lib.hid (HB6.out.trans (hb.mono HB6.out.size)); clear hb)
        | (go_at_call 14; have hgate := HQ; clear hgate; refine (uawake_any _).mono ?_; rintro e w6 ⟨rfl, hb⟩; have HR := Lib.hid (HR.out.below' hb); have hn := kept_box HN.out hb; have HN := Lib.hid hn; have x0 := cell_whole hn 0; have x1 := cell_whole hn 1; have x2 := cell_whole hn 2; clear hn; have hn := kept_box HP.out hb; have HP := Lib.hid hn; have cp0 := cell_whole hn 0; have cp1 := cell_whole hn 1; have cp2 := cell_whole hn 2; clear hn; have hn := kept_box HQ.out hb; have HQ := Lib.hid hn; have cq0 := cell_whole hn 0; have cq1 := cell_whole hn 1; have cq2 := cell_whole hn 2; clear hn; have HRA := Lib.hid (HRA.out.below' hb); have HRB := Lib.hid (HRB.out.below' hb); have HB6 := Lib.hid (HB5.out.trans (hb.mono HB5.out.size)); clear hb)
        | ((with_reducible show wpList _ _ _ (Oper.mk none (Op.store 24 _ _) _ _ _ _ :: _) _ _); refine wpList_store_box sizeNet15 rfl _ _ rfl w4.heap.size _ [.int .i64 bn, .bool false, .slice pa al pc] rfl rfl (heap_alloc_new w4 _) rfl rfl (net_one _ _ _ _ _) ?_; intro w5 hg3 hk3; have hb : Below w4.heap.size w4 w5 := ((Below.refl _ w4).alloc (Nat.le_refl _) _).trans (hk3.below (by simp) (fun i e => by have e2 : i = w4.heap.size := e; omega)); have HRA := Lib.hid (HRA.out.below' hb); have HRB := Lib.hid (HRB.out.below' hb); have HR := Lib.hid (HR.out.below' hb); have hn := kept_box HN.out hb; have HN := Lib.hid hn; have x0 := cell_whole hn 0; have x1 := cell_whole hn 1; have x2 := cell_whole hn 2; clear hn; have hn := kept_box HP.out hb; have HP := Lib.hid hn; have cp0 := cell_whole hn 0; have cp1 := cell_whole hn 1; have cp2 := cell_whole hn 2; clear hn; have HQ := Lib.hid hg3; have cq0 := cell_whole hg3 0; have cq1 := cell_whole hg3 1; have cq2 := cell_whole hg3 2; have HB5 := Lib.hid (HB4.out.trans (hb.mono HB4.out.size)); clear hb hg3 hk3)
        | (go_at_call 18; refine (rbuild15_any n b ao nl cap Z s t H _ HR.out HNL.out HM.out).mono ?_; unfold BldRes; rw [HA.out, HBN.out, HE.out, HAL.out]; rintro e w4 ⟨pa, pc, rfl, hrb, hb⟩; have HR := Lib.hid (HR.out.below' hb); have hn := kept_box HN.out hb; have HN := Lib.hid hn; have x0 := cell_whole hn 0; have x1 := cell_whole hn 1; have x2 := cell_whole hn 2; clear hn; have hn := kept_box HP.out hb; have HP := Lib.hid hn; have cp0 := cell_whole hn 0; have cp1 := cell_whole hn 1; have cp2 := cell_whole hn 2; clear hn; have HRA := Lib.hid (HRA.out.below' hb); have HRB := Lib.hid hrb; clear hrb; have HB4 := Lib.hid (HB3.out.trans (hb.mono HB3.out.size)); clear hb)
        | ((with_reducible show wpList _ _ _ (Oper.mk none (Op.store 24 _ _) _ _ _ _ :: _) _ _); refine wpList_store_box sizeNet15 rfl _ _ rfl w2.heap.size _ [.int .i64 bn, .bool false, .slice oa al oc] rfl rfl (heap_alloc_new w2 _) rfl rfl (net_one _ _ _ _ _) ?_; intro w3 hg3 hk3; have hb : Below w2.heap.size w2 w3 := ((Below.refl _ w2).alloc (Nat.le_refl _) _).trans (hk3.below (by simp) (fun i e => by have e2 : i = w2.heap.size := e; omega)); have HRA := Lib.hid (HRA.out.below' hb); have HR := Lib.hid (HR.out.below' hb); have hn := kept_box HN.out hb; have HN := Lib.hid hn; have x0 := cell_whole hn 0; have x1 := cell_whole hn 1; have x2 := cell_whole hn 2; clear hn; have HP := Lib.hid hg3; have cp0 := cell_whole hg3 0; have cp1 := cell_whole hg3 1; have cp2 := cell_whole hg3 2; have HB3 := Lib.hid (HB2.out.trans (hb.mono HB2.out.size)); clear hb hg3 hk3)
        | (go_at_call 17; refine (ubuild_any n b ao nl cap Z s t H _ HR.out HNL.out HZ.out).mono ?_; unfold BldRes; rw [HA.out, HBN.out, HE.out, HAL.out]; rintro e w2 ⟨oa, oc, rfl, hra, hb⟩; have HR := Lib.hid (HR.out.below' hb); have hn := kept_box HN.out hb; have HN := Lib.hid hn; have x0 := cell_whole hn 0; have x1 := cell_whole hn 1; have x2 := cell_whole hn 2; clear hn; have HRA := Lib.hid hra; clear hra; have HB2 := Lib.hid (HB1.out.trans (hb.mono HB1.out.size)); clear hb)
        | (go_at_call 16; refine (rfits15_any n b ao nl cap Z H _ HR.out HNL.out HM.out).mono ?_; rw [HF.out]; rintro e w1 ⟨rfl, hb⟩; have HR := Lib.hid (HR.out.below' hb); have hn := kept_box HN.out hb; have HN := Lib.hid hn; have x0 := cell_whole hn 0; have x1 := cell_whole hn 1; have x2 := cell_whole hn 2; clear hn; have HB1 := Lib.hid (HB0.out.trans (hb.mono HB0.out.size)); clear hb))
      go_ret
      exact ⟨rfl, HB7.out⟩
    · rw [if_pos ⟨h30, hf⟩] at hK
      subst hK
      clear hf
      go_enter Try.func4, Try.ntmps4
      go_wp2_with (first
        | (go_at_call 19; refine (rsame15_any bn false A al HAL.out oa pa oc pc _ HRA.out HRB.out HS.out).mono ?_; rintro e w7 ⟨rfl, hb⟩; have HB7 := Lib.hid (HB6.out.trans (hb.mono HB6.out.size)); clear hb)
        | (go_at_call 14; have hgate := HQ; clear hgate; refine (uawake_any _).mono ?_; rintro e w6 ⟨rfl, hb⟩; have HR := Lib.hid (HR.out.below' hb); have hn := kept_box HN.out hb; have HN := Lib.hid hn; have x0 := cell_whole hn 0; have x1 := cell_whole hn 1; have x2 := cell_whole hn 2; clear hn; have hn := kept_box HP.out hb; have HP := Lib.hid hn; have cp0 := cell_whole hn 0; have cp1 := cell_whole hn 1; have cp2 := cell_whole hn 2; clear hn; have hn := kept_box HQ.out hb; have HQ := Lib.hid hn; have cq0 := cell_whole hn 0; have cq1 := cell_whole hn 1; have cq2 := cell_whole hn 2; clear hn; have HRA := Lib.hid (HRA.out.below' hb); have HRB := Lib.hid (HRB.out.below' hb); have HB6 := Lib.hid (HB5.out.trans (hb.mono HB5.out.size)); clear hb)
        | ((with_reducible show wpList _ _ _ (Oper.mk none (Op.store 24 _ _) _ _ _ _ :: _) _ _); refine wpList_store_box sizeNet15 rfl _ _ rfl w4.heap.size _ [.int .i64 bn, .bool false, .slice pa al pc] rfl rfl (heap_alloc_new w4 _) rfl rfl (net_one _ _ _ _ _) ?_; intro w5 hg3 hk3; have hb : Below w4.heap.size w4 w5 := ((Below.refl _ w4).alloc (Nat.le_refl _) _).trans (hk3.below (by simp) (fun i e => by have e2 : i = w4.heap.size := e; omega)); have HRA := Lib.hid (HRA.out.below' hb); have HRB := Lib.hid (HRB.out.below' hb); have HR := Lib.hid (HR.out.below' hb); have hn := kept_box HN.out hb; have HN := Lib.hid hn; have x0 := cell_whole hn 0; have x1 := cell_whole hn 1; have x2 := cell_whole hn 2; clear hn; have hn := kept_box HP.out hb; have HP := Lib.hid hn; have cp0 := cell_whole hn 0; have cp1 := cell_whole hn 1; have cp2 := cell_whole hn 2; clear hn; have HQ := Lib.hid hg3; have cq0 := cell_whole hg3 0; have cq1 := cell_whole hg3 1; have cq2 := cell_whole hg3 2; have HB5 := Lib.hid (HB4.out.trans (hb.mono HB4.out.size)); clear hb hg3 hk3)
        | (go_at_call 18; refine (rbuild15_any n b ao nl cap Z s t (H % 31) _ HR.out HNL.out HM.out).mono ?_; unfold BldRes; rw [HA.out, HBN.out, HE.out, HAL.out]; rintro e w4 ⟨pa, pc, rfl, hrb, hb⟩; have HR := Lib.hid (HR.out.below' hb); have hn := kept_box HN.out hb; have HN := Lib.hid hn; have x0 := cell_whole hn 0; have x1 := cell_whole hn 1; have x2 := cell_whole hn 2; clear hn; have hn := kept_box HP.out hb; have HP := Lib.hid hn; have cp0 := cell_whole hn 0; have cp1 := cell_whole hn 1; have cp2 := cell_whole hn 2; clear hn; have HRA := Lib.hid (HRA.out.below' hb); have HRB := Lib.hid hrb; clear hrb; have HB4 := Lib.hid (HB3.out.trans (hb.mono HB3.out.size)); clear hb)
        | ((with_reducible show wpList _ _ _ (Oper.mk none (Op.store 24 _ _) _ _ _ _ :: _) _ _); refine wpList_store_box sizeNet15 rfl _ _ rfl w2.heap.size _ [.int .i64 bn, .bool false, .slice oa al oc] rfl rfl (heap_alloc_new w2 _) rfl rfl (net_one _ _ _ _ _) ?_; intro w3 hg3 hk3; have hb : Below w2.heap.size w2 w3 := ((Below.refl _ w2).alloc (Nat.le_refl _) _).trans (hk3.below (by simp) (fun i e => by have e2 : i = w2.heap.size := e; omega)); have HRA := Lib.hid (HRA.out.below' hb); have HR := Lib.hid (HR.out.below' hb); have hn := kept_box HN.out hb; have HN := Lib.hid hn; have x0 := cell_whole hn 0; have x1 := cell_whole hn 1; have x2 := cell_whole hn 2; clear hn; have HP := Lib.hid hg3; have cp0 := cell_whole hg3 0; have cp1 := cell_whole hg3 1; have cp2 := cell_whole hg3 2; have HB3 := Lib.hid (HB2.out.trans (hb.mono HB2.out.size)); clear hb hg3 hk3)
        | (go_at_call 17; refine (ubuild_any n b ao nl cap Z s t (H % 31) _ HR.out HNL.out HZ.out).mono ?_; unfold BldRes; rw [HA.out, HBN.out, HE.out, HAL.out]; rintro e w2 ⟨oa, oc, rfl, hra, hb⟩; have HR := Lib.hid (HR.out.below' hb); have hn := kept_box HN.out hb; have HN := Lib.hid hn; have x0 := cell_whole hn 0; have x1 := cell_whole hn 1; have x2 := cell_whole hn 2; clear hn; have HRA := Lib.hid hra; clear hra; have HB2 := Lib.hid (HB1.out.trans (hb.mono HB1.out.size)); clear hb)
        | (go_at_call 16; refine (rfits15_any n b ao nl cap Z H _ HR.out HNL.out HM.out).mono ?_; rw [HF.out]; rintro e w1 ⟨rfl, hb⟩; have HR := Lib.hid (HR.out.below' hb); have hn := kept_box HN.out hb; have HN := Lib.hid hn; have x0 := cell_whole hn 0; have x1 := cell_whole hn 1; have x2 := cell_whole hn 2; clear hn; have HB1 := Lib.hid (HB0.out.trans (hb.mono HB0.out.size)); clear hb))
      go_ret
      exact ⟨rfl, HB7.out⟩
  · rw [if_neg (fun e => h30 e.1)] at hK
    subst hK
    go_enter Try.func4, Try.ntmps4
    go_wp2_with (first
      | (go_at_call 19; refine (rsame15_any bn false A al HAL.out oa pa oc pc _ HRA.out HRB.out HS.out).mono ?_; rintro e w6 ⟨rfl, hb⟩; have HB6 := Lib.hid (HB5.out.trans (hb.mono HB5.out.size)); clear hb)
      | (go_at_call 14; have hgate := HQ; clear hgate; refine (uawake_any _).mono ?_; rintro e w5 ⟨rfl, hb⟩; have HR := Lib.hid (HR.out.below' hb); have hn := kept_box HN.out hb; have HN := Lib.hid hn; have x0 := cell_whole hn 0; have x1 := cell_whole hn 1; have x2 := cell_whole hn 2; clear hn; have hn := kept_box HP.out hb; have HP := Lib.hid hn; have cp0 := cell_whole hn 0; have cp1 := cell_whole hn 1; have cp2 := cell_whole hn 2; clear hn; have hn := kept_box HQ.out hb; have HQ := Lib.hid hn; have cq0 := cell_whole hn 0; have cq1 := cell_whole hn 1; have cq2 := cell_whole hn 2; clear hn; have HRA := Lib.hid (HRA.out.below' hb); have HRB := Lib.hid (HRB.out.below' hb); have HB5 := Lib.hid (HB4.out.trans (hb.mono HB4.out.size)); clear hb)
      | ((with_reducible show wpList _ _ _ (Oper.mk none (Op.store 24 _ _) _ _ _ _ :: _) _ _); refine wpList_store_box sizeNet15 rfl _ _ rfl w3.heap.size _ [.int .i64 bn, .bool false, .slice pa al pc] rfl rfl (heap_alloc_new w3 _) rfl rfl (net_one _ _ _ _ _) ?_; intro w4 hg3 hk3; have hb : Below w3.heap.size w3 w4 := ((Below.refl _ w3).alloc (Nat.le_refl _) _).trans (hk3.below (by simp) (fun i e => by have e2 : i = w3.heap.size := e; omega)); have HRA := Lib.hid (HRA.out.below' hb); have HRB := Lib.hid (HRB.out.below' hb); have HR := Lib.hid (HR.out.below' hb); have hn := kept_box HN.out hb; have HN := Lib.hid hn; have x0 := cell_whole hn 0; have x1 := cell_whole hn 1; have x2 := cell_whole hn 2; clear hn; have hn := kept_box HP.out hb; have HP := Lib.hid hn; have cp0 := cell_whole hn 0; have cp1 := cell_whole hn 1; have cp2 := cell_whole hn 2; clear hn; have HQ := Lib.hid hg3; have cq0 := cell_whole hg3 0; have cq1 := cell_whole hg3 1; have cq2 := cell_whole hg3 2; have HB4 := Lib.hid (HB3.out.trans (hb.mono HB3.out.size)); clear hb hg3 hk3)
      | (go_at_call 18; refine (rbuild15_any n b ao nl cap Z s t H _ HR.out HNL.out HM.out).mono ?_; unfold BldRes; rw [HA.out, HBN.out, HE.out, HAL.out]; rintro e w3 ⟨pa, pc, rfl, hrb, hb⟩; have HR := Lib.hid (HR.out.below' hb); have hn := kept_box HN.out hb; have HN := Lib.hid hn; have x0 := cell_whole hn 0; have x1 := cell_whole hn 1; have x2 := cell_whole hn 2; clear hn; have hn := kept_box HP.out hb; have HP := Lib.hid hn; have cp0 := cell_whole hn 0; have cp1 := cell_whole hn 1; have cp2 := cell_whole hn 2; clear hn; have HRA := Lib.hid (HRA.out.below' hb); have HRB := Lib.hid hrb; clear hrb; have HB3 := Lib.hid (HB2.out.trans (hb.mono HB2.out.size)); clear hb)
      | ((with_reducible show wpList _ _ _ (Oper.mk none (Op.store 24 _ _) _ _ _ _ :: _) _ _); refine wpList_store_box sizeNet15 rfl _ _ rfl w1.heap.size _ [.int .i64 bn, .bool false, .slice oa al oc] rfl rfl (heap_alloc_new w1 _) rfl rfl (net_one _ _ _ _ _) ?_; intro w2 hg3 hk3; have hb : Below w1.heap.size w1 w2 := ((Below.refl _ w1).alloc (Nat.le_refl _) _).trans (hk3.below (by simp) (fun i e => by have e2 : i = w1.heap.size := e; omega)); have HRA := Lib.hid (HRA.out.below' hb); have HR := Lib.hid (HR.out.below' hb); have hn := kept_box HN.out hb; have HN := Lib.hid hn; have x0 := cell_whole hn 0; have x1 := cell_whole hn 1; have x2 := cell_whole hn 2; clear hn; have HP := Lib.hid hg3; have cp0 := cell_whole hg3 0; have cp1 := cell_whole hg3 1; have cp2 := cell_whole hg3 2; have HB2 := Lib.hid (HB1.out.trans (hb.mono HB1.out.size)); clear hb hg3 hk3)
      | (go_at_call 17; refine (ubuild_any n b ao nl cap Z s t H _ HR.out HNL.out HZ.out).mono ?_; unfold BldRes; rw [HA.out, HBN.out, HE.out, HAL.out]; rintro e w1 ⟨oa, oc, rfl, hra, hb⟩; have HR := Lib.hid (HR.out.below' hb); have hn := kept_box HN.out hb; have HN := Lib.hid hn; have x0 := cell_whole hn 0; have x1 := cell_whole hn 1; have x2 := cell_whole hn 2; clear hn; have HRA := Lib.hid hra; clear hra; have HB1 := Lib.hid (HB0.out.trans (hb.mono HB0.out.size)); clear hb))
    go_ret
    exact ⟨rfl, HB6.out⟩
end Go.Proofs.Ytbkmfjegbmjknaa
