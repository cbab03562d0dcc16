/- SpanMost, SpanBest, SpanTops. -/
import Derived.Test.YtekcnglkfglbfaaGreatGBest
import Derived.Test.YtekcnglkfglbfaaGreatGAwk
import Derived.Test.YtekcnglkfglbfaaGreatGFew
namespace Go.Proofs.YtekcnglkfglbfaaGreat
open Go.RowKit
set_option linter.unusedVariables false

theorem cost_zeros (Z : List ArcT) (N : Nat) : ∀ i, i ≤ Z.length → costK Z (List.replicate N 0) i = 0
  | 0, _ => rfl
  | i + 1, h => by
    have hz := List.getElem?_eq_getElem (l := Z) (i := i) (by omega)
    rw [costK_succ hz, cost_zeros Z N i (by omega), zeros_at]
    simp
/-- No flow is worth more; none at all is worth 0. -/
theorem tops_is {n : Int} {Z : List ArcT} {s t H m : Int} (h : MostIs n Z s t H m) : 0 ≤ m ∧ ∀ F, worE n Z s t F H = 0 → worV n Z s t F H ≤ m := by
  obtain ⟨N, i, j, rfl, rfl, rfl, hi, hj, hij, hW, _, hb⟩ := h
  refine ⟨?_, fun F hF => ?_⟩
  · have h1 := hb _ _ (zero_flow Z (fun a ha => (hW.caps a ha).1) N i j)
    unfold worthK at h1
    rw [cost_zeros Z Z.length Z.length (Nat.le_refl _)] at h1
    simpa using h1
  · obtain ⟨hA, hV⟩ := worE_ok hF
    obtain ⟨N', i', j', e1, e2, e3, _, _, _, hf⟩ := st_of hV
    obtain rfl : N' = N := by omega
    obtain rfl : i' = i := by omega
    obtain rfl : j' = j := by omega
    rw [(wor_st hA hf).2]
    exact hb _ _ hf
theorem worE_ask {n : Int} {Z : List ArcT} {s t H : Int} {F : List Int} {e0 : Int} (h : askE n Z s t H = e0) (h0 : e0 ≠ 0) : worE n Z s t F H = e0 ∧ worV n Z s t F H = 0 := by
  have h1 : worE n Z s t F H = e0 := by unfold worE; rw [if_neg (by rw [h]; exact h0), h]
  exact ⟨h1, by unfold worV; rw [if_neg (by rw [h1]; exact h0)]⟩
theorem best_free {Z : List ArcT} {N i j : Nat} {H : Int} {F : List Int} {k : Int} (hW : SpanNet Z N) (hE : endsE (N : Int) Z (i : Int) (j : Int) = 0) (h : BestI Z N i j H F k) : flowE (N : Int) Z F = 0 ∧ freeB (N : Int) Z F = true := by
  have hf := flowE_st hE h.flow
  refine ⟨hf, (free_iff hf).2 fun v hv => ?_⟩
  rw [Int.toNat_natCast] at hv ⊢
  exact (calmN_iff hW.lt hv).2 (h.calm v)
section
variable (n : Int) (b : Bool) (ao : Option Addr) (len cap : Nat) (Z : List ArcT)
set_option maxRecDepth 100000 in
set_option maxHeartbeats 4000000 in
theorem smost_law (s t H : Int) (w : World) (hl : Z.length = len) (hcap : len ≤ cap) (hm : len ≤ maxLen) (hr : Row encA 4 w ao Z) :
    Calls Tryz.prog 3 #[.agg #[.int .i64 n, .bool b, .slice ao len cap], .int .i64 s, .int .i64 t, .int .i64 H] w fun e w' => e = .returned (.bool true) ∧ Below w.heap.size w w' := by
  subst hl
  have HCP := Lib.hid hcap
  have HM := Lib.hid hm
  have HRZ := Lib.hid (row_alloc hr (.cells #[.int .i64 n, .bool b, .slice ao Z.length cap] 24))
  have HRW := Lib.hid (row_few8 hr)
  have HMY := Lib.hid (Nat.le_trans (fewZ8_le Z) hm)
  have HB : Hid (Below w.heap.size w (w.alloc (.cells #[.int .i64 n, .bool b, .slice ao Z.length cap] 24))) := Lib.hid ((Below.refl _ w).alloc (Nat.le_refl _) _)
  have HN := Lib.hid (heap_alloc_new w (.cells #[.int .i64 n, .bool b, .slice ao Z.length cap] 24))
  have HRI := Lib.hid hr
  clear hr hm hcap
  obtain ⟨Y, hY⟩ : ∃ Y, fewZ8 Z = Y := ⟨_, rfl⟩
  obtain ⟨m, hmn⟩ : ∃ m, fewN8 n = m := ⟨_, rfl⟩
  have HY := Lib.hid hY
  have HMN := Lib.hid hmn
  rw [hY] at HRW HMY
  clear hY hmn
  have x0 := cell_whole HN.out 0
  have x1 := cell_whole HN.out 1
  have x2 := cell_whole HN.out 2
  obtain ⟨e0, he⟩ : ∃ e0, askE m Y s t H = e0 := ⟨_, rfl⟩
  have HE := Lib.hid he
  by_cases h0 : e0 = 0
  · subst h0
    clear he
    go_enter Tryz.func3, Tryz.ntmps3
    go_wp2_with (first
      | (go_at_call 6; refine (few8_any n b ao cap Z _ HRZ.out HM.out HCP.out).mono ?_; rintro e w1 ⟨rfl, hb1⟩; rw [HY.out, HMN.out]; have hn1 := kept_box HN.out hb1; have x0 := cell_whole hn1 0; have x1 := cell_whole hn1 1; have x2 := cell_whole hn1 2; have fx1 := frozen_whole hn1 0; have fy1 := frozen_whole hn1 1; have fz1 := frozen_whole hn1 2; have hB1 := HB.out.trans (hb1.mono HB.out.size); obtain ⟨hn2, hB2⟩ := netSet hn1 hB1 (Nat.le_refl _) (.int .i64 m) (.bool b) (.slice ao Y.length cap); have HN := Lib.hid hn2; have HB := Lib.hid hB2; have HR := Lib.hid (HRW.out.below' hB2); clear hb1 hn1 hB1 hn2 hB2)
      | (go_at_call 7; refine (pmost_any b ao cap Y m s t H _ HR.out HMY.out).mono ?_; rintro e wn ⟨k0, rfl, h1, h2, hb⟩; rw [HE.out] at h1 h2 ⊢; have HK := Lib.hid (h1 rfl); clear h1 h2 fx1 fy1 fz1; have HR := Lib.hid (HR.out.below' hb); have hn := kept_box HN.out hb; have HN := Lib.hid hn; have x0 := cell_whole hn 0; have x1 := cell_whole hn 1; have x2 := cell_whole hn 2; have HB := Lib.hid (HB.out.trans (hb.mono HB.out.size)); clear hb hn)
      | (go_at_call 8; refine (rmost12_any m b ao cap Y s t H _ HR.out HMY.out).mono ?_; rintro e wn ⟨k1, rfl, h1, h2, hb⟩; rw [HE.out] at h1 h2 ⊢; obtain rfl := most_isG HK.out (h1 rfl); clear h1 h2; have HR := Lib.hid (HR.out.below' hb); have hn := kept_box HN.out hb; have HN := Lib.hid hn; have x0 := cell_whole hn 0; have x1 := cell_whole hn 1; have x2 := cell_whole hn 2; have HB := Lib.hid (HB.out.trans (hb.mono HB.out.size)); clear hb hn)
      | (go_at_call 9; refine (pawake_any _).mono ?_; rintro e wn ⟨rfl, hb⟩; have HR := Lib.hid (HR.out.below' hb); have hn := kept_box HN.out hb; have HN := Lib.hid hn; have x0 := cell_whole hn 0; have x1 := cell_whole hn 1; have x2 := cell_whole hn 2; have HB := Lib.hid (HB.out.trans (hb.mono HB.out.size)); clear hb hn))
    go_ret
    exact ⟨by simp, HB.out⟩
  · have H0 := Lib.hid h0
    clear h0 he
    go_enter Tryz.func3, Tryz.ntmps3
    go_wp2_with (first
      | (go_at_call 6; refine (few8_any n b ao cap Z _ HRZ.out HM.out HCP.out).mono ?_; rintro e w1 ⟨rfl, hb1⟩; rw [HY.out, HMN.out]; have hn1 := kept_box HN.out hb1; have x0 := cell_whole hn1 0; have x1 := cell_whole hn1 1; have x2 := cell_whole hn1 2; have fx1 := frozen_whole hn1 0; have fy1 := frozen_whole hn1 1; have fz1 := frozen_whole hn1 2; have hB1 := HB.out.trans (hb1.mono HB.out.size); obtain ⟨hn2, hB2⟩ := netSet hn1 hB1 (Nat.le_refl _) (.int .i64 m) (.bool b) (.slice ao Y.length cap); have HN := Lib.hid hn2; have HB := Lib.hid hB2; have HR := Lib.hid (HRW.out.below' hB2); clear hb1 hn1 hB1 hn2 hB2)
      | (go_at_call 7; refine (pmost_any b ao cap Y m s t H _ HR.out HMY.out).mono ?_; rintro e wn ⟨k0, rfl, h1, h2, hb⟩; rw [HE.out] at h1 h2 ⊢; obtain rfl := h2 H0.out; clear h1 h2 fx1 fy1 fz1; have HR := Lib.hid (HR.out.below' hb); have hn := kept_box HN.out hb; have HN := Lib.hid hn; have x0 := cell_whole hn 0; have x1 := cell_whole hn 1; have x2 := cell_whole hn 2; have HB := Lib.hid (HB.out.trans (hb.mono HB.out.size)); clear hb hn)
      | (go_at_call 8; refine (rmost12_any m b ao cap Y s t H _ HR.out HMY.out).mono ?_; rintro e wn ⟨k1, rfl, h1, h2, hb⟩; rw [HE.out] at h1 h2 ⊢; obtain rfl := h2 H0.out; clear h1 h2; have HR := Lib.hid (HR.out.below' hb); have hn := kept_box HN.out hb; have HN := Lib.hid hn; have x0 := cell_whole hn 0; have x1 := cell_whole hn 1; have x2 := cell_whole hn 2; have HB := Lib.hid (HB.out.trans (hb.mono HB.out.size)); clear hb hn)
      | (go_at_call 9; refine (pawake_any _).mono ?_; rintro e wn ⟨rfl, hb⟩; have HR := Lib.hid (HR.out.below' hb); have hn := kept_box HN.out hb; have HN := Lib.hid hn; have x0 := cell_whole hn 0; have x1 := cell_whole hn 1; have x2 := cell_whole hn 2; have HB := Lib.hid (HB.out.trans (hb.mono HB.out.size)); clear hb hn))
    go_ret
    exact ⟨by simp, HB.out⟩
set_option maxRecDepth 100000 in
set_option maxHeartbeats 4000000 in
theorem stops_law (s t H : Int) (fo : Option Addr) (fl fc : Nat) (F : List Int) (w : World) (hl : Z.length = len) (hcap : len ≤ cap) (hm : len ≤ maxLen) (hr : Row encA 4 w ao Z) (hl1 : F.length = fl) (hm1 : fl ≤ maxLen) (hf : Lst encI w fo F) :
    Calls Tryz.prog 5 #[.agg #[.int .i64 n, .bool b, .slice ao len cap], .int .i64 s, .int .i64 t, .slice fo fl fc, .int .i64 H] w fun e w' => e = .returned (.bool true) ∧ Below w.heap.size w w' := by
  subst hl1
  have HMF := Lib.hid hm1
  have HF0 := Lib.hid hf
  clear hf hm1
  subst hl
  have HCP := Lib.hid hcap
  have HM := Lib.hid hm
  have HRZ := Lib.hid (row_alloc hr (.cells #[.int .i64 n, .bool b, .slice ao Z.length cap] 24))
  have HRW := Lib.hid (row_few8 hr)
  have HMY := Lib.hid (Nat.le_trans (fewZ8_le Z) hm)
  have HB : Hid (Below w.heap.size w (w.alloc (.cells #[.int .i64 n, .bool b, .slice ao Z.length cap] 24))) := Lib.hid ((Below.refl _ w).alloc (Nat.le_refl _) _)
  have HN := Lib.hid (heap_alloc_new w (.cells #[.int .i64 n, .bool b, .slice ao Z.length cap] 24))
  have HRI := Lib.hid hr
  clear hr hm hcap
  obtain ⟨Y, hY⟩ : ∃ Y, fewZ8 Z = Y := ⟨_, rfl⟩
  obtain ⟨m, hmn⟩ : ∃ m, fewN8 n = m := ⟨_, rfl⟩
  have HY := Lib.hid hY
  have HMN := Lib.hid hmn
  rw [hY] at HRW HMY
  clear hY hmn
  have x0 := cell_whole HN.out 0
  have x1 := cell_whole HN.out 1
  have x2 := cell_whole HN.out 2
  obtain ⟨e0, he⟩ : ∃ e0, askE m Y s t H = e0 := ⟨_, rfl⟩
  have HE := Lib.hid he
  obtain ⟨v1, hv1⟩ : ∃ v1, worV m Y s t F H = v1 := ⟨_, rfl⟩
  obtain ⟨e1, he1⟩ : ∃ e1, worE m Y s t F H = e1 := ⟨_, rfl⟩
  have HV1 := Lib.hid hv1
  have HE1 := Lib.hid he1
  by_cases h0 : e0 = 0
  · subst h0
    by_cases h1 : e1 = 0
    · subst h1
      clear he hv1 he1
      go_enter Tryz.func5, Tryz.ntmps5
      go_wp2_with (first
        | (go_at_call 9; refine (pawake_any _).mono ?_; rintro e wn ⟨rfl, hb⟩; have HRZ := Lib.hid (HRZ.out.below' hb); have hn := kept_box HN.out hb; have HN := Lib.hid hn; have x0 := cell_whole hn 0; have x1 := cell_whole hn 1; have x2 := cell_whole hn 2; have HB := Lib.hid (HB.out.trans (hb.mono HB.out.size)); clear hb hn)
        | (go_at_call 6; refine (few8_any n b ao cap Z _ HRZ.out HM.out HCP.out).mono ?_; rintro e w1 ⟨rfl, hb1⟩; rw [HY.out, HMN.out]; have hn1 := kept_box HN.out hb1; have x0 := cell_whole hn1 0; have x1 := cell_whole hn1 1; have x2 := cell_whole hn1 2; have fx1 := frozen_whole hn1 0; have fy1 := frozen_whole hn1 1; have fz1 := frozen_whole hn1 2; have hB1 := HB.out.trans (hb1.mono HB.out.size); obtain ⟨hn2, hB2⟩ := netSet hn1 hB1 (Nat.le_refl _) (.int .i64 m) (.bool b) (.slice ao Y.length cap); have HN := Lib.hid hn2; have HB := Lib.hid hB2; have HR := Lib.hid (HRW.out.below' hB2); have HF := Lib.hid (HF0.out.below hB2); clear hb1 hn1 hB1 hn2 hB2)
        | (go_at_call 12; refine (rworth_any m b ao fo cap fc Y F s t H _ HR.out HF.out HMY.out HMF.out).mono ?_; rw [HV1.out, HE1.out]; rintro e wn ⟨rfl, hb⟩; clear fx1 fy1 fz1; have HR := Lib.hid (HR.out.below' hb); have hn := kept_box HN.out hb; have HN := Lib.hid hn; have x0 := cell_whole hn 0; have x1 := cell_whole hn 1; have x2 := cell_whole hn 2; have HF := Lib.hid (HF.out.below hb); have HB := Lib.hid (HB.out.trans (hb.mono HB.out.size)); clear hb hn)
        | (go_at_call 7; refine (pmost_any b ao cap Y m s t H _ HR.out HMY.out).mono ?_; rintro e wn ⟨k0, rfl, h1, h2, hb⟩; rw [HE.out] at h1 h2 ⊢; obtain ⟨hk0, hk1⟩ := tops_is (h1 rfl); have hk2 := hk1 F HE1.out; rw [HV1.out] at hk2; clear h1 h2 hk1; have HR := Lib.hid (HR.out.below' hb); have hn := kept_box HN.out hb; have HN := Lib.hid hn; have x0 := cell_whole hn 0; have x1 := cell_whole hn 1; have x2 := cell_whole hn 2; have HB := Lib.hid (HB.out.trans (hb.mono HB.out.size)); clear hb hn))
      go_ret
      exact ⟨by simp, HB.out⟩
    · have hf1 : (e1 != 0) = true := by simpa using h1
      clear he hv1 he1 h1
      go_enter Tryz.func5, Tryz.ntmps5
      go_wp2_with (first
        | (go_at_call 9; refine (pawake_any _).mono ?_; rintro e wn ⟨rfl, hb⟩; have HRZ := Lib.hid (HRZ.out.below' hb); have hn := kept_box HN.out hb; have HN := Lib.hid hn; have x0 := cell_whole hn 0; have x1 := cell_whole hn 1; have x2 := cell_whole hn 2; have HB := Lib.hid (HB.out.trans (hb.mono HB.out.size)); clear hb hn)
        | (go_at_call 6; refine (few8_any n b ao cap Z _ HRZ.out HM.out HCP.out).mono ?_; rintro e w1 ⟨rfl, hb1⟩; rw [HY.out, HMN.out]; have hn1 := kept_box HN.out hb1; have x0 := cell_whole hn1 0; have x1 := cell_whole hn1 1; have x2 := cell_whole hn1 2; have fx1 := frozen_whole hn1 0; have fy1 := frozen_whole hn1 1; have fz1 := frozen_whole hn1 2; have hB1 := HB.out.trans (hb1.mono HB.out.size); obtain ⟨hn2, hB2⟩ := netSet hn1 hB1 (Nat.le_refl _) (.int .i64 m) (.bool b) (.slice ao Y.length cap); have HN := Lib.hid hn2; have HB := Lib.hid hB2; have HR := Lib.hid (HRW.out.below' hB2); have HF := Lib.hid (HF0.out.below hB2); clear hb1 hn1 hB1 hn2 hB2)
        | (go_at_call 12; refine (rworth_any m b ao fo cap fc Y F s t H _ HR.out HF.out HMY.out HMF.out).mono ?_; rw [HV1.out, HE1.out]; rintro e wn ⟨rfl, hb⟩; clear fx1 fy1 fz1; have HR := Lib.hid (HR.out.below' hb); have hn := kept_box HN.out hb; have HN := Lib.hid hn; have x0 := cell_whole hn 0; have x1 := cell_whole hn 1; have x2 := cell_whole hn 2; have HF := Lib.hid (HF.out.below hb); have HB := Lib.hid (HB.out.trans (hb.mono HB.out.size)); clear hb hn)
        | (go_at_call 7; refine (pmost_any b ao cap Y m s t H _ HR.out HMY.out).mono ?_; rintro e wn ⟨k0, rfl, h1, h2, hb⟩; rw [HE.out] at h1 h2 ⊢; obtain ⟨hk0, hk1⟩ := tops_is (h1 rfl); clear h1 h2 hk1; have HR := Lib.hid (HR.out.below' hb); have hn := kept_box HN.out hb; have HN := Lib.hid hn; have x0 := cell_whole hn 0; have x1 := cell_whole hn 1; have x2 := cell_whole hn 2; have HB := Lib.hid (HB.out.trans (hb.mono HB.out.size)); clear hb hn))
      go_ret
      exact ⟨by simp, HB.out⟩
  · have hf0 : (e0 != 0) = true := by simpa using h0
    have hf3 : (e0 == 0) = false := by simpa using h0
    obtain ⟨q1, q2⟩ := worE_ask (F := F) he h0
    have HQ1 := Lib.hid q1
    have HQ2 := Lib.hid q2
    have H0 := Lib.hid h0
    clear he hv1 he1 h0 q1 q2
    go_enter Tryz.func5, Tryz.ntmps5
    go_wp2_with (first
      | (go_at_call 9; refine (pawake_any _).mono ?_; rintro e wn ⟨rfl, hb⟩; have HRZ := Lib.hid (HRZ.out.below' hb); have hn := kept_box HN.out hb; have HN := Lib.hid hn; have x0 := cell_whole hn 0; have x1 := cell_whole hn 1; have x2 := cell_whole hn 2; have HB := Lib.hid (HB.out.trans (hb.mono HB.out.size)); clear hb hn)
      | (go_at_call 6; refine (few8_any n b ao cap Z _ HRZ.out HM.out HCP.out).mono ?_; rintro e w1 ⟨rfl, hb1⟩; rw [HY.out, HMN.out]; have hn1 := kept_box HN.out hb1; have x0 := cell_whole hn1 0; have x1 := cell_whole hn1 1; have x2 := cell_whole hn1 2; have fx1 := frozen_whole hn1 0; have fy1 := frozen_whole hn1 1; have fz1 := frozen_whole hn1 2; have hB1 := HB.out.trans (hb1.mono HB.out.size); obtain ⟨hn2, hB2⟩ := netSet hn1 hB1 (Nat.le_refl _) (.int .i64 m) (.bool b) (.slice ao Y.length cap); have HN := Lib.hid hn2; have HB := Lib.hid hB2; have HR := Lib.hid (HRW.out.below' hB2); have HF := Lib.hid (HF0.out.below hB2); clear hb1 hn1 hB1 hn2 hB2)
      | (go_at_call 12; refine (rworth_any m b ao fo cap fc Y F s t H _ HR.out HF.out HMY.out HMF.out).mono ?_; rw [HQ1.out, HQ2.out]; rintro e wn ⟨rfl, hb⟩; clear fx1 fy1 fz1; have HR := Lib.hid (HR.out.below' hb); have hn := kept_box HN.out hb; have HN := Lib.hid hn; have x0 := cell_whole hn 0; have x1 := cell_whole hn 1; have x2 := cell_whole hn 2; have HF := Lib.hid (HF.out.below hb); have HB := Lib.hid (HB.out.trans (hb.mono HB.out.size)); clear hb hn)
      | (go_at_call 7; refine (pmost_any b ao cap Y m s t H _ HR.out HMY.out).mono ?_; rintro e wn ⟨k0, rfl, h1, h2, hb⟩; rw [HE.out] at h1 h2 ⊢; obtain rfl := h2 H0.out; clear h1 h2; have HR := Lib.hid (HR.out.below' hb); have hn := kept_box HN.out hb; have HN := Lib.hid hn; have x0 := cell_whole hn 0; have x1 := cell_whole hn 1; have x2 := cell_whole hn 2; have HB := Lib.hid (HB.out.trans (hb.mono HB.out.size)); clear hb hn))
    go_ret
    exact ⟨by simp, HB.out⟩
set_option maxRecDepth 100000 in
set_option maxHeartbeats 4000000 in
theorem sbest_law (s t H : Int) (w : World) (hl : Z.length = len) (hcap : len ≤ cap) (hm : len ≤ maxLen) (hr : Row encA 4 w ao Z) :
    Calls Tryz.prog 4 #[.agg #[.int .i64 n, .bool b, .slice ao len cap], .int .i64 s, .int .i64 t, .int .i64 H] w fun e w' => e = .returned (.bool true) ∧ Below w.heap.size w w' := by
  subst hl
  have HCP := Lib.hid hcap
  have HM := Lib.hid hm
  have HRZ := Lib.hid (row_alloc hr (.cells #[.int .i64 n, .bool b, .slice ao Z.length cap] 24))
  have HRW := Lib.hid (row_few8 hr)
  have HMY := Lib.hid (Nat.le_trans (fewZ8_le Z) hm)
  have HB : Hid (Below w.heap.size w (w.alloc (.cells #[.int .i64 n, .bool b, .slice ao Z.length cap] 24))) := Lib.hid ((Below.refl _ w).alloc (Nat.le_refl _) _)
  have HN := Lib.hid (heap_alloc_new w (.cells #[.int .i64 n, .bool b, .slice ao Z.length cap] 24))
  have HRI := Lib.hid hr
  clear hr hm hcap
  obtain ⟨Y, hY⟩ : ∃ Y, fewZ8 Z = Y := ⟨_, rfl⟩
  obtain ⟨m, hmn⟩ : ∃ m, fewN8 n = m := ⟨_, rfl⟩
  have HY := Lib.hid hY
  have HMN := Lib.hid hmn
  rw [hY] at HRW HMY
  clear hY hmn
  have x0 := cell_whole HN.out 0
  have x1 := cell_whole HN.out 1
  have x2 := cell_whole HN.out 2
  obtain ⟨e0, he⟩ : ∃ e0, askE m Y s t H = e0 := ⟨_, rfl⟩
  have HE := Lib.hid he
  by_cases h0 : e0 = 0
  · subst h0
    obtain ⟨N, i, j, rfl, rfl, rfl, hi, hj, hij, hW, hH1, hH2⟩ := ask_net he
    have HWN := Lib.hid hW
    have HEN := Lib.hid (askE_ok he).1
    have hji : (j : Int) < (N : Int) := by omega
    clear he hW
    go_enter Tryz.func4, Tryz.ntmps4
    go_wp2_with (first
      | (go_at_call 9; refine (pawake_any _).mono ?_; rintro e wn ⟨rfl, hb⟩; have HRZ := Lib.hid (HRZ.out.below' hb); have hn := kept_box HN.out hb; have HN := Lib.hid hn; have x0 := cell_whole hn 0; have x1 := cell_whole hn 1; have x2 := cell_whole hn 2; have HB := Lib.hid (HB.out.trans (hb.mono HB.out.size)); clear hb hn)
      | (go_at_call 6; refine (few8_any n b ao cap Z _ HRZ.out HM.out HCP.out).mono ?_; rintro e w1 ⟨rfl, hb1⟩; rw [HY.out, HMN.out]; have hn1 := kept_box HN.out hb1; have x0 := cell_whole hn1 0; have x1 := cell_whole hn1 1; have x2 := cell_whole hn1 2; have fx1 := frozen_whole hn1 0; have fy1 := frozen_whole hn1 1; have fz1 := frozen_whole hn1 2; have hB1 := HB.out.trans (hb1.mono HB.out.size); obtain ⟨hn2, hB2⟩ := netSet hn1 hB1 (Nat.le_refl _) (.int .i64 (N : Int)) (.bool b) (.slice ao Y.length cap); have HN := Lib.hid hn2; have HB := Lib.hid hB2; have HR := Lib.hid (HRW.out.below' hB2); clear hb1 hn1 hB1 hn2 hB2)
      | (go_at_call 10; refine (pbest_any b ao cap Y (N : Int) (i : Int) (j : Int) H _ HR.out HMY.out).mono ?_; rintro e wn ⟨fo, fc, F, m0, rfl, hf, h1, h2, hb⟩; rw [HE.out] at h1 h2 ⊢; obtain ⟨Na, ia, ja, a1, a2, a3, _, _, k, hI, hD, hkm, hB⟩ := h1 rfl; obtain rfl : N = Na := (by omega); obtain rfl : i = ia := (by omega); obtain rfl : j = ja := (by omega); have HMI : Hid (MostIs (N : Int) Y (i : Int) (j : Int) H m0) := Lib.hid ⟨N, i, j, rfl, rfl, rfl, hi, hj, hij, HWN.out, hB⟩; have HI := Lib.hid hI; have hWO := wor_st HE.out hI.flow; rw [hkm] at hWO; have HWO := Lib.hid hWO; have hFR := best_free HWN.out HEN.out hI; have HFR := Lib.hid hFR; have hfl := hI.flow.1.1; have HFL := Lib.hid hfl; have HMF : Hid (F.length ≤ maxLen) := Lib.hid (by rw [hfl]; exact HMY.out); have hcm := (calmN_iff HWN.out.lt hi).2 (hI.calm i); have HDE := Lib.hid (calmN_far HWN.out.lt hi hcm).1; have HDL : Hid ((dN Y F N i N).length = N) := Lib.hid (bellK_len _); have HF := Lib.hid hf; have HDD := Lib.hid hD; clear h1 h2 hI hD hkm hB hWO hFR hfl hcm hf a1 a2 a3; clear fx1 fy1 fz1; have HR := Lib.hid (HR.out.below' hb); have hn := kept_box HN.out hb; have HN := Lib.hid hn; have x0 := cell_whole hn 0; have x1 := cell_whole hn 1; have x2 := cell_whole hn 2; have HB := Lib.hid (HB.out.trans (hb.mono HB.out.size)); clear hb hn)
      | (go_at_call 7; refine (pmost_any b ao cap Y (N : Int) (i : Int) (j : Int) H _ HR.out HMY.out).mono ?_; rintro e wn ⟨k1, rfl, h1, h2, hb⟩; rw [HE.out] at h1 h2 ⊢; obtain rfl := most_isG HMI.out (h1 rfl); clear h1 h2; have HR := Lib.hid (HR.out.below' hb); have hn := kept_box HN.out hb; have HN := Lib.hid hn; have x0 := cell_whole hn 0; have x1 := cell_whole hn 1; have x2 := cell_whole hn 2; have HF := Lib.hid (HF.out.below hb); have HB := Lib.hid (HB.out.trans (hb.mono HB.out.size)); clear hb hn)
      | (go_at_call 12; refine (rworth_any (N : Int) b ao fo cap fc Y F (i : Int) (j : Int) H _ HR.out HF.out HMY.out HMF.out).mono ?_; rw [HWO.out.1, HWO.out.2]; rintro e wn ⟨rfl, hb⟩; have HR := Lib.hid (HR.out.below' hb); have hn := kept_box HN.out hb; have HN := Lib.hid hn; have x0 := cell_whole hn 0; have x1 := cell_whole hn 1; have x2 := cell_whole hn 2; have HF := Lib.hid (HF.out.below hb); have HB := Lib.hid (HB.out.trans (hb.mono HB.out.size)); clear hb hn)
      | (go_at_call 13; refine (rfree_any (N : Int) b ao fo cap fc Y F _ HR.out HF.out HMY.out HMF.out).mono ?_; rw [HFR.out.1, HFR.out.2]; rintro e wn ⟨rfl, hb⟩; have HR := Lib.hid (HR.out.below' hb); have hn := kept_box HN.out hb; have HN := Lib.hid hn; have x0 := cell_whole hn 0; have x1 := cell_whole hn 1; have x2 := cell_whole hn 2; have HF := Lib.hid (HF.out.below hb); have HB := Lib.hid (HB.out.trans (hb.mono HB.out.size)); clear hb hn))
    obtain ⟨D, hD⟩ : ∃ D, dN Y F N i N = D := ⟨_, rfl⟩
    rw [hD] at HDE HDL HDD
    have hjD : j < D.length := by rw [HDL.out]; exact hj
    have HVT := Lib.hid (valsO_at hjD)
    have HIT := Lib.hid (isO_at hjD)
    clear hD hjD
    cases hg : getO D j with
    | none =>
      rw [hg] at HVT HIT
      clear hg
      go_wp2_with (first | (go_at_call 14; refine (rreach_any b ao fo cap fc Y F N i _ HR.out HF.out HFL.out HWN.out.time hi).mono ?_; rintro e w3 ⟨gd, gi, rfl, hdd, hii, hb3⟩; rw [HDE.out] at hdd hii; obtain ⟨ib, ix, e2, _, it⟩ := lst_cell hii HIT.out; cases e2; obtain ⟨db, dx, e3, _, dt⟩ := lst_cell hdd HVT.out; cases e3; unfold encB at it; unfold encI at dt; rw [Nat.zero_add] at it dt; have it := cell_alloc it (.cells #[.slice (some ⟨gd, 0, none⟩) N N, .slice (some ⟨gi, 0, none⟩) N N, .bool (calmN Y F N i)] 40); have dt := cell_alloc dt (.cells #[.slice (some ⟨gd, 0, none⟩) N N, .slice (some ⟨gi, 0, none⟩) N N, .bool (calmN Y F N i)] 40); have k0 := cell_new w3 #[.slice (some ⟨gd, 0, none⟩) N N, .slice (some ⟨gi, 0, none⟩) N N, .bool (calmN Y F N i)] 40 0; have k1 := cell_new w3 #[.slice (some ⟨gd, 0, none⟩) N N, .slice (some ⟨gi, 0, none⟩) N N, .bool (calmN Y F N i)] 40 1; have HB3 := Lib.hid ((HB.out.trans (hb3.mono HB.out.size)).alloc (by have h1 := HB.out.size; have h2 := hb3.size; omega) (.cells #[.slice (some ⟨gd, 0, none⟩) N N, .slice (some ⟨gi, 0, none⟩) N N, .bool (calmN Y F N i)] 40)); clear hdd hii hb3))
      go_ret
      exact ⟨by simp, HB3.out⟩
    | some x =>
      have hx := HDD.out x hg
      rw [hg] at HVT HIT
      have hvx : valO (some x) = x := rfl
      rw [hvx] at HVT
      clear hg hvx
      go_wp2_with (first | (go_at_call 14; refine (rreach_any b ao fo cap fc Y F N i _ HR.out HF.out HFL.out HWN.out.time hi).mono ?_; rintro e w3 ⟨gd, gi, rfl, hdd, hii, hb3⟩; rw [HDE.out] at hdd hii; obtain ⟨ib, ix, e2, _, it⟩ := lst_cell hii HIT.out; cases e2; obtain ⟨db, dx, e3, _, dt⟩ := lst_cell hdd HVT.out; cases e3; unfold encB at it; unfold encI at dt; rw [Nat.zero_add] at it dt; have it := cell_alloc it (.cells #[.slice (some ⟨gd, 0, none⟩) N N, .slice (some ⟨gi, 0, none⟩) N N, .bool (calmN Y F N i)] 40); have dt := cell_alloc dt (.cells #[.slice (some ⟨gd, 0, none⟩) N N, .slice (some ⟨gi, 0, none⟩) N N, .bool (calmN Y F N i)] 40); have k0 := cell_new w3 #[.slice (some ⟨gd, 0, none⟩) N N, .slice (some ⟨gi, 0, none⟩) N N, .bool (calmN Y F N i)] 40 0; have k1 := cell_new w3 #[.slice (some ⟨gd, 0, none⟩) N N, .slice (some ⟨gi, 0, none⟩) N N, .bool (calmN Y F N i)] 40 1; have HB3 := Lib.hid ((HB.out.trans (hb3.mono HB.out.size)).alloc (by have h1 := HB.out.size; have h2 := hb3.size; omega) (.cells #[.slice (some ⟨gd, 0, none⟩) N N, .slice (some ⟨gi, 0, none⟩) N N, .bool (calmN Y F N i)] 40)); clear hdd hii hb3))
      go_ret
      exact ⟨by simp, HB3.out⟩
  · have hf0 : (e0 != 0) = true := by simpa using h0
    have H0 := Lib.hid h0
    clear h0 he
    go_enter Tryz.func4, Tryz.ntmps4
    go_wp2_with (first
      | (go_at_call 9; refine (pawake_any _).mono ?_; rintro e wn ⟨rfl, hb⟩; have HRZ := Lib.hid (HRZ.out.below' hb); have hn := kept_box HN.out hb; have HN := Lib.hid hn; have x0 := cell_whole hn 0; have x1 := cell_whole hn 1; have x2 := cell_whole hn 2; have HB := Lib.hid (HB.out.trans (hb.mono HB.out.size)); clear hb hn)
      | (go_at_call 6; refine (few8_any n b ao cap Z _ HRZ.out HM.out HCP.out).mono ?_; rintro e w1 ⟨rfl, hb1⟩; rw [HY.out, HMN.out]; have hn1 := kept_box HN.out hb1; have x0 := cell_whole hn1 0; have x1 := cell_whole hn1 1; have x2 := cell_whole hn1 2; have fx1 := frozen_whole hn1 0; have fy1 := frozen_whole hn1 1; have fz1 := frozen_whole hn1 2; have hB1 := HB.out.trans (hb1.mono HB.out.size); obtain ⟨hn2, hB2⟩ := netSet hn1 hB1 (Nat.le_refl _) (.int .i64 m) (.bool b) (.slice ao Y.length cap); have HN := Lib.hid hn2; have HB := Lib.hid hB2; have HR := Lib.hid (HRW.out.below' hB2); clear hb1 hn1 hB1 hn2 hB2)
      | (go_at_call 10; refine (pbest_any b ao cap Y m s t H _ HR.out HMY.out).mono ?_; rintro e wn ⟨fo, fc, F, m0, rfl, hf, h1, h2, hb⟩; rw [HE.out] at h1 h2 ⊢; obtain ⟨rfl, rfl⟩ := h2 H0.out; clear h1 h2 fx1 fy1 fz1 hf; have HR := Lib.hid (HR.out.below' hb); have hn := kept_box HN.out hb; have HN := Lib.hid hn; have x0 := cell_whole hn 0; have x1 := cell_whole hn 1; have x2 := cell_whole hn 2; have HB := Lib.hid (HB.out.trans (hb.mono HB.out.size)); clear hb hn)
      | (go_at_call 7; refine (pmost_any b ao cap Y m s t H _ HR.out HMY.out).mono ?_; rintro e wn ⟨k1, rfl, h1, h2, hb⟩; rw [HE.out] at h1 h2 ⊢; obtain rfl := h2 H0.out; clear h1 h2; have HR := Lib.hid (HR.out.below' hb); have hn := kept_box HN.out hb; have HN := Lib.hid hn; have x0 := cell_whole hn 0; have x1 := cell_whole hn 1; have x2 := cell_whole hn 2; have HB := Lib.hid (HB.out.trans (hb.mono HB.out.size)); clear hb hn)
      | (go_at_call 11; refine (rasked12_is m b ao cap Y e0 s t H _ HR.out HMY.out HE.out).mono ?_; rintro e wn ⟨rfl, hb⟩; have HR := Lib.hid (HR.out.below' hb); have hn := kept_box HN.out hb; have HN := Lib.hid hn; have x0 := cell_whole hn 0; have x1 := cell_whole hn 1; have x2 := cell_whole hn 2; have HB := Lib.hid (HB.out.trans (hb.mono HB.out.size)); clear hb hn))
    go_ret
    exact ⟨by simp, HB.out⟩
end
end Go.Proofs.YtekcnglkfglbfaaGreat
