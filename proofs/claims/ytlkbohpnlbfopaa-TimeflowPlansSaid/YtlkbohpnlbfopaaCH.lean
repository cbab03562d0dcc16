/- Lemmas of the layers below, several texts in one. -/
import Derived.Test.YtlkbohpnlbfopaaCI
namespace Go.Proofs.Ytlkbohpnlbfopaa
open Go.RowKit
set_option linter.unusedVariables false
section
variable (n : Int) (b : Bool) (ao fo : Option Addr) (cap fc : Nat) (Z : List ArcT) (F : List Int)
set_option maxRecDepth 100000 in
set_option maxHeartbeats 4000000 in
theorem pcheck_any (s t H : Int) (w : World) (h : Row encA 4 w ao Z) (hz : Z.length ≤ maxLen) :
    Calls Try.prog 64 #[.agg #[.int .i64 n, .bool b, .slice ao Z.length cap], .int .i64 s, .int .i64 t, .int .i64 H] w fun e w' => e = .returned (.int .i64 (askE n Z s t H)) ∧ Below w.heap.size w w' := by
  have hb00 := (Below.refl _ w).alloc (Nat.le_refl _) (.cells #[.int .i64 n, .bool b, .slice ao Z.length cap] 24)
  have HB0 := Lib.hid hb00
  have HN0 := Lib.hid (heap_alloc_new w (.cells #[.int .i64 n, .bool b, .slice ao Z.length cap] 24))
  have c0 := cell_whole HN0.out 0
  have c1 := cell_whole HN0.out 1
  have c2 := cell_whole HN0.out 2
  have HR := Lib.hid (h.below' hb00)
  have HZ := Lib.hid hz
  clear h hz hb00
  obtain ⟨e0, he⟩ : ∃ e0, endsE n Z s t = e0 := ⟨_, rfl⟩
  have HE := Lib.hid he
  by_cases h0 : e0 = 0
  · subst h0
    by_cases h1 : H < 0
    · have HA : Hid (askE n Z s t H = 1) := Lib.hid (by unfold askE spanE; rw [if_pos he, if_pos h1])
      clear he
      go_enter Try.func64, Try.ntmps64
      go_wp2_with (first
        | (go_at_call 76; refine (ends_is n b ao cap Z s t 0 _ HR.out HZ.out HE.out).mono ?_; rintro e w1 ⟨rfl, hb1⟩; have HB1 := Lib.hid (HB0.out.trans (hb1.mono HB0.out.size)); clear hb1))
      go_ret
      exact ⟨by rw [HA.out]; rfl, HB1.out⟩
    · by_cases h2 : H > 1024
      · have HA : Hid (askE n Z s t H = 2) := Lib.hid (by unfold askE spanE; rw [if_pos he, if_neg h1, if_pos h2])
        clear he
        go_enter Try.func64, Try.ntmps64
        go_wp2_with (first
          | (go_at_call 76; refine (ends_is n b ao cap Z s t 0 _ HR.out HZ.out HE.out).mono ?_; rintro e w1 ⟨rfl, hb1⟩; have HB1 := Lib.hid (HB0.out.trans (hb1.mono HB0.out.size)); clear hb1))
        go_ret
        exact ⟨by rw [HA.out]; rfl, HB1.out⟩
      · have HA : Hid (askE n Z s t H = 0) := Lib.hid (by unfold askE spanE; rw [if_pos he, if_neg h1, if_neg h2])
        clear he
        go_enter Try.func64, Try.ntmps64
        go_wp2_with (first
          | (go_at_call 76; refine (ends_is n b ao cap Z s t 0 _ HR.out HZ.out HE.out).mono ?_; rintro e w1 ⟨rfl, hb1⟩; have HB1 := Lib.hid (HB0.out.trans (hb1.mono HB0.out.size)); clear hb1))
        go_ret
        exact ⟨by rw [HA.out]; rfl, HB1.out⟩
  · have hf1 : (e0 != 0) = true := by simpa using h0
    have hf2 : (e0 == 0) = false := by simpa using h0
    have HA : Hid (askE n Z s t H = e0) := Lib.hid (by unfold askE; rw [if_neg (by rw [he]; exact h0), he])
    clear he h0
    go_enter Try.func64, Try.ntmps64
    go_wp2_with (first
      | (go_at_call 76; refine (ends_is n b ao cap Z s t e0 _ HR.out HZ.out HE.out).mono ?_; rintro e w1 ⟨rfl, hb1⟩; have HB1 := Lib.hid (HB0.out.trans (hb1.mono HB0.out.size)); clear hb1))
    go_ret
    exact ⟨by rw [HA.out]; rfl, HB1.out⟩
theorem pcheck_is (e0 : Int) (s t H : Int) (w : World) (h : Row encA 4 w ao Z) (hz : Z.length ≤ maxLen) (he : askE n Z s t H = e0) :
    Calls Try.prog 64 #[.agg #[.int .i64 n, .bool b, .slice ao Z.length cap], .int .i64 s, .int .i64 t, .int .i64 H] w fun e w' => e = .returned (.int .i64 e0) ∧ Below w.heap.size w w' := by
  subst he; exact pcheck_any n b ao cap Z s t H w h hz
set_option maxRecDepth 100000 in
set_option maxHeartbeats 4000000 in
theorem pworth_any (s t H : Int) (w : World) (h : Row encA 4 w ao Z) (hf : Lst encI w fo F) (hz : Z.length ≤ maxLen) (hfl : F.length ≤ maxLen) :
    Calls Try.prog 52 #[.agg #[.int .i64 n, .bool b, .slice ao Z.length cap], .int .i64 s, .int .i64 t, .slice fo F.length fc, .int .i64 H] w fun e w' => e = .returned (.tuple #[.int .i64 (worV n Z s t F H), .int .i64 (worE n Z s t F H)]) ∧ Below w.heap.size w w' := by
  have hb00 := (Below.refl _ w).alloc (Nat.le_refl _) (.cells #[.int .i64 n, .bool b, .slice ao Z.length cap] 24)
  have HB0 := Lib.hid hb00
  have HN0 := Lib.hid (heap_alloc_new w (.cells #[.int .i64 n, .bool b, .slice ao Z.length cap] 24))
  have c0 := cell_whole HN0.out 0
  have c1 := cell_whole HN0.out 1
  have c2 := cell_whole HN0.out 2
  have HR := Lib.hid (h.below' hb00)
  have HF := Lib.hid (hf.below hb00)
  have HZ := Lib.hid hz
  have HFL := Lib.hid hfl
  clear h hf hz hfl hb00
  obtain ⟨e0, he⟩ : ∃ e0, askE n Z s t H = e0 := ⟨_, rfl⟩
  have HE := Lib.hid he
  by_cases h0 : e0 = 0
  · subst h0
    obtain ⟨e1, he1⟩ : ∃ e1, valE n Z s t F = e1 := ⟨_, rfl⟩
    obtain ⟨k, hk⟩ : ∃ k, valK n Z s t F = k := ⟨_, rfl⟩
    obtain ⟨c, hc⟩ : ∃ c, costV n Z F = c := ⟨_, rfl⟩
    have HVE := Lib.hid he1
    have HVK := Lib.hid hk
    have HC := Lib.hid hc
    have HWE : Hid (worE n Z s t F H = e1) := Lib.hid (by unfold worE; rw [if_pos he, he1])
    by_cases h1 : e1 = 0
    · subst h1
      have hfe := (valE_ok he1).2.1
      have HFE := Lib.hid hfe
      obtain ⟨hb1, hb2⟩ := wor_bd (b := b) he1
      rw [hk] at hb1
      rw [hc] at hb2
      have hH := (askE_ok he).2
      have hcm : k * (H + 1) = (H + 1) * k := Int.mul_comm _ _
      have HWV : Hid (worV n Z s t F H = k * (H + 1) - c) := Lib.hid (by unfold worV; rw [if_pos HWE.out, hk, hc, hcm])
      have hm1 : (H + 1) * k ≤ 1025 * 209715200 := by
        have h1 : (H + 1) * k ≤ (H + 1) * 209715200 := Int.mul_le_mul_of_nonneg_left hb1.2 (by omega)
        omega
      have hm2 : -(1025 * 209715200) ≤ (H + 1) * k := by
        have h1 : (H + 1) * (-209715200) ≤ (H + 1) * k := Int.mul_le_mul_of_nonneg_left hb1.1 (by omega)
        omega
      rw [← hcm] at hm1 hm2
      have hw0 : IntKind.i64.wrap (H + 1) = H + 1 := IntWalk.i64_in _ (by omega)
      have hw1 : IntKind.i64.wrap (k * (H + 1)) = k * (H + 1) := IntWalk.i64_in _ (by omega)
      have hw2 : IntKind.i64.wrap (k * (H + 1) - c) = k * (H + 1) - c := IntWalk.i64_in _ (by omega)
      clear he he1 hk hc hfe hcm
      go_enter Try.func52, Try.ntmps52
      go_wp2_with (first
        | (go_at_call 64; refine (pcheck_is n b ao cap Z 0 s t H _ HR.out HZ.out HE.out).mono ?_; rintro e w1 ⟨rfl, hb1⟩; have HB1 := Lib.hid (HB0.out.trans (hb1.mono HB0.out.size)); have hn1 := kept_box HN0.out hb1; have HN1 := Lib.hid hn1; have HR1 := Lib.hid (HR.out.below' hb1); have HF1 := Lib.hid (HF.out.below hb1); have c0 := cell_whole hn1 0; have c1 := cell_whole hn1 1; have c2 := cell_whole hn1 2; clear hb1 hn1)
        | (go_at_call 65; refine (scheck_any n b ao fo cap fc Z s t F _ HR1.out HF1.out HZ.out HFL.out).mono ?_; rw [HVE.out, HVK.out]; rintro e w2 ⟨rfl, hb2⟩; have HB2 := Lib.hid (HB1.out.trans (hb2.mono HB1.out.size)); have hn2 := kept_box HN1.out hb2; have HR2 := Lib.hid (HR1.out.below' hb2); have HF2 := Lib.hid (HF1.out.below hb2); have c0 := cell_whole hn2 0; have c1 := cell_whole hn2 1; have c2 := cell_whole hn2 2; clear hb2 hn2)
        | (go_at_call 66; refine (cost_any n b ao fo cap fc Z F _ HR2.out HF2.out HZ.out HFL.out).mono ?_; rw [HC.out, HFE.out]; rintro e w3 ⟨rfl, hb3⟩; have HB3 := Lib.hid (HB2.out.trans (hb3.mono HB2.out.size)); clear hb3))
      go_ret2
      exact ⟨by rw [HWV.out, HWE.out]; rfl, HB3.out⟩
    · have hf1 : (e1 != 0) = true := by simpa using h1
      have hf2 : (e1 == 0) = false := by simpa using h1
      have HWV : Hid (worV n Z s t F H = 0) := Lib.hid (by unfold worV; rw [if_neg (by rw [HWE.out]; exact h1)])
      clear he he1 hk hc h1
      go_enter Try.func52, Try.ntmps52
      go_wp2_with (first
        | (go_at_call 64; refine (pcheck_is n b ao cap Z 0 s t H _ HR.out HZ.out HE.out).mono ?_; rintro e w1 ⟨rfl, hb1⟩; have HB1 := Lib.hid (HB0.out.trans (hb1.mono HB0.out.size)); have hn1 := kept_box HN0.out hb1; have HR1 := Lib.hid (HR.out.below' hb1); have HF1 := Lib.hid (HF.out.below hb1); have c0 := cell_whole hn1 0; have c1 := cell_whole hn1 1; have c2 := cell_whole hn1 2; clear hb1 hn1)
        | (go_at_call 65; refine (scheck_any n b ao fo cap fc Z s t F _ HR1.out HF1.out HZ.out HFL.out).mono ?_; rw [HVE.out, HVK.out]; rintro e w2 ⟨rfl, hb2⟩; have HB2 := Lib.hid (HB1.out.trans (hb2.mono HB1.out.size)); clear hb2))
      go_ret2
      exact ⟨by rw [HWV.out, HWE.out]; rfl, HB2.out⟩
  · have hf1 : (e0 != 0) = true := by simpa using h0
    have hf2 : (e0 == 0) = false := by simpa using h0
    have HWE : Hid (worE n Z s t F H = e0) := Lib.hid (by unfold worE; rw [if_neg (by rw [he]; exact h0), he])
    have HWV : Hid (worV n Z s t F H = 0) := Lib.hid (by unfold worV; rw [if_neg (by rw [HWE.out]; exact h0)])
    clear he h0
    go_enter Try.func52, Try.ntmps52
    go_wp2_with (first
      | (go_at_call 64; refine (pcheck_is n b ao cap Z e0 s t H _ HR.out HZ.out HE.out).mono ?_; rintro e w1 ⟨rfl, hb1⟩; have HB1 := Lib.hid (HB0.out.trans (hb1.mono HB0.out.size)); clear hb1))
    go_ret2
    exact ⟨by rw [HWV.out, HWE.out]; rfl, HB1.out⟩
end
end Go.Proofs.Ytlkbohpnlbfopaa
namespace Go.Proofs.Ytlkbohpnlbfopaa
open Go.RowKit
set_option linter.unusedVariables false
theorem wor_st {Z : List ArcT} {N i j : Nat} {H : Int} {F : List Int} {k : Int} (hE : askE (N : Int) Z (i : Int) (j : Int) H = 0) (h : FlowST Z N i j F k) : worE (N : Int) Z (i : Int) (j : Int) F H = 0 ∧ worV (N : Int) Z (i : Int) (j : Int) F H = worthK Z H F k := by
  obtain ⟨hv, hk⟩ := of_st (askE_ok hE).1 h
  have hw : worE (N : Int) Z (i : Int) (j : Int) F H = 0 := by unfold worE; rw [if_pos hE, hv]
  refine ⟨hw, ?_⟩
  unfold worV worthK costV
  rw [if_pos hw, hk, if_pos (valE_ok hv).2.1]
theorem ask_net {n : Int} {Z : List ArcT} {s t H : Int} (h : askE n Z s t H = 0) : ∃ N i j : Nat, n = (N : Int) ∧ s = (i : Int) ∧ t = (j : Int) ∧ i < N ∧ j < N ∧ i ≠ j ∧ SpanNet Z N ∧ 0 ≤ H ∧ H ≤ 1024 := by
  obtain ⟨he, h1, h2⟩ := askE_ok h
  obtain ⟨hc, i, j, rfl, rfl, hi, hj, hij⟩ := endsE_ok he
  have hR : Right (n, true, Z) := right_iff.1 hc
  have hn := nodesE_ok hR.1
  simp only at hn
  obtain ⟨N, rfl⟩ : ∃ N : Nat, n = (N : Int) := ⟨n.toNat, by omega⟩
  have hW := span_of hR
  rw [Int.toNat_natCast] at hi hj hW
  exact ⟨N, i, j, rfl, rfl, rfl, hi, hj, hij, hW, h1, h2⟩
end Go.Proofs.Ytlkbohpnlbfopaa
