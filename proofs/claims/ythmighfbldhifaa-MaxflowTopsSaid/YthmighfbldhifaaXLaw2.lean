/- MaxflowFlows and MaxflowTops. -/
import Derived.Test.YthmighfbldhifaaXAwk
namespace Go.Proofs.Ythmighfbldhifaa
open Go.RowKit
set_option linter.unusedVariables false

theorem way_gone {N i j : Nat} {Z : List ArcT} {F : List Int} {k : Int} (hE : endsE (N : Int) Z (i : Int) (j : Int) = 0) (hv : FlowST Z N i j F k) (hn : j ∉ keysX (seekN Z F N i)) : wayL (N : Int) Z F (i : Int) (j : Int) = [] ∧ wayB (N : Int) Z F (i : Int) (j : Int) = false ∧ pathE (N : Int) Z F (i : Int) (j : Int) = 0 := by
  have hp : pathE (N : Int) Z F (i : Int) (j : Int) = 0 := by unfold pathE; rw [if_pos (flowE_of hE hv), hE]
  have hw : wayF (N : Int) Z F (i : Int) (j : Int) = none := by
    unfold wayF
    rw [if_pos hp, Int.toNat_natCast, Int.toNat_natCast, Int.toNat_natCast]
    cases h : wayK (fromS Z) (toS Z) (stepsK Z F Z.length) N i j with
    | none => rfl
    | some p =>
      obtain ⟨b, q, h1, h2, _⟩ := wayK_some h
      exact absurd (keysX_mem.2 ⟨b, q, h1, h2⟩) hn
  unfold wayL wayB
  rw [hw]
  exact ⟨rfl, rfl, hp⟩
section
variable (n : Int) (b : Bool) (ao fo : Option Addr) (len cap fl fc : Nat) (Z : List ArcT) (F : List Int)
set_option maxRecDepth 100000 in
set_option maxHeartbeats 4000000 in
theorem flows_law (s t : Int) (w : World) (hl : Z.length = len) (hm : len ≤ maxLen) (hr : Row encA 4 w ao Z) :
    Calls Try.prog 4 #[.agg #[.int .i64 n, .bool b, .slice ao len cap], .int .i64 s, .int .i64 t] w fun e w' => e = .returned (.bool true) ∧ Below w.heap.size w w' := by
  subst hl
  have hb00 := (Below.refl _ w).alloc (Nat.le_refl _) (.cells #[.int .i64 n, .bool b, .slice ao Z.length cap] 24)
  have HB0 := Lib.hid hb00
  have HN0 := Lib.hid (heap_alloc_new w (.cells #[.int .i64 n, .bool b, .slice ao Z.length cap] 24))
  have HR0 := Lib.hid (hr.below' hb00)
  have HM := Lib.hid hm
  clear hr hm hb00
  obtain ⟨e0, he⟩ : ∃ e0, endsE n Z s t = e0 := ⟨_, rfl⟩
  have HE := Lib.hid he
  by_cases h0 : e0 = 0
  · subst h0
    obtain ⟨hc, i, j, rfl, rfl, hi, hj, hij⟩ := endsE_ok he
    have hn := nodesE_ok (right_iff.1 hc : Right (n, b, Z)).1
    simp only at hn
    obtain ⟨N, rfl⟩ : ∃ N : Nat, n = (N : Int) := ⟨n.toNat, by omega⟩
    rw [Int.toNat_natCast] at hi hj
    clear he hc
    go_enter Try.func4, Try.ntmps4
    go_wp2_with (first
      | (go_at_call 12; refine (xawake_any _).mono ?_; rintro e w1 ⟨rfl, hb1⟩; have HB1 := Lib.hid (HB0.out.trans (hb1.mono HB0.out.size)); have HR1 := Lib.hid (HR0.out.below' hb1); have hn1 := kept_box HN0.out hb1; have HN1 := Lib.hid hn1; have x0 := cell_whole hn1 0; have x1 := cell_whole hn1 1; have x2 := cell_whole hn1 2; clear hb1 hn1)
      | (go_at_call 13; refine (xmax_ok b ao cap Z N i j _ HR1.out HM.out HE.out).mono ?_; rintro e w2 ⟨fo, fc, F, k, rfl, hf2, hv2, hm2, hx2, hb2⟩; have HB2 := Lib.hid (HB1.out.trans (hb2.mono HB1.out.size)); have HR2 := Lib.hid (HR1.out.below' hb2); have hn2 := kept_box HN1.out hb2; have HN2 := Lib.hid hn2; have x0 := cell_whole hn2 0; have x1 := cell_whole hn2 1; have x2 := cell_whole hn2 2; have HF2 := Lib.hid hf2; have HV := Lib.hid hv2; have HMM := Lib.hid hm2; have HG := Lib.hid (way_gone HE.out hv2 hx2); have HVE := Lib.hid (of_st HE.out hv2); have HFM : Hid (F.length ≤ maxLen) := Lib.hid (by rw [hv2.1.1]; exact HM.out); clear hb2 hn2 hf2 hv2 hm2 hx2)
      | (go_at_call 10; refine (xmost_at b ao cap Z N i j k _ HR2.out HM.out HE.out hi HMM.out).mono ?_; rintro e w3 ⟨rfl, hb3⟩; have HB3 := Lib.hid (HB2.out.trans (hb3.mono HB2.out.size)); have HR3 := Lib.hid (HR2.out.below' hb3); have hn3 := kept_box HN2.out hb3; have HN3 := Lib.hid hn3; have HF3 := Lib.hid (HF2.out.below hb3); have x0 := cell_whole hn3 0; have x1 := cell_whole hn3 1; have x2 := cell_whole hn3 2; clear hb3 hn3)
      | (go_at_call 15; refine (rscheck_any (N : Int) b ao fo cap fc Z (i : Int) (j : Int) F _ HR3.out HF3.out HM.out HFM.out).mono ?_; rw [HVE.out.1, HVE.out.2]; rintro e w4 ⟨rfl, hb4⟩; have HB4 := Lib.hid (HB3.out.trans (hb4.mono HB3.out.size)); have HR4 := Lib.hid (HR3.out.below' hb4); have hn4 := kept_box HN3.out hb4; have HF4 := Lib.hid (HF3.out.below hb4); have x0 := cell_whole hn4 0; have x1 := cell_whole hn4 1; have x2 := cell_whole hn4 2; clear hb4 hn4)
      | (go_at_call 16; refine (rvpath_any (N : Int) b ao fo cap fc Z F (i : Int) (j : Int) _ HR4.out HF4.out HM.out HFM.out).mono ?_; rintro e w5 ⟨a5, c5, rfl, _, hb5⟩; rw [HG.out.1, HG.out.2.1, HG.out.2.2]; have HB5 := Lib.hid (HB4.out.trans (hb5.mono HB4.out.size)); clear hb5))
    go_ret
    exact ⟨by simp, HB5.out⟩
  · have H0 := Lib.hid h0
    have hf1 : (e0 != 0) = true := by simpa using h0
    have hf2 : (e0 == 0) = false := by simpa using h0
    have hf3 : (e0 == e0) = true := by simp
    clear h0 he
    go_enter Try.func4, Try.ntmps4
    go_wp2_with (first
      | (go_at_call 12; refine (xawake_any _).mono ?_; rintro e w1 ⟨rfl, hb1⟩; have HB1 := Lib.hid (HB0.out.trans (hb1.mono HB0.out.size)); have HR1 := Lib.hid (HR0.out.below' hb1); have hn1 := kept_box HN0.out hb1; have HN1 := Lib.hid hn1; have x0 := cell_whole hn1 0; have x1 := cell_whole hn1 1; have x2 := cell_whole hn1 2; clear hb1 hn1)
      | (go_at_call 13; refine (xmax_no b ao cap Z n s t e0 _ HR1.out HM.out HE.out H0.out).mono ?_; rintro e w2 ⟨rfl, hb2⟩; have HB2 := Lib.hid (HB1.out.trans (hb2.mono HB1.out.size)); have HR2 := Lib.hid (HR1.out.below' hb2); have hn2 := kept_box HN1.out hb2; have HN2 := Lib.hid hn2; have x0 := cell_whole hn2 0; have x1 := cell_whole hn2 1; have x2 := cell_whole hn2 2; clear hb2 hn2)
      | (go_at_call 10; refine (xmost_no b ao cap Z n s t e0 _ HR2.out HM.out HE.out H0.out).mono ?_; rintro e w3 ⟨rfl, hb3⟩; have HB3 := Lib.hid (HB2.out.trans (hb3.mono HB2.out.size)); have HR3 := Lib.hid (HR2.out.below' hb3); have hn3 := kept_box HN2.out hb3; have x0 := cell_whole hn3 0; have x1 := cell_whole hn3 1; have x2 := cell_whole hn3 2; clear hb3 hn3)
      | (go_at_call 14; refine (rends_is n b ao cap Z s t e0 _ HR3.out HM.out HE.out).mono ?_; rintro e w4 ⟨rfl, hb4⟩; have HB4 := Lib.hid (HB3.out.trans (hb4.mono HB3.out.size)); clear hb4))
    go_ret
    exact ⟨by simp, HB4.out⟩
set_option maxRecDepth 100000 in
set_option maxHeartbeats 4000000 in
theorem tops_law (s t : Int) (w : World) (hl : Z.length = len) (hm : len ≤ maxLen) (hr : Row encA 4 w ao Z) (hl2 : F.length = fl) (hm2 : fl ≤ maxLen) (hf : Lst encI w fo F) :
    Calls Try.prog 5 #[.agg #[.int .i64 n, .bool b, .slice ao len cap], .int .i64 s, .int .i64 t, .slice fo fl fc] w fun e w' => e = .returned (.bool true) ∧ Below w.heap.size w w' := by
  subst hl
  subst hl2
  have hb00 := (Below.refl _ w).alloc (Nat.le_refl _) (.cells #[.int .i64 n, .bool b, .slice ao Z.length cap] 24)
  have HB0 := Lib.hid hb00
  have HN0 := Lib.hid (heap_alloc_new w (.cells #[.int .i64 n, .bool b, .slice ao Z.length cap] 24))
  have HR0 := Lib.hid (hr.below' hb00)
  have HF0 := Lib.hid (hf.below hb00)
  have HM := Lib.hid hm
  have HM2 := Lib.hid hm2
  clear hr hm hb00 hf hm2
  obtain ⟨v0, hv⟩ : ∃ v0, valE n Z s t F = v0 := ⟨_, rfl⟩
  have HVE := Lib.hid hv
  by_cases h0 : v0 = 0
  · subst h0
    obtain ⟨N, i, j, rfl, rfl, rfl, hi, hj, hij, hst⟩ := st_of hv
    have HE := Lib.hid (valE_ok hv).1
    obtain ⟨k, hk⟩ : ∃ k, valK (N : Int) Z (i : Int) (j : Int) F = k := ⟨_, rfl⟩
    rw [hk] at hst
    have HK := Lib.hid hk
    have HST := Lib.hid hst
    have HAL := Lib.hid (arcs_lt (valE_ok hv).1)
    rw [Int.toNat_natCast] at HAL
    clear hv hk hst
    go_enter Try.func5, Try.ntmps5
    go_wp2_with (first
      | (go_at_call 12; refine (xawake_any _).mono ?_; rintro e w1 ⟨rfl, hb1⟩; have HB1 := Lib.hid (HB0.out.trans (hb1.mono HB0.out.size)); have HR1 := Lib.hid (HR0.out.below' hb1); have HF1 := Lib.hid (HF0.out.below hb1); have hn1 := kept_box HN0.out hb1; have HN1 := Lib.hid hn1; have x0 := cell_whole hn1 0; have x1 := cell_whole hn1 1; have x2 := cell_whole hn1 2; clear hb1 hn1)
      | (go_at_call 15; refine (rscheck_any (N : Int) b ao fo cap fc Z (i : Int) (j : Int) F _ HR1.out HF1.out HM.out HM2.out).mono ?_; rw [HVE.out, HK.out]; rintro e w2 ⟨rfl, hb2⟩; have HB2 := Lib.hid (HB1.out.trans (hb2.mono HB1.out.size)); have HR2 := Lib.hid (HR1.out.below' hb2); have hn2 := kept_box HN1.out hb2; have x0 := cell_whole hn2 0; have x1 := cell_whole hn2 1; have x2 := cell_whole hn2 2; clear hb2 hn2)
      | (go_at_call 10; refine (xmost_ok b ao cap Z N i j _ HR2.out HM.out HE.out).mono ?_; rintro e w3 ⟨m, rfl, hm3, hb3⟩; have hkm : k ≤ m := isMost_top HAL.out.1 hi hm3 HST.out; have hm0 : 0 ≤ m := isMost_nonneg HAL.out.1 HAL.out.2 hi hm3; have HB3 := Lib.hid (HB2.out.trans (hb3.mono HB2.out.size)); clear hb3 hm3))
    go_ret
    exact ⟨by simp, HB3.out⟩
  · have H0 := Lib.hid h0
    have hf1 : (v0 != 0) = true := by simpa using h0
    obtain ⟨k, hk⟩ : ∃ k, valK n Z s t F = k := ⟨_, rfl⟩
    have HK := Lib.hid hk
    clear h0 hv hk
    obtain ⟨e0, he⟩ : ∃ e0, endsE n Z s t = e0 := ⟨_, rfl⟩
    have HE := Lib.hid he
    by_cases h1 : e0 = 0
    · subst h1
      obtain ⟨hc, i, j, rfl, rfl, hi, hj, hij⟩ := endsE_ok he
      have hn := nodesE_ok (right_iff.1 hc : Right (n, b, Z)).1
      simp only at hn
      obtain ⟨N, rfl⟩ : ∃ N : Nat, n = (N : Int) := ⟨n.toNat, by omega⟩
      clear he hc
      go_enter Try.func5, Try.ntmps5
      go_wp2_with (first
        | (go_at_call 12; refine (xawake_any _).mono ?_; rintro e w1 ⟨rfl, hb1⟩; have HB1 := Lib.hid (HB0.out.trans (hb1.mono HB0.out.size)); have HR1 := Lib.hid (HR0.out.below' hb1); have HF1 := Lib.hid (HF0.out.below hb1); have hn1 := kept_box HN0.out hb1; have HN1 := Lib.hid hn1; have x0 := cell_whole hn1 0; have x1 := cell_whole hn1 1; have x2 := cell_whole hn1 2; clear hb1 hn1)
        | (go_at_call 15; refine (rscheck_any (N : Int) b ao fo cap fc Z (i : Int) (j : Int) F _ HR1.out HF1.out HM.out HM2.out).mono ?_; rw [HVE.out, HK.out]; rintro e w2 ⟨rfl, hb2⟩; have HB2 := Lib.hid (HB1.out.trans (hb2.mono HB1.out.size)); have HR2 := Lib.hid (HR1.out.below' hb2); have hn2 := kept_box HN1.out hb2; have x0 := cell_whole hn2 0; have x1 := cell_whole hn2 1; have x2 := cell_whole hn2 2; clear hb2 hn2)
        | (go_at_call 10; refine (xmost_ok b ao cap Z N i j _ HR2.out HM.out HE.out).mono ?_; rintro e w3 ⟨m, rfl, hm3, hb3⟩; have HB3 := Lib.hid (HB2.out.trans (hb3.mono HB2.out.size)); clear hb3 hm3))
      go_ret
      exact ⟨by simp, HB3.out⟩
    · have H1 := Lib.hid h1
      clear h1 he
      go_enter Try.func5, Try.ntmps5
      go_wp2_with (first
        | (go_at_call 12; refine (xawake_any _).mono ?_; rintro e w1 ⟨rfl, hb1⟩; have HB1 := Lib.hid (HB0.out.trans (hb1.mono HB0.out.size)); have HR1 := Lib.hid (HR0.out.below' hb1); have HF1 := Lib.hid (HF0.out.below hb1); have hn1 := kept_box HN0.out hb1; have HN1 := Lib.hid hn1; have x0 := cell_whole hn1 0; have x1 := cell_whole hn1 1; have x2 := cell_whole hn1 2; clear hb1 hn1)
        | (go_at_call 15; refine (rscheck_any n b ao fo cap fc Z s t F _ HR1.out HF1.out HM.out HM2.out).mono ?_; rw [HVE.out, HK.out]; rintro e w2 ⟨rfl, hb2⟩; have HB2 := Lib.hid (HB1.out.trans (hb2.mono HB1.out.size)); have HR2 := Lib.hid (HR1.out.below' hb2); have hn2 := kept_box HN1.out hb2; have x0 := cell_whole hn2 0; have x1 := cell_whole hn2 1; have x2 := cell_whole hn2 2; clear hb2 hn2)
        | (go_at_call 10; refine (xmost_no b ao cap Z n s t e0 _ HR2.out HM.out HE.out H1.out).mono ?_; rintro e w3 ⟨rfl, hb3⟩; have HB3 := Lib.hid (HB2.out.trans (hb3.mono HB2.out.size)); clear hb3))
      go_ret
      exact ⟨by simp, HB3.out⟩
end
end Go.Proofs.Ythmighfbldhifaa
