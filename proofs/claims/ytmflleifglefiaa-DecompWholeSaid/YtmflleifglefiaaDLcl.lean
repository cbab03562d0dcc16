/- DecompClean. -/
import Derived.Test.YtmflleifglefiaaDFac
namespace Go.Proofs.Ytmflleifglefiaa
open Go.RowKit
set_option linter.unusedVariables false

theorem rscheck_L (n : Int) (b : Bool) (ao fo : Option Addr) (cap fc fl : Nat) (Z : List ArcT) (s t : Int) (F : List Int) (w : World) (hfl : F.length = fl) (h : Row encA 4 w ao Z) (hf : Lst encI w fo F) (hz : Z.length ≤ maxLen) (hfm : fl ≤ maxLen) :
    Calls Try.prog 21 #[.agg #[.int .i64 n, .bool b, .slice ao Z.length cap], .int .i64 s, .int .i64 t, .slice fo fl fc] w fun e w' => e = .returned (.tuple #[.int .i64 (valK n Z s t F), .int .i64 (valE n Z s t F)]) ∧ Below w.heap.size w w' := by
  subst hfl
  exact rscheck_any n b ao fo cap fc Z s t F w h hf hz hfm
theorem rcost_L (n : Int) (b : Bool) (ao fo : Option Addr) (cap fc fl : Nat) (Z : List ArcT) (F : List Int) (w : World) (hfl : F.length = fl) (h : Row encA 4 w ao Z) (hf : Lst encI w fo F) (hz : Z.length ≤ maxLen) (hfm : fl ≤ maxLen) :
    Calls Try.prog 23 #[.agg #[.int .i64 n, .bool b, .slice ao Z.length cap], .slice fo fl fc] w fun e w' => e = .returned (.tuple #[.int .i64 (costV n Z F), .int .i64 (flowE n Z F)]) ∧ Below w.heap.size w w' := by
  subst hfl
  exact rcost_any n b ao fo cap fc Z F w h hf hz hfm
theorem chR_len {w : World} {ca : Option Addr} {X : List ChT} {P : List Part} (h : ChR w ca X P) : X.length = P.length := by have := congrArg List.length h.2.2; rwa [List.length_map, List.length_map] at this
section
variable (n : Int) (b : Bool) (ao : Option Addr) (len cap : Nat) (Z : List ArcT)
set_option maxRecDepth 100000 in
set_option maxHeartbeats 8000000 in
theorem clean_law (s t : Int) (fo : Option Addr) (fl fc : Nat) (F : List Int) (w : World) (hl : Z.length = len) (hm : len ≤ maxLen) (hr : Row encA 4 w ao Z) (hl3 : F.length = fl) (hm3 : fl ≤ maxLen) (hf : Lst encI w fo F) (hnil : fo = none → fc = 0) :
    Calls Try.prog 7 #[.agg #[.int .i64 n, .bool b, .slice ao len cap], .int .i64 s, .int .i64 t, .slice fo fl fc] w fun e w' => e = .returned (.bool true) ∧ Below w.heap.size w w' := by
  subst hl
  have hb00 := (Below.refl _ w).alloc (Nat.le_refl _) (.cells #[.int .i64 n, .bool b, .slice ao Z.length cap] 24)
  have HB := Lib.hid hb00
  have HN := Lib.hid (heap_alloc_new w (.cells #[.int .i64 n, .bool b, .slice ao Z.length cap] 24))
  have HR := Lib.hid (hr.below' hb00)
  have HF := Lib.hid (hf.below hb00)
  have HM := Lib.hid hm
  have HNIL := Lib.hid hnil
  have HFM := Lib.hid hm3
  have HFL := Lib.hid hl3
  have x0 := cell_whole HN.out 0
  have x1 := cell_whole HN.out 1
  have x2 := cell_whole HN.out 2
  clear hr hm hf hnil hm3 hl3 hb00
  obtain ⟨e0, he⟩ : ∃ e0, splitE n Z s t F = e0 := ⟨_, rfl⟩
  have HE := Lib.hid he
  by_cases h0 : e0 = 0
  · subst h0
    obtain ⟨v1, v2, v3, v4, v5, v6, v7⟩ := clean_is he
    have hCB := cleanE_bd n Z s t F
    obtain ⟨R, hR⟩ : ∃ R, cleanE n Z s t F = R := ⟨_, rfl⟩
    obtain ⟨kv, hk⟩ : ∃ kv, valK n Z s t F = kv := ⟨_, rfl⟩
    obtain ⟨cx, hx⟩ : ∃ cx, costV n Z F = cx := ⟨_, rfl⟩
    have HRR := Lib.hid hR
    rw [hR] at v2 v3 v4 v5 v6 v7 hCB
    rw [hk] at v3
    rw [hx] at v4
    obtain ⟨cy, hy⟩ : ∃ cy, costV n Z R = cy := ⟨_, rfl⟩
    rw [hy] at v4
    have hle : cy ≤ cx := v4
    have HV1 := Lib.hid v1
    have HV2 := Lib.hid v2
    have HV3 := Lib.hid v3
    have HV5 := Lib.hid v5
    have HV6 := Lib.hid v6
    have HV7 := Lib.hid v7
    have HKV := Lib.hid hk
    have HCX := Lib.hid hx
    have HCY := Lib.hid hy
    have HCB := Lib.hid hCB
    have HRM : Hid (R.length ≤ maxLen) := Lib.hid (by unfold maxLen; omega)
    have q1 : (kv == kv) = true := by simp
    clear he v1 v2 v3 v4 v5 v6 v7 hR hk hx hy hCB
    go_enter Try.func7, Try.ntmps7
    go_wp2_with (first
      | (go_at_call 13; refine (dawake_any _).mono ?_; rintro e wn ⟨rfl, hb⟩; have HR := Lib.hid (HR.out.below' hb); have HF := Lib.hid (HF.out.below hb); have hn := kept_box HN.out hb; have HN := Lib.hid hn; have x0 := cell_whole hn 0; have x1 := cell_whole hn 1; have x2 := cell_whole hn 2; clear hn; have HB := Lib.hid (HB.out.trans (hb.mono HB.out.size)); clear hb)
      | (go_at_call 11; refine (dclean_one n b ao fo cap fc Z.length fl Z F s t _ rfl HFL.out HR.out HF.out HM.out HFM.out).mono ?_; rw [HRR.out, HE.out]; rintro e wn ⟨c3, cc3, rfl, hc, hcn, hb⟩; have HR := Lib.hid (HR.out.below' hb); have HF := Lib.hid (HF.out.below hb); have hn := kept_box HN.out hb; have HN := Lib.hid hn; have x0 := cell_whole hn 0; have x1 := cell_whole hn 1; have x2 := cell_whole hn 2; clear hn; have HB := Lib.hid (HB.out.trans (hb.mono HB.out.size)); have HC1 := Lib.hid hc; clear hc hcn; clear hb))
    refine (rscheck_L n b ao fo cap fc fl Z s t F _ HFL.out HR.out HF.out HM.out HFM.out).mono ?_
    rw [HKV.out, HV1.out]
    rintro e wn ⟨rfl, hb⟩
    have HR := Lib.hid (HR.out.below' hb)
    have HF := Lib.hid (HF.out.below hb)
    have HC1 := Lib.hid (HC1.out.below hb)
    have hn := kept_box HN.out hb
    have HN := Lib.hid hn
    have x0 := cell_whole hn 0
    have x1 := cell_whole hn 1
    have x2 := cell_whole hn 2
    clear hn
    have HB := Lib.hid (HB.out.trans (hb.mono HB.out.size))
    clear hb
    go_wp2_with fail
    refine (rscheck_L n b ao c3 cap cc3 R.length Z s t R _ rfl HR.out HC1.out HM.out HRM.out).mono ?_
    rw [HV3.out, HV2.out]
    rintro e wn ⟨rfl, hb⟩
    have HR := Lib.hid (HR.out.below' hb)
    have HF := Lib.hid (HF.out.below hb)
    have HC1 := Lib.hid (HC1.out.below hb)
    have hn := kept_box HN.out hb
    have HN := Lib.hid hn
    have x0 := cell_whole hn 0
    have x1 := cell_whole hn 1
    have x2 := cell_whole hn 2
    clear hn
    have HB := Lib.hid (HB.out.trans (hb.mono HB.out.size))
    clear hb
    go_wp2_with fail
    refine (rcost_L n b ao fo cap fc fl Z F _ HFL.out HR.out HF.out HM.out HFM.out).mono ?_
    rw [HCX.out]
    rintro e wn ⟨rfl, hb⟩
    have HR := Lib.hid (HR.out.below' hb)
    have HF := Lib.hid (HF.out.below hb)
    have HC1 := Lib.hid (HC1.out.below hb)
    have hn := kept_box HN.out hb
    have HN := Lib.hid hn
    have x0 := cell_whole hn 0
    have x1 := cell_whole hn 1
    have x2 := cell_whole hn 2
    clear hn
    have HB := Lib.hid (HB.out.trans (hb.mono HB.out.size))
    clear hb
    go_wp2_with fail
    refine (rcost_L n b ao c3 cap cc3 R.length Z R _ rfl HR.out HC1.out HM.out HRM.out).mono ?_
    rw [HCY.out]
    rintro e wn ⟨rfl, hb⟩
    have HR := Lib.hid (HR.out.below' hb)
    have HF := Lib.hid (HF.out.below hb)
    have HC1 := Lib.hid (HC1.out.below hb)
    have hn := kept_box HN.out hb
    have HN := Lib.hid hn
    have x0 := cell_whole hn 0
    have x1 := cell_whole hn 1
    have x2 := cell_whole hn 2
    clear hn
    have HB := Lib.hid (HB.out.trans (hb.mono HB.out.size))
    clear hb
    go_wp2_with fail
    refine (dclean_one n b ao c3 cap cc3 Z.length R.length Z R s t _ rfl rfl HR.out HC1.out HM.out HRM.out).mono ?_
    rw [HV6.out, HV5.out]
    rintro e wn ⟨c5, cc5, rfl, hc, hcn, hb⟩
    have HR := Lib.hid (HR.out.below' hb)
    have HF := Lib.hid (HF.out.below hb)
    have HC1 := Lib.hid (HC1.out.below hb)
    have hn := kept_box HN.out hb
    have HN := Lib.hid hn
    have x0 := cell_whole hn 0
    have x1 := cell_whole hn 1
    have x2 := cell_whole hn 2
    clear hn
    have HB := Lib.hid (HB.out.trans (hb.mono HB.out.size))
    have HC2 := Lib.hid hc
    clear hc hcn
    clear hb
    go_wp2_with fail
    refine (dsplit_one n b ao c3 cap cc3 Z.length R.length Z R s t _ rfl rfl HR.out HC1.out HM.out HRM.out).mono ?_
    rw [HV5.out]
    rintro e wn ⟨c6, y6, cc6, yc6, X6, Y6, rfl, hx6, hy6, hb⟩
    have HR := Lib.hid (HR.out.below' hb)
    have HF := Lib.hid (HF.out.below hb)
    have HC1 := Lib.hid (HC1.out.below hb)
    have HC2 := Lib.hid (HC2.out.below hb)
    have hn := kept_box HN.out hb
    have HN := Lib.hid hn
    have x0 := cell_whole hn 0
    have x1 := cell_whole hn 1
    have x2 := cell_whole hn 2
    clear hn
    have HB := Lib.hid (HB.out.trans (hb.mono HB.out.size))
    have hY0 := chR_len hy6
    rw [HV7.out, List.length_nil] at hY0
    rw [hY0]
    clear hx6 hy6
    clear hb
    go_wp2_with (first
      | (go_at_call 15; refine (sameints_eq R c3 c5 cc3 cc5 _ HC1.out HC2.out (by have := HCB.out; omega)).mono ?_; rintro e wn ⟨rfl, hb⟩; have HR := Lib.hid (HR.out.below' hb); have HF := Lib.hid (HF.out.below hb); have HC1 := Lib.hid (HC1.out.below hb); have HC2 := Lib.hid (HC2.out.below hb); have hn := kept_box HN.out hb; have HN := Lib.hid hn; have x0 := cell_whole hn 0; have x1 := cell_whole hn 1; have x2 := cell_whole hn 2; clear hn; have HB := Lib.hid (HB.out.trans (hb.mono HB.out.size)); clear hb))
    go_ret
    exact ⟨by simp, HB.out⟩
  · have HRR : Hid (cleanE n Z s t F = []) := Lib.hid (by unfold cleanE; rw [if_neg (by rw [he]; exact h0)])
    have hf1 : (e0 != 0) = true := by simpa using h0
    have hf2 : (e0 == 0) = false := by simpa using h0
    clear h0 he
    go_enter Try.func7, Try.ntmps7
    go_wp2_with (first
      | (go_at_call 13; refine (dawake_any _).mono ?_; rintro e wn ⟨rfl, hb⟩; have HR := Lib.hid (HR.out.below' hb); have HF := Lib.hid (HF.out.below hb); have hn := kept_box HN.out hb; have HN := Lib.hid hn; have x0 := cell_whole hn 0; have x1 := cell_whole hn 1; have x2 := cell_whole hn 2; clear hn; have HB := Lib.hid (HB.out.trans (hb.mono HB.out.size)); clear hb)
      | (go_at_call 11; refine (dclean_one n b ao fo cap fc Z.length fl Z F s t _ rfl HFL.out HR.out HF.out HM.out HFM.out).mono ?_; rw [HRR.out, HE.out, List.length_nil]; rintro e wn ⟨c3, cc3, rfl, hc, hcn, hb⟩; have HR := Lib.hid (HR.out.below' hb); have HF := Lib.hid (HF.out.below hb); have hn := kept_box HN.out hb; have HN := Lib.hid hn; have x0 := cell_whole hn 0; have x1 := cell_whole hn 1; have x2 := cell_whole hn 2; clear hn; have HB := Lib.hid (HB.out.trans (hb.mono HB.out.size)); clear hc hcn; clear hb))
    go_ret
    exact ⟨by simp, HB.out⟩
end
end Go.Proofs.Ytmflleifglefiaa
