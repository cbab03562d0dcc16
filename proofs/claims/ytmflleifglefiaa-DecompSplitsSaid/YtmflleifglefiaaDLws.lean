/- DecompSplits. -/
import Derived.Test.YtmflleifglefiaaDOne
import Derived.Test.YtmflleifglefiaaDFew
namespace Go.Proofs.Ytmflleifglefiaa
open Go.RowKit
set_option linter.unusedVariables false

section
variable (n : Int) (b : Bool) (ao : Option Addr) (len cap : Nat) (Z : List ArcT)
set_option maxRecDepth 100000 in
set_option maxHeartbeats 8000000 in
theorem splits_law (s t : Int) (fo : Option Addr) (fl fc : Nat) (F : List Int) (w : World) (hl : Z.length = len) (hcap : len ≤ cap) (hm : len ≤ maxLen) (hr : Row encA 4 w ao Z) (hl3 : F.length = fl) (hm3 : fl ≤ maxLen) (hf : Lst encI w fo F) (hnil : fo = none → fc = 0) :
    Calls Try.prog 3 #[.agg #[.int .i64 n, .bool b, .slice ao len cap], .int .i64 s, .int .i64 t, .slice fo fl fc] w fun e w' => e = .returned (.bool true) ∧ Below w.heap.size w w' := by
  subst hl
  have HCP := Lib.hid hcap
  have HM := Lib.hid hm
  have HRZ := Lib.hid (row_alloc hr (.cells #[.int .i64 n, .bool b, .slice ao Z.length cap] 24))
  have HRW := Lib.hid (row_fewK 40 hr)
  have HMY := Lib.hid (Nat.le_trans (fewZK_le 40 Z) hm)
  have HB : Hid (Below w.heap.size w (w.alloc (.cells #[.int .i64 n, .bool b, .slice ao Z.length cap] 24))) := Lib.hid ((Below.refl _ w).alloc (Nat.le_refl _) _)
  have HN := Lib.hid (heap_alloc_new w (.cells #[.int .i64 n, .bool b, .slice ao Z.length cap] 24))
  have HF := Lib.hid hf
  have HNIL := Lib.hid hnil
  have HFM := Lib.hid hm3
  have HFL := Lib.hid hl3
  clear hr hm hcap hf hnil hm3 hl3
  obtain ⟨Y, hY⟩ : ∃ Y, fewZK 40 Z = Y := ⟨_, rfl⟩
  obtain ⟨m, hmn⟩ : ∃ m, fewNK 12 n = m := ⟨_, rfl⟩
  have HY := Lib.hid hY
  have HMN := Lib.hid hmn
  rw [hY] at HRW HMY
  clear hY hmn
  obtain ⟨hS1, hS2⟩ := split_short m Y s t F
  have hCB := cleanE_bd m Y s t F
  obtain ⟨P, hP⟩ : ∃ P, chainsE m Y s t F = P := ⟨_, rfl⟩
  obtain ⟨Q, hQ⟩ : ∃ Q, cycsE m Y s t F = Q := ⟨_, rfl⟩
  obtain ⟨R, hR⟩ : ∃ R, cleanE m Y s t F = R := ⟨_, rfl⟩
  obtain ⟨e0, he⟩ : ∃ e0, splitE m Y s t F = e0 := ⟨_, rfl⟩
  have HP := Lib.hid hP
  have HQ := Lib.hid hQ
  have HRR := Lib.hid hR
  have HE := Lib.hid he
  rw [hP] at hS1
  rw [hQ] at hS2
  rw [hR] at hCB
  have HS1 := Lib.hid hS1
  have HS2 := Lib.hid hS2
  have HCB := Lib.hid hCB
  clear hP hQ hR he hS1 hS2 hCB
  have x0 := cell_whole HN.out 0
  have x1 := cell_whole HN.out 1
  have x2 := cell_whole HN.out 2
  have q1 : (e0 == e0) = true := by simp
  go_enter Try.func3, Try.ntmps3
  go_wp2_with (first
    | (go_at_call 8; refine (fewK_any 12 40 40 rfl (by decide) n b ao cap Z _ HRZ.out HM.out HCP.out).mono ?_; rintro e w1 ⟨rfl, hb1⟩; rw [HY.out, HMN.out]; have hn1 := kept_box HN.out hb1; have x0 := cell_whole hn1 0; have x1 := cell_whole hn1 1; have x2 := cell_whole hn1 2; have fx1 := frozen_whole hn1 0; have fy1 := frozen_whole hn1 1; have fz1 := frozen_whole hn1 2; have hB1 := HB.out.trans (hb1.mono HB.out.size); obtain ⟨hn2, hB2⟩ := netSet hn1 hB1 (Nat.le_refl _) (.int .i64 m) (.bool b) (.slice ao Y.length cap); have HN := Lib.hid hn2; have HB := Lib.hid hB2; have HR := Lib.hid (HRW.out.below' hB2); have HF := Lib.hid (HF.out.below hB2); clear hb1 hn1 hB1 hn2 hB2)
    | (go_at_call 9; refine (dsplit_one m b ao fo cap fc Y.length fl Y F s t _ rfl HFL.out HR.out HF.out HMY.out HFM.out).mono ?_; rw [HP.out, HQ.out, HE.out]; rintro e wn ⟨c1, y1, cc1, yc1, X1, Y1, rfl, hx, hy, hb⟩; have HR := Lib.hid (HR.out.below' hb); have HF := Lib.hid (HF.out.below hb); have hn := kept_box HN.out hb; have HN := Lib.hid hn; have x0 := cell_whole hn 0; have x1 := cell_whole hn 1; have x2 := cell_whole hn 2; clear hn; have HB := Lib.hid (HB.out.trans (hb.mono HB.out.size)); have HX1 := Lib.hid hx; have HY1 := Lib.hid hy; clear hx hy fx1 fy1 fz1; clear hb)
    | (go_at_call 10; refine (rsplit13_one m b ao fo cap fc Y.length fl Y F s t _ rfl HFL.out HR.out HF.out HNIL.out HMY.out HFM.out).mono ?_; rw [HP.out, HQ.out, HE.out]; rintro e wn ⟨c2, y2, cc2, yc2, X2, Y2, rfl, hx, hy, hb⟩; have HR := Lib.hid (HR.out.below' hb); have HF := Lib.hid (HF.out.below hb); have HX1 := Lib.hid (HX1.out.below hb); have HY1 := Lib.hid (HY1.out.below hb); have HB := Lib.hid (HB.out.trans (hb.mono HB.out.size)); have ha := (Below.refl wn.heap.size wn).alloc (Nat.le_refl _) (.cells #[.slice c2 X2.length cc2, .slice y2 Y2.length yc2] 32); have HPB := Lib.hid (heap_alloc_new wn (.cells #[.slice c2 X2.length cc2, .slice y2 Y2.length yc2] 32)); have hn := kept_box (kept_box HN.out hb) ha; have HN := Lib.hid hn; have x0 := cell_whole hn 0; have x1 := cell_whole hn 1; have x2 := cell_whole hn 2; have HR := Lib.hid (HR.out.below' ha); have HF := Lib.hid (HF.out.below ha); have HX1 := Lib.hid (HX1.out.below ha); have HY1 := Lib.hid (HY1.out.below ha); have HX2 := Lib.hid (hx.below ha); have HY2 := Lib.hid (hy.below ha); have HB := Lib.hid (HB.out.trans (ha.mono HB.out.size)); clear hx hy ha hn; clear hb)
    | (go_at_call 11; refine (dclean_one m b ao fo cap fc Y.length fl Y F s t _ rfl HFL.out HR.out HF.out HMY.out HFM.out).mono ?_; rw [HRR.out, HE.out]; rintro e wn ⟨c3, cc3, rfl, hc, hcn, hb⟩; have HR := Lib.hid (HR.out.below' hb); have HF := Lib.hid (HF.out.below hb); have HX1 := Lib.hid (HX1.out.below hb); have HY1 := Lib.hid (HY1.out.below hb); have HX2 := Lib.hid (HX2.out.below hb); have HY2 := Lib.hid (HY2.out.below hb); have hn := kept_box HN.out hb; have HN := Lib.hid hn; have x0 := cell_whole hn 0; have x1 := cell_whole hn 1; have x2 := cell_whole hn 2; clear hn; have hn := kept_box HPB.out hb; have HPB := Lib.hid hn; have p0 := cell_whole hn 0; have p1 := cell_whole hn 1; clear hn; have HB := Lib.hid (HB.out.trans (hb.mono HB.out.size)); have HC1 := Lib.hid hc; clear hc hcn; clear hb)
    | (go_at_call 12; refine (rclean13_one m b ao fo cap fc Y.length fl Y F s t _ rfl HFL.out HR.out HF.out HNIL.out HMY.out HFM.out).mono ?_; rw [HRR.out, HE.out]; rintro e wn ⟨c4, cc4, rfl, hc, hcn, hb⟩; have HR := Lib.hid (HR.out.below' hb); have HF := Lib.hid (HF.out.below hb); have HX1 := Lib.hid (HX1.out.below hb); have HY1 := Lib.hid (HY1.out.below hb); have HX2 := Lib.hid (HX2.out.below hb); have HY2 := Lib.hid (HY2.out.below hb); have HC1 := Lib.hid (HC1.out.below hb); have hn := kept_box HN.out hb; have HN := Lib.hid hn; have x0 := cell_whole hn 0; have x1 := cell_whole hn 1; have x2 := cell_whole hn 2; clear hn; have hn := kept_box HPB.out hb; have HPB := Lib.hid hn; have p0 := cell_whole hn 0; have p1 := cell_whole hn 1; clear hn; have HB := Lib.hid (HB.out.trans (hb.mono HB.out.size)); have HC2 := Lib.hid hc; clear hc hcn; clear hb)
    | (go_at_call 13; refine (dawake_any _).mono ?_; rintro e wn ⟨rfl, hb⟩; have HR := Lib.hid (HR.out.below' hb); have HF := Lib.hid (HF.out.below hb); have HX1 := Lib.hid (HX1.out.below hb); have HY1 := Lib.hid (HY1.out.below hb); have HX2 := Lib.hid (HX2.out.below hb); have HY2 := Lib.hid (HY2.out.below hb); have HC1 := Lib.hid (HC1.out.below hb); have HC2 := Lib.hid (HC2.out.below hb); have hn := kept_box HN.out hb; have HN := Lib.hid hn; have x0 := cell_whole hn 0; have x1 := cell_whole hn 1; have x2 := cell_whole hn 2; clear hn; have hn := kept_box HPB.out hb; have HPB := Lib.hid hn; have p0 := cell_whole hn 0; have p1 := cell_whole hn 1; clear hn; have HB := Lib.hid (HB.out.trans (hb.mono HB.out.size)); clear hb))
  refine (rsame_parts X1 X2 X1.length X2.length c1 c2 cc1 cc2 P _ rfl rfl HX1.out HX2.out HS1.out).mono ?_
  rintro e wn ⟨rfl, hb⟩
  have HR := Lib.hid (HR.out.below' hb)
  have HF := Lib.hid (HF.out.below hb)
  have HX1 := Lib.hid (HX1.out.below hb)
  have HY1 := Lib.hid (HY1.out.below hb)
  have HX2 := Lib.hid (HX2.out.below hb)
  have HY2 := Lib.hid (HY2.out.below hb)
  have HC1 := Lib.hid (HC1.out.below hb)
  have HC2 := Lib.hid (HC2.out.below hb)
  have hn := kept_box HN.out hb
  have HN := Lib.hid hn
  have x0 := cell_whole hn 0
  have x1 := cell_whole hn 1
  have x2 := cell_whole hn 2
  clear hn
  have hn := kept_box HPB.out hb
  have HPB := Lib.hid hn
  have p0 := cell_whole hn 0
  have p1 := cell_whole hn 1
  clear hn
  have HB := Lib.hid (HB.out.trans (hb.mono HB.out.size))
  clear hb
  go_wp2_with fail
  refine (rsame_parts Y1 Y2 Y1.length Y2.length y1 y2 yc1 yc2 Q _ rfl rfl HY1.out HY2.out HS2.out).mono ?_
  rintro e wn ⟨rfl, hb⟩
  have HR := Lib.hid (HR.out.below' hb)
  have HF := Lib.hid (HF.out.below hb)
  have HX1 := Lib.hid (HX1.out.below hb)
  have HY1 := Lib.hid (HY1.out.below hb)
  have HX2 := Lib.hid (HX2.out.below hb)
  have HY2 := Lib.hid (HY2.out.below hb)
  have HC1 := Lib.hid (HC1.out.below hb)
  have HC2 := Lib.hid (HC2.out.below hb)
  have hn := kept_box HN.out hb
  have HN := Lib.hid hn
  have x0 := cell_whole hn 0
  have x1 := cell_whole hn 1
  have x2 := cell_whole hn 2
  clear hn
  have hn := kept_box HPB.out hb
  have HPB := Lib.hid hn
  have p0 := cell_whole hn 0
  have p1 := cell_whole hn 1
  clear hn
  have HB := Lib.hid (HB.out.trans (hb.mono HB.out.size))
  clear hb
  go_wp2_with (first
    | (go_at_call 15; refine (sameints_eq R c3 c4 cc3 cc4 _ HC1.out HC2.out (by have := HCB.out; omega)).mono ?_; rintro e wn ⟨rfl, hb⟩; have HR := Lib.hid (HR.out.below' hb); have HF := Lib.hid (HF.out.below hb); have HX1 := Lib.hid (HX1.out.below hb); have HY1 := Lib.hid (HY1.out.below hb); have HX2 := Lib.hid (HX2.out.below hb); have HY2 := Lib.hid (HY2.out.below hb); have HC1 := Lib.hid (HC1.out.below hb); have HC2 := Lib.hid (HC2.out.below hb); have hn := kept_box HN.out hb; have HN := Lib.hid hn; have x0 := cell_whole hn 0; have x1 := cell_whole hn 1; have x2 := cell_whole hn 2; clear hn; have hn := kept_box HPB.out hb; have HPB := Lib.hid hn; have p0 := cell_whole hn 0; have p1 := cell_whole hn 1; clear hn; have HB := Lib.hid (HB.out.trans (hb.mono HB.out.size)); clear hb))
  go_ret
  exact ⟨by simp, HB.out⟩
end
end Go.Proofs.Ytmflleifglefiaa
