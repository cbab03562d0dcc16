/- CostFars, CostTights, CostFree, CostEmpty, CostCheapest. -/
import Derived.Test.YtfklkcnopngpgaaOFac
import Derived.Deep.RegionHeld3
namespace Go.Proofs.Ytfklkcnopngpgaa
open Go.RowKit
set_option linter.unusedVariables false

theorem madeL (w : World) (B M : Nat) (hB : B ≤ w.heap.size) (hM : M ≤ 4611686018427387904) : OwnL encI (w.alloc (.cells (madeCells #[.int .i64 0] M) 3)) B 3 (.slice (some ⟨w.heap.size, 0, none⟩) M M) (List.replicate M 0) := by
  refine ⟨by simp, .inr ⟨w.heap.size, M, _, by rw [List.length_replicate], hB, heap_alloc_new _ _, by simp, by unfold maxLen; omega, by simp [madeCells], ?_⟩⟩
  have h := made_one (.int .i64 0) rfl M
  rw [Nat.mul_one] at h
  rw [show (madeCells #[Value.int .i64 0] M) = madeCells (Value.int .i64 0).cells M from rfl, h]
  simp [encI]
theorem ofree_L (n : Int) (b : Bool) (ao fo : Option Addr) (cap fc fl : Nat) (Z : List ArcT) (F : List Int) (hL : F.length = fl) (w : World) (h : Row encA 4 w ao Z) (hf : Lst encI w fo F) (hz : Z.length ≤ maxLen) (hfl : fl ≤ maxLen) :
    Calls Try.prog 16 #[.agg #[.int .i64 n, .bool b, .slice ao Z.length cap], .slice fo fl fc] w fun e w' => e = .returned (.tuple #[.bool (freeB n Z F), .int .i64 (flowE n Z F)]) ∧ Below w.heap.size w w' := by
  subst hL; exact ofree_any n b ao fo cap fc Z F w h hf hz hfl
section
variable (n : Int) (b : Bool) (ao : Option Addr) (len cap : Nat) (Z : List ArcT)
set_option maxRecDepth 100000 in
set_option maxHeartbeats 4000000 in
theorem fars_law (fo : Option Addr) (fl fc : Nat) (F : List Int) (s : Int) (w : World) (hl : Z.length = len) (hm : len ≤ maxLen) (hr : Row encA 4 w ao Z) (hl1 : F.length = fl) (hm1 : fl ≤ maxLen) (hf : Lst encI w fo F) :
    Calls Try.prog 3 #[.agg #[.int .i64 n, .bool b, .slice ao len cap], .slice fo fl fc, .int .i64 s] w fun e w' => e = .returned (.bool true) ∧ Below w.heap.size w w' := by
  subst hl
  subst hl1
  have hb00 := (Below.refl _ w).alloc (Nat.le_refl _) (.cells #[.int .i64 n, .bool b, .slice ao Z.length cap] 24)
  have HB := Lib.hid hb00
  have HN := Lib.hid (heap_alloc_new w (.cells #[.int .i64 n, .bool b, .slice ao Z.length cap] 24))
  have HR := Lib.hid (hr.below' hb00)
  have HM := Lib.hid hm
  have x0 := cell_whole HN.out 0
  have x1 := cell_whole HN.out 1
  have x2 := cell_whole HN.out 2
  have HF := Lib.hid (hf.below hb00)
  have HMF := Lib.hid hm1
  clear hr hm hb00 hf hm1
  have hdl := farO_few (n := n) (Z := Z) (F := F) (s := s)
  obtain ⟨e0, he⟩ : ∃ e0, farE n Z F s = e0 := ⟨_, rfl⟩
  obtain ⟨D, hd⟩ : ∃ D, farO n Z F s = D := ⟨_, rfl⟩
  have HE := Lib.hid he
  have HD := Lib.hid hd
  rw [hd] at hdl
  have HV := Lib.hid (valsO_len D)
  have HI := Lib.hid (isO_len D)
  obtain ⟨dl, hdl2⟩ : ∃ dl, D.length = dl := ⟨_, rfl⟩
  have HDL := Lib.hid hdl2
  rw [hdl2] at hdl HV HI
  clear he hd hdl2
  go_enter Try.func3, Try.ntmps3
  go_wp2_with (first
    | (go_at_call 9; refine (ofar_any n b ao fo cap fc Z F s _ HR.out HF.out HM.out HMF.out).mono ?_; rintro e wn ⟨a1, q1, a2, q2, rfl, h1, h2, hb⟩; rw [HE.out, HD.out, HDL.out]; rw [HD.out] at h1 h2; have HR := Lib.hid (HR.out.below' hb); have hn := kept_box HN.out hb; have HN := Lib.hid hn; have x0 := cell_whole hn 0; have x1 := cell_whole hn 1; have x2 := cell_whole hn 2; have HF := Lib.hid (HF.out.below hb); have HB := Lib.hid (HB.out.trans (hb.mono HB.out.size)); have H1 := Lib.hid h1; have H2 := Lib.hid h2; clear h1 h2; clear hb hn)
    | (go_at_call 10; refine (rfar_any n b ao fo cap fc Z F s _ HR.out HF.out HM.out HMF.out).mono ?_; rintro e wn ⟨a3, q3, a4, q4, rfl, h1, h2, hb⟩; rw [HE.out, HD.out, HDL.out]; rw [HD.out] at h1 h2; have HR := Lib.hid (HR.out.below' hb); have hn := kept_box HN.out hb; have HN := Lib.hid hn; have x0 := cell_whole hn 0; have x1 := cell_whole hn 1; have x2 := cell_whole hn 2; have HF := Lib.hid (HF.out.below hb); have H1 := Lib.hid (H1.out.below hb); have H2 := Lib.hid (H2.out.below hb); have HB := Lib.hid (HB.out.trans (hb.mono HB.out.size)); have H3 := Lib.hid h1; have H4 := Lib.hid h2; clear h1 h2; clear hb hn)
    | (go_at_call 11; refine (oawake_any _).mono ?_; rintro e wn ⟨rfl, hb⟩; have HR := Lib.hid (HR.out.below' hb); have hn := kept_box HN.out hb; have HN := Lib.hid hn; have x0 := cell_whole hn 0; have x1 := cell_whole hn 1; have x2 := cell_whole hn 2; have H1 := Lib.hid (H1.out.below hb); have H2 := Lib.hid (H2.out.below hb); have H3 := Lib.hid (H3.out.below hb); have H4 := Lib.hid (H4.out.below hb); have HB := Lib.hid (HB.out.trans (hb.mono HB.out.size)); clear hb hn)
    | (go_at_call 12; refine (sameints_eqL dl (valsO D) HV.out a1 a3 q1 q3 _ H1.out H3.out (by omega)).mono ?_; rintro e wn ⟨rfl, hb⟩; have HR := Lib.hid (HR.out.below' hb); have hn := kept_box HN.out hb; have HN := Lib.hid hn; have x0 := cell_whole hn 0; have x1 := cell_whole hn 1; have x2 := cell_whole hn 2; have H2 := Lib.hid (H2.out.below hb); have H4 := Lib.hid (H4.out.below hb); have HB := Lib.hid (HB.out.trans (hb.mono HB.out.size)); clear hb hn)
    | (go_at_call 13; refine (rsameb_eqL dl (isO D) HI.out a2 a4 q2 q4 _ H2.out H4.out (by unfold maxLen; omega)).mono ?_; rintro e wn ⟨rfl, hb⟩; have HR := Lib.hid (HR.out.below' hb); have hn := kept_box HN.out hb; have HN := Lib.hid hn; have x0 := cell_whole hn 0; have x1 := cell_whole hn 1; have x2 := cell_whole hn 2; have HB := Lib.hid (HB.out.trans (hb.mono HB.out.size)); clear hb hn))
  go_ret
  exact ⟨by simp, HB.out⟩
set_option maxRecDepth 100000 in
set_option maxHeartbeats 4000000 in
theorem tights_law (fo po : Option Addr) (fl fc pl pc : Nat) (F P : List Int) (w : World) (hl : Z.length = len) (hm : len ≤ maxLen) (hr : Row encA 4 w ao Z) (hl1 : F.length = fl) (hm1 : fl ≤ maxLen) (hf : Lst encI w fo F) (hl2 : P.length = pl) (hm2 : pl ≤ maxLen) (hp : Lst encI w po P) :
    Calls Try.prog 4 #[.agg #[.int .i64 n, .bool b, .slice ao len cap], .slice fo fl fc, .slice po pl pc] w fun e w' => e = .returned (.bool true) ∧ Below w.heap.size w w' := by
  subst hl
  subst hl1
  subst hl2
  have hb00 := (Below.refl _ w).alloc (Nat.le_refl _) (.cells #[.int .i64 n, .bool b, .slice ao Z.length cap] 24)
  have HB := Lib.hid hb00
  have HN := Lib.hid (heap_alloc_new w (.cells #[.int .i64 n, .bool b, .slice ao Z.length cap] 24))
  have HR := Lib.hid (hr.below' hb00)
  have HM := Lib.hid hm
  have x0 := cell_whole HN.out 0
  have x1 := cell_whole HN.out 1
  have x2 := cell_whole HN.out 2
  have HF := Lib.hid (hf.below hb00)
  have HMF := Lib.hid hm1
  have HP := Lib.hid (hp.below hb00)
  have HMP := Lib.hid hm2
  clear hr hm hb00 hf hm1 hp hm2
  obtain ⟨te, hte⟩ : ∃ te, tightE n Z F P = te := ⟨_, rfl⟩
  obtain ⟨tb, htb⟩ : ∃ tb, tightB n Z F P = tb := ⟨_, rfl⟩
  obtain ⟨fe, hfe⟩ : ∃ fe, flowE n Z F = fe := ⟨_, rfl⟩
  obtain ⟨fb, hfb⟩ : ∃ fb, freeB n Z F = fb := ⟨_, rfl⟩
  have HTE := Lib.hid hte
  have HTB := Lib.hid htb
  have HFE := Lib.hid hfe
  have HFB := Lib.hid hfb
  clear hte htb hfe hfb
  by_cases h15 : n > 15
  · have hd15 : decide (n > 15) = true := decide_eq_true h15
    go_enter Try.func4, Try.ntmps4
    go_wp2_with (first
      | (go_at_call 14; refine (otight_any n b ao fo cap fc Z F po pc P _ HR.out HF.out HP.out HM.out HMF.out HMP.out).mono ?_; rw [HTB.out, HTE.out]; rintro e wn ⟨rfl, hb⟩; have HR := Lib.hid (HR.out.below' hb); have hn := kept_box HN.out hb; have HN := Lib.hid hn; have x0 := cell_whole hn 0; have x1 := cell_whole hn 1; have x2 := cell_whole hn 2; have HF := Lib.hid (HF.out.below hb); have HP := Lib.hid (HP.out.below hb); have HB := Lib.hid (HB.out.trans (hb.mono HB.out.size)); clear hb hn)
      | (go_at_call 15; refine (rtight_any n b ao fo po cap fc pc Z F P _ HR.out HF.out HP.out HM.out HMF.out HMP.out).mono ?_; rw [HTB.out, HTE.out]; rintro e wn ⟨rfl, hb⟩; have HR := Lib.hid (HR.out.below' hb); have hn := kept_box HN.out hb; have HN := Lib.hid hn; have x0 := cell_whole hn 0; have x1 := cell_whole hn 1; have x2 := cell_whole hn 2; have HF := Lib.hid (HF.out.below hb); have HP := Lib.hid (HP.out.below hb); have HB := Lib.hid (HB.out.trans (hb.mono HB.out.size)); clear hb hn)
      | (go_at_call 11; refine (oawake_any _).mono ?_; rintro e wn ⟨rfl, hb⟩; have HR := Lib.hid (HR.out.below' hb); have hn := kept_box HN.out hb; have HN := Lib.hid hn; have x0 := cell_whole hn 0; have x1 := cell_whole hn 1; have x2 := cell_whole hn 2; have HB := Lib.hid (HB.out.trans (hb.mono HB.out.size)); clear hb hn))
    go_ret
    exact ⟨by simp, HB.out⟩
  · have hd15 : decide (n > 15) = false := decide_eq_false h15
    go_enter Try.func4, Try.ntmps4
    go_wp2_with (first
      | (go_at_call 14; refine (otight_any n b ao fo cap fc Z F po pc P _ HR.out HF.out HP.out HM.out HMF.out HMP.out).mono ?_; rw [HTB.out, HTE.out]; rintro e wn ⟨rfl, hb⟩; have HR := Lib.hid (HR.out.below' hb); have hn := kept_box HN.out hb; have HN := Lib.hid hn; have x0 := cell_whole hn 0; have x1 := cell_whole hn 1; have x2 := cell_whole hn 2; have HF := Lib.hid (HF.out.below hb); have HP := Lib.hid (HP.out.below hb); have HB := Lib.hid (HB.out.trans (hb.mono HB.out.size)); clear hb hn)
      | (go_at_call 15; refine (rtight_any n b ao fo po cap fc pc Z F P _ HR.out HF.out HP.out HM.out HMF.out HMP.out).mono ?_; rw [HTB.out, HTE.out]; rintro e wn ⟨rfl, hb⟩; have HR := Lib.hid (HR.out.below' hb); have hn := kept_box HN.out hb; have HN := Lib.hid hn; have x0 := cell_whole hn 0; have x1 := cell_whole hn 1; have x2 := cell_whole hn 2; have HF := Lib.hid (HF.out.below hb); have HP := Lib.hid (HP.out.below hb); have HB := Lib.hid (HB.out.trans (hb.mono HB.out.size)); clear hb hn)
      | (go_at_call 16; refine (ofree_any n b ao fo cap fc Z F _ HR.out HF.out HM.out HMF.out).mono ?_; rw [HFB.out, HFE.out]; rintro e wn ⟨rfl, hb⟩; have HR := Lib.hid (HR.out.below' hb); have hn := kept_box HN.out hb; have HN := Lib.hid hn; have x0 := cell_whole hn 0; have x1 := cell_whole hn 1; have x2 := cell_whole hn 2; have HF := Lib.hid (HF.out.below hb); have HB := Lib.hid (HB.out.trans (hb.mono HB.out.size)); clear hb hn)
      | (go_at_call 17; refine (rfree_any n b ao fo cap fc Z F _ HR.out HF.out HM.out HMF.out).mono ?_; rw [HFB.out, HFE.out]; rintro e wn ⟨rfl, hb⟩; have HR := Lib.hid (HR.out.below' hb); have hn := kept_box HN.out hb; have HN := Lib.hid hn; have x0 := cell_whole hn 0; have x1 := cell_whole hn 1; have x2 := cell_whole hn 2; have HF := Lib.hid (HF.out.below hb); have HB := Lib.hid (HB.out.trans (hb.mono HB.out.size)); clear hb hn)
      | (go_at_call 11; refine (oawake_any _).mono ?_; rintro e wn ⟨rfl, hb⟩; have HR := Lib.hid (HR.out.below' hb); have hn := kept_box HN.out hb; have HN := Lib.hid hn; have x0 := cell_whole hn 0; have x1 := cell_whole hn 1; have x2 := cell_whole hn 2; have HB := Lib.hid (HB.out.trans (hb.mono HB.out.size)); clear hb hn))
    go_ret
    exact ⟨by simp, HB.out⟩
set_option maxRecDepth 100000 in
set_option maxHeartbeats 4000000 in
theorem free_law (fo po : Option Addr) (fl fc pl pc : Nat) (F P : List Int) (w : World) (hl : Z.length = len) (hm : len ≤ maxLen) (hr : Row encA 4 w ao Z) (hl1 : F.length = fl) (hm1 : fl ≤ maxLen) (hf : Lst encI w fo F) (hl2 : P.length = pl) (hm2 : pl ≤ maxLen) (hp : Lst encI w po P) :
    Calls Try.prog 5 #[.agg #[.int .i64 n, .bool b, .slice ao len cap], .slice fo fl fc, .slice po pl pc] w fun e w' => e = .returned (.bool true) ∧ Below w.heap.size w w' := by
  subst hl
  subst hl1
  subst hl2
  have hb00 := (Below.refl _ w).alloc (Nat.le_refl _) (.cells #[.int .i64 n, .bool b, .slice ao Z.length cap] 24)
  have HB := Lib.hid hb00
  have HN := Lib.hid (heap_alloc_new w (.cells #[.int .i64 n, .bool b, .slice ao Z.length cap] 24))
  have HR := Lib.hid (hr.below' hb00)
  have HM := Lib.hid hm
  have x0 := cell_whole HN.out 0
  have x1 := cell_whole HN.out 1
  have x2 := cell_whole HN.out 2
  have HF := Lib.hid (hf.below hb00)
  have HMF := Lib.hid hm1
  have HP := Lib.hid (hp.below hb00)
  have HMP := Lib.hid hm2
  clear hr hm hb00 hf hm1 hp hm2
  obtain ⟨te, hte⟩ : ∃ te, tightE n Z F P = te := ⟨_, rfl⟩
  obtain ⟨tb, htb⟩ : ∃ tb, tightB n Z F P = tb := ⟨_, rfl⟩
  obtain ⟨fe, hfe⟩ : ∃ fe, flowE n Z F = fe := ⟨_, rfl⟩
  obtain ⟨fb, hfb⟩ : ∃ fb, freeB n Z F = fb := ⟨_, rfl⟩
  have HTE := Lib.hid hte
  have HTB := Lib.hid htb
  have HFE := Lib.hid hfe
  have HFB := Lib.hid hfb
  by_cases h0 : te = 0
  · subst h0
    have hfl := (tightE_ok hte).1
    rw [hfe] at hfl
    subst hfl
    have hft : tb = true → fb = true := fun e => by
      have := (tight_free hte (htb.trans e)).2
      rwa [hfb] at this
    clear hte htb hfe hfb
    cases tb
    · cases fb
      all_goals
        go_enter Try.func5, Try.ntmps5
        go_wp2_with (first
          | (go_at_call 11; refine (oawake_any _).mono ?_; rintro e wn ⟨rfl, hb⟩; have HR := Lib.hid (HR.out.below' hb); have hn := kept_box HN.out hb; have HN := Lib.hid hn; have x0 := cell_whole hn 0; have x1 := cell_whole hn 1; have x2 := cell_whole hn 2; have HF := Lib.hid (HF.out.below hb); have HP := Lib.hid (HP.out.below hb); have HB := Lib.hid (HB.out.trans (hb.mono HB.out.size)); clear hb hn)
          | (go_at_call 14; refine (otight_any n b ao fo cap fc Z F po pc P _ HR.out HF.out HP.out HM.out HMF.out HMP.out).mono ?_; rw [HTB.out, HTE.out]; rintro e wn ⟨rfl, hb⟩; have HR := Lib.hid (HR.out.below' hb); have hn := kept_box HN.out hb; have HN := Lib.hid hn; have x0 := cell_whole hn 0; have x1 := cell_whole hn 1; have x2 := cell_whole hn 2; have HF := Lib.hid (HF.out.below hb); have HP := Lib.hid (HP.out.below hb); have HB := Lib.hid (HB.out.trans (hb.mono HB.out.size)); clear hb hn)
          | (go_at_call 16; refine (ofree_any n b ao fo cap fc Z F _ HR.out HF.out HM.out HMF.out).mono ?_; rw [HFB.out, HFE.out]; rintro e wn ⟨rfl, hb⟩; have HR := Lib.hid (HR.out.below' hb); have hn := kept_box HN.out hb; have HN := Lib.hid hn; have x0 := cell_whole hn 0; have x1 := cell_whole hn 1; have x2 := cell_whole hn 2; have HF := Lib.hid (HF.out.below hb); have HP := Lib.hid (HP.out.below hb); have HB := Lib.hid (HB.out.trans (hb.mono HB.out.size)); clear hb hn))
        go_ret
        exact ⟨by simp, HB.out⟩
    · have hf1 := hft rfl
      subst hf1
      go_enter Try.func5, Try.ntmps5
      go_wp2_with (first
        | (go_at_call 11; refine (oawake_any _).mono ?_; rintro e wn ⟨rfl, hb⟩; have HR := Lib.hid (HR.out.below' hb); have hn := kept_box HN.out hb; have HN := Lib.hid hn; have x0 := cell_whole hn 0; have x1 := cell_whole hn 1; have x2 := cell_whole hn 2; have HF := Lib.hid (HF.out.below hb); have HP := Lib.hid (HP.out.below hb); have HB := Lib.hid (HB.out.trans (hb.mono HB.out.size)); clear hb hn)
        | (go_at_call 14; refine (otight_any n b ao fo cap fc Z F po pc P _ HR.out HF.out HP.out HM.out HMF.out HMP.out).mono ?_; rw [HTB.out, HTE.out]; rintro e wn ⟨rfl, hb⟩; have HR := Lib.hid (HR.out.below' hb); have hn := kept_box HN.out hb; have HN := Lib.hid hn; have x0 := cell_whole hn 0; have x1 := cell_whole hn 1; have x2 := cell_whole hn 2; have HF := Lib.hid (HF.out.below hb); have HP := Lib.hid (HP.out.below hb); have HB := Lib.hid (HB.out.trans (hb.mono HB.out.size)); clear hb hn)
        | (go_at_call 16; refine (ofree_any n b ao fo cap fc Z F _ HR.out HF.out HM.out HMF.out).mono ?_; rw [HFB.out, HFE.out]; rintro e wn ⟨rfl, hb⟩; have HR := Lib.hid (HR.out.below' hb); have hn := kept_box HN.out hb; have HN := Lib.hid hn; have x0 := cell_whole hn 0; have x1 := cell_whole hn 1; have x2 := cell_whole hn 2; have HF := Lib.hid (HF.out.below hb); have HP := Lib.hid (HP.out.below hb); have HB := Lib.hid (HB.out.trans (hb.mono HB.out.size)); clear hb hn))
      go_ret
      exact ⟨by simp, HB.out⟩
  · have hf1 : (te != 0) = true := by simpa using h0
    have hf2 : (te == 0) = false := by simpa using h0
    clear hte htb hfe hfb h0
    go_enter Try.func5, Try.ntmps5
    go_wp2_with (first
      | (go_at_call 11; refine (oawake_any _).mono ?_; rintro e wn ⟨rfl, hb⟩; have HR := Lib.hid (HR.out.below' hb); have hn := kept_box HN.out hb; have HN := Lib.hid hn; have x0 := cell_whole hn 0; have x1 := cell_whole hn 1; have x2 := cell_whole hn 2; have HF := Lib.hid (HF.out.below hb); have HP := Lib.hid (HP.out.below hb); have HB := Lib.hid (HB.out.trans (hb.mono HB.out.size)); clear hb hn)
      | (go_at_call 14; refine (otight_any n b ao fo cap fc Z F po pc P _ HR.out HF.out HP.out HM.out HMF.out HMP.out).mono ?_; rw [HTB.out, HTE.out]; rintro e wn ⟨rfl, hb⟩; have HR := Lib.hid (HR.out.below' hb); have hn := kept_box HN.out hb; have HN := Lib.hid hn; have x0 := cell_whole hn 0; have x1 := cell_whole hn 1; have x2 := cell_whole hn 2; have HF := Lib.hid (HF.out.below hb); have HP := Lib.hid (HP.out.below hb); have HB := Lib.hid (HB.out.trans (hb.mono HB.out.size)); clear hb hn)
      | (go_at_call 16; refine (ofree_any n b ao fo cap fc Z F _ HR.out HF.out HM.out HMF.out).mono ?_; rw [HFB.out, HFE.out]; rintro e wn ⟨rfl, hb⟩; have HR := Lib.hid (HR.out.below' hb); have hn := kept_box HN.out hb; have HN := Lib.hid hn; have x0 := cell_whole hn 0; have x1 := cell_whole hn 1; have x2 := cell_whole hn 2; have HF := Lib.hid (HF.out.below hb); have HP := Lib.hid (HP.out.below hb); have HB := Lib.hid (HB.out.trans (hb.mono HB.out.size)); clear hb hn))
    go_ret
    exact ⟨by simp, HB.out⟩
set_option maxRecDepth 100000 in
set_option maxHeartbeats 4000000 in
theorem empty_law (w : World) (hl : Z.length = len) (hm : len ≤ maxLen) (hr : Row encA 4 w ao Z) (hw : len * 32 ≤ 140737488351232) :
    Calls Try.prog 7 #[.agg #[.int .i64 n, .bool b, .slice ao len cap]] w fun e w' => e = .returned (.bool true) ∧ Below w.heap.size w w' := by
  subst hl
  have hb00 := (Below.refl _ w).alloc (Nat.le_refl _) (.cells #[.int .i64 n, .bool b, .slice ao Z.length cap] 24)
  have HB := Lib.hid hb00
  have HN := Lib.hid (heap_alloc_new w (.cells #[.int .i64 n, .bool b, .slice ao Z.length cap] 24))
  have HR := Lib.hid (hr.below' hb00)
  have HM := Lib.hid hm
  have x0 := cell_whole HN.out 0
  have x1 := cell_whole HN.out 1
  have x2 := cell_whole HN.out 2
  clear hr hm hb00 
  obtain ⟨fe, hfe⟩ : ∃ fe, flowE n Z (List.replicate Z.length 0) = fe := ⟨_, rfl⟩
  obtain ⟨fb, hfb⟩ : ∃ fb, freeB n Z (List.replicate Z.length 0) = fb := ⟨_, rfl⟩
  have HFE := Lib.hid hfe
  have HFB := Lib.hid hfb
  have hzb : fe = 0 → fb = true := fun e => by
    have := zeros_free (hfe.trans e)
    rwa [hfb] at this
  have hnb : fe ≠ 0 → fb = false := fun e => by rw [← hfb]; unfold freeB; rw [if_neg (by rw [hfe]; exact e)]
  have hmk := fun W => run_make_row' (P := Try.prog) 25 3 (.int .i64 0) 8 Try.underlying25 infoInt rfl .i64 .i64 Z.length (by omega) (by omega) W
  have HMD := Lib.hid (fun W => madeL W W.heap.size Z.length (Nat.le_refl _) (by omega))
  have HRL : Hid ((List.replicate Z.length (0 : Int)).length = Z.length) := Lib.hid (by simp)
  clear hfe hfb hw
  go_enter Try.func7, Try.ntmps7
  go_wp2_with (first
    | (go_at_call 11; refine (oawake_any _).mono ?_; rintro e wn ⟨rfl, hb⟩; have HR := Lib.hid (HR.out.below' hb); have hn := kept_box HN.out hb; have HN := Lib.hid hn; have x0 := cell_whole hn 0; have x1 := cell_whole hn 1; have x2 := cell_whole hn 2; have HB := Lib.hid (HB.out.trans (hb.mono HB.out.size)); clear hb hn)
    | fail)
  have bA := Lib.hid (below_drew ((Below.refl _ wn).alloc (Nat.le_refl _) (.cells (madeCells #[.int .i64 0] Z.length) 3)))
  have HRm := Lib.hid (HR.out.below' bA.out)
  have HFm := Lib.hid ((HMD.out wn).below (below_drew (Below.refl _ _)))
  have hwl : w.heap.size < wn.heap.size := lt_whole HN.out
  go_cut [4, 5] (fun v4 v5 wc => v4 = .bool fb ∧ v5 = .int .i64 fe ∧ Hid (Below w.heap.size w wc))
  case first =>
    go_region_held3 (fun W => W.cell? ⟨w.heap.size, 0, none⟩ = some (.int .i64 n) ∧ W.cell? ⟨w.heap.size, 1, none⟩ = some (.bool b) ∧ W.cell? ⟨w.heap.size, 2, none⟩ = some (.slice ao Z.length cap)) (first | exact ⟨x0, x1, x2⟩ | exact ⟨z0, z1, z2⟩ | go_keep)
      (first
        | (go_at_call 16; refine (ofree_L n b ao _ cap _ Z.length Z (List.replicate Z.length 0) HRL.out _ HRm.out HFm.out.lstK HM.out HM.out).mono ?_; rw [HFB.out, HFE.out]; rintro e w3 ⟨rfl, hb3⟩; have hb13 := bA.out.trans (hb3.mono bA.out.size); have HB3 := Lib.hid (HB.out.trans (hb13.mono HB.out.size)); have z0 := cell_below' hb13 x0 hwl; have z1 := cell_below' hb13 x1 hwl; have z2 := cell_below' hb13 x2 hwl; clear hb3 hb13))
    all_goals
      go_wp2
      go_meet
      exact ⟨rfl, rfl, HB3⟩
  case rest =>
    obtain ⟨rfl, rfl, HB9⟩ := hcut
    clear hmk
    by_cases h0 : fe = 0
    · have hf1 := hzb h0
      subst h0
      subst hf1
      go_wp2
      go_ret
      exact ⟨by simp, HB9.out⟩
    · have hf1 := hnb h0
      have hf2 : (fe != 0) = true := by simpa using h0
      have hf3 : (fe == 0) = false := by simpa using h0
      subst hf1
      go_wp2
      go_ret
      exact ⟨by simp, HB9.out⟩
set_option maxRecDepth 100000 in
set_option maxHeartbeats 4000000 in
theorem cheapest_law (fo po : Option Addr) (fl fc pl pc : Nat) (F P : List Int) (w : World) (hl : Z.length = len) (hm : len ≤ maxLen) (hr : Row encA 4 w ao Z) (hl1 : F.length = fl) (hm1 : fl ≤ maxLen) (hf : Lst encI w fo F) (hl2 : P.length = pl) (hm2 : pl ≤ maxLen) (hp : Lst encI w po P) :
    Calls Try.prog 8 #[.agg #[.int .i64 n, .bool b, .slice ao len cap], .slice fo fl fc, .slice po pl pc] w fun e w' => e = .returned (.bool true) ∧ Below w.heap.size w w' := by
  subst hl
  subst hl1
  subst hl2
  have hb00 := (Below.refl _ w).alloc (Nat.le_refl _) (.cells #[.int .i64 n, .bool b, .slice ao Z.length cap] 24)
  have HB := Lib.hid hb00
  have HN := Lib.hid (heap_alloc_new w (.cells #[.int .i64 n, .bool b, .slice ao Z.length cap] 24))
  have HR := Lib.hid (hr.below' hb00)
  have HM := Lib.hid hm
  have x0 := cell_whole HN.out 0
  have x1 := cell_whole HN.out 1
  have x2 := cell_whole HN.out 2
  have HF := Lib.hid (hf.below hb00)
  have HMF := Lib.hid hm1
  have HP := Lib.hid (hp.below hb00)
  have HMP := Lib.hid hm2
  clear hr hm hb00 hf hm1 hp hm2
  obtain ⟨fe, hfe⟩ : ∃ fe, flowE n Z F = fe := ⟨_, rfl⟩
  obtain ⟨fb, hfb⟩ : ∃ fb, freeB n Z F = fb := ⟨_, rfl⟩
  obtain ⟨ge, hge⟩ : ∃ ge, flowE n Z P = ge := ⟨_, rfl⟩
  obtain ⟨A, hA⟩ : ∃ A, balsL n Z F = A := ⟨_, rfl⟩
  obtain ⟨B, hB⟩ : ∃ B, balsL n Z P = B := ⟨_, rfl⟩
  obtain ⟨x, hx⟩ : ∃ x, costV n Z F = x := ⟨_, rfl⟩
  obtain ⟨y, hy⟩ : ∃ y, costV n Z P = y := ⟨_, rfl⟩
  have hAl := balsL_few n Z F
  have hBl := balsL_few n Z P
  rw [hA] at hAl
  rw [hB] at hBl
  have hch : fe = 0 → fb = true → ge = 0 → A = B → x ≤ y := fun h1 h2 h3 h4 => by
    have := free_cheap (hfe.trans h1) (hfb.trans h2) (hge.trans h3) ((hA.trans h4).trans hB.symm)
    rwa [hx, hy] at this
  have HFE := Lib.hid hfe
  have HFB := Lib.hid hfb
  have HGE := Lib.hid hge
  have HA := Lib.hid hA
  have HBL := Lib.hid hB
  have HX := Lib.hid hx
  have HY := Lib.hid hy
  clear hfe hfb hge hA hB hx hy
  by_cases h0 : fe = 0
  · by_cases h1 : ge = 0
    · subst h0
      subst h1
      cases fb
      · clear hch
        go_enter Try.func8, Try.ntmps8
        go_wp2_with (first
          | (go_at_call 11; refine (oawake_any _).mono ?_; rintro e wn ⟨rfl, hb⟩; have HR := Lib.hid (HR.out.below' hb); have hn := kept_box HN.out hb; have HN := Lib.hid hn; have x0 := cell_whole hn 0; have x1 := cell_whole hn 1; have x2 := cell_whole hn 2; have HF := Lib.hid (HF.out.below hb); have HP := Lib.hid (HP.out.below hb); have HB := Lib.hid (HB.out.trans (hb.mono HB.out.size)); clear hb hn)
          | (go_at_call 16; refine (ofree_any n b ao fo cap fc Z F _ HR.out HF.out HM.out HMF.out).mono ?_; rw [HFB.out, HFE.out]; rintro e wn ⟨rfl, hb⟩; have HR := Lib.hid (HR.out.below' hb); have hn := kept_box HN.out hb; have HN := Lib.hid hn; have x0 := cell_whole hn 0; have x1 := cell_whole hn 1; have x2 := cell_whole hn 2; have HF := Lib.hid (HF.out.below hb); have HP := Lib.hid (HP.out.below hb); have HB := Lib.hid (HB.out.trans (hb.mono HB.out.size)); clear hb hn)
          | (have h9 := H1.out; clear h9; go_at_call 22; refine (rbalance_any n b ao po cap pc Z P _ HR.out HP.out HM.out HMP.out).mono ?_; rintro e wn ⟨a2, q2, rfl, h1, hb⟩; rw [HGE.out, HBL.out]; rw [HBL.out] at h1; have HR := Lib.hid (HR.out.below' hb); have hn := kept_box HN.out hb; have HN := Lib.hid hn; have x0 := cell_whole hn 0; have x1 := cell_whole hn 1; have x2 := cell_whole hn 2; have HF := Lib.hid (HF.out.below hb); have HP := Lib.hid (HP.out.below hb); have H1 := Lib.hid (H1.out.below hb); have HB := Lib.hid (HB.out.trans (hb.mono HB.out.size)); have H2 := Lib.hid h1; clear h1; clear hb hn)
          | (go_at_call 22; refine (rbalance_any n b ao fo cap fc Z F _ HR.out HF.out HM.out HMF.out).mono ?_; rintro e wn ⟨a1, q1, rfl, h1, hb⟩; rw [HFE.out, HA.out]; rw [HA.out] at h1; have HR := Lib.hid (HR.out.below' hb); have hn := kept_box HN.out hb; have HN := Lib.hid hn; have x0 := cell_whole hn 0; have x1 := cell_whole hn 1; have x2 := cell_whole hn 2; have HF := Lib.hid (HF.out.below hb); have HP := Lib.hid (HP.out.below hb); have HB := Lib.hid (HB.out.trans (hb.mono HB.out.size)); have H1 := Lib.hid h1; clear h1; clear hb hn)
          | (have h9 := HC1.out; clear h9; go_at_call 23; refine (rcost_any n b ao po cap pc Z P _ HR.out HP.out HM.out HMP.out).mono ?_; rw [HY.out, HGE.out]; rintro e wn ⟨rfl, hb⟩; have HR := Lib.hid (HR.out.below' hb); have hn := kept_box HN.out hb; have HN := Lib.hid hn; have x0 := cell_whole hn 0; have x1 := cell_whole hn 1; have x2 := cell_whole hn 2; have HF := Lib.hid (HF.out.below hb); have HP := Lib.hid (HP.out.below hb); have HB := Lib.hid (HB.out.trans (hb.mono HB.out.size)); clear hb hn)
          | (go_at_call 23; refine (rcost_any n b ao fo cap fc Z F _ HR.out HF.out HM.out HMF.out).mono ?_; rw [HX.out, HFE.out]; rintro e wn ⟨rfl, hb⟩; have HR := Lib.hid (HR.out.below' hb); have hn := kept_box HN.out hb; have HN := Lib.hid hn; have x0 := cell_whole hn 0; have x1 := cell_whole hn 1; have x2 := cell_whole hn 2; have HF := Lib.hid (HF.out.below hb); have HP := Lib.hid (HP.out.below hb); have HB := Lib.hid (HB.out.trans (hb.mono HB.out.size)); have HC1 := Lib.hid True.intro; clear hb hn))
        go_ret
        exact ⟨by simp, HB.out⟩
      · by_cases hAB : A = B
        · have hxy := hch rfl rfl rfl hAB
          have hdx : decide (x ≤ y) = true := decide_eq_true hxy
          subst hAB
          clear hch
          go_enter Try.func8, Try.ntmps8
          go_wp2_with (first
            | (go_at_call 11; refine (oawake_any _).mono ?_; rintro e wn ⟨rfl, hb⟩; have HR := Lib.hid (HR.out.below' hb); have hn := kept_box HN.out hb; have HN := Lib.hid hn; have x0 := cell_whole hn 0; have x1 := cell_whole hn 1; have x2 := cell_whole hn 2; have HF := Lib.hid (HF.out.below hb); have HP := Lib.hid (HP.out.below hb); have HB := Lib.hid (HB.out.trans (hb.mono HB.out.size)); clear hb hn)
            | (go_at_call 16; refine (ofree_any n b ao fo cap fc Z F _ HR.out HF.out HM.out HMF.out).mono ?_; rw [HFB.out, HFE.out]; rintro e wn ⟨rfl, hb⟩; have HR := Lib.hid (HR.out.below' hb); have hn := kept_box HN.out hb; have HN := Lib.hid hn; have x0 := cell_whole hn 0; have x1 := cell_whole hn 1; have x2 := cell_whole hn 2; have HF := Lib.hid (HF.out.below hb); have HP := Lib.hid (HP.out.below hb); have HB := Lib.hid (HB.out.trans (hb.mono HB.out.size)); clear hb hn)
            | (have h9 := H1.out; clear h9; go_at_call 22; refine (rbalance_any n b ao po cap pc Z P _ HR.out HP.out HM.out HMP.out).mono ?_; rintro e wn ⟨a2, q2, rfl, h1, hb⟩; rw [HGE.out, HBL.out]; rw [HBL.out] at h1; have HR := Lib.hid (HR.out.below' hb); have hn := kept_box HN.out hb; have HN := Lib.hid hn; have x0 := cell_whole hn 0; have x1 := cell_whole hn 1; have x2 := cell_whole hn 2; have HF := Lib.hid (HF.out.below hb); have HP := Lib.hid (HP.out.below hb); have H1 := Lib.hid (H1.out.below hb); have HB := Lib.hid (HB.out.trans (hb.mono HB.out.size)); have H2 := Lib.hid h1; clear h1; clear hb hn)
            | (go_at_call 22; refine (rbalance_any n b ao fo cap fc Z F _ HR.out HF.out HM.out HMF.out).mono ?_; rintro e wn ⟨a1, q1, rfl, h1, hb⟩; rw [HFE.out, HA.out]; rw [HA.out] at h1; have HR := Lib.hid (HR.out.below' hb); have hn := kept_box HN.out hb; have HN := Lib.hid hn; have x0 := cell_whole hn 0; have x1 := cell_whole hn 1; have x2 := cell_whole hn 2; have HF := Lib.hid (HF.out.below hb); have HP := Lib.hid (HP.out.below hb); have HB := Lib.hid (HB.out.trans (hb.mono HB.out.size)); have H1 := Lib.hid h1; clear h1; clear hb hn)
            | (go_at_call 12; refine (sameints_eqL A.length A rfl a1 a2 q1 q2 _ H1.out H2.out (by omega)).mono ?_; rintro e wn ⟨rfl, hb⟩; have HR := Lib.hid (HR.out.below' hb); have hn := kept_box HN.out hb; have HN := Lib.hid hn; have x0 := cell_whole hn 0; have x1 := cell_whole hn 1; have x2 := cell_whole hn 2; have HF := Lib.hid (HF.out.below hb); have HP := Lib.hid (HP.out.below hb); have HB := Lib.hid (HB.out.trans (hb.mono HB.out.size)); clear hb hn)
            | (have h9 := HC1.out; clear h9; go_at_call 23; refine (rcost_any n b ao po cap pc Z P _ HR.out HP.out HM.out HMP.out).mono ?_; rw [HY.out, HGE.out]; rintro e wn ⟨rfl, hb⟩; have HR := Lib.hid (HR.out.below' hb); have hn := kept_box HN.out hb; have HN := Lib.hid hn; have x0 := cell_whole hn 0; have x1 := cell_whole hn 1; have x2 := cell_whole hn 2; have HF := Lib.hid (HF.out.below hb); have HP := Lib.hid (HP.out.below hb); have HB := Lib.hid (HB.out.trans (hb.mono HB.out.size)); clear hb hn)
            | (go_at_call 23; refine (rcost_any n b ao fo cap fc Z F _ HR.out HF.out HM.out HMF.out).mono ?_; rw [HX.out, HFE.out]; rintro e wn ⟨rfl, hb⟩; have HR := Lib.hid (HR.out.below' hb); have hn := kept_box HN.out hb; have HN := Lib.hid hn; have x0 := cell_whole hn 0; have x1 := cell_whole hn 1; have x2 := cell_whole hn 2; have HF := Lib.hid (HF.out.below hb); have HP := Lib.hid (HP.out.below hb); have HB := Lib.hid (HB.out.trans (hb.mono HB.out.size)); have HC1 := Lib.hid True.intro; clear hb hn))
          go_ret
          exact ⟨by simp, HB.out⟩
        · have HNE := Lib.hid hAB
          clear hch hAB
          go_enter Try.func8, Try.ntmps8
          go_wp2_with (first
            | (go_at_call 11; refine (oawake_any _).mono ?_; rintro e wn ⟨rfl, hb⟩; have HR := Lib.hid (HR.out.below' hb); have hn := kept_box HN.out hb; have HN := Lib.hid hn; have x0 := cell_whole hn 0; have x1 := cell_whole hn 1; have x2 := cell_whole hn 2; have HF := Lib.hid (HF.out.below hb); have HP := Lib.hid (HP.out.below hb); have HB := Lib.hid (HB.out.trans (hb.mono HB.out.size)); clear hb hn)
            | (go_at_call 16; refine (ofree_any n b ao fo cap fc Z F _ HR.out HF.out HM.out HMF.out).mono ?_; rw [HFB.out, HFE.out]; rintro e wn ⟨rfl, hb⟩; have HR := Lib.hid (HR.out.below' hb); have hn := kept_box HN.out hb; have HN := Lib.hid hn; have x0 := cell_whole hn 0; have x1 := cell_whole hn 1; have x2 := cell_whole hn 2; have HF := Lib.hid (HF.out.below hb); have HP := Lib.hid (HP.out.below hb); have HB := Lib.hid (HB.out.trans (hb.mono HB.out.size)); clear hb hn)
            | (have h9 := H1.out; clear h9; go_at_call 22; refine (rbalance_any n b ao po cap pc Z P _ HR.out HP.out HM.out HMP.out).mono ?_; rintro e wn ⟨a2, q2, rfl, h1, hb⟩; rw [HGE.out, HBL.out]; rw [HBL.out] at h1; have HR := Lib.hid (HR.out.below' hb); have hn := kept_box HN.out hb; have HN := Lib.hid hn; have x0 := cell_whole hn 0; have x1 := cell_whole hn 1; have x2 := cell_whole hn 2; have HF := Lib.hid (HF.out.below hb); have HP := Lib.hid (HP.out.below hb); have H1 := Lib.hid (H1.out.below hb); have HB := Lib.hid (HB.out.trans (hb.mono HB.out.size)); have H2 := Lib.hid h1; clear h1; clear hb hn)
            | (go_at_call 22; refine (rbalance_any n b ao fo cap fc Z F _ HR.out HF.out HM.out HMF.out).mono ?_; rintro e wn ⟨a1, q1, rfl, h1, hb⟩; rw [HFE.out, HA.out]; rw [HA.out] at h1; have HR := Lib.hid (HR.out.below' hb); have hn := kept_box HN.out hb; have HN := Lib.hid hn; have x0 := cell_whole hn 0; have x1 := cell_whole hn 1; have x2 := cell_whole hn 2; have HF := Lib.hid (HF.out.below hb); have HP := Lib.hid (HP.out.below hb); have HB := Lib.hid (HB.out.trans (hb.mono HB.out.size)); have H1 := Lib.hid h1; clear h1; clear hb hn)
            | (go_at_call 12; refine (sameints_no A B HNE.out a1 a2 q1 q2 _ H1.out H2.out (by omega) (by omega)).mono ?_; rintro e wn ⟨rfl, hb⟩; have HR := Lib.hid (HR.out.below' hb); have hn := kept_box HN.out hb; have HN := Lib.hid hn; have x0 := cell_whole hn 0; have x1 := cell_whole hn 1; have x2 := cell_whole hn 2; have HF := Lib.hid (HF.out.below hb); have HP := Lib.hid (HP.out.below hb); have HB := Lib.hid (HB.out.trans (hb.mono HB.out.size)); clear hb hn)
            | (have h9 := HC1.out; clear h9; go_at_call 23; refine (rcost_any n b ao po cap pc Z P _ HR.out HP.out HM.out HMP.out).mono ?_; rw [HY.out, HGE.out]; rintro e wn ⟨rfl, hb⟩; have HR := Lib.hid (HR.out.below' hb); have hn := kept_box HN.out hb; have HN := Lib.hid hn; have x0 := cell_whole hn 0; have x1 := cell_whole hn 1; have x2 := cell_whole hn 2; have HF := Lib.hid (HF.out.below hb); have HP := Lib.hid (HP.out.below hb); have HB := Lib.hid (HB.out.trans (hb.mono HB.out.size)); clear hb hn)
            | (go_at_call 23; refine (rcost_any n b ao fo cap fc Z F _ HR.out HF.out HM.out HMF.out).mono ?_; rw [HX.out, HFE.out]; rintro e wn ⟨rfl, hb⟩; have HR := Lib.hid (HR.out.below' hb); have hn := kept_box HN.out hb; have HN := Lib.hid hn; have x0 := cell_whole hn 0; have x1 := cell_whole hn 1; have x2 := cell_whole hn 2; have HF := Lib.hid (HF.out.below hb); have HP := Lib.hid (HP.out.below hb); have HB := Lib.hid (HB.out.trans (hb.mono HB.out.size)); have HC1 := Lib.hid True.intro; clear hb hn))
          go_ret
          exact ⟨by simp, HB.out⟩
    · have hf1 : (ge != 0) = true := by simpa using h1
      have hf2 : (ge == 0) = false := by simpa using h1
      subst h0
      clear hch h1
      go_enter Try.func8, Try.ntmps8
      go_wp2_with (first
        | (go_at_call 11; refine (oawake_any _).mono ?_; rintro e wn ⟨rfl, hb⟩; have HR := Lib.hid (HR.out.below' hb); have hn := kept_box HN.out hb; have HN := Lib.hid hn; have x0 := cell_whole hn 0; have x1 := cell_whole hn 1; have x2 := cell_whole hn 2; have HF := Lib.hid (HF.out.below hb); have HP := Lib.hid (HP.out.below hb); have HB := Lib.hid (HB.out.trans (hb.mono HB.out.size)); clear hb hn)
        | (go_at_call 16; refine (ofree_any n b ao fo cap fc Z F _ HR.out HF.out HM.out HMF.out).mono ?_; rw [HFB.out, HFE.out]; rintro e wn ⟨rfl, hb⟩; have HR := Lib.hid (HR.out.below' hb); have hn := kept_box HN.out hb; have HN := Lib.hid hn; have x0 := cell_whole hn 0; have x1 := cell_whole hn 1; have x2 := cell_whole hn 2; have HF := Lib.hid (HF.out.below hb); have HP := Lib.hid (HP.out.below hb); have HB := Lib.hid (HB.out.trans (hb.mono HB.out.size)); clear hb hn)
        | (have h9 := H1.out; clear h9; go_at_call 22; refine (rbalance_any n b ao po cap pc Z P _ HR.out HP.out HM.out HMP.out).mono ?_; rintro e wn ⟨a2, q2, rfl, h1, hb⟩; rw [HGE.out, HBL.out]; rw [HBL.out] at h1; have HR := Lib.hid (HR.out.below' hb); have hn := kept_box HN.out hb; have HN := Lib.hid hn; have x0 := cell_whole hn 0; have x1 := cell_whole hn 1; have x2 := cell_whole hn 2; have HF := Lib.hid (HF.out.below hb); have HP := Lib.hid (HP.out.below hb); have H1 := Lib.hid (H1.out.below hb); have HB := Lib.hid (HB.out.trans (hb.mono HB.out.size)); have H2 := Lib.hid h1; clear h1; clear hb hn)
        | (go_at_call 22; refine (rbalance_any n b ao fo cap fc Z F _ HR.out HF.out HM.out HMF.out).mono ?_; rintro e wn ⟨a1, q1, rfl, h1, hb⟩; rw [HFE.out, HA.out]; rw [HA.out] at h1; have HR := Lib.hid (HR.out.below' hb); have hn := kept_box HN.out hb; have HN := Lib.hid hn; have x0 := cell_whole hn 0; have x1 := cell_whole hn 1; have x2 := cell_whole hn 2; have HF := Lib.hid (HF.out.below hb); have HP := Lib.hid (HP.out.below hb); have HB := Lib.hid (HB.out.trans (hb.mono HB.out.size)); have H1 := Lib.hid h1; clear h1; clear hb hn)
        | (have h9 := HC1.out; clear h9; go_at_call 23; refine (rcost_any n b ao po cap pc Z P _ HR.out HP.out HM.out HMP.out).mono ?_; rw [HY.out, HGE.out]; rintro e wn ⟨rfl, hb⟩; have HR := Lib.hid (HR.out.below' hb); have hn := kept_box HN.out hb; have HN := Lib.hid hn; have x0 := cell_whole hn 0; have x1 := cell_whole hn 1; have x2 := cell_whole hn 2; have HF := Lib.hid (HF.out.below hb); have HP := Lib.hid (HP.out.below hb); have HB := Lib.hid (HB.out.trans (hb.mono HB.out.size)); clear hb hn)
        | (go_at_call 23; refine (rcost_any n b ao fo cap fc Z F _ HR.out HF.out HM.out HMF.out).mono ?_; rw [HX.out, HFE.out]; rintro e wn ⟨rfl, hb⟩; have HR := Lib.hid (HR.out.below' hb); have hn := kept_box HN.out hb; have HN := Lib.hid hn; have x0 := cell_whole hn 0; have x1 := cell_whole hn 1; have x2 := cell_whole hn 2; have HF := Lib.hid (HF.out.below hb); have HP := Lib.hid (HP.out.below hb); have HB := Lib.hid (HB.out.trans (hb.mono HB.out.size)); have HC1 := Lib.hid True.intro; clear hb hn))
      go_ret
      exact ⟨by simp, HB.out⟩
  · have hf1 : (fe != 0) = true := by simpa using h0
    have hf2 : (fe == 0) = false := by simpa using h0
    clear hch h0
    go_enter Try.func8, Try.ntmps8
    go_wp2_with (first
      | (go_at_call 11; refine (oawake_any _).mono ?_; rintro e wn ⟨rfl, hb⟩; have HR := Lib.hid (HR.out.below' hb); have hn := kept_box HN.out hb; have HN := Lib.hid hn; have x0 := cell_whole hn 0; have x1 := cell_whole hn 1; have x2 := cell_whole hn 2; have HF := Lib.hid (HF.out.below hb); have HP := Lib.hid (HP.out.below hb); have HB := Lib.hid (HB.out.trans (hb.mono HB.out.size)); clear hb hn)
      | (go_at_call 16; refine (ofree_any n b ao fo cap fc Z F _ HR.out HF.out HM.out HMF.out).mono ?_; rw [HFB.out, HFE.out]; rintro e wn ⟨rfl, hb⟩; have HR := Lib.hid (HR.out.below' hb); have hn := kept_box HN.out hb; have HN := Lib.hid hn; have x0 := cell_whole hn 0; have x1 := cell_whole hn 1; have x2 := cell_whole hn 2; have HF := Lib.hid (HF.out.below hb); have HP := Lib.hid (HP.out.below hb); have HB := Lib.hid (HB.out.trans (hb.mono HB.out.size)); clear hb hn)
      | (have h9 := H1.out; clear h9; go_at_call 22; refine (rbalance_any n b ao po cap pc Z P _ HR.out HP.out HM.out HMP.out).mono ?_; rintro e wn ⟨a2, q2, rfl, h1, hb⟩; rw [HGE.out, HBL.out]; rw [HBL.out] at h1; have HR := Lib.hid (HR.out.below' hb); have hn := kept_box HN.out hb; have HN := Lib.hid hn; have x0 := cell_whole hn 0; have x1 := cell_whole hn 1; have x2 := cell_whole hn 2; have HF := Lib.hid (HF.out.below hb); have HP := Lib.hid (HP.out.below hb); have H1 := Lib.hid (H1.out.below hb); have HB := Lib.hid (HB.out.trans (hb.mono HB.out.size)); have H2 := Lib.hid h1; clear h1; clear hb hn)
      | (go_at_call 22; refine (rbalance_any n b ao fo cap fc Z F _ HR.out HF.out HM.out HMF.out).mono ?_; rintro e wn ⟨a1, q1, rfl, h1, hb⟩; rw [HFE.out, HA.out]; rw [HA.out] at h1; have HR := Lib.hid (HR.out.below' hb); have hn := kept_box HN.out hb; have HN := Lib.hid hn; have x0 := cell_whole hn 0; have x1 := cell_whole hn 1; have x2 := cell_whole hn 2; have HF := Lib.hid (HF.out.below hb); have HP := Lib.hid (HP.out.below hb); have HB := Lib.hid (HB.out.trans (hb.mono HB.out.size)); have H1 := Lib.hid h1; clear h1; clear hb hn)
      | (have h9 := HC1.out; clear h9; go_at_call 23; refine (rcost_any n b ao po cap pc Z P _ HR.out HP.out HM.out HMP.out).mono ?_; rw [HY.out, HGE.out]; rintro e wn ⟨rfl, hb⟩; have HR := Lib.hid (HR.out.below' hb); have hn := kept_box HN.out hb; have HN := Lib.hid hn; have x0 := cell_whole hn 0; have x1 := cell_whole hn 1; have x2 := cell_whole hn 2; have HF := Lib.hid (HF.out.below hb); have HP := Lib.hid (HP.out.below hb); have HB := Lib.hid (HB.out.trans (hb.mono HB.out.size)); clear hb hn)
      | (go_at_call 23; refine (rcost_any n b ao fo cap fc Z F _ HR.out HF.out HM.out HMF.out).mono ?_; rw [HX.out, HFE.out]; rintro e wn ⟨rfl, hb⟩; have HR := Lib.hid (HR.out.below' hb); have hn := kept_box HN.out hb; have HN := Lib.hid hn; have x0 := cell_whole hn 0; have x1 := cell_whole hn 1; have x2 := cell_whole hn 2; have HF := Lib.hid (HF.out.below hb); have HP := Lib.hid (HP.out.below hb); have HB := Lib.hid (HB.out.trans (hb.mono HB.out.size)); have HC1 := Lib.hid True.intro; clear hb hn))
    go_ret
    exact ⟨by simp, HB.out⟩
end
end Go.Proofs.Ytfklkcnopngpgaa
