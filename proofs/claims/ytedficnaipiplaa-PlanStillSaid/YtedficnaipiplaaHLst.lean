/- PlanStill. -/
import Derived.Test.YtedficnaipiplaaHLsc
namespace Go.Proofs.Ytedficnaipiplaa
open Go.RowKit
set_option linter.unusedVariables false

theorem planB_hold {Z : List ArcT} {L : List MoveT} {N s t H : Nat} (h : planB Z L N s t H false = true) : planB Z L N s t H true = true := by
  refine planG_is.2 fun u hu v hv h1 h2 => ?_
  obtain ⟨h3, h4⟩ := planG_is.1 h u hu v hv h1 h2
  exact ⟨h3, .inl (h4.resolve_right (fun e => by cases e.1))⟩
theorem plnE_hold {n : Int} {Z : List ArcT} {s t H : Int} {L : List MoveT} (h : plnE n Z s t H false L = 0) : plnE n Z s t H true L = 0 := by
  unfold plnE at h ⊢
  split at h
  · next hm =>
    rw [if_pos hm]
    split at h
    · next hp => rw [if_pos (planB_hold hp)]
    · cases h
  · next hm => exact absurd h hm
theorem plnV_same {n : Int} {Z : List ArcT} {s t H : Int} {L : List MoveT} (h : plnE n Z s t H false L = 0) : plnV n Z s t H true L = plnV n Z s t H false L := by
  unfold plnV
  rw [if_pos h, if_pos (plnE_hold h)]
theorem still_cases (n : Int) (Z : List ArcT) (s t H : Int) (L : List MoveT) : (plnE n Z s t H true L ≠ 0 ∧ plnE n Z s t H false L ≠ 0 ∧ stiV n Z s t H L = false) ∨ (plnE n Z s t H true L = 0 ∧ plnE n Z s t H false L ≠ 0 ∧ stiV n Z s t H L = false) ∨ (plnE n Z s t H true L = 0 ∧ plnE n Z s t H false L = 0 ∧ stiV n Z s t H L = true ∧ plnV n Z s t H true L = plnV n Z s t H false L) := by
  unfold stiV
  by_cases h1 : plnE n Z s t H false L = 0
  · exact .inr (.inr ⟨plnE_hold h1, h1, by rw [plnE_hold h1, h1]; rfl, plnV_same h1⟩)
  · by_cases h2 : plnE n Z s t H true L = 0
    · exact .inr (.inl ⟨h2, h1, by rw [decide_eq_false h1, Bool.and_false]⟩)
    · exact .inl ⟨h2, h1, by rw [decide_eq_false h1, Bool.and_false]⟩
set_option maxRecDepth 100000 in
set_option maxHeartbeats 8000000 in
theorem nstill_law (nn s t sp : Int) (hold : Bool) (ba : Option Addr) (bc : Nat) (B : List BitT) (la : Option Addr) (lc : Nat) (K : List ByT) (w : World) (hr : Row encBit 4 w ba B) (hB : ∀ x ∈ B, BitOk x) (hbl : B.length ≤ maxLen) (hn : ByteB nn) (hs : ByteB s) (ht : ByteB t) (hp : ByteB sp) (hkl : K.length ≤ maxLen) (hk : Row encBy 3 w la K) (hK : ∀ x ∈ K, ByOk x) :
    Calls Try.prog 9 #[.agg #[.int .u8 nn, .bool hold, .slice ba B.length bc, .int .u8 s, .int .u8 t, .int .u8 sp, .slice la K.length lc]] w fun e w' => e = .returned (.bool true) ∧ Below w.heap.size w w' := by
  have hb00 := (Below.refl _ w).alloc (Nat.le_refl _) (.cells #[.int .u8 nn, .bool hold, .slice ba B.length bc, .int .u8 s, .int .u8 t, .int .u8 sp, .slice la K.length lc] 46)
  have HB := Lib.hid hb00
  have HX := Lib.hid (heap_alloc_new w (.cells #[.int .u8 nn, .bool hold, .slice ba B.length bc, .int .u8 s, .int .u8 t, .int .u8 sp, .slice la K.length lc] 46))
  have HR := Lib.hid (hr.below' hb00)
  have HK := Lib.hid (hk.below' hb00)
  have x0 := cell_whole HX.out 0
  have x1 := cell_whole HX.out 1
  have x2 := cell_whole HX.out 2
  have x3 := cell_whole HX.out 3
  have x4 := cell_whole HX.out 4
  have x5 := cell_whole HX.out 5
  have x6 := cell_whole HX.out 6
  have HBB := Lib.hid hB
  have HKK := Lib.hid hK
  have HKL := Lib.hid hkl
  have HNN := Lib.hid (And.intro hn (And.intro hs (And.intro ht hp)))
  have HBL := Lib.hid hbl
  obtain ⟨N, i, j, H, Z, L, e1, e2, e3, e4, e5, e6, hF⟩ := case_facts nn s t sp B K
  have E1 := Lib.hid e1
  have E2 := Lib.hid e2
  have E3 := Lib.hid e3
  have E4 := Lib.hid e4
  have E5 := Lib.hid e5
  have E6 := Lib.hid e6
  have HF := Lib.hid hF
  have hH7 := hF.hor
  have HZ4 : Hid (Z.length ≤ 4398046511104) := Lib.hid (by have := hF.arcs; omega)
  have HOK := Lib.hid hF.okK
  have HL2 : Hid (L.length ≤ 200) := Lib.hid (by have := hF.len; omega)
  clear hr hb00 hB hbl hn hs ht hp e1 e2 e3 e4 e5 e6 hF hk hK hkl
  have hcs := still_cases (N : Int) Z (i : Int) (j : Int) (H : Int) L
  obtain ⟨b0, hb0⟩ : ∃ b0, stiV (N : Int) Z (i : Int) (j : Int) (H : Int) L = b0 := ⟨_, rfl⟩
  have HB0 := Lib.hid hb0
  obtain ⟨v1, hv1⟩ : ∃ v1, plnV (N : Int) Z (i : Int) (j : Int) (H : Int) true L = v1 := ⟨_, rfl⟩
  have HV1 := Lib.hid hv1
  obtain ⟨e1, he1⟩ : ∃ e1, plnE (N : Int) Z (i : Int) (j : Int) (H : Int) true L = e1 := ⟨_, rfl⟩
  have HF1 := Lib.hid he1
  obtain ⟨v2, hv2⟩ : ∃ v2, plnV (N : Int) Z (i : Int) (j : Int) (H : Int) false L = v2 := ⟨_, rfl⟩
  have HV2 := Lib.hid hv2
  obtain ⟨e2, he2⟩ : ∃ e2, plnE (N : Int) Z (i : Int) (j : Int) (H : Int) false L = e2 := ⟨_, rfl⟩
  have HF2 := Lib.hid he2
  clear hb0 hv1 he1 hv2 he2
  rw [HB0.out, HV1.out, HF1.out, HV2.out, HF2.out] at hcs
  rcases hcs with ⟨h1, h2, rfl⟩ | ⟨rfl, h2, rfl⟩ | ⟨rfl, rfl, rfl, rfl⟩
  · have q1 : (e1 != 0) = true := by simpa using h1
    have q2 : (e2 != 0) = true := by simpa using h2
    have q3 : (e1 == e1) = true := by simp
    go_enter Try.func9, Try.ntmps9
    go_wp2_with (first
      | (go_at_call 10; refine (nawake_any _).mono ?_; rintro e wn ⟨rfl, hb⟩; have HR := Lib.hid (HR.out.below' hb); have HK := Lib.hid (HK.out.below' hb); have hn := kept_box HX.out hb; have HX := Lib.hid hn; have x0 := cell_whole hn 0; have x1 := cell_whole hn 1; have x2 := cell_whole hn 2; have x3 := cell_whole hn 3; have x4 := cell_whole hn 4; have x5 := cell_whole hn 5; have x6 := cell_whole hn 6; have HB := Lib.hid (HB.out.trans (hb.mono HB.out.size)); clear hb hn)
      | (go_at_call 21; refine (read14_any nn s t sp hold ba bc B la lc K _ HR.out HBB.out HBL.out HNN.out.1 HNN.out.2.1 HNN.out.2.2.1 HNN.out.2.2.2 HK.out HKK.out HKL.out N i j H Z E1.out E2.out E3.out E4.out E5.out).mono ?_; rw [E6.out]; rintro e wr ⟨za, zc, ka, kc, rfl, hz, hkr, hb⟩; clear x0 x1 x2 x3 x4 x5 x6; have hal := (Below.refl _ wr).alloc (Nat.le_refl _) (.cells #[.int .i64 (N : Int), .bool hold, .slice za Z.length zc] 24); have HNT := Lib.hid (heap_alloc_new wr (.cells #[.int .i64 (N : Int), .bool hold, .slice za Z.length zc] 24)); have HZ := Lib.hid (hz.below' hal); have HL := Lib.hid (hkr.below' hal); have HBR := Lib.hid (HB.out.trans (hb.mono HB.out.size)); have HB := Lib.hid ((HB.out.trans (hb.mono HB.out.size)).trans (hal.mono (by have h1 := HB.out.size; have h2 := hb.size; omega))); have n0 := cell_whole HNT.out 0; have n1 := cell_whole HNT.out 1; have n2 := cell_whole HNT.out 2; have HZ0 := Lib.hid hz; have HL0 := Lib.hid hkr; have HGS : Hid (w.heap.size ≤ wr.heap.size) := Lib.hid (by have h1 := HB.out.size; have h2 := HBR.out.size; omega); have HQ := Lib.hid hal; clear hz hkr hb hal HX HR HK)
      | (go_at_call 18; refine (nstill_any (N : Int) hold za zc Z.length Z (i : Int) (j : Int) (H : Int) ka kc L.length L _ HZ.out HZ4.out HL.out HOK.out HL2.out rfl rfl).mono ?_; rw [HB0.out, HF1.out]; rintro e wn ⟨rfl, hb⟩; have HQ := Lib.hid (HQ.out.trans (hb.mono HQ.out.size)); have hn := kept_box HNT.out hb; have m0 := cell_whole hn 0; have m1 := cell_whole hn 1; have m2 := cell_whole hn 2; have f1 := frozen_whole hn 1; have hs1 := set_whole hn 1 (.bool true); have HNT := Lib.hid hs1; have n0 := cell_whole hs1 0; have n1 := cell_whole hs1 1; have n2 := cell_whole hs1 2; have HQ := Lib.hid (below_set HQ.out (g := wr.heap.size) (Nat.le_refl _) (.bool true) (j := 1)); clear hs1; have HZ := Lib.hid (HZ0.out.below' HQ.out); have HL := Lib.hid (HL0.out.below' HQ.out); have HB := Lib.hid (HBR.out.trans (HQ.out.mono HGS.out)); clear hb hn))
    refine (nchk14_any (N : Int) true za zc Z.length Z (i : Int) (j : Int) (H : Int) ka kc L.length L _ HZ.out HZ4.out HL.out HOK.out HL2.out rfl rfl).mono ?_
    rw [HV1.out, HF1.out]
    rintro e wn ⟨rfl, hb⟩
    have HQ := Lib.hid (HQ.out.trans (hb.mono HQ.out.size))
    have hn := kept_box HNT.out hb
    have m0 := cell_whole hn 0
    have m1 := cell_whole hn 1
    have m2 := cell_whole hn 2
    have f1 := frozen_whole hn 1
    have hs1 := set_whole hn 1 (.bool false)
    have HNT := Lib.hid hs1
    have n0 := cell_whole hs1 0
    have n1 := cell_whole hs1 1
    have n2 := cell_whole hs1 2
    have HQ := Lib.hid (below_set HQ.out (g := wr.heap.size) (Nat.le_refl _) (.bool false) (j := 1))
    clear hs1
    have HZ := Lib.hid (HZ0.out.below' HQ.out)
    have HL := Lib.hid (HL0.out.below' HQ.out)
    have HB := Lib.hid (HBR.out.trans (HQ.out.mono HGS.out))
    clear hb hn
    go_wp2_with (fail)
    refine (nchk14_any (N : Int) false za zc Z.length Z (i : Int) (j : Int) (H : Int) ka kc L.length L _ HZ.out HZ4.out HL.out HOK.out HL2.out rfl rfl).mono ?_
    rw [HV2.out, HF2.out]
    rintro e wn ⟨rfl, hb⟩
    have HB := Lib.hid (HB.out.trans (hb.mono HB.out.size))
    have hn := 0
    clear hb hn
    go_wp2_with (fail)
    go_ret
    exact ⟨by simp, HB.out⟩
  · have q2 : (e2 == 0) = false := by simpa using h2
    go_enter Try.func9, Try.ntmps9
    go_wp2_with (first
      | (go_at_call 10; refine (nawake_any _).mono ?_; rintro e wn ⟨rfl, hb⟩; have HR := Lib.hid (HR.out.below' hb); have HK := Lib.hid (HK.out.below' hb); have hn := kept_box HX.out hb; have HX := Lib.hid hn; have x0 := cell_whole hn 0; have x1 := cell_whole hn 1; have x2 := cell_whole hn 2; have x3 := cell_whole hn 3; have x4 := cell_whole hn 4; have x5 := cell_whole hn 5; have x6 := cell_whole hn 6; have HB := Lib.hid (HB.out.trans (hb.mono HB.out.size)); clear hb hn)
      | (go_at_call 21; refine (read14_any nn s t sp hold ba bc B la lc K _ HR.out HBB.out HBL.out HNN.out.1 HNN.out.2.1 HNN.out.2.2.1 HNN.out.2.2.2 HK.out HKK.out HKL.out N i j H Z E1.out E2.out E3.out E4.out E5.out).mono ?_; rw [E6.out]; rintro e wr ⟨za, zc, ka, kc, rfl, hz, hkr, hb⟩; clear x0 x1 x2 x3 x4 x5 x6; have hal := (Below.refl _ wr).alloc (Nat.le_refl _) (.cells #[.int .i64 (N : Int), .bool hold, .slice za Z.length zc] 24); have HNT := Lib.hid (heap_alloc_new wr (.cells #[.int .i64 (N : Int), .bool hold, .slice za Z.length zc] 24)); have HZ := Lib.hid (hz.below' hal); have HL := Lib.hid (hkr.below' hal); have HBR := Lib.hid (HB.out.trans (hb.mono HB.out.size)); have HB := Lib.hid ((HB.out.trans (hb.mono HB.out.size)).trans (hal.mono (by have h1 := HB.out.size; have h2 := hb.size; omega))); have n0 := cell_whole HNT.out 0; have n1 := cell_whole HNT.out 1; have n2 := cell_whole HNT.out 2; have HZ0 := Lib.hid hz; have HL0 := Lib.hid hkr; have HGS : Hid (w.heap.size ≤ wr.heap.size) := Lib.hid (by have h1 := HB.out.size; have h2 := HBR.out.size; omega); have HQ := Lib.hid hal; clear hz hkr hb hal HX HR HK)
      | (go_at_call 18; refine (nstill_any (N : Int) hold za zc Z.length Z (i : Int) (j : Int) (H : Int) ka kc L.length L _ HZ.out HZ4.out HL.out HOK.out HL2.out rfl rfl).mono ?_; rw [HB0.out, HF1.out]; rintro e wn ⟨rfl, hb⟩; have HQ := Lib.hid (HQ.out.trans (hb.mono HQ.out.size)); have hn := kept_box HNT.out hb; have m0 := cell_whole hn 0; have m1 := cell_whole hn 1; have m2 := cell_whole hn 2; have f1 := frozen_whole hn 1; have hs1 := set_whole hn 1 (.bool true); have HNT := Lib.hid hs1; have n0 := cell_whole hs1 0; have n1 := cell_whole hs1 1; have n2 := cell_whole hs1 2; have HQ := Lib.hid (below_set HQ.out (g := wr.heap.size) (Nat.le_refl _) (.bool true) (j := 1)); clear hs1; have HZ := Lib.hid (HZ0.out.below' HQ.out); have HL := Lib.hid (HL0.out.below' HQ.out); have HB := Lib.hid (HBR.out.trans (HQ.out.mono HGS.out)); clear hb hn))
    refine (nchk14_any (N : Int) true za zc Z.length Z (i : Int) (j : Int) (H : Int) ka kc L.length L _ HZ.out HZ4.out HL.out HOK.out HL2.out rfl rfl).mono ?_
    rw [HV1.out, HF1.out]
    rintro e wn ⟨rfl, hb⟩
    have HQ := Lib.hid (HQ.out.trans (hb.mono HQ.out.size))
    have hn := kept_box HNT.out hb
    have m0 := cell_whole hn 0
    have m1 := cell_whole hn 1
    have m2 := cell_whole hn 2
    have f1 := frozen_whole hn 1
    have hs1 := set_whole hn 1 (.bool false)
    have HNT := Lib.hid hs1
    have n0 := cell_whole hs1 0
    have n1 := cell_whole hs1 1
    have n2 := cell_whole hs1 2
    have HQ := Lib.hid (below_set HQ.out (g := wr.heap.size) (Nat.le_refl _) (.bool false) (j := 1))
    clear hs1
    have HZ := Lib.hid (HZ0.out.below' HQ.out)
    have HL := Lib.hid (HL0.out.below' HQ.out)
    have HB := Lib.hid (HBR.out.trans (HQ.out.mono HGS.out))
    clear hb hn
    go_wp2_with (fail)
    refine (nchk14_any (N : Int) false za zc Z.length Z (i : Int) (j : Int) (H : Int) ka kc L.length L _ HZ.out HZ4.out HL.out HOK.out HL2.out rfl rfl).mono ?_
    rw [HV2.out, HF2.out]
    rintro e wn ⟨rfl, hb⟩
    have HB := Lib.hid (HB.out.trans (hb.mono HB.out.size))
    have hn := 0
    clear hb hn
    go_wp2_with (fail)
    go_ret
    exact ⟨by simp, HB.out⟩
  · go_enter Try.func9, Try.ntmps9
    go_wp2_with (first
      | (go_at_call 10; refine (nawake_any _).mono ?_; rintro e wn ⟨rfl, hb⟩; have HR := Lib.hid (HR.out.below' hb); have HK := Lib.hid (HK.out.below' hb); have hn := kept_box HX.out hb; have HX := Lib.hid hn; have x0 := cell_whole hn 0; have x1 := cell_whole hn 1; have x2 := cell_whole hn 2; have x3 := cell_whole hn 3; have x4 := cell_whole hn 4; have x5 := cell_whole hn 5; have x6 := cell_whole hn 6; have HB := Lib.hid (HB.out.trans (hb.mono HB.out.size)); clear hb hn)
      | (go_at_call 21; refine (read14_any nn s t sp hold ba bc B la lc K _ HR.out HBB.out HBL.out HNN.out.1 HNN.out.2.1 HNN.out.2.2.1 HNN.out.2.2.2 HK.out HKK.out HKL.out N i j H Z E1.out E2.out E3.out E4.out E5.out).mono ?_; rw [E6.out]; rintro e wr ⟨za, zc, ka, kc, rfl, hz, hkr, hb⟩; clear x0 x1 x2 x3 x4 x5 x6; have hal := (Below.refl _ wr).alloc (Nat.le_refl _) (.cells #[.int .i64 (N : Int), .bool hold, .slice za Z.length zc] 24); have HNT := Lib.hid (heap_alloc_new wr (.cells #[.int .i64 (N : Int), .bool hold, .slice za Z.length zc] 24)); have HZ := Lib.hid (hz.below' hal); have HL := Lib.hid (hkr.below' hal); have HBR := Lib.hid (HB.out.trans (hb.mono HB.out.size)); have HB := Lib.hid ((HB.out.trans (hb.mono HB.out.size)).trans (hal.mono (by have h1 := HB.out.size; have h2 := hb.size; omega))); have n0 := cell_whole HNT.out 0; have n1 := cell_whole HNT.out 1; have n2 := cell_whole HNT.out 2; have HZ0 := Lib.hid hz; have HL0 := Lib.hid hkr; have HGS : Hid (w.heap.size ≤ wr.heap.size) := Lib.hid (by have h1 := HB.out.size; have h2 := HBR.out.size; omega); have HQ := Lib.hid hal; clear hz hkr hb hal HX HR HK)
      | (go_at_call 18; refine (nstill_any (N : Int) hold za zc Z.length Z (i : Int) (j : Int) (H : Int) ka kc L.length L _ HZ.out HZ4.out HL.out HOK.out HL2.out rfl rfl).mono ?_; rw [HB0.out, HF1.out]; rintro e wn ⟨rfl, hb⟩; have HQ := Lib.hid (HQ.out.trans (hb.mono HQ.out.size)); have hn := kept_box HNT.out hb; have m0 := cell_whole hn 0; have m1 := cell_whole hn 1; have m2 := cell_whole hn 2; have f1 := frozen_whole hn 1; have hs1 := set_whole hn 1 (.bool true); have HNT := Lib.hid hs1; have n0 := cell_whole hs1 0; have n1 := cell_whole hs1 1; have n2 := cell_whole hs1 2; have HQ := Lib.hid (below_set HQ.out (g := wr.heap.size) (Nat.le_refl _) (.bool true) (j := 1)); clear hs1; have HZ := Lib.hid (HZ0.out.below' HQ.out); have HL := Lib.hid (HL0.out.below' HQ.out); have HB := Lib.hid (HBR.out.trans (HQ.out.mono HGS.out)); clear hb hn))
    refine (nchk14_any (N : Int) true za zc Z.length Z (i : Int) (j : Int) (H : Int) ka kc L.length L _ HZ.out HZ4.out HL.out HOK.out HL2.out rfl rfl).mono ?_
    rw [HV1.out, HF1.out]
    rintro e wn ⟨rfl, hb⟩
    have HQ := Lib.hid (HQ.out.trans (hb.mono HQ.out.size))
    have hn := kept_box HNT.out hb
    have m0 := cell_whole hn 0
    have m1 := cell_whole hn 1
    have m2 := cell_whole hn 2
    have f1 := frozen_whole hn 1
    have hs1 := set_whole hn 1 (.bool false)
    have HNT := Lib.hid hs1
    have n0 := cell_whole hs1 0
    have n1 := cell_whole hs1 1
    have n2 := cell_whole hs1 2
    have HQ := Lib.hid (below_set HQ.out (g := wr.heap.size) (Nat.le_refl _) (.bool false) (j := 1))
    clear hs1
    have HZ := Lib.hid (HZ0.out.below' HQ.out)
    have HL := Lib.hid (HL0.out.below' HQ.out)
    have HB := Lib.hid (HBR.out.trans (HQ.out.mono HGS.out))
    clear hb hn
    go_wp2_with (fail)
    refine (nchk14_any (N : Int) false za zc Z.length Z (i : Int) (j : Int) (H : Int) ka kc L.length L _ HZ.out HZ4.out HL.out HOK.out HL2.out rfl rfl).mono ?_
    rw [HV2.out, HF2.out]
    rintro e wn ⟨rfl, hb⟩
    have HB := Lib.hid (HB.out.trans (hb.mono HB.out.size))
    have hn := 0
    clear hb hn
    go_wp2_with (fail)
    go_ret
    exact ⟨by simp, HB.out⟩
end Go.Proofs.Ytedficnaipiplaa
