/- ExpandMoves. -/
import Derived.Test.YtbkmfjegbmjknaaUSmf
import Derived.Test.YtbkmfjegbmjknaaUSme
import Derived.Test.YtbkmfjegbmjknaaBY
import Derived.Test.YtbkmfjegbmjknaaCG
namespace Go.Proofs.Ytbkmfjegbmjknaa
open Go.RowKit
set_option linter.unusedVariables false
set_option maxRecDepth 100000 in
set_option maxHeartbeats 16000000 in
theorem umvs_law (nn s t sp : Int) (hold : Bool) (ba : Option Addr) (bc : Nat) (B : List BitT) (fo yo : Option Addr) (fl fc yl yc : Nat) (F Y : List Int) (w : World) (hr : Row encBit 4 w ba B) (hB : ∀ x ∈ B, BitOk x) (hbl : B.length ≤ maxLen) (hn : ByteB nn) (hs : ByteB s) (ht : ByteB t) (hp : ByteB sp) (hf : Lst encI w fo F) (hfl : F.length = fl) (hy : Lst encI w yo Y) (hyl : Y.length = yl) :
    Calls Try.prog 5 #[.agg #[.int .u8 nn, .bool hold, .slice ba B.length bc, .int .u8 s, .int .u8 t, .int .u8 sp], .slice fo fl fc, .slice yo yl yc] w fun e w' => e = .returned (.bool true) ∧ Below w.heap.size w w' := by
  have hb00 := (Below.refl _ w).alloc (Nat.le_refl _) (.cells #[.int .u8 nn, .bool hold, .slice ba B.length bc, .int .u8 s, .int .u8 t, .int .u8 sp] 41)
  have HB := Lib.hid hb00
  have HX := Lib.hid (heap_alloc_new w (.cells #[.int .u8 nn, .bool hold, .slice ba B.length bc, .int .u8 s, .int .u8 t, .int .u8 sp] 41))
  have HR := Lib.hid (hr.below' hb00)
  have x0 := cell_whole HX.out 0
  have x1 := cell_whole HX.out 1
  have x2 := cell_whole HX.out 2
  have x3 := cell_whole HX.out 3
  have x4 := cell_whole HX.out 4
  have x5 := cell_whole HX.out 5
  have HBB := Lib.hid hB
  have HNN := Lib.hid (And.intro hn (And.intro hs (And.intro ht hp)))
  have HBL := Lib.hid hbl
  obtain ⟨N, i, j, H, Z, e1, e2, e3, e4, e5, hF0⟩ := sm_facts 8 nn s t sp B
  have E1 := Lib.hid e1
  have E2 := Lib.hid e2
  have E3 := Lib.hid e3
  have E4 := Lib.hid e4
  have E5 := Lib.hid e5
  have HS := Lib.hid hF0
  have HF := Lib.hid (hf.below hb00)
  have HY := Lib.hid (hy.below hb00)
  have HFL := Lib.hid hfl
  have HYL := Lib.hid hyl
  clear hf hfl hy hyl
  clear hr hb00 hB hbl hn hs ht hp e1 e2 e3 e4 e5 hF0
  obtain ⟨zl, hzl⟩ : ∃ zl, Z.length = zl := ⟨_, rfl⟩
  have HZL := Lib.hid hzl
  clear hzl
  obtain ⟨V1, hv1⟩ : ∃ V1, movV (N : Int) Z (i : Int) (j : Int) (H : Int) hold F = V1 := ⟨_, rfl⟩
  obtain ⟨R1, hr1⟩ : ∃ R1, movE (N : Int) Z (i : Int) (j : Int) (H : Int) hold F = R1 := ⟨_, rfl⟩
  have HV1 := Lib.hid hv1
  have HR1 := Lib.hid hr1
  have HVL : Hid (V1.length ≤ 65536) := Lib.hid (by rw [← hv1]; have := movV_len (N : Int) Z (i : Int) (j : Int) (H : Int) hold F (fun _ => HS.out.kinds (by omega) hold); omega)
  have HVM : Hid (∀ G, (movV (N : Int) Z (i : Int) (j : Int) (H : Int) hold G).length ≤ 65536) := Lib.hid (fun G => by have := movV_len (N : Int) Z (i : Int) (j : Int) (H : Int) hold G (fun _ => HS.out.kinds (by omega) hold); omega)
  obtain ⟨vl, hvl⟩ : ∃ vl, V1.length = vl := ⟨_, rfl⟩
  have HVN := Lib.hid hvl
  clear hv1 hr1 hvl
  have q0 : (R1 != R1) = false := by simp
  go_enter Try.func5, Try.ntmps5
  go_wp2_with (first
    | (go_at_call 24; have hgate := HC; clear hgate; refine (rarcs_sm hold za zl zc Z N i j H _ HZ.out HZL.out HS.out (by omega)).mono ?_; rintro e w7 ⟨oa, oc, kv, al, rfl, hal, hb⟩; have HF := Lib.hid (HF.out.below hb); have HY := Lib.hid (HY.out.below hb); have HZ := Lib.hid (HZ.out.below' hb); have hn := kept_box HNT.out hb; have HNT := Lib.hid hn; have n0 := cell_whole hn 0; have n1 := cell_whole hn 1; have n2 := cell_whole hn 2; have HB := Lib.hid (HB.out.trans (hb.mono HB.out.size)); clear hn; have HAL := Lib.hid hal; clear hb hal)
    | (go_at_call 23; refine (samemoves_any pa qa vl vl pc qc V1 _ HVN.out HVN.out HP.out HQ.out HVL.out).mono ?_; rintro e wx ⟨rfl, nd, rfl⟩; have hb := below_drewN (Below.refl wn.heap.size wn) nd; have HF := Lib.hid (HF.out.below hb); have HY := Lib.hid (HY.out.below hb); have HZ := Lib.hid (HZ.out.below' hb); have hn := kept_box HNT.out hb; have HNT := Lib.hid hn; have n0 := cell_whole hn 0; have n1 := cell_whole hn 1; have n2 := cell_whole hn 2; have HB := Lib.hid (HB.out.trans (hb.mono HB.out.size)); clear hn; have HC := HP; clear hb)
    | (go_at_call 22; refine (rmoves_sm hold za fo zl zc fl fc Z N i j H F _ HZ.out HZL.out HF.out HFL.out HS.out (by omega)).mono ?_; unfold MovRes; rw [HV1.out, HR1.out, HVN.out]; rintro e wn ⟨qa, qc, rfl, hmv, hb⟩; have HF := Lib.hid (HF.out.below hb); have HY := Lib.hid (HY.out.below hb); have HP := Lib.hid (HP.out.below' hb); have HZ := Lib.hid (HZ.out.below' hb); have hn := kept_box HNT.out hb; have HNT := Lib.hid hn; have n0 := cell_whole hn 0; have n1 := cell_whole hn 1; have n2 := cell_whole hn 2; have HB := Lib.hid (HB.out.trans (hb.mono HB.out.size)); clear hn; have HQ := Lib.hid hmv; clear hb hmv)
    | (go_at_call 21; refine (umoves_sm hold za fo zl zc fl fc Z N i j H F _ HZ.out HZL.out HF.out HFL.out HS.out (by omega)).mono ?_; unfold MovRes; rw [HV1.out, HR1.out, HVN.out]; rintro e wn ⟨pa, pc, rfl, hmv, hb⟩; have HF := Lib.hid (HF.out.below hb); have HY := Lib.hid (HY.out.below hb); have HZ := Lib.hid (HZ.out.below' hb); have hn := kept_box HNT.out hb; have HNT := Lib.hid hn; have n0 := cell_whole hn 0; have n1 := cell_whole hn 1; have n2 := cell_whole hn 2; have HB := Lib.hid (HB.out.trans (hb.mono HB.out.size)); clear hn; have HP := Lib.hid hmv; clear hb hmv)
    | (go_at_call 20; refine (read12_any 8 nn s t sp hold ba bc B _ HR.out HBB.out HBL.out (by omega) HNN.out.1 HNN.out.2.1 HNN.out.2.2.1 HNN.out.2.2.2).mono ?_; rw [E5.out, E1.out, E2.out, E3.out, E4.out]; rintro e wr1 ⟨za, zc, rfl, hz, hb⟩; rw [HZL.out]; have hal := (Below.refl _ wr1).alloc (Nat.le_refl _) (.cells #[.int .i64 (N : Int), .bool hold, .slice za zl zc] 24); have HNT := Lib.hid (heap_alloc_new wr1 (.cells #[.int .i64 (N : Int), .bool hold, .slice za zl zc] 24)); have HZ := Lib.hid (hz.below' hal); have hb := hb.trans (hal.mono hb.size); have HF := Lib.hid (HF.out.below hb); have HY := Lib.hid (HY.out.below hb); have HB := Lib.hid (HB.out.trans (hb.mono HB.out.size)); have n0 := cell_whole HNT.out 0; have n1 := cell_whole HNT.out 1; have n2 := cell_whole HNT.out 2; clear x0 x1 x2 x3 x4 x5 hz hb hal HX HR))
  have hal2 := HAL.out
  clear n0 n1 n2 HP HQ HC q0
  go_loopw [17, 18] (fun hv iv wr => ∃ (p : Nat) (L : List Int), p ≤ al ∧ iv = .int .i64 (p : Int) ∧ L.length = p ∧ Hid (OwnL encI wr w7.heap.size 3 hv L) ∧ Hid (Below w7.heap.size w7 wr)) (fun _ iv _ => al - (intOf iv).toNat)
  case atStart => exact ⟨0, [], Nat.zero_le _, rfl, rfl, Lib.hid (OwnL.nil _ _ _), Lib.hid (Below.refl _ _)⟩
  case round =>
    obtain ⟨p, L, hp, rfl, hL, HO, HW⟩ := hrel
    by_cases hlt : p < al
    · have hli : (p : Int) < (al : Int) := by omega
      have HLL := Lib.hid hL
      have hro : L.length ≤ 200000 := by omega
      have HRO := Lib.hid hro
      clear hL hro
      by_cases hpm : p < yl
      · have hpi : (p : Int) < (yl : Int) := by omega
        have hpy : p < Y.length := by rw [HYL.out]; exact hpm
        obtain ⟨yb, yx, e, _, hyc⟩ := lst_cell (HY.out.below HW.out) (List.getElem?_eq_getElem hpy)
        subst e
        unfold encI at hyc
        generalize Y[p] = y at *
        obtain ⟨r, hr⟩ : ∃ r, bits .and .i64 y 7 = r := ⟨_, rfl⟩
        clear hpy
        have hb0 := (Below.refl wr.heap.size wr).alloc (Nat.le_refl _) (.cells #[.int .i64 r] 3)
        have HOA := Lib.hid (HO.out.below hb0)
        have HWA := Lib.hid (HW.out.trans (hb0.mono HW.out.size))
        clear hb0
        go_wp2_with (at_builtin; refine wpList_append_one (enc := encI) Try.underlying42 infoInt rfl (by omega) rfl _ _ rfl w7.heap.size _ L r rfl rfl HOA.out _ 1 rfl (cell_new' (by simp) _ _ 0) HRO.out HWA.out.size ?_; intro g4 cap4 w4 ho4 hg4 hl4 hb4 hlt4; have HO4 := Lib.hid ho4; have HB4 := Lib.hid (HWA.out.grown hg4 HWA.out.size (fun g e => own_block HOA.out e)); clear ho4 hg4 hl4)
        go_roundw
        case rel => exact ⟨p + 1, L ++ [r], by omega, by go_num, by rw [List.length_append, HLL.out]; rfl, HO4, HB4⟩
        case measure => simp [intOf]; omega
      · have hpi : ¬ (p : Int) < (yl : Int) := by omega
        have hb0 := (Below.refl wr.heap.size wr).alloc (Nat.le_refl _) (.cells #[.int .i64 0] 3)
        have HOA := Lib.hid (HO.out.below hb0)
        have HWA := Lib.hid (HW.out.trans (hb0.mono HW.out.size))
        clear hb0
        go_wp2_with (at_builtin; refine wpList_append_one (enc := encI) Try.underlying42 infoInt rfl (by omega) rfl _ _ rfl w7.heap.size _ L 0 rfl rfl HOA.out _ 1 rfl (cell_new' (by simp) _ _ 0) HRO.out HWA.out.size ?_; intro g4 cap4 w4 ho4 hg4 hl4 hb4 hlt4; have HO4 := Lib.hid ho4; have HB4 := Lib.hid (HWA.out.grown hg4 HWA.out.size (fun g e => own_block HOA.out e)); clear ho4 hg4 hl4)
        go_roundw
        case rel => exact ⟨p + 1, L ++ [0], by omega, by go_num, by rw [List.length_append, HLL.out]; rfl, HO4, HB4⟩
        case measure => simp [intOf]; omega
    · have hli : ¬ (p : Int) < (al : Int) := by omega
      obtain ⟨ho, hc, rfl, hlst⟩ := HO.out.lst
      obtain ⟨ll, hll⟩ : ∃ ll, L.length = ll := ⟨_, rfl⟩
      have HLL := Lib.hid hll
      rw [hll]
      have HL := Lib.hid hlst
      have hb := HW.out
      have HF := Lib.hid (HF.out.below hb); have HY := Lib.hid (HY.out.below hb); have HZ := Lib.hid (HZ.out.below' hb); have hn := kept_box HNT.out hb; have HNT := Lib.hid hn; have n0 := cell_whole hn 0; have n1 := cell_whole hn 1; have n2 := cell_whole hn 2; have HB := Lib.hid (HB.out.trans (hb.mono HB.out.size)); clear hn
      obtain ⟨V2, hv2⟩ : ∃ V2, movV (N : Int) Z (i : Int) (j : Int) (H : Int) hold L = V2 := ⟨_, rfl⟩
      obtain ⟨R2, hr2⟩ : ∃ R2, movE (N : Int) Z (i : Int) (j : Int) (H : Int) hold L = R2 := ⟨_, rfl⟩
      have HV2 := Lib.hid hv2
      have HR2 := Lib.hid hr2
      have HVL2 : Hid (V2.length ≤ 65536) := Lib.hid (by rw [← hv2]; exact HVM.out L)
      obtain ⟨vm, hvm⟩ : ∃ vm, V2.length = vm := ⟨_, rfl⟩
      have HVN2 := Lib.hid hvm
      have q1 : (R2 == R2) = true := by simp
      clear hv2 hr2 hvm hll hlst hL hb HO HW
      go_wp2_with (first
        | (go_at_call 23; refine (samemoves_any pa qa vm vm pc qc V2 _ HVN2.out HVN2.out HP.out HQ.out HVL2.out).mono ?_; rintro e wx ⟨rfl, nd, rfl⟩; have hb := below_drewN (Below.refl wn.heap.size wn) nd; have HB := Lib.hid (HB.out.trans (hb.mono HB.out.size)); clear hb)
        | (go_at_call 14; have hgate := HQ; clear hgate; refine (uawake_any _).mono ?_; rintro e wn ⟨rfl, hb⟩; have HP := Lib.hid (HP.out.below' hb); have HQ := Lib.hid (HQ.out.below' hb); have HB := Lib.hid (HB.out.trans (hb.mono HB.out.size)); clear hb)
        | (go_at_call 22; refine (rmoves_sm hold za ho zl zc ll hc Z N i j H L _ HZ.out HZL.out HL.out HLL.out HS.out (by omega)).mono ?_; unfold MovRes; rw [HV2.out, HR2.out, HVN2.out]; rintro e wn ⟨qa, qc, rfl, hmv, hb⟩; have HF := Lib.hid (HF.out.below hb); have HY := Lib.hid (HY.out.below hb); have HP := Lib.hid (HP.out.below' hb); have HL := Lib.hid (HL.out.below hb); have HZ := Lib.hid (HZ.out.below' hb); have hn := kept_box HNT.out hb; have HNT := Lib.hid hn; have n0 := cell_whole hn 0; have n1 := cell_whole hn 1; have n2 := cell_whole hn 2; have HB := Lib.hid (HB.out.trans (hb.mono HB.out.size)); clear hn; have HQ := Lib.hid hmv; clear hb hmv)
        | (go_at_call 21; refine (umoves_sm hold za ho zl zc ll hc Z N i j H L _ HZ.out HZL.out HL.out HLL.out HS.out (by omega)).mono ?_; unfold MovRes; rw [HV2.out, HR2.out, HVN2.out]; rintro e wn ⟨pa, pc, rfl, hmv, hb⟩; have HF := Lib.hid (HF.out.below hb); have HY := Lib.hid (HY.out.below hb); have HL := Lib.hid (HL.out.below hb); have HZ := Lib.hid (HZ.out.below' hb); have hn := kept_box HNT.out hb; have HNT := Lib.hid hn; have n0 := cell_whole hn 0; have n1 := cell_whole hn 1; have n2 := cell_whole hn 2; have HB := Lib.hid (HB.out.trans (hb.mono HB.out.size)); clear hn; have HP := Lib.hid hmv; clear hb hmv))
      go_ret
      exact ⟨by simp, HB.out⟩
end Go.Proofs.Ytbkmfjegbmjknaa
