/- ExpandPlans. -/
import Derived.Test.YtbkmfjegbmjknaaUPlf
import Derived.Test.YtbkmfjegbmjknaaBY
import Derived.Test.YtbkmfjegbmjknaaHLws
namespace Go.Proofs.Ytbkmfjegbmjknaa
open Go.RowKit
set_option linter.unusedVariables false
set_option maxRecDepth 100000 in
set_option maxHeartbeats 8000000 in
theorem uplans_law (nn s t sp : Int) (hold : Bool) (ba : Option Addr) (bc : Nat) (B : List BitT) (la : Option Addr) (lc : Nat) (K : List ByT) (w : World) (hr : Row encBit 4 w ba B) (hB : ∀ x ∈ B, BitOk x) (hbl : B.length ≤ maxLen) (hn : ByteB nn) (hs : ByteB s) (ht : ByteB t) (hp : ByteB sp) (hkl : K.length ≤ maxLen) (hk : Row encBy 3 w la K) (hK : ∀ x ∈ K, ByOk x) :
    Calls Try.prog 8 #[.agg #[.int .u8 nn, .bool hold, .slice ba B.length bc, .int .u8 s, .int .u8 t, .int .u8 sp, .slice la K.length lc]] w fun e w' => e = .returned (.bool true) ∧ Below w.heap.size w w' := by
  have hb00 := (Below.refl _ w).alloc (Nat.le_refl _) (.cells #[.int .u8 nn, .bool hold, .slice ba B.length bc, .int .u8 s, .int .u8 t, .int .u8 sp, .slice la K.length lc] 55)
  have HB := Lib.hid hb00
  have HX := Lib.hid (heap_alloc_new w (.cells #[.int .u8 nn, .bool hold, .slice ba B.length bc, .int .u8 s, .int .u8 t, .int .u8 sp, .slice la K.length lc] 55))
  have HR := Lib.hid (hr.below' hb00)
  have HK := Lib.hid (hk.below' hb00)
  have x0 := cell_whole HX.out 0
  have x1 := cell_whole HX.out 1
  have x2 := cell_whole HX.out 2
  have x3 := cell_whole HX.out 3
  have x4 := cell_whole HX.out 4
  have x5 := cell_whole HX.out 5
  have x6 := cell_whole HX.out 6
  have HBB := Lib.hid hB
  have HKK := Lib.hid hK
  have HKL := Lib.hid hkl
  have HNN := Lib.hid (And.intro hn (And.intro hs (And.intro ht hp)))
  have HBL := Lib.hid hbl
  obtain ⟨N, i, j, H, Z, L, e1, e2, e3, e4, e5, e6, hF⟩ := case_facts nn s t sp B K
  have E1 := Lib.hid e1
  have E2 := Lib.hid e2
  have E3 := Lib.hid e3
  have E4 := Lib.hid e4
  have E5 := Lib.hid e5
  have E6 := Lib.hid e6
  have HF := Lib.hid hF
  have hH7 := hF.hor
  have HZ4 : Hid (Z.length ≤ 4398046511104) := Lib.hid (by have := hF.arcs; omega)
  have HOK := Lib.hid hF.okK
  have HL2 : Hid (L.length ≤ 200) := Lib.hid (by have := hF.len; omega)
  clear hr hb00 hB hbl hn hs ht hp e1 e2 e3 e4 e5 e6 hF hk hK hkl
  have HXP : Hid (xpE (N : Int) Z (i : Int) (j : Int) (H : Int) = 0) := Lib.hid (HF.out.sm.xpe (by omega))
  obtain ⟨k0, hv1⟩ : ∃ k0, plnV (N : Int) Z (i : Int) (j : Int) (H : Int) hold L = k0 := ⟨_, rfl⟩
  obtain ⟨e0, he0⟩ : ∃ e0, plnE (N : Int) Z (i : Int) (j : Int) (H : Int) hold L = e0 := ⟨_, rfl⟩
  have HV1 := Lib.hid hv1
  have HE0 := Lib.hid he0
  have HE2 : Hid (floE (N : Int) Z (i : Int) (j : Int) (H : Int) hold L = e0) := Lib.hid (by unfold floE; rw [if_pos HXP.out, he0])
  obtain ⟨V, hv0⟩ : ∃ V, floV (N : Int) Z (i : Int) (j : Int) (H : Int) hold L = V := ⟨_, rfl⟩
  have HV0 := Lib.hid hv0
  have hee : (e0 == e0) = true := by simp
  by_cases hz : e0 = 0
  · subst hz
    obtain ⟨q, hq⟩ : ∃ q : Nat, (H + 1) * N = q := ⟨_, rfl⟩
    obtain ⟨nb, hnb⟩ : ∃ nb : Nat, q + 2 = nb := ⟨_, rfl⟩
    obtain ⟨r, hr⟩ : ∃ r : Nat, q + 1 = r := ⟨_, rfl⟩
    have hpf := pln_facts HF.out hold hq he0
    rw [hv0, hv1] at hpf
    have HBN : Hid (bldN (N : Int) Z (i : Int) (j : Int) (H : Int) = (nb : Int) ∧ bldA (N : Int) Z (i : Int) (j : Int) (H : Int) hold = (⟨Z, N, i, j, H, hold⟩ : Exp).net ∧ xpE (N : Int) Z (i : Int) (j : Int) (H : Int) = 0) := Lib.hid (by
      unfold bldN bldA
      rw [if_pos HXP.out, if_pos HXP.out]
      refine ⟨?_, rfl, HXP.out⟩
      rw [← hnb, ← hq]; simp)
    have hq40 : q ≤ 40 := by
      rw [← hq]
      exact Nat.le_trans (Nat.mul_le_mul (show H + 1 ≤ 8 by have := HF.out.hor; omega) (show N ≤ 5 from HF.out.nodes.2)) (by omega)
    have HPF := Lib.hid hpf
    generalize (⟨Z, N, i, j, H, hold⟩ : Exp).net = A at *
    obtain ⟨al, hal⟩ : ∃ al, A.length = al := ⟨_, rfl⟩
    have HAL := Lib.hid hal
    have HVL : Hid (V.length = al) := Lib.hid (by rw [hpf.len.1]; exact hal)
    have hal2 : al ≤ 200 := by rw [← hal]; exact hpf.len.2
    have hk0 : k0 ≤ 879609302220800 ∧ -879609302220800 ≤ k0 := by
      have h1 := balK_bd (Z := A) (f := V) (M := 1099511627776) (by omega) (fun p a ha => by
        have hp : p < V.length := by rw [hpf.len.1]; exact (List.getElem?_eq_some_iff.1 ha).1
        have h2 := hpf.flow p a _ ha (List.getElem?_eq_getElem hp)
        have e : atI V p = V[p] := by unfold atI; rw [List.getD_eq_getElem?_getD, List.getElem?_eq_getElem hp]; rfl
        rw [e]; omega) q A.length
      rw [hpf.first, hal] at h1
      omega
    have HNB := Lib.hid hnb
    have HRQ := Lib.hid hr
    have hw3 : IntKind.i64.wrap ((nb : Int) - 2) = (q : Int) := by rw [show (nb : Int) - 2 = (q : Int) by omega]; exact IntWalk.i64_in _ (by omega)
    have hw4 : IntKind.i64.wrap ((nb : Int) - 1) = (r : Int) := by rw [show (nb : Int) - 1 = (r : Int) by omega]; exact IntWalk.i64_in _ (by omega)
    have hwk : IntKind.i64.wrap (-k0) = -k0 := IntWalk.i64_in _ (by omega)
    have hx0 : ((0 : Int) != 0) = false := rfl
    have haa : ((al : Int) != (al : Int)) = false := by simp
    have HK0 := Lib.hid hk0
    have hmk := fun W => run_make_row' (P := Try.prog) 42 3 (.int .i64 0) 8 Try.underlying42 infoInt rfl .i64 .i64 nb (by omega) (by omega) W
    clear hq hpf hal hv1 he0 hv0 hk0 hnb hr
    go_enter Try.func8, Try.ntmps8
    go_wp2_with (first
      | (go_at_call 14; refine (uawake_any _).mono ?_; rintro e wn ⟨rfl, hb⟩; have HR := Lib.hid (HR.out.below' hb); have HK := Lib.hid (HK.out.below' hb); have hn := kept_box HX.out hb; have HX := Lib.hid hn; have x0 := cell_whole hn 0; have x1 := cell_whole hn 1; have x2 := cell_whole hn 2; have x3 := cell_whole hn 3; have x4 := cell_whole hn 4; have x5 := cell_whole hn 5; have x6 := cell_whole hn 6; have HB := Lib.hid (HB.out.trans (hb.mono HB.out.size)); clear hb hn)
      | (go_at_call 25; refine (read14_any nn s t sp hold ba bc B la lc K _ HR.out HBB.out HBL.out HNN.out.1 HNN.out.2.1 HNN.out.2.2.1 HNN.out.2.2.2 HK.out HKK.out HKL.out N i j H Z E1.out E2.out E3.out E4.out E5.out).mono ?_; rw [E6.out]; rintro e wr ⟨za, zc, ka, kc, rfl, hz, hkr, hb⟩; clear x0 x1 x2 x3 x4 x5 x6; have hal := (Below.refl _ wr).alloc (Nat.le_refl _) (.cells #[.int .i64 (N : Int), .bool hold, .slice za Z.length zc] 24); have HNT := Lib.hid (heap_alloc_new wr (.cells #[.int .i64 (N : Int), .bool hold, .slice za Z.length zc] 24)); have HZ := Lib.hid (hz.below' hal); have HL := Lib.hid (hkr.below' hal); have HBR := Lib.hid (HB.out.trans (hb.mono HB.out.size)); have HB := Lib.hid ((HB.out.trans (hb.mono HB.out.size)).trans (hal.mono (by have h1 := HB.out.size; have h2 := hb.size; omega))); have n0 := cell_whole HNT.out 0; have n1 := cell_whole HNT.out 1; have n2 := cell_whole HNT.out 2; have HZ0 := Lib.hid hz; have HL0 := Lib.hid hkr; have HGS : Hid (w.heap.size ≤ wr.heap.size) := Lib.hid (by have h1 := HB.out.size; have h2 := HBR.out.size; omega); clear hz hkr hb hal HX HR HK)
      | (go_at_call 29; refine (rchk14_any (N : Int) hold za zc Z.length Z (i : Int) (j : Int) (H : Int) ka kc L.length L _ HZ.out HZ4.out HL.out HOK.out HL2.out rfl rfl).mono ?_; rw [HV1.out, HE0.out]; rintro e wn ⟨rfl, hb⟩; have HZ := Lib.hid (HZ.out.below' hb); have HL := Lib.hid (HL.out.below' hb); have hn := kept_box HNT.out hb; have HNT := Lib.hid hn; have n0 := cell_whole hn 0; have n1 := cell_whole hn 1; have n2 := cell_whole hn 2; have HB := Lib.hid (HB.out.trans (hb.mono HB.out.size)); clear hb hn)
      | (go_at_call 26; refine (uflow_case hold za ka zc kc Z N i j H L _ HZ.out HL.out HOK.out HL2.out HF.out).mono ?_; unfold FloRes; rw [HV0.out, HE2.out, HVL.out]; rintro e wn ⟨pa, pc, rfl, hf, hb⟩; have HZ := Lib.hid (HZ.out.below' hb); have HL := Lib.hid (HL.out.below' hb); have hn := kept_box HNT.out hb; have HNT := Lib.hid hn; have n0 := cell_whole hn 0; have n1 := cell_whole hn 1; have n2 := cell_whole hn 2; have HB := Lib.hid (HB.out.trans (hb.mono HB.out.size)); have HP := Lib.hid hf; clear hb hn hf)
      | (go_at_call 17; refine (ubuild_any (N : Int) hold za Z.length zc Z (i : Int) (j : Int) (H : Int) _ HZ.out rfl HZ4.out).mono ?_; unfold BldRes; rw [HBN.out.1, HBN.out.2.1, HBN.out.2.2, HAL.out]; rintro e w3 ⟨oa, oc, rfl, hra, hb⟩; have HZ := Lib.hid (HZ.out.below' hb); have HL := Lib.hid (HL.out.below' hb); have hn := kept_box HNT.out hb; have HNT := Lib.hid hn; have n0 := cell_whole hn 0; have n1 := cell_whole hn 1; have n2 := cell_whole hn 2; have HB := Lib.hid (HB.out.trans (hb.mono HB.out.size)); have HP := Lib.hid (HP.out.below hb); have HG := Lib.hid hra; clear hb hn hra)
      | ((with_reducible show wpList _ _ _ (Oper.mk none (Op.store 24 _ _) _ _ _ _ :: _) _ _); refine wpList_store_box sizeNet15 rfl _ _ rfl w3.heap.size _ [.int .i64 (nb : Int), .bool false, .slice oa al oc] rfl rfl (heap_alloc_new w3 _) rfl rfl (net_one _ _ _ _ _) ?_; intro w4 hg3 hk3; have hb : Below w3.heap.size w3 w4 := ((Below.refl _ w3).alloc (Nat.le_refl _) _).trans (hk3.below (by simp) (fun i e => by have e2 : i = w3.heap.size := e; omega)); have HZ := Lib.hid (HZ.out.below' hb); have HL := Lib.hid (HL.out.below' hb); have hn := kept_box HNT.out hb; have HNT := Lib.hid hn; have n0 := cell_whole hn 0; have n1 := cell_whole hn 1; have n2 := cell_whole hn 2; have HB := Lib.hid (HB.out.trans (hb.mono HB.out.size)); have HP := Lib.hid (HP.out.below hb); have HG := Lib.hid (HG.out.below' hb); have HGB := Lib.hid hg3; have g0 := cell_whole hg3 0; have g1 := cell_whole hg3 1; have g2 := cell_whole hg3 2; clear hb hn hg3 hk3))
    have HMO : Hid (OwnL encI (w4.alloc (.cells (madeCells #[.int .i64 0] nb) 3)) w4.heap.size 3 (.slice (some ⟨w4.heap.size, 0, none⟩) nb nb) (blcL A V nb 0)) := Lib.hid (by
      rw [← blcL_zero A V nb]
      exact madeI w4 w4.heap.size nb (Nat.le_refl _) (by have := HNB.out; omega))
    have HMB := Lib.hid ((Below.refl w4.heap.size w4).alloc (Nat.le_refl _) (.cells (madeCells #[.int .i64 0] nb) 3))
    obtain ⟨gB, hgB⟩ : ∃ gB, w4.heap.size = gB := ⟨_, rfl⟩
    have HGZ := Lib.hid hgB
    rw [hgB] at HMO
    try rw [hgB]
    clear hgB hmk n0 n1 n2 g0 g1 g2
    generalize w4.alloc (.cells (madeCells #[.int .i64 0] nb) 3) = w5 at *
    go_loopw [16] (fun iv wr => ∃ p : Nat, p ≤ al ∧ iv = .int .i64 (p : Int) ∧ Hid (OwnL encI wr gB 3 (.slice (some ⟨gB, 0, none⟩) nb nb) (blcL A V nb p)) ∧ Hid (Below w4.heap.size w4 wr)) (fun iv _ => al - (intOf iv).toNat)
    case atStart => exact ⟨0, Nat.zero_le _, rfl, HMO, HMB⟩
    case round =>
      clear HMO HMB
      obtain ⟨p, hp, rfl, HO, HW⟩ := hrel
      by_cases hlt : p < al
      · have hli : (p : Int) < (al : Int) := by omega
        have h1 : p < A.length := by rw [HAL.out]; exact hlt
        have h2 : p < V.length := by rw [HVL.out]; exact hlt
        have hg := kept_box HGB.out HW.out
        have g2 := cell_whole hg 2
        obtain ⟨ab, ax, e, hab, d0, d1, d2, d3⟩ := arc_at (HG.out.below' HW.out) (List.getElem?_eq_getElem h1)
        subst e
        obtain ⟨fb, fx, e, hfb, hf⟩ := lst_cell (HP.out.below HW.out) (List.getElem?_eq_getElem h2)
        subst e
        unfold encI at hf
        have HFB : Hid (fb < gB) := Lib.hid (by obtain ⟨b', o', e, hb', _⟩ := HP.out p h2; cases e; rw [← HGZ.out]; exact hb')
        obtain ⟨c1, c2, c3, c4⟩ := HPF.out.casts _ (List.getElem_mem h1)
        obtain ⟨u1, u2, u3⟩ := HPF.out.flow p _ _ (List.getElem?_eq_getElem h1) (List.getElem?_eq_getElem h2)
        rw [HNB.out] at c3 c4
        obtain ⟨y2, hy2, hy2e, hst⟩ := blcL_step (List.getElem?_eq_getElem h1) (List.getElem?_eq_getElem h2) c3 c4
        have hy1 := blcL_at (A := A) (F := V) (p := p) c3
        have hbd1 := HPF.out.bd (frN A[p]) p (by omega)
        have hbd2 := HPF.out.bd (toN A[p]) p (by omega)
        generalize A[p] = a at *
        generalize V[p] = x at *
        obtain ⟨fr, hfr⟩ : ∃ fr, frN a = fr := ⟨_, rfl⟩
        obtain ⟨to_, hto⟩ : ∃ to_, toN a = to_ := ⟨_, rfl⟩
        rw [hfr] at c1 c3 hy2 hy2e hst hy1 hbd1
        rw [hto] at c2 c4 hy2 hy2e hst hbd2
        clear hfr hto
        obtain ⟨a1, a2, a3, a4⟩ := a
        simp only at d0 d1 d2 d3 c1 c2 u2
        subst c1
        subst c2
        generalize balK A V fr p = y1 at *
        generalize balK A V to_ p = y0 at *
        have hyb : -439804651110400 ≤ y2 ∧ y2 ≤ 439804651110400 := by rw [hy2e]; split <;> omega
        have hwa : IntKind.i64.wrap (y1 + x) = y1 + x := IntWalk.i64_in _ (by omega)
        have hws : IntKind.i64.wrap (y2 - x) = y2 - x := IntWalk.i64_in _ (by omega)
        have t1 : decide (x < 0) = false := decide_eq_false (by omega)
        have t2 : decide (a3 < x) = false := decide_eq_false (by omega)
        have t3 : decide ((fr : Int) < 0) = false := decide_eq_false (by omega)
        have t4 : decide ((nb : Int) ≤ (fr : Int)) = false := decide_eq_false (by omega)
        have t5 : decide ((to_ : Int) < 0) = false := decide_eq_false (by omega)
        have t6 : decide ((nb : Int) ≤ (to_ : Int)) = false := decide_eq_false (by omega)
        have t4n : decide (nb ≤ fr) = false := decide_eq_false (by omega)
        have t6n : decide (nb ≤ to_) = false := decide_eq_false (by omega)
        have t4o : ¬ nb ≤ fr := by omega
        have t6o : ¬ nb ≤ to_ := by omega
        have hfi : (fr : Int) < (nb : Int) := by omega
        have hti : (to_ : Int) < (nb : Int) := by omega
        have HY1 := Lib.hid hy1
        have HY2 := Lib.hid hy2
        have HST := Lib.hid hst
        obtain ⟨g6, hg6⟩ : ∃ g6, wr.heap.size = g6 := ⟨_, rfl⟩
        have hal0 := (Below.refl wr.heap.size wr).alloc (Nat.le_refl _) (.cells #[.int .i64 (fr : Int), .int .i64 (to_ : Int), .int .i64 a3, .int .i64 a4] 64)
        have hnew := heap_alloc_new wr (.cells #[.int .i64 (fr : Int), .int .i64 (to_ : Int), .int .i64 a3, .int .i64 a4] 64)
        rw [hg6] at hnew
        have HO := Lib.hid (HO.out.below hal0)
        have HW := Lib.hid (HW.out.trans (hal0.mono HW.out.size))
        have hf' := cell_below hal0 hf
        have HNW := Lib.hid hnew
        have HFC := Lib.hid hf'
        have b0 := cell_whole hnew 0
        have b1 := cell_whole hnew 1
        have b2 := cell_whole hnew 2
        clear hy2 hy2e hst hy1 hbd1 hbd2 u1 u2 u3 c3 c4 h1 h2 hab hfb hg hal0 hnew hyb
        go_wp2_with fail
        try rw [hg6]
        clear hg6 d0 d1 d2 d3 hf
        generalize wr.alloc (.cells #[.int .i64 (fr : Int), .int .i64 (to_ : Int), .int .i64 a3, .int .i64 a4] 64) = wd at *
        go_quiet (fail)
        go_wp2
        generalize hwx : wd.drewN _ = wx at *
        have hdx : Below wd.heap.size wd wx := by rw [← hwx]; exact below_drewN (Below.refl _ _) _
        have HO := Lib.hid (HO.out.below hdx)
        have HW := Lib.hid (HW.out.trans (hdx.mono HW.out.size))
        have hnx := kept_box HNW.out hdx
        have HNW := Lib.hid hnx
        have hfx := cell_below hdx HFC.out
        have HFC := Lib.hid hfx
        have b0 := cell_whole hnx 0
        have b1 := cell_whole hnx 1
        obtain ⟨s0, s1⟩ := HO.out.cell HY1.out
        unfold encI at s0
        have hgl := own_lt HO.out (g := gB) rfl
        have HGL := Lib.hid hgl
        clear hwx hdx hnx b2
        go_region
        all_goals
          go_wp2
          generalize hwy : World.setCell _ _ _ = wy at *
          have HO2 : Hid (OwnL encI wy gB 3 (.slice (some ⟨gB, 0, none⟩) nb nb) ((blcL A V nb p).set fr (y1 + x))) := Lib.hid (by rw [← hwy]; first | exact OwnL.put (w := wx) HO.out fr (y1 + x) | exact OwnL.put HO.out fr (y1 + x))
          have hw2 : ∀ i, i ≠ gB → wy.heap[i]? = wx.heap[i]? := fun i hi => by rw [← hwy]; exact Below.heap_setCell _ _ _ i hi
          have HW2 : Hid (Below w4.heap.size w4 wy) := Lib.hid (by rw [← hwy]; have h := HGZ.out; first | exact below_set HW.out (by omega) _ | exact below_set (below_drewN HW.out _) (by omega) _)
          have hnz := (hw2 g6 (fun e => by have := own_ne HO.out HNW.out (by decide); exact this (by rw [e]; rfl))).trans HNW.out
          have b0 := cell_whole hnz 0
          have b1 := cell_whole hnz 1
          have hfz := cell_heap (hw2 fb (fun e => by have := HFB.out; omega)) HFC.out
          obtain ⟨s2, s3⟩ := HO2.out.cell HY2.out
          unfold encI at s2
          have hgl2 := own_lt HO2.out (g := gB) rfl
          clear hw2 hnz hwy s0 s1 hgl
          go_region
          all_goals
            go_wp2
            go_roundw
            case rel => exact ⟨p + 1, by omega, by go_num, Lib.hid (by rw [← HST.out]; first | exact OwnL.put (w := wy) HO2.out to_ (y2 - x) | exact OwnL.put HO2.out to_ (y2 - x)), Lib.hid (by have h := HGZ.out; first | exact below_drew (below_drew (below_set HW2.out (Nat.le_of_eq h) _)) | exact below_drew (below_set HW2.out (Nat.le_of_eq h) _) | exact below_set HW2.out (Nat.le_of_eq h) _ | exact below_set (below_drewN HW2.out _) (Nat.le_of_eq h) _ | exact below_set (below_drew HW2.out) (Nat.le_of_eq h) _)⟩
            case measure => simp [intOf]; omega
      · have hli : ¬ (p : Int) < (al : Int) := by omega
        obtain rfl : p = al := by omega
        have HZR : Hid (∀ v, v < q → (blcL A V nb p)[v]? = some 0) := Lib.hid (fun v hv => by
          rw [blcL_at (by have := HNB.out; omega)]
          have := HPF.out.zero v hv
          rw [HAL.out] at this
          rw [this])
        have HQ1 : Hid ((blcL A V nb p)[q]? = some k0) := Lib.hid (by
          rw [blcL_at (by have := HNB.out; omega)]
          have := HPF.out.first
          rw [HAL.out] at this
          rw [this])
        have HQ2 : Hid ((blcL A V nb p)[r]? = some (-k0)) := Lib.hid (by
          rw [blcL_at (by have := HNB.out; have := HRQ.out; omega)]
          have := HPF.out.last
          rw [HAL.out, HRQ.out] at this
          rw [this])
        generalize blcL A V nb p = BL at *
        have hb := HW.out
        have HZ := Lib.hid (HZ.out.below' hb); have HL := Lib.hid (HL.out.below' hb); have hn := kept_box HNT.out hb; have HNT := Lib.hid hn; have n0 := cell_whole hn 0; have n1 := cell_whole hn 1; have n2 := cell_whole hn 2; have HB := Lib.hid (HB.out.trans (hb.mono HB.out.size));
        have HP := Lib.hid (HP.out.below hb)
        clear hb hn
        have hnq := HNB.out
        have hrq := HRQ.out
        have hkk : (k0 == k0) = true := by simp
        have hkn : (-k0 == -k0) = true := by simp
        go_wp2_with fail
        go_loopw [18] (fun iv wz => ∃ v : Nat, v ≤ q ∧ iv = .int .i64 (v : Int) ∧ wz = wr) (fun iv _ => q - (intOf iv).toNat)
        case atStart => exact ⟨0, Nat.zero_le _, rfl, rfl⟩
        case round =>
          obtain ⟨v, hv, rfl, hwz⟩ := hrel
          subst hwz
          have hv2 : IntKind.i64.wrap ((v : Int) + 2) = (v : Int) + 2 := IntWalk.i64_in _ (by omega)
          have hvn : (v : Int) < (nb : Int) := by omega
          by_cases hlv : v < q
          · have hlv2 : (v : Int) + 2 < (nb : Int) := by omega
            obtain ⟨s0, _⟩ := HO.out.cell (HZR.out v hlv)
            unfold encI at s0
            go_wp2_with fail
            go_roundw
            case rel => first | exact ⟨v + 1, by omega, by go_num, rfl⟩ | exact ⟨v + 1, by omega, by go_num, trivial⟩
            case measure => simp [intOf]; omega
          · have hlv2 : ¬ (v : Int) + 2 < (nb : Int) := by omega
            obtain ⟨s0, _⟩ := HO.out.cell HQ1.out
            obtain ⟨s1, _⟩ := HO.out.cell HQ2.out
            unfold encI at s0 s1
            have hqn : (q : Int) < (nb : Int) := by omega
            have hrn : (r : Int) < (nb : Int) := by omega
            have hgl := own_lt HO.out (g := gB) rfl
            have hal3 : Hid (AllIn (mvS L)) := Lib.hid HPF.out.all
            go_wp2_with (first
              | (go_at_call 23; refine (samemoves_any ma qa ml ml mc qc M _ HMLN.out HMLN.out HMA.out HMQ.out HMB2.out).mono ?_; rintro e wx ⟨rfl, nd, rfl⟩; have HB := Lib.hid (HB.out.trans ((below_drewN (Below.refl wn.heap.size wn) nd).mono HB.out.size)))
              | (go_at_call 21; refine (umoves_sm hold za pa Z.length zc p pc Z N i j H V _ HZ.out rfl HP.out HVL.out HF.out.sm (by omega)).mono ?_; unfold MovRes; rw [HPF.out.mov.1, HPF.out.mov.2 M HMP.out HMS.out, HMLN.out]; rintro e wn ⟨ma, mc, rfl, hmv, hb⟩; have HMQ := Lib.hid (HMQ.out.below' hb); have HMA := Lib.hid hmv; have s0 := cell_below hb s0; have s1 := cell_below hb s1; have HB := Lib.hid (HB.out.trans (hb.mono HB.out.size)); clear hb hmv)
              | (go_at_call 30; refine (rmoves_any ka kc L _ HL.out HOK.out HL2.out).mono ?_; rintro e wn ⟨hb, hcs⟩; obtain ⟨qa, qc, M, rfl, hmr, hmp, hms⟩ : ∃ qa qc M, e = .returned (.tuple #[.slice qa (List.length M) qc, .int .i64 0]) ∧ Row encK 3 wn qa M ∧ M.Perm (mvs L) ∧ Sorted kM M := (by rcases hcs with ⟨_, ao, cap, R, h1, h2, h3, h4⟩ | ⟨hno, _⟩; exact ⟨ao, cap, R, h1, h2, h3, h4⟩; exact absurd hal3.out hno); obtain ⟨ml, hml⟩ : ∃ ml, M.length = ml := ⟨_, rfl⟩; rw [hml]; have HMLN := Lib.hid hml; have HMQ := Lib.hid hmr; have HMP := Lib.hid hmp; have HMS := Lib.hid hms; have HMB2 : Hid (M.length ≤ 65536) := Lib.hid (by rw [hmp.length_eq]; have := mvs_len L; have := HL2.out; omega); have HZ := Lib.hid (HZ.out.below' hb); have HL := Lib.hid (HL.out.below' hb); have hn := kept_box HNT.out hb; have HNT := Lib.hid hn; have n0 := cell_whole hn 0; have n1 := cell_whole hn 1; have n2 := cell_whole hn 2; have HB := Lib.hid (HB.out.trans (hb.mono HB.out.size)); have HP := Lib.hid (HP.out.below hb); have s0 := cell_below hb s0; have s1 := cell_below hb s1; clear hb hn hcs hmr hmp hms hml))
            go_ret
            exact ⟨by simp, HB.out⟩
  · have hz2 : (e0 != 0) = true := by simpa using hz
    have HVN : Hid (V = []) := Lib.hid (by rw [← hv0]; unfold floV; rw [HE2.out, if_neg hz])
    have HVL : Hid (V.length = 0) := Lib.hid (by rw [HVN.out]; rfl)
    clear hv1 he0 hv0 hz
    go_enter Try.func8, Try.ntmps8
    go_wp2_with (first
      | (go_at_call 14; refine (uawake_any _).mono ?_; rintro e wn ⟨rfl, hb⟩; have HR := Lib.hid (HR.out.below' hb); have HK := Lib.hid (HK.out.below' hb); have hn := kept_box HX.out hb; have HX := Lib.hid hn; have x0 := cell_whole hn 0; have x1 := cell_whole hn 1; have x2 := cell_whole hn 2; have x3 := cell_whole hn 3; have x4 := cell_whole hn 4; have x5 := cell_whole hn 5; have x6 := cell_whole hn 6; have HB := Lib.hid (HB.out.trans (hb.mono HB.out.size)); clear hb hn)
      | (go_at_call 25; refine (read14_any nn s t sp hold ba bc B la lc K _ HR.out HBB.out HBL.out HNN.out.1 HNN.out.2.1 HNN.out.2.2.1 HNN.out.2.2.2 HK.out HKK.out HKL.out N i j H Z E1.out E2.out E3.out E4.out E5.out).mono ?_; rw [E6.out]; rintro e wr ⟨za, zc, ka, kc, rfl, hz, hkr, hb⟩; clear x0 x1 x2 x3 x4 x5 x6; have hal := (Below.refl _ wr).alloc (Nat.le_refl _) (.cells #[.int .i64 (N : Int), .bool hold, .slice za Z.length zc] 24); have HNT := Lib.hid (heap_alloc_new wr (.cells #[.int .i64 (N : Int), .bool hold, .slice za Z.length zc] 24)); have HZ := Lib.hid (hz.below' hal); have HL := Lib.hid (hkr.below' hal); have HBR := Lib.hid (HB.out.trans (hb.mono HB.out.size)); have HB := Lib.hid ((HB.out.trans (hb.mono HB.out.size)).trans (hal.mono (by have h1 := HB.out.size; have h2 := hb.size; omega))); have n0 := cell_whole HNT.out 0; have n1 := cell_whole HNT.out 1; have n2 := cell_whole HNT.out 2; have HZ0 := Lib.hid hz; have HL0 := Lib.hid hkr; have HGS : Hid (w.heap.size ≤ wr.heap.size) := Lib.hid (by have h1 := HB.out.size; have h2 := HBR.out.size; omega); clear hz hkr hb hal HX HR HK)
      | (go_at_call 29; refine (rchk14_any (N : Int) hold za zc Z.length Z (i : Int) (j : Int) (H : Int) ka kc L.length L _ HZ.out HZ4.out HL.out HOK.out HL2.out rfl rfl).mono ?_; rw [HV1.out, HE0.out]; rintro e wn ⟨rfl, hb⟩; have HZ := Lib.hid (HZ.out.below' hb); have HL := Lib.hid (HL.out.below' hb); have hn := kept_box HNT.out hb; have HNT := Lib.hid hn; have n0 := cell_whole hn 0; have n1 := cell_whole hn 1; have n2 := cell_whole hn 2; have HB := Lib.hid (HB.out.trans (hb.mono HB.out.size)); clear hb hn)
      | (go_at_call 26; refine (uflow_case hold za ka zc kc Z N i j H L _ HZ.out HL.out HOK.out HL2.out HF.out).mono ?_; unfold FloRes; rw [HV0.out, HE2.out, HVL.out]; rintro e wn ⟨pa, pc, rfl, hf, hb⟩; have HZ := Lib.hid (HZ.out.below' hb); have HL := Lib.hid (HL.out.below' hb); have hn := kept_box HNT.out hb; have HNT := Lib.hid hn; have n0 := cell_whole hn 0; have n1 := cell_whole hn 1; have n2 := cell_whole hn 2; have HB := Lib.hid (HB.out.trans (hb.mono HB.out.size)); have HP := Lib.hid hf; clear hb hn hf))
    go_ret
    exact ⟨by simp, HB.out⟩
end Go.Proofs.Ytbkmfjegbmjknaa
