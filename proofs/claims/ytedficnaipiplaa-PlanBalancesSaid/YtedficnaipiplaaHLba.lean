/- PlanBalances. -/
import Derived.Test.YtedficnaipiplaaHLbp
namespace Go.Proofs.Ytedficnaipiplaa
open Go.RowKit
set_option linter.unusedVariables false

theorem mvB_at {w : World} {ba : Option Addr} {B : List MoveT} (h : Row encK 3 w ba B) {i : Nat} {x : MoveT} (hx : B[i]? = some x) :
    ∃ b o, ba = some ⟨b, o, none⟩ ∧ b < w.heap.size ∧ w.cell? ⟨b, o + i * 3, none⟩ = some (.int .i64 x.1) ∧ w.cell? ⟨b, o + i * 3 + 1, none⟩ = some (.int .i64 x.2.1) ∧ w.cell? ⟨b, o + i * 3 + 2, none⟩ = some (.int .i64 x.2.2) := by
  obtain ⟨hi, rfl⟩ := List.getElem?_eq_some_iff.1 hx
  obtain ⟨b, o, e, hb, hc⟩ := h i hi
  exact ⟨b, o, e, hb, hc 0 (by decide), hc 1 (by decide), hc 2 (by decide)⟩
theorem arcT_at {w : World} {ba : Option Addr} {Z : List ArcT} (h : Row encA 4 w ba Z) {q : Nat} (hq : q < Z.length) : ∃ b o, ba = some ⟨b, o, none⟩ ∧ w.cell? ⟨b, o + q * 4 + 3, none⟩ = some (.int .i64 (arcI Z (q : Int)).2.2.2) := by
  obtain ⟨b, o, e, hb, hc⟩ := h q hq
  refine ⟨b, o, e, ?_⟩
  have h1 := hc 3 (by decide)
  have h2 : arcI Z (q : Int) = Z[q] := by
    unfold arcI
    rw [Int.toNat_natCast, List.getD_eq_getElem?_getD, List.getElem?_eq_getElem hq]
    rfl
  rw [h2]
  exact h1
theorem sumTo_next (f : Nat → Int) (n : Nat) : sumTo f (n + 1) = sumTo f n + f n := rfl
theorem bal_small {f : Nat → Int} {N v : Nat} (h : ∀ v, -90 ≤ f v ∧ f v ≤ 90) (hv : v ≤ 5) : -450 ≤ sumTo f v ∧ sumTo f v ≤ 450 := by
  have h1 := smT_bd (g := f) (c := 90) (n := v) (fun v _ => h v)
  omega
set_option maxRecDepth 100000 in
set_option maxHeartbeats 8000000 in
theorem nbalances_law (nn s t sp : Int) (hold : Bool) (ba : Option Addr) (bc : Nat) (B : List BitT) (la : Option Addr) (lc : Nat) (K : List ByT) (w : World) (hr : Row encBit 4 w ba B) (hB : ∀ x ∈ B, BitOk x) (hbl : B.length ≤ maxLen) (hn : ByteB nn) (hs : ByteB s) (ht : ByteB t) (hp : ByteB sp) (hkl : K.length ≤ maxLen) (hk : Row encBy 3 w la K) (hK : ∀ x ∈ K, ByOk x) :
    Calls Try.prog 6 #[.agg #[.int .u8 nn, .bool hold, .slice ba B.length bc, .int .u8 s, .int .u8 t, .int .u8 sp, .slice la K.length lc]] w fun e w' => e = .returned (.bool true) ∧ Below w.heap.size w w' := by
  have hb00 := (Below.refl _ w).alloc (Nat.le_refl _) (.cells #[.int .u8 nn, .bool hold, .slice ba B.length bc, .int .u8 s, .int .u8 t, .int .u8 sp, .slice la K.length lc] 46)
  have HB := Lib.hid hb00
  have HX := Lib.hid (heap_alloc_new w (.cells #[.int .u8 nn, .bool hold, .slice ba B.length bc, .int .u8 s, .int .u8 t, .int .u8 sp, .slice la K.length lc] 46))
  have HR := Lib.hid (hr.below' hb00)
  have HK := Lib.hid (hk.below' hb00)
  have x0 := cell_whole HX.out 0
  have x1 := cell_whole HX.out 1
  have x2 := cell_whole HX.out 2
  have x3 := cell_whole HX.out 3
  have x4 := cell_whole HX.out 4
  have x5 := cell_whole HX.out 5
  have x6 := cell_whole HX.out 6
  have HBB := Lib.hid hB
  have HKK := Lib.hid hK
  have HKL := Lib.hid hkl
  have HNN := Lib.hid (And.intro hn (And.intro hs (And.intro ht hp)))
  have HBL := Lib.hid hbl
  obtain ⟨N, i, j, H, Z, L, e1, e2, e3, e4, e5, e6, hF⟩ := case_facts nn s t sp B K
  have E1 := Lib.hid e1
  have E2 := Lib.hid e2
  have E3 := Lib.hid e3
  have E4 := Lib.hid e4
  have E5 := Lib.hid e5
  have E6 := Lib.hid e6
  have HF := Lib.hid hF
  have hH7 := hF.hor
  have HZ4 : Hid (Z.length ≤ 4398046511104) := Lib.hid (by have := hF.arcs; omega)
  have HOK := Lib.hid hF.okK
  have HL2 : Hid (L.length ≤ 200) := Lib.hid (by have := hF.len; omega)
  clear hr hb00 hB hbl hn hs ht hp e1 e2 e3 e4 e5 e6 hF hk hK hkl
  have hcs : (mvE (N : Int) Z (i : Int) (j : Int) (H : Int) L ≠ 0 ∧ (stoV (N : Int) Z (i : Int) (j : Int) (H : Int) L).length = 0) ∨ (mvE (N : Int) Z (i : Int) (j : Int) (H : Int) L = 0 ∧ ((stoV (N : Int) Z (i : Int) (j : Int) (H : Int) L).length = H + 1 ∧ ∀ u, u ≤ H → ∃ g, (stoV (N : Int) Z (i : Int) (j : Int) (H : Int) L)[u]? = some g ∧ g.length = N ∧ ∀ v, v < N → g[v]? = some (stkN Z L u v)) ∧ (plnE (N : Int) Z (i : Int) (j : Int) (H : Int) hold L = 0 → stkN Z L H i = -plnV (N : Int) Z (i : Int) (j : Int) (H : Int) hold L)) := by
    by_cases h0 : mvE (N : Int) Z (i : Int) (j : Int) (H : Int) L = 0
    · exact .inr ⟨h0, case_rows h0, fun h => case_leaves HF.out h⟩
    · exact .inl ⟨h0, by rw [stoV_bad h0]; rfl⟩
  obtain ⟨g0, hg0⟩ : ∃ g0, stoV (N : Int) Z (i : Int) (j : Int) (H : Int) L = g0 := ⟨_, rfl⟩
  have HG0 := Lib.hid hg0
  obtain ⟨m0, hm0⟩ : ∃ m0, mvE (N : Int) Z (i : Int) (j : Int) (H : Int) L = m0 := ⟨_, rfl⟩
  have HM0 := Lib.hid hm0
  obtain ⟨v0, hv0⟩ : ∃ v0, plnV (N : Int) Z (i : Int) (j : Int) (H : Int) hold L = v0 := ⟨_, rfl⟩
  have HV0 := Lib.hid hv0
  obtain ⟨f0, hf0⟩ : ∃ f0, plnE (N : Int) Z (i : Int) (j : Int) (H : Int) hold L = f0 := ⟨_, rfl⟩
  have HF0 := Lib.hid hf0
  clear hg0 hm0 hv0 hf0
  rw [HG0.out, HM0.out, HV0.out, HF0.out] at hcs
  have w1 : IntKind.i64.wrap ((H : Int) + 1) = (H : Int) + 1 := IntWalk.i64_in _ (by omega)
  rcases hcs with ⟨h0, hgl0⟩ | ⟨rfl, ⟨hgl0, hgr⟩, hlv⟩
  · have q1 : (m0 != 0) = true := by simpa using h0
    have HGL := Lib.hid hgl0
    clear hgl0
    go_enter Try.func6, Try.ntmps6
    go_wp2_with (first
      | (go_at_call 10; refine (nawake_any _).mono ?_; rintro e wn ⟨rfl, hb⟩; have HR := Lib.hid (HR.out.below' hb); have HK := Lib.hid (HK.out.below' hb); have hn := kept_box HX.out hb; have HX := Lib.hid hn; have x0 := cell_whole hn 0; have x1 := cell_whole hn 1; have x2 := cell_whole hn 2; have x3 := cell_whole hn 3; have x4 := cell_whole hn 4; have x5 := cell_whole hn 5; have x6 := cell_whole hn 6; have HB := Lib.hid (HB.out.trans (hb.mono HB.out.size)); clear hb hn)
      | (go_at_call 21; refine (read14_any nn s t sp hold ba bc B la lc K _ HR.out HBB.out HBL.out HNN.out.1 HNN.out.2.1 HNN.out.2.2.1 HNN.out.2.2.2 HK.out HKK.out HKL.out N i j H Z E1.out E2.out E3.out E4.out E5.out).mono ?_; rw [E6.out]; rintro e wr ⟨za, zc, ka, kc, rfl, hz, hkr, hb⟩; clear x0 x1 x2 x3 x4 x5 x6; have hal := (Below.refl _ wr).alloc (Nat.le_refl _) (.cells #[.int .i64 (N : Int), .bool hold, .slice za Z.length zc] 24); have HNT := Lib.hid (heap_alloc_new wr (.cells #[.int .i64 (N : Int), .bool hold, .slice za Z.length zc] 24)); have HZ := Lib.hid (hz.below' hal); have HL := Lib.hid (hkr.below' hal); have HBR := Lib.hid (HB.out.trans (hb.mono HB.out.size)); have HB := Lib.hid ((HB.out.trans (hb.mono HB.out.size)).trans (hal.mono (by have h1 := HB.out.size; have h2 := hb.size; omega))); have n0 := cell_whole HNT.out 0; have n1 := cell_whole HNT.out 1; have n2 := cell_whole HNT.out 2; have HZ0 := Lib.hid hz; have HL0 := Lib.hid hkr; have HGS : Hid (w.heap.size ≤ wr.heap.size) := Lib.hid (by have h1 := HB.out.size; have h2 := HBR.out.size; omega); clear hz hkr hb hal HX HR HK))
    refine (nstocks_any (N : Int) hold za zc Z.length Z (i : Int) (j : Int) (H : Int) ka kc L.length L _ HZ.out HZ4.out HL.out HOK.out HL2.out rfl rfl).mono ?_
    unfold StoRes
    rw [HG0.out, HM0.out]
    rintro e wn ⟨pa, pl, pc, rfl, hgl, hir, hb⟩
    have HZ := Lib.hid (HZ.out.below' hb)
    have HL := Lib.hid (HL.out.below' hb)
    have hn := kept_box HNT.out hb
    have HNT := Lib.hid hn
    have n0 := cell_whole hn 0
    have n1 := cell_whole hn 1
    have n2 := cell_whole hn 2
    have HB := Lib.hid (HB.out.trans (hb.mono HB.out.size))
    have HP := Lib.hid hir
    have HLP := Lib.hid hgl
    clear hir hgl
    clear hb hn
    obtain rfl : pl = 0 := by have h1 := HLP.out; have h2 := HGL.out; omega
    go_wp2_with (fail)
    go_ret
    exact ⟨by simp, HB.out⟩
  · have HGL := Lib.hid hgl0
    have HGR := Lib.hid hgr
    have HLV := Lib.hid hlv
    clear hgl0 hgr hlv
    go_enter Try.func6, Try.ntmps6
    go_wp2_with (first
      | (go_at_call 10; refine (nawake_any _).mono ?_; rintro e wn ⟨rfl, hb⟩; have HR := Lib.hid (HR.out.below' hb); have HK := Lib.hid (HK.out.below' hb); have hn := kept_box HX.out hb; have HX := Lib.hid hn; have x0 := cell_whole hn 0; have x1 := cell_whole hn 1; have x2 := cell_whole hn 2; have x3 := cell_whole hn 3; have x4 := cell_whole hn 4; have x5 := cell_whole hn 5; have x6 := cell_whole hn 6; have HB := Lib.hid (HB.out.trans (hb.mono HB.out.size)); clear hb hn)
      | (go_at_call 21; refine (read14_any nn s t sp hold ba bc B la lc K _ HR.out HBB.out HBL.out HNN.out.1 HNN.out.2.1 HNN.out.2.2.1 HNN.out.2.2.2 HK.out HKK.out HKL.out N i j H Z E1.out E2.out E3.out E4.out E5.out).mono ?_; rw [E6.out]; rintro e wr ⟨za, zc, ka, kc, rfl, hz, hkr, hb⟩; clear x0 x1 x2 x3 x4 x5 x6; have hal := (Below.refl _ wr).alloc (Nat.le_refl _) (.cells #[.int .i64 (N : Int), .bool hold, .slice za Z.length zc] 24); have HNT := Lib.hid (heap_alloc_new wr (.cells #[.int .i64 (N : Int), .bool hold, .slice za Z.length zc] 24)); have HZ := Lib.hid (hz.below' hal); have HL := Lib.hid (hkr.below' hal); have HBR := Lib.hid (HB.out.trans (hb.mono HB.out.size)); have HB := Lib.hid ((HB.out.trans (hb.mono HB.out.size)).trans (hal.mono (by have h1 := HB.out.size; have h2 := hb.size; omega))); have n0 := cell_whole HNT.out 0; have n1 := cell_whole HNT.out 1; have n2 := cell_whole HNT.out 2; have HZ0 := Lib.hid hz; have HL0 := Lib.hid hkr; have HGS : Hid (w.heap.size ≤ wr.heap.size) := Lib.hid (by have h1 := HB.out.size; have h2 := HBR.out.size; omega); clear hz hkr hb hal HX HR HK))
    refine (nstocks_any (N : Int) hold za zc Z.length Z (i : Int) (j : Int) (H : Int) ka kc L.length L _ HZ.out HZ4.out HL.out HOK.out HL2.out rfl rfl).mono ?_
    unfold StoRes
    rw [HG0.out, HM0.out]
    rintro e wn ⟨pa, pl, pc, rfl, hgl, hir, hb⟩
    have HZ := Lib.hid (HZ.out.below' hb)
    have HL := Lib.hid (HL.out.below' hb)
    have hn := kept_box HNT.out hb
    have HNT := Lib.hid hn
    have n0 := cell_whole hn 0
    have n1 := cell_whole hn 1
    have n2 := cell_whole hn 2
    have HB := Lib.hid (HB.out.trans (hb.mono HB.out.size))
    have HP := Lib.hid hir
    have HLP := Lib.hid hgl
    clear hir hgl
    clear hb hn
    have HW := Lib.hid (Below.refl wn.heap.size wn)
    have hpl : (pl : Int) = (H : Int) + 1 := by have h1 := HLP.out; have h2 := HGL.out; omega
    have hq1 : ((pl : Int) != (H : Int) + 1) = false := by simp [hpl]
    obtain ⟨g, hg, _, _⟩ := HGR.out 0 (Nat.zero_le _)
    obtain ⟨pb, po, _, _, e, _⟩ := irow_at HP.out hg
    subst e
    clear hg
    go_wp2_with (fail)
    go_loopw [11] (fun iv wl => ∃ u : Nat, u ≤ H + 1 ∧ iv = .int .i64 (u : Int) ∧ Hid (Below wn.heap.size wn wl)) (fun iv _ => H + 1 - (intOf iv).toNat)
    case atStart => exact ⟨0, Nat.zero_le _, rfl, HW⟩
    case round =>
      clear HW n0 n1 n2
      obtain ⟨u, hu, rfl, HW⟩ := hrel
      by_cases hlt : u ≤ H
      · have hli : (u : Int) ≤ (H : Int) := by omega
        obtain ⟨g, hg, hgN, hgv⟩ := HGR.out u hlt
        obtain ⟨pb2, po2, ra, rc, e, _, hrc, hrl⟩ := irow_at HP.out hg
        cases e
        rw [hgN] at hrc
        have HRC := Lib.hid hrc
        have HRL := Lib.hid hrl
        have HGV := Lib.hid hgv
        have hup : (u : Int) < (pl : Int) := by omega
        have HTB := Lib.hid (fun k => case_tr_bd HF.out (u : Int) k)
        have HSB := Lib.hid (fun v => case_stk_bd HF.out u v)
        have HBAL := Lib.hid (case_bal HF.out u)
        clear hrc hrl hgv hg hgN
        generalize stkN Z L u = S at *
        go_wp2_with (fail)
        go_loopw [12, 13] (fun sv iv wl => ∃ k : Nat, k ≤ L.length ∧ iv = .int .i64 (k : Int) ∧ sv = .int .i64 (trL Z (L.take k) (u : Int)) ∧ Hid (Below wn.heap.size wn wl)) (fun _ iv _ => L.length - (intOf iv).toNat)
        case atStart => exact ⟨0, Nat.zero_le _, rfl, rfl, HW⟩
        case round =>
          clear HW
          obtain ⟨k, hk, rfl, rfl, HW⟩ := hrel
          by_cases hkl : k < L.length
          · have hki : (k : Int) < (L.length : Int) := by omega
            have hL30 := HF.out.len
            have hxk := List.getElem?_eq_getElem hkl
            have HTK := Lib.hid (trL_take (Z := Z) (u : Int) hxk)
            obtain ⟨⟨o0, p0⟩, ⟨o1, p1⟩, o2, p2⟩ := HF.out.mem _ (List.getElem_mem hkl)
            obtain ⟨lb, lx, e, hlb, d0, d1, d2⟩ := mvB_at HL.out hxk
            cases e
            have htb := HTB.out k
            generalize L[k] = x at *
            obtain ⟨xq, xt, xn⟩ := x
            simp only at d0 d1 d2 o0 p0 o1 p1 o2 p2
            obtain ⟨q, rfl⟩ : ∃ q : Nat, xq = (q : Int) := ⟨xq.toNat, by omega⟩
            have hq : q < Z.length := by omega
            obtain ⟨zb, zx, e, t3⟩ := arcT_at HZ.out hq
            cases e
            have hsm := HF.out.small _ (arcI_mem (i := (q : Int)) ⟨o0, p0⟩)
            obtain ⟨_, _, _, t0, t5⟩ := hsm
            have HON : Hid (onWay Z (u : Int) ((q : Int), xt, xn) ↔ xt ≤ (u : Int) ∧ (u : Int) < xt + (arcI Z (q : Int)).2.2.2) := Lib.hid Iff.rfl
            generalize (arcI Z (q : Int)).2.2.2 = tq at *
            generalize trL Z (L.take k) (u : Int) = T at *
            have hnn := kept_box HNT.out HW.out
            have n2 := cell_whole hnn 2
            have d0 := cell_below HW.out d0
            have d1 := cell_below HW.out d1
            have d2 := cell_below HW.out d2
            have t3 := cell_below HW.out t3
            have v1 : IntKind.i64.wrap (xt + tq) = xt + tq := IntWalk.i64_in _ (by omega)
            have v2 : IntKind.i64.wrap (T + xn) = T + xn := IntWalk.i64_in _ (by omega)
            clear hnn hxk htb
            by_cases c1 : xt ≤ (u : Int)
            · have c4 : decide (xt ≤ (u : Int)) = true := decide_eq_true c1
              by_cases c2 : (u : Int) < xt + tq
              · have HT : Hid (trL Z (L.take (k + 1)) (u : Int) = T + xn) := Lib.hid (by rw [HTK.out, if_pos (HON.out.2 ⟨c1, c2⟩)])
                have c3 : decide ((u : Int) < xt + tq) = true := decide_eq_true c2
                go_wp2_with (fail)
                go_quiet (fail)
                go_wp2_with (fail)
                go_roundw
                case rel => exact ⟨k + 1, by omega, by go_num, by rw [HT.out], Lib.hid (below_drewN HW.out _)⟩
                case measure => simp [intOf]; omega
              · have HT : Hid (trL Z (L.take (k + 1)) (u : Int) = T) := Lib.hid (by rw [HTK.out, if_neg (fun e => c2 (HON.out.1 e).2), Int.add_zero])
                have c3 : decide ((u : Int) < xt + tq) = false := decide_eq_false c2
                go_wp2_with (fail)
                go_quiet (fail)
                go_wp2_with (fail)
                go_roundw
                case rel => exact ⟨k + 1, by omega, by go_num, by rw [HT.out], Lib.hid (below_drewN HW.out _)⟩
                case measure => simp [intOf]; omega
            · have c4 : decide (xt ≤ (u : Int)) = false := decide_eq_false c1
              have HT : Hid (trL Z (L.take (k + 1)) (u : Int) = T) := Lib.hid (by rw [HTK.out, if_neg (fun e => c1 (HON.out.1 e).1), Int.add_zero])
              go_wp2_with (fail)
              go_quiet (fail)
              go_wp2_with (fail)
              go_roundw
              case rel => exact ⟨k + 1, by omega, by go_num, by rw [HT.out], Lib.hid (below_drewN HW.out _)⟩
              case measure => simp [intOf]; omega
          · have hki : ¬ (k : Int) < (L.length : Int) := by omega
            obtain rfl : k = L.length := by omega
            rw [List.take_length]
            have hnn := kept_box HNT.out HW.out
            have n0 := cell_whole hnn 0
            have x0 := cell_below HW.out HRC.out
            have htb := HTB.out L.length
            rw [List.take_length] at htb
            generalize trL Z L (u : Int) = T at *
            have qN : ((N : Int) != (N : Int)) = false := by simp
            clear hnn
            go_wp2_with (fail)
            go_quiet (fail)
            go_wp2_with (fail)
            have HW1 : ∀ n, Hid (Below wn.heap.size wn (wr.drewN n)) := fun n => Lib.hid (below_drewN HW.out n)
            clear x0 n0
            go_loopw [12, 14] (fun sv iv wl => ∃ v : Nat, v ≤ N ∧ iv = .int .i64 (v : Int) ∧ sv = .int .i64 (T + sumTo S v) ∧ Hid (Below wn.heap.size wn wl)) (fun _ iv _ => N - (intOf iv).toNat)
            case atStart => exact ⟨0, Nat.zero_le _, rfl, by simp [sumTo], HW1 _⟩
            case round =>
              clear HW1 HW
              obtain ⟨v, hv, rfl, rfl, HW⟩ := hrel
              have hnn := kept_box HNT.out HW.out
              have n0 := cell_whole hnn 0
              have hN5 := HF.out.nodes
              by_cases hvl : v < N
              · have hvi : (v : Int) < (N : Int) := by omega
                have x0 := cell_below HW.out HRC.out
                obtain ⟨ab, ax, e, _, cv⟩ := lst_cell HRL.out (HGV.out v hvl)
                subst e
                have cv := cell_below HW.out cv
                unfold encI at cv
                have hs1 := bal_small (N := N) HSB.out (show v ≤ 5 by omega)
                have hs2 := HSB.out v
                have HNX := Lib.hid (sumTo_next S v)
                generalize sumTo S v = Y at *
                have v2 : IntKind.i64.wrap (T + Y + S v) = T + Y + S v := IntWalk.i64_in _ (by omega)
                go_wp2_with (fail)
                go_roundw
                case rel => exact ⟨v + 1, by omega, by go_num, by rw [HNX.out, Int.add_assoc], HW⟩
                case measure => simp [intOf]; omega
              · have hvi : ¬ (v : Int) < (N : Int) := by omega
                obtain rfl : v = N := by omega
                have hz : T + sumTo S v = 0 := HBAL.out
                rw [hz]
                go_wp2_with (fail)
                go_roundw
                case rel => exact ⟨u + 1, by omega, by go_num, HW⟩
                case measure => simp [intOf]; omega
      · have hli : ¬ (u : Int) ≤ (H : Int) := by omega
        have HZ := Lib.hid (HZ.out.below' HW.out)
        have HL := Lib.hid (HL.out.below' HW.out)
        have HP := Lib.hid (HP.out.below HW.out)
        have hnq := kept_box HNT.out HW.out
        have HNT := Lib.hid hnq
        have n0 := cell_whole hnq 0
        have n1 := cell_whole hnq 1
        have n2 := cell_whole hnq 2
        have HB := Lib.hid (HB.out.trans (HW.out.mono HB.out.size))
        clear hnq
        go_wp2_with (fail)
        refine (nchk14_any (N : Int) hold za zc Z.length Z (i : Int) (j : Int) (H : Int) ka kc L.length L _ HZ.out HZ4.out HL.out HOK.out HL2.out rfl rfl).mono ?_
        rw [HV0.out, HF0.out]
        rintro e wn ⟨rfl, hb⟩
        have HZ := Lib.hid (HZ.out.below' hb)
        have HL := Lib.hid (HL.out.below' hb)
        have hn := kept_box HNT.out hb
        have HNT := Lib.hid hn
        have n0 := cell_whole hn 0
        have n1 := cell_whole hn 1
        have n2 := cell_whole hn 2
        have HB := Lib.hid (HB.out.trans (hb.mono HB.out.size))
        have HP := Lib.hid (HP.out.below hb)
        clear hb hn
        by_cases hf0 : f0 = 0
        · subst hf0
          have hlv := HLV.out rfl
          obtain ⟨g, hg, hgN, hgv⟩ := HGR.out H (Nat.le_refl _)
          obtain ⟨pb2, po2, ra, rc, e, _, hrc, hrl⟩ := irow_at HP.out hg
          cases e
          rw [hgN] at hrc
          obtain ⟨ab, ax, e, _, cv⟩ := lst_cell hrl (hgv i HF.out.src)
          subst e
          have hsr := HF.out.src
          have hi1 : (i : Int) < (N : Int) := by omega
          have hi2 : (H : Int) < (pl : Int) := by omega
          have hbd := case_stk_bd HF.out H i
          have v3 : IntKind.i64.wrap (-v0) = -v0 := IntWalk.i64_in _ (by omega)
          unfold encI at cv
          rw [hlv] at cv
          have qv : (-v0 == -v0) = true := by simp
          go_wp2_with (fail)
          go_ret
          exact ⟨by simp, HB.out⟩
        · have qf : (f0 != 0) = true := by simpa using hf0
          go_wp2_with (fail)
          go_ret
          exact ⟨by simp, HB.out⟩
end Go.Proofs.Ytedficnaipiplaa
