/- The document's Flow. -/
import Derived.Test.YtbkmfjegbmjknaaUFlo
import Derived.Test.YtbkmfjegbmjknaaURst
namespace Go.Proofs.Ytbkmfjegbmjknaa
open Go.RowKit
set_option linter.unusedVariables false
section
variable (n : Int) (b : Bool) (ao lo : Option Addr) (nl cap ll lc : Nat) (Z : List ArcT) (s t H : Int) (L : List MoveT)
end
section
variable (b : Bool) (ao lo : Option Addr) (nl cap ll lc : Nat) (Z : List ArcT) (N i j K : Nat) (L : List MoveT)
set_option maxRecDepth 100000 in
set_option maxHeartbeats 16000000 in
theorem rflow15_yes (w : World) (h : Row encA 4 w ao Z) (hl : Z.length = nl) (hL : Row encK 3 w lo L) (hok : ∀ x ∈ L, okK x) (hn : L.length ≤ 200) (hll : L.length = ll) (hx : xpE (N : Int) Z (i : Int) (j : Int) (K : Int) = 0) (hi : i < N) (hj : j < N) (hij : i ≠ j) (hW : SpanNet Z N) (hK : K ≤ 1024) (hm1 : (K + 1) * N ≤ 4000) (hm2 : (K + 1) * Z.length ≤ 10000) :
    Calls Try.prog 27 #[.agg #[.int .i64 (N : Int), .bool b, .slice ao nl cap], .int .i64 (i : Int), .int .i64 (j : Int), .int .i64 (K : Int), .slice lo ll lc] w (FloRes (N : Int) b Z (i : Int) (j : Int) (K : Int) L w) := by
  have hb00 := (Below.refl _ w).alloc (Nat.le_refl _) (.cells #[.int .i64 (N : Int), .bool b, .slice ao nl cap] 24)
  have HB := Lib.hid hb00
  have HN := Lib.hid (heap_alloc_new w (.cells #[.int .i64 (N : Int), .bool b, .slice ao nl cap] 24))
  have x0 := cell_whole HN.out 0
  have x1 := cell_whole HN.out 1
  have x2 := cell_whole HN.out 2
  have HR := Lib.hid (h.below' hb00)
  have HL := Lib.hid (hL.below' hb00)
  have HOK := Lib.hid hok
  have HL2 := Lib.hid hn
  have HLL := Lib.hid hll
  have HZL := Lib.hid hl
  have HWW := Lib.hid hW
  have HKK := Lib.hid hK
  have HZM : Hid (Z.length ≤ 4398046511104) := Lib.hid (by have := hW.len; omega)
  have HASK := Lib.hid (rasked15_any (N : Int) (K : Int) b ao nl cap Z (i : Int) (j : Int) _ (h.below' hb00) hl (by have := hW.len; unfold maxLen; omega))
  rw [hx] at HASK
  have HARCS : Hid (∀ (w2 : World), Row encA 4 w2 ao Z → Calls Try.prog 24 #[.agg #[.int .i64 (N : Int), .bool b, .slice ao nl cap], .int .i64 (i : Int), .int .i64 (j : Int), .int .i64 (K : Int)] w2 fun e w' => ∃ ov kv, e = .returned (.tuple #[ov, kv]) ∧ AK w2 w' ov kv (arcsK (⟨Z, N, i, j, K, b⟩ : Exp) (⟨Z, N, i, j, K, b⟩ : Exp).kinds) (kdsK (⟨Z, N, i, j, K, b⟩ : Exp) (⟨Z, N, i, j, K, b⟩ : Exp).kinds)) := Lib.hid (fun (w2 : World) (hr : Row encA 4 w2 ao Z) => rarcs15_any ⟨Z, N, i, j, K, b⟩ ao nl cap w2 hr hl hW hK hi hj hm1 (by rw [← hl]; exact hm2))
  obtain ⟨al, hal⟩ : ∃ al, (⟨Z, N, i, j, K, b⟩ : Exp).kinds.length = al := ⟨_, rfl⟩
  have HAL := Lib.hid hal
  have HAL2 : Hid ((kdsK (⟨Z, N, i, j, K, b⟩ : Exp) (⟨Z, N, i, j, K, b⟩ : Exp).kinds).length = al) := Lib.hid (by rw [kdsK_len]; exact hal)
  have HAL3 : Hid (al ≤ 100000) := Lib.hid (by have := kinds_len (⟨Z, N, i, j, K, b⟩ : Exp); simp only at this; omega)
  obtain ⟨v0, hv0⟩ : ∃ v0, plnV (N : Int) Z (i : Int) (j : Int) (K : Int) b L = v0 := ⟨_, rfl⟩
  obtain ⟨e0, he0⟩ : ∃ e0, plnE (N : Int) Z (i : Int) (j : Int) (K : Int) b L = e0 := ⟨_, rfl⟩
  have HV0 := Lib.hid hv0
  have HE0 := Lib.hid he0
  have HFE0 : Hid (floE (N : Int) Z (i : Int) (j : Int) (K : Int) b L = e0) := Lib.hid (by unfold floE; rw [if_pos hx, he0])
  have hx0 : ((0 : Int) != 0) = false := rfl
  have HIJ := Lib.hid (And.intro hi hj)
  clear h hb00 hl hx hi hj hW hK hm1 hm2 hL hok hn hll hal hv0
  by_cases hz : e0 = 0
  · subst hz
    have hmv := plan_mvE he0
    have HM0 := Lib.hid hmv
    have HPO := Lib.hid (plan_ok hmv)
    have HBD : Hid (∀ M : List MoveT, M.Perm (mvs L) → ∀ v u : Int, -1099511627776 ≤ stk Z M v u ∧ stk Z M v u ≤ 1099511627776) := Lib.hid (fun M hp => stk_small HWW.out HL2.out HPO.out.2 hp)
    have HFE : Hid (∀ M : List MoveT, M.Perm (mvs L) → (⟨Z, N, i, j, K, b⟩ : Exp).kinds.map (flwK (⟨Z, N, i, j, K, b⟩ : Exp) M) = floV (N : Int) Z (i : Int) (j : Int) (K : Int) b L) := Lib.hid (fun M hp => by
      unfold floV
      rw [HFE0.out, if_pos rfl, flw_perm hp, expOf_nat])
    have HSTK : Hid (∀ (v : Nat) (u : Int) (mo : Option Addr) (mc ml : Nat) (M : List MoveT) (W : World), M.length = ml → M.Perm (mvs L) → Row encA 4 W ao Z → Row encK 3 W mo M → Calls Try.prog 52 #[.agg #[.int .i64 (N : Int), .bool b, .slice ao nl cap], .slice mo ml mc, .int .i64 (v : Int), .int .i64 u] W fun e w' => e = .returned (.int .i64 (stk Z M (v : Int) u)) ∧ Below W.heap.size W w') := Lib.hid (fun v u mo mc ml M W hml hp hr hm => rstock15_any (N : Int) b ao nl cap Z (i : Int) (j : Int) K N mo mc ml M v u W hr HZL.out hm hml (by rw [← hml, hp.length_eq]; exact Nat.le_trans (mvs_len L) HL2.out) HWW.out HKK.out (fun x hx => HPO.out.2 x (hp.mem_iff.1 hx)))
    clear hmv he0
    go_enter Try.func27, Try.ntmps27
    go_wp2_with (first
      | (go_at_call 24; refine (HARCS.out _ HR.out).mono ?_; rintro e w4 ⟨ov, kv, rfl, hak⟩; obtain ⟨ka, kc, rfl, hkrow, hkbk⟩ := own_rowQ encD_len hak.rk; clear hkbk; (rw [HAL2.out]); have hb := hak.low; have hn := kept_box HN.out hb; have HN := Lib.hid hn; have x0 := cell_whole hn 0; have x1 := cell_whole hn 1; have x2 := cell_whole hn 2; clear hn; have HR := Lib.hid (HR.out.below' hb); have HL := Lib.hid (HL.out.below' hb); have HB := Lib.hid (HB.out.trans (hb.mono HB.out.size)); have HMR := Lib.hid (HMR.out.below' hb); have HKR := Lib.hid hkrow; clear hb hak hkrow)
      | (go_at_call 51; refine (rmerged_good (N : Int) b ao cap nl Z (i : Int) (j : Int) (K : Int) lo lc ll L _ HR.out HZM.out HL.out HOK.out HL2.out HZL.out HLL.out HM0.out).mono ?_; rintro e w3 ⟨mo, mc, ml, M, rfl, hml, hmr, hmp, hb⟩; have hn := kept_box HN.out hb; have HN := Lib.hid hn; have x0 := cell_whole hn 0; have x1 := cell_whole hn 1; have x2 := cell_whole hn 2; clear hn; have HR := Lib.hid (HR.out.below' hb); have HL := Lib.hid (HL.out.below' hb); have HB := Lib.hid (HB.out.trans (hb.mono HB.out.size)); have HMR := Lib.hid hmr; have HMP := Lib.hid hmp; have HMLN := Lib.hid hml; clear hb hmr hmp hml)
      | (go_at_call 29; refine (rchk14_any (N : Int) b ao cap nl Z (i : Int) (j : Int) (K : Int) lo lc ll L _ HR.out HZM.out HL.out HOK.out HL2.out HZL.out HLL.out).mono ?_; rw [HV0.out, HE0.out]; rintro e w2 ⟨rfl, hb⟩; have hn := kept_box HN.out hb; have HN := Lib.hid hn; have x0 := cell_whole hn 0; have x1 := cell_whole hn 1; have x2 := cell_whole hn 2; clear hn; have HR := Lib.hid (HR.out.below' hb); have HL := Lib.hid (HL.out.below' hb); have HB := Lib.hid (HB.out.trans (hb.mono HB.out.size)); clear hb)
      | (go_at_call 43; refine HASK.out.mono ?_; rintro e w1 ⟨rfl, hb⟩; have hn := kept_box HN.out hb; have HN := Lib.hid hn; have x0 := cell_whole hn 0; have x1 := cell_whole hn 1; have x2 := cell_whole hn 2; clear hn; have HR := Lib.hid (HR.out.below' hb); have HL := Lib.hid (HL.out.below' hb); have HB := Lib.hid (HB.out.trans (hb.mono HB.out.size)); clear hb))
    have hml2 : ml ≤ 200 := by rw [← HMLN.out, HMP.out.length_eq]; exact Nat.le_trans (mvs_len L) HL2.out
    have hal3 := HAL3.out
    clear x0 x1 x2 HASK HARCS
    go_loopw [19, 20] (fun ov iv wr => ∃ p : Nat, p ≤ al ∧ iv = .int .i64 (p : Int) ∧ Hid (OwnL encI wr w4.heap.size 3 ov ((⟨Z, N, i, j, K, b⟩ : Exp).kinds.take p |>.map (flwK (⟨Z, N, i, j, K, b⟩ : Exp) M))) ∧ Hid (Below w4.heap.size w4 wr)) (fun _ iv _ => al - (intOf iv).toNat)
    case atStart => exact ⟨0, Nat.zero_le _, rfl, Lib.hid (OwnL.nil _ _ _), Lib.hid (Below.refl _ _)⟩
    case round =>
      obtain ⟨p, hp, rfl, HO, HW⟩ := hrel
      by_cases hlt : p < al
      · have hli : (p : Int) < (al : Int) := by omega
        have hpk : p < (⟨Z, N, i, j, K, b⟩ : Exp).kinds.length := by rw [HAL.out]; exact hlt
        have hpd : p < (kdsK (⟨Z, N, i, j, K, b⟩ : Exp) (⟨Z, N, i, j, K, b⟩ : Exp).kinds).length := by rw [HAL2.out]; exact hlt
        have hkd := HKR.out.below' HW.out p hpd
        have HTL : Hid (((⟨Z, N, i, j, K, b⟩ : Exp).kinds.take p |>.map (flwK (⟨Z, N, i, j, K, b⟩ : Exp) M)).length ≤ 100000) := Lib.hid (by rw [List.length_map, List.length_take]; omega)
        have hmem := List.getElem_mem hpk
        have HSN0 : Hid (((⟨Z, N, i, j, K, b⟩ : Exp).kinds.take (p + 1)).map (flwK (⟨Z, N, i, j, K, b⟩ : Exp) M) = ((⟨Z, N, i, j, K, b⟩ : Exp).kinds.take p |>.map (flwK (⟨Z, N, i, j, K, b⟩ : Exp) M)) ++ [flwK (⟨Z, N, i, j, K, b⟩ : Exp) M (⟨Z, N, i, j, K, b⟩ : Exp).kinds[p]]) := Lib.hid (by rw [List.take_succ_eq_append_getElem hpk, List.map_append]; rfl)
        generalize ((⟨Z, N, i, j, K, b⟩ : Exp).kinds.take p |>.map (flwK (⟨Z, N, i, j, K, b⟩ : Exp) M)) = TL at *
        obtain ⟨kb, kx, e, hkb, hkc⟩ := hkd
        subst e
        have ekd : (kdsK (⟨Z, N, i, j, K, b⟩ : Exp) (⟨Z, N, i, j, K, b⟩ : Exp).kinds)[p] = kdD i j (⟨Z, N, i, j, K, b⟩ : Exp).kinds[p] := by simp [kdsK]
        rw [ekd] at hkc
        generalize (⟨Z, N, i, j, K, b⟩ : Exp).kinds[p] = kd at *
        clear hpk hpd ekd
        rcases Exp.kinds_cases hmem with ⟨i0, u, rfl, ho⟩ | ⟨v, u, hv, rfl, ho⟩ | ⟨u, huK, rfl⟩ | ⟨u, huK, rfl⟩
        all_goals
          have HSN := HSN0
          clear HSN0
          have d0 := hkc 0 (by decide)
          have d1 := hkc 1 (by decide)
          have d2 := hkc 2 (by decide)
          have d3 := hkc 3 (by decide)
          have d4 := hkc 4 (by decide)
          simp only [kdD, encD, List.getElem?_cons_zero, List.getElem?_cons_succ, Nat.add_zero] at d0 d1 d2 d3 d4
          clear hkc hmem
        · have hal0 := (Below.refl wr.heap.size wr).alloc (Nat.le_refl _) (.cells #[.bool true, .bool false, .int .i64 (i0 : Int), .int .i64 0, .int .i64 (u : Int)] 92)
          have hnew := heap_alloc_new wr (.cells #[.bool true, .bool false, .int .i64 (i0 : Int), .int .i64 0, .int .i64 (u : Int)] 92)
          obtain ⟨g6, hg6⟩ : ∃ g6, wr.heap.size = g6 := ⟨_, rfl⟩
          rw [hg6] at hnew
          have HO := Lib.hid (HO.out.below hal0)
          have HW := Lib.hid (HW.out.trans (hal0.mono HW.out.size))
          have hnt := kept_box HN.out HW.out
          have x0 := cell_whole hnt 0
          have x1 := cell_whole hnt 1
          have x2 := cell_whole hnt 2
          have k0 := cell_whole hnew 0
          have k1 := cell_whole hnew 1
          have k2 := cell_whole hnew 2
          have k3 := cell_whole hnew 3
          have k4 := cell_whole hnew 4
          have HNW := Lib.hid hnew
          clear hal0 hnew hnt
          go_wp2_with fail
          try rw [hg6]
          clear hg6
          generalize wr.alloc (.cells #[.bool true, .bool false, .int .i64 (i0 : Int), .int .i64 0, .int .i64 (u : Int)] 92) = wd at *
          clear x0 x1 x2 k0 k1 k2 k3 k4 d0 d1 d2 d3 d4
          go_loopw [21, 23] (fun kv jv wr => ∃ q : Nat, q ≤ ml ∧ jv = .int .i64 (q : Int) ∧ kv = .int .i64 (nOf (M.take q) ((u : Int), (i0 : Int))) ∧ Hid (Below wd.heap.size wd wr)) (fun _ jv _ => ml - (intOf jv).toNat)
          case atStart => exact ⟨0, Nat.zero_le _, rfl, rfl, Lib.hid (Below.refl _ _)⟩
          case round =>
            obtain ⟨q, hq, rfl, rfl, HDB⟩ := hrel
            have hdb := HDB.out
            have hkb := kept_box HNW.out hdb
            have k2 := cell_whole hkb 2
            have k4 := cell_whole hkb 4
            by_cases hltq : q < ml
            · have hliq : (q : Int) < (ml : Int) := by omega
              have hqM : q < M.length := by rw [HMLN.out]; exact hltq
              obtain ⟨mb, mx, e, hmb, m0, m1, m2⟩ := Row.tri (HMR.out.below' (HW.out.trans (hdb.mono HW.out.size))) hqM
              subst e
              have HNT := Lib.hid (nOf_take (keys_nodup HMP.out) hqM ((u : Int), (i0 : Int)))
              generalize M[q] = x at *
              obtain ⟨xa, xt, xn⟩ := x
              simp only at m0 m1 m2 HNT
              have HNT2 : Hid (∀ c : xa = (i0 : Int) ∧ xt = (u : Int), nOf (M.take (q + 1)) ((u : Int), (i0 : Int)) = xn) := Lib.hid (fun c => by rw [HNT.out, if_pos (by rw [c.1, c.2])])
              have HNT3 : Hid (∀ c : ¬ (xa = (i0 : Int) ∧ xt = (u : Int)), nOf (M.take (q + 1)) ((u : Int), (i0 : Int)) = nOf (M.take q) ((u : Int), (i0 : Int))) := Lib.hid (fun c => by rw [HNT.out, if_neg (fun e => c ⟨(Prod.mk.inj e).2.symm, (Prod.mk.inj e).1.symm⟩)])
              have m0' : wr.cell? ⟨mb, mx + q * 3 + 0, none⟩ = some (.int .i64 xa) := m0
              clear hqM hmb hkb hdb HNT
              by_cases e1 : xa = (i0 : Int)
              · have f1 : (xa == (i0 : Int)) = true := by simpa using e1
                have f1' : decide (xa = (i0 : Int)) = true := decide_eq_true e1
                by_cases e2 : xt = (u : Int)
                · have f2 : (xt == (u : Int)) = true := by simpa using e2
                  have f2' : decide (xt = (u : Int)) = true := decide_eq_true e2
                  have HN3 := Lib.hid (HNT2.out ⟨e1, e2⟩)
                  clear e1 e2 HNT2 HNT3
                  go_wp2_with fail
                  go_quiet (fail)
                  go_wp2
                  go_roundw
                  case rel => exact ⟨q + 1, by omega, by go_num, by rw [HN3.out], Lib.hid (below_drewN HDB.out _)⟩
                  case measure => simp [intOf]; omega
                · have f2 : (xt == (u : Int)) = false := by simpa using e2
                  have f2' : decide (xt = (u : Int)) = false := decide_eq_false e2
                  have HN3 := Lib.hid (HNT3.out (fun c => e2 c.2))
                  clear e1 e2 HNT2 HNT3
                  go_wp2_with fail
                  go_quiet (fail)
                  go_wp2
                  go_roundw
                  case rel => exact ⟨q + 1, by omega, by go_num, by rw [HN3.out], Lib.hid (below_drewN HDB.out _)⟩
                  case measure => simp [intOf]; omega
              · have f1 : (xa == (i0 : Int)) = false := by simpa using e1
                have f1' : decide (xa = (i0 : Int)) = false := decide_eq_false e1
                have HN3 := Lib.hid (HNT3.out (fun c => e1 c.1))
                clear e1 HNT2 HNT3
                go_wp2_with fail
                go_quiet (fail)
                go_wp2
                go_roundw
                case rel => exact ⟨q + 1, by omega, by go_num, by rw [HN3.out], Lib.hid (below_drewN HDB.out _)⟩
                case measure => simp [intOf]; omega
            · have hliq : ¬ (q : Int) < (ml : Int) := by omega
              obtain rfl : q = ml := by omega
              have HTM : Hid (M.take q = M) := Lib.hid (by rw [← HMLN.out]; exact List.take_length)
              rw [HTM.out]
              have HO := Lib.hid (HO.out.below hdb)
              have HW := Lib.hid (HW.out.trans (hdb.mono HW.out.size))
              clear hdb hkb k2 k4
              obtain ⟨y, hy⟩ : ∃ y, nOf M ((u : Int), (i0 : Int)) = y := ⟨_, rfl⟩
              have HSTEP : Hid (TL ++ [y] = ((⟨Z, N, i, j, K, b⟩ : Exp).kinds.take (p + 1)).map (flwK (⟨Z, N, i, j, K, b⟩ : Exp) M)) := Lib.hid (by rw [HSN.out, ← hy]; rfl)
              rw [hy]
              clear hy
              have hb0 := (Below.refl wr.heap.size wr).alloc (Nat.le_refl _) (.cells #[.int .i64 y] 3)
              have HOA := Lib.hid (HO.out.below hb0)
              have HWA := Lib.hid (HW.out.trans (hb0.mono HW.out.size))
              clear hb0
              go_wp2_with (at_builtin; refine wpList_append_one (enc := encI) Try.underlying42 infoInt rfl (by omega) rfl _ _ rfl w4.heap.size _ TL y rfl rfl HOA.out _ 1 rfl (cell_new' (by simp) _ _ 0) (by have := HTL.out; omega) HWA.out.size ?_; intro g4 cap4 w8 ho4 hg4 hl4 hb4 hlt4; (rw [HSTEP.out] at ho4); have HO4 := Lib.hid ho4; have HB4 := Lib.hid (HWA.out.grown hg4 HWA.out.size (fun g e => own_block HOA.out e)); clear ho4 hg4 hl4)
              go_roundw
              case rel => exact ⟨p + 1, by omega, by go_num, HO4, HB4⟩
              case measure => simp [intOf]; omega
        · have hal0 := (Below.refl wr.heap.size wr).alloc (Nat.le_refl _) (.cells #[.bool false, .bool true, .int .i64 0, .int .i64 (v : Int), .int .i64 (u : Int)] 92)
          have hnew := heap_alloc_new wr (.cells #[.bool false, .bool true, .int .i64 0, .int .i64 (v : Int), .int .i64 (u : Int)] 92)
          obtain ⟨g6, hg6⟩ : ∃ g6, wr.heap.size = g6 := ⟨_, rfl⟩
          rw [hg6] at hnew
          have HO := Lib.hid (HO.out.below hal0)
          have HW := Lib.hid (HW.out.trans (hal0.mono HW.out.size))
          have hnt := kept_box HN.out HW.out
          have x0 := cell_whole hnt 0
          have x1 := cell_whole hnt 1
          have x2 := cell_whole hnt 2
          have k0 := cell_whole hnew 0
          have k1 := cell_whole hnew 1
          have k2 := cell_whole hnew 2
          have k3 := cell_whole hnew 3
          have k4 := cell_whole hnew 4
          have HNW := Lib.hid hnew
          clear hal0 hnew hnt
          obtain ⟨y, hy⟩ : ∃ y, stk Z M (v : Int) (u : Int) = y := ⟨_, rfl⟩
          have HSTEP : Hid (TL ++ [y] = ((⟨Z, N, i, j, K, b⟩ : Exp).kinds.take (p + 1)).map (flwK (⟨Z, N, i, j, K, b⟩ : Exp) M)) := Lib.hid (by rw [HSN.out, ← hy]; rfl)
          have HCS := Lib.hid (fun (W : World) (hb : Below w4.heap.size w4 W) => HSTK.out v (u : Int) mo mc ml M W HMLN.out HMP.out (HR.out.below' hb) (HMR.out.below' hb))
          rw [hy] at HCS
          clear hy
          go_wp2_with (first
            | (go_at_call 52; refine (HCS.out _ HW.out).mono ?_; rintro e w7 ⟨rfl, hb⟩; have HO := Lib.hid (HO.out.below hb); have HW := Lib.hid (HW.out.trans (hb.mono HW.out.size)); have hb0 := (Below.refl w7.heap.size w7).alloc (Nat.le_refl _) (.cells #[.int .i64 y] 3); have HOA := Lib.hid (HO.out.below hb0); have HWA := Lib.hid (HW.out.trans (hb0.mono HW.out.size)); clear hb0 hb)
            | (at_builtin; refine wpList_append_one (enc := encI) Try.underlying42 infoInt rfl (by omega) rfl _ _ rfl w4.heap.size _ TL y rfl rfl HOA.out _ 1 rfl (cell_new' (by simp) _ _ 0) (by have := HTL.out; omega) HWA.out.size ?_; intro g4 cap4 w8 ho4 hg4 hl4 hb4 hlt4; (rw [HSTEP.out] at ho4); have HO4 := Lib.hid ho4; have HB4 := Lib.hid (HWA.out.grown hg4 HWA.out.size (fun g e => own_block HOA.out e)); clear ho4 hg4 hl4))
          go_roundw
          case rel => exact ⟨p + 1, by omega, by go_num, HO4, HB4⟩
          case measure => simp [intOf]; omega
        · have hal0 := (Below.refl wr.heap.size wr).alloc (Nat.le_refl _) (.cells #[.bool false, .bool false, .int .i64 0, .int .i64 (i : Int), .int .i64 (u : Int)] 92)
          have hnew := heap_alloc_new wr (.cells #[.bool false, .bool false, .int .i64 0, .int .i64 (i : Int), .int .i64 (u : Int)] 92)
          obtain ⟨g6, hg6⟩ : ∃ g6, wr.heap.size = g6 := ⟨_, rfl⟩
          rw [hg6] at hnew
          have HO := Lib.hid (HO.out.below hal0)
          have HW := Lib.hid (HW.out.trans (hal0.mono HW.out.size))
          have hnt := kept_box HN.out HW.out
          have x0 := cell_whole hnt 0
          have x1 := cell_whole hnt 1
          have x2 := cell_whole hnt 2
          have k0 := cell_whole hnew 0
          have k1 := cell_whole hnew 1
          have k2 := cell_whole hnew 2
          have k3 := cell_whole hnew 3
          have k4 := cell_whole hnew 4
          have HNW := Lib.hid hnew
          clear hal0 hnew hnt
          have hyb1 := HBD.out M HMP.out (i : Int) (u : Int)
          have hyb2 := HBD.out M HMP.out (i : Int) ((u : Int) - 1)
          have HCS := Lib.hid (fun (x : Int) (W : World) (hb : Below w4.heap.size w4 W) => HSTK.out i x mo mc ml M W HMLN.out HMP.out (HR.out.below' hb) (HMR.out.below' hb))
          have HSTEP : Hid (TL ++ [-(stk Z M (i : Int) (u : Int) - stk Z M (i : Int) ((u : Int) - 1))] = ((⟨Z, N, i, j, K, b⟩ : Exp).kinds.take (p + 1)).map (flwK (⟨Z, N, i, j, K, b⟩ : Exp) M)) := Lib.hid (by rw [HSN.out]; rfl)
          have hwu : IntKind.i64.wrap ((u : Int) - 1) = (u : Int) - 1 := IntWalk.i64_in _ (by have h1 : u ≤ K := huK; have h2 := HKK.out; omega)
          have hwy : IntKind.i64.wrap (stk Z M (i : Int) (u : Int) - stk Z M (i : Int) ((u : Int) - 1)) = stk Z M (i : Int) (u : Int) - stk Z M (i : Int) ((u : Int) - 1) := IntWalk.i64_in _ (by omega)
          have hwn : IntKind.i64.wrap (-(stk Z M (i : Int) (u : Int) - stk Z M (i : Int) ((u : Int) - 1))) = -(stk Z M (i : Int) (u : Int) - stk Z M (i : Int) ((u : Int) - 1)) := IntWalk.i64_in _ (by omega)
          have hns : ((i : Int) == (i : Int)) = true := by simp
          clear hyb1 hyb2
          go_wp2_with fail
          try rw [hg6]
          clear hg6
          generalize wr.alloc (.cells #[.bool false, .bool false, .int .i64 0, .int .i64 (i : Int), .int .i64 (u : Int)] 92) = wd at *
          have HOd := Lib.hid (HO.out.below (below_drew (Below.refl wd.heap.size wd)))
          have HWd := Lib.hid (HW.out.trans (below_drew (Below.refl wd.heap.size wd) |>.mono HW.out.size))
          have HNd := Lib.hid (kept_box HNW.out (below_drew (Below.refl wd.heap.size wd)))
          clear HO HW
          go_cut [21] (fun v21 wc => v21 = .int .i64 (stk Z M (i : Int) (u : Int) - stk Z M (i : Int) ((u : Int) - 1)) ∧ Hid (OwnL encI wc w4.heap.size 3 u19 TL) ∧ Hid (Below w4.heap.size w4 wc) ∧ Hid (wc.heap[g6]? = some (.cells #[.bool false, .bool false, .int .i64 0, .int .i64 (i : Int), .int .i64 (u : Int)] 92 (0, 0))))
          case first =>
            go_region_held3 (fun W => W.cell? ⟨w.heap.size, 0, none⟩ = some (.int .i64 (N : Int)) ∧ W.cell? ⟨w.heap.size, 1, none⟩ = some (.bool b) ∧ W.cell? ⟨w.heap.size, 2, none⟩ = some (.slice ao nl cap) ∧ W.cell? ⟨g6, 3, none⟩ = some (.int .i64 (i : Int)) ∧ W.cell? ⟨g6, 4, none⟩ = some (.int .i64 (u : Int))) (first | exact ⟨x0, x1, x2, k3, k4⟩ | exact ⟨z0, z1, z2, z3, z4⟩ | go_keep)
              (first
                | (go_at_call 52; refine (HCS.out _ _ HWd.out).mono ?_; rintro e w7 ⟨rfl, hb⟩; have HOd := Lib.hid (HOd.out.below hb); have HWd := Lib.hid (HWd.out.trans (hb.mono HWd.out.size)); have hq := kept_box HNd.out hb; have HNd := Lib.hid hq; have z3 := cell_whole hq 3; have z4 := cell_whole hq 4; have hq2 := kept_box HN.out HWd.out; have z0 := cell_whole hq2 0; have z1 := cell_whole hq2 1; have z2 := cell_whole hq2 2; clear hb hq hq2))
            all_goals
              go_wp2
              go_meet
              exact ⟨rfl, HOd, HWd, HNd⟩
          case rest =>
            obtain ⟨rfl, HO, HW, HNc⟩ := hcut
            have k3 := cell_whole HNc.out 3
            have hb0 := (Below.refl wc.heap.size wc).alloc (Nat.le_refl _) (.cells #[.int .i64 (-(stk Z M (i : Int) (u : Int) - stk Z M (i : Int) ((u : Int) - 1)))] 3)
            have HOA := Lib.hid (HO.out.below hb0)
            have HWA := Lib.hid (HW.out.trans (hb0.mono HW.out.size))
            clear hb0 x0 x1 x2 k0 k1 k2 k4
            go_wp2_with (at_builtin; refine wpList_append_one (enc := encI) Try.underlying42 infoInt rfl (by omega) rfl _ _ rfl w4.heap.size _ TL (-(stk Z M (i : Int) (u : Int) - stk Z M (i : Int) ((u : Int) - 1))) rfl rfl HOA.out _ 1 rfl (cell_new' (by simp) _ _ 0) (by have := HTL.out; omega) HWA.out.size ?_; intro g4 cap4 w8 ho4 hg4 hl4 hb4 hlt4; (rw [HSTEP.out] at ho4); have HO4 := Lib.hid ho4; have HB4 := Lib.hid (HWA.out.grown hg4 HWA.out.size (fun g e => own_block HOA.out e)); clear ho4 hg4 hl4)
            go_roundw
            case rel => exact ⟨p + 1, by omega, by go_num, HO4, HB4⟩
            case measure => simp [intOf]; omega
        · have hal0 := (Below.refl wr.heap.size wr).alloc (Nat.le_refl _) (.cells #[.bool false, .bool false, .int .i64 0, .int .i64 (j : Int), .int .i64 (u : Int)] 92)
          have hnew := heap_alloc_new wr (.cells #[.bool false, .bool false, .int .i64 0, .int .i64 (j : Int), .int .i64 (u : Int)] 92)
          obtain ⟨g6, hg6⟩ : ∃ g6, wr.heap.size = g6 := ⟨_, rfl⟩
          rw [hg6] at hnew
          have HO := Lib.hid (HO.out.below hal0)
          have HW := Lib.hid (HW.out.trans (hal0.mono HW.out.size))
          have hnt := kept_box HN.out HW.out
          have x0 := cell_whole hnt 0
          have x1 := cell_whole hnt 1
          have x2 := cell_whole hnt 2
          have k0 := cell_whole hnew 0
          have k1 := cell_whole hnew 1
          have k2 := cell_whole hnew 2
          have k3 := cell_whole hnew 3
          have k4 := cell_whole hnew 4
          have HNW := Lib.hid hnew
          clear hal0 hnew hnt
          have hyb1 := HBD.out M HMP.out (j : Int) (u : Int)
          have hyb2 := HBD.out M HMP.out (j : Int) ((u : Int) - 1)
          have HCS := Lib.hid (fun (x : Int) (W : World) (hb : Below w4.heap.size w4 W) => HSTK.out j x mo mc ml M W HMLN.out HMP.out (HR.out.below' hb) (HMR.out.below' hb))
          have HSTEP : Hid (TL ++ [stk Z M (j : Int) (u : Int) - stk Z M (j : Int) ((u : Int) - 1)] = ((⟨Z, N, i, j, K, b⟩ : Exp).kinds.take (p + 1)).map (flwK (⟨Z, N, i, j, K, b⟩ : Exp) M)) := Lib.hid (by rw [HSN.out]; rfl)
          have hwu : IntKind.i64.wrap ((u : Int) - 1) = (u : Int) - 1 := IntWalk.i64_in _ (by have h1 : u ≤ K := huK; have h2 := HKK.out; omega)
          have hwy : IntKind.i64.wrap (stk Z M (j : Int) (u : Int) - stk Z M (j : Int) ((u : Int) - 1)) = stk Z M (j : Int) (u : Int) - stk Z M (j : Int) ((u : Int) - 1) := IntWalk.i64_in _ (by omega)
          have hwn : IntKind.i64.wrap (-(stk Z M (j : Int) (u : Int) - stk Z M (j : Int) ((u : Int) - 1))) = -(stk Z M (j : Int) (u : Int) - stk Z M (j : Int) ((u : Int) - 1)) := IntWalk.i64_in _ (by omega)
          have hns : ((j : Int) == (i : Int)) = false := by have := hij; simp; omega
          clear hyb1 hyb2
          go_wp2_with fail
          try rw [hg6]
          clear hg6
          generalize wr.alloc (.cells #[.bool false, .bool false, .int .i64 0, .int .i64 (j : Int), .int .i64 (u : Int)] 92) = wd at *
          have HOd := Lib.hid (HO.out.below (below_drew (Below.refl wd.heap.size wd)))
          have HWd := Lib.hid (HW.out.trans (below_drew (Below.refl wd.heap.size wd) |>.mono HW.out.size))
          have HNd := Lib.hid (kept_box HNW.out (below_drew (Below.refl wd.heap.size wd)))
          clear HO HW
          go_cut [21] (fun v21 wc => v21 = .int .i64 (stk Z M (j : Int) (u : Int) - stk Z M (j : Int) ((u : Int) - 1)) ∧ Hid (OwnL encI wc w4.heap.size 3 u19 TL) ∧ Hid (Below w4.heap.size w4 wc) ∧ Hid (wc.heap[g6]? = some (.cells #[.bool false, .bool false, .int .i64 0, .int .i64 (j : Int), .int .i64 (u : Int)] 92 (0, 0))))
          case first =>
            go_region_held3 (fun W => W.cell? ⟨w.heap.size, 0, none⟩ = some (.int .i64 (N : Int)) ∧ W.cell? ⟨w.heap.size, 1, none⟩ = some (.bool b) ∧ W.cell? ⟨w.heap.size, 2, none⟩ = some (.slice ao nl cap) ∧ W.cell? ⟨g6, 3, none⟩ = some (.int .i64 (j : Int)) ∧ W.cell? ⟨g6, 4, none⟩ = some (.int .i64 (u : Int))) (first | exact ⟨x0, x1, x2, k3, k4⟩ | exact ⟨z0, z1, z2, z3, z4⟩ | go_keep)
              (first
                | (go_at_call 52; refine (HCS.out _ _ HWd.out).mono ?_; rintro e w7 ⟨rfl, hb⟩; have HOd := Lib.hid (HOd.out.below hb); have HWd := Lib.hid (HWd.out.trans (hb.mono HWd.out.size)); have hq := kept_box HNd.out hb; have HNd := Lib.hid hq; have z3 := cell_whole hq 3; have z4 := cell_whole hq 4; have hq2 := kept_box HN.out HWd.out; have z0 := cell_whole hq2 0; have z1 := cell_whole hq2 1; have z2 := cell_whole hq2 2; clear hb hq hq2))
            all_goals
              go_wp2
              go_meet
              exact ⟨rfl, HOd, HWd, HNd⟩
          case rest =>
            obtain ⟨rfl, HO, HW, HNc⟩ := hcut
            have k3 := cell_whole HNc.out 3
            have hb0 := (Below.refl wc.heap.size wc).alloc (Nat.le_refl _) (.cells #[.int .i64 (stk Z M (j : Int) (u : Int) - stk Z M (j : Int) ((u : Int) - 1))] 3)
            have HOA := Lib.hid (HO.out.below hb0)
            have HWA := Lib.hid (HW.out.trans (hb0.mono HW.out.size))
            clear hb0 x0 x1 x2 k0 k1 k2 k4
            go_wp2_with (at_builtin; refine wpList_append_one (enc := encI) Try.underlying42 infoInt rfl (by omega) rfl _ _ rfl w4.heap.size _ TL (stk Z M (j : Int) (u : Int) - stk Z M (j : Int) ((u : Int) - 1)) rfl rfl HOA.out _ 1 rfl (cell_new' (by simp) _ _ 0) (by have := HTL.out; omega) HWA.out.size ?_; intro g4 cap4 w8 ho4 hg4 hl4 hb4 hlt4; (rw [HSTEP.out] at ho4); have HO4 := Lib.hid ho4; have HB4 := Lib.hid (HWA.out.grown hg4 HWA.out.size (fun g e => own_block HOA.out e)); clear ho4 hg4 hl4)
            go_roundw
            case rel => exact ⟨p + 1, by omega, by go_num, HO4, HB4⟩
            case measure => simp [intOf]; omega
      · have hli : ¬ (p : Int) < (al : Int) := by omega
        obtain rfl : p = al := by omega
        have HTK : Hid (((⟨Z, N, i, j, K, b⟩ : Exp).kinds.take p).map (flwK (⟨Z, N, i, j, K, b⟩ : Exp) M) = floV (N : Int) Z (i : Int) (j : Int) (K : Int) b L) := Lib.hid (by rw [List.take_of_length_le (by rw [HAL.out]; exact Nat.le_refl _), HFE.out M HMP.out])
        rw [HTK.out] at HO
        obtain ⟨fo, fc, rfl, hlst⟩ := HO.out.lst
        have HF := Lib.hid hlst
        clear hlst
        go_wp2_with fail
        go_ret2
        exact ⟨fo, fc, by rw [HFE0.out]; rfl, HF.out, HB.out.trans (HW.out.mono HB.out.size)⟩
  · have hz2 : (e0 != 0) = true := by simpa using hz
    have HV : Hid (floV (N : Int) Z (i : Int) (j : Int) (K : Int) b L = []) := Lib.hid (by unfold floV; rw [HFE0.out, if_neg hz])
    clear hz he0
    go_enter Try.func27, Try.ntmps27
    go_wp2_with (first
      | (go_at_call 29; refine (rchk14_any (N : Int) b ao cap nl Z (i : Int) (j : Int) (K : Int) lo lc ll L _ HR.out HZM.out HL.out HOK.out HL2.out HZL.out HLL.out).mono ?_; rw [HV0.out, HE0.out]; rintro e w2 ⟨rfl, hb⟩; have hn := kept_box HN.out hb; have HN := Lib.hid hn; have x0 := cell_whole hn 0; have x1 := cell_whole hn 1; have x2 := cell_whole hn 2; clear hn; have HR := Lib.hid (HR.out.below' hb); have HL := Lib.hid (HL.out.below' hb); have HB := Lib.hid (HB.out.trans (hb.mono HB.out.size)); clear hb)
      | (go_at_call 43; refine HASK.out.mono ?_; rintro e w1 ⟨rfl, hb⟩; have hn := kept_box HN.out hb; have HN := Lib.hid hn; have x0 := cell_whole hn 0; have x1 := cell_whole hn 1; have x2 := cell_whole hn 2; clear hn; have HR := Lib.hid (HR.out.below' hb); have HL := Lib.hid (HL.out.below' hb); have HB := Lib.hid (HB.out.trans (hb.mono HB.out.size)); clear hb))
    go_ret2
    exact ⟨none, 0, by rw [HFE0.out, HV.out]; rfl, by rw [HV.out]; exact Lst.nil _ _, HB.out⟩
end
end Go.Proofs.Ytbkmfjegbmjknaa
