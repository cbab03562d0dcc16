/- The flow of a plan: package expand's flow. -/
import Derived.Test.YtbkmfjegbmjknaaUCar
import Derived.Deep.RegionHeld3
import Derived.Deep.RegionLaw
namespace Go.Proofs.Ytbkmfjegbmjknaa
open Go.RowKit Go.Maps
set_option linter.unusedVariables false
theorem zeros_amt (E : Exp) {al : Nat} (h : E.kinds.length = al) : List.replicate al 0 = E.kinds.map (amtK []) := by
  refine (List.eq_replicate_iff.2 ⟨by rw [List.length_map]; exact h, fun b hb => ?_⟩).symm
  obtain ⟨⟨a, i, u⟩, _, rfl⟩ := List.mem_map.1 hb
  match a with
  | 0 => rfl
  | a + 1 => rfl
theorem place_kd {E : Exp} {q : Kd → Option (Int × Int)} {p : Int × Int} {c : Int} (h : plF q E.kinds p = some c) : ∃ (j : Nat) (kd : Kd), c = (j : Int) ∧ E.kinds[j]? = some kd ∧ q kd = some p ∧ j < E.kinds.length := by
  obtain ⟨j, kd, h1, h2, h3⟩ := plF_at h
  exact ⟨j, kd, h1, h2, h3, (List.getElem?_eq_some_iff.1 h2).1⟩
theorem qW_is {E : Exp} {kd : Kd} (hk : kd ∈ E.kinds) {p : Int × Int} (h : qW kd = some p) : ∃ v u : Nat, kd = Kd.wt v u ∧ p = ((v : Int), (u : Int)) ∧ v < E.N ∧ u ≤ E.H := by
  rcases Exp.kinds_cases hk with ⟨i, u, rfl, _⟩ | ⟨v, u, hv, rfl, ho⟩ | ⟨u, _, rfl⟩ | ⟨u, _, rfl⟩
  · cases h
  · exact ⟨v, u, rfl, (Option.some.inj h).symm, hv, by have := (E.wok_is.1 ho).2.1; omega⟩
  · cases h
  · cases h
theorem qE_is {E : Exp} {kd : Kd} (hk : kd ∈ E.kinds) {p : Int × Int} (h : qE E.s kd = some p) : ∃ u : Nat, kd = Kd.so u ∧ p = ((E.s : Int), (u : Int)) ∧ u ≤ E.H := by
  rcases Exp.kinds_cases hk with ⟨i, u, rfl, _⟩ | ⟨v, u, hv, rfl, ho⟩ | ⟨u, hu, rfl⟩ | ⟨u, _, rfl⟩
  · cases h
  · cases h
  · exact ⟨u, rfl, (Option.some.inj h).symm, hu⟩
  · cases h
theorem qX_is {E : Exp} {kd : Kd} (hk : kd ∈ E.kinds) {p : Int × Int} (h : qX E.t kd = some p) : ∃ u : Nat, kd = Kd.si u ∧ p = ((E.t : Int), (u : Int)) ∧ u ≤ E.H := by
  rcases Exp.kinds_cases hk with ⟨i, u, rfl, _⟩ | ⟨v, u, hv, rfl, ho⟩ | ⟨u, _, rfl⟩ | ⟨u, hu, rfl⟩
  · cases h
  · cases h
  · cases h
  · exact ⟨u, rfl, (Option.some.inj h).symm, hu⟩
theorem small_okP {v u : Nat} (hv : v ≤ 5000) (hu : u ≤ 5000) : okP ((v : Int), (u : Int)) := ⟨by unfold in64; simp only; omega, by unfold in64; simp only; omega⟩
theorem uchange_stk (E : Exp) (M : List MoveT) (v u : Nat) (ga : Option Addr) (gl gc : Nat) (G : List (List Int)) (w : World) (h : IRow w ga G) (hl : G.length = gl) (hGS : ∀ u, u ≤ E.H → ∀ v, v < E.N → ∃ g, G[u]? = some g ∧ g[v]? = some (stk E.Z M (v : Int) (u : Int))) (hbd : ∀ v u : Int, -1099511627776 ≤ stk E.Z M v u ∧ stk E.Z M v u ≤ 1099511627776)
    (hW : SpanNet E.Z E.N) (hin : ∀ m ∈ M, MvIn E m) (hv : v < E.N) (hu : u ≤ E.H) (hH : E.H ≤ 1024) :
    Calls Try.prog 82 #[.agg #[.int .i64 (v : Int), .int .i64 (u : Int)], .slice ga gl gc] w fun e w' => e = .returned (.int .i64 (stk E.Z M (v : Int) (u : Int) - stk E.Z M (v : Int) ((u : Int) - 1))) ∧ Below w.heap.size w w' := by
  cases u with
  | zero =>
    obtain ⟨g, h1, h2⟩ := hGS 0 hu v hv
    have hz : stk E.Z M (v : Int) ((((0 : Nat) : Int)) - 1) = 0 := stk_before (fun a ha => by have := (hW.times a ha).1; unfold tm at this; exact this) _ (mvIn_lt hin)
    rw [hz, Int.sub_zero]
    exact uchange_zero v _ g ga gl gc G w h hl h1 h2
  | succ u =>
    obtain ⟨g, h1, h2⟩ := hGS (u + 1) hu v hv
    obtain ⟨g', h1', h2'⟩ := hGS u (by omega) v hv
    rw [show (((u + 1 : Nat) : Int) - 1) = (u : Int) by omega]
    exact uchange_succ v u _ _ g g' ga gl gc G w h hl h1 h2 h1' h2' (hbd _ _) (hbd _ _) (by omega)
set_option maxRecDepth 100000 in
set_option maxHeartbeats 16000000 in
theorem ugflow_any (k : GBk) (E : Exp) (bn : Int) (m : Nat) (fa : Option Addr) (al ac : Nat) (hd : Int × Int → Option (Nat × Nat × Nat)) (ao mo ga : Option Addr) (nl cap ml mc gl gc : Nat) (M : List MoveT) (G : List (List Int)) (w : World)
    (hG : GX k (E.N : Int) (E.H : Int) bn w (contK E E.kinds) m (.slice fa al ac) hd) (hal : E.kinds.length = al) (hK : al ≤ 100000) (hZ : Row encA 4 w ao E.Z) (hzl : E.Z.length = nl) (hM : Row encK 3 w mo M) (hml : M.length = ml) (hml2 : ml ≤ 200) (hin : ∀ m ∈ M, MvIn E m) (hnd : (M.map fun m => (m.2.1, m.1)).Nodup)
    (hI : IRow w ga G) (hgl : G.length = gl) (hGS : ∀ u, u ≤ E.H → ∀ v, v < E.N → ∃ g, G[u]? = some g ∧ g[v]? = some (stk E.Z M (v : Int) (u : Int))) (hbd : ∀ v u : Int, -1099511627776 ≤ stk E.Z M v u ∧ stk E.Z M v u ≤ 1099511627776) (hW : SpanNet E.Z E.N) (hH : E.H ≤ 1024) (hs : E.s < E.N) (ht : E.t < E.N) :
    Calls Try.prog 50 #[grwV k (E.N : Int) (E.H : Int) bn (.slice fa al ac), .slice ao nl cap, .slice mo ml mc, .slice ga gl gc] w fun e w' => ∃ fo fc, e = .returned (.slice fo al fc) ∧ Lst encI w' fo (E.kinds.map (flwK E M)) ∧ Below w.heap.size w w' := by
  unfold grwV
  have hb00 := (Below.refl _ w).alloc (Nat.le_refl _) (.cells #[.int .i64 (E.N : Int), .int .i64 (E.H : Int), .int .i64 bn, .bool false, .slice fa al ac, .map (some k.bc), .map (some k.bw), .map (some k.be), .map (some k.bx)] 83)
  have HB := Lib.hid hb00
  have HN := Lib.hid (heap_alloc_new w (.cells #[.int .i64 (E.N : Int), .int .i64 (E.H : Int), .int .i64 bn, .bool false, .slice fa al ac, .map (some k.bc), .map (some k.bw), .map (some k.be), .map (some k.bx)] 83))
  have HG := Lib.hid (hG.below hb00)
  have HZ := Lib.hid (hZ.below' hb00)
  have HM := Lib.hid (hM.below' hb00)
  have HI := Lib.hid (hI.below hb00)
  have HAL := Lib.hid hal
  have HZL := Lib.hid hzl
  have HML := Lib.hid hml
  have HGL := Lib.hid hgl
  have HIN := Lib.hid hin
  have HND := Lib.hid hnd
  have HGS := Lib.hid hGS
  have HBD := Lib.hid hbd
  have HW := Lib.hid hW
  have HNB := Lib.hid (And.intro hW.nodes (And.intro hH (And.intro hs ht)))
  have n4 := cell_whole HN.out 4
  have hmk := fun W => run_make_row' (P := Try.prog) 42 3 (.int .i64 0) 8 Try.underlying42 infoInt rfl .i64 .i64 al (by omega) (by omega) W
  clear hb00 hG hZ hM hI hal hzl hml hgl hin hnd hGS hbd hW hH hs ht
  generalize hw1 : w.alloc (.cells #[.int .i64 (E.N : Int), .int .i64 (E.H : Int), .int .i64 bn, .bool false, .slice fa al ac, .map (some k.bc), .map (some k.bw), .map (some k.be), .map (some k.bx)] 83) = w1 at *
  have HMO : Hid (OwnL encI (w1.alloc (.cells (madeCells #[.int .i64 0] al) 3)) w1.heap.size 3 (.slice (some ⟨w1.heap.size, 0, none⟩) al al) (E.kinds.map (amtK (M.take 0)))) := Lib.hid (by
    rw [List.take_zero, ← zeros_amt E HAL.out]
    exact madeI w1 w1.heap.size al (Nat.le_refl _) (by omega))
  have HMB := Lib.hid ((Below.refl w1.heap.size w1).alloc (Nat.le_refl _) (.cells (madeCells #[.int .i64 0] al) 3))
  go_enter Try.func50, Try.ntmps50
  go_wp2
  try rw [hw1]
  clear n4 hmk hw1
  obtain ⟨gF, hgF⟩ : ∃ gF, w1.heap.size = gF := ⟨_, rfl⟩
  rw [hgF] at HMO
  try rw [hgF]
  have HGF := Lib.hid hgF
  clear hgF
  generalize w1.alloc (.cells (madeCells #[.int .i64 0] al) 3) = w2 at *
  go_loopw [25] (fun iv wr => ∃ n : Nat, n ≤ ml ∧ iv = .int .i64 (n : Int) ∧ Hid (OwnL encI wr gF 3 (.slice (some ⟨gF, 0, none⟩) al al) (E.kinds.map (amtK (M.take n)))) ∧ Hid (Below w1.heap.size w1 wr)) (fun iv _ => ml - (intOf iv).toNat)
  case atStart => exact ⟨0, Nat.zero_le _, rfl, HMO, HMB⟩
  case round =>
    clear HMO HMB
    obtain ⟨n, hn, rfl, HO, HWR⟩ := hrel
    by_cases hlt : n < ml
    · have hli : (n : Int) < (ml : Int) := by omega
      have hnM : n < M.length := by rw [HML.out]; exact hlt
      obtain ⟨mb, mx, e, _, d0, d1, d2⟩ := Row.tri (HM.out.below' HWR.out) hnM
      subst e
      obtain ⟨i, u, hmi, hmu, hok, hstep⟩ := amt_step (E := E) (List.getElem?_eq_getElem hnM) HIN.out HND.out
      have HSTEP := Lib.hid hstep
      obtain ⟨hil, huH⟩ := Exp.ok_lt hok
      have hfr := (HW.out.ends _ (List.getElem_mem hil)).1
      have hfa : E.frA i = frN E.Z[i] := by unfold Exp.frA; rw [List.getElem?_eq_getElem hil]
      have hflt := (HW.out.lt _ (List.getElem_mem hil)).1
      have HOKP : Hid (okP (((E.frA i : Nat) : Int), (u : Int))) := Lib.hid (small_okP (by have := HNB.out.1; omega) (by have := HNB.out.2.1; omega))
      obtain ⟨ab, ax, e, _, a0, _, _, _⟩ := arc_at (HZ.out.below' HWR.out) (List.getElem?_eq_getElem hil)
      subst e
      rw [hfr, ← hfa] at a0
      rw [hmi] at d0 HSTEP
      rw [hmu] at d1
      generalize (M[n]).2.2 = mn at *
      have hinl : (i : Int) < (nl : Int) := by rw [← HZL.out]; omega
      obtain ⟨g6, hg6⟩ : ∃ g6, wr.heap.size = g6 := ⟨_, rfl⟩
      have hal0 := (Below.refl wr.heap.size wr).alloc (Nat.le_refl _) (.cells #[.int .i64 (i : Int), .int .i64 (u : Int), .int .i64 mn] 94)
      have hnew := heap_alloc_new wr (.cells #[.int .i64 (i : Int), .int .i64 (u : Int), .int .i64 mn] 94)
      rw [hg6] at hnew
      have HWA := Lib.hid (HWR.out.trans (hal0.mono HWR.out.size))
      have HOA := Lib.hid (HO.out.below hal0)
      have a0' := cell_below hal0 a0
      have hgb := kept_box HN.out HWA.out
      have x0 := cell_whole hgb 0
      have x1 := cell_whole hgb 1
      have x2 := cell_whole hgb 2
      have x3 := cell_whole hgb 3
      have x4 := cell_whole hgb 4
      have x5 := cell_whole hgb 5
      have x6 := cell_whole hgb 6
      have x7 := cell_whole hgb 7
      have x8 := cell_whole hgb 8
      have y0 := cell_whole hnew 0
      have y1 := cell_whole hnew 1
      have y2 := cell_whole hnew 2
      have HAZ := Lib.hid a0'
      have HABL : Hid (ab < w1.heap.size) := Lib.hid (by obtain ⟨b', o', e, hb', _⟩ := HZ.out i (by rw [HZL.out]; omega); cases e; exact hb')
      have HNW := Lib.hid hnew
      clear hstep hmi hmu hok huH hfr hfa hflt hal0 hnew hgb
      go_wp2_with fail
      try rw [hg6]
      clear hg6
      generalize wr.alloc (.cells #[.int .i64 (i : Int), .int .i64 (u : Int), .int .i64 mn] 94) = wd at *
      have HGD := Lib.hid (HG.out.below (HWA.out.trans (below_drew (Below.refl _ _))))
      have HOD := Lib.hid (HOA.out.below (below_drew (Below.refl _ _)))
      have HWD := Lib.hid (HWA.out.trans (below_drew (Below.refl _ _)))
      go_region_held3 (fun W => W.cell? ⟨w.heap.size, 0, none⟩ = some (.int .i64 (E.N : Int)) ∧ W.cell? ⟨w.heap.size, 1, none⟩ = some (.int .i64 (E.H : Int)) ∧ W.cell? ⟨w.heap.size, 2, none⟩ = some (.int .i64 bn) ∧ W.cell? ⟨w.heap.size, 3, none⟩ = some (.bool false) ∧ W.cell? ⟨w.heap.size, 4, none⟩ = some (.slice fa al ac) ∧ W.cell? ⟨w.heap.size, 5, none⟩ = some (.map (some k.bc)) ∧ W.cell? ⟨w.heap.size, 6, none⟩ = some (.map (some k.bw)) ∧ W.cell? ⟨w.heap.size, 7, none⟩ = some (.map (some k.be)) ∧ W.cell? ⟨w.heap.size, 8, none⟩ = some (.map (some k.bx)) ∧ W.cell? ⟨g6, 0, none⟩ = some (.int .i64 (i : Int)) ∧ W.cell? ⟨g6, 1, none⟩ = some (.int .i64 (u : Int)) ∧ W.cell? ⟨g6, 2, none⟩ = some (.int .i64 mn) ∧ W.cell? ⟨ab, ax + i * 4, none⟩ = some (.int .i64 ((E.frA i : Nat) : Int))) (first | exact ⟨x0, x1, x2, x3, x4, x5, x6, x7, x8, y0, y1, y2, a0'⟩ | exact ⟨z0, z1, z2, z3, z4, z5, z6, z7, z8, z9, z10, z11, z12⟩ | go_keep)
        (first | (go_at_call 81; refine (ucarry_any k E bn m fa al ac hd gF gF al al (E.kinds.map (amtK (M.take n))) ((E.frA i : Nat) : Int) (u : Int) (i : Int) (u : Int) mn _ HGD.out HOD.out (List.length_map _) (by rw [List.length_map]; exact HAL.out.symm) hK HOKP.out).mono ?_; rintro e w7 ⟨rfl, ho7, hk7⟩; (rw [HSTEP.out] at ho7); have HO7 := Lib.hid ho7; have HW7 := Lib.hid (HWD.out.trans (hk7.below HWD.out.size (fun i e => by have e2 : i = gF := e; have := HGF.out; omega))); have hq := kept_box HN.out HW7.out; have z0 := cell_whole hq 0; have z1 := cell_whole hq 1; have z2 := cell_whole hq 2; have z3 := cell_whole hq 3; have z4 := cell_whole hq 4; have z5 := cell_whole hq 5; have z6 := cell_whole hq 6; have z7 := cell_whole hq 7; have z8 := cell_whole hq 8; have hq6 := hk7.old (kept_box HNW.out (below_drew (Below.refl wd.heap.size wd))) (fun e => by have e2 : g6 = gF := e; have := own_ne HOA.out HNW.out (by decide); exact this (by rw [e2]; rfl)); have z9 := cell_whole hq6 0; have z10 := cell_whole hq6 1; have z11 := cell_whole hq6 2; have z12 := cell_heap (hk7.block ab (by have := HABL.out; have := HWD.out.size; omega) (fun e => by have e2 : ab = gF := e; have := HABL.out; have := HGF.out; omega)) (cell_below (below_drew (Below.refl wd.heap.size wd)) HAZ.out); clear ho7 hk7 hq hq6))
      all_goals
        go_wp2
        go_roundw
        case rel => exact ⟨n + 1, by omega, by go_num, HO7, HW7⟩
        case measure => simp [intOf]; omega
    · have hli : ¬ (n : Int) < (ml : Int) := by omega
      obtain rfl : n = ml := by omega
      have HTK : Hid (M.take n = M) := Lib.hid (by rw [← HML.out]; exact List.take_length)
      rw [HTK.out] at HO
      have hg1 := kept_box HN.out HWR.out
      have n6 := cell_whole hg1 6
      have HGW := Lib.hid (HG.out.below HWR.out)
      clear hg1
      go_wp2_with (first
        | (at_range; refine wpList_range_slot rfl _ _ _ rfl Try.underlying81 HGW.out.wm rfl ?_; intro wB cnt0 hR0 hgR hsR)
        | go_in)
      try go_frame
      obtain ⟨rB, hrB⟩ : ∃ rB, wr.heap.size = rB := ⟨_, rfl⟩
      rw [hrB] at hR0 hsR
      try rw [hrB]
      have HRGB : Hid (gF < rB) := Lib.hid (by rw [← hrB]; exact own_lt HO.out rfl)
      have HBKB : Hid (k.bw < w1.heap.size) := Lib.hid HG.out.wm.lt
      have HBFB : Hid (k.bw ≠ gF) := Lib.hid (by have := HBKB.out; have := HGF.out; omega)
      have HR0 := Lib.hid hR0
      have HO0 := Lib.hid (own_old HO.out (fun g e => hgR.block g (own_lt HO.out e) (by simp)))
      have HW0 := Lib.hid (HWR.out.trans ((below_grownN hgR).mono HWR.out.size))
      have HS0 : Hid (rB < wB.heap.size) := Lib.hid (by omega)
      clear hR0 hgR hsR hrB n6 HO HWR HGW
      go_loopw [13] (fun _ wr => ∃ (left : Int × Int → Bool) (cnt : Nat), Hid (SlotR numV wr k.bw rB m (contK E E.kinds).W left cnt) ∧ Hid (OwnL encI wr gF 3 (.slice (some ⟨gF, 0, none⟩) al al) (E.kinds.map (mixK qW left (flwK E M) (amtK M)))) ∧ Hid (Below w1.heap.size w1 wr) ∧ Hid (rB < wr.heap.size)) (fun _ wr => wr.rangeLeft k.bw rB)
      case atStart => exact ⟨_, _, HR0, Lib.hid (by rw [mix_start (q := qW) (g := flwK E M)] at HO0; exact HO0.out), HW0, HS0⟩
      case round =>
        clear HR0 HO0 HW0 HS0
        obtain ⟨left, cnt, HR, HO, HWR, HRS⟩ := hrel
        go_wp2_with (first
          | (at_next; refine wpList_next_slot rfl _ rfl rfl HR.out ?_ ?_)
          | go_in)
        · intro hall
          have HE : Hid (E.kinds.map (mixK qW left (flwK E M) (amtK M)) = E.kinds.map (fulK qW (flwK E M) (amtK M))) := Lib.hid (mix_end (fun kd hk p hp => by
            obtain ⟨v, u, rfl, hp', hv, hu⟩ := qW_is hk hp
            subst hp'
            exact hall _ _ (small_okP (by have := HNB.out; omega) (by have := HNB.out; omega))))
          rw [HE.out] at HO
          clear hall HE HR HRS
          have hg1 := kept_box HN.out HWR.out
          have n7 := cell_whole hg1 7
          have HGW := Lib.hid (HG.out.below HWR.out)
          clear hg1
          go_wp2_with (first
            | (at_range; refine wpList_range_slot rfl _ _ _ rfl Try.underlying81 HGW.out.em rfl ?_; intro wC cnt0 hR0 hgR hsR)
            | go_in)
          try go_frame
          obtain ⟨rC, hrC⟩ : ∃ rC, wr.heap.size = rC := ⟨_, rfl⟩
          rw [hrC] at hR0 hsR
          try rw [hrC]
          have HRGC : Hid (gF < rC) := Lib.hid (by rw [← hrC]; exact own_lt HO.out rfl)
          have HBKC : Hid (k.be < w1.heap.size) := Lib.hid HG.out.em.lt
          have HBFC : Hid (k.be ≠ gF) := Lib.hid (by have := HBKC.out; have := HGF.out; omega)
          have HR0 := Lib.hid hR0
          have HO0 := Lib.hid (own_old HO.out (fun g e => hgR.block g (own_lt HO.out e) (by simp)))
          have HW0 := Lib.hid (HWR.out.trans ((below_grownN hgR).mono HWR.out.size))
          have HS0 : Hid (rC < wC.heap.size) := Lib.hid (by omega)
          clear hR0 hgR hsR hrC n7 HO HWR HGW
          go_loopw [15] (fun _ wr => ∃ (left : Int × Int → Bool) (cnt : Nat), Hid (SlotR numV wr k.be rC m (contK E E.kinds).E left cnt) ∧ Hid (OwnL encI wr gF 3 (.slice (some ⟨gF, 0, none⟩) al al) (E.kinds.map (mixK (qE E.s) left (flwK E M) (fulK qW (flwK E M) (amtK M))))) ∧ Hid (Below w1.heap.size w1 wr) ∧ Hid (rC < wr.heap.size)) (fun _ wr => wr.rangeLeft k.be rC)
          case atStart => exact ⟨_, _, HR0, Lib.hid (by rw [mix_start (q := (qE E.s)) (g := flwK E M)] at HO0; exact HO0.out), HW0, HS0⟩
          case round =>
            clear HR0 HO0 HW0 HS0
            obtain ⟨left, cnt, HR, HO, HWR, HRS⟩ := hrel
            go_wp2_with (first
              | (at_next; refine wpList_next_slot rfl _ rfl rfl HR.out ?_ ?_)
              | go_in)
            · intro hall
              have HE : Hid (E.kinds.map (mixK (qE E.s) left (flwK E M) (fulK qW (flwK E M) (amtK M))) = E.kinds.map (fulK (qE E.s) (flwK E M) (fulK qW (flwK E M) (amtK M)))) := Lib.hid (mix_end (fun kd hk p hp => by
                obtain ⟨u, rfl, hp', hu⟩ := qE_is hk hp
                subst hp'
                exact hall _ _ (small_okP (by have := HNB.out; omega) (by have := HNB.out; omega))))
              rw [HE.out] at HO
              clear hall HE HR HRS
              have hg1 := kept_box HN.out HWR.out
              have n8 := cell_whole hg1 8
              have HGW := Lib.hid (HG.out.below HWR.out)
              clear hg1
              go_wp2_with (first
                | (at_range; refine wpList_range_slot rfl _ _ _ rfl Try.underlying81 HGW.out.xm rfl ?_; intro wD cnt0 hR0 hgR hsR)
                | go_in)
              try go_frame
              obtain ⟨rD, hrD⟩ : ∃ rD, wr.heap.size = rD := ⟨_, rfl⟩
              rw [hrD] at hR0 hsR
              try rw [hrD]
              have HRGD : Hid (gF < rD) := Lib.hid (by rw [← hrD]; exact own_lt HO.out rfl)
              have HBKD : Hid (k.bx < w1.heap.size) := Lib.hid HG.out.xm.lt
              have HBFD : Hid (k.bx ≠ gF) := Lib.hid (by have := HBKD.out; have := HGF.out; omega)
              have HR0 := Lib.hid hR0
              have HO0 := Lib.hid (own_old HO.out (fun g e => hgR.block g (own_lt HO.out e) (by simp)))
              have HW0 := Lib.hid (HWR.out.trans ((below_grownN hgR).mono HWR.out.size))
              have HS0 : Hid (rD < wD.heap.size) := Lib.hid (by omega)
              clear hR0 hgR hsR hrD n8 HO HWR HGW
              go_loopw [17] (fun _ wr => ∃ (left : Int × Int → Bool) (cnt : Nat), Hid (SlotR numV wr k.bx rD m (contK E E.kinds).X left cnt) ∧ Hid (OwnL encI wr gF 3 (.slice (some ⟨gF, 0, none⟩) al al) (E.kinds.map (mixK (qX E.t) left (flwK E M) (fulK (qE E.s) (flwK E M) (fulK qW (flwK E M) (amtK M)))))) ∧ Hid (Below w1.heap.size w1 wr) ∧ Hid (rD < wr.heap.size)) (fun _ wr => wr.rangeLeft k.bx rD)
              case atStart => exact ⟨_, _, HR0, Lib.hid (by rw [mix_start (q := (qX E.t)) (g := flwK E M)] at HO0; exact HO0.out), HW0, HS0⟩
              case round =>
                clear HR0 HO0 HW0 HS0
                obtain ⟨left, cnt, HR, HO, HWR, HRS⟩ := hrel
                go_wp2_with (first
                  | (at_next; refine wpList_next_slot rfl _ rfl rfl HR.out ?_ ?_)
                  | go_in)
                · intro hall
                  have HE : Hid (E.kinds.map (mixK (qX E.t) left (flwK E M) (fulK (qE E.s) (flwK E M) (fulK qW (flwK E M) (amtK M)))) = E.kinds.map (fulK (qX E.t) (flwK E M) (fulK (qE E.s) (flwK E M) (fulK qW (flwK E M) (amtK M))))) := Lib.hid (mix_end (fun kd hk p hp => by
                    obtain ⟨u, rfl, hp', hu⟩ := qX_is hk hp
                    subst hp'
                    exact hall _ _ (small_okP (by have := HNB.out; omega) (by have := HNB.out; omega))))
                  rw [HE.out] at HO
                  clear hall HE HR HRS
                  rw [ful_all] at HO
                  have HOX := HO
                  have HB9 := Lib.hid (HB.out.trans (HWR.out.mono HB.out.size))
                  clear HO
                  go_wp2_with fail
                  go_ret
                  exact ⟨_, _, rfl, OwnL.lstK HOX.out, HB9.out⟩
                · intro p1 p2 c w3 cnt' hlp hfp hR3 hlt3 hgr hsz hen
                  obtain ⟨j, kd, rfl, hj, hq, hjl⟩ := place_kd (q := (qX E.t)) hfp
                  have hq0 := hq
                  obtain ⟨u, rfl, hp', hu⟩ := qX_is (List.mem_of_getElem? hj) hq
                  have hlp0 := hlp
                  obtain ⟨rfl, rfl⟩ := Prod.mk.inj hp'
                  have HSTEP : Hid ((E.kinds.map (mixK (qX E.t) left (flwK E M) (fulK (qE E.s) (flwK E M) (fulK qW (flwK E M) (amtK M))))).set j (flwK E M (Kd.si u)) = E.kinds.map (mixK (qX E.t) (fun r => left r && !decide (r = ((E.t : Int), (u : Int)))) (flwK E M) (fulK (qE E.s) (flwK E M) (fulK qW (flwK E M) (amtK M))))) := Lib.hid (mix_step (kinds_nodup E) qX_inj hlp0 hj hq0)
                  have hlen : j < (E.kinds.map (mixK (qX E.t) left (flwK E M) (fulK (qE E.s) (flwK E M) (fulK qW (flwK E M) (amtK M))))).length := by rw [List.length_map]; exact hjl
                  have hjal : (j : Int) < (al : Int) := by rw [← HAL.out]; omega
                  have HRO := HR
                  have HLT := Lib.hid hlt3
                  have hb3 : Below w1.heap.size w1 w3 := HWR.out.grown hgr HWR.out.size (fun i hi => by have := Option.some.inj hi; have := HRGD.out; have := HGF.out; omega)
                  have ho3 : OwnL encI w3 gF 3 (.slice (some ⟨gF, 0, none⟩) al al) (E.kinds.map (mixK (qX E.t) left (flwK E M) (fulK (qE E.s) (flwK E M) (fulK qW (flwK E M) (amtK M))))) := own_old HO.out (fun g e => hgr.block g (own_lt HO.out e) (fun e2 => by have e3 : gF = g := Option.some.inj e; have := Option.some.inj e2; have := HRGD.out; omega))
                  have hrs3 : rD < w3.heap.size := by rw [hsz]; exact HRS.out
                  unfold numV at hen
                  obtain ⟨g6, hg6⟩ : ∃ g6, w3.heap.size = g6 := ⟨_, rfl⟩
                  have hal0 := (Below.refl w3.heap.size w3).alloc (Nat.le_refl _) (.cells #[.int .i64 (E.t : Int), .int .i64 (u : Int)] 26)
                  have hnew := heap_alloc_new w3 (.cells #[.int .i64 (E.t : Int), .int .i64 (u : Int)] 26)
                  rw [hg6] at hnew
                  have s0 := cell_whole hnew 0
                  have s1 := cell_whole hnew 1
                  have HR4 := Lib.hid (hR3.below hal0)
                  have ho4 := OwnL.below ho3 hal0
                  have HW4 := Lib.hid (hb3.trans (hal0.mono hb3.size))
                  have HS4 : Hid (rD < (w3.alloc (.cells #[.int .i64 (E.t : Int), .int .i64 (u : Int)] 26)).heap.size) := Lib.hid (Nat.lt_of_lt_of_le hrs3 hal0.size)
                  have HI4 := Lib.hid (HI.out.below HW4.out)
                  have HNW := Lib.hid hnew
                  obtain ⟨f0, f1⟩ := ho4.cell (List.getElem?_eq_getElem hlen)
                  generalize (E.kinds.map (mixK (qX E.t) left (flwK E M) (fulK (qE E.s) (flwK E M) (fulK qW (flwK E M) (amtK M)))))[j] = y0 at f0
                  unfold encI at f0
                  have HO4 := Lib.hid ho4
                  have hgl4 : gF < (w3.alloc (.cells #[.int .i64 (E.t : Int), .int .i64 (u : Int)] 26)).heap.size := by have := HS4.out; have := HRGD.out; omega
                  clear hfp hj hq hq0 hjl hlp hlp0 hp' hlen hb3 ho3 hrs3 hR3 hlt3 hgr hsz hal0 hnew ho4 HO HR HWR HRS
                  have HC := Lib.hid (fun (W : World) (hI : IRow W ga G) => uchange_stk E M E.t u ga gl gc G W hI HGL.out HGS.out HBD.out HW.out HIN.out (by have := HNB.out; omega) hu HNB.out.2.1)
                  have hb1 := HBD.out (E.t : Int) (u : Int)
                  have hb2 := HBD.out (E.t : Int) ((u : Int) - 1)
                  have HFX : Hid (flwK E M (Kd.si u) = (stk E.Z M (E.t : Int) (u : Int) - stk E.Z M (E.t : Int) ((u : Int) - 1))) := Lib.hid rfl
                  obtain ⟨sx, hsx⟩ : ∃ sx, stk E.Z M (E.t : Int) (u : Int) - stk E.Z M (E.t : Int) ((u : Int) - 1) = sx := ⟨_, rfl⟩
                  have hsb : -2199023255552 ≤ sx ∧ sx ≤ 2199023255552 := by omega
                  rw [hsx] at HFX HC
                  have hwn : IntKind.i64.wrap (-sx) = -sx := IntWalk.i64_in _ (by omega)
                  clear hsx hb1 hb2
                  go_wp2_with (first
                    | (go_at_call 82; refine (HC.out _ HI4.out).mono ?_; rintro e w7 ⟨rfl, hb7⟩; have HR7 := Lib.hid (HR4.out.below hb7); have ho7 := OwnL.below HO4.out hb7; have HO7 := Lib.hid ho7; have HW7 := Lib.hid (HW4.out.trans (hb7.mono HW4.out.size)); have HS7 := Lib.hid (Nat.lt_of_lt_of_le HS4.out hb7.size); have f0 := cell_below hb7 f0; have f1 : w7.frozen? ⟨gF, j, none⟩ = false := (by rw [hb7.frozen (p := ⟨gF, j, none⟩) hgl4]; exact f1); clear hb7 ho7))
                  go_roundw
                  case rel => exact ⟨_, cnt', Lib.hid (SlotR.stay (w := w7) HR7.out (by first | exact Below.heap_setCell _ _ _ _ HBFD.out | (simp; done)) (by first | exact Below.heap_setCell _ _ _ _ (fun e => by have e2 : rD = gF := e; have := HRGD.out; omega) | (simp; done))), Lib.hid (by rw [← HSTEP.out, HFX.out]; exact OwnL.put HO7.out j ((sx))), Lib.hid (by have h := HGF.out; exact below_set HW7.out (by omega) _), Lib.hid (by simpa [World.setCell] using HS7.out)⟩
                  case measure =>
                    rw [SlotR.left_eq (SlotR.stay (w := w7) HR7.out (by first | exact Below.heap_setCell _ _ _ _ HBFD.out | (simp; done)) (by first | exact Below.heap_setCell _ _ _ _ (fun e => by have e2 : rD = gF := e; have := HRGD.out; omega) | (simp; done))), HRO.out.left_eq]
                    exact HLT.out
            · intro p1 p2 c w3 cnt' hlp hfp hR3 hlt3 hgr hsz hen
              obtain ⟨j, kd, rfl, hj, hq, hjl⟩ := place_kd (q := (qE E.s)) hfp
              have hq0 := hq
              obtain ⟨u, rfl, hp', hu⟩ := qE_is (List.mem_of_getElem? hj) hq
              have hlp0 := hlp
              obtain ⟨rfl, rfl⟩ := Prod.mk.inj hp'
              have HSTEP : Hid ((E.kinds.map (mixK (qE E.s) left (flwK E M) (fulK qW (flwK E M) (amtK M)))).set j (flwK E M (Kd.so u)) = E.kinds.map (mixK (qE E.s) (fun r => left r && !decide (r = ((E.s : Int), (u : Int)))) (flwK E M) (fulK qW (flwK E M) (amtK M)))) := Lib.hid (mix_step (kinds_nodup E) qE_inj hlp0 hj hq0)
              have hlen : j < (E.kinds.map (mixK (qE E.s) left (flwK E M) (fulK qW (flwK E M) (amtK M)))).length := by rw [List.length_map]; exact hjl
              have hjal : (j : Int) < (al : Int) := by rw [← HAL.out]; omega
              have HRO := HR
              have HLT := Lib.hid hlt3
              have hb3 : Below w1.heap.size w1 w3 := HWR.out.grown hgr HWR.out.size (fun i hi => by have := Option.some.inj hi; have := HRGC.out; have := HGF.out; omega)
              have ho3 : OwnL encI w3 gF 3 (.slice (some ⟨gF, 0, none⟩) al al) (E.kinds.map (mixK (qE E.s) left (flwK E M) (fulK qW (flwK E M) (amtK M)))) := own_old HO.out (fun g e => hgr.block g (own_lt HO.out e) (fun e2 => by have e3 : gF = g := Option.some.inj e; have := Option.some.inj e2; have := HRGC.out; omega))
              have hrs3 : rC < w3.heap.size := by rw [hsz]; exact HRS.out
              unfold numV at hen
              obtain ⟨g6, hg6⟩ : ∃ g6, w3.heap.size = g6 := ⟨_, rfl⟩
              have hal0 := (Below.refl w3.heap.size w3).alloc (Nat.le_refl _) (.cells #[.int .i64 (E.s : Int), .int .i64 (u : Int)] 26)
              have hnew := heap_alloc_new w3 (.cells #[.int .i64 (E.s : Int), .int .i64 (u : Int)] 26)
              rw [hg6] at hnew
              have s0 := cell_whole hnew 0
              have s1 := cell_whole hnew 1
              have HR4 := Lib.hid (hR3.below hal0)
              have ho4 := OwnL.below ho3 hal0
              have HW4 := Lib.hid (hb3.trans (hal0.mono hb3.size))
              have HS4 : Hid (rC < (w3.alloc (.cells #[.int .i64 (E.s : Int), .int .i64 (u : Int)] 26)).heap.size) := Lib.hid (Nat.lt_of_lt_of_le hrs3 hal0.size)
              have HI4 := Lib.hid (HI.out.below HW4.out)
              have HNW := Lib.hid hnew
              obtain ⟨f0, f1⟩ := ho4.cell (List.getElem?_eq_getElem hlen)
              generalize (E.kinds.map (mixK (qE E.s) left (flwK E M) (fulK qW (flwK E M) (amtK M))))[j] = y0 at f0
              unfold encI at f0
              have HO4 := Lib.hid ho4
              have hgl4 : gF < (w3.alloc (.cells #[.int .i64 (E.s : Int), .int .i64 (u : Int)] 26)).heap.size := by have := HS4.out; have := HRGC.out; omega
              clear hfp hj hq hq0 hjl hlp hlp0 hp' hlen hb3 ho3 hrs3 hR3 hlt3 hgr hsz hal0 hnew ho4 HO HR HWR HRS
              have HC := Lib.hid (fun (W : World) (hI : IRow W ga G) => uchange_stk E M E.s u ga gl gc G W hI HGL.out HGS.out HBD.out HW.out HIN.out (by have := HNB.out; omega) hu HNB.out.2.1)
              have hb1 := HBD.out (E.s : Int) (u : Int)
              have hb2 := HBD.out (E.s : Int) ((u : Int) - 1)
              have HFX : Hid (flwK E M (Kd.so u) = -(stk E.Z M (E.s : Int) (u : Int) - stk E.Z M (E.s : Int) ((u : Int) - 1))) := Lib.hid rfl
              obtain ⟨sx, hsx⟩ : ∃ sx, stk E.Z M (E.s : Int) (u : Int) - stk E.Z M (E.s : Int) ((u : Int) - 1) = sx := ⟨_, rfl⟩
              have hsb : -2199023255552 ≤ sx ∧ sx ≤ 2199023255552 := by omega
              rw [hsx] at HFX HC
              have hwn : IntKind.i64.wrap (-sx) = -sx := IntWalk.i64_in _ (by omega)
              clear hsx hb1 hb2
              go_wp2_with (first
                | (go_at_call 82; refine (HC.out _ HI4.out).mono ?_; rintro e w7 ⟨rfl, hb7⟩; have HR7 := Lib.hid (HR4.out.below hb7); have ho7 := OwnL.below HO4.out hb7; have HO7 := Lib.hid ho7; have HW7 := Lib.hid (HW4.out.trans (hb7.mono HW4.out.size)); have HS7 := Lib.hid (Nat.lt_of_lt_of_le HS4.out hb7.size); have f0 := cell_below hb7 f0; have f1 : w7.frozen? ⟨gF, j, none⟩ = false := (by rw [hb7.frozen (p := ⟨gF, j, none⟩) hgl4]; exact f1); clear hb7 ho7))
              go_roundw
              case rel => exact ⟨_, cnt', Lib.hid (SlotR.stay (w := w7) HR7.out (by first | exact Below.heap_setCell _ _ _ _ HBFC.out | (simp; done)) (by first | exact Below.heap_setCell _ _ _ _ (fun e => by have e2 : rC = gF := e; have := HRGC.out; omega) | (simp; done))), Lib.hid (by rw [← HSTEP.out, HFX.out]; exact OwnL.put HO7.out j (-(sx))), Lib.hid (by have h := HGF.out; exact below_set HW7.out (by omega) _), Lib.hid (by simpa [World.setCell] using HS7.out)⟩
              case measure =>
                rw [SlotR.left_eq (SlotR.stay (w := w7) HR7.out (by first | exact Below.heap_setCell _ _ _ _ HBFC.out | (simp; done)) (by first | exact Below.heap_setCell _ _ _ _ (fun e => by have e2 : rC = gF := e; have := HRGC.out; omega) | (simp; done))), HRO.out.left_eq]
                exact HLT.out
        · intro p1 p2 c w3 cnt' hlp hfp hR3 hlt3 hgr hsz hen
          obtain ⟨j, kd, rfl, hj, hq, hjl⟩ := place_kd (q := qW) hfp
          have hq0 := hq
          obtain ⟨v, u, rfl, hp', hv, hu⟩ := qW_is (List.mem_of_getElem? hj) hq
          have hlp0 := hlp
          obtain ⟨rfl, rfl⟩ := Prod.mk.inj hp'
          have HSTEP : Hid ((E.kinds.map (mixK qW left (flwK E M) (amtK M))).set j (flwK E M (Kd.wt v u)) = E.kinds.map (mixK qW (fun r => left r && !decide (r = ((v : Int), (u : Int)))) (flwK E M) (amtK M))) := Lib.hid (mix_step (kinds_nodup E) qW_inj hlp0 hj hq0)
          have hlen : j < (E.kinds.map (mixK qW left (flwK E M) (amtK M))).length := by rw [List.length_map]; exact hjl
          have hjal : (j : Int) < (al : Int) := by rw [← HAL.out]; omega
          have HRO := HR
          have HLT := Lib.hid hlt3
          have hb3 : Below w1.heap.size w1 w3 := HWR.out.grown hgr HWR.out.size (fun i hi => by have := Option.some.inj hi; have := HRGB.out; have := HGF.out; omega)
          have ho3 : OwnL encI w3 gF 3 (.slice (some ⟨gF, 0, none⟩) al al) (E.kinds.map (mixK qW left (flwK E M) (amtK M))) := own_old HO.out (fun g e => hgr.block g (own_lt HO.out e) (fun e2 => by have e3 : gF = g := Option.some.inj e; have := Option.some.inj e2; have := HRGB.out; omega))
          have hrs3 : rB < w3.heap.size := by rw [hsz]; exact HRS.out
          unfold numV at hen
          obtain ⟨g6, hg6⟩ : ∃ g6, w3.heap.size = g6 := ⟨_, rfl⟩
          have hal0 := (Below.refl w3.heap.size w3).alloc (Nat.le_refl _) (.cells #[.int .i64 (v : Int), .int .i64 (u : Int)] 26)
          have hnew := heap_alloc_new w3 (.cells #[.int .i64 (v : Int), .int .i64 (u : Int)] 26)
          rw [hg6] at hnew
          have s0 := cell_whole hnew 0
          have s1 := cell_whole hnew 1
          have HR4 := Lib.hid (hR3.below hal0)
          have ho4 := OwnL.below ho3 hal0
          have HW4 := Lib.hid (hb3.trans (hal0.mono hb3.size))
          have HS4 : Hid (rB < (w3.alloc (.cells #[.int .i64 (v : Int), .int .i64 (u : Int)] 26)).heap.size) := Lib.hid (Nat.lt_of_lt_of_le hrs3 hal0.size)
          have HI4 := Lib.hid (HI.out.below HW4.out)
          have HNW := Lib.hid hnew
          obtain ⟨f0, f1⟩ := ho4.cell (List.getElem?_eq_getElem hlen)
          generalize (E.kinds.map (mixK qW left (flwK E M) (amtK M)))[j] = y0 at f0
          unfold encI at f0
          have HO4 := Lib.hid ho4
          have hgl4 : gF < (w3.alloc (.cells #[.int .i64 (v : Int), .int .i64 (u : Int)] 26)).heap.size := by have := HS4.out; have := HRGB.out; omega
          clear hfp hj hq hq0 hjl hlp hlp0 hp' hlen hb3 ho3 hrs3 hR3 hlt3 hgr hsz hal0 hnew ho4 HO HR HWR HRS
          obtain ⟨g, hgu, hgv⟩ := HGS.out u hu v hv
          obtain ⟨ib, io, ia, ic, iq, iad, e, i1, i2, i3⟩ := irow_num HI4.out hgu hgv
          subst e
          have hiq : (v : Int) < (iq : Int) := by rw [i2]; have := (List.getElem?_eq_some_iff.1 hgv).1; omega
          have hul : (u : Int) < (gl : Int) := by rw [← HGL.out]; have := (List.getElem?_eq_some_iff.1 hgu).1; omega
          have HFX : Hid (flwK E M (Kd.wt v u) = stk E.Z M (v : Int) (u : Int)) := Lib.hid rfl
          obtain ⟨sx, hsx⟩ : ∃ sx, stk E.Z M (v : Int) (u : Int) = sx := ⟨_, rfl⟩
          rw [hsx] at i3 HFX
          clear hgu hgv i2 hsx
          go_wp2_with fail
          try rw [hg6]
          clear hg6 hen
          generalize w3.alloc (.cells #[.int .i64 (v : Int), .int .i64 (u : Int)] 26) = w4 at *
          go_region
          all_goals
            go_wp2
            go_roundw
            case rel => exact ⟨_, cnt', Lib.hid (SlotR.stay (w := w4) HR4.out (by first | exact Below.heap_setCell _ _ _ _ HBFB.out | (simp; done)) (by first | exact Below.heap_setCell _ _ _ _ (fun e => by have e2 : rB = gF := e; have := HRGB.out; omega) | (simp; done))), Lib.hid (by rw [← HSTEP.out, HFX.out]; first | exact OwnL.put (w := w4) HO4.out j sx | exact OwnL.put HO4.out j sx | exact OwnL.put (OwnL.below HO4.out (below_drewN (Below.refl _ _) _)) j sx), Lib.hid (by have h := HGF.out; first | exact below_set HW4.out (by omega) _ | exact below_set (below_drewN HW4.out _) (by omega) _), Lib.hid (by simpa [World.setCell] using HS4.out)⟩
            case measure =>
              first
                | (rw [SlotR.left_eq (SlotR.stay (w := w4) HR4.out (by first | exact Below.heap_setCell _ _ _ _ HBFB.out | (simp; done)) (by first | exact Below.heap_setCell _ _ _ _ (fun e => by have e2 : rB = gF := e; have := HRGB.out; omega) | (simp; done))), HRO.out.left_eq]; exact HLT.out)
end Go.Proofs.Ytbkmfjegbmjknaa
