/- Lemmas of the layers below, several texts in one. -/
import Derived.Test.YtlkbohpnlbfopaaGreatCI
import Derived.Test.YtlkbohpnlbfopaaGreatBN
import Derived.BigQuiet
import Derived.Deep.QuietTactic
import Derived.Deep.DeepCutAuto
import Derived.Deep.RegionHeld3
import Derived.Test.YtlkbohpnlbfopaaGreatCH
namespace Go.Proofs.YtlkbohpnlbfopaaGreat
open Go.RowKit
set_option linter.unusedVariables false
theorem filter_take {p : StepT → Bool} {M : List StepT} {k : Nat} (hk : k < M.length) : (M.take (k + 1)).filter p = (M.take k).filter p ++ if p M[k] = true then [M[k]] else [] := by
  rw [List.take_succ_eq_append_getElem hk, List.filter_append]
  congr 1
  by_cases hb : p M[k] = true
  · rw [if_pos hb]; simp [hb]
  · rw [if_neg hb]; simp [hb]
def NearRes (o : Option (List StepT)) (w : World) (e : Ending) (w' : World) : Prop := ∃ a c, e = .returned (.slice a (o.getD []).length c) ∧ Row encS 2 w' a (o.getD []) ∧ Below w.heap.size w w'
section
variable (n : Int) (b ok : Bool) (ao fo : Option Addr) (cap fc gd gi : Nat) (Z : List ArcT) (F : List Int) (N : Nat) (d : List (Option Int))
set_option maxRecDepth 100000 in
set_option maxHeartbeats 8000000 in
theorem rnearest_any (s t : Nat) (w : World) (h : Row encA 4 w ao Z) (hf : Lst encI w fo F) (hfl : F.length = Z.length) (hT : TimeNet Z N) (hs : s < N)
    (hd : Lst encI w (some ⟨gd, 0, none⟩) (valsO d)) (hi : Lst encB w (some ⟨gi, 0, none⟩) (isO d)) (hdl : d.length = N) (hbd : BdO d 2000000) (hcl : ∀ y ∈ stepsK Z F Z.length, (getO d (fromS Z y)).isSome = true → (getO d (toS Z y)).isSome = true) :
    Calls Tryz.prog 47 #[.agg #[.int .i64 n, .bool b, .slice ao Z.length cap], .slice fo F.length fc, .int .i64 (s : Int), .int .i64 (t : Int), .agg #[.slice (some ⟨gd, 0, none⟩) N N, .slice (some ⟨gi, 0, none⟩) N N, .bool ok]] w (NearRes (wayK (fromS Z) (toS Z) (evenL Z F d) N s t) w) := by
  have hb00 := ((Below.refl _ w).alloc (Nat.le_refl _) (.cells #[.int .i64 n, .bool b, .slice ao Z.length cap] 27)).alloc (by simp) (.cells #[.slice (some ⟨gd, 0, none⟩) N N, .slice (some ⟨gi, 0, none⟩) N N, .bool ok] 96)
  have HB0 := Lib.hid hb00
  have HN0 := Lib.hid (alloc_whole (heap_alloc_new w (.cells #[.int .i64 n, .bool b, .slice ao Z.length cap] 27)) (.cells #[.slice (some ⟨gd, 0, none⟩) N N, .slice (some ⟨gi, 0, none⟩) N N, .bool ok] 96))
  have HX0 := Lib.hid (new_whole1 w (.cells #[.int .i64 n, .bool b, .slice ao Z.length cap] 27) (.cells #[.slice (some ⟨gd, 0, none⟩) N N, .slice (some ⟨gi, 0, none⟩) N N, .bool ok] 96))
  have HR0 := Lib.hid (h.below' hb00)
  have HF0 := Lib.hid (hf.below hb00)
  have HD0 := Lib.hid (hd.below hb00)
  have HI0 := Lib.hid (hi.below hb00)
  have HFL := Lib.hid hfl
  have HTN := Lib.hid hT
  have HDL := Lib.hid hdl
  have HBD := Lib.hid hbd
  have hzl := hT.len
  have hNl := hT.nodes
  clear h hf hd hi hb00 hfl hT hdl hbd
  obtain ⟨w1, hw1⟩ : ∃ w1, (w.alloc (.cells #[.int .i64 n, .bool b, .slice ao Z.length cap] 27)).alloc (.cells #[.slice (some ⟨gd, 0, none⟩) N N, .slice (some ⟨gi, 0, none⟩) N N, .bool ok] 96) = w1 := ⟨_, rfl⟩
  rw [hw1] at HB0 HN0 HX0 HR0 HF0 HD0 HI0
  have c0 := cell_whole HN0.out 0
  have c1 := cell_whole HN0.out 1
  have c2 := cell_whole HN0.out 2
  have hsl := stepsK_len Z F Z.length
  obtain ⟨M, hM⟩ : ∃ M, stepsK Z F Z.length = M := ⟨_, rfl⟩
  have HMM := Lib.hid hM
  have HEV : Hid (evenL Z F d = M.filter (evenB Z d)) := Lib.hid (by unfold evenL; rw [hM])
  have harcs : ∀ y ∈ M, (∃ (p : Nat) (a : ArcT) (q : Bool), Z[p]? = some a ∧ y = ((p : Int), q) ∧ begI a q = (fromS Z y : Int) ∧ endI a q = (toS Z y : Int) ∧ timeI a q = tmS Z y) ∧ fromS Z y < N ∧ toS Z y < N := by
    intro y hy
    rw [← hM] at hy
    obtain ⟨p, a, q, ha, e⟩ := stepsK_arc hy
    have hm := List.mem_of_getElem? ha
    obtain ⟨h1, h2⟩ := begI_fromE ha (HTN.out.ends a hm) q
    refine ⟨⟨p, a, q, ha, e, by rw [e]; exact h1, by rw [e]; exact h2, by rw [e]; exact timeI_tmS ha q⟩, ?_⟩
    have hl := HTN.out.lt a hm
    rw [e]
    unfold fromS toS
    rw [arcOf_nat q ha]
    cases q <;> simp [hl]
  rw [hM] at hsl hcl
  have HARC := Lib.hid harcs
  have HCL := Lib.hid hcl
  clear hM harcs hcl
  go_enter Tryz.func47, Tryz.ntmps47
  go_upto_region 2 with (fail)
  clear hw1
  go_wp2_with (first
    | (go_at_call 35; refine (rsteps_any n b ao fo cap fc Z F _ HR0.out HF0.out HFL.out (by omega)).mono ?_; rw [HMM.out]; rintro e w5 ⟨ma, mc, rfl, hm5, hb5⟩; have HB5 := Lib.hid (HB0.out.trans (hb5.mono HB0.out.size)); have HN5 := Lib.hid (kept_box HN0.out hb5); have HX5 := Lib.hid (kept_box HX0.out hb5); have HR5 := Lib.hid (HR0.out.below' hb5); have HD5 := Lib.hid (HD0.out.below hb5); have HI5 := Lib.hid (HI0.out.below hb5); have HM5 := Lib.hid hm5; clear hm5 hb5 c0 c1 c2))
  have x0 := cell_whole HN5.out 0
  have x1 := cell_whole HN5.out 1
  have x2 := cell_whole HN5.out 2
  have y0 := cell_whole HX5.out 0
  have y1 := cell_whole HX5.out 1
  have y2 := cell_whole HX5.out 2
  go_loopw [11, 13] (fun ov iv wr => ∃ k : Nat, k ≤ M.length ∧ iv = .int .i64 (k : Int) ∧ Hid (OwnS wr w5.heap.size ov ((M.take k).filter (evenB Z d))) ∧ Hid (Below w5.heap.size w5 wr)) (fun _ iv _ => M.length - (intOf iv).toNat)
  case atStart => exact ⟨0, Nat.zero_le _, rfl, Lib.hid (OwnS.nil _ _), Lib.hid (Below.refl _ _)⟩
  case round =>
    obtain ⟨k, hk, rfl, HO, HW⟩ := hrel
    obtain ⟨oa, oc, hov, _⟩ := HO.out.row
    have v0 := cell_below' HW.out x0 (block_lt_of_cell x0)
    have v1 := cell_below' HW.out x1 (block_lt_of_cell x1)
    have v2 := cell_below' HW.out x2 (block_lt_of_cell x2)
    by_cases hlt : k < M.length
    · have hli : (k : Int) < (M.length : Int) := by omega
      obtain ⟨lb, lx, e, hlb, s0, s1⟩ := step_at (HM5.out.below' HW.out) (List.getElem?_eq_getElem hlt)
      cases e
      have hmem : M[k] ∈ M := List.getElem_mem hlt
      have HTK := Lib.hid (filter_take (p := evenB Z d) hlt)
      have hcond := HCL.out _ hmem
      obtain ⟨⟨p, a, q, ha, hy, hB, hE, hTI⟩, hfN, htN⟩ := HARC.out _ hmem
      have hta := HTN.out.times a (List.mem_of_getElem? ha)
      have htb := tmS_bd (q := q) ha hta
      rw [← hy] at htb
      have HMK := Lib.hid (List.getElem?_eq_getElem hlt)
      have hSl : ((M.take k).filter (evenB Z d)).length ≤ 200000 := by
        have h1 := List.length_filter_le (evenB Z d) (M.take k)
        rw [List.length_take] at h1
        omega
      generalize M[k] = y at *
      generalize (M.take k).filter (evenB Z d) = S at *
      subst hov
      obtain ⟨u, hu⟩ : ∃ u, fromS Z y = u := ⟨_, rfl⟩
      obtain ⟨v, hv⟩ : ∃ v, toS Z y = v := ⟨_, rfl⟩
      obtain ⟨tt, htt⟩ : ∃ tt, tmS Z y = tt := ⟨_, rfl⟩
      have hhit : evenB Z d y = (((getO d u).isSome && (getO d v).isSome) && decide (valO (getO d v) = valO (getO d u) + tt)) := by unfold evenB; rw [hu, hv, htt]
      rw [hu] at hfN hcond hB
      rw [hv] at htN hcond hE
      rw [htt] at hTI htb
      have hbu := HBD.out.val u
      have hbv := HBD.out.val v
      obtain ⟨fu, hfu⟩ : ∃ fu, valO (getO d u) = fu := ⟨_, rfl⟩
      obtain ⟨fv, hfv⟩ : ∃ fv, valO (getO d v) = fv := ⟨_, rfl⟩
      obtain ⟨bu, hxu⟩ : ∃ bu, (getO d u).isSome = bu := ⟨_, rfl⟩
      obtain ⟨bv, hxv⟩ : ∃ bv, (getO d v).isSome = bv := ⟨_, rfl⟩
      have hDu : (valsO d)[u]? = some fu := by rw [← hfu]; exact valsO_at (by rw [HDL.out]; exact hfN)
      have hDv : (valsO d)[v]? = some fv := by rw [← hfv]; exact valsO_at (by rw [HDL.out]; exact htN)
      have hIu : (isO d)[u]? = some bu := by rw [← hxu]; exact isO_at (by rw [HDL.out]; exact hfN)
      have hIv : (isO d)[v]? = some bv := by rw [← hxv]; exact isO_at (by rw [HDL.out]; exact htN)
      rw [hfu] at hbu hhit
      rw [hfv] at hbv hhit
      rw [hxu] at hcond hhit
      rw [hxv] at hcond hhit
      have HHIT := Lib.hid hhit
      have HBB := Lib.hid hB
      have HEE := Lib.hid hE
      have HTT := Lib.hid hTI
      have HA := Lib.hid ha
      have hDU := Lib.hid hDu
      have hDV := Lib.hid hDv
      have hIU := Lib.hid hIu
      have hIV := Lib.hid hIv
      have HYE := Lib.hid hy
      have hui : (u : Int) < (N : Int) := by omega
      have hvi : (v : Int) < (N : Int) := by omega
      have hwu : IntKind.i64.wrap (fu + tt) = fu + tt := IntWalk.i64_in _ (by omega)
      have HWU := Lib.hid hwu
      have HTA : Hid (-4398046511104 ≤ a.2.2.2 ∧ a.2.2.2 ≤ 4398046511104) := Lib.hid (by unfold tm at hta; omega)
      clear hmem hhit hB hE hTI ha hDu hDv hIu hIv hfu hfv hxu hxv hu hv htt hbu hbv hta htb hwu
      subst hy
      simp only at s0 s1
      have z0 : wr.drew.cell? ⟨w.heap.size, 0, none⟩ = some (.int .i64 n) := v0
      have z1 : wr.drew.cell? ⟨w.heap.size, 1, none⟩ = some (.bool b) := v1
      have z2 : wr.drew.cell? ⟨w.heap.size, 2, none⟩ = some (.slice ao Z.length cap) := v2
      have z3 : wr.drew.cell? ⟨lb, lx + k * 2, none⟩ = some (.int .i64 (p : Int)) := s0
      have z4 : wr.drew.cell? ⟨lb, lx + k * 2 + 1, none⟩ = some (.bool q) := s1
      have HRx : Hid (Row encA 4 wr.drew ao Z) := Lib.hid ((HR5.out.below' HW.out).below' (below_drew (Below.refl wr.heap.size wr)))
      have HWx : Hid (Below w5.heap.size w5 wr.drew) := Lib.hid (below_drew HW.out)
      have HOx : Hid (OwnS wr.drew w5.heap.size (.slice oa S.length oc) S) := Lib.hid (HO.out.below (below_drew (Below.refl wr.heap.size wr)))
      go_wp2_with fail
      go_cut [14, 15] (fun p1 p2 wc => p1 = .int .i64 (u : Int) ∧ p2 = .int .i64 (v : Int) ∧ Hid (OwnS wc w5.heap.size (.slice oa S.length oc) S) ∧ Hid (Below w5.heap.size w5 wc))
      case first =>
        go_region_held3 (fun W => W.cell? ⟨w.heap.size, 0, none⟩ = some (.int .i64 n) ∧ W.cell? ⟨w.heap.size, 1, none⟩ = some (.bool b) ∧ W.cell? ⟨w.heap.size, 2, none⟩ = some (.slice ao Z.length cap) ∧ W.cell? ⟨lb, lx + k * 2, none⟩ = some (.int .i64 (p : Int)) ∧ W.cell? ⟨lb, lx + k * 2 + 1, none⟩ = some (.bool q)) (first | exact ⟨v0, v1, v2, s0, s1⟩ | exact ⟨z0, z1, z2, z3, z4⟩ | go_keep)
          (first
            | (go_at_call 57; refine (rfrom_at n b ao cap Z p q a _ HRx.out HA.out (by omega)).mono ?_; rintro e w7 ⟨rfl, b6⟩; rw [HBB.out]; have z0 := cell_below b6 z0; have z1 := cell_below b6 z1; have z2 := cell_below b6 z2; have z3 := cell_below b6 z3; have z4 := cell_below b6 z4; have HRx := Lib.hid (HRx.out.below' b6); have HWx := Lib.hid (HWx.out.trans (b6.mono HWx.out.size)); have HOx := Lib.hid (HOx.out.below b6); clear b6)
            | (go_at_call 66; refine (rto_at n b ao cap Z p q a _ HRx.out HA.out (by omega)).mono ?_; rintro e w7 ⟨rfl, b6⟩; rw [HEE.out]; have z0 := cell_below b6 z0; have z1 := cell_below b6 z1; have z2 := cell_below b6 z2; have z3 := cell_below b6 z3; have z4 := cell_below b6 z4; have HRx := Lib.hid (HRx.out.below' b6); have HWx := Lib.hid (HWx.out.trans (b6.mono HWx.out.size)); have HOx := Lib.hid (HOx.out.below b6); clear b6))
        all_goals
          go_wp2
          go_meet
          exact ⟨rfl, rfl, HOx, HWx⟩
      case rest =>
        obtain ⟨rfl, rfl, HOc, HWc⟩ := hcut
        clear v0 v1 v2 s0 s1 z0 z1 z2 z3 z4 HRx HWx HOx HO HW
        have v0 := cell_below' HWc.out x0 (block_lt_of_cell x0)
        have v1 := cell_below' HWc.out x1 (block_lt_of_cell x1)
        have v2 := cell_below' HWc.out x2 (block_lt_of_cell x2)
        have r0 := cell_below' HWc.out y0 (block_lt_of_cell y0)
        have r1 := cell_below' HWc.out y1 (block_lt_of_cell y1)
        obtain ⟨lb2, lx2, e, _, s0, s1⟩ := step_at (HM5.out.below' HWc.out) HMK.out
        cases e
        simp only at s0 s1
        obtain ⟨db2, dx2, hde2, _, du⟩ := lst_cell (HD5.out.below HWc.out) hDU.out
        cases hde2
        obtain ⟨ib2, ix2, hie2, _, iu⟩ := lst_cell (HI5.out.below HWc.out) hIU.out
        cases hie2
        obtain ⟨db2, dx2, hde2, _, dv⟩ := lst_cell (HD5.out.below HWc.out) hDV.out
        cases hde2
        obtain ⟨ib2, ix2, hie2, _, iv⟩ := lst_cell (HI5.out.below HWc.out) hIV.out
        cases hie2
        unfold encI at du dv
        unfold encB at iu iv
        cases bu
        · have HH : Hid ((M.take (k + 1)).filter (evenB Z d) = S) := Lib.hid (by rw [HTK.out, HHIT.out]; simp)
          rw [Nat.zero_add] at iu
          clear hcond
          go_wp2
          go_quiet (fail)
          go_wp2
          go_roundw
          case rel => exact ⟨k + 1, by omega, by go_num, Lib.hid (by rw [HH.out]; exact HOc.out.below (below_drewN (Below.refl _ _) _)), Lib.hid (below_drewN HWc.out _)⟩
          case measure => simp [intOf]; omega
        · have hbv1 := hcond rfl
          subst hbv1
          clear hcond
          obtain ⟨hb, hhb⟩ : ∃ hb, (fv == fu + tt) = hb := ⟨_, rfl⟩
          have hhd : decide (fv = fu + tt) = hb := by rw [← hhb]; rfl
          have HHB := Lib.hid hhb
          have HHD := Lib.hid hhd
          clear hhd
          have z0 : wc.drew.cell? ⟨w.heap.size, 0, none⟩ = some (.int .i64 n) := v0
          have z1 : wc.drew.cell? ⟨w.heap.size, 1, none⟩ = some (.bool b) := v1
          have z2 : wc.drew.cell? ⟨w.heap.size, 2, none⟩ = some (.slice ao Z.length cap) := v2
          have z3 : wc.drew.cell? ⟨lb, lx + k * 2, none⟩ = some (.int .i64 (p : Int)) := s0
          have z4 : wc.drew.cell? ⟨lb, lx + k * 2 + 1, none⟩ = some (.bool q) := s1
          have z5 : wc.drew.cell? ⟨w.heap.size + 1, 0, none⟩ = some (.slice (some ⟨gd, 0, none⟩) N N) := r0
          have z6 : wc.drew.cell? ⟨w.heap.size + 1, 1, none⟩ = some (.slice (some ⟨gi, 0, none⟩) N N) := r1
          have z7 : wc.drew.cell? ⟨gd, 0 + u, none⟩ = some (.int .i64 fu) := du
          have z8 : wc.drew.cell? ⟨gd, 0 + v, none⟩ = some (.int .i64 fv) := dv
          have z9 : wc.drew.cell? ⟨gi, 0 + u, none⟩ = some (.bool true) := iu
          have zA : wc.drew.cell? ⟨gi, 0 + v, none⟩ = some (.bool true) := iv
          rw [Nat.zero_add] at du dv iu iv z7 z8 z9 zA
          have HRx : Hid (Row encA 4 wc.drew ao Z) := Lib.hid ((HR5.out.below' HWc.out).below' (below_drew (Below.refl wc.heap.size wc)))
          have HWx : Hid (Below w5.heap.size w5 wc.drew) := Lib.hid (below_drew HWc.out)
          have HOx : Hid (OwnS wc.drew w5.heap.size (.slice oa S.length oc) S) := Lib.hid (HOc.out.below (below_drew (Below.refl wc.heap.size wc)))
          clear hhb
          go_wp2_with fail
          go_cut [70] (fun p3 w8 => p3 = .bool hb ∧ Hid (OwnS w8 w5.heap.size (.slice oa S.length oc) S) ∧ Hid (Below w5.heap.size w5 w8))
          case first =>
            go_region_held3 (fun W => W.cell? ⟨w.heap.size, 0, none⟩ = some (.int .i64 n) ∧ W.cell? ⟨w.heap.size, 1, none⟩ = some (.bool b) ∧ W.cell? ⟨w.heap.size, 2, none⟩ = some (.slice ao Z.length cap) ∧ W.cell? ⟨lb, lx + k * 2, none⟩ = some (.int .i64 (p : Int)) ∧ W.cell? ⟨lb, lx + k * 2 + 1, none⟩ = some (.bool q) ∧ W.cell? ⟨w.heap.size + 1, 0, none⟩ = some (.slice (some ⟨gd, 0, none⟩) N N) ∧ W.cell? ⟨w.heap.size + 1, 1, none⟩ = some (.slice (some ⟨gi, 0, none⟩) N N) ∧ W.cell? ⟨gd, u, none⟩ = some (.int .i64 fu) ∧ W.cell? ⟨gd, v, none⟩ = some (.int .i64 fv) ∧ W.cell? ⟨gi, u, none⟩ = some (.bool true) ∧ W.cell? ⟨gi, v, none⟩ = some (.bool true)) (first | exact ⟨v0, v1, v2, s0, s1, r0, r1, du, dv, iu, iv⟩ | exact ⟨z0, z1, z2, z3, z4, z5, z6, z7, z8, z9, zA⟩ | go_keep)
              (first | (go_at_call 67; refine (rtime_at n b ao cap Z p q a _ HRx.out HA.out (by omega) HTA.out).mono ?_; rintro e w7 ⟨rfl, b6⟩; rw [HTT.out]; have z0 := cell_below b6 z0; have z1 := cell_below b6 z1; have z2 := cell_below b6 z2; have z3 := cell_below b6 z3; have z4 := cell_below b6 z4; have z5 := cell_below b6 z5; have z6 := cell_below b6 z6; have z7 := cell_below b6 z7; have z8 := cell_below b6 z8; have z9 := cell_below b6 z9; have zA := cell_below b6 zA; have HWx := Lib.hid (HWx.out.trans (b6.mono HWx.out.size)); have HOx := Lib.hid (HOx.out.below b6); clear b6))
            all_goals
              go_wp2
              go_meet
              exact ⟨by rw [HWU.out, HHB.out], HOx, HWx⟩
          case rest =>
            obtain ⟨rfl, HOd, HWd⟩ := hcut
            clear v0 v1 v2 s0 s1 z0 z1 z2 z3 z4 z5 z6 z7 z8 z9 zA HRx HWx HOx HOc HWc du iu dv iv r0 r1
            obtain ⟨lb3, lx3, e, _, s0, s1⟩ := step_at (HM5.out.below' HWd.out) HMK.out
            cases e
            simp only at s0 s1
            have hwd := HWd.out.size
            cases hb
            · have HH : Hid ((M.take (k + 1)).filter (evenB Z d) = S) := Lib.hid (by rw [HTK.out, HHIT.out, HHD.out]; simp)
              go_wp2
              go_roundw
              case rel => exact ⟨k + 1, by omega, by go_num, Lib.hid (by rw [HH.out]; exact HOd.out), HWd⟩
              case measure => simp [intOf]; omega
            · have HH : Hid ((M.take (k + 1)).filter (evenB Z d) = S ++ [((p : Int), q)]) := Lib.hid (by rw [HTK.out, HHIT.out, HHD.out]; simp)
              go_wp2_with (first
                | (at_builtin; refine wpList_append_step rfl _ _ rfl w5.heap.size _ S ((p : Int), q) rfl (HOd.out.alloc (.cells #[.int .i64 (p : Int), .bool q] 73)) _ 1 rfl (cells2 _ _ _ (by simp) _ _) hSl (by simp; omega) ?_; intro g4 cap4 w4 ho4 hg4 hl4 hb4 hlt4; have HO4 := Lib.hid ho4; have HB4 := Lib.hid (below_grown (HWd.out.alloc hwd (.cells #[.int .i64 (p : Int), .bool q] 73)) (by simp; omega) hg4 (fun g e => own_block HOd.out e)); clear ho4 hg4 hl4))
              go_roundw
              case rel => exact ⟨k + 1, by omega, by go_num, Lib.hid (by rw [HH.out]; exact HO4.out), HB4⟩
              case measure => simp [intOf]; omega
    · have hli : ¬ (k : Int) < (M.length : Int) := by omega
      obtain rfl : k = M.length := by omega
      rw [List.take_length] at HO hov
      subst hov
      obtain ⟨oa2, oc2, e, hrow⟩ := HO.out.row
      injection e with e1 e2 e3
      subst e1
      have HRW := Lib.hid hrow
      have HRr := Lib.hid (HR5.out.below' HW.out)
      have hEl : (M.filter (evenB Z d)).length ≤ 200000 := by
        have := List.length_filter_le (evenB Z d) M
        omega
      have HEL : Hid (∀ y ∈ M.filter (evenB Z d), y ∈ M) := Lib.hid (fun y hy => (List.mem_filter.1 hy).1)
      clear hrow e2 e3
      generalize M.filter (evenB Z d) = E at *
      go_wp2_with (first
        | (go_at_call 34; refine (rway_any n b ao oa cap oc Z E N s t _ HRr.out HRW.out (by omega) hEl (by omega) hs (fun y hy => (HARC.out y (HEL.out y hy)).2.2) (fun y hy => by obtain ⟨⟨p, a, q, h1, h2, _⟩, _⟩ := HARC.out y (HEL.out y hy); exact ⟨p, a, q, h1, h2⟩) HTN.out.ends).mono ?_; rintro e w7 ⟨a7, c7, rfl, hr7, hb7⟩; have HR7 := Lib.hid hr7; have HB7 := Lib.hid (HB5.out.trans ((HW.out.trans (hb7.mono HW.out.size)).mono HB5.out.size)); clear hr7 hb7))
      go_ret
      exact ⟨a7, c7, by rw [HEV.out]; rfl, by rw [HEV.out]; exact HR7.out, HB7.out⟩
end
end Go.Proofs.YtlkbohpnlbfopaaGreat
namespace Go.Proofs.YtlkbohpnlbfopaaGreat
open Go.RowKit
set_option linter.unusedVariables false
section
variable (b : Bool) (ao : Option Addr) (cap : Nat) (Z : List ArcT) (N : Nat)
set_option maxRecDepth 100000 in
set_option maxHeartbeats 8000000 in
theorem rbest12_any (s t : Nat) (H : Int) (w : World) (h : Row encA 4 w ao Z) (hW : SpanNet Z N) (hs : s < N) (ht : t < N) (hne : s ≠ t) (hH : 0 ≤ H) :
    Calls Tryz.prog 27 #[.agg #[.int .i64 (N : Int), .bool b, .slice ao Z.length cap], .int .i64 (s : Int), .int .i64 (t : Int), .int .i64 H] w fun e w' => ∃ fo fc F k, e = .returned (.slice fo F.length fc) ∧ Lst encI w' fo F ∧ (fo = none → fc = 0) ∧ BestI Z N s t H F k ∧ (∀ x, getO (dN Z F N s N) t = some x → H < x) ∧ Below w.heap.size w w' := by
  have hb00 := (Below.refl _ w).alloc (Nat.le_refl _) (.cells #[.int .i64 (N : Int), .bool b, .slice ao Z.length cap] 27)
  have HB0 := Lib.hid hb00
  have HN0 := Lib.hid (heap_alloc_new w (.cells #[.int .i64 (N : Int), .bool b, .slice ao Z.length cap] 27))
  have c0 := cell_whole HN0.out 0
  have c1 := cell_whole HN0.out 1
  have c2 := cell_whole HN0.out 2
  have HR := Lib.hid (h.below' hb00)
  have HWN := Lib.hid hW
  have HTN := Lib.hid hW.time
  have hzl := hW.len
  have hNl := hW.nodes
  have HNE := Lib.hid hne
  have HHH := Lib.hid hH
  obtain ⟨M, hM⟩ : ∃ M, mostG Z s = M := ⟨_, rfl⟩
  have HM : Hid (∀ f k, FlowST Z N s t f k → k ≤ M) := Lib.hid (fun f k h => by rw [← hM]; exact le_mostG hW.lt hs hne h)
  clear h hb00 hW hne hM
  go_enter Tryz.func27, Tryz.ntmps27
  go_upto_region 1 with (fail)
  generalize w.alloc (.cells #[.int .i64 (N : Int), .bool b, .slice ao Z.length cap] 27) = w1 at *
  go_wp2_with (first
    | (at_make; refine wpList_make_L (enc := encI) 0 Tryz.underlying51 infoInt rfl (by omega) rfl _ _ rfl Z.length rfl rfl (by omega) ?_; intro w2 ho2 hb2; have HO2 := Lib.hid ho2.lstK; have HB2 := Lib.hid hb2; clear ho2 hb2))
  go_loopg [9] ((M - 0).toNat + 1) (fun k fv wr => ∃ fo fc F v, fv = .slice fo F.length fc ∧ Hid (fo = none → fc = 0) ∧ Hid ((M - v).toNat < k) ∧ Hid (BestI Z N s t H F v) ∧ Hid (Lst encI wr fo F) ∧ Hid (Below w1.heap.size w1 wr))
  case atStart => exact ⟨some ⟨w1.heap.size, 0, none⟩, Z.length, List.replicate Z.length 0, 0, by rw [List.length_replicate], Lib.hid (fun e => by cases e), Lib.hid (Nat.lt_succ_self _), Lib.hid (BestI.start HWN.out HHH.out), HO2, HB2⟩
  case round =>
    clear HO2 HB2
    obtain ⟨fo, fc, F, v, rfl, HNL, HMU, HV, HF, HB⟩ := hrel
    obtain ⟨gk0, hgk⟩ : ∃ gk0, gk0 = gk := ⟨_, rfl⟩
    subst hgk
    have hn2 := kept_box HN0.out HB.out
    have HN2 := Lib.hid hn2
    have d0 := cell_whole hn2 0
    have d1 := cell_whole hn2 1
    have d2 := cell_whole hn2 2
    have HRW := Lib.hid (HR.out.below' HB.out)
    have HFL := Lib.hid HV.out.flow.1.1
    have hfl2 : F.length ≤ 200000 := by rw [HFL.out]; omega
    have hcalm := HV.out.calm s
    have hci := (calmN_iff HWN.out.lt hs).2 hcalm
    have HDE := Lib.hid (calmN_far HWN.out.lt hs hci).1
    have HON := Lib.hid (dN_on HWN.out.lt hs hcalm)
    have HBD := Lib.hid (dN_bd (F := F) (s := s) HTN.out hNl hzl)
    have HDL : Hid ((dN Z F N s N).length = N) := Lib.hid (bellK_len _)
    have HNX := Lib.hid (fun x (hx : getO (dN Z F N s N) t = some x) => even_way HWN.out.lt hs ht hcalm hx)
    have HGO := Lib.hid (fun x (hx : getO (dN Z F N s N) t = some x) (hxH : x ≤ H) P (hw : wayK (fromS Z) (toS Z) (evenL Z F (dN Z F N s N)) N s t = some P) => HV.out.next HWN.out hs ht HNE.out hx hxH hw)
    obtain ⟨D, hD⟩ : ∃ D, dN Z F N s N = D := ⟨_, rfl⟩
    have HDD := Lib.hid hD
    rw [hD] at HDE HON HBD HDL HNX HGO
    have hti : (t : Int) < (N : Int) := by omega
    have htD : t < D.length := by rw [HDL.out]; exact ht
    have HVT := Lib.hid (valsO_at htD)
    have HIT := Lib.hid (isO_at htD)
    have ARMF : True := trivial
    clear hn2 hcalm hci hD htD ARMF c0 c1 c2
    cases hg : getO D t with
    | none =>
      have HST : Hid (∀ x, getO (dN Z F N s N) t = some x → H < x) := Lib.hid (fun x hx => by rw [HDD.out, hg] at hx; cases hx)
      rw [hg] at HVT HIT
      clear hg HNX HGO
      go_wp2_with (first
        | (go_at_call 46; refine (rreach_any b ao fo cap fc Z F N s _ HRW.out HF.out HFL.out HTN.out hs).mono ?_; rintro e w3 ⟨gd, gi, rfl, hd, hi, hb3⟩; rw [HDE.out] at hd hi; obtain ⟨ib, ix, e2, _, it⟩ := lst_cell hi HIT.out; cases e2; unfold encB at it; rw [Nat.zero_add] at it; have it := cell_alloc it (.cells #[.slice (some ⟨gd, 0, none⟩) N N, .slice (some ⟨gi, 0, none⟩) N N, .bool (calmN Z F N s)] 96); have k0 := cell_new w3 #[.slice (some ⟨gd, 0, none⟩) N N, .slice (some ⟨gi, 0, none⟩) N N, .bool (calmN Z F N s)] 96 0; have k1 := cell_new w3 #[.slice (some ⟨gd, 0, none⟩) N N, .slice (some ⟨gi, 0, none⟩) N N, .bool (calmN Z F N s)] 96 1; have hbx := hb3.trans (((Below.refl _ w3).alloc (Nat.le_refl _) (.cells #[.slice (some ⟨gd, 0, none⟩) N N, .slice (some ⟨gi, 0, none⟩) N N, .bool (calmN Z F N s)] 96)).mono hb3.size); have HB3 := Lib.hid (HB.out.trans (hbx.mono HB.out.size)); have HF3 := Lib.hid (HF.out.below hbx); clear hb3 hd hi hbx))
      go_ret
      exact ⟨fo, fc, F, v, rfl, HF3.out, HNL.out, HV.out, HST.out, HB0.out.trans (HB3.out.mono HB0.out.size)⟩
    | some x =>
      rw [hg] at HVT HIT
      have hvx : valO (some x) = x := rfl
      rw [hvx] at HVT
      by_cases hxH : x ≤ H
      · have hxd : decide (x > H) = false := decide_eq_false (by omega)
        obtain ⟨P, hP⟩ := HNX.out x hg
        have HWK := Lib.hid hP
        have HSM := Lib.hid (HGO.out x hg hxH P hP)
        have hPl := HSM.out.2.1
        have hkb := HSM.out.2.2.2.1
        obtain ⟨kb, hkk⟩ : ∃ kb, botK Z F P = kb := ⟨_, rfl⟩
        rw [hkk] at hkb
        have HKK := Lib.hid hkk
        clear hg HNX HGO hP hkk
        go_wp2_with (first
          | (go_at_call 46; refine (rreach_any b ao fo cap fc Z F N s _ HRW.out HF.out HFL.out HTN.out hs).mono ?_; rintro e w3 ⟨gd, gi, rfl, hd, hi, hb3⟩; rw [HDE.out] at hd hi; have bA := (Below.refl _ w3).alloc (Nat.le_refl _) (.cells #[.slice (some ⟨gd, 0, none⟩) N N, .slice (some ⟨gi, 0, none⟩) N N, .bool (calmN Z F N s)] 96); have HD3 := Lib.hid (hd.below bA); have HI3 := Lib.hid (hi.below bA); obtain ⟨ib, ix, e2, _, it⟩ := lst_cell HI3.out HIT.out; cases e2; unfold encB at it; rw [Nat.zero_add] at it; obtain ⟨db, dx, e2, _, dt⟩ := lst_cell HD3.out HVT.out; cases e2; unfold encI at dt; rw [Nat.zero_add] at dt; have k0 := cell_new w3 #[.slice (some ⟨gd, 0, none⟩) N N, .slice (some ⟨gi, 0, none⟩) N N, .bool (calmN Z F N s)] 96 0; have k1 := cell_new w3 #[.slice (some ⟨gd, 0, none⟩) N N, .slice (some ⟨gi, 0, none⟩) N N, .bool (calmN Z F N s)] 96 1; have k2 := cell_new w3 #[.slice (some ⟨gd, 0, none⟩) N N, .slice (some ⟨gi, 0, none⟩) N N, .bool (calmN Z F N s)] 96 2; have hbx := hb3.trans (bA.mono hb3.size); have HB3 := Lib.hid (HB.out.trans (hbx.mono HB.out.size)); have HF3 := Lib.hid (HF.out.below hbx); have HR3 := Lib.hid (HRW.out.below' hbx); have hn3 := kept_box HN2.out hbx; have HN3 := Lib.hid hn3; have d0 := cell_whole hn3 0; have d1 := cell_whole hn3 1; have d2 := cell_whole hn3 2; clear hb3 hd hi hbx bA hn3)
          | (go_at_call 47; refine (rnearest_any (N : Int) b _ ao fo cap fc gd gi Z F N D s t _ HR3.out HF3.out HFL.out HTN.out hs HD3.out HI3.out HDL.out HBD.out HON.out).mono ?_; rw [HWK.out]; rintro e w4 ⟨a5, c5, rfl, hp5, hb4⟩; have HP5 : Hid (Row encS 2 w4 a5 P) := Lib.hid hp5; have HB4 := Lib.hid (HB3.out.trans (hb4.mono HB3.out.size)); have HF4 := Lib.hid (HF3.out.below hb4); have HR4 := Lib.hid (HR3.out.below' hb4); have hn4 := kept_box HN3.out hb4; have d0 := cell_whole hn4 0; have d1 := cell_whole hn4 1; have d2 := cell_whole hn4 2; rw [show (some P).getD [] = P from rfl]; clear hb4 hp5 hn4)
          | (go_at_call 37; refine (rbottle_any (N : Int) b ao fo a5 cap fc c5 Z F P _ HR4.out HF4.out HP5.out HSM.out.1 (by omega) (by omega) hfl2 HSM.out.2.2.1).mono ?_; rw [HKK.out]; rintro e w6 ⟨rfl, b6⟩; have HB6 := Lib.hid (HB4.out.trans (b6.mono HB4.out.size)); have HF6 := Lib.hid (HF4.out.below b6); have HP6 := Lib.hid (HP5.out.below' b6); clear b6)
          | (go_at_call 36; refine (rpushed_any fo a5 fc c5 F P kb _ HF6.out HP6.out HNL.out (by omega) hfl2 (by omega) (by omega) HSM.out.2.2.2.2.2.1 (by rw [← HKK.out]; exact HSM.out.2.2.2.2.2.2)).mono ?_; rintro e w7 ⟨fo7, fc7, rfl, hf7, hn7, b7⟩; have HB7 := Lib.hid (HB6.out.trans (b7.mono HB6.out.size)); have HF7 := Lib.hid hf7; have HN7 := Lib.hid hn7; clear b7 hf7 hn7))
        go_roundg ((M - (v + botK Z F P)).toNat + 1)
        case measure =>
          have h1 := HMU.out
          have h2 := HM.out _ _ HSM.out.2.2.2.2.1.flow
          have h3 := HSM.out.2.2.2.1.1
          omega
        case rel => exact ⟨fo7, fc7, pushedL kb F P, v + botK Z F P, by rw [pushedL_len], HN7, Lib.hid (Nat.lt_succ_self _), Lib.hid (by have h := HSM.out.2.2.2.2.1; rw [HKK.out] at h ⊢; exact h), HF7, HB7⟩
      · have hxd : decide (x > H) = true := decide_eq_true (by omega)
        have HST : Hid (∀ x, getO (dN Z F N s N) t = some x → H < x) := Lib.hid (fun y hy => by rw [HDD.out, hg] at hy; cases hy; omega)
        clear hg HNX HGO
        go_wp2_with (first
          | (go_at_call 46; refine (rreach_any b ao fo cap fc Z F N s _ HRW.out HF.out HFL.out HTN.out hs).mono ?_; rintro e w3 ⟨gd, gi, rfl, hd, hi, hb3⟩; rw [HDE.out] at hd hi; have bA := (Below.refl _ w3).alloc (Nat.le_refl _) (.cells #[.slice (some ⟨gd, 0, none⟩) N N, .slice (some ⟨gi, 0, none⟩) N N, .bool (calmN Z F N s)] 96); have HD3 := Lib.hid (hd.below bA); have HI3 := Lib.hid (hi.below bA); obtain ⟨ib, ix, e2, _, it⟩ := lst_cell HI3.out HIT.out; cases e2; unfold encB at it; rw [Nat.zero_add] at it; obtain ⟨db, dx, e2, _, dt⟩ := lst_cell HD3.out HVT.out; cases e2; unfold encI at dt; rw [Nat.zero_add] at dt; have k0 := cell_new w3 #[.slice (some ⟨gd, 0, none⟩) N N, .slice (some ⟨gi, 0, none⟩) N N, .bool (calmN Z F N s)] 96 0; have k1 := cell_new w3 #[.slice (some ⟨gd, 0, none⟩) N N, .slice (some ⟨gi, 0, none⟩) N N, .bool (calmN Z F N s)] 96 1; have k2 := cell_new w3 #[.slice (some ⟨gd, 0, none⟩) N N, .slice (some ⟨gi, 0, none⟩) N N, .bool (calmN Z F N s)] 96 2; have hbx := hb3.trans (bA.mono hb3.size); have HB3 := Lib.hid (HB.out.trans (hbx.mono HB.out.size)); have HF3 := Lib.hid (HF.out.below hbx); have HR3 := Lib.hid (HRW.out.below' hbx); have hn3 := kept_box HN2.out hbx; have HN3 := Lib.hid hn3; have d0 := cell_whole hn3 0; have d1 := cell_whole hn3 1; have d2 := cell_whole hn3 2; clear hb3 hd hi hbx bA hn3))
        go_ret
        exact ⟨fo, fc, F, v, rfl, HF3.out, HNL.out, HV.out, HST.out, HB0.out.trans (HB3.out.mono HB0.out.size)⟩
end
section
variable (n : Int) (b : Bool) (ao : Option Addr) (cap : Nat) (Z : List ArcT)
set_option maxRecDepth 100000 in
set_option maxHeartbeats 8000000 in
theorem rmost12_any (s t H : Int) (w : World) (h : Row encA 4 w ao Z) (hz : Z.length ≤ maxLen) :
    Calls Tryz.prog 13 #[.agg #[.int .i64 n, .bool b, .slice ao Z.length cap], .int .i64 s, .int .i64 t, .int .i64 H] w (Most12 n Z s t H w) := by
  have hb00 := (Below.refl _ w).alloc (Nat.le_refl _) (.cells #[.int .i64 n, .bool b, .slice ao Z.length cap] 27)
  have HB0 := Lib.hid hb00
  have HN0 := Lib.hid (heap_alloc_new w (.cells #[.int .i64 n, .bool b, .slice ao Z.length cap] 27))
  have c0 := cell_whole HN0.out 0
  have c1 := cell_whole HN0.out 1
  have c2 := cell_whole HN0.out 2
  have HR := Lib.hid (h.below' hb00)
  have HZ := Lib.hid hz
  clear h hz hb00
  obtain ⟨e0, he⟩ : ∃ e0, askE n Z s t H = e0 := ⟨_, rfl⟩
  have HE := Lib.hid he
  by_cases h0 : e0 = 0
  · subst h0
    obtain ⟨N, i, j, rfl, rfl, rfl, hi, hj, hij, hW, hH1, hH2⟩ := ask_net he
    have HWN := Lib.hid hW
    have HIJ := Lib.hid hij
    clear he hW hij
    go_enter Tryz.func13, Tryz.ntmps13
    go_wp2_with (first
      | (go_at_call 25; refine (rasked12_is (N : Int) b ao cap Z 0 (i : Int) (j : Int) H _ HR.out HZ.out HE.out).mono ?_; rintro e w1 ⟨rfl, hb1⟩; have HB1 := Lib.hid (HB0.out.trans (hb1.mono HB0.out.size)); have hn1 := kept_box HN0.out hb1; have HN1 := Lib.hid hn1; have HR1 := Lib.hid (HR.out.below' hb1); have c0 := cell_whole hn1 0; have c1 := cell_whole hn1 1; have c2 := cell_whole hn1 2; clear hb1 hn1)
      | fail)
    have z0 : w1.drew.cell? ⟨w.heap.size, 0, none⟩ = some (.int .i64 (N : Int)) := c0
    have z1 : w1.drew.cell? ⟨w.heap.size, 1, none⟩ = some (.bool b) := c1
    have z2 : w1.drew.cell? ⟨w.heap.size, 2, none⟩ = some (.slice ao Z.length cap) := c2
    have HRx : Hid (Row encA 4 w1.drew ao Z) := Lib.hid (HR1.out.below' (below_drew (Below.refl w1.heap.size w1)))
    have HWx : Hid (Below w.heap.size w w1.drew) := Lib.hid (below_drew HB1.out)
    go_region_held3 (fun W => W.cell? ⟨w.heap.size, 0, none⟩ = some (.int .i64 (N : Int)) ∧ W.cell? ⟨w.heap.size, 1, none⟩ = some (.bool b) ∧ W.cell? ⟨w.heap.size, 2, none⟩ = some (.slice ao Z.length cap)) (first | exact ⟨c0, c1, c2⟩ | exact ⟨z0, z1, z2⟩ | go_keep)
      (first
        | (go_at_call 26; refine (rworth_any (N : Int) b ao fo cap fc Z F (i : Int) (j : Int) H _ HRx.out HFx.out HZ.out HFL.out).mono ?_; rw [HWE.out, HWV.out]; rintro e w8 ⟨rfl, b8⟩; have z0 := cell_below b8 z0; have z1 := cell_below b8 z1; have z2 := cell_below b8 z2; have HW8 := Lib.hid (HWx.out.trans (b8.mono HWx.out.size)); clear b8)
        | (go_at_call 27; refine (rbest12_any b ao cap Z N i j H _ HRx.out HWN.out hi hj HIJ.out hH1).mono ?_; rintro e w7 ⟨fo, fc, F, k, rfl, hf, _, hbi, hdn, b6⟩; have HWO := wor_st HE.out hbi.flow; have HWE := Lib.hid HWO.1; have HWV := Lib.hid HWO.2; have HIB := Lib.hid (hbi.done HWN.out hi hj HIJ.out hdn); have HFx := Lib.hid hf; have HFL : Hid (F.length ≤ maxLen) := Lib.hid (by rw [hbi.flow.1.1]; exact HZ.out); have z0 := cell_below b6 z0; have z1 := cell_below b6 z1; have z2 := cell_below b6 z2; have HRx := Lib.hid (HRx.out.below' b6); have HWx := Lib.hid (HWx.out.trans (b6.mono HWx.out.size)); clear b6 hf hbi hdn HWO))
    all_goals
      go_wp2
      go_ret2
      exact ⟨_, by rw [HE.out]; rfl, fun _ => ⟨N, i, j, rfl, rfl, rfl, hi, hj, HIJ.out, HWN.out, HIB.out⟩, fun h => absurd HE.out h, HW8.out⟩
  · have hf1 : (e0 != 0) = true := by simpa using h0
    have hf2 : (e0 == 0) = false := by simpa using h0
    have H0 := Lib.hid h0
    clear he h0
    go_enter Tryz.func13, Tryz.ntmps13
    go_wp2_with (first
      | (go_at_call 25; refine (rasked12_is n b ao cap Z e0 s t H _ HR.out HZ.out HE.out).mono ?_; rintro e w1 ⟨rfl, hb1⟩; have HB1 := Lib.hid (HB0.out.trans (hb1.mono HB0.out.size)); clear hb1))
    go_ret2
    exact ⟨0, by rw [HE.out]; rfl, fun h => absurd (HE.out.symm.trans h) H0.out, fun _ => rfl, HB1.out⟩
end
end Go.Proofs.YtlkbohpnlbfopaaGreat
