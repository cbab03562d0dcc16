/- LevelMore: along the way as much can be pushed as it has room, and the value grows by it. -/
import Derived.Test.YtbolpjahmmjllaaVLaws
import Derived.Test.YtbolpjahmmjllaaSRpu
import Derived.Test.YtbolpjahmmjllaaSBal
import Derived.IntWalk
import Derived.BigQuiet
import Derived.Deep.QuietTactic
namespace Go.Proofs.Ytbolpjahmmjllaa
open Go.RowKit
set_option linter.unusedVariables false

theorem bals8_at {n : Int} {Z : List ArcT} {F : List Int} {N : Nat} (h : flowE n Z F = 0) (hN : n = (N : Int)) : (balsL n Z F).length = N ∧ ∀ v, v < N → (balsL n Z F)[v]? = some (bal Z F v) := by
  have e : balsL n Z F = balL Z F N Z.length := by unfold balsL; rw [if_pos h, hN, Int.toNat_natCast]
  refine ⟨by rw [e, balL_len], fun v hv => ?_⟩
  rw [e]
  have := atI_get (d := balL Z F N Z.length) (v := v) (by rw [balL_len]; exact hv)
  rw [this, balL_at Z F Z.length hv]
  rfl
theorem st_of {n : Int} {Z : List ArcT} {F : List Int} {s t : Int} (h : valE n Z s t F = 0) : ∃ N i j : Nat, n = (N : Int) ∧ s = (i : Int) ∧ t = (j : Int) ∧ i < N ∧ j < N ∧ i ≠ j ∧ FlowST Z N i j F (valK n Z s t F) := by
  obtain ⟨h1, h2, h3⟩ := valE_ok h
  obtain ⟨_, i, j, rfl, rfl, hi, hj, hij⟩ := endsE_ok h1
  obtain ⟨_, hF, _, _, hn1, hn2⟩ := flow_facts (b := false) h2
  obtain ⟨N, rfl⟩ : ∃ N : Nat, n = (N : Int) := ⟨n.toNat, by omega⟩
  rw [Int.toNat_natCast] at hi hj
  obtain ⟨hl, hb⟩ := bals8_at h2 (rfl : (N : Int) = (N : Int))
  refine ⟨N, i, j, rfl, rfl, rfl, hi, hj, hij, hF, fun v hv h4 h5 => ?_, ?_⟩
  · have := restB_at h3 v _ (hb v hv)
    rw [Nat.zero_add] at this
    omega
  · unfold valK
    rw [if_pos h, Int.toNat_natCast]
theorem of_st {N i j : Nat} {Z : List ArcT} {G : List Int} {v : Int} (he : endsE (N : Int) Z (i : Int) (j : Int) = 0) (h : FlowST Z N i j G v) : valE (N : Int) Z (i : Int) (j : Int) G = 0 ∧ valK (N : Int) Z (i : Int) (j : Int) G = v := by
  obtain ⟨hc, _⟩ := endsE_ok he
  have hfe : flowE (N : Int) Z G = 0 := by unfold flowE; rw [if_pos hc, if_pos (flow_flowB h.1)]
  obtain ⟨hl, hb⟩ := bals8_at hfe (rfl : (N : Int) = (N : Int))
  have hr : restB (i : Int) (j : Int) 0 (balsL (N : Int) Z G) = true := restB_mk (fun w x hx => by
    have hw : w < N := by rw [← hl]; exact (List.getElem?_eq_some_iff.1 hx).1
    rw [hb w hw] at hx
    cases hx
    rw [Nat.zero_add]
    by_cases h1 : w = i
    · left; omega
    · by_cases h2 : w = j
      · right; left; omega
      · right; right; exact h.2.1 w hw h1 h2)
  have hv := valE_yes he hfe hr
  refine ⟨hv, ?_⟩
  unfold valK
  rw [if_pos hv, Int.toNat_natCast]
  exact h.2.2
theorem step_okK {n : Int} {Z : List ArcT} {F : List Int} (h : flowE n Z F = 0) {y : StepT} (hy : y ∈ stepsK Z F Z.length) : StepOk Z F y ∧ isArc Z y ∧ 0 < leftS Z F y := by
  obtain ⟨hR, hF, hz, hfl, _, _⟩ := flow_facts (b := false) h
  obtain ⟨h1, _, h3⟩ := (stepsK_mem (Nat.le_refl _)).1 hy
  obtain ⟨p, a, q, ha, e⟩ := stepsK_arc hy
  have hb := flow_bd hR hF ha
  have hp : p < F.length := by rw [hfl]; exact (List.getElem?_eq_some_iff.1 ha).1
  unfold capN at hb
  exact ⟨⟨p, a, q, e, ha, atI_get hp, by omega, by omega, by omega, by omega⟩, h1, h3⟩
/-- What LevelMore says, in plain lists. -/
theorem more_plain {n : Int} {Z : List ArcT} {F : List Int} {s t : Int} (hp : pathE n Z F s t = 0) (hv : valE n Z s t F = 0) (hb : wayB n Z F s t = true) :
    wayL n Z F s t ≠ [] ∧ (wayL n Z F s t).length ≤ 50 ∧ (∀ y ∈ wayL n Z F s t, StepOk Z F y ∧ isArc Z y) ∧ 0 < botK Z F (wayL n Z F s t) ∧
    (pushR n Z F (wayL n Z F s t) (botK Z F (wayL n Z F s t))).1 = 0 ∧ valE n Z s t (pushR n Z F (wayL n Z F s t) (botK Z F (wayL n Z F s t))).2 = 0 ∧
    valK n Z s t (pushR n Z F (wayL n Z F s t) (botK Z F (wayL n Z F s t))).2 = valK n Z s t F + botK Z F (wayL n Z F s t) ∧ -209715200 ≤ valK n Z s t F ∧ valK n Z s t F ≤ 209715200 ∧ botK Z F (wayL n Z F s t) ≤ 4398046511104 := by
  have hbd := wayL_bd n Z F s t
  obtain ⟨N, i, j, rfl, rfl, rfl, hi, hj, hij, hN, hf, hw⟩ := wayF_ok hp
  obtain ⟨N', i', j', e1, e2, e3, _, _, _, hst⟩ := st_of hv
  obtain rfl : N = N' := by omega
  obtain rfl : i = i' := by omega
  obtain rfl : j = j' := by omega
  have hT := flow_to hf
  rw [Int.toNat_natCast] at hT
  obtain ⟨hR, hF, _, _, _, _⟩ := flow_facts (b := false) hf
  have hwl : wayL (N : Int) Z F (i : Int) (j : Int) = (wayK (fromS Z) (toS Z) (stepsK Z F Z.length) N i j).getD [] := by unfold wayL; rw [hw]
  have hwb : (wayK (fromS Z) (toS Z) (stepsK Z F Z.length) N i j).isSome = true := by rw [← hw]; exact hb
  obtain ⟨p, hk⟩ := Option.isSome_iff_exists.1 hwb
  rw [hk, Option.getD_some] at hwl
  rw [hwl] at hbd ⊢
  obtain ⟨w1, w2, w3, w4⟩ := way_props hi hT hk
  have hne : p ≠ [] := by
    rintro rfl
    exact hij w1
  obtain ⟨a1, a2, a3⟩ := augment hij hst w1 w3 w4 (fun x hx => (step_okK hf (w2 x hx)).2)
  have hpr : pushR (N : Int) Z F p (botK Z F p) = pushL Z (botK Z F p) F p := pushR_yes hf (by omega)
  have he := (valE_ok hv).1
  have hpl := pushed_of p F a2
  obtain ⟨o1, o2⟩ := of_st he a3
  rw [hpr, hpl]
  have hvb : valK (N : Int) Z (i : Int) (j : Int) F = bal Z F i := by unfold valK; rw [if_pos hv, Int.toNat_natCast]
  have hbb := bal_bd hR hF i (Nat.le_refl Z.length)
  have hbl : botK Z F p ≤ 4398046511104 := by
    obtain ⟨y, hy⟩ := List.exists_mem_of_ne_nil p hne
    have h1 := botK_le (Z := Z) (f := F) p y hy
    have h2 := (step_okK hf (w2 y hy)).1.left
    omega
  unfold bal at hvb
  exact ⟨hne, hbd, fun y hy => ⟨(step_okK hf (w2 y hy)).1, (step_okK hf (w2 y hy)).2.1⟩, a1, rfl, o1, o2, by omega, by omega, hbl⟩
section
variable (n : Int) (b : Bool) (ao fo : Option Addr) (len cap fl fc : Nat) (Z : List ArcT) (F : List Int)
set_option maxRecDepth 100000 in
set_option maxHeartbeats 4000000 in
theorem more_law (s t : Int) (w : World) (hl : Z.length = len) (hm : len ≤ maxLen) (hr : Row encA 4 w ao Z) (hl2 : F.length = fl) (hm2 : fl ≤ maxLen) (hf : Lst encI w fo F) (hnil : fo = none → fc = 0) :
    Calls Try.prog 7 #[.agg #[.int .i64 n, .bool b, .slice ao len cap], .slice fo fl fc, .int .i64 s, .int .i64 t] w fun e w' => e = .returned (.bool true) ∧ Below w.heap.size w w' := by
  subst hl
  subst hl2
  have hb00 := (Below.refl _ w).alloc (Nat.le_refl _) (.cells #[.int .i64 n, .bool b, .slice ao Z.length cap] 24)
  have HB := Lib.hid hb00
  have hn0 := heap_alloc_new w (.cells #[.int .i64 n, .bool b, .slice ao Z.length cap] 24)
  have HN := Lib.hid hn0
  have HR := Lib.hid (hr.below' hb00)
  have HF := Lib.hid (hf.below hb00)
  have HM := Lib.hid hm
  have HM2 := Lib.hid hm2
  have HNL := Lib.hid hnil
  obtain ⟨e0, he⟩ : ∃ e0, pathE n Z F s t = e0 := ⟨_, rfl⟩
  obtain ⟨e1, he1⟩ : ∃ e1, valE n Z s t F = e1 := ⟨_, rfl⟩
  obtain ⟨k1, hk1⟩ : ∃ k1, valK n Z s t F = k1 := ⟨_, rfl⟩
  obtain ⟨qb, hqb⟩ : ∃ qb, wayB n Z F s t = qb := ⟨_, rfl⟩
  obtain ⟨L, hL⟩ : ∃ L, wayL n Z F s t = L := ⟨_, rfl⟩
  have HP := Lib.hid (fun (h0 : e0 = 0) (h1 : e1 = 0) (h2 : qb = true) => more_plain (he.trans h0) (he1.trans h1) (hqb.trans h2))
  rw [hL, hk1] at HP
  have HE := Lib.hid he
  have HE1 := Lib.hid he1
  have HK1 := Lib.hid hk1
  have HQB := Lib.hid hqb
  have HLL := Lib.hid hL
  have hn1 := hn0
  have x0 := cell_whole hn0 0
  have y0 := cell_whole hn0 1
  have z0 := cell_whole hn0 2
  clear hr hf hm hm2 hnil hb00 he he1 hk1 hqb hL hn0 hn1
  by_cases h0 : e0 = 0 ∧ e1 = 0 ∧ qb = true
  · obtain ⟨h0, h1, h2⟩ := h0
    obtain ⟨hne, hLb, hok, hbp, hp0, hv0, hkk, hk2, hk3, hkb⟩ := HP.out h0 h1 h2
    subst h0
    subst h1
    subst h2
    have hL0 : 0 < L.length := List.length_pos_iff.2 hne
    have hLi : ((L.length : Int) == 0) = false := by simp; omega
    obtain ⟨bk, hbk⟩ : ∃ bk, botK Z F L = bk := ⟨_, rfl⟩
    rw [hbk] at hbp hp0 hv0 hkk hkb
    obtain ⟨G, hG⟩ : ∃ G, (pushR n Z F L bk).2 = G := ⟨_, rfl⟩
    rw [hG] at hv0 hkk
    have HBK := Lib.hid hbk
    have HG := Lib.hid hG
    have HP0 := Lib.hid hp0
    have HV0 := Lib.hid hv0
    have HKK := Lib.hid hkk
    have HOK := Lib.hid hok
    have HNE := Lib.hid hne
    have hbd : decide (0 < bk) = true := decide_eq_true hbp
    have hfe := (pathE_ok HE.out).1
    obtain ⟨_, _, hz2, hfz, _, _⟩ := flow_facts (b := b) hfe
    have hGl : G.length ≤ maxLen := by
      rw [← hG]
      unfold pushR
      rw [if_pos hfe]
      split
      · unfold maxLen; simp
      · have h3 : ∀ (l : List StepT) (f : List Int), (pushL Z bk f l).2.length ≤ f.length := by
          intro l
          induction l with
          | nil => intro f; exact Nat.le_refl _
          | cons x r ih =>
            intro f
            unfold pushL
            split
            · split
              · simp
              · have := ih (stepTo bk f x)
                rw [stepTo_len] at this
                exact this
            · simp
        have := h3 L F
        unfold maxLen
        omega
    have HGL := Lib.hid hGl
    have hfz2 : F.length ≤ 200 := by omega
    clear hbk hG hp0 hv0 hkk hok hne hfe hGl HP hfz
    go_enter Try.func7, Try.ntmps7
    go_wp2_with (first
      | (go_at_call 10; refine (vawake_any _).mono ?_; rintro e w3 ⟨rfl, hb3⟩; have hn1 := kept_box HN.out hb3; have HN := Lib.hid hn1; have HB := Lib.hid (HB.out.trans (hb3.mono HB.out.size)); have HR := Lib.hid (HR.out.below' hb3); have HF := Lib.hid (HF.out.below hb3); have x1 := cell_whole hn1 0; have y1 := cell_whole hn1 1; have z1 := cell_whole hn1 2; clear hb3 hn1 x0 y0 z0)
      | (go_at_call 12; refine (vpath_any n b ao fo cap fc Z F s t _ HR.out HF.out HM.out HM2.out).mono ?_; rintro e w4 ⟨a1, c1, rfl, hl1, hb4⟩; rw [HLL.out] at hl1 ⊢; rw [HE.out, HQB.out]; have hn1 := kept_box HN.out hb4; have HN := Lib.hid hn1; have HR := Lib.hid (HR.out.below' hb4); have HF := Lib.hid (HF.out.below hb4); have HB := Lib.hid (HB.out.trans (hb4.mono HB.out.size)); have HL1 := Lib.hid hl1; have x2 := cell_whole hn1 0; have y2 := cell_whole hn1 1; have z2 := cell_whole hn1 2; clear hn1 hl1 hb4 x1 y1 z1)
      | (go_at_call 19; refine (rscheck_any n b ao fo cap fc Z s t F _ HR.out HF.out HM.out HM2.out).mono ?_; rintro e w5 ⟨rfl, hb5⟩; rw [HE1.out, HK1.out]; have hn1 := kept_box HN.out hb5; have HN := Lib.hid hn1; have HR := Lib.hid (HR.out.below' hb5); have HF := Lib.hid (HF.out.below hb5); have HB := Lib.hid (HB.out.trans (hb5.mono HB.out.size)); have HL1 := Lib.hid (HL1.out.below' hb5); have x3 := cell_whole hn1 0; have y3 := cell_whole hn1 1; have z3 := cell_whole hn1 2; clear hn1 hb5 x2 y2 z2))
    go_loopw [15] (fun iv wr => ∃ k : Nat, k ≤ L.length ∧ iv = .int .i64 (k : Int) ∧ Hid (Below w5.heap.size w5 wr)) (fun iv _ => L.length - (intOf iv).toNat)
    case atStart => exact ⟨0, Nat.zero_le _, rfl, Lib.hid (Below.refl _ _)⟩
    case round =>
      obtain ⟨k, hk, rfl, HW⟩ := hrel
      by_cases hlt : k < L.length
      · have hli : (k : Int) < (L.length : Int) := by omega
        obtain ⟨lb, lx, e, hlb, s0, s1⟩ := step_at (HL1.out.below' HW.out) (List.getElem?_eq_getElem hlt)
        cases e
        obtain ⟨⟨p, a, q, hy, ha, _⟩, _⟩ := HOK.out _ (List.getElem_mem hlt)
        have hpz : p < Z.length := (List.getElem?_eq_some_iff.1 ha).1
        have v2 := cell_below' HW.out z3 (block_lt_of_cell z3)
        generalize L[k] = y at *
        subst hy
        simp only at s0 s1
        have hd1 : decide ((p : Int) < 0) = false := decide_eq_false (by omega)
        have hd2 : decide ((Z.length : Int) ≤ (p : Int)) = false := decide_eq_false (by omega)
        have hd3 : ¬ (Z.length : Int) ≤ (p : Int) := by omega
        have hd4 : decide ((p : Int) ≥ (Z.length : Int)) = false := decide_eq_false (by omega)
        clear ha
        go_wp2
        go_quiet (fail)
        go_wp2
        go_roundw
        case rel => exact ⟨k + 1, by omega, by go_num, Lib.hid (below_drewN HW.out _)⟩
        case measure => simp [intOf]; omega
      · have hli : ¬ (k : Int) < (L.length : Int) := by omega
        obtain rfl : k = L.length := by omega
        have HB := Lib.hid (HB.out.trans (HW.out.mono HB.out.size))
        have hn1 := kept_box HN.out HW.out
        have HN := Lib.hid hn1
        have HR := Lib.hid (HR.out.below' HW.out)
        have HF := Lib.hid (HF.out.below HW.out)
        have HL1 := Lib.hid (HL1.out.below' HW.out)
        have x4 := cell_whole hn1 0
        have y4 := cell_whole hn1 1
        have z4 := cell_whole hn1 2
        have hw1 : IntKind.i64.wrap (k1 + bk) = k1 + bk := IntWalk.i64_in _ (by omega)
        clear hn1 x3 y3 z3
        go_wp2_with (first
          | (go_at_call 20; refine (rbottle_any n b ao fo a1 cap fc c1 Z F L _ HR.out HF.out HL1.out HNE.out (by omega) (by omega) (by omega) (fun y hy => (HOK.out y hy).1)).mono ?_; rintro e w6 ⟨rfl, hb6⟩; rw [HBK.out]; have hn1 := kept_box HN.out hb6; have HN := Lib.hid hn1; have HR := Lib.hid (HR.out.below' hb6); have HF := Lib.hid (HF.out.below hb6); have HB := Lib.hid (HB.out.trans (hb6.mono HB.out.size)); have HL1 := Lib.hid (HL1.out.below' hb6); have x5 := cell_whole hn1 0; have y5 := cell_whole hn1 1; have z5 := cell_whole hn1 2; clear hn1 hb6 x4 y4 z4)
          | (go_at_call 21; refine (rpush_any n b ao fo a1 cap fc c1 Z F L bk _ HR.out HF.out HL1.out HNL.out HM.out HM2.out (by omega)).mono ?_; rintro e w7 ⟨ga, gc, rfl, hg7, hb7⟩; rw [HG.out] at hg7 ⊢; rw [HP0.out]; have hn1 := kept_box HN.out hb7; have HN := Lib.hid hn1; have HR := Lib.hid (HR.out.below' hb7); have HB := Lib.hid (HB.out.trans (hb7.mono HB.out.size)); have HGG := Lib.hid hg7; have x6 := cell_whole hn1 0; have y6 := cell_whole hn1 1; have z6 := cell_whole hn1 2; clear hn1 hb7 hg7 x5 y5 z5)
          | (go_at_call 19; refine (rscheck_any n b ao ga cap gc Z s t G _ HR.out HGG.out HM.out HGL.out).mono ?_; rintro e w8 ⟨rfl, hb8⟩; rw [HV0.out, HKK.out]; have HB := Lib.hid (HB.out.trans (hb8.mono HB.out.size)); clear hb8 x6 y6 z6))
        go_ret
        exact ⟨by simp, HB.out⟩
  · have hcase : e0 ≠ 0 ∨ (e0 = 0 ∧ e1 ≠ 0) ∨ (e0 = 0 ∧ e1 = 0 ∧ qb = false) := by
      by_cases h1 : e0 = 0
      · by_cases h2 : e1 = 0
        · cases qb
          · exact .inr (.inr ⟨h1, h2, rfl⟩)
          · exact absurd ⟨h1, h2, rfl⟩ h0
        · exact .inr (.inl ⟨h1, h2⟩)
      · exact .inl h1
    have g1 : e0 ≠ 0 → (e0 != 0) = true ∧ (e0 == 0) = false := fun h => ⟨by simpa using h, by simpa using h⟩
    have g2 : e1 ≠ 0 → (e1 != 0) = true ∧ (e1 == 0) = false := fun h => ⟨by simpa using h, by simpa using h⟩
    clear h0 HP
    rcases hcase with h1 | ⟨rfl, h1⟩ | ⟨rfl, rfl, rfl⟩
    · obtain ⟨q1, q2⟩ := g1 h1
      clear h1 g1 g2
      go_enter Try.func7, Try.ntmps7
      go_wp2_with (first
        | (go_at_call 10; refine (vawake_any _).mono ?_; rintro e w3 ⟨rfl, hb3⟩; have hn1 := kept_box HN.out hb3; have HN := Lib.hid hn1; have HB := Lib.hid (HB.out.trans (hb3.mono HB.out.size)); have HR := Lib.hid (HR.out.below' hb3); have HF := Lib.hid (HF.out.below hb3); have x1 := cell_whole hn1 0; have y1 := cell_whole hn1 1; have z1 := cell_whole hn1 2; clear hb3 hn1 x0 y0 z0)
        | (go_at_call 12; refine (vpath_any n b ao fo cap fc Z F s t _ HR.out HF.out HM.out HM2.out).mono ?_; rintro e w4 ⟨a1, c1, rfl, hl1, hb4⟩; rw [HLL.out] at hl1 ⊢; rw [HE.out, HQB.out]; have hn1 := kept_box HN.out hb4; have HN := Lib.hid hn1; have HR := Lib.hid (HR.out.below' hb4); have HF := Lib.hid (HF.out.below hb4); have HB := Lib.hid (HB.out.trans (hb4.mono HB.out.size)); have x2 := cell_whole hn1 0; have y2 := cell_whole hn1 1; have z2 := cell_whole hn1 2; clear hn1 hl1 hb4 x1 y1 z1)
        | (go_at_call 19; refine (rscheck_any n b ao fo cap fc Z s t F _ HR.out HF.out HM.out HM2.out).mono ?_; rintro e w5 ⟨rfl, hb5⟩; rw [HE1.out, HK1.out]; have HB := Lib.hid (HB.out.trans (hb5.mono HB.out.size)); clear hb5 x2 y2 z2))
      go_ret
      exact ⟨by simp, HB.out⟩
    · obtain ⟨q1, q2⟩ := g2 h1
      clear h1 g1 g2
      go_enter Try.func7, Try.ntmps7
      go_wp2_with (first
        | (go_at_call 10; refine (vawake_any _).mono ?_; rintro e w3 ⟨rfl, hb3⟩; have hn1 := kept_box HN.out hb3; have HN := Lib.hid hn1; have HB := Lib.hid (HB.out.trans (hb3.mono HB.out.size)); have HR := Lib.hid (HR.out.below' hb3); have HF := Lib.hid (HF.out.below hb3); have x1 := cell_whole hn1 0; have y1 := cell_whole hn1 1; have z1 := cell_whole hn1 2; clear hb3 hn1 x0 y0 z0)
        | (go_at_call 12; refine (vpath_any n b ao fo cap fc Z F s t _ HR.out HF.out HM.out HM2.out).mono ?_; rintro e w4 ⟨a1, c1, rfl, hl1, hb4⟩; rw [HLL.out] at hl1 ⊢; rw [HE.out, HQB.out]; have hn1 := kept_box HN.out hb4; have HN := Lib.hid hn1; have HR := Lib.hid (HR.out.below' hb4); have HF := Lib.hid (HF.out.below hb4); have HB := Lib.hid (HB.out.trans (hb4.mono HB.out.size)); have x2 := cell_whole hn1 0; have y2 := cell_whole hn1 1; have z2 := cell_whole hn1 2; clear hn1 hl1 hb4 x1 y1 z1)
        | (go_at_call 19; refine (rscheck_any n b ao fo cap fc Z s t F _ HR.out HF.out HM.out HM2.out).mono ?_; rintro e w5 ⟨rfl, hb5⟩; rw [HE1.out, HK1.out]; have HB := Lib.hid (HB.out.trans (hb5.mono HB.out.size)); clear hb5 x2 y2 z2))
      go_ret
      exact ⟨by simp, HB.out⟩
    · clear g1 g2
      go_enter Try.func7, Try.ntmps7
      go_wp2_with (first
        | (go_at_call 10; refine (vawake_any _).mono ?_; rintro e w3 ⟨rfl, hb3⟩; have hn1 := kept_box HN.out hb3; have HN := Lib.hid hn1; have HB := Lib.hid (HB.out.trans (hb3.mono HB.out.size)); have HR := Lib.hid (HR.out.below' hb3); have HF := Lib.hid (HF.out.below hb3); have x1 := cell_whole hn1 0; have y1 := cell_whole hn1 1; have z1 := cell_whole hn1 2; clear hb3 hn1 x0 y0 z0)
        | (go_at_call 12; refine (vpath_any n b ao fo cap fc Z F s t _ HR.out HF.out HM.out HM2.out).mono ?_; rintro e w4 ⟨a1, c1, rfl, hl1, hb4⟩; rw [HLL.out] at hl1 ⊢; rw [HE.out, HQB.out]; have hn1 := kept_box HN.out hb4; have HN := Lib.hid hn1; have HR := Lib.hid (HR.out.below' hb4); have HF := Lib.hid (HF.out.below hb4); have HB := Lib.hid (HB.out.trans (hb4.mono HB.out.size)); have x2 := cell_whole hn1 0; have y2 := cell_whole hn1 1; have z2 := cell_whole hn1 2; clear hn1 hl1 hb4 x1 y1 z1)
        | (go_at_call 19; refine (rscheck_any n b ao fo cap fc Z s t F _ HR.out HF.out HM.out HM2.out).mono ?_; rintro e w5 ⟨rfl, hb5⟩; rw [HE1.out, HK1.out]; have HB := Lib.hid (HB.out.trans (hb5.mono HB.out.size)); clear hb5 x2 y2 z2))
      go_ret
      exact ⟨by simp, HB.out⟩
end
end Go.Proofs.Ytbolpjahmmjllaa
