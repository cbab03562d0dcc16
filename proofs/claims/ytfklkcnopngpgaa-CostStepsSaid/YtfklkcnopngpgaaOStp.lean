/- CostSteps: times that are told are tight among the nodes that are come to, each of which but the first is come to by a step that takes just so long. -/
import Derived.Test.YtfklkcnopngpgaaOFac
import Derived.BigQuiet
import Derived.Deep.QuietTactic
import Derived.Deep.DeepCutAuto
import Derived.Deep.RegionHeld3
namespace Go.Proofs.Ytfklkcnopngpgaa
open Go.RowKit
set_option linter.unusedVariables false

/-! Steps of one kind, counted where they end -/
def cntS (hit : StepT → Bool) (tg : StepT → Nat) (R : List Int) (y : StepT) : List Int := if hit y then R.set (tg y) (atI R (tg y) + 1) else R
def cntL (hit : StepT → Bool) (tg : StepT → Nat) (N : Nat) (M : List StepT) : List Int := M.foldl (cntS hit tg) (List.replicate N 0)
section
variable {hit : StepT → Bool} {tg : StepT → Nat}
theorem cntS_props {R : List Int} {N : Nat} {c : Int} {y : StepT} (hl : R.length = N) (ht : tg y < N) (hb : ∀ v, 0 ≤ atI R v ∧ atI R v ≤ c) :
    (cntS hit tg R y).length = N ∧ (∀ v, 0 ≤ atI (cntS hit tg R y) v ∧ atI (cntS hit tg R y) v ≤ c + 1) ∧ (∀ v, atI R v ≤ atI (cntS hit tg R y) v) ∧ (hit y = true → 0 < atI (cntS hit tg R y) (tg y)) := by
  unfold cntS
  cases hh : hit y with
  | true =>
    rw [if_pos rfl]
    refine ⟨by rw [List.length_set]; exact hl, fun v => ?_, fun v => ?_, fun _ => ?_⟩
    · rw [atI_set (by rw [hl]; exact ht)]
      have h1 := hb v
      have h2 := hb (tg y)
      split <;> omega
    · rw [atI_set (by rw [hl]; exact ht)]
      split
      · next e => rw [e]; omega
      · omega
    · rw [atI_set (by rw [hl]; exact ht), if_pos rfl]
      have := hb (tg y)
      omega
  | false =>
    rw [if_neg (by simp)]
    exact ⟨hl, fun v => by have := hb v; omega, fun v => by omega, fun h => by cases h⟩
theorem cnt_fold {N : Nat} : ∀ (M : List StepT) (R : List Int) (c : Int), R.length = N → (∀ y ∈ M, tg y < N) → (∀ v, 0 ≤ atI R v ∧ atI R v ≤ c) →
    (M.foldl (cntS hit tg) R).length = N ∧ (∀ v, 0 ≤ atI (M.foldl (cntS hit tg) R) v ∧ atI (M.foldl (cntS hit tg) R) v ≤ c + M.length) ∧ (∀ v, atI R v ≤ atI (M.foldl (cntS hit tg) R) v) ∧ (∀ y ∈ M, hit y = true → 0 < atI (M.foldl (cntS hit tg) R) (tg y))
  | [], R, c, hl, _, hb => ⟨hl, fun v => by have := hb v; simp; omega, fun v => Int.le_refl _, fun y hy => by cases hy⟩
  | y :: M, R, c, hl, ht, hb => by
    obtain ⟨p1, p2, p3, p4⟩ := cntS_props (hit := hit) hl (ht y (by simp)) hb
    obtain ⟨i1, i2, i3, i4⟩ := cnt_fold M (cntS hit tg R y) (c + 1) p1 (fun z hz => ht z (by simp [hz])) p2
    refine ⟨i1, fun v => ?_, fun v => Int.le_trans (p3 v) (i3 v), fun z hz hh => ?_⟩
    · have := i2 v
      simp only [List.foldl_cons, List.length_cons]
      omega
    · rcases List.mem_cons.1 hz with rfl | hz
      · have h1 := p4 hh
        have h2 := i3 (tg z)
        simp only [List.foldl_cons]
        omega
      · exact i4 z hz hh
theorem cnt_props {N : Nat} {M : List StepT} (ht : ∀ y ∈ M, tg y < N) :
    (cntL hit tg N M).length = N ∧ (∀ v, 0 ≤ atI (cntL hit tg N M) v ∧ atI (cntL hit tg N M) v ≤ M.length) ∧ (∀ y ∈ M, hit y = true → 0 < atI (cntL hit tg N M) (tg y)) := by
  obtain ⟨h1, h2, _, h4⟩ := cnt_fold (hit := hit) M (List.replicate N 0) 0 (by simp) ht (fun v => by rw [zeros_at]; simp)
  exact ⟨h1, fun v => by have := h2 v; unfold cntL; omega, h4⟩
theorem cnt_take {N : Nat} {M : List StepT} {k : Nat} (hk : k < M.length) : cntL hit tg N (M.take (k + 1)) = cntS hit tg (cntL hit tg N (M.take k)) M[k] := by
  unfold cntL
  rw [List.take_succ_eq_append_getElem hk, List.foldl_append]
  rfl
end
/-- Does a step take just so long as the times say? -/
def hitO (Z : List ArcT) (d : List (Option Int)) (y : StepT) : Bool := (getO d (fromS Z y)).isSome && decide (valO (getO d (toS Z y)) = valO (getO d (fromS Z y)) + tmS Z y)
/-- What CostSteps says, in plain lists. -/
theorem steps_plain {n : Int} {Z : List ArcT} {F : List Int} {s : Int} (h : farE n Z F s = 0) :
    ∃ N i : Nat, n = (N : Int) ∧ s = (i : Int) ∧ i < N ∧ N ≤ 50 ∧ flowE n Z F = 0 ∧ ∃ d, farO n Z F s = d ∧ d.length = N ∧ getO d i = some 0 ∧ BdO d 1000000 ∧
      (∀ y ∈ stepsK Z F Z.length, fromS Z y < N ∧ toS Z y < N ∧ ((getO d (fromS Z y)).isSome = true → (getO d (toS Z y)).isSome = true ∧ valO (getO d (toS Z y)) ≤ valO (getO d (fromS Z y)) + tmS Z y)) ∧
      (∀ v, v < N → v ≠ i → (getO d v).isSome = true → ∃ y ∈ stepsK Z F Z.length, hitO Z d y = true ∧ toS Z y = v) := by
  have hf : flowE n Z F = 0 := by
    unfold farE at h
    split at h
    · assumption
    · next hn => exact absurd h hn
  have hl : levE n Z F s = 0 := by
    rw [far_lev] at h
    split at h
    · assumption
    · next hn => exact absurd h hn
  obtain ⟨_, _, i, rfl, hi⟩ := levE_ok hl
  obtain ⟨_, _, _, _, hn1, hn2⟩ := flow_facts (b := false) hf
  obtain ⟨N, rfl⟩ : ∃ N : Nat, n = (N : Int) := ⟨n.toNat, by omega⟩
  rw [Int.toNat_natCast] at hi
  obtain ⟨e, hT⟩ := far_facts h hi
  have hZ := (calm_all hf).2
  rw [Int.toNat_natCast] at hZ
  have hR := rowsR_to (F := F) hZ
  refine ⟨N, i, rfl, rfl, hi, by omega, hf, dN Z F N i N, e, hT.len, hT.start, hT.bd, fun y hy => ?_, fun v hv hne hs => ?_⟩
  · have hm : rowS Z y ∈ rowsR Z F := List.mem_map.2 ⟨y, hy, rfl⟩
    have h1 := hR _ hm
    have h2 := hT.closed _ hm
    rw [rowS_fr, rowS_to] at h1
    rw [rowS_fr, rowS_to, rowS_tm] at h2
    refine ⟨h1.1, h1.2, fun h0 => ?_⟩
    cases hg : getO (dN Z F N i N) (fromS Z y) with
    | none => rw [hg] at h0; cases h0
    | some x =>
      obtain ⟨z, h3, h4⟩ := h2 x hg
      rw [h3]
      exact ⟨rfl, h4⟩
  · cases hg : getO (dN Z F N i N) v with
    | none => rw [hg] at hs; cases hs
    | some z =>
      obtain ⟨a, ha, h1, x, h2, h3⟩ := hT.by_ v z hv hne hg
      unfold rowsR at ha
      obtain ⟨y, hy, rfl⟩ := List.mem_map.1 ha
      rw [rowS_to] at h1
      rw [rowS_fr] at h2
      rw [rowS_tm] at h3
      refine ⟨y, hy, ?_, h1⟩
      unfold hitO
      rw [h2, h1, hg, h3]
      simp [valO]
section
variable (n : Int) (b : Bool) (ao : Option Addr) (len cap : Nat) (Z : List ArcT)
set_option maxRecDepth 100000 in
set_option maxHeartbeats 8000000 in
theorem steps_law (fo : Option Addr) (fl fc : Nat) (F : List Int) (s : Int) (w : World) (hl : Z.length = len) (hm : len ≤ maxLen) (hr : Row encA 4 w ao Z) (hl2 : F.length = fl) (hm2 : fl ≤ maxLen) (hf : Lst encI w fo F) :
    Calls Try.prog 6 #[.agg #[.int .i64 n, .bool b, .slice ao len cap], .slice fo fl fc, .int .i64 s] w fun e w' => e = .returned (.bool true) ∧ Below w.heap.size w w' := by
  subst hl
  subst hl2
  have hb00 := (Below.refl _ w).alloc (Nat.le_refl _) (.cells #[.int .i64 n, .bool b, .slice ao Z.length cap] 24)
  have HB := Lib.hid hb00
  have hn0 := heap_alloc_new w (.cells #[.int .i64 n, .bool b, .slice ao Z.length cap] 24)
  have HN := Lib.hid hn0
  have HR := Lib.hid (hr.below' hb00)
  have HF := Lib.hid (hf.below hb00)
  have HM := Lib.hid hm
  have HM2 := Lib.hid hm2
  obtain ⟨e0, he⟩ : ∃ e0, farE n Z F s = e0 := ⟨_, rfl⟩
  have HE := Lib.hid he
  have x0 := cell_whole hn0 0
  have y0 := cell_whole hn0 1
  have z0 := cell_whole hn0 2
  clear hr hf hm hm2 hb00 hn0
  by_cases h0 : e0 = 0
  · subst h0
    obtain ⟨N, i, hnN, hsi, hi, hN, hfe, D, hD, hlen, hDi, hbd, hst, hre⟩ := steps_plain he
    have HDD := Lib.hid hD
    subst hnN
    subst hsi
    have hii : (i : Int) < (N : Int) := by omega
    have HDL := Lib.hid hlen
    obtain ⟨hR, hFl, hz2, hfz, _, _⟩ := flow_facts (b := b) hfe
    have HTN := Lib.hid (time_of hR)
    rw [Int.toNat_natCast] at HTN
    have hsl := stepsK_len Z F Z.length
    have hpr := cnt_props (hit := hitO Z D) (tg := toS Z) (N := N) (M := stepsK Z F Z.length) (fun y hy => (hst y hy).2.1)
    have HFZ := Lib.hid hfz
    obtain ⟨M, hM⟩ : ∃ M, stepsK Z F Z.length = M := ⟨_, rfl⟩
    have HMM := Lib.hid hM
    have harcs : ∀ y ∈ M, ∃ (p : Nat) (a : ArcT) (q : Bool), Z[p]? = some a ∧ y = ((p : Int), q) ∧ begI a q = (fromS Z y : Int) ∧ endI a q = (toS Z y : Int) ∧ timeI a q = tmS Z y := by
      intro y hy
      rw [← hM] at hy
      obtain ⟨p, a, q, ha, e⟩ := stepsK_arc hy
      obtain ⟨h1, h2⟩ := begI_fromE ha ⟨(right_arc hR (List.mem_of_getElem? ha)).1, (right_arc hR (List.mem_of_getElem? ha)).2.1⟩ q
      exact ⟨p, a, q, ha, e, by rw [e]; exact h1, by rw [e]; exact h2, by rw [e]; exact timeI_tmS ha q⟩
    rw [hM] at hst hre hsl hpr
    have HARC := Lib.hid harcs
    have HST := Lib.hid hst
    have HRE := Lib.hid hre
    have HPR := Lib.hid hpr
    have HBD := Lib.hid hbd
    have HD1 : Hid ((valsO D)[i]? = some 0) := Lib.hid (by rw [valsO_at (by rw [hlen]; exact hi), hDi]; rfl)
    have HD2 : Hid ((isO D)[i]? = some true) := Lib.hid (by rw [isO_at (by rw [hlen]; exact hi), hDi]; rfl)
    clear he hlen hDi hbd hst hre hD hM harcs hR hFl hfz hpr hfe
    go_enter Try.func6, Try.ntmps6
    go_wp2_with (first
      | (go_at_call 11; refine (oawake_any _).mono ?_; rintro e w3 ⟨rfl, hb3⟩; have hn1 := kept_box HN.out hb3; have HN := Lib.hid hn1; have HB := Lib.hid (HB.out.trans (hb3.mono HB.out.size)); have HR := Lib.hid (HR.out.below' hb3); have HF := Lib.hid (HF.out.below hb3); have x1 := cell_whole hn1 0; have y1 := cell_whole hn1 1; have z1 := cell_whole hn1 2; clear hb3 hn1 x0 y0 z0)
      | (go_at_call 9; refine (ofar_any (N : Int) b ao fo cap fc Z F (i : Int) _ HR.out HF.out HM.out HM2.out).mono ?_; rintro e w4 ⟨da, dc, ia, ic, rfl, hd5, hi5, hb5⟩; rw [HDD.out] at hd5 hi5 ⊢; rw [HE.out, HDL.out]; have hn1 := kept_box HN.out hb5; have HN := Lib.hid hn1; have HR := Lib.hid (HR.out.below' hb5); have HF := Lib.hid (HF.out.below hb5); have HB := Lib.hid (HB.out.trans (hb5.mono HB.out.size)); obtain ⟨db, dx, hde, hdb, dj⟩ := lst_cell hd5 HD1.out; unfold encI at dj; subst hde; obtain ⟨ib, ix, hie, hib, ij⟩ := lst_cell hi5 HD2.out; unfold encB at ij; subst hie; have HD5 := Lib.hid hd5; have HI5 := Lib.hid hi5; have x2 := cell_whole hn1 0; have y2 := cell_whole hn1 1; have z2 := cell_whole hn1 2; clear hn1 hb5 hd5 hi5 x1 y1 z1)
      | (go_at_call 18; refine (rsteps_any (N : Int) b ao fo cap fc Z F _ HR.out HF.out HFZ.out (by omega)).mono ?_; rw [HMM.out]; rintro e w5 ⟨ma, mc, rfl, hm5, hb5⟩; have hn1 := kept_box HN.out hb5; have HN := Lib.hid hn1; have HR := Lib.hid (HR.out.below' hb5); have HB := Lib.hid (HB.out.trans (hb5.mono HB.out.size)); have HD5 := Lib.hid (HD5.out.below hb5); have HI5 := Lib.hid (HI5.out.below hb5); have HM5 := Lib.hid hm5; have x3 := cell_whole hn1 0; have y3 := cell_whole hn1 1; have z3 := cell_whole hn1 2; clear hn1 hb5 hm5 x2 y2 z2 dj ij)
      | (at_make; refine wpList_make_L (enc := encI) 0 Try.underlying25 infoInt rfl (by omega) rfl _ _ rfl N rfl rfl (by omega) ?_; intro w6 ho6 hb6; have HO6 := Lib.hid ho6; have HB6 := Lib.hid hb6; clear ho6 hb6))
    obtain ⟨g, hg⟩ : ∃ g, w5.heap.size = g := ⟨_, rfl⟩
    rw [hg] at HO6 ⊢
    have hgw : w5.heap.size ≤ g := by omega
    go_loopw [13] (fun iv wr => ∃ k : Nat, k ≤ M.length ∧ iv = .int .i64 (k : Int) ∧ Hid (OwnL encI wr g 3 (.slice (some ⟨g, 0, none⟩) N N) (cntL (hitO Z D) (toS Z) N (M.take k))) ∧ Hid (Below w5.heap.size w5 wr)) (fun iv _ => M.length - (intOf iv).toNat)
    case atStart => exact ⟨0, Nat.zero_le _, rfl, Lib.hid (by rw [List.take_zero]; exact HO6.out), HB6⟩
    case round =>
      clear HO6 HB6
      obtain ⟨k, hk, rfl, HO, HW⟩ := hrel
      have v0 := cell_below' HW.out x3 (block_lt_of_cell x3)
      have v1 := cell_below' HW.out y3 (block_lt_of_cell y3)
      have v2 := cell_below' HW.out z3 (block_lt_of_cell z3)
      by_cases hlt : k < M.length
      · have hli : (k : Int) < (M.length : Int) := by omega
        obtain ⟨lb, lx, e, hlb, s0, s1⟩ := step_at (HM5.out.below' HW.out) (List.getElem?_eq_getElem hlt)
        cases e
        have hmem : M[k] ∈ M := List.getElem_mem hlt
        have HTK := Lib.hid (cnt_take (hit := hitO Z D) (tg := toS Z) (N := N) hlt)
        have hpk := cnt_props (hit := hitO Z D) (tg := toS Z) (N := N) (M := M.take k) (fun y hy => (HST.out y (List.mem_of_mem_take hy)).2.1)
        obtain ⟨hfN, htN, hcond⟩ := HST.out _ hmem
        obtain ⟨p, a, q, ha, hy, hB, hE, hTI⟩ := HARC.out _ hmem
        have hta := HTN.out.times a (List.mem_of_getElem? ha)
        have htb := tmS_bd (q := q) ha hta
        rw [← hy] at htb
        have HMK := Lib.hid (List.getElem?_eq_getElem hlt)
        generalize M[k] = y at *
        generalize cntL (hitO Z D) (toS Z) N (M.take k) = R at *
        have hRl := hpk.1
        have hRb := hpk.2.1 (toS Z y)
        have hkl : ((M.take k).length : Int) ≤ 400 := by rw [List.length_take]; omega
        obtain ⟨u, hu⟩ : ∃ u, fromS Z y = u := ⟨_, rfl⟩
        obtain ⟨v, hv⟩ : ∃ v, toS Z y = v := ⟨_, rfl⟩
        obtain ⟨t, ht⟩ : ∃ t, tmS Z y = t := ⟨_, rfl⟩
        have hhit : hitO Z D y = ((getO D u).isSome && decide (valO (getO D v) = valO (getO D u) + t)) := by unfold hitO; rw [hu, hv, ht]
        have hsS : cntS (hitO Z D) (toS Z) R y = if hitO Z D y then R.set v (atI R v + 1) else R := by unfold cntS; rw [hv]
        rw [hu] at hfN hcond hB
        rw [hv] at htN hcond hE hRb
        rw [ht] at hcond hTI htb
        have hbu := HBD.out.val u
        have hbv := HBD.out.val v
        obtain ⟨fu, hfu⟩ : ∃ fu, valO (getO D u) = fu := ⟨_, rfl⟩
        obtain ⟨fv, hfv⟩ : ∃ fv, valO (getO D v) = fv := ⟨_, rfl⟩
        obtain ⟨bu, hxu⟩ : ∃ bu, (getO D u).isSome = bu := ⟨_, rfl⟩
        obtain ⟨bv, hxv⟩ : ∃ bv, (getO D v).isSome = bv := ⟨_, rfl⟩
        have hDu : (valsO D)[u]? = some fu := by rw [← hfu]; exact valsO_at (by rw [HDL.out]; exact hfN)
        have hDv : (valsO D)[v]? = some fv := by rw [← hfv]; exact valsO_at (by rw [HDL.out]; exact htN)
        have hIu : (isO D)[u]? = some bu := by rw [← hxu]; exact isO_at (by rw [HDL.out]; exact hfN)
        have hIv : (isO D)[v]? = some bv := by rw [← hxv]; exact isO_at (by rw [HDL.out]; exact htN)
        rw [hfu] at hbu hcond hhit
        rw [hfv] at hbv hcond hhit
        rw [hxu] at hcond hhit
        rw [hxv] at hcond
        have HHIT := Lib.hid hhit
        have HSS := Lib.hid hsS
        have HBB := Lib.hid hB
        have HEE := Lib.hid hE
        have HTT := Lib.hid hTI
        have HA := Lib.hid ha
        have hDU := Lib.hid hDu
        have hDV := Lib.hid hDv
        have hIU := Lib.hid hIu
        have hIV := Lib.hid hIv
        have hui : (u : Int) < (N : Int) := by omega
        have hvi : (v : Int) < (N : Int) := by omega
        obtain ⟨rv, hrv⟩ : ∃ rv, atI R v = rv := ⟨_, rfl⟩
        have hRv : R[v]? = some rv := by rw [← hrv]; exact atI_get (by rw [hRl]; exact htN)
        have HRV := Lib.hid hRv
        have HRVV := Lib.hid hrv
        rw [hrv] at hRb
        have hr1 := hRb.1
        have hr2 : rv ≤ 400 := by omega
        have hwu : IntKind.i64.wrap (fu + t) = fu + t := IntWalk.i64_in _ (by omega)
        have HWU := Lib.hid hwu
        have HTA : Hid (-4398046511104 ≤ a.2.2.2 ∧ a.2.2.2 ≤ 4398046511104) := Lib.hid (by unfold tm at hta; omega)
        clear hpk hmem hhit hsS hB hE hTI ha hDu hDv hIu hIv hfu hfv hxu hxv hu hv ht hRv hrv hRb hbu hbv hRl hkl hta htb hwu
        subst hy
        simp only at s0 s1
        have z0 : wr.drew.cell? ⟨w.heap.size, 0, none⟩ = some (.int .i64 (N : Int)) := v0
        have z1 : wr.drew.cell? ⟨w.heap.size, 1, none⟩ = some (.bool b) := v1
        have z2 : wr.drew.cell? ⟨w.heap.size, 2, none⟩ = some (.slice ao Z.length cap) := v2
        have z3 : wr.drew.cell? ⟨lb, lx + k * 2, none⟩ = some (.int .i64 (p : Int)) := s0
        have z4 : wr.drew.cell? ⟨lb, lx + k * 2 + 1, none⟩ = some (.bool q) := s1
        have HRx : Hid (Row encA 4 wr.drew ao Z) := Lib.hid ((HR.out.below' HW.out).below' (below_drew (Below.refl wr.heap.size wr)))
        have HWx : Hid (Below w5.heap.size w5 wr.drew) := Lib.hid (below_drew HW.out)
        have HOx : Hid (OwnL encI wr.drew g 3 (.slice (some ⟨g, 0, none⟩) N N) R) := Lib.hid (OwnL.below HO.out (below_drew (Below.refl wr.heap.size wr)))
        go_wp2_with fail
        go_cut [14, 15] (fun p1 p2 wc => p1 = .int .i64 (u : Int) ∧ p2 = .int .i64 (v : Int) ∧ Hid (OwnL encI wc g 3 (.slice (some ⟨g, 0, none⟩) N N) R) ∧ Hid (Below w5.heap.size w5 wc))
        case first =>
          go_region_held3 (fun W => W.cell? ⟨w.heap.size, 0, none⟩ = some (.int .i64 (N : Int)) ∧ W.cell? ⟨w.heap.size, 1, none⟩ = some (.bool b) ∧ W.cell? ⟨w.heap.size, 2, none⟩ = some (.slice ao Z.length cap) ∧ W.cell? ⟨lb, lx + k * 2, none⟩ = some (.int .i64 (p : Int)) ∧ W.cell? ⟨lb, lx + k * 2 + 1, none⟩ = some (.bool q)) (first | exact ⟨v0, v1, v2, s0, s1⟩ | exact ⟨z0, z1, z2, z3, z4⟩ | go_keep)
            (first
              | (go_at_call 19; refine (rfrom_at (N : Int) b ao cap Z p q a _ HRx.out HA.out (by omega)).mono ?_; rintro e w7 ⟨rfl, b6⟩; rw [HBB.out]; have z0 := cell_below b6 z0; have z1 := cell_below b6 z1; have z2 := cell_below b6 z2; have z3 := cell_below b6 z3; have z4 := cell_below b6 z4; have HRx := Lib.hid (HRx.out.below' b6); have HWx := Lib.hid (HWx.out.trans (b6.mono HWx.out.size)); have HOx := Lib.hid (OwnL.below HOx.out b6); clear b6)
              | (go_at_call 20; refine (rto_at (N : Int) b ao cap Z p q a _ HRx.out HA.out (by omega)).mono ?_; rintro e w7 ⟨rfl, b6⟩; rw [HEE.out]; have z0 := cell_below b6 z0; have z1 := cell_below b6 z1; have z2 := cell_below b6 z2; have z3 := cell_below b6 z3; have z4 := cell_below b6 z4; have HRx := Lib.hid (HRx.out.below' b6); have HWx := Lib.hid (HWx.out.trans (b6.mono HWx.out.size)); have HOx := Lib.hid (OwnL.below HOx.out b6); clear b6))
          all_goals
            go_wp2
            go_meet
            exact ⟨rfl, rfl, HOx, HWx⟩
        case rest =>
          obtain ⟨rfl, rfl, HOc, HWc⟩ := hcut
          clear v0 v1 v2 s0 s1 z0 z1 z2 z3 z4 HRx HWx HOx HO HW
          have v0 := cell_below' HWc.out x3 (block_lt_of_cell x3)
          have v1 := cell_below' HWc.out y3 (block_lt_of_cell y3)
          have v2 := cell_below' HWc.out z3 (block_lt_of_cell z3)
          obtain ⟨lb2, lx2, e, _, s0, s1⟩ := step_at (HM5.out.below' HWc.out) HMK.out
          cases e
          simp only at s0 s1
          obtain ⟨db2, dx2, hde2, hdb2, du⟩ := lst_cell (HD5.out.below HWc.out) hDU.out
          cases hde2
          obtain ⟨ib2, ix2, hie2, hib2, iu⟩ := lst_cell (HI5.out.below HWc.out) hIU.out
          cases hie2
          unfold encI at du
          unfold encB at iu
          cases bu
          · have HH : Hid (cntS (hitO Z D) (toS Z) R ((p : Int), q) = R) := Lib.hid (by rw [HSS.out, HHIT.out]; simp)
            clear hcond
            go_wp2
            go_roundw
            case rel => exact ⟨k + 1, by omega, by go_num, Lib.hid (by rw [HTK.out, HH.out]; exact HOc.out), HWc⟩
            case measure => simp [intOf]; omega
          · obtain ⟨hbv1, hle⟩ := hcond rfl
            subst hbv1
            clear hcond
            have z0 : wc.drew.cell? ⟨w.heap.size, 0, none⟩ = some (.int .i64 (N : Int)) := v0
            have z1 : wc.drew.cell? ⟨w.heap.size, 1, none⟩ = some (.bool b) := v1
            have z2 : wc.drew.cell? ⟨w.heap.size, 2, none⟩ = some (.slice ao Z.length cap) := v2
            have z3 : wc.drew.cell? ⟨lb, lx + k * 2, none⟩ = some (.int .i64 (p : Int)) := s0
            have z4 : wc.drew.cell? ⟨lb, lx + k * 2 + 1, none⟩ = some (.bool q) := s1
            have z5 : wc.drew.cell? ⟨db, dx + u, none⟩ = some (.int .i64 fu) := du
            have HRx : Hid (Row encA 4 wc.drew ao Z) := Lib.hid ((HR.out.below' HWc.out).below' (below_drew (Below.refl wc.heap.size wc)))
            have HWx : Hid (Below w5.heap.size w5 wc.drew) := Lib.hid (below_drew HWc.out)
            have HOx : Hid (OwnL encI wc.drew g 3 (.slice (some ⟨g, 0, none⟩) N N) R) := Lib.hid (OwnL.below HOc.out (below_drew (Below.refl wc.heap.size wc)))
            go_wp2_with fail
            go_cut [16] (fun p3 w8 => p3 = .int .i64 (fu + t) ∧ Hid (OwnL encI w8 g 3 (.slice (some ⟨g, 0, none⟩) N N) R) ∧ Hid (Below w5.heap.size w5 w8))
            case first =>
              go_region_held3 (fun W => W.cell? ⟨w.heap.size, 0, none⟩ = some (.int .i64 (N : Int)) ∧ W.cell? ⟨w.heap.size, 1, none⟩ = some (.bool b) ∧ W.cell? ⟨w.heap.size, 2, none⟩ = some (.slice ao Z.length cap) ∧ W.cell? ⟨lb, lx + k * 2, none⟩ = some (.int .i64 (p : Int)) ∧ W.cell? ⟨lb, lx + k * 2 + 1, none⟩ = some (.bool q) ∧ W.cell? ⟨db, dx + u, none⟩ = some (.int .i64 fu)) (first | exact ⟨v0, v1, v2, s0, s1, du⟩ | exact ⟨z0, z1, z2, z3, z4, z5⟩ | go_keep)
                (first | (go_at_call 21; refine (rtime_at (N : Int) b ao cap Z p q a _ HRx.out HA.out (by omega) HTA.out).mono ?_; rintro e w7 ⟨rfl, b6⟩; rw [HTT.out]; have z0 := cell_below b6 z0; have z1 := cell_below b6 z1; have z2 := cell_below b6 z2; have z3 := cell_below b6 z3; have z4 := cell_below b6 z4; have z5 := cell_below b6 z5; have HWx := Lib.hid (HWx.out.trans (b6.mono HWx.out.size)); have HOx := Lib.hid (OwnL.below HOx.out b6); clear b6))
              all_goals
                go_wp2
                go_meet
                exact ⟨by rw [HWU.out], HOx, HWx⟩
            case rest =>
              obtain ⟨rfl, HOd, HWd⟩ := hcut
              clear v0 v1 v2 s0 s1 z0 z1 z2 z3 z4 z5 HRx HWx HOx HOc HWc du iu
              obtain ⟨db3, dx3, hde3, hdb3, dv⟩ := lst_cell (HD5.out.below HWd.out) hDV.out
              cases hde3
              obtain ⟨ib3, ix3, hie3, hib3, iv⟩ := lst_cell (HI5.out.below HWd.out) hIV.out
              cases hie3
              obtain ⟨rc, rf⟩ := HOd.out.cell HRV.out
              unfold encI at dv rc
              unfold encB at iv
              have c4 : decide (fv > fu + t) = false := decide_eq_false (by omega)
              have c5 : decide (fu + t < fv) = false := decide_eq_false (by omega)
              by_cases hhv : fv = fu + t
              · have c6 : (fv == fu + t) = true := by simpa using hhv
                have c7 : decide (fv = fu + t) = true := by simpa using hhv
                have HH : Hid (cntS (hitO Z D) (toS Z) R ((p : Int), q) = R.set v (rv + 1)) := Lib.hid (by rw [HSS.out, HHIT.out, HRVV.out, if_pos (by simp [hhv])])
                clear hhv hle
                go_wp2
                go_roundw
                case rel => exact ⟨k + 1, by omega, by go_num, Lib.hid (by rw [HTK.out, HH.out]; exact OwnL.put HOd.out v (rv + 1)), Lib.hid (below_set HWd.out hgw _)⟩
                case measure => simp [intOf]; omega
              · have c6 : (fv == fu + t) = false := by simpa using hhv
                have c7 : decide (fv = fu + t) = false := by simpa using hhv
                have HH : Hid (cntS (hitO Z D) (toS Z) R ((p : Int), q) = R) := Lib.hid (by rw [HSS.out, HHIT.out, if_neg (by simp [hhv])])
                clear hhv hle
                go_wp2
                go_roundw
                case rel => exact ⟨k + 1, by omega, by go_num, Lib.hid (by rw [HTK.out, HH.out]; exact HOd.out), HWd⟩
                case measure => simp [intOf]; omega
      · have hli : ¬ (k : Int) < (M.length : Int) := by omega
        obtain rfl : k = M.length := by omega
        rw [List.take_length] at HO
        obtain ⟨wo, hwo⟩ : ∃ wo, wo = wr := ⟨_, rfl⟩
        subst hwo
        obtain ⟨hrl, hrb, hrp⟩ := HPR.out
        have HRP := Lib.hid hrp
        have HRL := Lib.hid hrl
        generalize cntL (hitO Z D) (toS Z) N M = R at *
        clear hrl hrb hrp
        go_wp2
        go_loopw [17] (fun iv wr => ∃ v : Nat, v ≤ N ∧ iv = .int .i64 (v : Int) ∧ Hid (Below wo.heap.size wo wr)) (fun iv _ => N - (intOf iv).toNat)
        case atStart => exact ⟨0, Nat.zero_le _, rfl, Lib.hid (Below.refl _ _)⟩
        case round =>
          obtain ⟨v, hv, rfl, HV⟩ := hrel
          have u0 := cell_below' HV.out v0 (block_lt_of_cell v0)
          by_cases hlt : v < N
          · have hvi : (v : Int) < (N : Int) := by omega
            have hpos := HRE.out v hlt
            obtain ⟨fv, hfv⟩ : ∃ fv, valO (getO D v) = fv := ⟨_, rfl⟩
            obtain ⟨bv, hxv⟩ : ∃ bv, (getO D v).isSome = bv := ⟨_, rfl⟩
            have hDv : (valsO D)[v]? = some fv := by rw [← hfv]; exact valsO_at (by rw [HDL.out]; exact hlt)
            have hIv : (isO D)[v]? = some bv := by rw [← hxv]; exact isO_at (by rw [HDL.out]; exact hlt)
            obtain ⟨rv, hrv⟩ : ∃ rv, atI R v = rv := ⟨_, rfl⟩
            have hRv : R[v]? = some rv := by rw [← hrv]; exact atI_get (by rw [HRL.out]; exact hlt)
            have hrpos : v ≠ i → bv = true → 0 < rv := fun h1 h2 => by
              obtain ⟨y, hy, hh, hto⟩ := hpos h1 (hxv.trans h2)
              have := HRP.out y hy hh
              rw [hto, hrv] at this
              exact this
            have hf0 : bv = false → fv = 0 := fun e => by
              rw [← hxv] at e
              rw [← hfv]
              cases hg : getO D v with
              | none => rfl
              | some x => rw [hg] at e; cases e
            obtain ⟨db2, dx2, hde2, hdb2, dv⟩ := lst_cell ((HD5.out.below HW.out).below HV.out) hDv
            cases hde2
            obtain ⟨ib2, ix2, hie2, hib2, iv⟩ := lst_cell ((HI5.out.below HW.out).below HV.out) hIv
            cases hie2
            obtain ⟨rc, rf⟩ := OwnL.cell (OwnL.below HO.out HV.out) hRv
            unfold encI at dv rc
            unfold encB at iv
            clear hpos hfv hxv hDv hIv hrv hRv
            cases bv
            · have hf := hf0 rfl
              subst hf
              clear hrpos hf0
              go_wp2
              go_roundw
              case rel => exact ⟨v + 1, by omega, by go_num, HV⟩
              case measure => simp [intOf]; omega
            · by_cases hvs : v = i
              · have c2 : ((v : Int) != (i : Int)) = false := by simp [hvs]
                have c3 : ((v : Int) == (i : Int)) = true := by simp [hvs]
                clear hrpos hf0 hvs
                go_wp2
                go_roundw
                case rel => exact ⟨v + 1, by omega, by go_num, HV⟩
                case measure => simp [intOf]; omega
              · have hr0 := hrpos hvs rfl
                have c2 : ((v : Int) != (i : Int)) = true := by simp; omega
                have c3 : ((v : Int) == (i : Int)) = false := by simp; omega
                have c6 : (rv == 0) = false := by simp; omega
                clear hrpos hf0 hvs
                go_wp2
                go_roundw
                case rel => exact ⟨v + 1, by omega, by go_num, HV⟩
                case measure => simp [intOf]; omega
          · have hvi : ¬ (v : Int) < (N : Int) := by omega
            go_wp2
            go_ret
            exact ⟨by simp, HB.out.trans ((HW.out.trans (HV.out.mono HW.out.size)).mono HB.out.size)⟩
  · have q1 : (e0 != 0) = true := by simpa using h0
    have q2 : (e0 == 0) = false := by simpa using h0
    have HLL : Hid (farO n Z F s = []) := Lib.hid (by unfold farO; rw [if_neg (by rw [he]; exact h0)])
    clear he h0
    go_enter Try.func6, Try.ntmps6
    go_wp2_with (first
      | (go_at_call 11; refine (oawake_any _).mono ?_; rintro e w3 ⟨rfl, hb3⟩; have hn1 := kept_box HN.out hb3; have HB := Lib.hid (HB.out.trans (hb3.mono HB.out.size)); have HR := Lib.hid (HR.out.below' hb3); have HF := Lib.hid (HF.out.below hb3); have x1 := cell_whole hn1 0; have y1 := cell_whole hn1 1; have z1 := cell_whole hn1 2; clear hb3 hn1 x0 y0 z0)
      | (go_at_call 9; refine (ofar_any n b ao fo cap fc Z F s _ HR.out HF.out HM.out HM2.out).mono ?_; rintro e w4 ⟨da, dc, ia, ic, rfl, hd5, hi5, hb5⟩; rw [HLL.out, HE.out]; have HB := Lib.hid (HB.out.trans (hb5.mono HB.out.size)); clear hd5 hi5 hb5 x1 y1 z1))
    go_ret
    exact ⟨by simp, HB.out⟩
end
end Go.Proofs.Ytfklkcnopngpgaa
