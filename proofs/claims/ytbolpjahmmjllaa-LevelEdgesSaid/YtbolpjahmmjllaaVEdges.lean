/- LevelEdges: no step with room leads further than one level; each node but the first is come to by one that does just that. -/
import Derived.Test.YtbolpjahmmjllaaVWays
import Derived.BigQuiet
import Derived.Deep.QuietTactic
namespace Go.Proofs.Ytbolpjahmmjllaa
open Go.RowKit
set_option linter.unusedVariables false

/-- Does a step lead just one level further? -/
def hitB (Z : List ArcT) (D : List Int) (y : StepT) : Bool := decide (0 ≤ atI D (fromS Z y)) && decide (atI D (toS Z y) = atI D (fromS Z y) + 1)
def reachS (Z : List ArcT) (D R : List Int) (y : StepT) : List Int := if hitB Z D y then R.set (toS Z y) (atI R (toS Z y) + 1) else R
def reachL (Z : List ArcT) (D : List Int) (N : Nat) (M : List StepT) : List Int := M.foldl (reachS Z D) (List.replicate N 0)
theorem atI_setV {R : List Int} {u v : Nat} {x : Int} (hu : u < R.length) : atI (R.set u x) v = if u = v then x else atI R v := by
  unfold atI
  rw [List.getD_eq_getElem?_getD, List.getElem?_set, List.getD_eq_getElem?_getD]
  by_cases h : u = v
  · subst h; simp [hu]
  · simp [h]
theorem reachS_props {Z : List ArcT} {D R : List Int} {N : Nat} {c : Int} {y : StepT} (hl : R.length = N) (ht : toS Z y < N) (hb : ∀ v, 0 ≤ atI R v ∧ atI R v ≤ c) :
    (reachS Z D R y).length = N ∧ (∀ v, 0 ≤ atI (reachS Z D R y) v ∧ atI (reachS Z D R y) v ≤ c + 1) ∧ (∀ v, atI R v ≤ atI (reachS Z D R y) v) ∧ (hitB Z D y = true → 0 < atI (reachS Z D R y) (toS Z y)) := by
  unfold reachS
  cases hh : hitB Z D y with
  | true =>
    rw [if_pos rfl]
    refine ⟨by rw [List.length_set]; exact hl, fun v => ?_, fun v => ?_, fun _ => ?_⟩
    · rw [atI_setV (by rw [hl]; exact ht)]
      have h1 := hb v
      have h2 := hb (toS Z y)
      split <;> omega
    · rw [atI_setV (by rw [hl]; exact ht)]
      split
      · next e => rw [e]; omega
      · omega
    · rw [atI_setV (by rw [hl]; exact ht), if_pos rfl]
      have := hb (toS Z y)
      omega
  | false =>
    rw [if_neg (by simp)]
    exact ⟨hl, fun v => by have := hb v; omega, fun v => by omega, fun h => by cases h⟩
theorem reach_fold {Z : List ArcT} {D : List Int} {N : Nat} : ∀ (M : List StepT) (R : List Int) (c : Int), R.length = N → (∀ y ∈ M, toS Z y < N) → (∀ v, 0 ≤ atI R v ∧ atI R v ≤ c) →
    (M.foldl (reachS Z D) R).length = N ∧ (∀ v, 0 ≤ atI (M.foldl (reachS Z D) R) v ∧ atI (M.foldl (reachS Z D) R) v ≤ c + M.length) ∧ (∀ v, atI R v ≤ atI (M.foldl (reachS Z D) R) v) ∧ (∀ y ∈ M, hitB Z D y = true → 0 < atI (M.foldl (reachS Z D) R) (toS Z y))
  | [], R, c, hl, _, hb => ⟨hl, fun v => by have := hb v; simp; omega, fun v => Int.le_refl _, fun y hy => by cases hy⟩
  | y :: M, R, c, hl, ht, hb => by
    obtain ⟨p1, p2, p3, p4⟩ := reachS_props (D := D) hl (ht y (by simp)) hb
    obtain ⟨i1, i2, i3, i4⟩ := reach_fold M (reachS Z D R y) (c + 1) p1 (fun z hz => ht z (by simp [hz])) p2
    refine ⟨i1, fun v => ?_, fun v => Int.le_trans (p3 v) (i3 v), fun z hz hh => ?_⟩
    · have := i2 v
      simp only [List.foldl_cons, List.length_cons]
      omega
    · rcases List.mem_cons.1 hz with rfl | hz
      · have h1 := p4 hh
        have h2 := i3 (toS Z z)
        simp only [List.foldl_cons]
        omega
      · exact i4 z hz hh
theorem reach_props {Z : List ArcT} {D : List Int} {N : Nat} {M : List StepT} (ht : ∀ y ∈ M, toS Z y < N) :
    (reachL Z D N M).length = N ∧ (∀ v, 0 ≤ atI (reachL Z D N M) v ∧ atI (reachL Z D N M) v ≤ M.length) ∧ (∀ y ∈ M, hitB Z D y = true → 0 < atI (reachL Z D N M) (toS Z y)) := by
  obtain ⟨h1, h2, _, h4⟩ := reach_fold (D := D) M (List.replicate N 0) 0 (by simp) ht (fun v => by
    unfold atI
    rw [List.getD_eq_getElem?_getD, List.getElem?_replicate]
    split <;> simp)
  exact ⟨h1, fun v => by have := h2 v; unfold reachL; omega, h4⟩
theorem reach_take {Z : List ArcT} {D : List Int} {N : Nat} {M : List StepT} {k : Nat} (hk : k < M.length) : reachL Z D N (M.take (k + 1)) = reachS Z D (reachL Z D N (M.take k)) M[k] := by
  unfold reachL
  rw [List.take_succ_eq_append_getElem hk, List.foldl_append]
  rfl
/-- What LevelEdges says, in plain lists. -/
theorem edges_plain {n : Int} {Z : List ArcT} {F : List Int} {s : Int} (h : levE n Z F s = 0) :
    ∃ N i : Nat, n = (N : Int) ∧ s = (i : Int) ∧ i < N ∧ N ≤ 50 ∧ flowE n Z F = 0 ∧ (levL n Z F s).length = N ∧ (levL n Z F s)[i]? = some 0 ∧ (∀ v, v < N → -1 ≤ atI (levL n Z F s) v ∧ atI (levL n Z F s) v < 50 ∧ (v ≠ i → atI (levL n Z F s) v ≠ 0)) ∧
      (∀ y ∈ stepsK Z F Z.length, fromS Z y < N ∧ toS Z y < N ∧ (0 ≤ atI (levL n Z F s) (fromS Z y) → 0 ≤ atI (levL n Z F s) (toS Z y) ∧ atI (levL n Z F s) (toS Z y) ≤ atI (levL n Z F s) (fromS Z y) + 1)) ∧
      (∀ v, v < N → 0 < atI (levL n Z F s) v → ∃ y ∈ stepsK Z F Z.length, hitB Z (levL n Z F s) y = true ∧ toS Z y = v) := by
  obtain ⟨hf, _, i, rfl, hi⟩ := levE_ok h
  obtain ⟨_, _, _, _, hn1, hn2⟩ := flow_facts (b := false) hf
  obtain ⟨N, rfl⟩ : ∃ N : Nat, n = (N : Int) := ⟨n.toNat, by omega⟩
  rw [Int.toNat_natCast] at hi
  have hT := flow_to hf
  rw [Int.toNat_natCast] at hT
  have hll : levL (N : Int) Z F (i : Int) = farsL (seekK (fromS Z) (toS Z) (stepsK Z F Z.length) i N) N := by
    unfold levL seekF
    rw [if_pos h, Int.toNat_natCast, Int.toNat_natCast]
  have hsk := seek_full (fr := fromS Z) (l := stepsK Z F Z.length) hi hT
  have hxl := seek_len hsk hi hT
  rw [hll]
  generalize seekK (fromS Z) (toS Z) (stepsK Z F Z.length) i N = X at *
  have hne : X ≠ [] := fun e => by have := hsk.hd; rw [e] at this; simp at this
  have hA := (flow_arcs hf).2
  rw [Int.toNat_natCast] at hA
  refine ⟨N, i, rfl, rfl, hi, by omega, hf, farsL_len _ _, by rw [farsL_get hi, farX_zero hsk], fun v hv => ?_, fun y hy => ?_, fun v hv h0 => ?_⟩
  · rw [farsL_at X hv]
    have hb := (farX_bd hsk hxl v).resolve_right hne
    refine ⟨hb.1, by omega, fun hvi e => ?_⟩
    have hm : v ∈ keysX X := (far_mem hsk).2 (by omega)
    obtain ⟨b, q, hq, hqv⟩ := keysX_mem.1 hm
    have h1 := farX_some hsk hq
    rw [hqv, e] at h1
    by_cases hb0 : b = 0
    · subst hb0
      rw [hsk.hd] at hq
      cases hq
      exact hvi hqv.symm
    · rw [pathX_succ hsk hq (by omega), List.length_append] at h1
      simp at h1
      omega
  · obtain ⟨p, a, q, ha, e⟩ := stepsK_arc hy
    have hfy : fromS Z y < N := by rw [e]; exact (hA p a q ha).2
    have hty := hT y hy
    rw [farsL_at X hfy, farsL_at X hty]
    refine ⟨hfy, hty, fun h0 => ?_⟩
    have hm : fromS Z y ∈ keysX X := (far_mem hsk).2 (by omega)
    obtain ⟨b, r, hr, hrv⟩ := keysX_mem.1 hm
    obtain ⟨b2, r2, g1, g2, g3⟩ := path_least hsk [y] b r (toS Z y) hr (fun z hz => by rw [List.mem_singleton] at hz; subst hz; exact hy) ⟨hrv.symm, rfl⟩
    have h1 := farX_some hsk hr
    have h2 := farX_some hsk g1
    rw [hrv] at h1
    rw [g2] at h2
    simp only [List.length_singleton] at g3
    omega
  · rw [farsL_at X hv] at h0
    have hm : v ∈ keysX X := (far_mem hsk).2 (by omega)
    obtain ⟨b, q, hq, hqv⟩ := keysX_mem.1 hm
    have h1 := farX_some hsk hq
    have hb0 : 0 < b := by
      refine Classical.byContradiction fun hc => ?_
      obtain rfl : b = 0 := by omega
      rw [pathX_zero, hqv] at h1
      simp at h1
      omega
    obtain ⟨g1, g2, g3, g4, r, g5, g6⟩ := hsk.par b q hq hb0
    have h2 := farX_some hsk g5
    rw [g6] at h2
    rw [pathX_succ hsk hq hb0, List.length_append, hqv] at h1
    simp only [List.length_singleton] at h1
    obtain ⟨p, a, dir, ha, e⟩ := stepsK_arc g1
    have hfy : fromS Z q.2.1 < N := by rw [e]; exact (hA p a dir ha).2
    refine ⟨q.2.1, g1, ?_, by rw [g2, hqv]⟩
    unfold hitB
    rw [farsL_at X hfy, farsL_at X (hT _ g1), g2, hqv, Bool.and_eq_true, decide_eq_true_eq, decide_eq_true_eq]
    omega
section
variable (n : Int) (b : Bool) (ao fo : Option Addr) (len cap fl fc : Nat) (Z : List ArcT) (F : List Int)
set_option maxRecDepth 100000 in
set_option maxHeartbeats 8000000 in
theorem edges_law (s : Int) (w : World) (hl : Z.length = len) (hm : len ≤ maxLen) (hr : Row encA 4 w ao Z) (hl2 : F.length = fl) (hm2 : fl ≤ maxLen) (hf : Lst encI w fo F) :
    Calls Try.prog 6 #[.agg #[.int .i64 n, .bool b, .slice ao len cap], .slice fo fl fc, .int .i64 s] w fun e w' => e = .returned (.bool true) ∧ Below w.heap.size w w' := by
  subst hl
  subst hl2
  have hb00 := (Below.refl _ w).alloc (Nat.le_refl _) (.cells #[.int .i64 n, .bool b, .slice ao Z.length cap] 24)
  have HB := Lib.hid hb00
  have hn0 := heap_alloc_new w (.cells #[.int .i64 n, .bool b, .slice ao Z.length cap] 24)
  have HN := Lib.hid hn0
  have HR := Lib.hid (hr.below' hb00)
  have HF := Lib.hid (hf.below hb00)
  have HM := Lib.hid hm
  have HM2 := Lib.hid hm2
  obtain ⟨e0, he⟩ : ∃ e0, levE n Z F s = e0 := ⟨_, rfl⟩
  have HE := Lib.hid he
  have x0 := cell_whole hn0 0
  have y0 := cell_whole hn0 1
  have z0 := cell_whole hn0 2
  clear hr hf hm hm2 hb00 hn0
  by_cases h0 : e0 = 0
  · subst h0
    obtain ⟨N, i, hnN, hsi, hi, hN, hfe, hlen, hDi, hDb, hst, hre⟩ := edges_plain he
    obtain ⟨D, hD⟩ : ∃ D, levL n Z F s = D := ⟨_, rfl⟩
    have HDD := Lib.hid hD
    rw [hD] at hlen hDi hDb hst hre
    subst hnN
    subst hsi
    have hii : (i : Int) < (N : Int) := by omega
    have hid : (i : Int) < (D.length : Int) := by omega
    have HDN : Hid (D.length = N) := Lib.hid hlen
    have hq1 : ((D.length : Int) != (N : Int)) = false := by simp; omega
    have hq2 : ((D.length : Int) == (N : Int)) = true := by simp; omega
    obtain ⟨hR, hFl, hz2, hfz, _, _⟩ := flow_facts (b := b) hfe
    have hsl := stepsK_len Z F Z.length
    have hpr := reach_props (D := D) (N := N) (M := stepsK Z F Z.length) (fun y hy => (hst y hy).2.1)
    have HFZ := Lib.hid hfz
    obtain ⟨M, hM⟩ : ∃ M, stepsK Z F Z.length = M := ⟨_, rfl⟩
    have HMM := Lib.hid hM
    have harcs : ∀ y ∈ M, ∃ (p : Nat) (a : ArcT) (q : Bool), Z[p]? = some a ∧ y = ((p : Int), q) ∧ begI a q = (fromS Z y : Int) ∧ endI a q = (toS Z y : Int) := by
      intro y hy
      rw [← hM] at hy
      obtain ⟨p, a, q, ha, e⟩ := stepsK_arc hy
      obtain ⟨h1, h2⟩ := begI_fromE ha ⟨(right_arc hR (List.mem_of_getElem? ha)).1, (right_arc hR (List.mem_of_getElem? ha)).2.1⟩ q
      exact ⟨p, a, q, ha, e, by rw [e]; exact h1, by rw [e]; exact h2⟩
    rw [hM] at hst hre hsl hpr
    have HARC := Lib.hid harcs
    have HST := Lib.hid hst
    have HRE := Lib.hid hre
    have HDB := Lib.hid hDb
    have HPR := Lib.hid hpr
    have HDI := Lib.hid hDi
    have hDii : atI D i = 0 := by unfold atI; rw [List.getD_eq_getElem?_getD, hDi]; rfl
    have HDII := Lib.hid hDii
    clear he hlen hDi hDb hst hre hD hM harcs hR hFl hfz hpr hDii hfe
    go_enter Try.func6, Try.ntmps6
    go_wp2_with (first
      | (go_at_call 10; refine (vawake_any _).mono ?_; rintro e w3 ⟨rfl, hb3⟩; have hn1 := kept_box HN.out hb3; have HN := Lib.hid hn1; have HB := Lib.hid (HB.out.trans (hb3.mono HB.out.size)); have HR := Lib.hid (HR.out.below' hb3); have HF := Lib.hid (HF.out.below hb3); have x1 := cell_whole hn1 0; have y1 := cell_whole hn1 1; have z1 := cell_whole hn1 2; clear hb3 hn1 x0 y0 z0)
      | (go_at_call 8; refine (levels_any (N : Int) b ao fo cap fc Z F (i : Int) _ HR.out HF.out HM.out HM2.out).mono ?_; rintro e w4 ⟨da, dc, rfl, hd5, hb5⟩; rw [HDD.out] at hd5 ⊢; rw [HE.out]; have hn1 := kept_box HN.out hb5; have HN := Lib.hid hn1; have HR := Lib.hid (HR.out.below' hb5); have HF := Lib.hid (HF.out.below hb5); have HB := Lib.hid (HB.out.trans (hb5.mono HB.out.size)); obtain ⟨db, dx, hde, hdb, dj⟩ := lst_cell hd5 HDI.out; unfold encI at dj; subst hde; have HD5 := Lib.hid hd5; have x2 := cell_whole hn1 0; have y2 := cell_whole hn1 1; have z2 := cell_whole hn1 2; clear hn1 hb5 hd5 x1 y1 z1)
      | (go_at_call 18; refine (rsteps_any (N : Int) b ao fo cap fc Z F _ HR.out HF.out HFZ.out (by omega)).mono ?_; rw [HMM.out]; rintro e w5 ⟨ma, mc, rfl, hm5, hb5⟩; have hn1 := kept_box HN.out hb5; have HN := Lib.hid hn1; have HR := Lib.hid (HR.out.below' hb5); have HB := Lib.hid (HB.out.trans (hb5.mono HB.out.size)); have HD5 := Lib.hid (HD5.out.below hb5); have HM5 := Lib.hid hm5; have x3 := cell_whole hn1 0; have y3 := cell_whole hn1 1; have z3 := cell_whole hn1 2; clear hn1 hb5 hm5 x2 y2 z2 dj)
      | (at_make; refine wpList_make_L (enc := encI) 0 Try.underlying25 infoInt rfl (by omega) rfl _ _ rfl N rfl rfl (by omega) ?_; intro w6 ho6 hb6; have HO6 := Lib.hid ho6; have HB6 := Lib.hid hb6; clear ho6 hb6))
    obtain ⟨g, hg⟩ : ∃ g, w5.heap.size = g := ⟨_, rfl⟩
    rw [hg] at HO6 ⊢
    have hgw : w5.heap.size ≤ g := by omega
    go_loopw [12] (fun iv wr => ∃ k : Nat, k ≤ M.length ∧ iv = .int .i64 (k : Int) ∧ Hid (OwnL encI wr g 3 (.slice (some ⟨g, 0, none⟩) N N) (reachL Z D N (M.take k))) ∧ Hid (Below w5.heap.size w5 wr)) (fun iv _ => M.length - (intOf iv).toNat)
    case atStart => exact ⟨0, Nat.zero_le _, rfl, Lib.hid (by rw [List.take_zero]; exact HO6.out), HB6⟩
    case round =>
      clear HO6 HB6
      obtain ⟨k, hk, rfl, HO, HW⟩ := hrel
      have v0 := cell_below' HW.out x3 (block_lt_of_cell x3)
      have v1 := cell_below' HW.out y3 (block_lt_of_cell y3)
      have v2 := cell_below' HW.out z3 (block_lt_of_cell z3)
      by_cases hlt : k < M.length
      · have hli : (k : Int) < (M.length : Int) := by omega
        obtain ⟨lb, lx, e, hlb, s0, s1⟩ := step_at (HM5.out.below' HW.out) (List.getElem?_eq_getElem hlt)
        cases e
        have hmem : M[k] ∈ M := List.getElem_mem hlt
        have HTK := Lib.hid (reach_take (Z := Z) (D := D) (N := N) hlt)
        have hpk := reach_props (D := D) (N := N) (M := M.take k) (fun y hy => (HST.out y (List.mem_of_mem_take hy)).2.1)
        obtain ⟨hfN, htN, hcond⟩ := HST.out _ hmem
        obtain ⟨p, a, q, ha, hy, hB, hE⟩ := HARC.out _ hmem
        generalize M[k] = y at *
        generalize reachL Z D N (M.take k) = R at *
        have hRl := hpk.1
        have hRb := hpk.2.1 (toS Z y)
        have hkl : ((M.take k).length : Int) ≤ 400 := by rw [List.length_take]; omega
        obtain ⟨u, hu⟩ : ∃ u, fromS Z y = u := ⟨_, rfl⟩
        obtain ⟨v, hv⟩ : ∃ v, toS Z y = v := ⟨_, rfl⟩
        have hhit : hitB Z D y = (decide (0 ≤ atI D u) && decide (atI D v = atI D u + 1)) := by unfold hitB; rw [hu, hv]
        have hsS : reachS Z D R y = if hitB Z D y then R.set v (atI R v + 1) else R := by unfold reachS; rw [hv]
        rw [hu] at hfN hcond hB
        rw [hv] at htN hcond hE hRb
        have hbu := HDB.out u hfN
        have hbv := HDB.out v htN
        obtain ⟨fu, hfu⟩ : ∃ fu, atI D u = fu := ⟨_, rfl⟩
        obtain ⟨fv, hfv⟩ : ∃ fv, atI D v = fv := ⟨_, rfl⟩
        have hDu : D[u]? = some fu := by rw [← hfu]; exact atI_get (by rw [HDN.out]; exact hfN)
        have hDv : D[v]? = some fv := by rw [← hfv]; exact atI_get (by rw [HDN.out]; exact htN)
        rw [hfu] at hbu hcond hhit
        rw [hfv] at hbv hcond hhit
        have HHIT := Lib.hid hhit
        have HSS := Lib.hid hsS
        have HBB := Lib.hid hB
        have HEE := Lib.hid hE
        have HA := Lib.hid ha
        have hDU := Lib.hid hDu
        have hDV := Lib.hid hDv
        have hui : (u : Int) < (D.length : Int) := by rw [HDN.out]; omega
        have hvi : (v : Int) < (D.length : Int) := by rw [HDN.out]; omega
        have hvN : (v : Int) < (N : Int) := by omega
        obtain ⟨rv, hrv⟩ : ∃ rv, atI R v = rv := ⟨_, rfl⟩
        have hRv : R[v]? = some rv := by rw [← hrv]; exact atI_get (by rw [hRl]; exact htN)
        have HRV := Lib.hid hRv
        have HRVV := Lib.hid hrv
        rw [hrv] at hRb
        have hb1 := hbu.1
        have hb2 := hbu.2.1
        have hb3 := hbv.1
        have hb4 := hbv.2.1
        have hr1 := hRb.1
        have hr2 : rv ≤ 400 := by omega
        have hwu : IntKind.i64.wrap (fu + 1) = fu + 1 := IntWalk.i64_in _ (by omega)
        clear hpk hmem hhit hsS hB hE ha hDu hDv hfu hfv hu hv hRv hrv hRb hbu hbv hRl hkl
        subst hy
        simp only at s0 s1
        have z0 : wr.drew.cell? ⟨w.heap.size, 0, none⟩ = some (.int .i64 (N : Int)) := v0
        have z1 : wr.drew.cell? ⟨w.heap.size, 1, none⟩ = some (.bool b) := v1
        have z2 : wr.drew.cell? ⟨w.heap.size, 2, none⟩ = some (.slice ao Z.length cap) := v2
        have z3 : wr.drew.cell? ⟨lb, lx + k * 2, none⟩ = some (.int .i64 (p : Int)) := s0
        have z4 : wr.drew.cell? ⟨lb, lx + k * 2 + 1, none⟩ = some (.bool q) := s1
        have HRx : Hid (Row encA 4 wr.drew ao Z) := Lib.hid ((HR.out.below' HW.out).below' (below_drew (Below.refl wr.heap.size wr)))
        have HWx : Hid (Below w5.heap.size w5 wr.drew) := Lib.hid (below_drew HW.out)
        have HOx : Hid (OwnL encI wr.drew g 3 (.slice (some ⟨g, 0, none⟩) N N) R) := Lib.hid (OwnL.below HO.out (below_drew (Below.refl wr.heap.size wr)))
        go_wp2_with fail
        go_region_held3 (fun W => W.cell? ⟨w.heap.size, 0, none⟩ = some (.int .i64 (N : Int)) ∧ W.cell? ⟨w.heap.size, 1, none⟩ = some (.bool b) ∧ W.cell? ⟨w.heap.size, 2, none⟩ = some (.slice ao Z.length cap) ∧ W.cell? ⟨lb, lx + k * 2, none⟩ = some (.int .i64 (p : Int)) ∧ W.cell? ⟨lb, lx + k * 2 + 1, none⟩ = some (.bool q)) (first | exact ⟨v0, v1, v2, s0, s1⟩ | exact ⟨z0, z1, z2, z3, z4⟩ | go_keep)
          (first
            | (go_at_call 16; refine (rfrom_at (N : Int) b ao cap Z p q a _ HRx.out HA.out (by omega)).mono ?_; rintro e w7 ⟨rfl, b6⟩; rw [HBB.out]; have z0 := cell_below b6 z0; have z1 := cell_below b6 z1; have z2 := cell_below b6 z2; have z3 := cell_below b6 z3; have z4 := cell_below b6 z4; have HRx := Lib.hid (HRx.out.below' b6); have HWx := Lib.hid (HWx.out.trans (b6.mono HWx.out.size)); have HOx := Lib.hid (OwnL.below HOx.out b6); clear b6)
            | (go_at_call 17; refine (rto_at (N : Int) b ao cap Z p q a _ HRx.out HA.out (by omega)).mono ?_; rintro e w7 ⟨rfl, b6⟩; rw [HEE.out]; have z0 := cell_below b6 z0; have z1 := cell_below b6 z1; have z2 := cell_below b6 z2; have z3 := cell_below b6 z3; have z4 := cell_below b6 z4; have HRx := Lib.hid (HRx.out.below' b6); have HWx := Lib.hid (HWx.out.trans (b6.mono HWx.out.size)); have HOx := Lib.hid (OwnL.below HOx.out b6); clear b6))
        all_goals
          obtain ⟨db2, dx2, hde2, hdb2, du⟩ := lst_cell (HD5.out.below HWx.out) hDU.out
          cases hde2
          obtain ⟨db2, dx2, hde2, hdb2, dv⟩ := lst_cell (HD5.out.below HWx.out) hDV.out
          cases hde2
          obtain ⟨rc, rf⟩ := HOx.out.cell HRV.out
          unfold encI at du dv rc
          clear z0 z1 z2 z3 z4 v0 v1 v2 s0 s1
          by_cases hu0 : 0 ≤ fu
          · obtain ⟨hv0, hvu⟩ := hcond hu0
            have c1 : decide (0 ≤ fu) = true := decide_eq_true hu0
            have c2 : decide (fu ≥ 0) = true := decide_eq_true hu0
            have c3 : decide (fv < 0) = false := decide_eq_false (by omega)
            have c4 : decide (fu + 1 < fv) = false := decide_eq_false (by omega)
            have c5 : decide (fv > fu + 1) = false := decide_eq_false (by omega)
            by_cases hhv : fv = fu + 1
            · have c6 : (fv == fu + 1) = true := by simpa using hhv
              have HH : Hid (reachS Z D R ((p : Int), q) = R.set v (rv + 1)) := Lib.hid (by rw [HSS.out, HHIT.out, HRVV.out, if_pos (by simp [hu0, hhv])])
              have c7 : decide (fv = fu + 1) = true := by simpa using hhv
              clear hhv hcond
              go_wp2
              go_quiet (fail)
              go_wp2
              go_quiet (fail)
              go_wp2
              go_roundw
              case rel => exact ⟨k + 1, by omega, by go_num, Lib.hid (by rw [HTK.out, HH.out]; exact OwnL.put (OwnL.below HOx.out (below_drewN (Below.refl _ _) _)) v (rv + 1)), Lib.hid (below_set (below_drewN HWx.out _) hgw _)⟩
              case measure => simp [intOf]; omega
            · have c6 : (fv == fu + 1) = false := by simpa using hhv
              have HH : Hid (reachS Z D R ((p : Int), q) = R) := Lib.hid (by rw [HSS.out, HHIT.out, if_neg (by simp [hhv])])
              have c7 : decide (fv = fu + 1) = false := by simpa using hhv
              clear hhv hcond
              go_wp2
              go_quiet (fail)
              go_wp2
              go_quiet (fail)
              go_wp2
              go_roundw
              case rel => exact ⟨k + 1, by omega, by go_num, Lib.hid (by rw [HTK.out, HH.out]; exact OwnL.below HOx.out (below_drewN (Below.refl _ _) _)), Lib.hid (below_drewN HWx.out _)⟩
              case measure => simp [intOf]; omega
          · have c1 : decide (0 ≤ fu) = false := decide_eq_false hu0
            have c2 : decide (fu ≥ 0) = false := decide_eq_false hu0
            have HH : Hid (reachS Z D R ((p : Int), q) = R) := Lib.hid (by rw [HSS.out, HHIT.out, if_neg (by simp [hu0])])
            clear hcond
            go_wp2
            go_quiet (fail)
            go_wp2
            go_quiet (fail)
            go_wp2
            go_roundw
            case rel => exact ⟨k + 1, by omega, by go_num, Lib.hid (by rw [HTK.out, HH.out]; exact OwnL.below HOx.out (below_drewN (Below.refl _ _) _)), Lib.hid (below_drewN HWx.out _)⟩
            case measure => simp [intOf]; omega
      · have hli : ¬ (k : Int) < (M.length : Int) := by omega
        obtain rfl : k = M.length := by omega
        rw [List.take_length] at HO
        have hn1 := kept_box HN.out HW.out
        obtain ⟨wo, hwo⟩ : ∃ wo, wo = wr := ⟨_, rfl⟩
        subst hwo
        obtain ⟨hrl, hrb, hrp⟩ := HPR.out
        have HRP := Lib.hid hrp
        have HRB := Lib.hid hrb
        have HRL := Lib.hid hrl
        generalize reachL Z D N M = R at *
        clear hrl hrb hrp hn1
        go_wp2
        go_loopw [15] (fun iv wr => ∃ v : Nat, v ≤ N ∧ iv = .int .i64 (v : Int) ∧ Hid (Below wo.heap.size wo wr)) (fun iv _ => N - (intOf iv).toNat)
        case atStart => exact ⟨0, Nat.zero_le _, rfl, Lib.hid (Below.refl _ _)⟩
        case round =>
          obtain ⟨v, hv, rfl, HV⟩ := hrel
          have u0 := cell_below' HV.out v0 (block_lt_of_cell v0)
          by_cases hlt : v < N
          · have hvi : (v : Int) < (N : Int) := by omega
            have hvd : (v : Int) < (D.length : Int) := by rw [HDN.out]; omega
            obtain ⟨hb1, hb2, hb3⟩ := HDB.out v hlt
            have hpos := HRE.out v hlt
            obtain ⟨fv, hfv⟩ : ∃ fv, atI D v = fv := ⟨_, rfl⟩
            have hDv : D[v]? = some fv := by rw [← hfv]; exact atI_get (by rw [HDN.out]; exact hlt)
            obtain ⟨rv, hrv⟩ : ∃ rv, atI R v = rv := ⟨_, rfl⟩
            have hRv : R[v]? = some rv := by rw [← hrv]; exact atI_get (by rw [HRL.out]; exact hlt)
            have hrpos : 0 < fv → 0 < rv := fun h => by
              obtain ⟨y, hy, hh, hto⟩ := hpos (by rw [hfv]; exact h)
              have := HRP.out y hy hh
              rw [hto, hrv] at this
              exact this
            have hsi : v = i → fv = 0 := fun e => by subst e; rw [← hfv]; exact HDII.out
            rw [hfv] at hb1 hb2 hb3
            obtain ⟨db2, dx2, hde2, hdb2, dv⟩ := lst_cell ((HD5.out.below HW.out).below HV.out) hDv
            cases hde2
            obtain ⟨rc, rf⟩ := OwnL.cell (OwnL.below HO.out HV.out) hRv
            unfold encI at dv rc
            have c1 : decide (fv < -1) = false := decide_eq_false (by omega)
            clear hpos hfv hDv hrv hRv
            by_cases hvs : v = i
            · have hf0 := hsi hvs
              subst hf0
              have c2 : ((v : Int) != (i : Int)) = false := by simp [hvs]
              have c3 : ((v : Int) == (i : Int)) = true := by simp [hvs]
              clear hb3 hsi hrpos hvs
              go_wp2
              go_roundw
              case rel => exact ⟨v + 1, by omega, by go_num, HV⟩
              case measure => simp [intOf]; omega
            · have hne := hb3 hvs
              have c2 : ((v : Int) != (i : Int)) = true := by simp; omega
              have c3 : ((v : Int) == (i : Int)) = false := by simp; omega
              have c4 : (fv == 0) = false := by simpa using hne
              clear hb3 hsi hvs
              by_cases hf0 : 0 < fv
              · have hr0 := hrpos hf0
                have c5 : decide (0 < fv) = true := decide_eq_true hf0
                have c6 : (rv == 0) = false := by simp; omega
                clear hrpos
                go_wp2
                go_roundw
                case rel => exact ⟨v + 1, by omega, by go_num, HV⟩
                case measure => simp [intOf]; omega
              · have c5 : decide (0 < fv) = false := decide_eq_false hf0
                clear hrpos
                go_wp2
                go_roundw
                case rel => exact ⟨v + 1, by omega, by go_num, HV⟩
                case measure => simp [intOf]; omega
          · have hvi : ¬ (v : Int) < (N : Int) := by omega
            go_wp2
            go_ret
            exact ⟨by simp, HB.out.trans ((HW.out.trans (HV.out.mono HW.out.size)).mono HB.out.size)⟩
  · have q1 : (e0 != 0) = true := by simpa using h0
    have q2 : (e0 == 0) = false := by simpa using h0
    have HLL : Hid (levL n Z F s = []) := Lib.hid (levL_no (by rw [he]; exact h0))
    clear he h0
    go_enter Try.func6, Try.ntmps6
    go_wp2_with (first
      | (go_at_call 10; refine (vawake_any _).mono ?_; rintro e w3 ⟨rfl, hb3⟩; have hn1 := kept_box HN.out hb3; have HB := Lib.hid (HB.out.trans (hb3.mono HB.out.size)); have HR := Lib.hid (HR.out.below' hb3); have HF := Lib.hid (HF.out.below hb3); have x1 := cell_whole hn1 0; have y1 := cell_whole hn1 1; have z1 := cell_whole hn1 2; clear hb3 hn1 x0 y0 z0)
      | (go_at_call 8; refine (levels_any n b ao fo cap fc Z F s _ HR.out HF.out HM.out HM2.out).mono ?_; rintro e w4 ⟨da, dc, rfl, hd5, hb5⟩; rw [HLL.out, HE.out]; have HB := Lib.hid (HB.out.trans (hb5.mono HB.out.size)); clear hd5 hb5 x1 y1 z1))
    go_ret
    exact ⟨by simp, HB.out⟩
end
end Go.Proofs.Ytbolpjahmmjllaa
