/- AdjSteps: no arc leads further than one hop, nor saves time; each node but the first is come to by one that does just that. -/
import Derived.Test.YtfnafdjcncgcnaaALaws
import Derived.Deep.DeepCutAuto
import Derived.Deep.Cut
import Derived.Deep.CutRange
namespace Go.Proofs.Ytfnafdjcncgcnaa
open Go.RowKit
set_option linter.unusedVariables false

theorem cost_le {c : ArcT → Int} {M : Int} {p : List ArcT} (h : ∀ a ∈ p, c a ≤ M) : costP c p ≤ p.length * M := by
  induction p with
  | nil => simp [costP]
  | cons a r ih =>
    have h1 := ih (fun x hx => h x (by simp [hx]))
    have h2 := h a (by simp)
    simp only [costP, List.map_cons, List.sum_cons, List.length_cons] at h1 ⊢
    rw [Int.natCast_add, Int.add_mul]
    simp
    omega
theorem isDist_bd {Z : List ArcT} {c : ArcT → Int} {s N : Nat} {d : List Int} {M : Int} (h : IsDist Z c s N d) (hs : s < N) (hZ : ∀ a ∈ Z, toN a < N) (hM : 0 ≤ M) (hc : ∀ a ∈ Z, 0 ≤ c a ∧ c a ≤ M) {v : Nat} (hv : v < N) : -1 ≤ atI d v ∧ atI d v ≤ N * M := by
  have h0 : 0 ≤ (N : Int) * M := Int.mul_nonneg (by omega) hM
  rcases h.at_ v hv with ⟨h1, _⟩ | ⟨h1, ⟨p, p1, p2, p3⟩, h3⟩
  · omega
  · refine ⟨by omega, ?_⟩
    obtain ⟨q, q1, q2, q3, q4⟩ := short hs hZ (fun a ha => (hc a ha).1) p.length p (Nat.le_refl _) p1 p2
    have h4 := h3 _ ⟨q, q2, q3, rfl⟩
    have h5 := cost_le (c := c) (M := M) (fun a ha => (hc a (q2 a ha)).2)
    have h6 : (q.length : Int) * M ≤ (N : Int) * M := Int.mul_le_mul_of_nonneg_right (by omega) hM
    omega
theorem lst_some {w : World} {b o : Nat} {A : List Int} (h : Lst encI w (some ⟨b, o, none⟩) A) {x : Nat} (hx : x < A.length) : b < w.heap.size ∧ w.cell? ⟨b, o + x, none⟩ = some (.int .i64 (atI A x)) := by
  obtain ⟨b', o', e, h1, h2⟩ := h x hx
  cases e
  refine ⟨h1, ?_⟩
  rw [h2]
  unfold encI atI
  rw [List.getD_eq_getElem?_getD, List.getElem?_eq_getElem hx]; rfl
theorem lst_addr {w : World} {a : Option Addr} {A : List Int} (h : Lst encI w a A) (h0 : 0 < A.length) : ∃ b o, a = some ⟨b, o, none⟩ := by
  obtain ⟨b, o, e, _⟩ := h 0 h0
  exact ⟨b, o, e⟩
/-- An arc among the first k comes to v, from a node that is told, and does just that. -/
def CameBy (Z : List ArcT) (c : ArcT → Int) (d : List Int) (v k : Nat) : Prop := ∃ p a, p < k ∧ Z[p]? = some a ∧ toN a = v ∧ 0 ≤ atI d (frN a) ∧ atI d v = atI d (frN a) + c a
theorem cameBy_succ {Z : List ArcT} {c : ArcT → Int} {d : List Int} {v k : Nat} {a : ArcT} (ha : Z[k]? = some a) (h : CameBy Z c d v (k + 1)) : CameBy Z c d v k ∨ (toN a = v ∧ 0 ≤ atI d (frN a) ∧ atI d v = atI d (frN a) + c a) := by
  obtain ⟨p, b, h1, h2, h3⟩ := h
  by_cases e : p = k
  · subst e
    rw [ha] at h2; cases h2
    exact .inr h3
  · exact .inl ⟨p, b, by omega, h2, h3⟩
theorem cameBy_dist {Z : List ArcT} {c : ArcT → Int} {s N : Nat} {d : List Int} (h : IsDist Z c s N d) (hZ : ∀ a ∈ Z, frN a < N ∧ toN a < N) {v : Nat} (hv : v < N) (hne : v ≠ s) (h0 : 0 ≤ atI d v) : CameBy Z c d v Z.length := by
  obtain ⟨a, ha, h1, h2, h3⟩ := isDist_pred h hZ hv hne h0
  obtain ⟨p, hp⟩ := List.getElem?_of_mem ha
  exact ⟨p, a, (List.getElem?_eq_some_iff.1 hp).1, hp, h1, h2, h3⟩
set_option maxRecDepth 100000 in
set_option maxHeartbeats 1000000 in
theorem steps_bad (n : Int) (b : Bool) (ao : Option Addr) (cap : Nat) (Z : List ArcT) (s : Int) (w : World) (hm : Z.length ≤ maxLen) (hr : Row encA 4 w ao Z) (h0 : hopE n Z s ≠ 0) :
    Calls Try.prog 8 #[.agg #[.int .i64 n, .bool b, .slice ao Z.length cap], .int .i64 s] w fun e w' => e = .returned (.bool true) ∧ Below w.heap.size w w' := by
  have HM := Lib.hid hm
  have HR := Lib.hid (row_alloc hr (.cells #[.int .i64 n, .bool b, .slice ao Z.length cap] 24))
  have HB0 : Hid (Below w.heap.size w (w.alloc (.cells #[.int .i64 n, .bool b, .slice ao Z.length cap] 24))) := Lib.hid ((Below.refl _ w).alloc (Nat.le_refl _) _)
  have HN := Lib.hid (heap_alloc_new w (.cells #[.int .i64 n, .bool b, .slice ao Z.length cap] 24))
  have HE1 : Hid (hopsL n Z s = []) := Lib.hid (by unfold hopsL; rw [if_neg h0])
  have HE2 : Hid (fastL n Z s = []) := Lib.hid (by unfold fastL; rw [if_neg h0])
  obtain ⟨ce, hce⟩ : ∃ ce, hopE n Z s = ce := ⟨_, rfl⟩
  rw [hce] at h0
  have HC := Lib.hid hce
  have hf2 : (ce != 0) = true := by simpa using h0
  have hf1 : (ce == 0) = false := by simpa using h0
  clear hr hm hce h0
  go_enter Try.func8, Try.ntmps8
  go_wp2_with (first
    | (go_at_call 14; refine (awake_any _).mono ?_; rintro e w1 ⟨rfl, hb1⟩; have HB1 := Lib.hid (HB0.out.trans (hb1.mono HB0.out.size)); have HR1 := Lib.hid (HR.out.below' hb1); have hn1 := box_kept HN.out hb1; have HN1 := Lib.hid hn1; have x1 := cell_whole hn1 0; have y1 := cell_whole hn1 1; have z1 := cell_whole hn1 2; clear hb1 hn1)
    | (go_at_call 16; refine (hops_any n b ao cap Z s _ HR1.out HM.out).mono ?_; rintro e w2 ⟨a2, c2, rfl, hl2, hb2⟩; rw [HE1.out, HC.out]; have HB2 := Lib.hid (HB1.out.trans (hb2.mono HB1.out.size)); have HR2 := Lib.hid (HR1.out.below' hb2); have hn2 := box_kept HN1.out hb2; have x2 := cell_whole hn2 0; have y2 := cell_whole hn2 1; have z2 := cell_whole hn2 2; clear hl2 hb2 hn2 x1 y1 z1)
    | (go_at_call 22; refine (fastest_any n b ao cap Z s _ HR2.out HM.out).mono ?_; rintro e w3 ⟨a3, c3, rfl, hl3, hb3⟩; rw [HE2.out, HC.out]; have HB3 := Lib.hid (HB2.out.trans (hb3.mono HB2.out.size)); clear hl3 hb3 x2 y2 z2))
  go_ret
  exact ⟨by simp, HB3.out⟩
set_option maxRecDepth 100000 in
set_option maxHeartbeats 8000000 in
theorem steps_ok (n : Int) (b : Bool) (ao : Option Addr) (cap : Nat) (Z : List ArcT) (s : Nat) (w : World) (hr : Row encA 4 w ao Z) (hc : checkE n Z = 0) (hs : s < n.toNat) :
    Calls Try.prog 8 #[.agg #[.int .i64 n, .bool b, .slice ao Z.length cap], .int .i64 (s : Int)] w fun e w' => e = .returned (.bool true) ∧ Below w.heap.size w w' := by
  have hR : Right (n, b, Z) := right_iff.1 hc
  have hn := nodesE_ok hR.1
  have hzl : Z.length ≤ 200 := hR.2.1
  simp only at hn
  obtain ⟨N, rfl⟩ : ∃ N : Nat, n = (N : Int) := ⟨n.toNat, by omega⟩
  have hsN : s < N := by simpa using hs
  have hsi : (s : Int) < (N : Int) := by omega
  have HS := Lib.hid hs
  have HC := Lib.hid hc
  have HRT := Lib.hid hR
  have hZ : ∀ a ∈ Z, frN a < N ∧ toN a < N := by have := right_ends hR; simpa using this
  have hZt : ∀ a ∈ Z, frN a < N ∧ toN a < N ∧ 0 ≤ tm a := fun a ha => ⟨(hZ a ha).1, (hZ a ha).2, (right_arc hR ha).2.2.2.2.1⟩
  have hD := hop_isDist (Z := Z) hsN hZ
  have hT := fast_isDist (c := tm) (Z := Z) hsN hZt
  obtain ⟨d, hd⟩ : ∃ d, hopK Z N s N = d := ⟨_, rfl⟩
  obtain ⟨t, ht⟩ : ∃ t, fastK tm Z N s N = t := ⟨_, rfl⟩
  rw [hd] at hD
  rw [ht] at hT
  have HD0 := Lib.hid hd
  have HT0 := Lib.hid ht
  have hbD : ∀ v, v < N → -1 ≤ atI d v ∧ atI d v ≤ 50 := fun v hv => by
    have := isDist_bd (M := 1) hD hsN (fun a ha => (hZ a ha).2) (by omega) (fun a ha => by simp [one]) hv
    omega
  have hbT : ∀ v, v < N → -1 ≤ atI t v ∧ atI t v ≤ 52428800 := fun v hv => by
    have := isDist_bd (M := 1048576) hT hsN (fun a ha => (hZ a ha).2) (by omega) (fun a ha => (right_arc hR ha).2.2.2.2) hv
    omega
  have hA : ∀ a ∈ Z, 0 ≤ atI d (frN a) → (0 ≤ atI d (toN a) ∧ atI d (toN a) ≤ atI d (frN a) + 1) ∧ 0 ≤ atI t (toN a) ∧ atI t (toN a) ≤ atI t (frN a) + tm a := fun a ha h0 =>
    ⟨isDist_step hD ha (hZ a ha).1 (hZ a ha).2 h0, isDist_step hT ha (hZ a ha).1 (hZ a ha).2 ((isDist_both hD hT (hZ a ha).1).1 h0)⟩
  have hBo : ∀ v, v < N → (0 ≤ atI d v ↔ 0 ≤ atI t v) := fun v hv => isDist_both hD hT hv
  have hP1 : ∀ v, v < N → v ≠ s → 0 ≤ atI d v → CameBy Z one d v Z.length := fun v hv h1 h2 => cameBy_dist hD hZ hv h1 h2
  have hP2 : ∀ v, v < N → v ≠ s → 0 ≤ atI t v → CameBy Z tm t v Z.length := fun v hv h1 h2 => cameBy_dist hT hZ hv h1 h2
  have hd0 := isDist_self hD hsN
  have ht0 := isDist_self hT hsN
  have hdl := hD.len
  have htl := hT.len
  have HBD := Lib.hid hbD
  have HBT := Lib.hid hbT
  have HA := Lib.hid hA
  have HBO := Lib.hid hBo
  have HP1 := Lib.hid hP1
  have HP2 := Lib.hid hP2
  have HZZ := Lib.hid hZ
  have HDL := Lib.hid hdl
  have HTL := Lib.hid htl
  have HSD := Lib.hid hd0
  have HST := Lib.hid ht0
  have HR := Lib.hid (row_alloc hr (.cells #[.int .i64 (N : Int), .bool b, .slice ao Z.length cap] 24))
  have HB0 : Hid (Below w.heap.size w (w.alloc (.cells #[.int .i64 (N : Int), .bool b, .slice ao Z.length cap] 24))) := Lib.hid ((Below.refl _ w).alloc (Nat.le_refl _) _)
  have HN := Lib.hid (heap_alloc_new w (.cells #[.int .i64 (N : Int), .bool b, .slice ao Z.length cap] 24))
  clear hr hc hs hR hZ hZt hD hT hd ht hbD hbT hA hBo hP1 hP2 hd0 ht0 hdl htl
  go_enter Try.func8, Try.ntmps8
  go_wp2_with (first
    | (go_at_call 14; refine (awake_any _).mono ?_; rintro e w1 ⟨rfl, hb1⟩; have HB1 := Lib.hid (HB0.out.trans (hb1.mono HB0.out.size)); have HR1 := Lib.hid (HR.out.below' hb1); have hn1 := box_kept HN.out hb1; have HN1 := Lib.hid hn1; have x1 := cell_whole hn1 0; have y1 := cell_whole hn1 1; have z1 := cell_whole hn1 2; clear hb1 hn1)
    | (go_at_call 16; refine (hops_ok (N : Int) b ao cap Z s _ HR1.out HC.out HS.out).mono ?_; rintro e w2 ⟨a2, c2, rfl, hl2, hb2⟩; rw [Int.toNat_natCast, HD0.out] at hl2 ⊢; rw [HDL.out]; obtain ⟨db, dO, rfl⟩ := lst_addr hl2 (by rw [HDL.out]; omega); have HB2 := Lib.hid (HB1.out.trans (hb2.mono HB1.out.size)); have HR2 := Lib.hid (HR1.out.below' hb2); have hn2 := box_kept HN1.out hb2; have HN2 := Lib.hid hn2; have x2 := cell_whole hn2 0; have y2 := cell_whole hn2 1; have z2 := cell_whole hn2 2; have HL2 := Lib.hid hl2; clear hl2 hb2 hn2 x1 y1 z1)
    | (go_at_call 22; refine (fastest_ok (N : Int) b ao cap Z s _ HR2.out HC.out HS.out).mono ?_; rintro e w3 ⟨a3, c3, rfl, hl3, hb3⟩; rw [Int.toNat_natCast, HT0.out] at hl3 ⊢; rw [HTL.out]; obtain ⟨tb, tO, rfl⟩ := lst_addr hl3 (by rw [HTL.out]; omega); have HB3 := Lib.hid (HB2.out.trans (hb3.mono HB2.out.size)); have HR3 := Lib.hid (HR2.out.below' hb3); have hn3 := box_kept HN2.out hb3; have x3 := cell_whole hn3 0; have z3 := cell_whole hn3 2; have HLd := Lib.hid (HL2.out.below hb3); have HLt := Lib.hid hl3; obtain ⟨_, ks⟩ := lst_some HLd.out (x := s) (by rw [HDL.out]; exact hsN); obtain ⟨_, ls⟩ := lst_some HLt.out (x := s) (by rw [HTL.out]; exact hsN); rw [HSD.out] at ks; rw [HST.out] at ls; clear hl3 hb3 hn3 x2 y2 z2 HL2))
  have hdb := (lst_some HLd.out (x := s) (by rw [HDL.out]; exact hsN)).1
  have htb := (lst_some HLt.out (x := s) (by rw [HTL.out]; exact hsN)).1
  clear ks ls
  go_loopw [10] (fun i wr => ∃ j : Nat, j ≤ Z.length ∧ i = .int .i64 (j : Int) ∧ Hid (Below w3.heap.size w3 wr)) (fun i _ => Z.length - (intOf i).toNat)
  case atStart => exact ⟨0, Nat.zero_le _, rfl, Lib.hid (Below.refl _ _)⟩
  case round =>
    obtain ⟨j, hj, rfl, HB⟩ := hrel
    have e2 := cell_below' HB.out z3 (block_lt_of_cell z3)
    have hszr : w3.heap.size ≤ wr.heap.size := HB.out.size
    by_cases hlt2 : j < Z.length
    · have hli2 : (j : Int) < (Z.length : Int) := by omega
      have hpa : Z[j]? = some Z[j] := List.getElem?_eq_getElem hlt2
      obtain ⟨h1, h2, h3, h4, h5, h6⟩ := right_arc HRT.out (List.mem_of_getElem? hpa)
      rw [Int.toNat_natCast] at h3 h4
      obtain ⟨ab, ax, e, hab, a0, a1, a2, a3⟩ := arc_at (HR3.out.below' HB.out) hpa
      cases e
      rw [h1] at a0
      rw [h2] at a1
      have hst := HA.out _ (List.mem_of_getElem? hpa)
      have bdf := HBD.out _ h3
      have bdt := HBD.out _ h4
      have btf := HBT.out _ h3
      have btt := HBT.out _ h4
      have cdf := (lst_some HLd.out (x := frN Z[j]) (by rw [HDL.out]; exact h3)).2
      have cdt := (lst_some HLd.out (x := toN Z[j]) (by rw [HDL.out]; exact h4)).2
      have ctf := (lst_some HLt.out (x := frN Z[j]) (by rw [HTL.out]; exact h3)).2
      have ctt := (lst_some HLt.out (x := toN Z[j]) (by rw [HTL.out]; exact h4)).2
      obtain ⟨ec, hec⟩ : ∃ ec, Z[j].2.2.1 = ec := ⟨_, rfl⟩
      obtain ⟨et, het⟩ : ∃ et, Z[j].2.2.2 = et := ⟨_, rfl⟩
      have het2 : tm Z[j] = et := het
      rw [hec] at a2
      rw [het] at a3
      rw [het2] at hst h5 h6
      clear hpa h1 h2 hec het het2
      generalize frN Z[j] = x at *
      generalize toN Z[j] = y at *
      generalize atI d x = fv at *
      generalize atI d y = tv at *
      generalize atI t x = fv2 at *
      generalize atI t y = tv2 at *
      obtain ⟨b1, b2⟩ := bdf
      obtain ⟨b3, b4⟩ := bdt
      obtain ⟨b5, b6⟩ := btf
      obtain ⟨b7, b8⟩ := btt
      have HBA := Lib.hid (HB.out.alloc hszr (.cells #[.int .i64 (x : Int), .int .i64 (y : Int), .int .i64 ec, .int .i64 et] 42))
      have k1 := cell_below' HBA.out cdf hdb
      have k2 := cell_below' HBA.out cdt hdb
      have k3 := cell_below' HBA.out ctf htb
      have k4 := cell_below' HBA.out ctt htb
      have r0 := cell_new wr #[.int .i64 (x : Int), .int .i64 (y : Int), .int .i64 ec, .int .i64 et] 42 0
      have r1 := cell_new wr #[.int .i64 (x : Int), .int .i64 (y : Int), .int .i64 ec, .int .i64 et] 42 1
      have r3 := cell_new wr #[.int .i64 (x : Int), .int .i64 (y : Int), .int .i64 ec, .int .i64 et] 42 3
      have hxi : (x : Int) < (N : Int) := by omega
      have hyi : (y : Int) < (N : Int) := by omega
      clear cdf cdt ctf ctt
      by_cases h0 : 0 ≤ fv
      · obtain ⟨⟨s1, s2⟩, s3, s4⟩ := hst h0
        have q0 : decide (0 ≤ fv) = true := decide_eq_true h0
        have q1 : decide (tv < 0) = false := decide_eq_false (by omega)
        have q2 : decide (fv + 1 < tv) = false := decide_eq_false (by omega)
        have q3 : decide (tv2 < 0) = false := decide_eq_false (by omega)
        have q4 : decide (fv2 + et < tv2) = false := decide_eq_false (by omega)
        clear hst
        go_wp2
        as_aux_lemma =>
          go_quiet (fail)
          go_wp2
          go_roundw
          case rel => exact ⟨j + 1, by omega, by go_num, Lib.hid (below_drewN HBA.out _)⟩
          case measure => simp [intOf]; omega
      · have q0 : decide (0 ≤ fv) = false := decide_eq_false h0
        clear hst
        go_wp2
        as_aux_lemma =>
          go_quiet (fail)
          go_wp2
          go_roundw
          case rel => exact ⟨j + 1, by omega, by go_num, Lib.hid (below_drewN HBA.out _)⟩
          case measure => simp [intOf]; omega
    · have hli2 : ¬ (j : Int) < (Z.length : Int) := by omega
      obtain rfl : j = Z.length := by omega
      go_wp2
      go_loopg [12] (N + 1) (fun g i wr => ∃ v : Nat, v ≤ N ∧ g + v = N + 1 ∧ i = .int .i64 (v : Int) ∧ Hid (Below w3.heap.size w3 wr))
      case atStart => exact ⟨0, Nat.zero_le _, by omega, rfl, HB⟩
      case round =>
        clear HB e2 hszr hj hlt2
        obtain ⟨v, hv, hgv, rfl, HB⟩ := hrel
        have e0 := cell_below' HB.out x3 (block_lt_of_cell x3)
        obtain ⟨wo, hwo⟩ : ∃ wo, wo = wr := ⟨_, rfl⟩
        subst hwo
        by_cases hlt : v < N
        · have hli : (v : Int) < (N : Int) := by omega
          have hbo := HBO.out v hlt
          have bd := HBD.out v hlt
          have bt := HBT.out v hlt
          have cd := (lst_some HLd.out (x := v) (by rw [HDL.out]; exact hlt)).2
          have ct := (lst_some HLt.out (x := v) (by rw [HTL.out]; exact hlt)).2
          have cd2 := cell_below' HB.out cd hdb
          have ct2 := cell_below' HB.out ct htb
          obtain ⟨dv, hdv⟩ : ∃ dv, atI d v = dv := ⟨_, rfl⟩
          obtain ⟨tv, htv⟩ : ∃ tv, atI t v = tv := ⟨_, rfl⟩
          rw [hdv] at cd cd2 bd hbo
          rw [htv] at ct ct2 bt hbo
          have HDV := Lib.hid hdv
          have HTV := Lib.hid htv
          obtain ⟨b1, b2⟩ := bd
          obtain ⟨b3, b4⟩ := bt
          obtain ⟨q, hq⟩ : ∃ q, decide (dv < 0) = q := ⟨_, rfl⟩
          have hq2 : decide (tv < 0) = q := by rw [← hq]; exact decide_eq_decide.2 (by omega)
          have HQ : Hid (dv < 0 ↔ q = true) := Lib.hid (by rw [← hq]; simp)
          clear hdv htv hbo
          go_wp2
          go_quiet (fail)
          go_wp2
          have HBq := Lib.hid (below_drewN HB.out nq)
          generalize wo.drewN nq = w5 at *
          have cd3 := cell_below' HBq.out cd hdb
          clear cd2 ct2 e0
          go_cut [13, 14] (fun h1 h2 wc => ∃ q0 : Bool, h1 = .bool q0 ∧ h2 = .bool q0 ∧ Hid (v = s ∨ dv < 0 ↔ q0 = true) ∧ Hid (Below w3.heap.size w3 wc))
          case first =>
            by_cases hvs : v = s
            · have HV := Lib.hid hvs
              have hf1 : ((v : Int) == (s : Int)) = true := by simp [hvs]
              have hf2 : (v : Int) = (s : Int) := by omega
              clear hvs
              as_aux_lemma =>
                go_quiet (fail)
                go_wp2
                go_meet
                exact ⟨true, rfl, rfl, Lib.hid (by simp [HV.out]), Lib.hid (below_drewN HBq.out _)⟩
            · have HV := Lib.hid hvs
              have hf1 : ((v : Int) == (s : Int)) = false := by simp; omega
              have hf2 : ¬ (v : Int) = (s : Int) := by omega
              clear hvs
              as_aux_lemma =>
                go_quiet (fail)
                go_wp2
                go_meet
                exact ⟨q, rfl, rfl, Lib.hid (by simp [HV.out, HQ.out]), Lib.hid (below_drewN HBq.out _)⟩
          case rest =>
            obtain ⟨q0, rfl, rfl, HQ0, HBc⟩ := hcut
            clear cd3 HBq
            go_wp2
            obtain ⟨g0, hg0⟩ : ∃ g0, g0 = gk := ⟨_, rfl⟩
            subst hg0
            go_loopg [13, 14, 15] (Z.length + 1) (fun g h1 h2 i wi => ∃ (k : Nat) (q1 q2 : Bool), k ≤ Z.length ∧ g + k = Z.length + 1 ∧ h1 = .bool q1 ∧ h2 = .bool q2 ∧ i = .int .i64 (k : Int) ∧ Hid (Below w3.heap.size w3 wi) ∧ Hid ((v = s ∨ dv < 0) ∨ CameBy Z one d v k → q1 = true) ∧ Hid ((v = s ∨ dv < 0) ∨ CameBy Z tm t v k → q2 = true))
            case atStart => exact ⟨0, q0, q0, Nat.zero_le _, by omega, rfl, rfl, rfl, HBc, Lib.hid (fun h => by rcases h with h | ⟨p, a, h, _⟩; exact HQ0.out.1 h; omega), Lib.hid (fun h => by rcases h with h | ⟨p, a, h, _⟩; exact HQ0.out.1 h; omega)⟩
            case round =>
              obtain ⟨k, q1, q2, hk, hgk, rfl, rfl, rfl, HBI, H1, H2⟩ := hrel
              have e2 := cell_below' HBI.out z3 (block_lt_of_cell z3)
              have hszr : w3.heap.size ≤ wr.heap.size := HBI.out.size
              by_cases hlt2 : k < Z.length
              · have hli2 : (k : Int) < (Z.length : Int) := by omega
                have hpa : Z[k]? = some Z[k] := List.getElem?_eq_getElem hlt2
                obtain ⟨h1, h2, h3, h4, h5, h6⟩ := right_arc HRT.out (List.mem_of_getElem? hpa)
                rw [Int.toNat_natCast] at h3 h4
                obtain ⟨ab, ax, e, hab, a0, a1, a2, a3⟩ := arc_at (HR3.out.below' HBI.out) hpa
                cases e
                rw [h1] at a0
                rw [h2] at a1
                have hs1 := fun h => cameBy_succ (c := one) (d := d) (v := v) hpa h
                have hs2 := fun h => cameBy_succ (c := tm) (d := t) (v := v) hpa h
                have bdf := HBD.out _ h3
                have btf := HBT.out _ h3
                have cdf := (lst_some HLd.out (x := frN Z[k]) (by rw [HDL.out]; exact h3)).2
                have ctf := (lst_some HLt.out (x := frN Z[k]) (by rw [HTL.out]; exact h3)).2
                obtain ⟨ec, hec⟩ : ∃ ec, Z[k].2.2.1 = ec := ⟨_, rfl⟩
                obtain ⟨et, het⟩ : ∃ et, Z[k].2.2.2 = et := ⟨_, rfl⟩
                have het2 : tm Z[k] = et := het
                rw [hec] at a2
                rw [het] at a3
                rw [het2] at hs2 h5 h6
                rw [HDV.out] at hs1
                rw [HTV.out] at hs2
                simp only [one] at hs1
                clear hpa h1 h2 hec het het2
                generalize frN Z[k] = x at *
                generalize toN Z[k] = y at *
                generalize atI d x = fv at *
                generalize atI t x = fv2 at *
                obtain ⟨b5, b6⟩ := bdf
                obtain ⟨b7, b8⟩ := btf
                have HS1 := Lib.hid hs1
                have HS2 := Lib.hid hs2
                have HBA := Lib.hid (HBI.out.alloc hszr (.cells #[.int .i64 (x : Int), .int .i64 (y : Int), .int .i64 ec, .int .i64 et] 42))
                have k1 := cell_below' HBA.out cdf hdb
                have k2 := cell_below' HBA.out cd hdb
                have r0 := cell_new wr #[.int .i64 (x : Int), .int .i64 (y : Int), .int .i64 ec, .int .i64 et] 42 0
                have r1 := cell_new wr #[.int .i64 (x : Int), .int .i64 (y : Int), .int .i64 ec, .int .i64 et] 42 1
                have r3 := cell_new wr #[.int .i64 (x : Int), .int .i64 (y : Int), .int .i64 ec, .int .i64 et] 42 3
                have hn3 := heap_alloc_new wr (.cells #[.int .i64 (x : Int), .int .i64 (y : Int), .int .i64 ec, .int .i64 et] 42)
                have HN3 := Lib.hid hn3
                have hxi : (x : Int) < (N : Int) := by omega
                have hyi : (y : Int) < (N : Int) := by omega
                clear hs1 hs2 hn3
                obtain ⟨g1, hg1⟩ : ∃ g1, g1 = gk := ⟨_, rfl⟩
                go_wp2
                go_cut [13] (fun h1 wc => ∃ q3 : Bool, h1 = .bool q3 ∧ Hid ((v = s ∨ dv < 0) ∨ CameBy Z one d v (k + 1) → q3 = true) ∧ Hid (Below w3.heap.size w3 wc) ∧ Hid (wc.heap[wr.heap.size]? = some (.cells #[.int .i64 (x : Int), .int .i64 (y : Int), .int .i64 ec, .int .i64 et] 42 (0, 0))))
                case first =>
                  cases q1 with
                  | true =>
                    as_aux_lemma =>
                      go_quiet (fail)
                      go_wp2
                      go_meet
                      exact ⟨true, rfl, Lib.hid (fun _ => rfl), Lib.hid (below_drewN HBA.out _), Lib.hid HN3.out⟩
                  | false =>
                    by_cases hy : y = v
                    · have hyv : v = y := hy.symm
                      subst hyv
                      by_cases hf : 0 ≤ fv
                      · have q0 : decide (0 ≤ fv) = true := decide_eq_true hf
                        by_cases he : dv = fv + 1
                        · have q1 : (dv == fv + 1) = true := by simp [he]
                          as_aux_lemma =>
                            go_quiet (fail)
                            go_wp2
                            go_meet
                            exact ⟨true, rfl, Lib.hid (fun _ => rfl), Lib.hid (below_drewN HBA.out _), Lib.hid HN3.out⟩
                        · have q1 : (dv == fv + 1) = false := by simpa using he
                          as_aux_lemma =>
                            go_quiet (fail)
                            go_wp2
                            go_meet
                            exact ⟨false, rfl, Lib.hid (fun hh => by rcases hh with hh | hh; exact H1.out (.inl hh); rcases HS1.out hh with hh | ⟨g1, g2, g3⟩; exact H1.out (.inr hh); omega), Lib.hid (below_drewN HBA.out _), Lib.hid HN3.out⟩
                      · have q0 : decide (0 ≤ fv) = false := decide_eq_false hf
                        as_aux_lemma =>
                          go_quiet (fail)
                          go_wp2
                          go_meet
                          exact ⟨false, rfl, Lib.hid (fun hh => by rcases hh with hh | hh; exact H1.out (.inl hh); rcases HS1.out hh with hh | ⟨g1, g2, g3⟩; exact H1.out (.inr hh); omega), Lib.hid (below_drewN HBA.out _), Lib.hid HN3.out⟩
                    · have hg1 : ((y : Int) == (v : Int)) = false := by simp; omega
                      have hg2 : ¬ (y : Int) = (v : Int) := by omega
                      as_aux_lemma =>
                        go_quiet (fail)
                        go_wp2
                        go_meet
                        exact ⟨false, rfl, Lib.hid (fun hh => by rcases hh with hh | hh; exact H1.out (.inl hh); rcases HS1.out hh with hh | ⟨g1, g2, g3⟩; exact H1.out (.inr hh); omega), Lib.hid (below_drewN HBA.out _), Lib.hid HN3.out⟩
                case rest =>
                  obtain ⟨q3, rfl, H3, HBc2, HN4⟩ := hcut
                  have hn4 := HN4.out
                  generalize wr.heap.size = ga at *
                  clear r0 r1 r3 k1 k2 a0 a1 a2 a3 e2
                  have m1 := cell_below' HBc2.out ctf htb
                  have m2 := cell_below' HBc2.out ct htb
                  have r0 := cell_whole hn4 0
                  have r1 := cell_whole hn4 1
                  have r3 := cell_whole hn4 3
                  clear hn4
                  go_wp2
                  cases q2 with
                  | true =>
                    as_aux_lemma =>
                      go_quiet (fail)
                      go_wp2
                      go_roundg (gk - 1)
                      case measure => omega
                      case rel => exact ⟨k + 1, q3, true, by omega, by omega, rfl, rfl, by go_num, Lib.hid (below_drewN HBc2.out _), H3, Lib.hid (fun _ => rfl)⟩
                  | false =>
                    by_cases hy : y = v
                    · have hyv : v = y := hy.symm
                      subst hyv
                      by_cases hf : 0 ≤ fv2
                      · have q0 : decide (0 ≤ fv2) = true := decide_eq_true hf
                        by_cases he : tv = fv2 + et
                        · have q1 : (tv == fv2 + et) = true := by simp [he]
                          as_aux_lemma =>
                            go_quiet (fail)
                            go_wp2
                            go_roundg (gk - 1)
                            case measure => omega
                            case rel => exact ⟨k + 1, q3, true, by omega, by omega, rfl, rfl, by go_num, Lib.hid (below_drewN HBc2.out _), H3, Lib.hid (fun _ => rfl)⟩
                        · have q1 : (tv == fv2 + et) = false := by simpa using he
                          as_aux_lemma =>
                            go_quiet (fail)
                            go_wp2
                            go_roundg (gk - 1)
                            case measure => omega
                            case rel => exact ⟨k + 1, q3, false, by omega, by omega, rfl, rfl, by go_num, Lib.hid (below_drewN HBc2.out _), H3, Lib.hid (fun hh => by rcases hh with hh | hh; exact H2.out (.inl hh); rcases HS2.out hh with hh | ⟨g1, g2, g3⟩; exact H2.out (.inr hh); omega)⟩
                      · have q0 : decide (0 ≤ fv2) = false := decide_eq_false hf
                        as_aux_lemma =>
                          go_quiet (fail)
                          go_wp2
                          go_roundg (gk - 1)
                          case measure => omega
                          case rel => exact ⟨k + 1, q3, false, by omega, by omega, rfl, rfl, by go_num, Lib.hid (below_drewN HBc2.out _), H3, Lib.hid (fun hh => by rcases hh with hh | hh; exact H2.out (.inl hh); rcases HS2.out hh with hh | ⟨g1, g2, g3⟩; exact H2.out (.inr hh); omega)⟩
                    · have hg1 : ((y : Int) == (v : Int)) = false := by simp; omega
                      have hg2 : ¬ (y : Int) = (v : Int) := by omega
                      as_aux_lemma =>
                        go_quiet (fail)
                        go_wp2
                        go_roundg (gk - 1)
                        case measure => omega
                        case rel => exact ⟨k + 1, q3, false, by omega, by omega, rfl, rfl, by go_num, Lib.hid (below_drewN HBc2.out _), H3, Lib.hid (fun hh => by rcases hh with hh | hh; exact H2.out (.inl hh); rcases HS2.out hh with hh | ⟨g1, g2, g3⟩; exact H2.out (.inr hh); omega)⟩
              · have hli2 : ¬ (k : Int) < (Z.length : Int) := by omega
                obtain rfl : k = Z.length := by omega
                have hq1 : q1 = true := H1.out (by
                  by_cases h1 : v = s
                  · exact .inl (.inl h1)
                  · by_cases h2 : dv < 0
                    · exact .inl (.inr h2)
                    · exact .inr (HP1.out v hlt h1 (by rw [HDV.out]; omega)))
                have hq2' : q2 = true := H2.out (by
                  by_cases h1 : v = s
                  · exact .inl (.inl h1)
                  · by_cases h2 : dv < 0
                    · exact .inl (.inr h2)
                    · exact .inr (HP2.out v hlt h1 ((HBO.out v hlt).1 (by rw [HDV.out]; omega))))
                subst hq1
                subst hq2'
                go_wp2
                go_roundg (g0 - 1)
                case measure => omega
                case rel => exact ⟨v + 1, by omega, by omega, by go_num, HBI⟩
        · have hli : ¬ (v : Int) < (N : Int) := by omega
          go_wp2
          go_ret
          exact ⟨rfl, HB3.out.trans (HB.out.mono HB3.out.size)⟩
theorem steps_law (n : Int) (b : Bool) (ao : Option Addr) (len cap : Nat) (Z : List ArcT) (s : Int) (w : World) (hl : Z.length = len) (hm : len ≤ maxLen) (hr : Row encA 4 w ao Z) :
    Calls Try.prog 8 #[.agg #[.int .i64 n, .bool b, .slice ao len cap], .int .i64 s] w fun e w' => e = .returned (.bool true) ∧ Below w.heap.size w w' := by
  subst hl
  by_cases h0 : hopE n Z s = 0
  · obtain ⟨hc, k, rfl, hk⟩ := hopE_ok h0
    exact steps_ok n b ao cap Z k w hr hc hk
  · exact steps_bad n b ao cap Z s w hm hr h0
end Go.Proofs.Ytfnafdjcncgcnaa
