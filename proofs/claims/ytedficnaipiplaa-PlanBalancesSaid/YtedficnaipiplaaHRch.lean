/- The document's answer: the value of a plan. -/
import Derived.Test.YtedficnaipiplaaHRso
namespace Go.Proofs.Ytedficnaipiplaa
open Go.RowKit
set_option linter.unusedVariables false

theorem irow_num {w : World} {ga : Option Addr} {G : List (List Int)} (h : IRow w ga G) {i v : Nat} {g : List Int} {x : Int} (hg : G[i]? = some g) (hv : g[v]? = some x) : ∃ b o a c q ad, ga = some ⟨b, o, none⟩ ∧ w.cell? ⟨b, o + i, none⟩ = some (.slice (some ⟨a, c, none⟩) q ad) ∧ q = g.length ∧ w.cell? ⟨a, c + v, none⟩ = some (.int .i64 x) := by
  obtain ⟨b, o, ao, cap, e, hb, hc, hl⟩ := irow_at h hg
  obtain ⟨a, c, e2, _, hx⟩ := lst_cell hl hv
  subst e2
  exact ⟨b, o, a, c, _, cap, e, hc, rfl, hx⟩
section
variable (n : Int) (b : Bool) (ao : Option Addr) (cap nl : Nat) (Z : List ArcT) (s t H : Int) (lo : Option Addr) (lc ll : Nat) (L : List MoveT)
set_option maxRecDepth 100000 in
set_option maxHeartbeats 4000000 in
theorem rchk_bad (e0 : Int) (w : World) (h : Row encA 4 w ao Z) (hz : Z.length ≤ 4398046511104) (hl : Row encK 3 w lo L) (hok : ∀ x ∈ L, okK x) (hn : L.length ≤ 200) (hnl : Z.length = nl) (hll : L.length = ll) (he : mvE n Z s t H L = e0) (h0 : e0 ≠ 0) :
    Calls Try.prog 15 #[.agg #[.int .i64 n, .bool b, .slice ao nl cap], .int .i64 s, .int .i64 t, .int .i64 H, .slice lo ll lc] w fun e w' => e = .returned (.tuple #[.int .i64 0, .int .i64 e0]) ∧ Below w.heap.size w w' := by
  have hb00 := (Below.refl _ w).alloc (Nat.le_refl _) (.cells #[.int .i64 n, .bool b, .slice ao nl cap] 24)
  have hn00 := heap_alloc_new w (.cells #[.int .i64 n, .bool b, .slice ao nl cap] 24)
  have HB := Lib.hid hb00
  have c0 := cell_whole hn00 0
  have c1 := cell_whole hn00 1
  have c2 := cell_whole hn00 2
  have hf1 : (e0 != 0) = true := by simpa using h0
  have hf2 : (e0 == 0) = false := by simpa using h0
  have HCALL := Lib.hid (rstocks_bad n b ao cap nl Z s t H lo lc ll L e0 _ (h.below' hb00) hz (hl.below' hb00) hok hn hnl hll he h0)
  clear h hb00 hn00 hz hl hok hnl hll he h0
  go_enter Try.func15, Try.ntmps15
  go_wp2_with (go_at_call 12; refine HCALL.out.mono ?_; rintro e w2 ⟨rfl, hb2⟩; have HB2 := Lib.hid (HB.out.trans (hb2.mono HB.out.size)); clear hb2)
  go_ret2
  exact ⟨rfl, HB2.out⟩
end
section
variable (b : Bool) (ao : Option Addr) (cap nl : Nat) (Z : List ArcT) (N i j hh : Nat) (lo : Option Addr) (lc ll : Nat) (L : List MoveT)
set_option maxRecDepth 100000 in
set_option maxHeartbeats 8000000 in
theorem rchk_good (w : World) (h : Row encA 4 w ao Z) (hz : Z.length ≤ 4398046511104) (hl : Row encK 3 w lo L) (hok : ∀ x ∈ L, okK x) (hn : L.length ≤ 200) (hnl : Z.length = nl) (hll : L.length = ll) (he : mvE (N : Int) Z (i : Int) (j : Int) (hh : Int) L = 0) :
    Calls Try.prog 15 #[.agg #[.int .i64 (N : Int), .bool b, .slice ao nl cap], .int .i64 (i : Int), .int .i64 (j : Int), .int .i64 (hh : Int), .slice lo ll lc] w fun e w' => e = .returned (.tuple #[.int .i64 (plnV (N : Int) Z (i : Int) (j : Int) (hh : Int) b L), .int .i64 (plnE (N : Int) Z (i : Int) (j : Int) (hh : Int) b L)]) ∧ Below w.heap.size w w' := by
  have hb00 := (Below.refl _ w).alloc (Nat.le_refl _) (.cells #[.int .i64 (N : Int), .bool b, .slice ao nl cap] 24)
  have hn00 := heap_alloc_new w (.cells #[.int .i64 (N : Int), .bool b, .slice ao nl cap] 24)
  have HB := Lib.hid hb00
  have HNB := Lib.hid hn00
  have c0 := cell_whole hn00 0
  have c1 := cell_whole hn00 1
  have c2 := cell_whole hn00 2
  obtain ⟨⟨hiN, hjN, hij⟩, hW, hH, hM⟩ := good_net Z N i j hh L he
  have hN50 := hW.nodes
  have HCALL := Lib.hid (rstocks_good b ao cap nl Z N i j hh lo lc ll L _ (h.below' hb00) hz (hl.below' hb00) hok hn hnl hll he)
  obtain ⟨r, hr⟩ : ∃ r, planB Z L N i j hh b = r := ⟨_, rfl⟩
  obtain ⟨MK, HMK⟩ : ∃ MK : Nat → Prop, Hid (∀ u, MK u ↔ (b = true ∧ u < hh)) := ⟨_, Lib.hid (fun u => Iff.rfl)⟩
  have HYES : Hid ((∀ v, v < N → v ≠ i → v ≠ j → ∀ u, u ≤ hh → 0 ≤ stkN Z L u v ∧ (stkN Z L u v = 0 ∨ MK u)) → r = true) := Lib.hid (fun h => by
    rw [← hr]
    exact planG_is.2 (fun u hu v hv hs ht => ⟨(h v hv hs ht u hu).1, (h v hv hs ht u hu).2.imp id (HMK.out u).1⟩))
  have HNO : Hid (∀ u, u ≤ hh → ∀ v, v < N → v ≠ i → v ≠ j → ¬ (0 ≤ stkN Z L u v ∧ (stkN Z L u v = 0 ∨ MK u)) → r = false) := Lib.hid (fun u hu v hv hs ht hn => by
    rw [← hr]
    cases hq : planB Z L N i j hh b with
    | false => rfl
    | true => exact absurd (planG_is.1 hq u hu v hv hs ht) (fun e => hn ⟨e.1, e.2.imp id (HMK.out u).2⟩))
  obtain ⟨P, HP⟩ : ∃ P : Nat → Prop, Hid (∀ v, P v ↔ (v ≠ i → v ≠ j → ∀ u, u ≤ hh → 0 ≤ stkN Z L u v ∧ (stkN Z L u v = 0 ∨ MK u))) := ⟨_, Lib.hid (fun v => Iff.rfl)⟩
  obtain ⟨Q, HQ⟩ : ∃ Q : Nat → Nat → Prop, Hid (∀ v u, Q v u ↔ (0 ≤ stkN Z L u v ∧ (stkN Z L u v = 0 ∨ MK u))) := ⟨_, Lib.hid (fun v u => Iff.rfl)⟩
  have HV0 : Hid (r = false → plnE (N : Int) Z (i : Int) (j : Int) (hh : Int) b L = 141 ∧ plnV (N : Int) Z (i : Int) (j : Int) (hh : Int) b L = 0) := Lib.hid (fun e => by
    have h1 : plnE (N : Int) Z (i : Int) (j : Int) (hh : Int) b L = 141 := by rw [plnE_good he, hr, e]; rfl
    exact ⟨h1, plnV_is (by rw [h1]; decide)⟩)
  have HV1 : Hid (r = true → plnE (N : Int) Z (i : Int) (j : Int) (hh : Int) b L = 0 ∧ plnV (N : Int) Z (i : Int) (j : Int) (hh : Int) b L = stkN Z L hh j) := Lib.hid (fun e => by
    have h1 : plnE (N : Int) Z (i : Int) (j : Int) (hh : Int) b L = 0 := by rw [plnE_good he, hr, e]; rfl
    refine ⟨h1, ?_⟩
    unfold plnV
    rw [if_pos h1]
    rfl)
  generalize plnE (N : Int) Z (i : Int) (j : Int) (hh : Int) b L = pe at *
  generalize plnV (N : Int) Z (i : Int) (j : Int) (hh : Int) b L = pv at *
  clear h hb00 hn00 hz hl hok hnl hll he hW hM hr
  cases b
  all_goals
    go_enter Try.func15, Try.ntmps15
    go_wp2_with (go_at_call 12; refine HCALL.out.mono ?_; rintro e w2 ⟨aa, ac, rfl, hls, hb2⟩; have HLS := Lib.hid hls; have HB2 := Lib.hid (HB.out.trans (hb2.mono HB.out.size)); have HN2 := Lib.hid (kept_box HNB.out hb2); clear hb2 hls)
    have HGET : Hid (∀ u v, u < hh + 1 → v < N → ∃ g2 o2 a2 x2 q2 k2, aa = some ⟨g2, o2, none⟩ ∧ w2.cell? ⟨g2, o2 + u, none⟩ = some (.slice (some ⟨a2, x2, none⟩) q2 k2) ∧ q2 = N ∧ w2.cell? ⟨a2, x2 + v, none⟩ = some (.int .i64 (stkN Z L u v))) := Lib.hid (fun u v hu hv => by
      obtain ⟨g2, o2, a2, x2, q2, k2, e1, e2, e3, e4⟩ := irow_num HLS.out (i := u) (v := v) (g := rowT Z L N u) (x := stkN Z L u v) (by rw [List.getElem?_map, List.getElem?_range hu]; rfl) (by unfold rowT; rw [List.getElem?_map, List.getElem?_range hv]; rfl)
      exact ⟨g2, o2, a2, x2, q2, k2, e1, e2, by rw [e3, rowT_len], e4⟩)
    clear HCALL c0 c1 c2
    have hbn := HN2.out
    have c0 := cell_whole hbn 0
    have c1 := cell_whole hbn 1
    clear hbn
    go_loopw [14] (fun iv wr => ∃ v : Nat, v ≤ N ∧ iv = .int .i64 (v : Int) ∧ Hid (∀ x, x < v → P x) ∧ wr = w2) (fun iv _ => N - (intOf iv).toNat)
    case atStart => exact ⟨0, Nat.zero_le _, rfl, Lib.hid (fun x hx => absurd hx (by omega)), rfl⟩
    case round =>
      obtain ⟨v, hv, rfl, HPV, rfl⟩ := hrel
      by_cases hlv : v < N
      · have hlj : (v : Int) < (N : Int) := by omega
        have HPV2 : Hid (P v → ∀ x, x < v + 1 → P x) := Lib.hid (fun h x hx => by
          by_cases e : x = v
          · rw [e]; exact h
          · exact HPV.out x (by omega))
        go_wp2
        obtain ⟨wo, hwo⟩ : ∃ wo, wo = wr := ⟨_, rfl⟩
        subst hwo
        go_loopw [15] (fun iv wz => ∃ u : Nat, u ≤ hh + 1 ∧ iv = .int .i64 (u : Int) ∧ Hid (∀ x, x < u → Q v x) ∧ wz = wo) (fun iv _ => hh + 1 - (intOf iv).toNat)
        case atStart => exact ⟨0, Nat.zero_le _, rfl, Lib.hid (fun x hx => absurd hx (by omega)), rfl⟩
        case round =>
          obtain ⟨u, hu, rfl, HQU, rfl⟩ := hrel
          by_cases hlu : u < hh + 1
          · have hlu2 : (u : Int) ≤ (hh : Int) := by omega
            by_cases hvi : v = i
            · have q1 : ((v : Int) != (i : Int)) = false := by rw [bne_eq_false_iff_eq, hvi]
              have HPP := Lib.hid (HPV2.out ((HP.out v).2 (fun e => absurd hvi e)))
              clear hvi
              go_wp2
              go_roundw
              case rel => exact ⟨v + 1, by omega, by go_num, HPP, by first | rfl | trivial⟩
              case measure => simp [intOf]; omega
            · have q1 : ((v : Int) != (i : Int)) = true := by rw [bne_iff_ne]; omega
              by_cases hvj : v = j
              · have q2 : ((v : Int) != (j : Int)) = false := by rw [bne_eq_false_iff_eq, hvj]
                have HPP := Lib.hid (HPV2.out ((HP.out v).2 (fun _ e => absurd hvj e)))
                clear hvj hvi
                go_wp2
                go_roundw
                case rel => exact ⟨v + 1, by omega, by go_num, HPP, by first | rfl | trivial⟩
                case measure => simp [intOf]; omega
              · have q2 : ((v : Int) != (j : Int)) = true := by rw [bne_iff_ne]; omega
                obtain ⟨g2, o2, a2, x2, q3, k2, e1, e2, e3, e4⟩ := HGET.out u v hlu hlv
                subst e1
                rw [e3] at e2
                clear e3
                have HNK : Hid (¬ (0 ≤ stkN Z L u v ∧ (stkN Z L u v = 0 ∨ MK u)) → r = false) := Lib.hid (HNO.out u (by omega) v hlv hvi hvj)
                have HQ2 : Hid ((0 ≤ stkN Z L u v ∧ (stkN Z L u v = 0 ∨ MK u)) → ∀ x, x < u + 1 → Q v x) := Lib.hid (fun h x hx => by
                  by_cases e : x = u
                  · rw [e]; exact (HQ.out v u).2 h
                  · exact HQU.out x (by omega))
                have hui : (u : Int) < (hh : Int) + 1 := by omega
                generalize stkN Z L u v = y at *
                have HVI := Lib.hid hvi
                have HVJ := Lib.hid hvj
                clear hvi hvj
                rcases Int.lt_trichotomy y 0 with hy | hy | hy
                · have HR := Lib.hid (HV0.out (HNK.out (fun e => by omega)))
                  clear HQ2 HNK
                  go_wp2
                  go_ret2
                  exact ⟨by rw [HR.out.1, HR.out.2]; rfl, HB2.out⟩
                · have HQQ := Lib.hid (HQ2.out ⟨by omega, .inl hy⟩)
                  subst hy
                  clear HQ2 HNK
                  go_wp2
                  go_roundw
                  case rel => exact ⟨u + 1, by omega, by go_num, HQQ, by first | rfl | trivial⟩
                  case measure => simp [intOf]; omega
                · have hy2 : ¬ y < 0 := by omega
                  by_cases hm : MK u
                  · have HQQ := Lib.hid (HQ2.out ⟨by omega, .inr hm⟩)
                    have hm2 := ((HMK.out u).1 hm).2
                    have hm3 := ((HMK.out u).1 hm).1
                    have q5 : ((u : Int) == (hh : Int)) = false := by rw [beq_eq_false_iff_ne]; omega
                    clear HQ2 HNK hm
                    first
                      | exact False.elim hm3
                      | exact absurd hm3 (by decide)
                      | (go_wp2
                         go_roundw
                         case rel => exact ⟨u + 1, by omega, by go_num, HQQ, by first | rfl | trivial⟩
                         case measure => simp [intOf]; omega)
                  · have HR := Lib.hid (HV0.out (HNK.out (fun e => e.2.elim (fun e2 => by omega) hm)))
                    have q5 := fun e => (show ¬ u < hh from fun e2 : u < hh => hm ((HMK.out u).2 ⟨e, e2⟩))
                    clear HQ2 HNK hm
                    (first | (have q6 := q5 trivial) | (have q6 := q5 rfl) | skip)
                    clear q5
                    (first | (have q7 : ((u : Int) == (hh : Int)) = true := by rw [beq_iff_eq]; omega) | skip)
                    go_wp2
                    go_ret2
                    exact ⟨by rw [HR.out.1, HR.out.2]; rfl, HB2.out⟩
          · have hlu2 : ¬ (u : Int) ≤ (hh : Int) := by omega
            have HPP := Lib.hid (HPV2.out ((HP.out v).2 (fun _ _ x hx => (HQ.out v x).1 (HQU.out x (by omega)))))
            go_wp2
            go_roundw
            case rel => exact ⟨v + 1, by omega, by go_num, HPP, by first | rfl | trivial⟩
            case measure => simp [intOf]; omega
      · have hlj : ¬ (v : Int) < (N : Int) := by omega
        have HR := Lib.hid (HV1.out (HYES.out (fun x hx => (HP.out x).1 (HPV.out x (by omega)))))
        obtain ⟨g2, o2, a2, x2, q3, k2, e1, e2, e3, e4⟩ := HGET.out hh j (by omega) hjN
        subst e1
        rw [e3] at e2
        clear e3
        have hji : (j : Int) < (N : Int) := by omega
        go_wp2
        go_ret2
        exact ⟨by rw [HR.out.1, HR.out.2]; rfl, HB2.out⟩
end
end Go.Proofs.Ytedficnaipiplaa
