/- Check of the program and of the document: what is wrong with a flow, and its value. -/
import Derived.Test.YtbolpjahmmjllaaSBal
import Derived.Test.YtbolpjahmmjllaaSEnds
namespace Go.Proofs.Ytbolpjahmmjllaa
open Go.RowKit
set_option linter.unusedVariables false

/-- May a node have that balance? -/
def okN (s t : Int) (v : Nat) (x : Int) : Bool := decide ((v : Int) = s ∨ (v : Int) = t ∨ x = 0)
theorem okN_s {s t : Int} {v : Nat} {x : Int} (h : (v : Int) = s) : okN s t v x = true := by unfold okN; exact decide_eq_true (.inl h)
theorem okN_t {s t : Int} {v : Nat} {x : Int} (h : (v : Int) = t) : okN s t v x = true := by unfold okN; exact decide_eq_true (.inr (.inl h))
theorem okN_0 {s t : Int} {v : Nat} {x : Int} (h : x = 0) : okN s t v x = true := by unfold okN; exact decide_eq_true (.inr (.inr h))
theorem okN_no {s t : Int} {v : Nat} {x : Int} (h : (v : Int) ≠ s) (h2 : (v : Int) ≠ t) (h3 : x ≠ 0) : okN s t v x = false := by unfold okN; exact decide_eq_false (by omega)
/-- Are all nodes from v on, but s and t, balanced? -/
def restB (s t : Int) : Nat → List Int → Bool
  | _, [] => true
  | v, x :: r => okN s t v x && restB s t (v + 1) r
theorem restB_drop {s t : Int} {L : List Int} {k : Nat} (h : k < L.length) : restB s t k (L.drop k) = (okN s t k L[k] && restB s t (k + 1) (L.drop (k + 1))) := by
  rw [List.drop_eq_getElem_cons h]; rfl
theorem restB_at {s t : Int} : ∀ {L : List Int} {v : Nat}, restB s t v L = true → ∀ (i : Nat) (x : Int), L[i]? = some x → ((v + i : Nat) : Int) = s ∨ ((v + i : Nat) : Int) = t ∨ x = 0
  | [], _, _, i, x, h => by simp at h
  | y :: r, v, h, 0, x, hx => by
    simp only [restB, Bool.and_eq_true] at h
    have h1 := h.1
    unfold okN at h1
    rw [decide_eq_true_eq] at h1
    simp at hx; subst hx
    simpa using h1
  | y :: r, v, h, i + 1, x, hx => by
    simp only [restB, Bool.and_eq_true] at h
    have := restB_at h.2 i x (by simpa using hx)
    rw [show v + 1 + i = v + (i + 1) by omega] at this
    exact this
theorem restB_mk {s t : Int} : ∀ {L : List Int} {v : Nat}, (∀ (i : Nat) (x : Int), L[i]? = some x → ((v + i : Nat) : Int) = s ∨ ((v + i : Nat) : Int) = t ∨ x = 0) → restB s t v L = true
  | [], _, _ => rfl
  | y :: r, v, h => by
    simp only [restB, Bool.and_eq_true]
    refine ⟨?_, restB_mk (fun i x hx => ?_)⟩
    · unfold okN
      rw [decide_eq_true_eq]
      simpa using h 0 y rfl
    · have := h (i + 1) x (by simpa using hx)
      rw [show v + 1 + i = v + (i + 1) by omega]
      exact this
/-- What is wrong with a flow from s to t; its value. -/
def valE (n : Int) (Z : List ArcT) (s t : Int) (F : List Int) : Int := if endsE n Z s t = 0 then (if flowE n Z F = 0 then (if restB s t 0 (balsL n Z F) = true then 0 else 71) else flowE n Z F) else endsE n Z s t
def valK (n : Int) (Z : List ArcT) (s t : Int) (F : List Int) : Int := if valE n Z s t F = 0 then bal Z F s.toNat else 0
theorem valE_ends {n : Int} {Z : List ArcT} {s t : Int} {F : List Int} (h : endsE n Z s t ≠ 0) : valE n Z s t F = endsE n Z s t := by unfold valE; rw [if_neg h]
theorem valE_flow {n : Int} {Z : List ArcT} {s t : Int} {F : List Int} (h : endsE n Z s t = 0) (h2 : flowE n Z F ≠ 0) : valE n Z s t F = flowE n Z F := by unfold valE; rw [if_pos h, if_neg h2]
theorem valE_bad {n : Int} {Z : List ArcT} {s t : Int} {F : List Int} (h : endsE n Z s t = 0) (h2 : flowE n Z F = 0) (h3 : restB s t 0 (balsL n Z F) = false) : valE n Z s t F = 71 := by unfold valE; rw [if_pos h, if_pos h2, if_neg (by simp [h3])]
theorem valE_yes {n : Int} {Z : List ArcT} {s t : Int} {F : List Int} (h : endsE n Z s t = 0) (h2 : flowE n Z F = 0) (h3 : restB s t 0 (balsL n Z F) = true) : valE n Z s t F = 0 := by unfold valE; rw [if_pos h, if_pos h2, if_pos h3]
theorem valE_ok {n : Int} {Z : List ArcT} {s t : Int} {F : List Int} (h : valE n Z s t F = 0) : endsE n Z s t = 0 ∧ flowE n Z F = 0 ∧ restB s t 0 (balsL n Z F) = true := by
  unfold valE at h
  split at h
  · next h1 =>
    split at h
    · next h2 =>
      split at h
      · next h3 => exact ⟨h1, h2, h3⟩
      · cases h
    · next h2 => exact absurd h h2
  · next h1 => exact absurd h h1
theorem valK_no {n : Int} {Z : List ArcT} {s t : Int} {F : List Int} (h : valE n Z s t F ≠ 0) : valK n Z s t F = 0 := by unfold valK; rw [if_neg h]
section
variable (n : Int) (b : Bool) (ao fo : Option Addr) (cap fc : Nat) (Z : List ArcT) (s t : Int) (F : List Int)
theorem balance_is (e0 : Int) (L : List Int) (w : World) (h : Row encA 4 w ao Z) (hf : Lst encI w fo F) (hz : Z.length ≤ maxLen) (hfl : F.length ≤ maxLen) (he : flowE n Z F = e0) (hL : balsL n Z F = L) :
    Calls Try.prog 34 #[.agg #[.int .i64 n, .bool b, .slice ao Z.length cap], .slice fo F.length fc] w (ListsV L e0 w) := by subst he; subst hL; exact balance_any n b ao fo cap fc Z F w h hf hz hfl
theorem rbalance_is (e0 : Int) (L : List Int) (w : World) (h : Row encA 4 w ao Z) (hf : Lst encI w fo F) (hz : Z.length ≤ maxLen) (hfl : F.length ≤ maxLen) (he : flowE n Z F = e0) (hL : balsL n Z F = L) :
    Calls Try.prog 33 #[.agg #[.int .i64 n, .bool b, .slice ao Z.length cap], .slice fo F.length fc] w (ListsV L e0 w) := by subst he; subst hL; exact rbalance_any n b ao fo cap fc Z F w h hf hz hfl
set_option maxRecDepth 100000 in
set_option maxHeartbeats 4000000 in
theorem rscheck_any (w : World) (h : Row encA 4 w ao Z) (hf : Lst encI w fo F) (hz : Z.length ≤ maxLen) (hfl : F.length ≤ maxLen) :
    Calls Try.prog 19 #[.agg #[.int .i64 n, .bool b, .slice ao Z.length cap], .int .i64 s, .int .i64 t, .slice fo F.length fc] w fun e w' => e = .returned (.tuple #[.int .i64 (valK n Z s t F), .int .i64 (valE n Z s t F)]) ∧ Below w.heap.size w w' := by
  have hb00 := (Below.refl _ w).alloc (Nat.le_refl _) (.cells #[.int .i64 n, .bool b, .slice ao Z.length cap] 24)
  have HB0 := Lib.hid hb00
  have HN := Lib.hid (heap_alloc_new w (.cells #[.int .i64 n, .bool b, .slice ao Z.length cap] 24))
  have HR := Lib.hid (h.below' hb00)
  have HF := Lib.hid (hf.below hb00)
  have HZ := Lib.hid hz
  have HFM := Lib.hid hfl
  clear h hf hz hfl hb00
  by_cases h1 : endsE n Z s t = 0
  · have HE := Lib.hid h1
    obtain ⟨L, hL⟩ : ∃ L, balsL n Z F = L := ⟨_, rfl⟩
    have HL := Lib.hid hL
    by_cases h2 : flowE n Z F = 0
    · have HE2 := Lib.hid h2
      obtain ⟨_, i, j, rfl, rfl, hi, hj, hij⟩ := endsE_ok h1
      obtain ⟨hR, hF, hzl, hfl, hn1, hn2⟩ := flow_facts (b := b) h2
      obtain ⟨N, rfl⟩ : ∃ N : Nat, n = (N : Int) := ⟨n.toNat, by omega⟩
      rw [Int.toNat_natCast] at hi hj
      have hLL : L.length = N := by rw [← hL]; unfold balsL; rw [if_pos h2, balL_len, Int.toNat_natCast]
      have hLat : ∀ v, v < N → L[v]? = some (bal Z F v) := by
        intro v hv
        have e : L = balL Z F N Z.length := by rw [← hL]; unfold balsL; rw [if_pos h2, Int.toNat_natCast]
        have := atI_get (d := L) (v := v) (by omega)
        rw [e] at this ⊢
        rw [this, balL_at _ _ _ hv]; rfl
      have HLI := Lib.hid (hLat i hi)
      have HV0 : Hid (restB (i : Int) (j : Int) 0 L = true → valE (N : Int) Z (i : Int) (j : Int) F = 0 ∧ valK (N : Int) Z (i : Int) (j : Int) F = bal Z F i) := Lib.hid (fun hr => by
        have e := valE_yes h1 h2 (by rw [hL]; exact hr)
        exact ⟨e, by unfold valK; rw [if_pos e, Int.toNat_natCast]⟩)
      have HV1 : Hid (restB (i : Int) (j : Int) 0 L = false → valE (N : Int) Z (i : Int) (j : Int) F = 71 ∧ valK (N : Int) Z (i : Int) (j : Int) F = 0) := Lib.hid (fun hr => by
        have e := valE_bad h1 h2 (by rw [hL]; exact hr)
        exact ⟨e, valK_no (by rw [e]; decide)⟩)
      generalize bal Z F i = bi at *
      have hLb : L.length ≤ 50 := by omega
      have HLN := Lib.hid hLL
      clear h1 h2 hL hLat hR hF hzl hfl hLL
      go_enter Try.func19, Try.ntmps19
      go_wp2_with (first
        | (go_at_call 31; refine (rends_is (N : Int) b ao cap Z (i : Int) (j : Int) 0 _ HR.out HZ.out HE.out).mono ?_; rintro e w1 ⟨rfl, hb1⟩; have hn1 := kept_box HN.out hb1; have HN1 := Lib.hid hn1; have HR1 := Lib.hid (HR.out.below' hb1); have HF1 := Lib.hid (HF.out.below hb1); have HB1 := Lib.hid (HB0.out.trans (hb1.mono HB0.out.size)); have x1 := cell_whole hn1 0; have y1 := cell_whole hn1 1; have z1 := cell_whole hn1 2; clear hb1 hn1)
        | (go_at_call 33; refine (rbalance_is (N : Int) b ao fo cap fc Z F 0 L _ HR1.out HF1.out HZ.out HFM.out HE2.out HL.out).mono ?_; rintro e w2 ⟨la, lc, rfl, hl2, hb2⟩; have HLS := Lib.hid hl2; have x2 := cell_whole (kept_box HN1.out hb2) 0; have HB2 := Lib.hid (HB1.out.trans (hb2.mono HB1.out.size)); clear hl2 hb2 x1 y1 z1))
      go_loop [13] (fun i' => ∃ k : Nat, k ≤ L.length ∧ i' = .int .i64 (k : Int) ∧ Hid (restB (i : Int) (j : Int) k (L.drop k) = restB (i : Int) (j : Int) 0 L)) (fun i' => L.length - (intOf i').toNat)
      case atStart => exact ⟨0, Nat.zero_le _, rfl, Lib.hid rfl⟩
      case round =>
        obtain ⟨k, hk, rfl, HA⟩ := hrel
        by_cases hlt : k < L.length
        · have hli : (k : Int) < (L.length : Int) := by omega
          have hkN : (k : Int) < (N : Int) := by rw [HLN.out] at hli; exact hli
          obtain ⟨lb, lx, e, hlb, d0⟩ := lst_cell HLS.out (List.getElem?_eq_getElem hlt)
          cases e
          have HD := Lib.hid (restB_drop (s := (i : Int)) (t := (j : Int)) hlt)
          unfold encI at d0
          generalize L[k] = x at *
          by_cases e1 : k = i
          · have HA2 : Hid (restB (i : Int) (j : Int) (k + 1) (L.drop (k + 1)) = restB (i : Int) (j : Int) 0 L) := Lib.hid (by rw [← HA.out, HD.out, okN_s (by rw [e1])]; rfl)
            have b1 : ((k : Int) != (i : Int)) = false := by simp; omega
            have b2 : (k != i) = false := by simp; omega
            clear e1
            go_wp2
            go_round
            case rel => exact ⟨k + 1, by omega, by go_num, HA2⟩
            case measure => simp [intOf]; omega
          · have b1 : ((k : Int) != (i : Int)) = true := by simp; omega
            have b2 : (k != i) = true := by simp; omega
            by_cases e2 : k = j
            · have HA2 : Hid (restB (i : Int) (j : Int) (k + 1) (L.drop (k + 1)) = restB (i : Int) (j : Int) 0 L) := Lib.hid (by rw [← HA.out, HD.out, okN_t (by rw [e2])]; rfl)
              have b3 : ((k : Int) != (j : Int)) = false := by simp; omega
              have b4 : (k != j) = false := by simp; omega
              clear e1 e2
              go_wp2
              go_round
              case rel => exact ⟨k + 1, by omega, by go_num, HA2⟩
              case measure => simp [intOf]; omega
            · have b3 : ((k : Int) != (j : Int)) = true := by simp; omega
              have b4 : (k != j) = true := by simp; omega
              by_cases e3 : x = 0
              · subst e3
                have HA2 : Hid (restB (i : Int) (j : Int) (k + 1) (L.drop (k + 1)) = restB (i : Int) (j : Int) 0 L) := Lib.hid (by rw [← HA.out, HD.out, okN_0 rfl]; rfl)
                clear e1 e2
                go_wp2
                go_round
                case rel => exact ⟨k + 1, by omega, by go_num, HA2⟩
                case measure => simp [intOf]; omega
              · have b5 : (x != 0) = true := by simpa using e3
                have HX : Hid (restB (i : Int) (j : Int) 0 L = false) := Lib.hid (by rw [← HA.out, HD.out, okN_no (by omega) (by omega) e3]; rfl)
                clear e1 e2 e3
                go_wp2
                go_ret2
                obtain ⟨q1, q2⟩ := HV1.out HX.out
                exact ⟨by rw [q1, q2]; rfl, HB2.out⟩
        · have hli : ¬ (k : Int) < (L.length : Int) := by omega
          have hkN : ¬ (k : Int) < (N : Int) := by rw [HLN.out] at hli; exact hli
          obtain rfl : k = L.length := by omega
          have HX : Hid (restB (i : Int) (j : Int) 0 L = true) := Lib.hid (by rw [← HA.out, List.drop_eq_nil_of_le (Nat.le_refl _)]; rfl)
          obtain ⟨lb, lx, e, hlb, d0⟩ := lst_cell HLS.out HLI.out
          cases e
          unfold encI at d0
          have hil : (i : Int) < (L.length : Int) := by rw [HLN.out]; omega
          have hil2 : i < L.length := by omega
          go_wp2
          go_ret2
          obtain ⟨q1, q2⟩ := HV0.out HX.out
          exact ⟨by rw [q1, q2]; rfl, HB2.out⟩
    · have hv := valE_flow h1 h2
      rw [valK_no (by rw [hv]; exact h2), hv]
      obtain ⟨e0, he0⟩ : ∃ e0, flowE n Z F = e0 := ⟨_, rfl⟩
      rw [he0] at h2 ⊢
      have HE2 := Lib.hid he0
      have hf2 : (e0 != 0) = true := by simpa using h2
      have hf1 : (e0 == 0) = false := by simpa using h2
      clear h1 h2 hv he0 hL
      go_enter Try.func19, Try.ntmps19
      go_wp2_with (first
        | (go_at_call 31; refine (rends_is n b ao cap Z s t 0 _ HR.out HZ.out HE.out).mono ?_; rintro e w1 ⟨rfl, hb1⟩; have hn1 := kept_box HN.out hb1; have HR1 := Lib.hid (HR.out.below' hb1); have HF1 := Lib.hid (HF.out.below hb1); have HB1 := Lib.hid (HB0.out.trans (hb1.mono HB0.out.size)); have x1 := cell_whole hn1 0; have y1 := cell_whole hn1 1; have z1 := cell_whole hn1 2; clear hb1 hn1)
        | (go_at_call 33; refine (rbalance_is n b ao fo cap fc Z F e0 L _ HR1.out HF1.out HZ.out HFM.out HE2.out HL.out).mono ?_; rintro e w2 ⟨la, lc, rfl, hl2, hb2⟩; have HB2 := Lib.hid (HB1.out.trans (hb2.mono HB1.out.size)); clear hl2 hb2 x1 y1 z1))
      go_ret2
      exact ⟨rfl, HB2.out⟩
  · have hv := valE_ends (F := F) h1
    rw [valK_no (by rw [hv]; exact h1), hv]
    obtain ⟨e0, he0⟩ : ∃ e0, endsE n Z s t = e0 := ⟨_, rfl⟩
    rw [he0] at h1 ⊢
    have HE := Lib.hid he0
    have hf2 : (e0 != 0) = true := by simpa using h1
    have hf1 : (e0 == 0) = false := by simpa using h1
    clear h1 hv he0
    go_enter Try.func19, Try.ntmps19
    go_wp2_with (go_at_call 31; refine (rends_is n b ao cap Z s t e0 _ HR.out HZ.out HE.out).mono ?_; rintro e w1 ⟨rfl, hb1⟩; have HB1 := Lib.hid (HB0.out.trans (hb1.mono HB0.out.size)); clear hb1)
    go_ret2
    exact ⟨rfl, HB1.out⟩
end
end Go.Proofs.Ytbolpjahmmjllaa
