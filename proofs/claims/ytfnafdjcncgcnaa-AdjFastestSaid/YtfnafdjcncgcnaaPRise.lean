/- How a pair rises, and how one settles, in a pile's row: rise, firstBelow and settle. -/
import Derived.Test.YtfnafdjcncgcnaaPPile
import Derived.Test.YtfnafdjcncgcnaaPHeap
namespace Go.Proofs.Ytfnafdjcncgcnaa
open Go.RowKit Go.Sort
set_option linter.unusedVariables false

def Turned (b : Nat) (G : Option Nat) (most : Nat) (d : Array (Int × Int)) (w : World) (e : Ending) (w' : World) : Prop :=
  ∃ d', e = .returned (.tuple #[]) ∧ PIs w' b G most d' ∧ Heap d' ∧ d'.toList.Perm d.toList ∧ Kept (fun i => some i = G) w w'
set_option maxHeartbeats 1000000 in
theorem rise_any (b : Nat) (G : Option Nat) (most : Nat) (d : Array (Int × Int)) (k0 : Nat) (n : Int) (w : World) (h : PIs w b G most d) (hu : Up d k0) (hk : k0 < d.size) (hn : n = (k0 : Int) + 1) (hs : d.size ≤ 65536) :
    Calls Try.prog 49 #[.pointer (some ⟨b, 0, none⟩), .int .i64 n] w (Turned b G most d w) := by
  subst hn
  have H := Lib.hid h
  have HU := Lib.hid hu
  clear h hu
  go_enter Try.func49, Try.ntmps49
  go_wp2
  go_loopw [1] (fun s wr => ∃ (k : Nat) (dk : Array (Int × Int)), k < dk.size ∧ dk.size ≤ 65536 ∧ Hid (PIs wr b G most dk) ∧ Hid (Up dk k) ∧ Hid (dk.toList.Perm d.toList) ∧ Hid (Kept (fun i => some i = G) w wr) ∧ s = .int .i64 ((k : Int) + 1)) (fun s _ => (intOf s).toNat)
  case atStart => exact ⟨k0, d, hk, hs, H, HU, Lib.hid (List.Perm.refl _), Lib.hid (Kept.refl _ _), rfl⟩
  case round =>
    clear H HU hk hs
    obtain ⟨k, dk, hk, hs, HP, HU, HE, HK, rfl⟩ := hrel
    by_cases h0 : k = 0
    · subst h0
      go_wp2
      go_end0
      exact ⟨dk, rfl, HP.out, HU.out.top, HE.out, HK.out⟩
    · have h1 : (1 : Int) < (k : Int) + 1 := by omega
      have hpk : par k < dk.size := by unfold par; omega
      have hpi : ((k : Int) + 1) / 2 = (par k : Int) + 1 := by unfold par; omega
      have HPI := Lib.hid hpi
      clear hpi
      by_cases hl : ltP dk[k]! dk[par k]! = true
      · have HL := Lib.hid hl
        clear hl
        go_wp2_with (first | (go_at_call 54; refine (before_at b G most dk k (par k) _ _ _ HP.out rfl HPI.out hk hpk hs).mono ?_; rintro e w2 ⟨rfl, hb2⟩; rw [HL.out]; have HP2 := Lib.hid (HP.out.below hb2); have HK2 := Lib.hid (HK.out.trans' (Kept.of_below hb2)); clear hb2) | (go_at_call 47; refine (swap_at b G most dk k (par k) _ _ _ HP2.out rfl HPI.out hk hpk hs).mono ?_; rintro e w3 ⟨rfl, hp3, hk3⟩; have HP3 := Lib.hid hp3; have HK3 := Lib.hid (HK2.out.trans' hk3); clear hp3 hk3))
        go_roundw
        case rel => exact ⟨par k, swp dk k (par k), by rw [swp_size]; exact hpk, by rw [swp_size]; exact hs, HP3, Lib.hid (HU.out.step (by omega) hk HL.out), Lib.hid ((swp_perm dk hk hpk).trans HE.out), HK3, by rw [HPI.out]⟩
        case measure => simp [intOf]; omega
      · have HL : Hid (ltP dk[k]! dk[par k]! = false) := Lib.hid (by simpa using hl)
        clear hl
        go_wp2_with (first | (go_at_call 54; refine (before_at b G most dk k (par k) _ _ _ HP.out rfl HPI.out hk hpk hs).mono ?_; rintro e w2 ⟨rfl, hb2⟩; rw [HL.out]; have HP2 := Lib.hid (HP.out.below hb2); have HK2 := Lib.hid (HK.out.trans' (Kept.of_below hb2)); clear hb2))
        go_end0
        exact ⟨dk, rfl, HP2.out, HU.out.done HL.out, HE.out, HK2.out⟩
theorem or_one (k : Nat) (h : k ≤ 65536) : bits .or .i64 (((k : Int) + 1) * 2) 1 = ((k : Int) + 1) * 2 + 1 := by
  have := i64_or_one (k + 1) (by omega)
  rwa [show ((k + 1 : Nat) : Int) = (k : Int) + 1 by omega] at this
/-- Of the places below k one has a pair that no other one of them comes before. -/
def FB (d : Array (Int × Int)) (k : Nat) (w : World) (e : Ending) (w' : World) : Prop :=
  ∃ c : Nat, e = .returned (.int .i64 ((c : Int) + 1)) ∧ par c = k ∧ 1 ≤ c ∧ c < d.size ∧ (∀ t, 1 ≤ t → t < d.size → par t = k → ltP d[t]! d[c]! = false) ∧ Below w.heap.size w w'
theorem par_two {t k : Nat} (h : par t = k) (h1 : 1 ≤ t) : t = 2 * k + 1 ∨ t = 2 * k + 2 := by unfold par at h; omega
set_option maxHeartbeats 1000000 in
theorem below_any (b : Nat) (G : Option Nat) (most : Nat) (d : Array (Int × Int)) (k : Nat) (n : Int) (w : World) (h : PIs w b G most d) (hn : n = (k : Int) + 1) (hk : 2 * k + 1 < d.size) (hs : d.size ≤ 65536) :
    Calls Try.prog 53 #[.pointer (some ⟨b, 0, none⟩), .int .i64 n] w (FB d k w) := by
  subst hn
  have H := Lib.hid h
  clear h
  have ho := or_one k (by omega)
  by_cases hr : 2 * k + 2 < d.size
  · have hd : (((k : Int) + 1) * 2 + 1) ≤ (d.size : Int) := by omega
    cases hl : ltP d[2 * k + 2]! d[2 * k + 1]!
    · have HL := Lib.hid hl
      clear hl
      go_enter Try.func53, Try.ntmps53
      go_wp2_with (first | (go_at_call 35; refine (len_any b G most d _ H.out).mono ?_; rintro e w' ⟨rfl, rfl⟩) | (go_at_call 54; refine (before_at b G most d (2 * k + 2) (2 * k + 1) _ _ _ H.out (by omega) (by omega) hr hk hs).mono ?_; rintro e w2 ⟨rfl, hb2⟩; rw [HL.out]))
      go_ret
      refine ⟨2 * k + 1, ret_int (by omega), by unfold par; omega, by omega, hk, fun t h1 h2 h3 => ?_, hb2⟩
      rcases par_two h3 h1 with rfl | rfl
      · exact ltP_irrefl _
      · exact HL.out
    · have HL := Lib.hid hl
      clear hl
      go_enter Try.func53, Try.ntmps53
      go_wp2_with (first | (go_at_call 35; refine (len_any b G most d _ H.out).mono ?_; rintro e w' ⟨rfl, rfl⟩) | (go_at_call 54; refine (before_at b G most d (2 * k + 2) (2 * k + 1) _ _ _ H.out (by omega) (by omega) hr hk hs).mono ?_; rintro e w2 ⟨rfl, hb2⟩; rw [HL.out]))
      go_ret
      refine ⟨2 * k + 2, ret_int (by omega), by unfold par; omega, by omega, hr, fun t h1 h2 h3 => ?_, hb2⟩
      rcases par_two h3 h1 with rfl | rfl
      · exact ltP_asymm HL.out
      · exact ltP_irrefl _
  · have hd : (d.size : Int) < ((k : Int) + 1) * 2 + 1 := by omega
    go_enter Try.func53, Try.ntmps53
    go_wp2_with (first | (go_at_call 35; refine (len_any b G most d _ H.out).mono ?_; rintro e w' ⟨rfl, rfl⟩))
    go_ret
    refine ⟨2 * k + 1, ret_int (by omega), by unfold par; omega, by omega, hk, fun t h1 h2 h3 => ?_, Below.refl _ _⟩
    rcases par_two h3 h1 with rfl | rfl
    · exact ltP_irrefl _
    · omega
set_option maxHeartbeats 1000000 in
theorem settle_any (b : Nat) (G : Option Nat) (most : Nat) (d : Array (Int × Int)) (k0 : Nat) (n : Int) (w : World) (h : PIs w b G most d) (hu : Down d k0) (hk : k0 ≤ 65536) (hn : n = (k0 : Int) + 1) (hs : d.size ≤ 65536) :
    Calls Try.prog 48 #[.pointer (some ⟨b, 0, none⟩), .int .i64 n] w (Turned b G most d w) := by
  subst hn
  have H := Lib.hid h
  have HU := Lib.hid hu
  clear h hu
  go_enter Try.func48, Try.ntmps48
  go_wp2
  go_loopw [1] (fun s wr => ∃ (k : Nat) (dk : Array (Int × Int)), k ≤ 65536 ∧ dk.size ≤ 65536 ∧ Hid (PIs wr b G most dk) ∧ Hid (Down dk k) ∧ Hid (dk.toList.Perm d.toList) ∧ Hid (Kept (fun i => some i = G) w wr) ∧ s = .int .i64 ((k : Int) + 1)) (fun s _ => 65538 - (intOf s).toNat)
  case atStart => exact ⟨k0, d, hk, hs, H, HU, Lib.hid (List.Perm.refl _), Lib.hid (Kept.refl _ _), rfl⟩
  case round =>
    clear H HU hk hs
    obtain ⟨k, dk, hk, hs, HP, HU, HE, HK, rfl⟩ := hrel
    by_cases hc : 2 * k + 1 < dk.size
    · have hd : ((k : Int) + 1) * 2 ≤ (dk.size : Int) := by omega
      go_wp2_with (first | (go_at_call 35; refine (len_any b G most dk _ HP.out).mono ?_; rintro e w' ⟨rfl, rfl⟩) | (go_at_call 53; refine (below_any b G most dk k _ _ HP.out rfl hc hs).mono ?_; rintro e w2 ⟨c, rfl, hc1, hc2, hc3, hc4, hb2⟩; have HC1 := Lib.hid hc1; have HC4 := Lib.hid hc4; have HP2 := Lib.hid (HP.out.below hb2); have HK2 := Lib.hid (HK.out.trans' (Kept.of_below hb2)); clear hb2 hc1 hc4) | (go_at_call 54; refine (before_at b G most dk c k _ _ _ HP2.out rfl rfl hc3 (by omega) hs).mono ?_; rintro e w3 ⟨rfl, hb3⟩; generalize hq : ltP dk[c]! dk[k]! = q; have HQ := Lib.hid hq; clear hq; have HP3 := Lib.hid (HP2.out.below hb3); have HK3 := Lib.hid (HK2.out.trans' (Kept.of_below hb3)); clear hb3) | (go_at_call 47; refine (swap_at b G most dk k c _ _ _ HP3.out rfl rfl (by omega) hc3 hs).mono ?_; rintro e w4 ⟨rfl, hp4, hk4⟩; have HP4 := Lib.hid hp4; have HK4 := Lib.hid (HK3.out.trans' hk4); clear hp4 hk4))
      · have hq : q = false := by have h : (!q) = true := by assumption
                                  simpa using h
        refine bodyPost_ret (results_none rfl _ _ _) rfl ?_
        refine ⟨dk, rfl, HP3.out, HU.out.done (fun h => ?_) (fun h => ?_), HE.out, HK3.out⟩
        · exact ltP_ntrans (HC4.out _ (by omega) h (by unfold par; omega)) (HQ.out.trans hq)
        · exact ltP_ntrans (HC4.out _ (by omega) h (by unfold par; omega)) (HQ.out.trans hq)
      · have hq : q = true := by have h : (!q) = false := by assumption
                                 simpa using h
        have hpc := par_two HC1.out hc2
        go_roundw
        case rel => exact ⟨c, swp dk k c, by omega, by rw [swp_size]; exact hs, HP4, Lib.hid (HU.out.step HC1.out hc2 hc3 (HQ.out.trans hq) HC4.out), Lib.hid ((swp_perm dk (by omega) hc3).trans HE.out), HK4, rfl⟩
        case measure => simp [intOf]; omega
    · have hd : (dk.size : Int) < ((k : Int) + 1) * 2 := by omega
      go_wp2_with (first | (go_at_call 35; refine (len_any b G most dk _ HP.out).mono ?_; rintro e w' ⟨rfl, rfl⟩))
      go_end0
      exact ⟨dk, rfl, HP.out, HU.out.done (fun h => by omega) (fun h => by omega), HE.out, HK.out⟩
end Go.Proofs.Ytfnafdjcncgcnaa
