/- The walk of statement PileRounds: for any list and any number, it returns true, and only new memory is made. -/
import Derived.Test.YtfcpdknonhgnoaaPList
namespace Go.Proofs.Ytfcpdknonhgnoaa
open Go.RowKit
set_option linter.unusedVariables false

/-- The list and the queue as they stand, place a waiting first, place i to be put next. -/
def RoundInv (w0 w : World) (ad : Addr) (Z : List Int) (qb qg k a i : Nat) : Prop :=
  QIs w qb qg k (seg Z a i) ∧ RI w (some ad) Z ∧ Below w0.heap.size w0 w ∧ w0.heap.size ≤ qb ∧ w0.heap.size ≤ qg ∧ ad.block < w0.heap.size
theorem RoundInv.next {w0 w w' : World} {ad : Addr} {Z : List Int} {qb qg k a i a' i' : Nat} {S : Nat → Prop} (h : RoundInv w0 w ad Z qb qg k a i) (hk : Kept S w w') (hs : ∀ i, S i → i = qb ∨ i = qg) (hq : QIs w' qb qg k (seg Z a' i')) : RoundInv w0 w' ad Z qb qg k a' i' := by
  obtain ⟨h1, h2, h3, h4, h5, h6⟩ := h
  have hb : Below w0.heap.size w w' := hk.below h3.size (fun i hi => by rcases hs i hi with e | e <;> omega)
  refine ⟨hq, fun j hj => ?_, h3.trans hb, h4, h5, h6⟩
  obtain ⟨ad', e, b1, b2⟩ := h2 j hj
  obtain rfl := Option.some.inj e
  exact ⟨ad, rfl, Nat.lt_of_lt_of_le b1 hb.size, by rw [hb.cell (by rw [add_block]; exact h6)]; exact b2⟩
theorem RoundInv.drew {w0 w w' : World} {ad : Addr} {Z : List Int} {qb qg k a i n : Nat} (h : RoundInv w0 w ad Z qb qg k a i) (e : w' = w.drewN n) : RoundInv w0 w' ad Z qb qg k a i := by
  subst e
  have hk := (Kept.refl (fun _ => False) w).drewN n
  exact h.next hk (fun _ h => h.elim) (h.1.kept hk (fun h => h) (fun h => h))
theorem RoundInv.cell {w0 w : World} {ad : Addr} {Z : List Int} {qb qg k a i : Nat} (h : RoundInv w0 w ad Z qb qg k a i) {j : Nat} {z : Int} (hj : j < Z.length) (hz : Z.getD j 0 = z) : w.cell? (ad.add j) = some (.int .i64 z) := by
  subst hz
  obtain ⟨ad', e, b1, b2⟩ := h.2.1 j hj
  obtain rfl := Option.some.inj e
  exact b2
theorem rounds_long (ao : Option Addr) (len cap : Nat) (wt : Int) (w : World) (h : 200 < len) (hm : len ≤ maxLen) :
    Calls Try.prog 7 #[.slice ao len cap, .int .i64 wt] w fun e w' => e = .returned (.bool true) ∧ Below w.heap.size w w' := by
  unfold maxLen at hm
  go_enter Try.func7, Try.ntmps7
  go_wp2_with (go_at_call 8; refine (awake_any _).mono ?_; rintro e w1 ⟨rfl, hb1⟩)
  go_ret
  exact ⟨rfl, hb1⟩
theorem and15 (wt : Int) : bits .and .i64 wt 15 = wt % 16 := by
  have := i64_and_mask wt 4 (by omega)
  simpa using this
set_option maxRecDepth 100000 in
set_option maxHeartbeats 2000000 in
theorem rounds_some (ad : Addr) (cap : Nat) (Z : List Int) (wt : Int) (w : World) (h : Z.length ≤ 200) (hr : RI w (some ad) Z) (hab : ad.block < w.heap.size) :
    Calls Try.prog 7 #[.slice (some ad) Z.length cap, .int .i64 wt] w fun e w' => e = .returned (.bool true) ∧ Below w.heap.size w w' := by
  have HR := Lib.hid hr
  clear hr
  have h15 := and15 wt
  obtain ⟨k, hk⟩ : ∃ k : Nat, wt % 16 = (k : Int) := ⟨(wt % 16).toNat, by omega⟩
  have hk1 : k ≤ 15 := by omega
  rw [hk] at h15
  clear hk
  have hd : decide ((200 : Int) < (Z.length : Int)) = false := decide_eq_false (by omega)
  go_enter Try.func7, Try.ntmps7
  go_wp2_with (first | (go_at_call 8; refine (awake_any _).mono ?_; rintro e w1 ⟨rfl, hb1⟩; have HR1 := Lib.hid (HR.out.below hb1); have HB1 := Lib.hid hb1; clear hb1) | (go_at_call 18; refine (newq_at _ (k + 1) _ (by omega) (by omega)).mono ?_; rintro e w2 ⟨qb, qg, hqb, hqg, rfl, hq2, hk2⟩; have HI : Hid (RoundInv w w2 ad Z qb qg (k + 1) 0 0) := Lib.hid ⟨(by rw [seg_self]; exact hq2), HR1.out.below hk2, HB1.out.trans (hk2.mono HB1.out.size), Nat.le_trans HB1.out.size hqb, Nat.le_trans HB1.out.size hqg, hab⟩; clear hq2 hk2 HR1 HB1))
  clear hd h15
  go_loopw [9, 10] (fun sa si wr => ∃ (a i : Nat), a ≤ i ∧ i ≤ Z.length ∧ i - a ≤ k + 1 ∧ Hid (RoundInv w wr ad Z qb qg (k + 1) a i) ∧ sa = .int .i64 (a : Int) ∧ si = .int .i64 (i : Int)) (fun _ si _ => Z.length - (intOf si).toNat)
  case atStart => exact ⟨0, 0, by omega, by omega, by omega, HI, rfl, rfl⟩
  case round =>
    clear HI
    obtain ⟨a, i, hai, hil, hak, HI, rfl, rfl⟩ := hrel
    by_cases hlt : i < Z.length
    · have hli : (i : Int) < (Z.length : Int) := by omega
      have hla : (a : Int) ≤ (Z.length : Int) := by omega
      obtain ⟨z, hz⟩ : ∃ z, Z.getD i 0 = z := ⟨_, rfl⟩
      obtain ⟨y, hy⟩ : ∃ y, Z.getD a 0 = y := ⟨_, rfl⟩
      have HZ := Lib.hid hz
      have HY := Lib.hid hy
      by_cases hf : i - a = k + 1
      · have HL : Hid ((((seg Z a i).length : Nat) : Int) = 1 + (k : Int)) := Lib.hid (by rw [seg_len Z hil]; omega)
        have hlaa : (a : Int) < (Z.length : Int) := by omega
        have hC := seg_cons Z (a := a) (i := i) (by omega) hil
        have hS := seg_snoc Z (a := a + 1) (i := i) (by omega) hlt
        rw [hy] at hC
        rw [hz] at hS
        have HC := Lib.hid hC
        have HS := Lib.hid hS
        clear hC hS hy hz
        have HN : Hid ((seg Z (a + 1) i).length < k + 1) := Lib.hid (by rw [seg_len Z hil]; omega)
        go_wp2_with (first
          | (go_at_call 24; refine (qlen_any qb qg (k + 1) _ _ HI.out.1).mono ?_; rintro e w3 ⟨rfl, n3, h3⟩; rw [HL.out]; have HI3 := Lib.hid (HI.out.drew h3); clear h3)
          | (go_at_call 20; refine (take_yes qb qg (k + 1) (seg Z (a + 1) i) y _ (by rw [← HC.out]; exact HI3.out.1)).mono ?_; rintro e w4 ⟨rfl, q4, k4⟩; have HI4 := Lib.hid (HI3.out.next k4 (fun _ h => .inl h) q4); have c4 := HI4.out.cell (j := a) (by omega) HY.out; have d4 := HI4.out.cell hlt HZ.out; clear q4 k4)
          | (go_at_call 22; refine (put_yes qb qg (k + 1) (seg Z (a + 1) i) _ _ HI4.out.1 HN.out).mono ?_; rintro e w5 ⟨rfl, q5, k5⟩; have HI5 := Lib.hid (HI4.out.next (a' := a + 1) (i' := i + 1) k5 (fun _ h => h) (by rw [HS.out]; exact q5)); clear q5 k5))
        go_roundw
        case rel => exact ⟨a + 1, i + 1, by omega, by omega, by omega, HI5, by go_num, by go_num⟩
        case measure => simp [intOf]; omega
      · obtain ⟨m, hm⟩ : ∃ m : Nat, i - a = m := ⟨_, rfl⟩
        have HL : Hid ((((seg Z a i).length : Nat) : Int) = (m : Int)) := Lib.hid (by rw [seg_len Z hil]; omega)
        have hne : ((m : Int) == 1 + (k : Int)) = false := by simp; omega
        have hS := seg_snoc Z (a := a) (i := i) hai hlt
        rw [hz] at hS
        have HS := Lib.hid hS
        clear hS hy hz
        have HN : Hid ((seg Z a i).length < k + 1) := Lib.hid (by rw [seg_len Z hil]; omega)
        have HM := Lib.hid hm
        clear hm hf
        go_wp2_with (first
          | (go_at_call 24; refine (qlen_any qb qg (k + 1) _ _ HI.out.1).mono ?_; rintro e w3 ⟨rfl, n3, h3⟩; rw [HL.out]; have HI3 := Lib.hid (HI.out.drew h3); have d4 := HI3.out.cell hlt HZ.out; clear h3)
          | (go_at_call 22; refine (put_yes qb qg (k + 1) (seg Z a i) _ _ HI3.out.1 HN.out).mono ?_; rintro e w5 ⟨rfl, q5, k5⟩; have HI5 := Lib.hid (HI3.out.next (a' := a) (i' := i + 1) k5 (fun _ h => h) (by rw [HS.out]; exact q5)); clear q5 k5))
        have hl1 := HN.out
        rw [seg_len Z hil] at hl1
        go_roundw
        case rel => exact ⟨a, i + 1, by omega, by omega, by omega, HI5, rfl, by go_num⟩
        case measure => simp [intOf]; omega
    · obtain rfl : i = Z.length := by omega
      go_wp2
      go_loopw [9] (fun sa wr => ∃ (a : Nat), a ≤ Z.length ∧ Hid (RoundInv w wr ad Z qb qg (k + 1) a Z.length) ∧ sa = .int .i64 (a : Int)) (fun sa _ => Z.length - (intOf sa).toNat)
      case atStart => exact ⟨a, by omega, HI, rfl⟩
      case round =>
        clear HI hai hak hlt hil
        obtain ⟨a, hal, HI, rfl⟩ := hrel
        by_cases hlt : a < Z.length
        · have hlaa : (a : Int) < (Z.length : Int) := by omega
          obtain ⟨y, hy⟩ : ∃ y, Z.getD a 0 = y := ⟨_, rfl⟩
          have HY := Lib.hid hy
          have hC := seg_cons Z (a := a) (i := Z.length) (by omega) (Nat.le_refl _)
          rw [hy] at hC
          have HC := Lib.hid hC
          clear hC hy
          go_wp2_with (first
            | (go_at_call 20; refine (take_yes qb qg (k + 1) (seg Z (a + 1) Z.length) y _ (by rw [← HC.out]; exact HI.out.1)).mono ?_; rintro e w4 ⟨rfl, q4, k4⟩; have HI4 := Lib.hid (HI.out.next (a' := a + 1) (i' := Z.length) k4 (fun _ h => .inl h) q4); have c4 := HI4.out.cell hlt HY.out; clear q4 k4))
          go_roundw
          case rel => exact ⟨a + 1, by omega, HI4, by go_num⟩
          case measure => simp [intOf]; omega
        · obtain rfl : a = Z.length := by omega
          have HE : Hid (QIs wr qb qg (k + 1) []) := Lib.hid (by have := HI.out.1; rwa [seg_self] at this)
          go_wp2_with (first
            | (go_at_call 20; refine (take_no qb qg (k + 1) _ HE.out).mono ?_; rintro e w4 ⟨rfl, n4, h4⟩; have HI4 := Lib.hid (HI.out.drew h4); have HE4 : Hid (QIs w4 qb qg (k + 1) []) := Lib.hid (by have := HI4.out.1; rwa [seg_self] at this); clear h4)
            | (go_at_call 24; refine (qlen_any qb qg (k + 1) [] _ HE4.out).mono ?_; rintro e w5 ⟨rfl, n5, h5⟩; have HI5 := Lib.hid (HI4.out.drew h5); clear h5))
          go_ret
          exact ⟨rfl, HI5.out.2.2.1⟩
set_option maxRecDepth 100000 in
set_option maxHeartbeats 2000000 in
theorem rounds_none (ao : Option Addr) (cap : Nat) (wt : Int) (w : World) :
    Calls Try.prog 7 #[.slice ao 0 cap, .int .i64 wt] w fun e w' => e = .returned (.bool true) ∧ Below w.heap.size w w' := by
  have h15 := and15 wt
  obtain ⟨k, hk⟩ : ∃ k : Nat, wt % 16 = (k : Int) := ⟨(wt % 16).toNat, by omega⟩
  have hk1 : k ≤ 15 := by omega
  rw [hk] at h15
  clear hk
  go_enter Try.func7, Try.ntmps7
  go_wp2_with (first | (go_at_call 8; refine (awake_any _).mono ?_; rintro e w1 ⟨rfl, hb1⟩; have HB1 := Lib.hid hb1; clear hb1) | (go_at_call 18; refine (newq_at _ (k + 1) _ (by omega) (by omega)).mono ?_; rintro e w2 ⟨qb, qg, hqb, hqg, rfl, hq2, hk2⟩; have HQ := Lib.hid hq2; have HB2 := Lib.hid (HB1.out.trans (hk2.mono HB1.out.size)); clear hq2 hk2 HB1))
  refine wp_loop_rounds 1 ?_
  rw [rounds_succ]
  go_wp2
  refine wp_loop_rounds 1 ?_
  rw [rounds_succ]
  go_wp2_with (first
    | (go_at_call 20; refine (take_no qb qg (k + 1) _ HQ.out).mono ?_; rintro e w4 ⟨rfl, n4, h4⟩; have HQ4 : Hid (QIs w4 qb qg (k + 1) []) := Lib.hid (by subst h4; exact HQ.out); have HW4 := Lib.hid h4; clear h4)
    | (go_at_call 24; refine (qlen_any qb qg (k + 1) [] _ HQ4.out).mono ?_; rintro e w5 ⟨rfl, n5, h5⟩; have HW5 := Lib.hid h5; clear h5))
  go_ret
  have h5 := HW5.out
  have h4 := HW4.out
  subst h4
  subst h5
  have hb := HB2.out
  exact ⟨rfl, ⟨hb.os, hb.tape, hb.output, hb.size, hb.block⟩⟩
theorem rounds_any (ao : Option Addr) (len cap : Nat) (Z : List Int) (wt : Int) (w : World) (hl : Z.length = len) (hm : len ≤ maxLen) (hr : RI w ao Z) :
    Calls Try.prog 7 #[.slice ao len cap, .int .i64 wt] w fun e w' => e = .returned (.bool true) ∧ Below w.heap.size w w' := by
  by_cases h : 200 < len
  · exact rounds_long ao len cap wt w h hm
  · subst hl
    cases Z with
    | nil => exact rounds_none ao cap wt w
    | cons z Z =>
      obtain ⟨ad, rfl, h1, _⟩ := hr 0 (by simp)
      exact rounds_some ad cap _ wt w (by omega) hr h1
theorem rounds_law (w : World) (ao : Option Addr) (len cap : Nat) (Z : List Int) (hl : Z.length = len) (hm : len ≤ maxLen) (hr : RI w ao Z) (wt : Int) (hw : -9223372036854775808 ≤ wt ∧ wt ≤ 9223372036854775807) :
    Calls Try.prog 7 #[.slice ao len cap, .int .i64 wt] w fun e w' => e = .returned (.bool true) ∧ Below w.heap.size w w' := rounds_any ao len cap Z wt w hl hm hr
end Go.Proofs.Ytfcpdknonhgnoaa
