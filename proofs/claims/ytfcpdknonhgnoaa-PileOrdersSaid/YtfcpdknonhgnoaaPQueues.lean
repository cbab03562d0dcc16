/- The walk of statement PileQueues: for any room and any acts it returns true, and only new memory is made. -/
import Derived.Test.YtfcpdknonhgnoaaPView
import Derived.Test.YtfcpdknonhgnoaaPQref
namespace Go.Proofs.Ytfcpdknonhgnoaa
open Go.RowKit
set_option linter.unusedVariables false

/-- The acts, the queue and the document's queue as they stand. -/
def QInv (w0 w : World) (ao : Option Addr) (A : List (Int × Int × Int)) (qb qg rb : Nat) (G : Option Nat) (most : Nat) (lq lr : List Int) : Prop :=
  QIs w qb qg most lq ∧ RQIs w rb G most lr ∧ rb ≠ qb ∧ rb ≠ qg ∧ G ≠ some qb ∧ G ≠ some qg ∧ w0.heap.size ≤ qb ∧ w0.heap.size ≤ qg ∧ w0.heap.size ≤ rb ∧ (∀ g, G = some g → w0.heap.size ≤ g) ∧
  RA w ao A ∧ Below w0.heap.size w0 w ∧ (∀ ad, ao = some ad → 0 < A.length → ad.block < w0.heap.size)
section
variable {w0 w w' : World} {ao : Option Addr} {ab ax : Nat} {A : List (Int × Int × Int)} {qb qg rb : Nat} {G G' : Option Nat} {most : Nat} {lq lr lq' lr' : List Int}
theorem RA.below' (h : RA w ao A) (hb : Below w0.heap.size w w') (hB : ∀ ad, ao = some ad → 0 < A.length → ad.block < w0.heap.size) : RA w' ao A := by
  intro i hi
  exact h.below hb (fun ad e => hB ad e (by omega)) i hi
theorem QInv.qnext {S : Nat → Prop} (h : QInv w0 w ao A qb qg rb G most lq lr) (k : Kept S w w') (hs : ∀ i, S i → i = qb ∨ i = qg) (hq : QIs w' qb qg most lq') : QInv w0 w' ao A qb qg rb G most lq' lr := by
  obtain ⟨h1, h2, h3, h4, h5, h6, h7, h8, h9, h10, h11, h12, h13⟩ := h
  have hb : Below w0.heap.size w w' := k.below h12.size (fun i hi => by rcases hs i hi with e | e <;> omega)
  refine ⟨hq, h2.kept k (fun h => ?_) (fun g hg h => ?_), h3, h4, h5, h6, h7, h8, h9, h10, h11.below' hb h13, h12.trans hb, h13⟩
  · rcases hs _ h with e | e
    · exact h3 e
    · exact h4 e
  · rcases hs _ h with e | e
    · exact h5 (by rw [hg, e])
    · exact h6 (by rw [hg, e])
theorem QInv.rnext {S : Nat → Prop} (h : QInv w0 w ao A qb qg rb G most lq lr) (k : Kept S w w') (hs : ∀ i, S i → i = rb ∨ some i = G) (hq : RQIs w' rb G' most lr') (hG : G' = G ∨ ∃ k, G' = some k ∧ w.heap.size ≤ k) : QInv w0 w' ao A qb qg rb G' most lq lr' := by
  obtain ⟨h1, h2, h3, h4, h5, h6, h7, h8, h9, h10, h11, h12, h13⟩ := h
  have hl := h1.lt
  have hb : Below w0.heap.size w w' := k.below h12.size (fun i hi => by
    rcases hs i hi with e | e
    · omega
    · exact h10 i e.symm)
  refine ⟨h1.kept k (fun h => ?_) (fun h => ?_), hq, h3, h4, ?_, ?_, h7, h8, h9, ?_, h11.below' hb h13, h12.trans hb, h13⟩
  · rcases hs _ h with e | e
    · exact h3 e.symm
    · exact h5 e.symm
  · rcases hs _ h with e | e
    · exact h4 e.symm
    · exact h6 e.symm
  · rcases hG with rfl | ⟨k, rfl, hk⟩
    · exact h5
    · intro e; cases e; omega
  · rcases hG with rfl | ⟨k, rfl, hk⟩
    · exact h6
    · intro e; cases e; omega
  · intro g hg
    rcases hG with rfl | ⟨k, rfl, hk⟩
    · exact h10 g hg
    · cases hg; exact Nat.le_trans h12.size hk
theorem QInv.drew {n : Nat} (h : QInv w0 w ao A qb qg rb G most lq lr) (e : w' = w.drewN n) : QInv w0 w' ao A qb qg rb G most lq lr := by
  subst e
  have hk := (Kept.refl (fun _ => False) w).drewN n
  exact h.qnext hk (fun _ h => h.elim) (h.1.kept hk (fun h => h) (fun h => h))
theorem QInv.drew1 (h : QInv w0 w ao A qb qg rb G most lq lr) : QInv w0 w.drew ao A qb qg rb G most lq lr := by
  have hk := (Kept.refl (fun _ => False) w).drew
  exact h.qnext hk (fun _ h => h.elim) (h.1.kept hk (fun h => h) (fun h => h))
theorem QInv.act (h : QInv w0 w (some ⟨ab, ax, none⟩) A qb qg rb G most lq lr) {i : Nat} {x : Int × Int × Int} (hi : i < A.length) (hx : A.getD i (0, 0, 0) = x) : w.cell? ⟨ab, ax + i * 3 + 1, none⟩ = some (.int .i64 x.2.1) := by
  obtain ⟨b, o, e, _, _, h2, _⟩ := h.2.2.2.2.2.2.2.2.2.2.1 i hi
  cases e
  rw [hx] at h2
  exact h2
end
theorem RQIs.slice {w : World} {b : Nat} {G : Option Nat} {most : Nat} {l : List Int} (h : RQIs w b G most l) : ∃ ao cap, w.cell? ⟨b, 1, none⟩ = some (.slice ao l.length cap) := by
  obtain ⟨hn, v, hb, hv⟩ := h
  obtain ⟨ao, cap, rfl⟩ := hv.len
  have c1 := cell_whole hb 1
  exact ⟨ao, cap, by simpa using c1⟩
theorem and7 (x : Int) : bits .and .i64 x 7 = x % 8 := by
  have := i64_and_mask x 3 (by omega)
  simpa using this
theorem queues_no (n : Int) (ao : Option Addr) (len cap : Nat) (w : World) (h : n < 0 ∨ 65536 < n) :
    Calls Try.prog 4 #[.int .i64 n, .slice ao len cap] w fun e w' => e = .returned (.bool true) ∧ Below w.heap.size w w' := by
  go_enter Try.func4, Try.ntmps4
  go_wp2_with (first | (go_at_call 8; refine (awake_any _).mono ?_; rintro e w1 ⟨rfl, hb1⟩; have HB1 := Lib.hid hb1; clear hb1) | (go_at_call 18; refine (newq_no _ _ h).mono ?_; rintro e w' ⟨rfl, rfl⟩) | (go_at_call 19; refine (rnewq_no _ _ h).mono ?_; rintro e w' ⟨rfl, rfl⟩))
  refine wp_loop_rounds 1 ?_
  rw [rounds_succ]
  go_wp2
  go_ret
  exact ⟨rfl, HB1.out⟩
set_option maxRecDepth 100000 in
set_option maxHeartbeats 4000000 in
theorem queues_yes (most : Nat) (ao : Option Addr) (cap : Nat) (A : List (Int × Int × Int)) (w : World) (hmo : most ≤ 65536) (hm : A.length ≤ maxLen) (hr : RA w ao A) (hab : ∀ ad, ao = some ad → 0 < A.length → ad.block < w.heap.size) :
    Calls Try.prog 4 #[.int .i64 (most : Int), .slice ao A.length cap] w fun e w' => e = .returned (.bool true) ∧ Below w.heap.size w w' := by
  unfold maxLen at hm
  have HR := Lib.hid hr
  have HAB := Lib.hid hab
  clear hr hab
  go_enter Try.func4, Try.ntmps4
  go_wp2_with (first
    | (go_at_call 8; refine (awake_any _).mono ?_; rintro e w1 ⟨rfl, hb1⟩; have HB1 := Lib.hid hb1; clear hb1)
    | (go_at_call 18; refine (newq_yes most _ hmo).mono ?_; rintro e w2 ⟨qb, qg, hqb, hqg, rfl, hq2, hk2⟩; have HQ2 := Lib.hid hq2; have HB2 := Lib.hid (HB1.out.trans (hk2.mono HB1.out.size)); have hqb2 := Nat.le_trans HB1.out.size hqb; have hqg2 := Nat.le_trans HB1.out.size hqg; clear hq2 hk2 HB1 hqb hqg)
    | (go_at_call 19; refine (rnewq_yes most _ hmo).mono ?_; rintro e w3 ⟨rb, hrb, rfl, hr3, hk3⟩; have HI : Hid (QInv w w3 ao A qb qg rb none most [] []) := Lib.hid (by have hl := HQ2.out.lt; have hbb := HB2.out.trans (hk3.mono HB2.out.size); exact ⟨HQ2.out.kept (Kept.of_below (S := fun _ => False) hk3) (fun h => h) (fun h => h), hr3, (by omega), (by omega), (by simp), (by simp), hqb2, hqg2, Nat.le_trans HB2.out.size hrb, (fun g h => by cases h), HR.out.below' hbb HAB.out, hbb, HAB.out⟩); clear hr3 hk3 HQ2 HB2))
  go_loopw [10] (fun si wr => ∃ (i : Nat) (l : List Int) (G : Option Nat), i ≤ 300 ∧ i ≤ A.length ∧ Hid (QInv w wr ao A qb qg rb G most l l) ∧ si = .int .i64 (i : Int)) (fun si _ => 300 - (intOf si).toNat)
  case atStart => exact ⟨0, [], none, by omega, by omega, HI, rfl⟩
  case round =>
    clear HI HR HAB
    obtain ⟨i, l, G, hi3, hil, HI, rfl⟩ := hrel
    by_cases hlt : i < A.length
    · by_cases h300 : i < 300
      · have hli : (i : Int) < (A.length : Int) := by omega
        have hl3 : (i : Int) < 300 := by omega
        obtain ⟨ab, ax, rfl, hadb, c0, c1, c2⟩ := HI.out.2.2.2.2.2.2.2.2.2.2.1 i hlt
        obtain ⟨x, hx⟩ : ∃ x, A.getD i (0, 0, 0) = x := ⟨_, rfl⟩
        rw [hx] at c0 c1 c2
        have HX := Lib.hid hx
        have h7 := and7 x.1
        clear c2 hx
        by_cases h4 : 4 ≤ x.1 % 8
        · cases l with
          | nil =>
            go_wp2_with (first
              | (go_at_call 20; refine (take_no qb qg most _ HI.out.1).mono ?_; rintro e w4 ⟨rfl, n4, h4⟩; have HI4 := Lib.hid (HI.out.drew h4); clear h4)
              | (go_at_call 21; refine (rtake_no rb G most _ HI4.out.2.1).mono ?_; rintro e w' ⟨rfl, rfl⟩; obtain ⟨ao5, cap5, c5⟩ := HI4.out.2.1.slice))
            go_quiet ((go_at_call 24; exact Calls.quiet_of (qlen_any qb qg most [] _ HI4.out.1)))
            go_wp2
            go_roundw
            case rel => exact ⟨i + 1, [], G, by omega, by omega, Lib.hid (HI4.out.drew rfl), by go_num⟩
            case measure => simp [intOf]; omega
          | cons y l =>
            have hl1 : l.length + 1 ≤ most := by have := HI.out.1.lt.2.2.1; simpa using this
            go_wp2_with (first
              | (go_at_call 20; refine (take_yes qb qg most l y _ HI.out.1).mono ?_; rintro e w4 ⟨rfl, q4, k4⟩; have HI4 := Lib.hid (HI.out.qnext k4 (fun _ h => .inl h) q4); clear q4 k4)
              | (go_at_call 21; refine (rtake_yes rb G most y l _ HI4.out.2.1 (by omega)).mono ?_; rintro e w5 ⟨rfl, q5, k5⟩; have HI5 := Lib.hid (HI4.out.rnext k5 (fun _ h => .inl h) q5 (.inl rfl)); obtain ⟨ao5, cap5, c5⟩ := HI5.out.2.1.slice; clear q5 k5))
            go_quiet ((go_at_call 24; exact Calls.quiet_of (qlen_any qb qg most l _ HI5.out.1)))
            go_wp2
            go_roundw
            case rel => exact ⟨i + 1, l, G, by omega, by omega, Lib.hid (HI5.out.drew rfl), by go_num⟩
            case measure => simp [intOf]; omega
        · by_cases hfull : l.length = most
          · have HF := Lib.hid hfull
            have HD := Lib.hid HI.out.drew1
            clear hfull
            go_wp2_with fail
            go_region_held3 (fun W => W.cell? ⟨ab, ax + i * 3 + 1, none⟩ = some (.int .i64 x.2.1)) (first | go_keep | exact (HI4.out.act hlt HX.out) | exact (HI5.out.act hlt HX.out))
              (first
                | (go_at_call 22; refine (put_no qb qg most l _ _ HD.out.1 HF.out).mono ?_; rintro e w4 ⟨rfl, n4, h4⟩; have HI4 := Lib.hid (HD.out.drew h4); clear h4)
                | (go_at_call 23; refine (rput_no rb G most l _ _ HI4.out.2.1 HF.out hmo).mono ?_; rintro e w5 ⟨rfl, n5, h5⟩; have HI5 := Lib.hid (HI4.out.drew h5); obtain ⟨ao5, cap5, c5⟩ := HI5.out.2.1.slice; clear h5))
            go_wp2
            go_quiet ((go_at_call 24; exact Calls.quiet_of (qlen_any qb qg most l _ HI5.out.1)))
            go_wp2
            go_roundw
            case rel => exact ⟨i + 1, l, G, by omega, by omega, Lib.hid (HI5.out.drew rfl), by go_num⟩
            case measure => simp [intOf]; omega
          · have hnl : l.length < most := by have := HI.out.1.lt.2.2.1; omega
            have HD := Lib.hid HI.out.drew1
            clear hfull
            go_wp2_with fail
            go_region_held3 (fun W => W.cell? ⟨ab, ax + i * 3 + 1, none⟩ = some (.int .i64 x.2.1)) (first | go_keep | exact (HI4.out.act hlt HX.out) | exact (HI5.out.act hlt HX.out))
              (first
                | (go_at_call 22; refine (put_yes qb qg most l _ _ HD.out.1 hnl).mono ?_; rintro e w4 ⟨rfl, q4, k4⟩; have HI4 := Lib.hid (HD.out.qnext k4 (fun _ h => h) q4); clear q4 k4)
                | (go_at_call 23; refine (rput_yes rb G most l _ _ HI4.out.2.1 hnl hmo).mono ?_; rintro e w5 ⟨G5, rfl, q5, k5, g5⟩; have HI5 := Lib.hid (HI4.out.rnext k5 (fun _ h => h) q5 g5); obtain ⟨ao5, cap5, c5⟩ := HI5.out.2.1.slice; clear q5 k5 g5))
            go_wp2
            go_quiet ((go_at_call 24; exact Calls.quiet_of (qlen_any qb qg most (l ++ [x.2.1]) _ HI5.out.1)))
            go_wp2
            go_roundw
            case rel => exact ⟨i + 1, l ++ [x.2.1], G5, by omega, by omega, Lib.hid (HI5.out.drew rfl), by go_num⟩
            case measure => simp [intOf]; omega
      · have hli : (i : Int) < (A.length : Int) := by omega
        have hl3 : (300 : Int) ≤ (i : Int) := by omega
        go_wp2
        go_ret
        exact ⟨rfl, HI.out.2.2.2.2.2.2.2.2.2.2.2.1⟩
    · have hli : (A.length : Int) ≤ (i : Int) := by omega
      go_wp2
      go_ret
      exact ⟨rfl, HI.out.2.2.2.2.2.2.2.2.2.2.2.1⟩
theorem queues_law (w : World) (n : Int) (hn : -9223372036854775808 ≤ n ∧ n ≤ 9223372036854775807) (ao : Option Addr) (len cap : Nat) (A : List (Int × Int × Int)) (hl : A.length = len) (hm : len ≤ maxLen) (hr : RA w ao A) :
    Calls Try.prog 4 #[.int .i64 n, .slice ao len cap] w fun e w' => e = .returned (.bool true) ∧ Below w.heap.size w w' := by
  by_cases h : n < 0 ∨ 65536 < n
  · exact queues_no n ao len cap w h
  · obtain ⟨most, rfl⟩ : ∃ most : Nat, n = (most : Int) := ⟨n.toNat, by omega⟩
    subst hl
    exact queues_yes most ao cap A w (by omega) hm hr (fun ad e h0 => by
      obtain ⟨b, o, e', hb, _⟩ := hr 0 h0
      rw [e] at e'
      cases e'
      exact hb)
end Go.Proofs.Ytfcpdknonhgnoaa
