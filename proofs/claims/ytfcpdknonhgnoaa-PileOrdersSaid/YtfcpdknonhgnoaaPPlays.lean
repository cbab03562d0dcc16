/- The walk of statement PilePlays: for any room and any acts it returns true, and only new memory is made. -/
import Derived.Test.YtfcpdknonhgnoaaPView
import Derived.Test.YtfcpdknonhgnoaaPRpush
import Derived.Test.YtfcpdknonhgnoaaPQueues
namespace Go.Proofs.Ytfcpdknonhgnoaa
open Go.RowKit
set_option linter.unusedVariables false

theorem ne_pair (x1 x2 y1 y2 : Int) (w : World) : (binOp .neq 34 (.agg #[.int .i64 x1, .int .i64 x2]) (.agg #[.int .i64 y1, .int .i64 y2])).run Try.prog w = .ok (.bool (!(x1 == y1 && x2 == y2))) w := by
  have u3 := Try.underlying3
  have a3 := Try.isAgg3
  have z3 := Try.sizeOf3
  have hS : Try.prog.underlying 34 = some (.struct (Try.prog.fieldsOf 34)) := by kernel_rfl
  have hp : Try.prog.stoodInHeld 34 = false := by kernel_rfl
  rw [run_neq_struct, show (10000 : Nat) = 9999 + 1 from rfl, run_equalIn_agg w 9999 34 _ _ hS hp]
  simp only [Program.fieldsOf, Try.underlying34]
  go_simp
  by_cases h1 : x1 = y1 <;> by_cases h2 : x2 = y2 <;> simp [h1, h2]
theorem cell_two {w : World} {r : Nat} {a b : Value} {t : TypeId} (h : w.heap[r]? = some (.cells #[a, b] t (0, 0))) : w.cell? ⟨r, 0, none⟩ = some a ∧ w.cell? ⟨r, 1, none⟩ = some b := by
  have e0 := cell_whole h 0
  have e1 := cell_whole h 1
  exact ⟨by simpa using e0, by simpa using e1⟩
theorem two_cells {w : World} {r : Nat} {a b : Value} {t : TypeId} {o : Obj} (h : w.heap[r]? = some (.cells #[a, b] t (0, 0))) : (w.alloc o).cell? ⟨r, 0, none⟩ = some a ∧ (w.alloc o).cell? ⟨r, 1, none⟩ = some b := by
  have e0 := cell_whole (alloc_whole h o) 0
  have e1 := cell_whole (alloc_whole h o) 1
  exact ⟨by simpa using e0, by simpa using e1⟩
/-- The acts, the pile and the document's pile as they stand. -/
def PInv (w0 w : World) (ao : Option Addr) (A : List (Int × Int × Int)) (pb : Nat) (PG : Option Nat) (rb : Nat) (RG : Option Nat) (most : Nat) (Lp Lr : List (Int × Int)) : Prop :=
  Pl w pb PG most Lp ∧ RPIs w rb RG most Lr ∧ rb ≠ pb ∧ PG ≠ some rb ∧ RG ≠ some pb ∧ (∀ g, PG = some g → RG ≠ some g) ∧ w0.heap.size ≤ pb ∧ w0.heap.size ≤ rb ∧ (∀ g, PG = some g → w0.heap.size ≤ g) ∧
  RA w ao A ∧ Below w0.heap.size w0 w ∧ (∀ ad, ao = some ad → 0 < A.length → ad.block < w0.heap.size)
section
variable {w0 w w' : World} {ao : Option Addr} {ab ax : Nat} {A : List (Int × Int × Int)} {pb rb : Nat} {PG RG PG' RG' : Option Nat} {most : Nat} {Lp Lr Lp' Lr' : List (Int × Int)}
theorem PInv.pnext {S : Nat → Prop} (h : PInv w0 w ao A pb PG rb RG most Lp Lr) (k : Kept S w w') (hs : ∀ i, S i → i = pb ∨ some i = PG) (hq : Pl w' pb PG' most Lp') (hG : PG' = PG ∨ ∃ k, PG' = some k ∧ w.heap.size ≤ k) : PInv w0 w' ao A pb PG' rb RG most Lp' Lr := by
  obtain ⟨h1, h2, h3, h4, h5, h6, h7, h8, h9, h10, h11, h12⟩ := h
  have hl := h2.lt
  have hb : Below w0.heap.size w w' := k.below h11.size (fun i hi => by
    rcases hs i hi with e | e
    · omega
    · exact h9 i e.symm)
  refine ⟨hq, h2.kept k (fun h => ?_) (fun g hg h => ?_), h3, ?_, h5, ?_, h7, h8, ?_, h10.below' hb h12, h11.trans hb, h12⟩
  · rcases hs _ h with e | e
    · exact h3 e
    · exact h4 e.symm
  · rcases hs _ h with e | e
    · exact h5 (by rw [hg, e])
    · exact h6 g e.symm hg
  · rcases hG with rfl | ⟨k, rfl, hk⟩
    · exact h4
    · intro e; cases e; omega
  · intro g hg hr
    rcases hG with rfl | ⟨k, rfl, hk⟩
    · exact h6 g hg hr
    · cases hg; have := hl.2 _ hr; omega
  · intro g hg
    rcases hG with rfl | ⟨k, rfl, hk⟩
    · exact h9 g hg
    · cases hg; exact Nat.le_trans h11.size hk
theorem PInv.rnext {S : Nat → Prop} (h : PInv w0 w ao A pb PG rb RG most Lp Lr) (k : Kept S w w') (hs : ∀ i, S i → i = rb) (hq : RPIs w' rb RG' most Lr') (hG : RG' = RG ∨ ∃ k, RG' = some k ∧ w.heap.size ≤ k) : PInv w0 w' ao A pb PG rb RG' most Lp Lr' := by
  obtain ⟨h1, h2, h3, h4, h5, h6, h7, h8, h9, h10, h11, h12⟩ := h
  have hl := h1.lt
  have hb : Below w0.heap.size w w' := k.below h11.size (fun i hi => by have := hs i hi; omega)
  refine ⟨h1.kept k (fun h => ?_) (fun g hg h => ?_), hq, h3, h4, ?_, ?_, h7, h8, h9, h10.below' hb h12, h11.trans hb, h12⟩
  · exact h3 (hs _ h).symm
  · exact h4 (by rw [hg, hs _ h])
  · rcases hG with rfl | ⟨k, rfl, hk⟩
    · exact h5
    · intro e; cases e; omega
  · intro g hg hr
    rcases hG with rfl | ⟨k, rfl, hk⟩
    · exact h6 g hg hr
    · cases hr; have := hl.2.1 _ hg; omega
theorem PInv.below (h : PInv w0 w ao A pb PG rb RG most Lp Lr) (k : Below w.heap.size w w') : PInv w0 w' ao A pb PG rb RG most Lp Lr := by
  have k' := Kept.of_below (S := fun _ => False) k
  exact h.pnext k' (fun _ h => h.elim) (h.1.kept k' (fun h => h) (fun _ _ h => h)) (.inl rfl)
theorem PInv.act (h : PInv w0 w (some ⟨ab, ax, none⟩) A pb PG rb RG most Lp Lr) {i : Nat} {x : Int × Int × Int} (hi : i < A.length) (hx : A.getD i (0, 0, 0) = x) : w.cell? ⟨ab, ax + i * 3 + 1, none⟩ = some (.int .i64 x.2.1) ∧ w.cell? ⟨ab, ax + i * 3 + 2, none⟩ = some (.int .i64 x.2.2) := by
  obtain ⟨b, o, e, _, _, h2, h3⟩ := h.2.2.2.2.2.2.2.2.2.1 i hi
  cases e
  rw [hx] at h2 h3
  exact ⟨h2, h3⟩
end
theorem plays_no (n : Int) (ao : Option Addr) (len cap : Nat) (w : World) (h : n < 0 ∨ 65536 < n) :
    Calls Try.prog 3 #[.int .i64 n, .slice ao len cap] w fun e w' => e = .returned (.bool true) ∧ Below w.heap.size w w' := by
  go_enter Try.func3, Try.ntmps3
  go_wp2_with (first | (go_at_call 8; refine (awake_any _).mono ?_; rintro e w1 ⟨rfl, hb1⟩; have HB1 := Lib.hid hb1; clear hb1) | (go_at_call 9; refine (new_no _ _ h).mono ?_; rintro e w' ⟨rfl, rfl⟩) | (go_at_call 10; refine (rnew_no _ _ h).mono ?_; rintro e w' ⟨rfl, rfl⟩))
  refine wp_loop_rounds 1 ?_
  rw [rounds_succ]
  go_wp2
  go_ret
  exact ⟨rfl, HB1.out⟩
set_option maxRecDepth 100000 in
set_option maxHeartbeats 8000000 in
theorem plays_yes (most : Nat) (ao : Option Addr) (cap : Nat) (A : List (Int × Int × Int)) (w : World) (hmo : most ≤ 65536) (hm : A.length ≤ maxLen) (hr : RA w ao A) (hab : ∀ ad, ao = some ad → 0 < A.length → ad.block < w.heap.size) :
    Calls Try.prog 3 #[.int .i64 (most : Int), .slice ao A.length cap] w fun e w' => e = .returned (.bool true) ∧ Below w.heap.size w w' := by
  unfold maxLen at hm
  have HR := Lib.hid hr
  have HAB := Lib.hid hab
  clear hr hab
  go_enter Try.func3, Try.ntmps3
  go_wp2_with (first
    | (go_at_call 8; refine (awake_any _).mono ?_; rintro e w1 ⟨rfl, hb1⟩; have HB1 := Lib.hid hb1; clear hb1)
    | (go_at_call 9; refine (new_yes most _ hmo).mono ?_; rintro e w2 ⟨pb, hpb, rfl, hq2, hk2⟩; have HQ2 := Lib.hid hq2; have HB2 := Lib.hid (HB1.out.trans (hk2.mono HB1.out.size)); have hpb2 := Nat.le_trans HB1.out.size hpb; clear hq2 hk2 HB1 hpb)
    | (go_at_call 10; refine (rnew_yes most _ hmo).mono ?_; rintro e w3 ⟨rb, hrb, rfl, hr3, hk3⟩; have HI : Hid (PInv w w3 ao A pb none rb none most [] []) := Lib.hid (by have hl := HQ2.out.lt; have hbb := HB2.out.trans (hk3.mono HB2.out.size); exact ⟨HQ2.out.kept (Kept.of_below (S := fun _ => False) hk3) (fun h => h) (fun _ _ h => h), hr3, (by omega), (by simp), (by simp), (fun g h => by cases h), hpb2, Nat.le_trans HB2.out.size hrb, (fun g h => by cases h), HR.out.below' hbb HAB.out, hbb, HAB.out⟩); clear hr3 hk3 HQ2 HB2))
  go_loopw [10] (fun si wr => ∃ (i : Nat) (L : List (Int × Int)) (PG RG : Option Nat), i ≤ 300 ∧ i ≤ A.length ∧ Hid (PInv w wr ao A pb PG rb RG most L L) ∧ si = .int .i64 (i : Int)) (fun si _ => 300 - (intOf si).toNat)
  case atStart => exact ⟨0, [], none, none, by omega, by omega, HI, rfl⟩
  case round =>
    clear HI HR HAB
    obtain ⟨i, L, PG, RG, hi3, hil, HI, rfl⟩ := hrel
    by_cases hlt : i < A.length
    · by_cases h300 : i < 300
      · have hli : (i : Int) < (A.length : Int) := by omega
        have hl3 : (i : Int) < 300 := by omega
        obtain ⟨ab, ax, rfl, hadb, c0, c1, c2⟩ := HI.out.2.2.2.2.2.2.2.2.2.1 i hlt
        obtain ⟨x, hx⟩ : ∃ x, A.getD i (0, 0, 0) = x := ⟨_, rfl⟩
        rw [hx] at c0 c1 c2
        have HX := Lib.hid hx
        have h7 := and7 x.1
        clear hx
        obtain ⟨t, ht⟩ : ∃ t, x.1 % 8 = t := ⟨_, rfl⟩
        have ht0 : 0 ≤ t := by omega
        have ht8 : t < 8 := by omega
        rw [ht] at h7
        clear ht
        by_cases h4 : t = 4
        · subst h4
          clear ht0 ht8 c1 c2
          cases L with
          | nil =>
            have e1 := fun W => ne_pair 0 0 0 0 W
            go_wp2_with (first
              | (go_at_call 11; refine (pop_no pb PG most _ HI.out.1).mono ?_; rintro e w4 ⟨rfl, hb4⟩; have HI4 := Lib.hid ((HI.out.below hb4).below ((Below.refl _ w4).alloc (Nat.le_refl _) (.cells #[.int .i64 0, .int .i64 0] 34))); clear hb4)
              | (go_at_call 12; refine (rpop_no rb RG most _ HI4.out.2.1).mono ?_; rintro e w5 ⟨rfl, hb5⟩; have hx5 := old_block hb5; have HI5 := Lib.hid (HI4.out.below hb5); have cx := two_cells hx5 (o := .cells #[.int .i64 0, .int .i64 0] 34); have cx0 := cx.1; have cx1 := cx.2; have hs5 := lt_whole hx5; have hn5 : w4.heap.size ≠ w5.heap.size := (by omega); clear hb5 hx5 cx))
            go_roundw
            case rel => exact ⟨i + 1, [], PG, RG, by omega, by omega, Lib.hid (HI5.out.below ((Below.refl _ w5).alloc (Nat.le_refl _) _)), by go_num⟩
            case measure => simp [intOf]; omega
          | cons y L =>
            have hL : L.length ≤ 65536 := by have := HI.out.1.lt.2.2.2.1; simp at this; omega
            have e1 := fun W => ne_pair y.1 y.2 y.1 y.2 W
            have e2 : (!(y.1 == y.1 && y.2 == y.2)) = false := by simp
            go_wp2_with (first
              | (go_at_call 11; refine (pop_yes pb PG most y L _ HI.out.1).mono ?_; rintro e w4 ⟨rfl, q4, k4⟩; have hi4 := HI.out.pnext k4 (fun _ h => h) q4 (.inl rfl); have hrs := hi4.2.1.lt.1; have HI4 := Lib.hid (hi4.below ((Below.refl _ w4).alloc (Nat.le_refl _) (.cells #[.int .i64 y.1, .int .i64 y.2] 34))); clear q4 k4 hi4)
              | (go_at_call 12; refine (rpop_yes rb RG most y L _ HI4.out.2.1 hL).mono ?_; rintro e w5 ⟨rfl, q5, k5⟩; have hx5 := k5.old (heap_alloc_new w4 _) (fun e => by omega); have HI5 := Lib.hid (HI4.out.rnext k5 (fun _ h => h) q5 (.inl rfl)); have cx := two_cells hx5 (o := .cells #[.int .i64 y.1, .int .i64 y.2] 34); have cx0 := cx.1; have cx1 := cx.2; have hs5 := lt_whole hx5; have hn5 : w4.heap.size ≠ w5.heap.size := (by omega); clear q5 k5 hx5 cx))
            go_roundw
            case rel => exact ⟨i + 1, L, PG, RG, by omega, by omega, Lib.hid (HI5.out.below ((Below.refl _ w5).alloc (Nat.le_refl _) _)), by go_num⟩
            case measure => simp [intOf]; omega
        have b4 : (t == 4) = false := by simp; omega
        clear h4
        by_cases h5 : t = 5
        · subst h5
          clear ht0 ht8 c1 c2
          cases L with
          | nil =>
            have e1 := fun W => ne_pair 0 0 0 0 W
            go_wp2_with (first
              | (go_at_call 11; refine (pop_no pb PG most _ HI.out.1).mono ?_; rintro e w4 ⟨rfl, hb4⟩; have HI4 := Lib.hid ((HI.out.below hb4).below ((Below.refl _ w4).alloc (Nat.le_refl _) (.cells #[.int .i64 0, .int .i64 0] 34))); clear hb4)
              | (go_at_call 12; refine (rpop_no rb RG most _ HI4.out.2.1).mono ?_; rintro e w5 ⟨rfl, hb5⟩; have hx5 := old_block hb5; have HI5 := Lib.hid (HI4.out.below hb5); have cx := two_cells hx5 (o := .cells #[.int .i64 0, .int .i64 0] 34); have cx0 := cx.1; have cx1 := cx.2; have hs5 := lt_whole hx5; have hn5 : w4.heap.size ≠ w5.heap.size := (by omega); clear hb5 hx5 cx))
            go_roundw
            case rel => exact ⟨i + 1, [], PG, RG, by omega, by omega, Lib.hid (HI5.out.below ((Below.refl _ w5).alloc (Nat.le_refl _) _)), by go_num⟩
            case measure => simp [intOf]; omega
          | cons y L =>
            have hL : L.length ≤ 65536 := by have := HI.out.1.lt.2.2.2.1; simp at this; omega
            have e1 := fun W => ne_pair y.1 y.2 y.1 y.2 W
            have e2 : (!(y.1 == y.1 && y.2 == y.2)) = false := by simp
            go_wp2_with (first
              | (go_at_call 11; refine (pop_yes pb PG most y L _ HI.out.1).mono ?_; rintro e w4 ⟨rfl, q4, k4⟩; have hi4 := HI.out.pnext k4 (fun _ h => h) q4 (.inl rfl); have hrs := hi4.2.1.lt.1; have HI4 := Lib.hid (hi4.below ((Below.refl _ w4).alloc (Nat.le_refl _) (.cells #[.int .i64 y.1, .int .i64 y.2] 34))); clear q4 k4 hi4)
              | (go_at_call 12; refine (rpop_yes rb RG most y L _ HI4.out.2.1 hL).mono ?_; rintro e w5 ⟨rfl, q5, k5⟩; have hx5 := k5.old (heap_alloc_new w4 _) (fun e => by omega); have HI5 := Lib.hid (HI4.out.rnext k5 (fun _ h => h) q5 (.inl rfl)); have cx := two_cells hx5 (o := .cells #[.int .i64 y.1, .int .i64 y.2] 34); have cx0 := cx.1; have cx1 := cx.2; have hs5 := lt_whole hx5; have hn5 : w4.heap.size ≠ w5.heap.size := (by omega); clear q5 k5 hx5 cx))
            go_roundw
            case rel => exact ⟨i + 1, L, PG, RG, by omega, by omega, Lib.hid (HI5.out.below ((Below.refl _ w5).alloc (Nat.le_refl _) _)), by go_num⟩
            case measure => simp [intOf]; omega
        have b5 : (t == 5) = false := by simp; omega
        clear h5
        by_cases h6 : t = 6
        · subst h6
          clear ht0 ht8 c1 c2
          cases L with
          | nil =>
            have e1 := fun W => ne_pair 0 0 0 0 W
            go_wp2_with (first
              | (go_at_call 13; refine (least_no pb PG most _ HI.out.1).mono ?_; rintro e w4 ⟨rfl, hb4⟩; have HI4 := Lib.hid ((HI.out.below hb4).below ((Below.refl _ w4).alloc (Nat.le_refl _) (.cells #[.int .i64 0, .int .i64 0] 34))); clear hb4)
              | (go_at_call 14; refine (rleast_no rb RG most _ HI4.out.2.1).mono ?_; rintro e w5 ⟨rfl, hb5⟩; have hx5 := old_block hb5; have HI5 := Lib.hid (HI4.out.below hb5); have cx := two_cells hx5 (o := .cells #[.int .i64 0, .int .i64 0] 34); have cx0 := cx.1; have cx1 := cx.2; have hs5 := lt_whole hx5; have hn5 : w4.heap.size ≠ w5.heap.size := (by omega); clear hb5 hx5 cx))
            go_roundw
            case rel => exact ⟨i + 1, [], PG, RG, by omega, by omega, Lib.hid (HI5.out.below ((Below.refl _ w5).alloc (Nat.le_refl _) _)), by go_num⟩
            case measure => simp [intOf]; omega
          | cons y L =>
            have hL : L.length ≤ 65536 := by have := HI.out.1.lt.2.2.2.1; simp at this; omega
            have e1 := fun W => ne_pair y.1 y.2 y.1 y.2 W
            have e2 : (!(y.1 == y.1 && y.2 == y.2)) = false := by simp
            go_wp2_with (first
              | (go_at_call 13; refine (least_yes pb PG most y L _ HI.out.1).mono ?_; rintro e w4 ⟨rfl, hb4⟩; have HI4 := Lib.hid ((HI.out.below hb4).below ((Below.refl _ w4).alloc (Nat.le_refl _) (.cells #[.int .i64 y.1, .int .i64 y.2] 34))); clear hb4)
              | (go_at_call 14; refine (rleast_yes rb RG most y L _ HI4.out.2.1 hL).mono ?_; rintro e w5 ⟨rfl, hb5⟩; have hx5 := old_block hb5; have HI5 := Lib.hid (HI4.out.below hb5); have cx := two_cells hx5 (o := .cells #[.int .i64 y.1, .int .i64 y.2] 34); have cx0 := cx.1; have cx1 := cx.2; have hs5 := lt_whole hx5; have hn5 : w4.heap.size ≠ w5.heap.size := (by omega); clear hb5 hx5 cx))
            go_roundw
            case rel => exact ⟨i + 1, (y :: L), PG, RG, by omega, by omega, Lib.hid (HI5.out.below ((Below.refl _ w5).alloc (Nat.le_refl _) _)), by go_num⟩
            case measure => simp [intOf]; omega
        have b6 : (t == 6) = false := by simp; omega
        clear h6
        by_cases h7' : t = 7
        · subst h7'
          clear ht0 ht8 c1 c2
          obtain ⟨ao5, cap5, c5⟩ := HI.out.2.1.slice
          go_wp2
          go_quiet ((go_at_call 15; exact Calls.quiet_of_same (plen_any pb PG most L _ HI.out.1)))
          go_wp2
          go_roundw
          case rel => exact ⟨i + 1, L, PG, RG, by omega, by omega, Lib.hid (HI.out.below ⟨rfl, rfl, rfl, Nat.le_refl _, fun _ _ => rfl⟩), by go_num⟩
          case measure => simp [intOf]; omega
        have b7 : (t == 7) = false := by simp; omega
        clear h7'
        have hab : ab ≠ wr.heap.size := by omega
        go_wp2_with fail
        go_region_held3 (fun W => W.cell? ⟨ab, ax + i * 3 + 1, none⟩ = some (.int .i64 x.2.1) ∧ W.cell? ⟨ab, ax + i * 3 + 2, none⟩ = some (.int .i64 x.2.2)) (first | go_keep) (first | (go_at_call 15; skip))
        have hpl := HI.out.1.lt
        have hrl := HI.out.2.1.lt
        have HIX := Lib.hid (HI.out.below (((Below.refl _ wr).alloc (Nat.le_refl _) (.cells #[.int .i64 x.2.1, .int .i64 x.2.2] 34)).drew))
        have HXX : Hid ((wr.alloc (.cells #[.int .i64 x.2.1, .int .i64 x.2.2] 34)).drew.heap[wr.heap.size]? = some (.cells #[.int .i64 x.2.1, .int .i64 x.2.2] 34 (0, 0))) := Lib.hid (heap_alloc_new wr _)
        generalize hwx : (wr.alloc (.cells #[.int .i64 x.2.1, .int .i64 x.2.2] 34)).drew = wx at HIX HXX ⊢
        clear hwx
        have HNP : Hid (∀ S : Nat → Prop, (∀ i, S i → i = pb ∨ some i = PG) → ¬ S wr.heap.size) := Lib.hid (fun S hS h => by
          rcases hS _ h with e | e
          · omega
          · have := hpl.2.1 _ e.symm; omega)
        have hrn : wr.heap.size ≠ rb := by omega
        have x0 := (cell_two HXX.out).1
        have x1 := (cell_two HXX.out).2
        have HD := Lib.hid (HIX.out.below ((Below.refl _ wx).drew))
        have HDX : Hid (wx.drew.heap[wr.heap.size]? = some (.cells #[.int .i64 x.2.1, .int .i64 x.2.2] 34 (0, 0))) := HXX
        clear hpl hrl
        go_wp2_with fail
        by_cases hfull : L.length = most
        · have HF := Lib.hid hfull
          clear hfull
          go_region_held3 (fun W => W.cell? ⟨wr.heap.size, 0, none⟩ = some (.int .i64 x.2.1) ∧ W.cell? ⟨wr.heap.size, 1, none⟩ = some (.int .i64 x.2.2)) (first | go_keep | exact ⟨z0, z1⟩ | exact ⟨y0, y1⟩)
            (first
              | (go_at_call 16; refine (push_no pb PG most L x.2 _ HD.out.1 HF.out).mono ?_; rintro e w4 ⟨rfl, hb4⟩; have HI4 := Lib.hid (HD.out.below hb4); have hx4 := (hb4.block _ (lt_whole HDX.out)).trans HDX.out; have HX4 := Lib.hid hx4; have z0 := (cell_two hx4).1; have z1 := (cell_two hx4).2; clear hb4 hx4)
              | (go_at_call 17; refine (rpush_no rb RG most L x.2 _ HI4.out.2.1 HF.out hmo).mono ?_; rintro e w5 ⟨rfl, hb5⟩; have HI5 := Lib.hid (HI4.out.below hb5); have hx5 := (hb5.block _ (lt_whole HX4.out)).trans HX4.out; have y0 := (cell_two hx5).1; have y1 := (cell_two hx5).2; clear hb5 hx5))
          go_wp2
          go_roundw
          case rel => exact ⟨i + 1, L, PG, RG, by omega, by omega, HI5, by go_num⟩
          case measure => simp [intOf]; omega
        · have hnl : L.length < most := by have := HI.out.1.lt.2.2.2.1; omega
          clear hfull
          go_region_held3 (fun W => W.cell? ⟨wr.heap.size, 0, none⟩ = some (.int .i64 x.2.1) ∧ W.cell? ⟨wr.heap.size, 1, none⟩ = some (.int .i64 x.2.2)) (first | go_keep | exact ⟨z0, z1⟩ | exact ⟨y0, y1⟩)
            (first
              | (go_at_call 16; refine (push_yes pb PG most L x.2 _ HD.out.1 hnl).mono ?_; rintro e w4 ⟨PG4, rfl, q4, k4, g4⟩; have HI4 := Lib.hid (HD.out.pnext k4 (fun _ h => h) q4 g4); have hx4 := k4.old HDX.out (HNP.out _ (fun _ h => h)); have HX4 := Lib.hid hx4; have z0 := (cell_two hx4).1; have z1 := (cell_two hx4).2; clear q4 k4 g4 hx4)
              | (go_at_call 17; refine (rpush_yes rb RG most L x.2 _ HI4.out.2.1 hnl hmo).mono ?_; rintro e w5 ⟨g5, rfl, q5, k5, hg5⟩; have HI5 := Lib.hid (HI4.out.rnext k5 (fun _ h => h) q5 (.inr ⟨g5, rfl, hg5⟩)); have hx5 := k5.old HX4.out hrn; have y0 := (cell_two hx5).1; have y1 := (cell_two hx5).2; clear q5 k5 hg5 hx5))
          go_wp2
          go_roundw
          case rel => exact ⟨i + 1, insP x.2 L, PG4, some g5, by omega, by omega, HI5, by go_num⟩
          case measure => simp [intOf]; omega
      · have hli : (i : Int) < (A.length : Int) := by omega
        have hl3 : (300 : Int) ≤ (i : Int) := by omega
        go_wp2
        go_ret
        exact ⟨rfl, HI.out.2.2.2.2.2.2.2.2.2.2.1⟩
    · have hli : (A.length : Int) ≤ (i : Int) := by omega
      go_wp2
      go_ret
      exact ⟨rfl, HI.out.2.2.2.2.2.2.2.2.2.2.1⟩
theorem plays_law (w : World) (n : Int) (hn : -9223372036854775808 ≤ n ∧ n ≤ 9223372036854775807) (ao : Option Addr) (len cap : Nat) (A : List (Int × Int × Int)) (hl : A.length = len) (hm : len ≤ maxLen) (hr : RA w ao A) :
    Calls Try.prog 3 #[.int .i64 n, .slice ao len cap] w fun e w' => e = .returned (.bool true) ∧ Below w.heap.size w w' := by
  by_cases h : n < 0 ∨ 65536 < n
  · exact plays_no n ao len cap w h
  · obtain ⟨most, rfl⟩ : ∃ most : Nat, n = (most : Int) := ⟨n.toNat, by omega⟩
    subst hl
    exact plays_yes most ao cap A w (by omega) hm hr (fun ad e h0 => by
      obtain ⟨b, o, e', hb, _⟩ := hr 0 h0
      rw [e] at e'
      cases e'
      exact hb)
end Go.Proofs.Ytfcpdknonhgnoaa
