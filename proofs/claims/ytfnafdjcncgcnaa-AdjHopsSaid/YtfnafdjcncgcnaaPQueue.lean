/- What the queue's functions of package pile do, for any queue that NewQueue made: NewQueue, Len, Put and Take. -/
import Derived.Test.YtfnafdjcncgcnaaPKept
import Derived.Test.YtfnafdjcncgcnaaRows
import Derived.LoopTactic
import Derived.Deep.QuietTactic
import Derived.BigQuiet
import Derived.Deep.RegionHeld3
import Derived.Deep.OwnRows
namespace Go.Proofs.Ytfnafdjcncgcnaa
open Go.RowKit
set_option linter.unusedVariables false

theorem isroom_yes (n : Int) (w : World) (h0 : 0 ≤ n) (h1 : n ≤ 65536) : Calls Try.prog 43 #[.int .i64 n] w fun e w' => e = .returned (.bool true) ∧ w = w' := by
  go_enter Try.func43, Try.ntmps43
  go_wp2
  go_ret
  exact ⟨rfl, rfl⟩
theorem isroom_no (n : Int) (w : World) (h : n < 0 ∨ 65536 < n) : Calls Try.prog 43 #[.int .i64 n] w fun e w' => e = .returned (.bool false) ∧ w = w' := by
  rcases h with h | h
  · go_enter Try.func43, Try.ntmps43
    go_wp2
    go_ret
    exact ⟨rfl, rfl⟩
  · have h' : 0 ≤ n := by omega
    have hd : decide (n ≤ 65536) = false := decide_eq_false (by omega)
    go_enter Try.func43, Try.ntmps43
    go_wp2
    go_ret
    exact ⟨rfl, rfl⟩

def IsPow (R : Nat) : Prop := ∃ k, k ≤ 16 ∧ R = 2 ^ k
theorem IsPow.double {R : Nat} (h : IsPow R) (hr : R < 65536) : IsPow (R * 2) := by
  obtain ⟨k, hk, rfl⟩ := h
  have : k < 16 := (Nat.pow_lt_pow_iff_right (a := 2) (by omega)).1 (by omega)
  exact ⟨k + 1, by omega, by rw [Nat.pow_succ]⟩
theorem IsPow.le {R : Nat} (h : IsPow R) : 1 ≤ R ∧ R ≤ 65536 := by
  obtain ⟨k, hk, rfl⟩ := h
  have h1 : (2 : Nat) ^ k ≤ 2 ^ 16 := Nat.pow_le_pow_right (by omega) hk
  have h2 : 0 < (2 : Nat) ^ k := Nat.pow_pos (by omega)
  omega
def PowRes (n : Int) (w : World) (e : Ending) (w' : World) : Prop := ∃ R : Nat, IsPow R ∧ n ≤ (R : Int) ∧ e = .returned (.int .i64 (R : Int)) ∧ w = w'
theorem ring_any (n : Int) (w : World) (h0 : 0 ≤ n) (h1 : n ≤ 65536) : Calls Try.prog 44 #[.int .i64 n] w (PowRes n w) := by
  go_enter Try.func44, Try.ntmps44
  go_wp2
  go_loop [3] (fun s => ∃ R : Nat, 1 ≤ R ∧ R ≤ 65536 ∧ Hid (IsPow R) ∧ s = .int .i64 (R : Int)) (fun s => 65536 - (intOf s).toNat)
  case atStart => exact ⟨1, by omega, by omega, Lib.hid ⟨0, by omega, rfl⟩, rfl⟩
  case round =>
    obtain ⟨R, hR1, hR2, HP, rfl⟩ := hrel
    by_cases hlt : (R : Int) < n
    · have HP2 := Lib.hid (HP.out.double (by omega))
      have hb := HP2.out.le
      go_wp2
      go_round
      case rel => exact ⟨R * 2, by omega, by omega, HP2, by go_num⟩
      case measure => simp [intOf]; omega
    · go_wp2
      go_ret
      exact ⟨R, HP.out, by omega, rfl, rfl⟩


/-- A queue: its struct at block b, its ring at block g, room for most numbers, the numbers l. -/
def QIs (w : World) (b g most : Nat) (l : List Int) : Prop :=
  b ≠ g ∧ ∃ (R taken : Nat) (cur : Array Value), IsPow R ∧ most ≤ R ∧ taken < 4294967296 ∧ l.length ≤ most ∧
    w.heap[b]? = some (.cells #[.int .i64 (most : Int), .slice (some ⟨g, 0, none⟩) R R, .int .u32 (((taken + l.length) % 4294967296 : Nat) : Int), .int .u32 (taken : Int)] 70 (0, 0)) ∧
    w.heap[g]? = some (.cells cur 3 (0, 0)) ∧ cur.size = R ∧ ∀ j, j < l.length → cur[(taken + j) % R]? = some (.int .i64 (l.getD j 0))
theorem QIs.kept {S : Nat → Prop} {w w' : World} {b g most : Nat} {l : List Int} (h : QIs w b g most l) (k : Kept S w w') (hb : ¬ S b) (hg : ¬ S g) : QIs w' b g most l := by
  obtain ⟨hn, R, taken, cur, h1, h2, h3, h4, h5, h6, h7⟩ := h
  exact ⟨hn, R, taken, cur, h1, h2, h3, h4, k.old h5 hb, k.old h6 hg, h7⟩
theorem QIs.lt {w : World} {b g most : Nat} {l : List Int} (h : QIs w b g most l) : b < w.heap.size ∧ g < w.heap.size ∧ l.length ≤ most ∧ most ≤ 65536 := by
  obtain ⟨hn, R, taken, cur, h1, h2, h3, h4, h5, h6, h7⟩ := h
  exact ⟨lt_whole h5, lt_whole h6, h4, Nat.le_trans h2 h1.le.2⟩
theorem Try.infoInt : (Try.prog.info? 3).map (fun i => (i.zero, i.size, i.bytes)) = some (some (.int .i64 0), 1, 8) := by kernel_rfl
def NewQ (most : Nat) (w : World) (e : Ending) (w' : World) : Prop :=
  ∃ b g, w.heap.size ≤ b ∧ w.heap.size ≤ g ∧ e = .returned (.tuple #[.pointer (some ⟨b, 0, none⟩), .int .i64 0]) ∧ QIs w' b g most [] ∧ Below w.heap.size w w'
theorem newq_yes (most : Nat) (w : World) (h1 : most ≤ 65536) : Calls Try.prog 29 #[.int .i64 (most : Int)] w (NewQ most w) := by
  go_enter Try.func29, Try.ntmps29
  go_wp2_with (first | (go_at_call 43; refine (isroom_yes _ _ (by omega) (by omega)).mono ?_; rintro e w' ⟨rfl, rfl⟩) | (go_at_call 44; refine (ring_any _ _ (by omega) (by omega)).mono ?_; rintro e w' ⟨R, hp, hle, rfl, rfl⟩; have hb := hp.le; have hmk := fun W => run_make_row' (P := Try.prog) 32 3 (.int .i64 0) 8 Try.underlying32 Try.infoInt rfl .i64 .i64 R (by omega) (by omega) W))
  go_ret2
  refine ⟨w.heap.size + 1, w.heap.size, by omega, by omega, rfl, ⟨by omega, R, 0, madeCells #[.int .i64 0] R, hp, by omega, by omega, by simp, ?_, ?_, size_madeCells _ _, fun j hj => absurd hj (by simp)⟩, ((Below.refl _ _).alloc (Nat.le_refl _) _).alloc (by simp) _⟩
  · exact new_whole1 _ _ _
  · exact alloc_whole (heap_alloc_new _ _) _
theorem newq_at (n : Int) (most : Nat) (w : World) (hn : n = (most : Int)) (h1 : most ≤ 65536) : Calls Try.prog 29 #[.int .i64 n] w (NewQ most w) := by subst hn; exact newq_yes most w h1
theorem newq_no (n : Int) (w : World) (h : n < 0 ∨ 65536 < n) : Calls Try.prog 29 #[.int .i64 n] w fun e w' => e = .returned (.tuple #[.pointer none, .int .i64 1]) ∧ w = w' := by
  go_enter Try.func29, Try.ntmps29
  go_wp2_with (go_at_call 43; refine (isroom_no _ _ h).mono ?_; rintro e w' ⟨rfl, rfl⟩)
  go_ret2
  exact ⟨rfl, rfl⟩

theorem u32_sub (taken n : Nat) (h1 : taken < 4294967296) (h2 : n ≤ 65536) : IntKind.u32.wrap ((((taken + n) % 4294967296 : Nat) : Int) - (taken : Int)) = (n : Int) := by
  simp [IntKind.wrap, IntKind.bits, IntKind.signed]; omega
/-- Len. -/
theorem qlen_any (b g most : Nat) (l : List Int) (w : World) (h : QIs w b g most l) : Calls Try.prog 31 #[.pointer (some ⟨b, 0, none⟩)] w fun e w' => e = .returned (.int .i64 (l.length : Int)) ∧ ∃ n, w' = w.drewN n := by
  have hlt := h.lt
  obtain ⟨hn, R, taken, cur, hp, hR, ht, hl, hb, hg, hs, hc⟩ := h
  have c2 := cell_whole hb 2
  have c3 := cell_whole hb 3
  simp at c2 c3
  have hw := u32_sub taken l.length ht (by omega)
  clear hb hg hs hc
  go_enter Try.func31, Try.ntmps31
  go_wp2
  go_quiet (fail)
  go_wp2
  go_ret
  exact ⟨ret_int (by omega), _, rfl⟩

theorem mask {R : Nat} (h : IsPow R) (c : Nat) : bits .and .i64 (c : Int) ((R : Int) - 1) = ((c % R : Nat) : Int) := by
  obtain ⟨k, hk, rfl⟩ := h
  have h0 : 0 < (2 : Nat) ^ k := Nat.pow_pos (by omega)
  have := i64_and_mask (c : Int) k (by omega)
  rw [show ((2 ^ k - 1 : Nat) : Int) = ((2 ^ k : Nat) : Int) - 1 by omega] at this
  rw [this, Int.natCast_emod]
theorem place_any (b R c r : Nat) (ao : Option Addr) (cap : Nat) (w : World) (hp : IsPow R) (hr : c % R = r) (hb : w.cell? ⟨b, 1, none⟩ = some (.slice ao R cap)) (hc : c < 4294967296) :
    Calls Try.prog 45 #[.pointer (some ⟨b, 0, none⟩), .int .u32 (c : Int)] w fun e w' => e = .returned (.int .i64 (r : Int)) ∧ w' = w := by
  subst hr
  have hm := Lib.hid (mask hp c)
  have hle := hp.le
  clear hp
  go_enter Try.func45, Try.ntmps45
  go_wp2
  go_ret
  exact ⟨ret_int hm.out, rfl⟩
theorem IsPow.dvd {R : Nat} (h : IsPow R) : R ∣ 4294967296 := by
  obtain ⟨k, hk, rfl⟩ := h
  exact Nat.pow_dvd_pow 2 (show k ≤ 32 by omega)
theorem mod_ne {R a i j : Nat} (h : i < j) (hj : j - i < R) : (a + i) % R ≠ (a + j) % R := fun e => by
  have := Nat.sub_mod_eq_zero_of_mod_eq e.symm
  rw [show a + j - (a + i) = j - i by omega, Nat.mod_eq_of_lt hj] at this
  omega
theorem QIs.put {w : World} {b g most R taken cnt r : Nat} {cur : Array Value} {l : List Int} {x c' : Int} (hn : b ≠ g) (hp : IsPow R) (hR : most ≤ R) (ht : taken < 4294967296) (hl : l.length < most)
    (hb : w.heap[b]? = some (.cells #[.int .i64 (most : Int), .slice (some ⟨g, 0, none⟩) R R, .int .u32 (cnt : Int), .int .u32 (taken : Int)] 70 (0, 0)))
    (hg : w.heap[g]? = some (.cells cur 3 (0, 0))) (hs : cur.size = R) (hc : ∀ j, j < l.length → cur[(taken + j) % R]? = some (.int .i64 (l.getD j 0)))
    (hcnt : (taken + l.length) % 4294967296 = cnt) (hr : cnt % R = r) (hc' : c' = ((cnt : Int) + 1) % 4294967296) :
    QIs ((w.setCell ⟨g, r, none⟩ (.int .i64 x)).setCell ⟨b, 2, none⟩ (.int .u32 c')) b g most (l ++ [x]) := by
  have hP := hp.le
  have hr' : (taken + l.length) % R = r := by rw [← hr, ← hcnt, Nat.mod_mod_of_dvd _ hp.dvd]
  refine ⟨hn, R, taken, cur.setIfInBounds r (.int .i64 x), hp, hR, ht, by simp; omega, ?_, set_other (set_whole hg _ _) (fun e => hn e.symm) _ _, by simpa using hs, ?_⟩
  · rw [set_whole (set_other hb hn _ _)]
    have e1 : c' = (((taken + (l ++ [x]).length) % 4294967296 : Nat) : Int) := by simp; omega
    rw [e1]
    simp
  · intro j hj
    simp only [List.length_append, List.length_cons, List.length_nil] at hj
    rcases Nat.lt_or_ge j l.length with h | h
    · rw [Array.getElem?_setIfInBounds_ne (by rw [← hr']; exact (mod_ne h (by omega)).symm), hc j h]
      simp [List.getD, List.getElem?_append_left h]
    · obtain rfl : j = l.length := by omega
      rw [hr', Array.getElem?_setIfInBounds_self_of_lt (by rw [hs, ← hr']; exact Nat.mod_lt _ (by omega))]
      simp [List.getD]
theorem QIs.take {w : World} {b g most R taken : Nat} {cur : Array Value} {l : List Int} {x c' : Int} (hn : b ≠ g) (hp : IsPow R) (hR : most ≤ R) (ht : taken < 4294967296) (hl : l.length + 1 ≤ most)
    (hb : w.heap[b]? = some (.cells #[.int .i64 (most : Int), .slice (some ⟨g, 0, none⟩) R R, .int .u32 (((taken + (x :: l).length) % 4294967296 : Nat) : Int), .int .u32 (taken : Int)] 70 (0, 0)))
    (hg : w.heap[g]? = some (.cells cur 3 (0, 0))) (hs : cur.size = R) (hc : ∀ j, j < (x :: l).length → cur[(taken + j) % R]? = some (.int .i64 ((x :: l).getD j 0)))
    (hc' : c' = ((taken : Int) + 1) % 4294967296) :
    QIs (w.setCell ⟨b, 3, none⟩ (.int .u32 c')) b g most l := by
  have hP := hp.le
  refine ⟨hn, R, (taken + 1) % 4294967296, cur, hp, hR, Nat.mod_lt _ (by omega), by omega, ?_, set_other hg (fun e => hn e.symm) _ _, hs, ?_⟩
  · rw [set_whole hb]
    have e1 : c' = (((taken + 1) % 4294967296 : Nat) : Int) := by omega
    have e2 : ((taken + (x :: l).length) % 4294967296 : Nat) = ((taken + 1) % 4294967296 + l.length) % 4294967296 := by simp only [List.length_cons]; omega
    rw [e1, e2]
    rfl
  · intro j hj
    have h := hc (j + 1) (by simp; omega)
    have e : ((taken + 1) % 4294967296 + j) % R = (taken + (j + 1)) % R := by
      rw [Nat.add_mod, Nat.mod_mod_of_dvd _ hp.dvd, ← Nat.add_mod]; congr 1; omega
    rw [e, h]
    rfl
set_option maxHeartbeats 1000000 in
theorem put_yes (b g most : Nat) (l : List Int) (x : Int) (w : World) (h : QIs w b g most l) (hm : l.length < most) :
    Calls Try.prog 30 #[.pointer (some ⟨b, 0, none⟩), .int .i64 x] w fun e w' => e = .returned (.int .i64 0) ∧ QIs w' b g most (l ++ [x]) ∧ Kept (fun i => i = b ∨ i = g) w w' := by
  have hlt := h.lt
  have H := Lib.hid h
  obtain ⟨hn, R, taken, cur, hp, hR, ht, hl, hb, hg, hs, hc⟩ := h
  have hmod : (taken + l.length) % 4294967296 < 4294967296 := Nat.mod_lt _ (by omega)
  generalize hcnt : (taken + l.length) % 4294967296 = cnt at hb hmod
  have c0 := cell_whole hb 0
  have c1 := cell_whole hb 1
  have c2 := cell_whole hb 2
  simp at c0 c1 c2
  have f2 := frozen_whole hb 2
  have hP := hp.le
  have hrm : cnt % R < R := Nat.mod_lt _ (by omega)
  generalize hr : cnt % R = r at hrm
  have hri : (r : Int) < (R : Int) := by omega
  have hri0 : (0 : Int) ≤ (r : Int) := by omega
  have hgb : g ≠ b := fun e => hn e.symm
  obtain ⟨old, cg⟩ : ∃ old, w.cell? ⟨g, r, none⟩ = some old := ⟨_, by rw [cell_whole hg]; exact Array.getElem?_eq_getElem (by omega)⟩
  have fg := frozen_whole hg r
  have HB := Lib.hid hb
  have HG := Lib.hid hg
  have HC := Lib.hid hc
  have HS := Lib.hid hs
  have HN := Lib.hid hcnt
  have HP := Lib.hid hp
  have HR := Lib.hid hr
  clear hr hb hg hc hs hcnt hp
  have hd : decide (l.length < most) = true := decide_eq_true hm
  have hd2 : decide (most ≤ l.length) = false := decide_eq_false (by omega)
  go_enter Try.func30, Try.ntmps30
  go_wp2
  go_quiet ((go_at_call 31; exact Calls.quiet_of (qlen_any b g most l _ H.out)))
  go_wp2
  go_region_held3 (fun W => W.cell? ⟨b, 1, none⟩ = some (.slice (some ⟨g, 0, none⟩) R R) ∧ W.cell? ⟨b, 2, none⟩ = some (.int .u32 (cnt : Int))) (go_keep) (first | (go_at_call 45; refine (place_any b R cnt r (some ⟨g, 0, none⟩) R _ HP.out HR.out ?_ hmod).mono ?_; (simp [*]); rintro e w' ⟨rfl, rfl⟩))
  go_wp2
  go_ret
  exact ⟨rfl, QIs.put hn HP.out hR ht hm HB.out HG.out HS.out HC.out HN.out HR.out (by omega), ((Kept.refl _ w).drewN _ |>.setCell (.inl (.inr rfl)) _).setCell (.inl (.inl rfl)) _⟩
theorem put_no (b g most : Nat) (l : List Int) (x : Int) (w : World) (h : QIs w b g most l) (hm : l.length = most) :
    Calls Try.prog 30 #[.pointer (some ⟨b, 0, none⟩), .int .i64 x] w fun e w' => e = .returned (.int .i64 20) ∧ ∃ n, w' = w.drewN n := by
  have hlt := h.lt
  have H := Lib.hid h
  obtain ⟨hn, R, taken, cur, hp, hR, ht, hl, hb, hg, hs, hc⟩ := h
  have c0 := cell_whole hb 0
  simp at c0
  clear hb hg hs hc
  have hd2 : decide (most ≤ l.length) = true := decide_eq_true (by omega)
  have h1 : most ≤ l.length := by omega
  clear hm
  go_enter Try.func30, Try.ntmps30
  go_wp2
  go_quiet ((go_at_call 31; exact Calls.quiet_of (qlen_any b g most l _ H.out)))
  go_wp2
  go_ret
  exact ⟨rfl, _, rfl⟩
theorem take_no (b g most : Nat) (w : World) (h : QIs w b g most []) :
    Calls Try.prog 32 #[.pointer (some ⟨b, 0, none⟩)] w fun e w' => e = .returned (.tuple #[.int .i64 0, .int .i64 21]) ∧ ∃ n, w' = w.drewN n := by
  have H := Lib.hid h
  clear h
  go_enter Try.func32, Try.ntmps32
  go_wp2_with (go_at_call 31; refine (qlen_any b g most [] _ H.out).mono ?_; rintro e w' ⟨rfl, n, rfl⟩)
  go_ret2
  exact ⟨rfl, _, rfl⟩
set_option maxHeartbeats 1000000 in
theorem take_yes (b g most : Nat) (l : List Int) (x : Int) (w : World) (h : QIs w b g most (x :: l)) :
    Calls Try.prog 32 #[.pointer (some ⟨b, 0, none⟩)] w fun e w' => e = .returned (.tuple #[.int .i64 x, .int .i64 0]) ∧ QIs w' b g most l ∧ Kept (fun i => i = b) w w' := by
  have hlt := h.lt
  have H := Lib.hid h
  obtain ⟨hn, R, taken, cur, hp, hR, ht, hl, hb, hg, hs, hc⟩ := h
  have c1 := cell_whole hb 1
  have c3 := cell_whole hb 3
  simp at c1 c3
  have f3 := frozen_whole hb 3
  have hP := hp.le
  have hrm : taken % R < R := Nat.mod_lt _ (by omega)
  generalize hr : taken % R = r at hrm
  have hri : (r : Int) < (R : Int) := by omega
  have hri0 : (0 : Int) ≤ (r : Int) := by omega
  have cg : w.cell? ⟨g, r, none⟩ = some (.int .i64 x) := by
    rw [cell_whole hg, ← hr]; simpa using hc 0 (by simp)
  have HB := Lib.hid hb
  have HG := Lib.hid hg
  have HC := Lib.hid hc
  have HS := Lib.hid hs
  have HP := Lib.hid hp
  have HR := Lib.hid hr
  have HL : Hid (l.length + 1 ≤ most) := Lib.hid (by simpa using hl)
  clear hr hb hg hc hs hp hl hlt
  have hne : (((x :: l).length : Nat) : Int) = (l.length : Int) + 1 := by simp
  have HNE := Lib.hid hne
  clear hne
  go_enter Try.func32, Try.ntmps32
  go_wp2_with (go_at_call 31; refine (qlen_any b g most (x :: l) _ H.out).mono ?_; rintro e w2 ⟨rfl, n, hw⟩; rw [HNE.out]; have d1 : w2.cell? ⟨b, 1, none⟩ = some (.slice (some ⟨g, 0, none⟩) R R) := cell_drew hw c1; have d3 : w2.cell? ⟨b, 3, none⟩ = some (.int .u32 (taken : Int)) := cell_drew hw c3; have e3 : w2.frozen? ⟨b, 3, none⟩ = false := frozen_drew hw f3; have dg : w2.cell? ⟨g, r, none⟩ = some (.int .i64 x) := cell_drew hw cg; have HW := Lib.hid hw; clear hw c1 c3 f3 cg)
  go_quiet ((go_at_call 45; exact Calls.quiet_of_same (place_any b R taken r (some ⟨g, 0, none⟩) R _ HP.out HR.out (by simp [*]) ht)))
  go_wp2
  go_ret2
  have hw := HW.out
  subst hw
  exact ⟨rfl, QIs.take hn HP.out hR ht HL.out HB.out HG.out HS.out HC.out (by omega), (((Kept.refl (fun i => i = b) w).drewN _).drewN _).setCell (.inl rfl) _⟩
end Go.Proofs.Ytfnafdjcncgcnaa
