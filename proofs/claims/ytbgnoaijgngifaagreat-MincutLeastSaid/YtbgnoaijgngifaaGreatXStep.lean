/- The ends of steps, the room of a step, and whether a step leads one level further, as package maxflow asks. -/
import Derived.Test.YtbgnoaijgngifaaGreatXMem
import Derived.BigQuiet
import Derived.Deep.QuietTactic
import Derived.Deep.RegionHeld3
namespace Go.Proofs.YtbgnoaijgngifaaGreat
open Go.RowKit
set_option linter.unusedVariables false

section
variable (n : Int) (b : Bool) (ao : Option Addr) (cap : Nat) (Z : List ArcT)
set_option maxHeartbeats 1000000 in
theorem xbegin_at (i : Nat) (k : Bool) (a : ArcT) (w : World) (h : Row encA 4 w ao Z) (ha : Z[i]? = some a) (hz : Z.length ≤ 200) :
    Calls Tryz.prog 50 #[.agg #[.int .i64 n, .bool b, .slice ao Z.length cap], .agg #[.int .i64 (i : Int), .bool k]] w fun e w' => e = .returned (.int .i64 (begI a k)) ∧ Below w.heap.size w w' := by
  obtain ⟨hi, rfl⟩ := List.getElem?_eq_some_iff.1 ha
  obtain ⟨ab, ax, rfl, hab, c0, c1, c2, c3⟩ := h.arc hi
  have hli : (i : Int) < (Z.length : Int) := by omega
  clear h ha c2 c3
  generalize Z[i] = a at *
  obtain ⟨x, y, c, t⟩ := a
  simp only at c0 c1
  have e0 := cell_alloc (cell_alloc c0 (.cells #[.int .i64 n, .bool b, .slice (some ⟨ab, ax, none⟩) Z.length cap] 50)) (.cells #[.int .i64 (i : Int), .bool k] 90)
  have e1 := cell_alloc (cell_alloc c1 (.cells #[.int .i64 n, .bool b, .slice (some ⟨ab, ax, none⟩) Z.length cap] 50)) (.cells #[.int .i64 (i : Int), .bool k] 90)
  have HB := Lib.hid (((Below.refl _ w).alloc (Nat.le_refl _) (.cells #[.int .i64 n, .bool b, .slice (some ⟨ab, ax, none⟩) Z.length cap] 50)).alloc (by simp) (.cells #[.int .i64 (i : Int), .bool k] 90))
  cases k
  · go_enter Tryz.func50, Tryz.ntmps50
    go_wp2
    go_ret
    exact ⟨rfl, HB.out⟩
  · go_enter Tryz.func50, Tryz.ntmps50
    go_wp2
    go_ret
    exact ⟨rfl, HB.out⟩
set_option maxHeartbeats 1000000 in
theorem xend_at (i : Nat) (k : Bool) (a : ArcT) (w : World) (h : Row encA 4 w ao Z) (ha : Z[i]? = some a) (hz : Z.length ≤ 200) :
    Calls Tryz.prog 52 #[.agg #[.int .i64 n, .bool b, .slice ao Z.length cap], .agg #[.int .i64 (i : Int), .bool k]] w fun e w' => e = .returned (.int .i64 (endI a k)) ∧ Below w.heap.size w w' := by
  have HB := Lib.hid (((Below.refl _ w).alloc (Nat.le_refl _) (.cells #[.int .i64 n, .bool b, .slice ao Z.length cap] 50)).alloc (by simp) (.cells #[.int .i64 (i : Int), .bool k] 90))
  have HR := Lib.hid (row_alloc (row_alloc h (.cells #[.int .i64 n, .bool b, .slice ao Z.length cap] 50)) (.cells #[.int .i64 (i : Int), .bool k] 90))
  have HA := Lib.hid ha
  rw [← begI_not]
  clear h ha
  cases k
  · go_enter Tryz.func52, Tryz.ntmps52
    go_wp2_with (go_at_call 50; refine (xbegin_at n b ao cap Z i true a _ HR.out HA.out hz).mono ?_; rintro e w1 ⟨rfl, hb1⟩; have HB1 := Lib.hid (HB.out.trans (hb1.mono HB.out.size)); clear hb1)
    go_ret
    exact ⟨rfl, HB1.out⟩
  · go_enter Tryz.func52, Tryz.ntmps52
    go_wp2_with (go_at_call 50; refine (xbegin_at n b ao cap Z i false a _ HR.out HA.out hz).mono ?_; rintro e w1 ⟨rfl, hb1⟩; have HB1 := Lib.hid (HB.out.trans (hb1.mono HB.out.size)); clear hb1)
    go_ret
    exact ⟨rfl, HB1.out⟩
end
section
variable (p tb sg N : Nat) (b : Bool) (ao : Option Addr) (cap : Nat) (Z : List ArcT) (sc tc : Nat) (fo : Option Addr) (fc : Nat) (F : List Int) (lo : Option Addr) (lc : Nat) (L T : List Int)
set_option maxRecDepth 100000 in
set_option maxHeartbeats 2000000 in
theorem xroom_at (i : Nat) (q : Bool) (w : World) (h : FilW w p tb sg N b ao cap Z sc tc fo fc F lo lc L T) (he : flowE (N : Int) Z F = 0) (hi : i < Z.length) :
    Calls Tryz.prog 53 #[.pointer (some ⟨p, 0, none⟩), .agg #[.int .i64 (i : Int), .bool q]] w fun e w' => e = .returned (.int .i64 (leftS Z F ((i : Int), q))) ∧ Below w.heap.size w w' := by
  obtain ⟨hR, hF, hz, hfl, hn1, hn2⟩ := flow_facts (b := b) he
  have ha : Z[i]? = some Z[i] := List.getElem?_eq_getElem hi
  obtain ⟨b0, b1, b2, b3, _, _⟩ := flow_bd hR hF ha
  obtain ⟨l0, l1⟩ := left_at (F := F) ha
  obtain ⟨ab, ax, e1, hab, c0, c1, c2, c3⟩ := h.arcs.arc hi
  subst e1
  have hif : i < F.length := by omega
  obtain ⟨fb, fx, e2, hfb, d0⟩ := lst_cell h.flow (atI_get (d := F) (v := i) hif)
  subst e2
  obtain ⟨⟨k0, k1, k2, k3, k4, k5, k6⟩, _⟩ := c7Cells h.box
  have hli : (i : Int) < (Z.length : Int) := by omega
  have hlf : (i : Int) < (F.length : Int) := by omega
  have hfl2 : F.length ≤ 200 := by omega
  clear h ha he hR hF c0 c1 c3 hfl hn1 hn2 k0 k1 k3 k5 k6
  unfold capN at l0 b1 b2 b3
  generalize Z[i] = a at *
  obtain ⟨x0, y0, c, t0⟩ := a
  simp only at c2 l0 b1 b2 b3
  unfold encI at d0
  have e0 := cell_alloc c2 (.cells #[.int .i64 (i : Int), .bool q] 90)
  have e1 := cell_alloc d0 (.cells #[.int .i64 (i : Int), .bool q] 90)
  have e2 := cell_alloc k2 (.cells #[.int .i64 (i : Int), .bool q] 90)
  have e4 := cell_alloc k4 (.cells #[.int .i64 (i : Int), .bool q] 90)
  have HB := Lib.hid ((Below.refl _ w).alloc (Nat.le_refl _) (.cells #[.int .i64 (i : Int), .bool q] 90))
  have HL0 := Lib.hid l0
  have HL1 := Lib.hid l1
  clear l0 l1 c2 d0 k2 k4
  generalize atI F i = x at *
  cases q
  · rw [HL0.out]
    go_enter Tryz.func53, Tryz.ntmps53
    go_wp2
    go_quiet (fail)
    go_wp2
    go_ret
    exact ⟨rfl, below_drewN HB.out _⟩
  · rw [HL1.out]
    go_enter Tryz.func53, Tryz.ntmps53
    go_wp2
    go_quiet (fail)
    go_wp2
    go_ret
    exact ⟨rfl, below_drewN HB.out _⟩
theorem xroom_is (i : Nat) (q : Bool) (r : Int) (w : World) (h : FilW w p tb sg N b ao cap Z sc tc fo fc F lo lc L T) (he : flowE (N : Int) Z F = 0) (hi : i < Z.length) (hr : leftS Z F ((i : Int), q) = r) :
    Calls Tryz.prog 53 #[.pointer (some ⟨p, 0, none⟩), .agg #[.int .i64 (i : Int), .bool q]] w fun e w' => e = .returned (.int .i64 r) ∧ Below w.heap.size w w' := by subst hr; exact xroom_at p tb sg N b ao cap Z sc tc fo fc F lo lc L T i q w h he hi
end
end Go.Proofs.YtbgnoaijgngifaaGreat
