/- Networks of package level: the ends of steps, and whether a step has room. -/
import Derived.Test.YtfklkcnopngpgaaVSpec
import Derived.Test.YtfklkcnopngpgaaBD
import Derived.Test.YtfklkcnopngpgaaBB
namespace Go.Proofs.Ytfklkcnopngpgaa
open Go.RowKit
set_option linter.unusedVariables false

theorem begI_fromE {Z : List ArcT} {j : Nat} {a : ArcT} (ha : Z[j]? = some a) (hE : a.1 = (frN a : Int) ∧ a.2.1 = (toN a : Int)) (q : Bool) : begI a q = (fromS Z ((j : Int), q) : Int) ∧ endI a q = (toS Z ((j : Int), q) : Int) := by
  have e := arcOf_nat q ha
  unfold fromS toS
  rw [e]
  cases q <;> simp [begI, endI, hE.1, hE.2]
/-- What lies below a loaded network: its arcs, its flow, and the lists of arcs of each node. -/
structure LD (w : World) (ao fo : Option Addr) (Z : List ArcT) (F : List Int) (g1 g2 N : Nat) : Prop where
  arcs : Row encA 4 w ao Z
  flow : Lst encI w fo F
  outs : GRow w (some ⟨g1, 0, none⟩) (lists frN Z N)
  ins : GRow w (some ⟨g2, 0, none⟩) (lists toN Z N)
theorem LD.below {w w' : World} {ao fo : Option Addr} {Z : List ArcT} {F : List Int} {g1 g2 N : Nat} (h : LD w ao fo Z F g1 g2 N) (hb : Below w.heap.size w w') : LD w' ao fo Z F g1 g2 N :=
  ⟨h.arcs.below' hb, h.flow.below hb, h.outs.below hb, h.ins.below hb⟩
section
variable (n : Int) (b : Bool) (ao : Option Addr) (cap : Nat) (Z : List ArcT)
set_option maxHeartbeats 1000000 in
theorem vbegin_at (i : Nat) (k : Bool) (a : ArcT) (w : World) (h : Row encA 4 w ao Z) (ha : Z[i]? = some a) (hz : Z.length ≤ 200) :
    Calls Try.prog 66 #[.agg #[.int .i64 n, .bool b, .slice ao Z.length cap], .agg #[.int .i64 (i : Int), .bool k]] w fun e w' => e = .returned (.int .i64 (begI a k)) ∧ Below w.heap.size w w' := by
  obtain ⟨hi, rfl⟩ := List.getElem?_eq_some_iff.1 ha
  obtain ⟨ab, ax, rfl, hab, c0, c1, c2, c3⟩ := h.arc hi
  have hli : (i : Int) < (Z.length : Int) := by omega
  clear h ha c2 c3
  generalize Z[i] = a at *
  obtain ⟨x, y, c, t⟩ := a
  simp only at c0 c1
  have e0 := cell_alloc (cell_alloc c0 (.cells #[.int .i64 n, .bool b, .slice (some ⟨ab, ax, none⟩) Z.length cap] 70)) (.cells #[.int .i64 (i : Int), .bool k] 42)
  have e1 := cell_alloc (cell_alloc c1 (.cells #[.int .i64 n, .bool b, .slice (some ⟨ab, ax, none⟩) Z.length cap] 70)) (.cells #[.int .i64 (i : Int), .bool k] 42)
  have HB := Lib.hid (((Below.refl _ w).alloc (Nat.le_refl _) (.cells #[.int .i64 n, .bool b, .slice (some ⟨ab, ax, none⟩) Z.length cap] 70)).alloc (by simp) (.cells #[.int .i64 (i : Int), .bool k] 42))
  cases k
  · go_enter Try.func66, Try.ntmps66
    go_wp2
    go_ret
    exact ⟨rfl, HB.out⟩
  · go_enter Try.func66, Try.ntmps66
    go_wp2
    go_ret
    exact ⟨rfl, HB.out⟩
set_option maxHeartbeats 1000000 in
theorem vend_at (i : Nat) (k : Bool) (a : ArcT) (w : World) (h : Row encA 4 w ao Z) (ha : Z[i]? = some a) (hz : Z.length ≤ 200) :
    Calls Try.prog 54 #[.agg #[.int .i64 n, .bool b, .slice ao Z.length cap], .agg #[.int .i64 (i : Int), .bool k]] w fun e w' => e = .returned (.int .i64 (endI a k)) ∧ Below w.heap.size w w' := by
  have HB := Lib.hid (((Below.refl _ w).alloc (Nat.le_refl _) (.cells #[.int .i64 n, .bool b, .slice ao Z.length cap] 70)).alloc (by simp) (.cells #[.int .i64 (i : Int), .bool k] 42))
  have HR := Lib.hid (row_alloc (row_alloc h (.cells #[.int .i64 n, .bool b, .slice ao Z.length cap] 70)) (.cells #[.int .i64 (i : Int), .bool k] 42))
  have HA := Lib.hid ha
  rw [← begI_not]
  clear h ha
  cases k
  · go_enter Try.func54, Try.ntmps54
    go_wp2_with (go_at_call 66; refine (vbegin_at n b ao cap Z i true a _ HR.out HA.out hz).mono ?_; rintro e w1 ⟨rfl, hb1⟩; have HB1 := Lib.hid (HB.out.trans (hb1.mono HB.out.size)); clear hb1)
    go_ret
    exact ⟨rfl, HB1.out⟩
  · go_enter Try.func54, Try.ntmps54
    go_wp2_with (go_at_call 66; refine (vbegin_at n b ao cap Z i false a _ HR.out HA.out hz).mono ?_; rintro e w1 ⟨rfl, hb1⟩; have HB1 := Lib.hid (HB.out.trans (hb1.mono HB.out.size)); clear hb1)
    go_ret
    exact ⟨rfl, HB1.out⟩
theorem vhasnode_any (v : Value) (s : Int) (w : World) : Calls Try.prog 39 #[.agg #[.int .i64 n, .bool b, v], .int .i64 s] w fun e w' => e = .returned (.bool (nodeB n s)) ∧ Below w.heap.size w w' := by
  have HB := Lib.hid ((Below.refl _ w).alloc (Nat.le_refl _) (.cells #[.int .i64 n, .bool b, v] 70))
  have c0 := cell_new w #[.int .i64 n, .bool b, v] 70 0
  unfold nodeB
  go_enter Try.func39, Try.ntmps39
  go_wp2
  all_goals
    go_ret
    refine ⟨ret_bool ?_, HB.out⟩
    first
      | (symm; rw [decide_eq_true_eq]; omega)
      | (symm; rw [decide_eq_false_iff_not]; omega)
      | (simp; omega)
theorem vhasnode_is (v : Value) (s : Int) (q : Bool) (w : World) (h : nodeB n s = q) : Calls Try.prog 39 #[.agg #[.int .i64 n, .bool b, v], .int .i64 s] w fun e w' => e = .returned (.bool q) ∧ Below w.heap.size w w' := by subst h; exact vhasnode_any n b v s w
set_option maxHeartbeats 1000000 in
theorem vhasroom_at (fo : Option Addr) (fc : Nat) (F : List Int) (vo vi : Value) (i : Nat) (k : Bool) (w : World) (h : Row encA 4 w ao Z) (hf : Lst encI w fo F) (hi : i < Z.length) (hfl : F.length = Z.length) (hz : Z.length ≤ 200) :
    Calls Try.prog 55 #[.agg #[.int .i64 n, .bool b, .slice ao Z.length cap, .slice fo F.length fc, vo, vi], .agg #[.int .i64 (i : Int), .bool k]] w fun e w' => e = .returned (.bool (roomB Z F ((i : Int), k))) ∧ Below w.heap.size w w' := by
  have ha : Z[i]? = some Z[i] := List.getElem?_eq_getElem hi
  obtain ⟨l0, l1⟩ := left_at (F := F) ha
  obtain ⟨ab, ax, rfl, hab, c0, c1, c2, c3⟩ := h.arc hi
  have hif : i < F.length := by omega
  obtain ⟨fb, fx, rfl, hfb, d0⟩ := lst_cell hf (atI_get (d := F) (v := i) hif)
  have hli : (i : Int) < (Z.length : Int) := by omega
  have hlf : (i : Int) < (F.length : Int) := by omega
  have hfl2 : F.length ≤ 200 := by omega
  clear h ha hf c0 c1 c3 hfl
  unfold capN at l0
  generalize Z[i] = a at *
  obtain ⟨p, y, c, t⟩ := a
  simp only at c2 l0
  unfold encI at d0
  have e0 := cell_alloc (cell_alloc c2 (.cells #[.int .i64 n, .bool b, .slice (some ⟨ab, ax, none⟩) Z.length cap, .slice (some ⟨fb, fx, none⟩) F.length fc, vo, vi] 73)) (.cells #[.int .i64 (i : Int), .bool k] 42)
  have e1 := cell_alloc (cell_alloc d0 (.cells #[.int .i64 n, .bool b, .slice (some ⟨ab, ax, none⟩) Z.length cap, .slice (some ⟨fb, fx, none⟩) F.length fc, vo, vi] 73)) (.cells #[.int .i64 (i : Int), .bool k] 42)
  have HB := Lib.hid (((Below.refl _ w).alloc (Nat.le_refl _) (.cells #[.int .i64 n, .bool b, .slice (some ⟨ab, ax, none⟩) Z.length cap, .slice (some ⟨fb, fx, none⟩) F.length fc, vo, vi] 73)).alloc (by simp) (.cells #[.int .i64 (i : Int), .bool k] 42))
  have HL0 := Lib.hid l0
  have HL1 := Lib.hid l1
  clear l0 l1
  generalize atI F i = x at *
  cases k
  · have HQ : Hid (decide (x < c) = roomB Z F ((i : Int), false)) := Lib.hid (by unfold roomB; rw [HL0.out]; by_cases hx : x < c <;> simp [hx] <;> omega)
    go_enter Try.func55, Try.ntmps55
    go_wp2
    go_quiet (fail)
    go_wp2
    go_ret
    exact ⟨ret_bool HQ.out, below_drewN HB.out _⟩
  · have HQ : Hid (decide (0 < x) = roomB Z F ((i : Int), true)) := Lib.hid (by unfold roomB; rw [HL1.out])
    go_enter Try.func55, Try.ntmps55
    go_wp2
    go_ret
    exact ⟨ret_bool HQ.out, HB.out⟩
theorem vhasroom_is (fo : Option Addr) (fc : Nat) (F : List Int) (vo vi : Value) (i : Nat) (k q : Bool) (w : World) (h : Row encA 4 w ao Z) (hf : Lst encI w fo F) (hi : i < Z.length) (hfl : F.length = Z.length) (hz : Z.length ≤ 200) (hq : roomB Z F ((i : Int), k) = q) :
    Calls Try.prog 55 #[.agg #[.int .i64 n, .bool b, .slice ao Z.length cap, .slice fo F.length fc, vo, vi], .agg #[.int .i64 (i : Int), .bool k]] w fun e w' => e = .returned (.bool q) ∧ Below w.heap.size w w' := by subst hq; exact vhasroom_at n b ao cap Z fo fc F vo vi i k w h hf hi hfl hz
end
end Go.Proofs.Ytfklkcnopngpgaa
