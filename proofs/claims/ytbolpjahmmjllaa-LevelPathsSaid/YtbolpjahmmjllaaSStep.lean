/- Steps: their ends and their room, as methods of the program's networks and as the document's functions. -/
import Derived.Test.YtbolpjahmmjllaaSNet
namespace Go.Proofs.Ytbolpjahmmjllaa
open Go.RowKit
set_option linter.unusedVariables false

/-- Where a step along an arc, or back, begins and ends; how much room it has. -/
def begI (a : ArcT) : Bool → Int
  | true => a.2.1
  | false => a.1
def endI (a : ArcT) : Bool → Int
  | true => a.1
  | false => a.2.1
def roomI (a : ArcT) (x : Int) : Bool → Int
  | true => x
  | false => a.2.2.1 - x
theorem begI_not (a : ArcT) (b : Bool) : begI a (!b) = endI a b := by cases b <;> rfl
section
variable (n : Int) (b : Bool) (ao : Option Addr) (cap : Nat) (Z : List ArcT)
set_option maxHeartbeats 1000000 in
theorem begin_at (i : Nat) (k : Bool) (a : ArcT) (w : World) (h : Row encA 4 w ao Z) (ha : Z[i]? = some a) (hz : Z.length ≤ 200) :
    Calls Try.prog 54 #[.agg #[.int .i64 n, .bool b, .slice ao Z.length cap], .agg #[.int .i64 (i : Int), .bool k]] w fun e w' => e = .returned (.int .i64 (begI a k)) ∧ Below w.heap.size w w' := by
  obtain ⟨hi, rfl⟩ := List.getElem?_eq_some_iff.1 ha
  obtain ⟨ab, ax, rfl, hab, c0, c1, c2, c3⟩ := h.arc hi
  have hli : (i : Int) < (Z.length : Int) := by omega
  clear h ha c2 c3
  generalize Z[i] = a at *
  obtain ⟨x, y, c, t⟩ := a
  simp only at c0 c1
  have e0 := cell_alloc (cell_alloc c0 (.cells #[.int .i64 n, .bool b, .slice (some ⟨ab, ax, none⟩) Z.length cap] 85)) (.cells #[.int .i64 (i : Int), .bool k] 40)
  have e1 := cell_alloc (cell_alloc c1 (.cells #[.int .i64 n, .bool b, .slice (some ⟨ab, ax, none⟩) Z.length cap] 85)) (.cells #[.int .i64 (i : Int), .bool k] 40)
  have HB := Lib.hid (((Below.refl _ w).alloc (Nat.le_refl _) (.cells #[.int .i64 n, .bool b, .slice (some ⟨ab, ax, none⟩) Z.length cap] 85)).alloc (by simp) (.cells #[.int .i64 (i : Int), .bool k] 40))
  cases k
  · go_enter Try.func54, Try.ntmps54
    go_wp2
    go_ret
    exact ⟨rfl, HB.out⟩
  · go_enter Try.func54, Try.ntmps54
    go_wp2
    go_ret
    exact ⟨rfl, HB.out⟩
set_option maxHeartbeats 1000000 in
theorem endof_at (i : Nat) (k : Bool) (a : ArcT) (w : World) (h : Row encA 4 w ao Z) (ha : Z[i]? = some a) (hz : Z.length ≤ 200) :
    Calls Try.prog 55 #[.agg #[.int .i64 n, .bool b, .slice ao Z.length cap], .agg #[.int .i64 (i : Int), .bool k]] w fun e w' => e = .returned (.int .i64 (endI a k)) ∧ Below w.heap.size w w' := by
  have HB := Lib.hid (((Below.refl _ w).alloc (Nat.le_refl _) (.cells #[.int .i64 n, .bool b, .slice ao Z.length cap] 85)).alloc (by simp) (.cells #[.int .i64 (i : Int), .bool k] 40))
  have HR := Lib.hid (row_alloc (row_alloc h (.cells #[.int .i64 n, .bool b, .slice ao Z.length cap] 85)) (.cells #[.int .i64 (i : Int), .bool k] 40))
  have HA := Lib.hid ha
  rw [← begI_not]
  clear h ha
  cases k
  · go_enter Try.func55, Try.ntmps55
    go_wp2_with (go_at_call 54; refine (begin_at n b ao cap Z i true a _ HR.out HA.out hz).mono ?_; rintro e w1 ⟨rfl, hb1⟩; have HB1 := Lib.hid (HB.out.trans (hb1.mono HB.out.size)); clear hb1)
    go_ret
    exact ⟨rfl, HB1.out⟩
  · go_enter Try.func55, Try.ntmps55
    go_wp2_with (go_at_call 54; refine (begin_at n b ao cap Z i false a _ HR.out HA.out hz).mono ?_; rintro e w1 ⟨rfl, hb1⟩; have HB1 := Lib.hid (HB.out.trans (hb1.mono HB.out.size)); clear hb1)
    go_ret
    exact ⟨rfl, HB1.out⟩
theorem hasnode_any (v : Value) (s : Int) (w : World) : Calls Try.prog 50 #[.agg #[.int .i64 n, .bool b, v], .int .i64 s] w fun e w' => e = .returned (.bool (decide (0 ≤ s ∧ s < n))) ∧ Below w.heap.size w w' := by
  have HB := Lib.hid ((Below.refl _ w).alloc (Nat.le_refl _) (.cells #[.int .i64 n, .bool b, v] 85))
  have c0 := cell_new w #[.int .i64 n, .bool b, v] 85 0
  go_enter Try.func50, Try.ntmps50
  go_wp2
  all_goals
    go_ret
    refine ⟨ret_bool ?_, HB.out⟩
    first
      | (symm; rw [decide_eq_true_eq]; omega)
      | (symm; rw [decide_eq_false_iff_not]; omega)
      | (simp; omega)
theorem hasnode_is (v : Value) (s : Int) (q : Bool) (w : World) (h : decide (0 ≤ s ∧ s < n) = q) : Calls Try.prog 50 #[.agg #[.int .i64 n, .bool b, v], .int .i64 s] w fun e w' => e = .returned (.bool q) ∧ Below w.heap.size w w' := by subst h; exact hasnode_any n b v s w
set_option maxHeartbeats 1000000 in
theorem rleft_at (fo : Option Addr) (fc : Nat) (F : List Int) (i : Nat) (k : Bool) (a : ArcT) (x : Int) (w : World) (h : Row encA 4 w ao Z) (hf : Lst encI w fo F) (ha : Z[i]? = some a) (hx : F[i]? = some x) (hz : Z.length ≤ 200000) (hfl : F.length ≤ 200000) (h0 : 0 ≤ x) (h1 : x ≤ 4398046511104) (h2 : 0 ≤ a.2.2.1) (h3 : a.2.2.1 ≤ 4398046511104) :
    Calls Try.prog 32 #[.agg #[.int .i64 n, .bool b, .slice ao Z.length cap], .slice fo F.length fc, .agg #[.int .i64 (i : Int), .bool k]] w fun e w' => e = .returned (.int .i64 (roomI a x k)) ∧ Below w.heap.size w w' := by
  obtain ⟨hi, rfl⟩ := List.getElem?_eq_some_iff.1 ha
  obtain ⟨ab, ax, rfl, hab, c0, c1, c2, c3⟩ := h.arc hi
  have hif : i < F.length := (List.getElem?_eq_some_iff.1 hx).1
  obtain ⟨fb, fx, rfl, hfb, d0⟩ := lst_cell hf hx
  have hli : (i : Int) < (Z.length : Int) := by omega
  have hlf : (i : Int) < (F.length : Int) := by omega
  clear h ha hf hx c0 c1 c3
  generalize Z[i] = a at *
  obtain ⟨p, y, c, t⟩ := a
  simp only at c2 h2 h3
  unfold encI at d0
  have e0 := cell_alloc (cell_alloc c2 (.cells #[.int .i64 n, .bool b, .slice (some ⟨ab, ax, none⟩) Z.length cap] 24)) (.cells #[.int .i64 (i : Int), .bool k] 40)
  have e1 := cell_alloc (cell_alloc d0 (.cells #[.int .i64 n, .bool b, .slice (some ⟨ab, ax, none⟩) Z.length cap] 24)) (.cells #[.int .i64 (i : Int), .bool k] 40)
  have HB := Lib.hid (((Below.refl _ w).alloc (Nat.le_refl _) (.cells #[.int .i64 n, .bool b, .slice (some ⟨ab, ax, none⟩) Z.length cap] 24)).alloc (by simp) (.cells #[.int .i64 (i : Int), .bool k] 40))
  cases k
  · go_enter Try.func32, Try.ntmps32
    go_wp2
    go_quiet (fail)
    go_wp2
    go_ret
    exact ⟨rfl, below_drewN HB.out _⟩
  · go_enter Try.func32, Try.ntmps32
    go_wp2
    go_ret
    exact ⟨rfl, HB.out⟩
set_option maxHeartbeats 1000000 in
theorem rfrom_at (i : Nat) (k : Bool) (a : ArcT) (w : World) (h : Row encA 4 w ao Z) (ha : Z[i]? = some a) (hz : Z.length ≤ 200000) :
    Calls Try.prog 16 #[.agg #[.int .i64 n, .bool b, .slice ao Z.length cap], .agg #[.int .i64 (i : Int), .bool k]] w fun e w' => e = .returned (.int .i64 (begI a k)) ∧ Below w.heap.size w w' := by
  obtain ⟨hi, rfl⟩ := List.getElem?_eq_some_iff.1 ha
  obtain ⟨ab, ax, rfl, hab, c0, c1, c2, c3⟩ := h.arc hi
  have hli : (i : Int) < (Z.length : Int) := by omega
  clear h ha c2 c3
  generalize Z[i] = a at *
  obtain ⟨x, y, c, t⟩ := a
  simp only at c0 c1
  have e0 := cell_alloc (cell_alloc c0 (.cells #[.int .i64 n, .bool b, .slice (some ⟨ab, ax, none⟩) Z.length cap] 24)) (.cells #[.int .i64 (i : Int), .bool k] 40)
  have e1 := cell_alloc (cell_alloc c1 (.cells #[.int .i64 n, .bool b, .slice (some ⟨ab, ax, none⟩) Z.length cap] 24)) (.cells #[.int .i64 (i : Int), .bool k] 40)
  have HB := Lib.hid (((Below.refl _ w).alloc (Nat.le_refl _) (.cells #[.int .i64 n, .bool b, .slice (some ⟨ab, ax, none⟩) Z.length cap] 24)).alloc (by simp) (.cells #[.int .i64 (i : Int), .bool k] 40))
  cases k
  · go_enter Try.func16, Try.ntmps16
    go_wp2
    go_ret
    exact ⟨rfl, HB.out⟩
  · go_enter Try.func16, Try.ntmps16
    go_wp2
    go_ret
    exact ⟨rfl, HB.out⟩
set_option maxHeartbeats 1000000 in
theorem rto_at (i : Nat) (k : Bool) (a : ArcT) (w : World) (h : Row encA 4 w ao Z) (ha : Z[i]? = some a) (hz : Z.length ≤ 200000) :
    Calls Try.prog 17 #[.agg #[.int .i64 n, .bool b, .slice ao Z.length cap], .agg #[.int .i64 (i : Int), .bool k]] w fun e w' => e = .returned (.int .i64 (endI a k)) ∧ Below w.heap.size w w' := by
  obtain ⟨hi, rfl⟩ := List.getElem?_eq_some_iff.1 ha
  obtain ⟨ab, ax, rfl, hab, c0, c1, c2, c3⟩ := h.arc hi
  have hli : (i : Int) < (Z.length : Int) := by omega
  clear h ha c2 c3
  generalize Z[i] = a at *
  obtain ⟨x, y, c, t⟩ := a
  simp only at c0 c1
  have e0 := cell_alloc (cell_alloc c0 (.cells #[.int .i64 n, .bool b, .slice (some ⟨ab, ax, none⟩) Z.length cap] 24)) (.cells #[.int .i64 (i : Int), .bool k] 40)
  have e1 := cell_alloc (cell_alloc c1 (.cells #[.int .i64 n, .bool b, .slice (some ⟨ab, ax, none⟩) Z.length cap] 24)) (.cells #[.int .i64 (i : Int), .bool k] 40)
  have HB := Lib.hid (((Below.refl _ w).alloc (Nat.le_refl _) (.cells #[.int .i64 n, .bool b, .slice (some ⟨ab, ax, none⟩) Z.length cap] 24)).alloc (by simp) (.cells #[.int .i64 (i : Int), .bool k] 40))
  cases k
  · go_enter Try.func17, Try.ntmps17
    go_wp2
    go_ret
    exact ⟨rfl, HB.out⟩
  · go_enter Try.func17, Try.ntmps17
    go_wp2
    go_ret
    exact ⟨rfl, HB.out⟩
end
end Go.Proofs.Ytbolpjahmmjllaa
