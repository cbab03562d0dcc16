/- Steps: their ends and their room, as methods of the program's networks and as the document's functions. -/
import Derived.Test.YtiefphkfddecbaaSNet
namespace Go.Proofs.Ytiefphkfddecbaa
open Go.RowKit
set_option linter.unusedVariables false

/-- Where a step along an arc, or back, begins and ends; how much room it has. -/
def begI (a : ArcT) : Bool → Int
  | true => a.2.1
  | false => a.1
def endI (a : ArcT) : Bool → Int
  | true => a.1
  | false => a.2.1
def roomI (a : ArcT) (x : Int) : Bool → Int
  | true => x
  | false => a.2.2.1 - x
theorem begI_not (a : ArcT) (b : Bool) : begI a (!b) = endI a b := by cases b <;> rfl
section
variable (n : Int) (b : Bool) (ao : Option Addr) (cap : Nat) (Z : List ArcT)
set_option maxHeartbeats 1000000 in
theorem begin_at (i : Nat) (k : Bool) (a : ArcT) (w : World) (h : Row encA 4 w ao Z) (ha : Z[i]? = some a) (hz : Z.length ≤ 200) :
    Calls Try.prog 24 #[.agg #[.int .i64 n, .bool b, .slice ao Z.length cap], .agg #[.int .i64 (i : Int), .bool k]] w fun e w' => e = .returned (.int .i64 (begI a k)) ∧ Below w.heap.size w w' := by
  obtain ⟨hi, rfl⟩ := List.getElem?_eq_some_iff.1 ha
  obtain ⟨ab, ax, rfl, hab, c0, c1, c2, c3⟩ := h.arc hi
  have hli : (i : Int) < (Z.length : Int) := by omega
  clear h ha c2 c3
  generalize Z[i] = a at *
  obtain ⟨x, y, c, t⟩ := a
  simp only at c0 c1
  have e0 := cell_alloc (cell_alloc c0 (.cells #[.int .i64 n, .bool b, .slice (some ⟨ab, ax, none⟩) Z.length cap] 47)) (.cells #[.int .i64 (i : Int), .bool k] 36)
  have e1 := cell_alloc (cell_alloc c1 (.cells #[.int .i64 n, .bool b, .slice (some ⟨ab, ax, none⟩) Z.length cap] 47)) (.cells #[.int .i64 (i : Int), .bool k] 36)
  have HB := Lib.hid (((Below.refl _ w).alloc (Nat.le_refl _) (.cells #[.int .i64 n, .bool b, .slice (some ⟨ab, ax, none⟩) Z.length cap] 47)).alloc (by simp) (.cells #[.int .i64 (i : Int), .bool k] 36))
  cases k
  · go_enter Try.func24, Try.ntmps24
    go_wp2
    go_ret
    exact ⟨rfl, HB.out⟩
  · go_enter Try.func24, Try.ntmps24
    go_wp2
    go_ret
    exact ⟨rfl, HB.out⟩
set_option maxHeartbeats 1000000 in
theorem endof_at (i : Nat) (k : Bool) (a : ArcT) (w : World) (h : Row encA 4 w ao Z) (ha : Z[i]? = some a) (hz : Z.length ≤ 200) :
    Calls Try.prog 25 #[.agg #[.int .i64 n, .bool b, .slice ao Z.length cap], .agg #[.int .i64 (i : Int), .bool k]] w fun e w' => e = .returned (.int .i64 (endI a k)) ∧ Below w.heap.size w w' := by
  have HB := Lib.hid (((Below.refl _ w).alloc (Nat.le_refl _) (.cells #[.int .i64 n, .bool b, .slice ao Z.length cap] 47)).alloc (by simp) (.cells #[.int .i64 (i : Int), .bool k] 36))
  have HR := Lib.hid (row_alloc (row_alloc h (.cells #[.int .i64 n, .bool b, .slice ao Z.length cap] 47)) (.cells #[.int .i64 (i : Int), .bool k] 36))
  have HA := Lib.hid ha
  rw [← begI_not]
  clear h ha
  cases k
  · go_enter Try.func25, Try.ntmps25
    go_wp2_with (go_at_call 24; refine (begin_at n b ao cap Z i true a _ HR.out HA.out hz).mono ?_; rintro e w1 ⟨rfl, hb1⟩; have HB1 := Lib.hid (HB.out.trans (hb1.mono HB.out.size)); clear hb1)
    go_ret
    exact ⟨rfl, HB1.out⟩
  · go_enter Try.func25, Try.ntmps25
    go_wp2_with (go_at_call 24; refine (begin_at n b ao cap Z i false a _ HR.out HA.out hz).mono ?_; rintro e w1 ⟨rfl, hb1⟩; have HB1 := Lib.hid (HB.out.trans (hb1.mono HB.out.size)); clear hb1)
    go_ret
    exact ⟨rfl, HB1.out⟩
theorem hasnode_any (v : Value) (s : Int) (w : World) : Calls Try.prog 31 #[.agg #[.int .i64 n, .bool b, v], .int .i64 s] w fun e w' => e = .returned (.bool (decide (0 ≤ s ∧ s < n))) ∧ Below w.heap.size w w' := by
  have HB := Lib.hid ((Below.refl _ w).alloc (Nat.le_refl _) (.cells #[.int .i64 n, .bool b, v] 47))
  have c0 := cell_new w #[.int .i64 n, .bool b, v] 47 0
  go_enter Try.func31, Try.ntmps31
  go_wp2
  all_goals
    go_ret
    refine ⟨ret_bool ?_, HB.out⟩
    first
      | (symm; rw [decide_eq_true_eq]; omega)
      | (symm; rw [decide_eq_false_iff_not]; omega)
      | (simp; omega)
theorem hasnode_is (v : Value) (s : Int) (q : Bool) (w : World) (h : decide (0 ≤ s ∧ s < n) = q) : Calls Try.prog 31 #[.agg #[.int .i64 n, .bool b, v], .int .i64 s] w fun e w' => e = .returned (.bool q) ∧ Below w.heap.size w w' := by subst h; exact hasnode_any n b v s w
theorem hasstep_any (len : Nat) (i : Int) (k : Bool) (w : World) (hz : len ≤ 200) :
    Calls Try.prog 33 #[.agg #[.int .i64 n, .bool b, .slice ao len cap], .agg #[.int .i64 i, .bool k]] w fun e w' => e = .returned (.bool (decide (0 ≤ i ∧ i < (len : Int)))) ∧ Below w.heap.size w w' := by
  have HB := Lib.hid (((Below.refl _ w).alloc (Nat.le_refl _) (.cells #[.int .i64 n, .bool b, .slice ao len cap] 47)).alloc (by simp) (.cells #[.int .i64 i, .bool k] 36))
  go_enter Try.func33, Try.ntmps33
  go_wp2
  all_goals
    go_ret
    refine ⟨ret_bool ?_, HB.out⟩
    first
      | (symm; rw [decide_eq_true_eq]; omega)
      | (symm; rw [decide_eq_false_iff_not]; omega)
      | (simp; omega)
theorem hasstep_is (len : Nat) (i : Int) (k q : Bool) (w : World) (hz : len ≤ 200) (h : decide (0 ≤ i ∧ i < (len : Int)) = q) :
    Calls Try.prog 33 #[.agg #[.int .i64 n, .bool b, .slice ao len cap], .agg #[.int .i64 i, .bool k]] w fun e w' => e = .returned (.bool q) ∧ Below w.heap.size w w' := by subst h; exact hasstep_any n b ao cap len i k w hz
set_option maxHeartbeats 1000000 in
theorem lroom_at (fo : Option Addr) (fc : Nat) (F : List Int) (i : Nat) (k : Bool) (a : ArcT) (x : Int) (w : World) (h : Row encA 4 w ao Z) (hf : Lst encI w fo F) (ha : Z[i]? = some a) (hx : F[i]? = some x) (hz : Z.length ≤ 200) (hfl : F.length ≤ 200) (h0 : 0 ≤ x) (h1 : x ≤ 1048576) (h2 : 0 ≤ a.2.2.1) (h3 : a.2.2.1 ≤ 1048576) :
    Calls Try.prog 34 #[.agg #[.int .i64 n, .bool b, .slice ao Z.length cap, .slice fo F.length fc], .agg #[.int .i64 (i : Int), .bool k]] w fun e w' => e = .returned (.int .i64 (roomI a x k)) ∧ Below w.heap.size w w' := by
  obtain ⟨hi, rfl⟩ := List.getElem?_eq_some_iff.1 ha
  obtain ⟨ab, ax, rfl, hab, c0, c1, c2, c3⟩ := h.arc hi
  have hif : i < F.length := (List.getElem?_eq_some_iff.1 hx).1
  obtain ⟨fb, fx, rfl, hfb, d0⟩ := lst_cell hf hx
  have hli : (i : Int) < (Z.length : Int) := by omega
  have hlf : (i : Int) < (F.length : Int) := by omega
  clear h ha hf hx c0 c1 c3
  generalize Z[i] = a at *
  obtain ⟨p, y, c, t⟩ := a
  simp only at c2 h2 h3
  unfold encI at d0
  have e0 := cell_alloc (cell_alloc c2 (.cells #[.int .i64 n, .bool b, .slice (some ⟨ab, ax, none⟩) Z.length cap, .slice (some ⟨fb, fx, none⟩) F.length fc] 49)) (.cells #[.int .i64 (i : Int), .bool k] 36)
  have e1 := cell_alloc (cell_alloc d0 (.cells #[.int .i64 n, .bool b, .slice (some ⟨ab, ax, none⟩) Z.length cap, .slice (some ⟨fb, fx, none⟩) F.length fc] 49)) (.cells #[.int .i64 (i : Int), .bool k] 36)
  have HB := Lib.hid (((Below.refl _ w).alloc (Nat.le_refl _) (.cells #[.int .i64 n, .bool b, .slice (some ⟨ab, ax, none⟩) Z.length cap, .slice (some ⟨fb, fx, none⟩) F.length fc] 49)).alloc (by simp) (.cells #[.int .i64 (i : Int), .bool k] 36))
  cases k
  · go_enter Try.func34, Try.ntmps34
    go_wp2
    go_quiet (fail)
    go_wp2
    go_ret
    exact ⟨rfl, below_drewN HB.out _⟩
  · go_enter Try.func34, Try.ntmps34
    go_wp2
    go_ret
    exact ⟨rfl, HB.out⟩
set_option maxHeartbeats 1000000 in
theorem rleft_at (fo : Option Addr) (fc : Nat) (F : List Int) (i : Nat) (k : Bool) (a : ArcT) (x : Int) (w : World) (h : Row encA 4 w ao Z) (hf : Lst encI w fo F) (ha : Z[i]? = some a) (hx : F[i]? = some x) (hz : Z.length ≤ 200) (hfl : F.length ≤ 200) (h0 : 0 ≤ x) (h1 : x ≤ 1048576) (h2 : 0 ≤ a.2.2.1) (h3 : a.2.2.1 ≤ 1048576) :
    Calls Try.prog 36 #[.agg #[.int .i64 n, .bool b, .slice ao Z.length cap], .slice fo F.length fc, .agg #[.int .i64 (i : Int), .bool k]] w fun e w' => e = .returned (.int .i64 (roomI a x k)) ∧ Below w.heap.size w w' := by
  obtain ⟨hi, rfl⟩ := List.getElem?_eq_some_iff.1 ha
  obtain ⟨ab, ax, rfl, hab, c0, c1, c2, c3⟩ := h.arc hi
  have hif : i < F.length := (List.getElem?_eq_some_iff.1 hx).1
  obtain ⟨fb, fx, rfl, hfb, d0⟩ := lst_cell hf hx
  have hli : (i : Int) < (Z.length : Int) := by omega
  have hlf : (i : Int) < (F.length : Int) := by omega
  clear h ha hf hx c0 c1 c3
  generalize Z[i] = a at *
  obtain ⟨p, y, c, t⟩ := a
  simp only at c2 h2 h3
  unfold encI at d0
  have e0 := cell_alloc (cell_alloc c2 (.cells #[.int .i64 n, .bool b, .slice (some ⟨ab, ax, none⟩) Z.length cap] 24)) (.cells #[.int .i64 (i : Int), .bool k] 36)
  have e1 := cell_alloc (cell_alloc d0 (.cells #[.int .i64 n, .bool b, .slice (some ⟨ab, ax, none⟩) Z.length cap] 24)) (.cells #[.int .i64 (i : Int), .bool k] 36)
  have HB := Lib.hid (((Below.refl _ w).alloc (Nat.le_refl _) (.cells #[.int .i64 n, .bool b, .slice (some ⟨ab, ax, none⟩) Z.length cap] 24)).alloc (by simp) (.cells #[.int .i64 (i : Int), .bool k] 36))
  cases k
  · go_enter Try.func36, Try.ntmps36
    go_wp2
    go_quiet (fail)
    go_wp2
    go_ret
    exact ⟨rfl, below_drewN HB.out _⟩
  · go_enter Try.func36, Try.ntmps36
    go_wp2
    go_ret
    exact ⟨rfl, HB.out⟩
set_option maxHeartbeats 1000000 in
theorem rfrom_at (i : Nat) (k : Bool) (a : ArcT) (w : World) (h : Row encA 4 w ao Z) (ha : Z[i]? = some a) (hz : Z.length ≤ 200) :
    Calls Try.prog 40 #[.agg #[.int .i64 n, .bool b, .slice ao Z.length cap], .agg #[.int .i64 (i : Int), .bool k]] w fun e w' => e = .returned (.int .i64 (begI a k)) ∧ Below w.heap.size w w' := by
  obtain ⟨hi, rfl⟩ := List.getElem?_eq_some_iff.1 ha
  obtain ⟨ab, ax, rfl, hab, c0, c1, c2, c3⟩ := h.arc hi
  have hli : (i : Int) < (Z.length : Int) := by omega
  clear h ha c2 c3
  generalize Z[i] = a at *
  obtain ⟨x, y, c, t⟩ := a
  simp only at c0 c1
  have e0 := cell_alloc (cell_alloc c0 (.cells #[.int .i64 n, .bool b, .slice (some ⟨ab, ax, none⟩) Z.length cap] 24)) (.cells #[.int .i64 (i : Int), .bool k] 36)
  have e1 := cell_alloc (cell_alloc c1 (.cells #[.int .i64 n, .bool b, .slice (some ⟨ab, ax, none⟩) Z.length cap] 24)) (.cells #[.int .i64 (i : Int), .bool k] 36)
  have HB := Lib.hid (((Below.refl _ w).alloc (Nat.le_refl _) (.cells #[.int .i64 n, .bool b, .slice (some ⟨ab, ax, none⟩) Z.length cap] 24)).alloc (by simp) (.cells #[.int .i64 (i : Int), .bool k] 36))
  cases k
  · go_enter Try.func40, Try.ntmps40
    go_wp2
    go_ret
    exact ⟨rfl, HB.out⟩
  · go_enter Try.func40, Try.ntmps40
    go_wp2
    go_ret
    exact ⟨rfl, HB.out⟩
set_option maxHeartbeats 1000000 in
theorem rto_at (i : Nat) (k : Bool) (a : ArcT) (w : World) (h : Row encA 4 w ao Z) (ha : Z[i]? = some a) (hz : Z.length ≤ 200) :
    Calls Try.prog 41 #[.agg #[.int .i64 n, .bool b, .slice ao Z.length cap], .agg #[.int .i64 (i : Int), .bool k]] w fun e w' => e = .returned (.int .i64 (endI a k)) ∧ Below w.heap.size w w' := by
  obtain ⟨hi, rfl⟩ := List.getElem?_eq_some_iff.1 ha
  obtain ⟨ab, ax, rfl, hab, c0, c1, c2, c3⟩ := h.arc hi
  have hli : (i : Int) < (Z.length : Int) := by omega
  clear h ha c2 c3
  generalize Z[i] = a at *
  obtain ⟨x, y, c, t⟩ := a
  simp only at c0 c1
  have e0 := cell_alloc (cell_alloc c0 (.cells #[.int .i64 n, .bool b, .slice (some ⟨ab, ax, none⟩) Z.length cap] 24)) (.cells #[.int .i64 (i : Int), .bool k] 36)
  have e1 := cell_alloc (cell_alloc c1 (.cells #[.int .i64 n, .bool b, .slice (some ⟨ab, ax, none⟩) Z.length cap] 24)) (.cells #[.int .i64 (i : Int), .bool k] 36)
  have HB := Lib.hid (((Below.refl _ w).alloc (Nat.le_refl _) (.cells #[.int .i64 n, .bool b, .slice (some ⟨ab, ax, none⟩) Z.length cap] 24)).alloc (by simp) (.cells #[.int .i64 (i : Int), .bool k] 36))
  cases k
  · go_enter Try.func41, Try.ntmps41
    go_wp2
    go_ret
    exact ⟨rfl, HB.out⟩
  · go_enter Try.func41, Try.ntmps41
    go_wp2
    go_ret
    exact ⟨rfl, HB.out⟩
end
end Go.Proofs.Ytiefphkfddecbaa
