/- Few: a network with at most 8 nodes and 20 arcs. -/
import Derived.Test.YtekcnglkfglbfaaGreatGMem
namespace Go.Proofs.YtekcnglkfglbfaaGreat
open Go.RowKit
set_option linter.unusedVariables false

def fewN8 (n : Int) : Int := if 8 < n ∧ n ≤ 50 then 8 else n
def fewZ8 (Z : List ArcT) : List ArcT := if 20 < Z.length ∧ Z.length ≤ 200 then Z.take 20 else Z
theorem row_take8 {w : World} {ao : Option Addr} {Z : List ArcT} (h : Row encA 4 w ao Z) (k : Nat) : Row encA 4 w ao (Z.take k) := by
  intro i hi
  have hi' : i < Z.length := by rw [List.length_take] at hi; omega
  obtain ⟨b, o, h1, h2, h3⟩ := h i hi'
  refine ⟨b, o, h1, h2, fun j hj => ?_⟩
  rw [h3 j hj, List.getElem_take]
theorem row_few8 {w : World} {ao : Option Addr} {Z : List ArcT} (h : Row encA 4 w ao Z) : Row encA 4 w ao (fewZ8 Z) := by
  unfold fewZ8
  split
  · exact row_take8 h 20
  · exact h
theorem fewZ8_le (Z : List ArcT) : (fewZ8 Z).length ≤ Z.length := by
  unfold fewZ8
  split
  · rw [List.length_take]; omega
  · exact Nat.le_refl _
/-- What Few tells: a network with fewer nodes and arcs. -/
def FewRes8 (n : Int) (b : Bool) (ao : Option Addr) (cap : Nat) (Z : List ArcT) (w : World) (e : Ending) (w' : World) : Prop :=
  e = .returned (.agg #[.int .i64 (fewN8 n), .bool b, .slice ao (fewZ8 Z).length cap]) ∧ Below w.heap.size w w'
theorem below_two8 (w : World) (x y : Obj) : Below w.heap.size w ((w.alloc x).alloc y) := ((Below.refl _ w).alloc (Nat.le_refl _) x).alloc (by simp) y
set_option maxHeartbeats 1000000 in
theorem few8_any (n : Int) (b : Bool) (ao : Option Addr) (cap : Nat) (Z : List ArcT) (w : World) (h : Row encA 4 w ao Z) (hm : Z.length ≤ maxLen) (hcap : Z.length ≤ cap) :
    Calls Tryz.prog 6 #[.agg #[.int .i64 n, .bool b, .slice ao Z.length cap], .int .i64 8, .int .i64 20] w (FewRes8 n b ao cap Z w) := by
  unfold maxLen at hm
  by_cases h1 : 8 < n ∧ n ≤ 50
  · have HN : Hid (fewN8 n = 8) := Lib.hid (by unfold fewN8; rw [if_pos h1])
    obtain ⟨h1a, h1b⟩ := h1
    by_cases h2 : 20 < Z.length ∧ Z.length ≤ 200
    · have HZ : Hid ((fewZ8 Z).length = 20) := Lib.hid (by unfold fewZ8; rw [if_pos h2, List.length_take]; omega)
      obtain ⟨h2a, h2b⟩ := h2
      have h2c : (20 : Int) < (Z.length : Int) := by omega
      have h2d : (Z.length : Int) ≤ 200 := by omega
      obtain ⟨ab, ax, e, _⟩ := h 0 (by omega)
      cases e
      clear h
      have hc3 : (20 : Int) ≤ (cap : Int) := by omega
      go_enter Tryz.func6, Tryz.ntmps6
      go_wp2
      refine bodyPost_ret (v := .agg #[.int .i64 8, .bool b, .slice (some ⟨ab, ax, none⟩) 20 cap]) (by simp [results, Tryz.results6, go_sem]) rfl ?_
      exact ⟨by rw [HN.out, HZ.out], below_two8 _ _ _⟩
    · have HZ : Hid ((fewZ8 Z).length = Z.length) := Lib.hid (by unfold fewZ8; rw [if_neg h2])
      clear h
      by_cases h2a : 20 < Z.length
      · have h2b : ¬ Z.length ≤ 200 := by omega
        have h2c : (20 : Int) < (Z.length : Int) := by omega
        have h2d : ¬ (Z.length : Int) ≤ 200 := by omega
        have h2e : decide (Z.length ≤ 200) = false := decide_eq_false h2b
        clear h2
        go_enter Tryz.func6, Tryz.ntmps6
        go_wp2
        refine bodyPost_ret (v := .agg #[.int .i64 8, .bool b, .slice ao Z.length cap]) (by simp [results, Tryz.results6, go_sem]) rfl ?_
        exact ⟨by rw [HN.out, HZ.out], below_two8 _ _ _⟩
      · have h2c : ¬ (20 : Int) < (Z.length : Int) := by omega
        clear h2
        go_enter Tryz.func6, Tryz.ntmps6
        go_wp2
        refine bodyPost_ret (v := .agg #[.int .i64 8, .bool b, .slice ao Z.length cap]) (by simp [results, Tryz.results6, go_sem]) rfl ?_
        exact ⟨by rw [HN.out, HZ.out], below_two8 _ _ _⟩
  · have HN : Hid (fewN8 n = n) := Lib.hid (by unfold fewN8; rw [if_neg h1])
    by_cases h2 : 20 < Z.length ∧ Z.length ≤ 200
    · have HZ : Hid ((fewZ8 Z).length = 20) := Lib.hid (by unfold fewZ8; rw [if_pos h2, List.length_take]; omega)
      obtain ⟨h2a, h2b⟩ := h2
      have h2c : (20 : Int) < (Z.length : Int) := by omega
      have h2d : (Z.length : Int) ≤ 200 := by omega
      obtain ⟨ab, ax, e, _⟩ := h 0 (by omega)
      cases e
      clear h
      have hc3 : (20 : Int) ≤ (cap : Int) := by omega
      by_cases h1a : 8 < n
      · have h1b : ¬ n ≤ 50 := by omega
        clear h1
        go_enter Tryz.func6, Tryz.ntmps6
        go_wp2
        refine bodyPost_ret (v := .agg #[.int .i64 n, .bool b, .slice (some ⟨ab, ax, none⟩) 20 cap]) (by simp [results, Tryz.results6, go_sem]) rfl ?_
        exact ⟨by rw [HN.out, HZ.out], below_two8 _ _ _⟩
      · clear h1
        go_enter Tryz.func6, Tryz.ntmps6
        go_wp2
        refine bodyPost_ret (v := .agg #[.int .i64 n, .bool b, .slice (some ⟨ab, ax, none⟩) 20 cap]) (by simp [results, Tryz.results6, go_sem]) rfl ?_
        exact ⟨by rw [HN.out, HZ.out], below_two8 _ _ _⟩
    · have HZ : Hid ((fewZ8 Z).length = Z.length) := Lib.hid (by unfold fewZ8; rw [if_neg h2])
      clear h
      by_cases h2a : 20 < Z.length
      · have h2b : ¬ Z.length ≤ 200 := by omega
        have h2c : (20 : Int) < (Z.length : Int) := by omega
        have h2d : ¬ (Z.length : Int) ≤ 200 := by omega
        have h2e : decide (Z.length ≤ 200) = false := decide_eq_false h2b
        clear h2
        by_cases h1a : 8 < n
        · have h1b : ¬ n ≤ 50 := by omega
          clear h1
          go_enter Tryz.func6, Tryz.ntmps6
          go_wp2
          refine bodyPost_ret (v := .agg #[.int .i64 n, .bool b, .slice ao Z.length cap]) (by simp [results, Tryz.results6, go_sem]) rfl ?_
          exact ⟨by rw [HN.out, HZ.out], below_two8 _ _ _⟩
        · clear h1
          go_enter Tryz.func6, Tryz.ntmps6
          go_wp2
          refine bodyPost_ret (v := .agg #[.int .i64 n, .bool b, .slice ao Z.length cap]) (by simp [results, Tryz.results6, go_sem]) rfl ?_
          exact ⟨by rw [HN.out, HZ.out], below_two8 _ _ _⟩
      · have h2c : ¬ (20 : Int) < (Z.length : Int) := by omega
        clear h2
        by_cases h1a : 8 < n
        · have h1b : ¬ n ≤ 50 := by omega
          clear h1
          go_enter Tryz.func6, Tryz.ntmps6
          go_wp2
          refine bodyPost_ret (v := .agg #[.int .i64 n, .bool b, .slice ao Z.length cap]) (by simp [results, Tryz.results6, go_sem]) rfl ?_
          exact ⟨by rw [HN.out, HZ.out], below_two8 _ _ _⟩
        · clear h1
          go_enter Tryz.func6, Tryz.ntmps6
          go_wp2
          refine bodyPost_ret (v := .agg #[.int .i64 n, .bool b, .slice ao Z.length cap]) (by simp [results, Tryz.results6, go_sem]) rfl ?_
          exact ⟨by rw [HN.out, HZ.out], below_two8 _ _ _⟩
end Go.Proofs.YtekcnglkfglbfaaGreat
