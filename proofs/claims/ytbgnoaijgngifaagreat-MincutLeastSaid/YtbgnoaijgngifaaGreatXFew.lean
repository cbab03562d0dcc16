/- Few: a network with at most 12 nodes and 40 arcs. -/
import Derived.Test.YtbgnoaijgngifaaGreatXMem
namespace Go.Proofs.YtbgnoaijgngifaaGreat
open Go.RowKit
set_option linter.unusedVariables false

def fewN9 (n : Int) : Int := if 12 < n ∧ n ≤ 50 then 12 else n
def fewZ9 (Z : List ArcT) : List ArcT := if 40 < Z.length ∧ Z.length ≤ 200 then Z.take 40 else Z
theorem row_take9 {w : World} {ao : Option Addr} {Z : List ArcT} (h : Row encA 4 w ao Z) (k : Nat) : Row encA 4 w ao (Z.take k) := by
  intro i hi
  have hi' : i < Z.length := by rw [List.length_take] at hi; omega
  obtain ⟨b, o, h1, h2, h3⟩ := h i hi'
  refine ⟨b, o, h1, h2, fun j hj => ?_⟩
  rw [h3 j hj, List.getElem_take]
theorem row_few9 {w : World} {ao : Option Addr} {Z : List ArcT} (h : Row encA 4 w ao Z) : Row encA 4 w ao (fewZ9 Z) := by
  unfold fewZ9
  split
  · exact row_take9 h 40
  · exact h
theorem fewZ9_le (Z : List ArcT) : (fewZ9 Z).length ≤ Z.length := by
  unfold fewZ9
  split
  · rw [List.length_take]; omega
  · exact Nat.le_refl _
/-- What Few tells: a network with fewer nodes and arcs. -/
def FewRes9 (n : Int) (b : Bool) (ao : Option Addr) (cap : Nat) (Z : List ArcT) (w : World) (e : Ending) (w' : World) : Prop :=
  e = .returned (.agg #[.int .i64 (fewN9 n), .bool b, .slice ao (fewZ9 Z).length cap]) ∧ Below w.heap.size w w'
theorem below_two9 (w : World) (x y : Obj) : Below w.heap.size w ((w.alloc x).alloc y) := ((Below.refl _ w).alloc (Nat.le_refl _) x).alloc (by simp) y
set_option maxHeartbeats 1000000 in
theorem few9_any (n : Int) (b : Bool) (ao : Option Addr) (cap : Nat) (Z : List ArcT) (w : World) (h : Row encA 4 w ao Z) (hm : Z.length ≤ maxLen) (hcap : Z.length ≤ cap) :
    Calls Tryz.prog 4 #[.agg #[.int .i64 n, .bool b, .slice ao Z.length cap], .int .i64 12, .int .i64 40] w (FewRes9 n b ao cap Z w) := by
  unfold maxLen at hm
  by_cases h1 : 12 < n ∧ n ≤ 50
  · have HN : Hid (fewN9 n = 12) := Lib.hid (by unfold fewN9; rw [if_pos h1])
    obtain ⟨h1a, h1b⟩ := h1
    by_cases h2 : 40 < Z.length ∧ Z.length ≤ 200
    · have HZ : Hid ((fewZ9 Z).length = 40) := Lib.hid (by unfold fewZ9; rw [if_pos h2, List.length_take]; omega)
      obtain ⟨h2a, h2b⟩ := h2
      have h2c : (40 : Int) < (Z.length : Int) := by omega
      have h2d : (Z.length : Int) ≤ 200 := by omega
      obtain ⟨ab, ax, e, _⟩ := h 0 (by omega)
      cases e
      clear h
      have hc3 : (40 : Int) ≤ (cap : Int) := by omega
      go_enter Tryz.func4, Tryz.ntmps4
      go_wp2
      refine bodyPost_ret (v := .agg #[.int .i64 12, .bool b, .slice (some ⟨ab, ax, none⟩) 40 cap]) (by simp [results, Tryz.results4, go_sem]) rfl ?_
      exact ⟨by rw [HN.out, HZ.out], below_two9 _ _ _⟩
    · have HZ : Hid ((fewZ9 Z).length = Z.length) := Lib.hid (by unfold fewZ9; rw [if_neg h2])
      clear h
      by_cases h2a : 40 < Z.length
      · have h2b : ¬ Z.length ≤ 200 := by omega
        have h2c : (40 : Int) < (Z.length : Int) := by omega
        have h2d : ¬ (Z.length : Int) ≤ 200 := by omega
        have h2e : decide (Z.length ≤ 200) = false := decide_eq_false h2b
        clear h2
        go_enter Tryz.func4, Tryz.ntmps4
        go_wp2
        refine bodyPost_ret (v := .agg #[.int .i64 12, .bool b, .slice ao Z.length cap]) (by simp [results, Tryz.results4, go_sem]) rfl ?_
        exact ⟨by rw [HN.out, HZ.out], below_two9 _ _ _⟩
      · have h2c : ¬ (40 : Int) < (Z.length : Int) := by omega
        clear h2
        go_enter Tryz.func4, Tryz.ntmps4
        go_wp2
        refine bodyPost_ret (v := .agg #[.int .i64 12, .bool b, .slice ao Z.length cap]) (by simp [results, Tryz.results4, go_sem]) rfl ?_
        exact ⟨by rw [HN.out, HZ.out], below_two9 _ _ _⟩
  · have HN : Hid (fewN9 n = n) := Lib.hid (by unfold fewN9; rw [if_neg h1])
    by_cases h2 : 40 < Z.length ∧ Z.length ≤ 200
    · have HZ : Hid ((fewZ9 Z).length = 40) := Lib.hid (by unfold fewZ9; rw [if_pos h2, List.length_take]; omega)
      obtain ⟨h2a, h2b⟩ := h2
      have h2c : (40 : Int) < (Z.length : Int) := by omega
      have h2d : (Z.length : Int) ≤ 200 := by omega
      obtain ⟨ab, ax, e, _⟩ := h 0 (by omega)
      cases e
      clear h
      have hc3 : (40 : Int) ≤ (cap : Int) := by omega
      by_cases h1a : 12 < n
      · have h1b : ¬ n ≤ 50 := by omega
        clear h1
        go_enter Tryz.func4, Tryz.ntmps4
        go_wp2
        refine bodyPost_ret (v := .agg #[.int .i64 n, .bool b, .slice (some ⟨ab, ax, none⟩) 40 cap]) (by simp [results, Tryz.results4, go_sem]) rfl ?_
        exact ⟨by rw [HN.out, HZ.out], below_two9 _ _ _⟩
      · clear h1
        go_enter Tryz.func4, Tryz.ntmps4
        go_wp2
        refine bodyPost_ret (v := .agg #[.int .i64 n, .bool b, .slice (some ⟨ab, ax, none⟩) 40 cap]) (by simp [results, Tryz.results4, go_sem]) rfl ?_
        exact ⟨by rw [HN.out, HZ.out], below_two9 _ _ _⟩
    · have HZ : Hid ((fewZ9 Z).length = Z.length) := Lib.hid (by unfold fewZ9; rw [if_neg h2])
      clear h
      by_cases h2a : 40 < Z.length
      · have h2b : ¬ Z.length ≤ 200 := by omega
        have h2c : (40 : Int) < (Z.length : Int) := by omega
        have h2d : ¬ (Z.length : Int) ≤ 200 := by omega
        have h2e : decide (Z.length ≤ 200) = false := decide_eq_false h2b
        clear h2
        by_cases h1a : 12 < n
        · have h1b : ¬ n ≤ 50 := by omega
          clear h1
          go_enter Tryz.func4, Tryz.ntmps4
          go_wp2
          refine bodyPost_ret (v := .agg #[.int .i64 n, .bool b, .slice ao Z.length cap]) (by simp [results, Tryz.results4, go_sem]) rfl ?_
          exact ⟨by rw [HN.out, HZ.out], below_two9 _ _ _⟩
        · clear h1
          go_enter Tryz.func4, Tryz.ntmps4
          go_wp2
          refine bodyPost_ret (v := .agg #[.int .i64 n, .bool b, .slice ao Z.length cap]) (by simp [results, Tryz.results4, go_sem]) rfl ?_
          exact ⟨by rw [HN.out, HZ.out], below_two9 _ _ _⟩
      · have h2c : ¬ (40 : Int) < (Z.length : Int) := by omega
        clear h2
        by_cases h1a : 12 < n
        · have h1b : ¬ n ≤ 50 := by omega
          clear h1
          go_enter Tryz.func4, Tryz.ntmps4
          go_wp2
          refine bodyPost_ret (v := .agg #[.int .i64 n, .bool b, .slice ao Z.length cap]) (by simp [results, Tryz.results4, go_sem]) rfl ?_
          exact ⟨by rw [HN.out, HZ.out], below_two9 _ _ _⟩
        · clear h1
          go_enter Tryz.func4, Tryz.ntmps4
          go_wp2
          refine bodyPost_ret (v := .agg #[.int .i64 n, .bool b, .slice ao Z.length cap]) (by simp [results, Tryz.results4, go_sem]) rfl ?_
          exact ⟨by rw [HN.out, HZ.out], below_two9 _ _ _⟩
end Go.Proofs.YtbgnoaijgngifaaGreat
