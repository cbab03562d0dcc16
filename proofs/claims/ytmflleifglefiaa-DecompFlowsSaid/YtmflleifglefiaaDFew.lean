/- Few: a network with at most so many nodes and arcs, whatever the numbers. -/
import Derived.Test.YtmflleifglefiaaBH
namespace Go.Proofs.Ytmflleifglefiaa
open Go.RowKit
set_option linter.unusedVariables false

def fewNK (k n : Int) : Int := if k < n ∧ n ≤ 50 then k else n
def fewZK (m : Nat) (Z : List ArcT) : List ArcT := if m < Z.length ∧ Z.length ≤ 200 then Z.take m else Z
theorem row_takeK {w : World} {ao : Option Addr} {Z : List ArcT} (h : Row encA 4 w ao Z) (k : Nat) : Row encA 4 w ao (Z.take k) := by
  intro i hi
  have hi' : i < Z.length := by rw [List.length_take] at hi; omega
  obtain ⟨b, o, h1, h2, h3⟩ := h i hi'
  refine ⟨b, o, h1, h2, fun j hj => ?_⟩
  rw [h3 j hj, List.getElem_take]
theorem row_fewK {w : World} {ao : Option Addr} {Z : List ArcT} (m : Nat) (h : Row encA 4 w ao Z) : Row encA 4 w ao (fewZK m Z) := by
  unfold fewZK
  split
  · exact row_takeK h m
  · exact h
theorem fewZK_le (m : Nat) (Z : List ArcT) : (fewZK m Z).length ≤ Z.length := by
  unfold fewZK
  split
  · rw [List.length_take]; omega
  · exact Nat.le_refl _
theorem fewZK_few {m : Nat} {Z : List ArcT} (h : (fewZK m Z).length ≤ 200) : (fewZK m Z).length ≤ m := by
  unfold fewZK at h ⊢
  split
  · rw [List.length_take]; omega
  · next h1 =>
    rw [if_neg h1] at h
    omega
/-- What Few tells: a network with fewer nodes and arcs. -/
def FewResK (k : Int) (m : Nat) (n : Int) (b : Bool) (ao : Option Addr) (cap : Nat) (Z : List ArcT) (w : World) (e : Ending) (w' : World) : Prop :=
  e = .returned (.agg #[.int .i64 (fewNK k n), .bool b, .slice ao (fewZK m Z).length cap]) ∧ Below w.heap.size w w'
theorem below_twoK (w : World) (x y : Obj) : Below w.heap.size w ((w.alloc x).alloc y) := ((Below.refl _ w).alloc (Nat.le_refl _) x).alloc (by simp) y
set_option maxHeartbeats 1000000 in
theorem fewK_any (k : Int) (m : Nat) (mi : Int) (hmi : mi = (m : Int)) (hm2 : m ≤ 200) (n : Int) (b : Bool) (ao : Option Addr) (cap : Nat) (Z : List ArcT) (w : World) (h : Row encA 4 w ao Z) (hm : Z.length ≤ maxLen) (hcap : Z.length ≤ cap) :
    Calls Try.prog 8 #[.agg #[.int .i64 n, .bool b, .slice ao Z.length cap], .int .i64 k, .int .i64 mi] w (FewResK k m n b ao cap Z w) := by
  subst hmi
  unfold maxLen at hm
  by_cases h1 : k < n ∧ n ≤ 50
  · have HN : Hid (fewNK k n = k) := Lib.hid (by unfold fewNK; rw [if_pos h1])
    obtain ⟨h1a, h1b⟩ := h1
    by_cases h2 : m < Z.length ∧ Z.length ≤ 200
    · have HZ : Hid ((fewZK m Z).length = m) := Lib.hid (by unfold fewZK; rw [if_pos h2, List.length_take]; omega)
      obtain ⟨h2a, h2b⟩ := h2
      have h2c : (m : Int) < (Z.length : Int) := by omega
      have h2d : (Z.length : Int) ≤ 200 := by omega
      obtain ⟨ab, ax, e, _⟩ := h 0 (by omega)
      cases e
      clear h
      have hc3 : (m : Int) ≤ (cap : Int) := by omega
      go_enter Try.func8, Try.ntmps8
      go_wp2
      refine bodyPost_ret (v := .agg #[.int .i64 k, .bool b, .slice (some ⟨ab, ax, none⟩) m cap]) (by simp [results, Try.results8, go_sem]) rfl ?_
      exact ⟨by rw [HN.out, HZ.out], below_twoK _ _ _⟩
    · have HZ : Hid ((fewZK m Z).length = Z.length) := Lib.hid (by unfold fewZK; rw [if_neg h2])
      clear h
      by_cases h2a : m < Z.length
      · have h2b : ¬ Z.length ≤ 200 := by omega
        have h2c : (m : Int) < (Z.length : Int) := by omega
        have h2d : ¬ (Z.length : Int) ≤ 200 := by omega
        have h2e : decide (Z.length ≤ 200) = false := decide_eq_false h2b
        clear h2
        go_enter Try.func8, Try.ntmps8
        go_wp2
        refine bodyPost_ret (v := .agg #[.int .i64 k, .bool b, .slice ao Z.length cap]) (by simp [results, Try.results8, go_sem]) rfl ?_
        exact ⟨by rw [HN.out, HZ.out], below_twoK _ _ _⟩
      · have h2c : ¬ (m : Int) < (Z.length : Int) := by omega
        clear h2
        go_enter Try.func8, Try.ntmps8
        go_wp2
        refine bodyPost_ret (v := .agg #[.int .i64 k, .bool b, .slice ao Z.length cap]) (by simp [results, Try.results8, go_sem]) rfl ?_
        exact ⟨by rw [HN.out, HZ.out], below_twoK _ _ _⟩
  · have HN : Hid (fewNK k n = n) := Lib.hid (by unfold fewNK; rw [if_neg h1])
    by_cases h2 : m < Z.length ∧ Z.length ≤ 200
    · have HZ : Hid ((fewZK m Z).length = m) := Lib.hid (by unfold fewZK; rw [if_pos h2, List.length_take]; omega)
      obtain ⟨h2a, h2b⟩ := h2
      have h2c : (m : Int) < (Z.length : Int) := by omega
      have h2d : (Z.length : Int) ≤ 200 := by omega
      obtain ⟨ab, ax, e, _⟩ := h 0 (by omega)
      cases e
      clear h
      have hc3 : (m : Int) ≤ (cap : Int) := by omega
      by_cases h1a : k < n
      · have h1b : ¬ n ≤ 50 := by omega
        clear h1
        go_enter Try.func8, Try.ntmps8
        go_wp2
        refine bodyPost_ret (v := .agg #[.int .i64 n, .bool b, .slice (some ⟨ab, ax, none⟩) m cap]) (by simp [results, Try.results8, go_sem]) rfl ?_
        exact ⟨by rw [HN.out, HZ.out], below_twoK _ _ _⟩
      · clear h1
        go_enter Try.func8, Try.ntmps8
        go_wp2
        refine bodyPost_ret (v := .agg #[.int .i64 n, .bool b, .slice (some ⟨ab, ax, none⟩) m cap]) (by simp [results, Try.results8, go_sem]) rfl ?_
        exact ⟨by rw [HN.out, HZ.out], below_twoK _ _ _⟩
    · have HZ : Hid ((fewZK m Z).length = Z.length) := Lib.hid (by unfold fewZK; rw [if_neg h2])
      clear h
      by_cases h2a : m < Z.length
      · have h2b : ¬ Z.length ≤ 200 := by omega
        have h2c : (m : Int) < (Z.length : Int) := by omega
        have h2d : ¬ (Z.length : Int) ≤ 200 := by omega
        have h2e : decide (Z.length ≤ 200) = false := decide_eq_false h2b
        clear h2
        by_cases h1a : k < n
        · have h1b : ¬ n ≤ 50 := by omega
          clear h1
          go_enter Try.func8, Try.ntmps8
          go_wp2
          refine bodyPost_ret (v := .agg #[.int .i64 n, .bool b, .slice ao Z.length cap]) (by simp [results, Try.results8, go_sem]) rfl ?_
          exact ⟨by rw [HN.out, HZ.out], below_twoK _ _ _⟩
        · clear h1
          go_enter Try.func8, Try.ntmps8
          go_wp2
          refine bodyPost_ret (v := .agg #[.int .i64 n, .bool b, .slice ao Z.length cap]) (by simp [results, Try.results8, go_sem]) rfl ?_
          exact ⟨by rw [HN.out, HZ.out], below_twoK _ _ _⟩
      · have h2c : ¬ (m : Int) < (Z.length : Int) := by omega
        clear h2
        by_cases h1a : k < n
        · have h1b : ¬ n ≤ 50 := by omega
          clear h1
          go_enter Try.func8, Try.ntmps8
          go_wp2
          refine bodyPost_ret (v := .agg #[.int .i64 n, .bool b, .slice ao Z.length cap]) (by simp [results, Try.results8, go_sem]) rfl ?_
          exact ⟨by rw [HN.out, HZ.out], below_twoK _ _ _⟩
        · clear h1
          go_enter Try.func8, Try.ntmps8
          go_wp2
          refine bodyPost_ret (v := .agg #[.int .i64 n, .bool b, .slice ao Z.length cap]) (by simp [results, Try.results8, go_sem]) rfl ?_
          exact ⟨by rw [HN.out, HZ.out], below_twoK _ _ _⟩
end Go.Proofs.Ytmflleifglefiaa
