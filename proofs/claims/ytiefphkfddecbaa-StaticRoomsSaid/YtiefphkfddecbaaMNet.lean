/- Networks: what is wrong with one; Check of the program and of the document. -/
import Derived.Test.YtiefphkfddecbaaMBase
namespace Go.Proofs.Ytiefphkfddecbaa
open Go.RowKit
set_option linter.unusedVariables false

abbrev ArcT := Int × Int × Int × Int
abbrev NetT := Int × Bool × List ArcT
def zeroN : NetT := (0, false, [])
/-- What is wrong with so many nodes, with an arc, with arcs, with a network. -/
def nodesE (n : Int) : Int := if n < 1 then 51 else if 50 < n then 2 else 0
def badEnds (n : Int) (a : ArcT) : Prop := a.1 < 0 ∨ n ≤ a.1 ∨ a.2.1 < 0 ∨ n ≤ a.2.1 ∨ a.2.2.1 < 0 ∨ a.2.2.2 < 0
instance (n : Int) (a : ArcT) : Decidable (badEnds n a) := by unfold badEnds; infer_instance
def bigArc (a : ArcT) : Prop := 1048576 < a.2.2.1 ∨ 1048576 < a.2.2.2
instance (a : ArcT) : Decidable (bigArc a) := by unfold bigArc; infer_instance
def arcE (n : Int) (a : ArcT) : Int := if badEnds n a then 51 else if bigArc a then 2 else 0
def arcsE (n : Int) : List ArcT → Int
  | [] => 0
  | a :: r => if arcE n a = 0 then arcsE n r else arcE n a
def checkE (n : Int) (Z : List ArcT) : Int := if nodesE n = 0 then (if 200 < Z.length then 2 else arcsE n Z) else nodesE n
theorem nodesE_ok {n : Int} (h : nodesE n = 0) : 1 ≤ n ∧ n ≤ 50 := by
  unfold nodesE at h
  split at h
  · cases h
  · split at h
    · cases h
    · omega
theorem nodesE_mk {n : Int} (h1 : 1 ≤ n) (h2 : n ≤ 50) : nodesE n = 0 := by unfold nodesE; rw [if_neg (by omega), if_neg (by omega)]
theorem arcE_ok {n : Int} {a : ArcT} (h : arcE n a = 0) : ¬ badEnds n a ∧ ¬ bigArc a := by
  unfold arcE at h
  split at h
  · cases h
  · next h1 =>
    split at h
    · cases h
    · next h2 => exact ⟨h1, h2⟩
/-- A network in which nothing is wrong. -/
def Right (n : NetT) : Prop := nodesE n.1 = 0 ∧ n.2.2.length ≤ 200 ∧ ∀ a ∈ n.2.2, arcE n.1 a = 0
theorem arcsE_ok {n : Int} {Z : List ArcT} : arcsE n Z = 0 ↔ ∀ a ∈ Z, arcE n a = 0 := by
  induction Z with
  | nil => simp [arcsE]
  | cons a r ih =>
    unfold arcsE
    split
    · next h => rw [ih]; simp [h]
    · next h => constructor
                · intro h2; exact absurd h2 h
                · intro h2; exact absurd (h2 a (by simp)) h
theorem right_iff {n : Int} {b : Bool} {Z : List ArcT} : checkE n Z = 0 ↔ Right (n, b, Z) := by
  unfold checkE Right
  simp only
  split
  · next h =>
    split
    · next h2 => constructor
                 · intro h3; cases h3
                 · intro h3; omega
    · next h2 => rw [arcsE_ok]; exact ⟨fun h3 => ⟨h, by omega, h3⟩, fun h3 => h3.2.2⟩
  · next h => exact ⟨fun h2 => absurd h2 h, fun h2 => absurd h2.1 h⟩
theorem right_pos {n : NetT} (h : Right n) : 0 < n.1 := by have := nodesE_ok h.1; omega
theorem arc_bd {n : Int} {a : ArcT} (hn : nodesE n = 0) (h : arcE n a = 0) : (0 ≤ a.1 ∧ a.1 < 50) ∧ (0 ≤ a.2.1 ∧ a.2.1 < 50) ∧ (0 ≤ a.2.2.1 ∧ a.2.2.1 ≤ 1048576) ∧ (0 ≤ a.2.2.2 ∧ a.2.2.2 ≤ 1048576) := by
  have h1 := nodesE_ok hn
  obtain ⟨h2, h3⟩ := arcE_ok h
  unfold badEnds at h2
  unfold bigArc at h3
  omega
def encA (x : ArcT) : List Value := [.int .i64 x.1, .int .i64 x.2.1, .int .i64 x.2.2.1, .int .i64 x.2.2.2]
theorem encA_len (z : ArcT) : (encA z).length = 4 := rfl
theorem encA_one (z : ArcT) : ∀ u ∈ encA z, u.oneCell' = true := by intro u hu; simp [encA] at hu; rcases hu with rfl | rfl | rfl | rfl <;> rfl
theorem infoArc : (Try.prog.info? 63).map (fun i => (i.zero, i.size, i.bytes)) = some (some (.agg #[.int .i64 0, .int .i64 0, .int .i64 0, .int .i64 0]), 4, 32) := by kernel_rfl
theorem Row.arc {w : World} {ao : Option Addr} {Z : List ArcT} (h : Row encA 4 w ao Z) {i : Nat} (hi : i < Z.length) : ∃ b o, ao = some ⟨b, o, none⟩ ∧ b < w.heap.size ∧
    w.cell? ⟨b, o + i * 4, none⟩ = some (.int .i64 Z[i].1) ∧ w.cell? ⟨b, o + i * 4 + 1, none⟩ = some (.int .i64 Z[i].2.1) ∧ w.cell? ⟨b, o + i * 4 + 2, none⟩ = some (.int .i64 Z[i].2.2.1) ∧ w.cell? ⟨b, o + i * 4 + 3, none⟩ = some (.int .i64 Z[i].2.2.2) := by
  obtain ⟨b, o, e, hb, hc⟩ := h i hi
  exact ⟨b, o, e, hb, hc 0 (by omega), hc 1 (by omega), hc 2 (by omega), hc 3 (by omega)⟩
theorem ne_arc (x1 x2 x3 x4 y1 y2 y3 y4 : Int) (w : World) : (binOp .neq 63 (.agg #[.int .i64 x1, .int .i64 x2, .int .i64 x3, .int .i64 x4]) (.agg #[.int .i64 y1, .int .i64 y2, .int .i64 y3, .int .i64 y4])).run Try.prog w = .ok (.bool (!(x1 == y1 && x2 == y2 && x3 == y3 && x4 == y4))) w := by
  have u3 := Try.underlying3
  have a3 := Try.isAgg3
  have z3 := Try.sizeOf3
  have hS : Try.prog.underlying 63 = some (.struct (Try.prog.fieldsOf 63)) := by kernel_rfl
  have hp : Try.prog.stoodInHeld 63 = false := by kernel_rfl
  rw [run_neq_struct, show (10000 : Nat) = 9999 + 1 from rfl, run_equalIn_agg w 9999 63 _ _ hS hp]
  simp only [Program.fieldsOf, Try.underlying63]
  go_simp
  by_cases h1 : x1 = y1 <;> by_cases h2 : x2 = y2 <;> by_cases h3 : x3 = y3 <;> by_cases h4 : x4 = y4 <;> simp [h1, h2, h3, h4]
theorem netBox (w : World) (n : Int) (b : Bool) (v : Value) : (w.alloc (.cells #[.int .i64 n, .bool b, v] 24)).cell? ⟨w.heap.size, 0, none⟩ = some (.int .i64 n) ∧ (w.alloc (.cells #[.int .i64 n, .bool b, v] 24)).cell? ⟨w.heap.size, 1, none⟩ = some (.bool b) ∧ (w.alloc (.cells #[.int .i64 n, .bool b, v] 24)).cell? ⟨w.heap.size, 2, none⟩ = some v :=
  ⟨cell_new w #[.int .i64 n, .bool b, v] 24 0, cell_new w #[.int .i64 n, .bool b, v] 24 1, cell_new w #[.int .i64 n, .bool b, v] 24 2⟩
/-- A network's value: its number of nodes, whether nodes keep, and its arcs' slice. -/
def netV (n : NetT) (v : Value) : Value := .agg #[.int .i64 n.1, .bool n.2.1, v]
theorem cnodes_any (n : Int) (w : World) : Calls Try.prog 45 #[.int .i64 n] w fun e w' => e = .returned (.int .i64 (nodesE n)) ∧ w = w' := by
  go_enter Try.func45, Try.ntmps45
  go_wp2
  all_goals
    go_ret
    refine ⟨ret_int ?_, rfl⟩
    unfold nodesE
    first
      | rw [if_pos (by omega)]
      | rw [if_neg (by omega), if_pos (by omega)]
      | rw [if_neg (by omega), if_neg (by omega)]
theorem rnodes_any (n : Int) (w : World) : Calls Try.prog 43 #[.int .i64 n] w fun e w' => e = .returned (.int .i64 (nodesE n)) ∧ w = w' := by
  go_enter Try.func43, Try.ntmps43
  go_wp2
  all_goals
    go_ret
    refine ⟨ret_int ?_, rfl⟩
    unfold nodesE
    first
      | rw [if_pos (by omega)]
      | rw [if_neg (by omega), if_pos (by omega)]
      | rw [if_neg (by omega), if_neg (by omega)]
theorem arcE_bad {n a b c d : Int} (h : a < 0 ∨ n ≤ a ∨ b < 0 ∨ n ≤ b ∨ c < 0 ∨ d < 0) : arcE n (a, b, c, d) = 51 := by
  unfold arcE; rw [if_pos (by unfold badEnds; exact h)]
theorem arcE_big {n a b c d : Int} (h : 0 ≤ a ∧ a < n ∧ 0 ≤ b ∧ b < n ∧ 0 ≤ c ∧ 0 ≤ d) (h2 : 1048576 < c ∨ 1048576 < d) : arcE n (a, b, c, d) = 2 := by
  unfold arcE; rw [if_neg (by unfold badEnds; simp only; omega), if_pos (by unfold bigArc; exact h2)]
theorem arcE_fit {n a b c d : Int} (h : 0 ≤ a ∧ a < n ∧ 0 ≤ b ∧ b < n ∧ 0 ≤ c ∧ 0 ≤ d) (h2 : c ≤ 1048576 ∧ d ≤ 1048576) : arcE n (a, b, c, d) = 0 := by
  unfold arcE; rw [if_neg (by unfold badEnds; simp only; omega), if_neg (by unfold bigArc; simp only; omega)]
theorem isnode_any (a n : Int) (w : World) : Calls Try.prog 47 #[.int .i64 a, .int .i64 n] w fun e w' => e = .returned (.bool (decide (0 ≤ a ∧ a < n))) ∧ w = w' := by
  go_enter Try.func47, Try.ntmps47
  go_wp2
  all_goals
    go_ret
    refine ⟨ret_bool ?_, rfl⟩
    first
      | (symm; rw [decide_eq_true_eq]; omega)
      | (symm; rw [decide_eq_false_iff_not]; omega)
      | (simp; omega)
set_option maxHeartbeats 2000000 in
theorem carc_any (a b c d n : Int) (w : World) : Calls Try.prog 46 #[.agg #[.int .i64 a, .int .i64 b, .int .i64 c, .int .i64 d], .int .i64 n] w fun e w' => e = .returned (.int .i64 (arcE n (a, b, c, d))) ∧ Below w.heap.size w w' := by
  go_enter Try.func46, Try.ntmps46
  go_wp2
  all_goals
    go_ret
    refine ⟨ret_int ?_, (Below.refl _ w).alloc (Nat.le_refl _) _⟩
    first
      | (rw [arcE_bad (by omega)])
      | (rw [arcE_big (by omega) (by omega)])
      | (rw [arcE_fit (by omega) (by omega)])
set_option maxHeartbeats 2000000 in
theorem rarc_any (a b c d n : Int) (w : World) : Calls Try.prog 44 #[.int .i64 n, .agg #[.int .i64 a, .int .i64 b, .int .i64 c, .int .i64 d]] w fun e w' => e = .returned (.int .i64 (arcE n (a, b, c, d))) ∧ Below w.heap.size w w' := by
  go_enter Try.func44, Try.ntmps44
  go_wp2
  all_goals
    go_ret
    refine ⟨ret_int ?_, (Below.refl _ w).alloc (Nat.le_refl _) _⟩
    first
      | (rw [arcE_bad (by omega)])
      | (rw [arcE_big (by omega) (by omega)])
      | (rw [arcE_fit (by omega) (by omega)])
theorem cnodes_is (n e0 : Int) (w : World) (h : nodesE n = e0) : Calls Try.prog 45 #[.int .i64 n] w fun e w' => e = .returned (.int .i64 e0) ∧ w = w' := by subst h; exact cnodes_any n w
theorem rnodes_is (n e0 : Int) (w : World) (h : nodesE n = e0) : Calls Try.prog 43 #[.int .i64 n] w fun e w' => e = .returned (.int .i64 e0) ∧ w = w' := by subst h; exact rnodes_any n w
theorem carc_is (a b c d n e0 : Int) (w : World) (h : arcE n (a, b, c, d) = e0) : Calls Try.prog 46 #[.agg #[.int .i64 a, .int .i64 b, .int .i64 c, .int .i64 d], .int .i64 n] w fun e w' => e = .returned (.int .i64 e0) ∧ Below w.heap.size w w' := by subst h; exact carc_any a b c d n w
theorem rarc_is (a b c d n e0 : Int) (w : World) (h : arcE n (a, b, c, d) = e0) : Calls Try.prog 44 #[.int .i64 n, .agg #[.int .i64 a, .int .i64 b, .int .i64 c, .int .i64 d]] w fun e w' => e = .returned (.int .i64 e0) ∧ Below w.heap.size w w' := by subst h; exact rarc_any a b c d n w
theorem arcsE_drop {n : Int} {Z : List ArcT} {k : Nat} (hk : k < Z.length) : arcsE n (Z.drop k) = if arcE n Z[k] = 0 then arcsE n (Z.drop (k + 1)) else arcE n Z[k] := by
  rw [List.drop_eq_getElem_cons hk]; rfl
theorem checkE_nodes {n : Int} {Z : List ArcT} (h : nodesE n ≠ 0) : checkE n Z = nodesE n := by unfold checkE; rw [if_neg h]
theorem checkE_many {n : Int} {Z : List ArcT} (h : nodesE n = 0) (h2 : 200 < Z.length) : checkE n Z = 2 := by unfold checkE; rw [if_pos h, if_pos h2]
theorem checkE_arcs {n : Int} {Z : List ArcT} (h : nodesE n = 0) (h2 : ¬ 200 < Z.length) : checkE n Z = arcsE n Z := by unfold checkE; rw [if_pos h, if_neg h2]
set_option maxRecDepth 100000 in
set_option maxHeartbeats 2000000 in
theorem check_loop (n : Int) (b : Bool) (ao : Option Addr) (cap : Nat) (Z : List ArcT) (w : World) (h : Row encA 4 w ao Z) (hn : nodesE n = 0) (hl : ¬ 200 < Z.length) :
    Calls Try.prog 30 #[.agg #[.int .i64 n, .bool b, .slice ao Z.length cap]] w fun e w' => e = .returned (.int .i64 (arcsE n Z)) ∧ Below w.heap.size w w' := by
  have HR := Lib.hid (row_alloc h (.cells #[.int .i64 n, .bool b, .slice ao Z.length cap] 24))
  have HN := Lib.hid hn
  have hl' : ¬ (200 : Int) < (Z.length : Int) := by omega
  clear h hn
  go_enter Try.func30, Try.ntmps30
  have c0 := cell_new w #[.int .i64 n, .bool b, .slice ao Z.length cap] 24 0
  have HB0 : Hid (Below w.heap.size w (w.alloc (.cells #[.int .i64 n, .bool b, .slice ao Z.length cap] 24))) := Lib.hid ((Below.refl _ w).alloc (Nat.le_refl _) _)
  go_wp2_with (go_at_call 45; refine (cnodes_is n 0 _ HN.out).mono ?_; rintro e w' ⟨rfl, rfl⟩)
  generalize w.alloc (.cells #[.int .i64 n, .bool b, .slice ao Z.length cap] 24) = w1 at *
  have hgs := block_lt_of_cell c0
  simp only at hgs
  go_loopw [20] (fun i wr => ∃ k : Nat, k ≤ Z.length ∧ i = .int .i64 (k : Int) ∧ Hid (Below w1.heap.size w1 wr) ∧ Hid (arcsE n (Z.drop k) = arcsE n Z)) (fun i _ => Z.length - (intOf i).toNat)
  case atStart => exact ⟨0, Nat.zero_le _, rfl, Lib.hid (Below.refl _ _), Lib.hid rfl⟩
  case round =>
    obtain ⟨k, hk, rfl, HB, HA⟩ := hrel
    have d0 := cell_below HB.out c0
    by_cases hlt : k < Z.length
    · have hli : (k : Int) < (Z.length : Int) := by omega
      obtain ⟨ab, ax, e, hab, c0', c1', c2', c3'⟩ := (HR.out.below' HB.out).arc hlt
      cases e
      have HD := Lib.hid (arcsE_drop (n := n) hlt)
      generalize Z[k] = z at *
      obtain ⟨x, y, u, v⟩ := z
      simp only at c0' c1' c2' c3'
      have d0a := cell_alloc d0 (.cells #[.int .i64 x, .int .i64 y, .int .i64 u, .int .i64 v] 63)
      by_cases he : arcE n (x, y, u, v) = 0
      · have HE := Lib.hid he
        clear he
        go_wp2_with (go_at_call 46; refine (carc_is x y u v n 0 _ HE.out).mono ?_; rintro e w2 ⟨rfl, b2⟩; have hb2 := Lib.hid ((HB.out.alloc HB.out.size (.cells #[.int .i64 x, .int .i64 y, .int .i64 u, .int .i64 v] 63)).trans (b2.mono (by have := HB.out.size; simp; omega))); clear b2)
        go_roundw
        case rel => exact ⟨k + 1, by omega, by go_num, hb2, Lib.hid (by rw [← HA.out, HD.out, if_pos HE.out])⟩
        case measure => simp [intOf]; omega
      · obtain ⟨e0, he0⟩ : ∃ e0, arcE n (x, y, u, v) = e0 := ⟨_, rfl⟩
        rw [he0] at he
        have HE := Lib.hid he0
        have HNE := Lib.hid he
        have hf2 : (e0 != 0) = true := by simpa using he
        have hf1 : (e0 == 0) = false := by simpa using he
        clear he he0
        go_wp2_with (go_at_call 46; refine (carc_is x y u v n e0 _ HE.out).mono ?_; rintro e w2 ⟨rfl, b2⟩; have hb2 := Lib.hid ((HB.out.alloc HB.out.size (.cells #[.int .i64 x, .int .i64 y, .int .i64 u, .int .i64 v] 63)).trans (b2.mono (by have := HB.out.size; simp; omega))); clear b2)
        go_ret
        refine ⟨ret_int ?_, HB0.out.trans (hb2.out.mono (by omega))⟩
        rw [← HA.out, HD.out, HE.out, if_neg HNE.out]
    · have hli : ¬ (k : Int) < (Z.length : Int) := by omega
      have HE : Hid (arcsE n Z = 0) := Lib.hid (by rw [← HA.out, List.drop_eq_nil_of_le (by omega)]; rfl)
      go_wp2
      go_ret
      exact ⟨ret_int HE.out.symm, HB0.out.trans (HB.out.mono (by omega))⟩
set_option maxHeartbeats 1000000 in
/-- Check of any network. -/
theorem ncheck_any (n : Int) (b : Bool) (ao : Option Addr) (cap : Nat) (Z : List ArcT) (w : World) (h : Row encA 4 w ao Z) (hm : Z.length ≤ maxLen) :
    Calls Try.prog 30 #[.agg #[.int .i64 n, .bool b, .slice ao Z.length cap]] w fun e w' => e = .returned (.int .i64 (checkE n Z)) ∧ Below w.heap.size w w' := by
  unfold maxLen at hm
  by_cases hn : nodesE n = 0
  · by_cases hl : 200 < Z.length
    · rw [checkE_many hn hl]
      have hl' : (200 : Int) < (Z.length : Int) := by omega
      have HN := Lib.hid hn
      clear hn h
      go_enter Try.func30, Try.ntmps30
      go_wp2_with (go_at_call 45; refine (cnodes_is n 0 _ HN.out).mono ?_; rintro e w' ⟨rfl, rfl⟩)
      go_ret
      exact ⟨rfl, (Below.refl _ w).alloc (Nat.le_refl _) _⟩
    · rw [checkE_arcs hn hl]
      exact check_loop n b ao cap Z w h hn hl
  · rw [checkE_nodes hn]
    obtain ⟨e0, he0⟩ : ∃ e0, nodesE n = e0 := ⟨_, rfl⟩
    rw [he0] at hn ⊢
    have HE := Lib.hid he0
    have hf2 : (e0 != 0) = true := by simpa using hn
    have hf1 : (e0 == 0) = false := by simpa using hn
    clear hn he0 h
    go_enter Try.func30, Try.ntmps30
    go_wp2_with (go_at_call 45; refine (cnodes_is n e0 _ HE.out).mono ?_; rintro e w' ⟨rfl, rfl⟩)
    go_ret
    exact ⟨rfl, (Below.refl _ w).alloc (Nat.le_refl _) _⟩
set_option maxRecDepth 100000 in
set_option maxHeartbeats 2000000 in
theorem rcheck_loop (n : Int) (b : Bool) (ao : Option Addr) (cap : Nat) (Z : List ArcT) (w : World) (h : Row encA 4 w ao Z) (hn : nodesE n = 0) (hl : ¬ 200 < Z.length) :
    Calls Try.prog 26 #[.agg #[.int .i64 n, .bool b, .slice ao Z.length cap]] w fun e w' => e = .returned (.int .i64 (arcsE n Z)) ∧ Below w.heap.size w w' := by
  have HR := Lib.hid (row_alloc h (.cells #[.int .i64 n, .bool b, .slice ao Z.length cap] 24))
  have HN := Lib.hid hn
  have hl' : ¬ (200 : Int) < (Z.length : Int) := by omega
  clear h hn
  go_enter Try.func26, Try.ntmps26
  have c0 := cell_new w #[.int .i64 n, .bool b, .slice ao Z.length cap] 24 0
  have c2 := cell_new w #[.int .i64 n, .bool b, .slice ao Z.length cap] 24 2
  have HB0 : Hid (Below w.heap.size w (w.alloc (.cells #[.int .i64 n, .bool b, .slice ao Z.length cap] 24))) := Lib.hid ((Below.refl _ w).alloc (Nat.le_refl _) _)
  go_wp2_with (go_at_call 43; refine (rnodes_is n 0 _ HN.out).mono ?_; rintro e w' ⟨rfl, rfl⟩)
  generalize w.alloc (.cells #[.int .i64 n, .bool b, .slice ao Z.length cap] 24) = w1 at *
  have hgs := block_lt_of_cell c0
  simp only at hgs
  go_loopw [4] (fun i wr => ∃ k : Nat, k ≤ Z.length ∧ i = .int .i64 (k : Int) ∧ Hid (Below w1.heap.size w1 wr) ∧ Hid (arcsE n (Z.drop k) = arcsE n Z)) (fun i _ => Z.length - (intOf i).toNat)
  case atStart => exact ⟨0, Nat.zero_le _, rfl, Lib.hid (Below.refl _ _), Lib.hid rfl⟩
  case round =>
    obtain ⟨k, hk, rfl, HB, HA⟩ := hrel
    have d0 := cell_below HB.out c0
    have d2 := cell_below HB.out c2
    clear c0 c2
    by_cases hlt : k < Z.length
    · have hli : (k : Int) < (Z.length : Int) := by omega
      obtain ⟨ab, ax, e, hab, c0', c1', c2', c3'⟩ := (HR.out.below' HB.out).arc hlt
      cases e
      have HD := Lib.hid (arcsE_drop (n := n) hlt)
      generalize Z[k] = z at *
      obtain ⟨x, y, u, v⟩ := z
      simp only at c0' c1' c2' c3'
      by_cases he : arcE n (x, y, u, v) = 0
      · have HE := Lib.hid he
        clear he
        go_wp2_with fail
        go_region_held3 (fun W => W.cell? ⟨w.heap.size, 0, none⟩ = some (.int .i64 n) ∧ W.cell? ⟨w.heap.size, 2, none⟩ = some (.slice (some ⟨ab, ax, none⟩) Z.length cap) ∧ W.cell? ⟨ab, ax + k * 4, none⟩ = some (.int .i64 x) ∧ W.cell? ⟨ab, ax + k * 4 + 1, none⟩ = some (.int .i64 y) ∧ W.cell? ⟨ab, ax + k * 4 + 2, none⟩ = some (.int .i64 u) ∧ W.cell? ⟨ab, ax + k * 4 + 3, none⟩ = some (.int .i64 v)) (first | exact ⟨d0, d2, c0', c1', c2', c3'⟩ | exact ⟨z0, z1, z2, z3, z4, z5⟩ | go_keep)
          (first | (go_at_call 44; refine (rarc_is x y u v n 0 _ HE.out).mono ?_; rintro e w2 ⟨rfl, b2⟩; have z0 := cell_below (w := wr.drew) b2 d0; have z1 := cell_below (w := wr.drew) b2 d2; have z2 := cell_below (w := wr.drew) b2 c0'; have z3 := cell_below (w := wr.drew) b2 c1'; have z4 := cell_below (w := wr.drew) b2 c2'; have z5 := cell_below (w := wr.drew) b2 c3'; have hb2 := Lib.hid ((below_drew HB.out).trans (b2.mono HB.out.size)); clear b2))
        all_goals
          go_wp2
          go_roundw
          case rel => exact ⟨k + 1, by omega, by go_num, hb2, Lib.hid (by rw [← HA.out, HD.out, if_pos HE.out])⟩
          case measure => simp [intOf]; omega
      · obtain ⟨e0, he0⟩ : ∃ e0, arcE n (x, y, u, v) = e0 := ⟨_, rfl⟩
        rw [he0] at he
        have HE := Lib.hid he0
        have HNE := Lib.hid he
        have hf2 : (e0 != 0) = true := by simpa using he
        have hf1 : (e0 == 0) = false := by simpa using he
        clear he he0
        go_wp2_with fail
        go_region_held3 (fun W => W.cell? ⟨w.heap.size, 0, none⟩ = some (.int .i64 n) ∧ W.cell? ⟨w.heap.size, 2, none⟩ = some (.slice (some ⟨ab, ax, none⟩) Z.length cap) ∧ W.cell? ⟨ab, ax + k * 4, none⟩ = some (.int .i64 x) ∧ W.cell? ⟨ab, ax + k * 4 + 1, none⟩ = some (.int .i64 y) ∧ W.cell? ⟨ab, ax + k * 4 + 2, none⟩ = some (.int .i64 u) ∧ W.cell? ⟨ab, ax + k * 4 + 3, none⟩ = some (.int .i64 v)) (first | exact ⟨d0, d2, c0', c1', c2', c3'⟩ | exact ⟨z0, z1, z2, z3, z4, z5⟩ | go_keep)
          (first | (go_at_call 44; refine (rarc_is x y u v n e0 _ HE.out).mono ?_; rintro e w2 ⟨rfl, b2⟩; have z0 := cell_below (w := wr.drew) b2 d0; have z1 := cell_below (w := wr.drew) b2 d2; have z2 := cell_below (w := wr.drew) b2 c0'; have z3 := cell_below (w := wr.drew) b2 c1'; have z4 := cell_below (w := wr.drew) b2 c2'; have z5 := cell_below (w := wr.drew) b2 c3'; have hb2 := Lib.hid ((below_drew HB.out).trans (b2.mono HB.out.size)); clear b2))
        all_goals
          go_wp2
          go_ret
          refine ⟨ret_int ?_, HB0.out.trans (hb2.out.mono (by omega))⟩
          rw [← HA.out, HD.out, HE.out, if_neg HNE.out]
    · have hli : ¬ (k : Int) < (Z.length : Int) := by omega
      have HE : Hid (arcsE n Z = 0) := Lib.hid (by rw [← HA.out, List.drop_eq_nil_of_le (by omega)]; rfl)
      go_wp2
      go_ret
      exact ⟨ret_int HE.out.symm, HB0.out.trans (HB.out.mono (by omega))⟩
set_option maxHeartbeats 1000000 in
/-- The document's Check of any network. -/
theorem rcheck_any (n : Int) (b : Bool) (ao : Option Addr) (cap : Nat) (Z : List ArcT) (w : World) (h : Row encA 4 w ao Z) (hm : Z.length ≤ maxLen) :
    Calls Try.prog 26 #[.agg #[.int .i64 n, .bool b, .slice ao Z.length cap]] w fun e w' => e = .returned (.int .i64 (checkE n Z)) ∧ Below w.heap.size w w' := by
  unfold maxLen at hm
  by_cases hn : nodesE n = 0
  · by_cases hl : 200 < Z.length
    · rw [checkE_many hn hl]
      have hl' : (200 : Int) < (Z.length : Int) := by omega
      have HN := Lib.hid hn
      clear hn h
      go_enter Try.func26, Try.ntmps26
      go_wp2_with (go_at_call 43; refine (rnodes_is n 0 _ HN.out).mono ?_; rintro e w' ⟨rfl, rfl⟩)
      go_ret
      exact ⟨rfl, (Below.refl _ w).alloc (Nat.le_refl _) _⟩
    · rw [checkE_arcs hn hl]
      exact rcheck_loop n b ao cap Z w h hn hl
  · rw [checkE_nodes hn]
    obtain ⟨e0, he0⟩ : ∃ e0, nodesE n = e0 := ⟨_, rfl⟩
    rw [he0] at hn ⊢
    have HE := Lib.hid he0
    have hf2 : (e0 != 0) = true := by simpa using hn
    have hf1 : (e0 == 0) = false := by simpa using hn
    clear hn he0 h
    go_enter Try.func26, Try.ntmps26
    go_wp2_with (go_at_call 43; refine (rnodes_is n e0 _ HE.out).mono ?_; rintro e w' ⟨rfl, rfl⟩)
    go_ret
    exact ⟨rfl, (Below.refl _ w).alloc (Nat.le_refl _) _⟩
end Go.Proofs.Ytiefphkfddecbaa
