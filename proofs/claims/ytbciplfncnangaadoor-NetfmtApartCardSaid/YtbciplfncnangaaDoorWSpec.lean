/- What the chapter on words says, as plain functions of lists of bytes: pieces, lines, words, numbers. -/
import Derived.Lib.Strings
import Derived.Lib.ItoaLen
import Derived.Lib.ItoaMem
import Derived.WalkKit
namespace Go.Proofs.YtbciplfncnangaaDoor
open Go.RowKit
set_option linter.unusedVariables false

/-- A list of bytes as a text's value. -/
def strV (x : List UInt8) : Value := .string ⟨x.toArray⟩
theorem strV_of (s : ByteArray) : strV s.data.toList = .string s := by simp [strV]

/-! Pieces -/
def cutStep (e : UInt8) (p : List (List UInt8) × List UInt8) (c : UInt8) : List (List UInt8) × List UInt8 := if c = e then (p.1 ++ [p.2], []) else (p.1, p.2 ++ [c])
def cut (e : UInt8) (l : List UInt8) : List (List UInt8) × List UInt8 := l.foldl (cutStep e) ([], [])
def lastIf : List UInt8 → List (List UInt8)
  | [] => []
  | c :: r => [c :: r]
/-- The texts before each such byte, and what is behind the last one unless it is empty. -/
def pcs (e : UInt8) (l : List UInt8) : List (List UInt8) := (cut e l).1 ++ lastIf (cut e l).2
def linesL (l : List UInt8) : List (List UInt8) := pcs 10 l
def full (x : List UInt8) : Bool := !x.isEmpty
def wordsL (l : List UInt8) : List (List UInt8) := (pcs 32 l).filter full
theorem cut_nil (e : UInt8) : cut e [] = ([], []) := rfl
theorem cut_snoc (e : UInt8) (l : List UInt8) (c : UInt8) : cut e (l ++ [c]) = cutStep e (cut e l) c := by unfold cut; rw [List.foldl_append]; rfl
theorem cut_hit (e : UInt8) (l : List UInt8) : cut e (l ++ [e]) = ((cut e l).1 ++ [(cut e l).2], []) := by rw [cut_snoc]; simp [cutStep]
theorem cut_miss (e : UInt8) (l : List UInt8) (c : UInt8) (h : c ≠ e) : cut e (l ++ [c]) = ((cut e l).1, (cut e l).2 ++ [c]) := by rw [cut_snoc]; simp [cutStep, h]
theorem snoc_ind {α : Type} {P : List α → Prop} (h0 : P []) (h1 : ∀ l x, P l → P (l ++ [x])) (l : List α) : P l := by
  have h : ∀ r : List α, P r.reverse := by
    intro r
    induction r with
    | nil => exact h0
    | cons x r ih => rw [List.reverse_cons]; exact h1 _ _ ih
  have := h l.reverse
  rwa [List.reverse_reverse] at this
/-- No more pieces than bytes. -/
theorem cut_len (e : UInt8) (l : List UInt8) : (cut e l).1.length + (cut e l).2.length ≤ l.length := by
  refine snoc_ind (P := fun l => (cut e l).1.length + (cut e l).2.length ≤ l.length) (by simp [cut_nil]) ?_ l
  intro l x ih
  by_cases h : x = e
  · subst h; rw [cut_hit]; simp; omega
  · rw [cut_miss e l x h]; simp; omega
theorem lastIf_len (x : List UInt8) : (lastIf x).length ≤ x.length := by cases x <;> simp [lastIf]
theorem pcs_len (e : UInt8) (l : List UInt8) : (pcs e l).length ≤ l.length := by
  have h1 := cut_len e l
  have h2 := lastIf_len (cut e l).2
  unfold pcs; rw [List.length_append]; omega
theorem wordsL_len (l : List UInt8) : (wordsL l).length ≤ l.length := Nat.le_trans (List.length_filter_le _ _) (pcs_len 32 l)

/-! Numbers -/
def digB (c : UInt8) : Bool := decide (48 ≤ c.toNat ∧ c.toNat ≤ 57)
def digsB (l : List UInt8) : Bool := !l.isEmpty && l.all digB
def padB (l : List UInt8) (neg : Bool) : Bool := Lib.hasPrefix l [48] && (neg || !(l == [48]))
def valL (l : List UInt8) : Int := l.foldl (fun n c => 10 * n + ((c.toNat : Int) - 48)) 0
def signed (neg : Bool) (n : Int) : Int := if neg = true then -n else n
/-- The number that a text says, and the error. -/
def numL (l : List UInt8) : Int × Int :=
  if digsB (Lib.trimPrefix l [45]) = true ∧ padB (Lib.trimPrefix l [45]) (Lib.hasPrefix l [45]) = false then
    (if 18 < (Lib.trimPrefix l [45]).length then (0, 10) else (signed (Lib.hasPrefix l [45]) (valL (Lib.trimPrefix l [45])), 0))
  else (0, 40)
def numV (l : List UInt8) : Value := .tuple #[.int .i64 (numL l).1, .int .i64 (numL l).2]
theorem valL_snoc (l : List UInt8) (c : UInt8) : valL (l ++ [c]) = 10 * valL l + ((c.toNat : Int) - 48) := by unfold valL; rw [List.foldl_append]; rfl
theorem valL_bd (l : List UInt8) (h : l.all digB = true) : 0 ≤ valL l ∧ valL l < 10 ^ l.length := by
  revert h
  refine snoc_ind (P := fun l => l.all digB = true → 0 ≤ valL l ∧ valL l < 10 ^ l.length) (by simp [valL]) ?_ l
  intro l x ih h
  rw [List.all_append] at h
  simp only [Bool.and_eq_true, List.all_cons, List.all_nil, Bool.and_true] at h
  obtain ⟨h1, h2⟩ := ih h.1
  have h3 := h.2
  unfold digB at h3
  have h4 := of_decide_eq_true h3
  rw [valL_snoc, List.length_append, List.length_singleton, Int.pow_succ]
  omega
theorem valL_small (l : List UInt8) (h : l.all digB = true) (hl : l.length ≤ 18) : 0 ≤ valL l ∧ valL l ≤ 999999999999999999 := by
  obtain ⟨h1, h2⟩ := valL_bd l h
  refine ⟨h1, ?_⟩
  have h3 : (10 : Int) ^ l.length ≤ 10 ^ 18 := by
    have : (10 : Nat) ^ l.length ≤ 10 ^ 18 := Nat.pow_le_pow_right (by omega) hl
    exact_mod_cast this
  have h4 : (10 : Int) ^ 18 = 1000000000000000000 := by decide
  omega
theorem digsB_all {l : List UInt8} (h : digsB l = true) : l.all digB = true := by unfold digsB at h; rw [Bool.and_eq_true] at h; exact h.2
theorem digsB_ne {l : List UInt8} (h : digsB l = true) : l ≠ [] := by rintro rfl; simp [digsB] at h
theorem numL_bad {l : List UInt8} (h : ¬ (digsB (Lib.trimPrefix l [45]) = true ∧ padB (Lib.trimPrefix l [45]) (Lib.hasPrefix l [45]) = false)) : numL l = (0, 40) := by unfold numL; rw [if_neg h]
theorem numL_over {l : List UInt8} (h : digsB (Lib.trimPrefix l [45]) = true ∧ padB (Lib.trimPrefix l [45]) (Lib.hasPrefix l [45]) = false) (h2 : 18 < (Lib.trimPrefix l [45]).length) : numL l = (0, 10) := by unfold numL; rw [if_pos h, if_pos h2]
theorem numL_ok {l : List UInt8} (h : digsB (Lib.trimPrefix l [45]) = true ∧ padB (Lib.trimPrefix l [45]) (Lib.hasPrefix l [45]) = false) (h2 : ¬ 18 < (Lib.trimPrefix l [45]).length) : numL l = (signed (Lib.hasPrefix l [45]) (valL (Lib.trimPrefix l [45])), 0) := by unfold numL; rw [if_pos h, if_neg h2]
theorem numL_bd (l : List UInt8) : -999999999999999999 ≤ (numL l).1 ∧ (numL l).1 ≤ 999999999999999999 ∧ 0 ≤ (numL l).2 ∧ (numL l).2 ≤ 40 := by
  by_cases h : digsB (Lib.trimPrefix l [45]) = true ∧ padB (Lib.trimPrefix l [45]) (Lib.hasPrefix l [45]) = false
  · by_cases h2 : 18 < (Lib.trimPrefix l [45]).length
    · rw [numL_over h h2]; simp
    · rw [numL_ok h h2]
      have := valL_small _ (digsB_all h.1) (by omega)
      unfold signed
      split <;> simp only <;> omega
  · rw [numL_bad h]; simp
theorem take_all {l : List UInt8} {k : Nat} (h : l.all digB = true) : (l.take k).all digB = true := by
  rw [List.all_eq_true] at h ⊢
  exact fun x hx => h x (List.mem_of_mem_take hx)
theorem take_snoc' (s : ByteArray) (k : Nat) (h : k < s.size) : s.data.toList.take (k + 1) = s.data.toList.take k ++ [s[k]] := by
  rw [List.take_succ_eq_append_getElem (by simpa using h)]; rfl
theorem all_at {s : ByteArray} (h : s.data.toList.all digB = true) (k : Nat) (hk : k < s.size) : digB s[k] = true := by
  rw [List.all_eq_true] at h
  refine h _ ?_
  have : s[k] = s.data.toList[k]'(by simpa using hk) := rfl
  rw [this]; exact List.getElem_mem _
theorem digB_yes {c : UInt8} (h : digB c = true) : 48 ≤ c.toNat ∧ c.toNat ≤ 57 := by unfold digB at h; exact of_decide_eq_true h
theorem digB_no {c : UInt8} (h : ¬ (48 ≤ c.toNat ∧ c.toNat ≤ 57)) : digB c = false := by unfold digB; exact decide_eq_false h
theorem digB_mk {c : UInt8} (h : 48 ≤ c.toNat ∧ c.toNat ≤ 57) : digB c = true := by unfold digB; exact decide_eq_true h
theorem all_false {s : ByteArray} (k : Nat) (hk : k < s.size) (h : digB s[k] = false) : s.data.toList.all digB = false := by
  rcases e : s.data.toList.all digB with _ | _
  · rfl
  · rw [all_at e k hk] at h; cases h
theorem size_data (s : ByteArray) : s.data.toList.length = s.size := rfl
end Go.Proofs.YtbciplfncnangaaDoor
