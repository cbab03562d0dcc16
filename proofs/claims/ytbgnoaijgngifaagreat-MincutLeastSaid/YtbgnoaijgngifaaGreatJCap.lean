/- What leaves a side, node by node, is what it takes: plain lists. -/
import Derived.Test.YtbgnoaijgngifaaGreatJTak
namespace Go.Proofs.YtbgnoaijgngifaaGreat
set_option linter.unusedVariables false

theorem sideB_at {S : List Bool} {i : Nat} (h : i < S.length) : sideB S i = S[i] := by unfold sideB; rw [List.getD_eq_getElem?_getD, List.getElem?_eq_getElem h]; rfl
/-- What the first i arcs take that lead from v out of a side. -/
def leaveK (Z : List ArcT) (S : Nat → Bool) (v : Nat) : Nat → Int
  | 0 => 0
  | i + 1 => leaveK Z S v i + match Z[i]? with | some a => if frN a = v ∧ S (toN a) = false then capN a else 0 | none => 0
/-- What they take that lead out of a side from its nodes ahead of m. -/
def nodeK (Z : List ArcT) (S : Nat → Bool) (i : Nat) : Nat → Int
  | 0 => 0
  | m + 1 => nodeK Z S i m + if S m = true then leaveK Z S m i else 0
theorem leaveK_succ {Z : List ArcT} {S : Nat → Bool} {v i : Nat} {a : ArcT} (h : Z[i]? = some a) : leaveK Z S v (i + 1) = leaveK Z S v i + if frN a = v ∧ S (toN a) = false then capN a else 0 := by
  show leaveK Z S v i + _ = _
  rw [h]
theorem leaveK_none {Z : List ArcT} {S : Nat → Bool} {v i : Nat} (h : Z[i]? = none) : leaveK Z S v (i + 1) = leaveK Z S v i := by
  show leaveK Z S v i + _ = _
  rw [h]
  simp
theorem leaveK_bd {Z : List ArcT} {S : Nat → Bool} {v : Nat} (h : ∀ a ∈ Z, 0 ≤ capN a ∧ capN a ≤ 4398046511104) : ∀ i : Nat, 0 ≤ leaveK Z S v i ∧ leaveK Z S v i ≤ i * 4398046511104
  | 0 => by simp [leaveK]
  | i + 1 => by
    have ih := leaveK_bd (S := S) (v := v) h i
    cases hz : Z[i]? with
    | none => rw [leaveK_none hz]; omega
    | some a =>
      have hc := h a (List.mem_of_getElem? hz)
      rw [leaveK_succ hz]
      split <;> omega
theorem nodeK_none {Z : List ArcT} {S : Nat → Bool} {i : Nat} (h : Z[i]? = none) : ∀ m, nodeK Z S (i + 1) m = nodeK Z S i m
  | 0 => rfl
  | m + 1 => by
    show nodeK Z S (i + 1) m + _ = nodeK Z S i m + _
    rw [nodeK_none h m, leaveK_none h]
theorem nodeK_arc {Z : List ArcT} {S : Nat → Bool} {i : Nat} {a : ArcT} (h : Z[i]? = some a) : ∀ m, nodeK Z S (i + 1) m = nodeK Z S i m + if frN a < m ∧ S (frN a) = true ∧ S (toN a) = false then capN a else 0
  | 0 => by simp [nodeK]
  | m + 1 => by
    show nodeK Z S (i + 1) m + _ = nodeK Z S i m + _ + _
    rw [nodeK_arc h m, leaveK_succ h]
    generalize nodeK Z S i m = x
    generalize leaveK Z S m i = y
    generalize capN a = c
    by_cases e : frN a = m
    · subst e
      rw [if_neg (show ¬ (frN a < frN a ∧ _) from fun h => by omega)]
      cases h1 : S (frN a) <;> cases h2 : S (toN a) <;> simp <;> omega
    · have e1 : frN a < m + 1 ↔ frN a < m := ⟨fun _ => by omega, fun _ => by omega⟩
      rw [if_neg (show ¬ (frN a = m ∧ _) from fun h => e h.1), Int.add_zero]
      simp only [e1]
      split <;> split <;> omega
theorem nodeK_zero {Z : List ArcT} {S : Nat → Bool} : ∀ m, nodeK Z S 0 m = 0
  | 0 => rfl
  | m + 1 => by
    show nodeK Z S 0 m + _ = 0
    rw [nodeK_zero m]
    simp [leaveK]
theorem out_iff {S : Nat → Bool} {a : ArcT} : outS S a = true ↔ S (frN a) = true ∧ S (toN a) = false := by unfold outS; simp
/-- All nodes: what the side takes. -/
theorem node_cap {Z : List ArcT} {S : Nat → Bool} {m : Nat} (h : ∀ a ∈ Z, frN a < m) : ∀ i, nodeK Z S i m = capK Z S i
  | 0 => by rw [nodeK_zero]; rfl
  | i + 1 => by
    have ih := node_cap (S := S) h i
    cases hz : Z[i]? with
    | none =>
      have e : capK Z S (i + 1) = capK Z S i := by show capK Z S i + _ = _; rw [hz]; simp
      rw [e, nodeK_none hz, ih]
    | some a =>
      have hf := h a (List.mem_of_getElem? hz)
      rw [capK_succ hz, nodeK_arc hz, ih]
      congr 1
      by_cases ho : outS S a = true
      · rw [if_pos ho, if_pos ⟨hf, out_iff.1 ho⟩]
      · rw [if_neg ho, if_neg (fun h => ho (out_iff.2 h.2))]
/-- The first nodes: no more. -/
theorem node_le {Z : List ArcT} {S : Nat → Bool} {m : Nat} (h : ∀ a ∈ Z, 0 ≤ capN a) : ∀ i, 0 ≤ nodeK Z S i m ∧ nodeK Z S i m ≤ capK Z S i
  | 0 => by rw [nodeK_zero]; exact ⟨Int.le_refl _, Int.le_refl _⟩
  | i + 1 => by
    have ih := node_le (S := S) (m := m) h i
    cases hz : Z[i]? with
    | none =>
      have e : capK Z S (i + 1) = capK Z S i := by show capK Z S i + _ = _; rw [hz]; simp
      rw [e, nodeK_none hz]
      exact ih
    | some a =>
      have hc := h a (List.mem_of_getElem? hz)
      rw [capK_succ hz, nodeK_arc hz]
      by_cases ho : outS S a = true
      · rw [if_pos ho]
        split <;> omega
      · rw [if_neg ho, if_neg (fun h => ho (out_iff.2 h.2))]
        omega
end Go.Proofs.YtbgnoaijgngifaaGreat
