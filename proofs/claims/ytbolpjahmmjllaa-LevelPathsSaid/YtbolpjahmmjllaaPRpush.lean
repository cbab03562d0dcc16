/- What Push of the document's pile does: the pair is put where it belongs. -/
import Derived.Test.YtbolpjahmmjllaaPRef
import Derived.Laws.AppendOwnNone
namespace Go.Proofs.Ytbolpjahmmjllaa
open Go.RowKit Go.Sort
set_option linter.unusedVariables false

/-- Pairs appended to a row of the call's own. -/
theorem wpList_append_pairs {w : World} {ops : Array Oper} {rest : List Oper} {o : Oper} {a : Act} {Q : Exit → Act → World → Prop} (hgd : o.guard = none) (s x : Operand)
    (ho : o.op = .call { callee := .builtin .append, args := #[s, x], argTypes := #[97, 97] })
    (base : Nat) (v : Value) (n : Nat) (xs : List (Int × Int)) (hs : a.eval s = v) (hown : w.ownsRow base 99 2 v n (flatP xs))
    (gs os m c : Nat) (ys : List (Int × Int)) (hx : a.eval x = .slice (some ⟨gs, os, none⟩) m c) (hm : ys.length = m)
    (hc : ∀ j, j < ys.length → w.cell? ⟨gs, os + j * 2, none⟩ = some (.int .i64 (ys.getD j (0, 0)).1) ∧ w.cell? ⟨gs, os + j * 2 + 1, none⟩ = some (.int .i64 (ys.getD j (0, 0)).2))
    (hpos : 0 < n + m) (hroom : n + m ≤ 200000) (hbase : base ≤ w.heap.size)
    (hK : ∀ g cap w', w'.ownsRow base 99 2 (.slice (some ⟨g, 0, none⟩) (n + m) cap) (n + m) (flatP (xs ++ ys)) → w.grownBy w' v.ownBlock → (v.ownBlock = some g ∨ g = w.heap.size) → base ≤ g → g < w'.heap.size → wpList Try.prog ops Q rest (a.put o.dst (.slice (some ⟨g, 0, none⟩) (n + m) cap)) w') : wpList Try.prog ops Q (o :: rest) a w := by
  obtain ⟨i0, hi, hz0, hz1, hz2⟩ := info_parts Try.infoPair
  refine wpList_append_own_at w hgd s x 97 ho base 99 i0 _ 2 16 Try.underlying97 hi hz0 hz1 hz2 rfl (by omega) v n (flatP xs) hs hown ⟨gs, os, none⟩ m c (flatP ys) hx (by rw [flatP_length, hm]) ?_ (flatP_one ys) (by unfold maxLen; omega) (by omega) hbase ?_
  · intro j u hj
    rw [Addr.add_lit]
    have hjl : j < ys.length * 2 := by
      rcases Nat.lt_or_ge j (ys.length * 2) with h | h
      · exact h
      · rw [List.getElem?_eq_none (by rw [flatP_length]; exact h)] at hj; cases hj
    have hj2 : j / 2 < ys.length := by omega
    obtain ⟨c0, c1⟩ := hc (j / 2) hj2
    obtain ⟨e0, e1⟩ := flatP_get ys (j / 2) hj2
    have hg : ys.getD (j / 2) (0, 0) = ys[j / 2] := by rw [List.getD_eq_getElem?_getD, List.getElem?_eq_getElem hj2]; rfl
    rw [hg] at c0 c1
    have em : j = j / 2 * 2 ∨ j = j / 2 * 2 + 1 := by omega
    rcases em with em | em
    · rw [← em] at c0 e0; rw [c0, ← hj, e0]
    · rw [Nat.add_assoc, ← em] at c1; rw [← em] at e1; rw [c1, ← hj, e1]
  · intro v' w' h1 h2 h3 h4
    rw [← flatP_append] at h1
    obtain ⟨g, cap, rfl, hb, hlt⟩ := h1.form hpos
    refine hK g cap w' h1 h2 ?_ hb hlt
    rcases h4 with h4 | h4
    · exact .inl (by rw [← h4]; rfl)
    · right; simpa [Value.ownBlock] using h4
section
variable {w wr w' : World} {b g o cap most : Nat} {L : List (Int × Int)} {x : Int × Int} {cur : Array Value}
end
theorem take_while_of {L : List (Int × Int)} {x : Int × Int} {k : Nat} (hk : k ≤ L.length) (h : ∀ j, j < k → ltP (L.getD j (0, 0)) x = true) (hn : k < L.length → ltP (L.getD k (0, 0)) x = false) : insP x L = L.take k ++ x :: L.drop k := by
  induction L generalizing k with
  | nil => simp at hk; subst hk; rfl
  | cons y L ih =>
    rw [insP_cons]
    cases k with
    | zero =>
      have := hn (by simp)
      simp at this
      rw [if_neg (by simp [this])]
      rfl
    | succ k =>
      have := h 0 (by omega)
      simp at this
      rw [if_pos this, ih (k := k) (by simpa using hk) (fun j hj => by have := h (j + 1) (by omega); simpa using this) (fun hk => by have := hn (by simpa using hk); simpa using this)]
      rfl
theorem row_of_own' {w : World} {base g n cap : Nat} {l : List (Int × Int)} (h : w.ownsRow base 99 2 (.slice (some ⟨g, 0, none⟩) n cap) n (flatP l)) : RowR w (some g) (.slice (some ⟨g, 0, none⟩) n cap) l := by
  have hl : l.length = n := by have := h.1; rw [flatP_length] at this; omega
  subst hl
  rcases h.2 with ⟨h0, _⟩ | ⟨g', cap', cur, hv, hb, hg, hnc, hcm, hcs, ht⟩
  · cases h0
  · cases hv
    refine .inr ⟨g, 0, cap, cur, rfl, rfl, hg, hnc, fun j hj => ?_⟩
    have key : ∀ t, t < l.length * 2 → cur[t]? = (flatP l)[t]? := fun t h => by
      rw [← ht, List.getElem?_take, if_pos h, Array.getElem?_toList]
    obtain ⟨c, e⟩ := flatP_get l j hj
    have hg : l.getD j (0, 0) = l[j] := by rw [List.getD_eq_getElem?_getD, List.getElem?_eq_getElem hj]; rfl
    rw [Nat.zero_add, key _ (by omega), key _ (by omega), hg]
    exact ⟨c, e⟩
theorem own_belowP {w w' : World} {base : Nat} {v : Value} {n : Nat} {xs : List Value} (h : w.ownsRow base 99 2 v n xs) (k : Below w.heap.size w w') : w'.ownsRow base 99 2 v n xs :=
  h.kept (row := none) ⟨k.os, k.tape, k.output, k.size, fun i hi _ => k.block i hi⟩ (by cases v.ownBlock <;> simp)
theorem below_grownP {w w' : World} {N : Nat} {o : Obj} {v : Value} {base n : Nat} {xs : List Value} (hown : w.ownsRow base 99 2 v n xs) (hN : N ≤ base) (hs : N ≤ w.heap.size) (h : (w.alloc o).grownBy w' v.ownBlock) : Below N w w' :=
  ((Below.refl _ w).alloc hs o).grown h (by simp; omega) (fun k hk => Nat.le_trans hN (hown.lt k hk).1)
theorem below_grownP' {w w' : World} {N : Nat} {v : Value} {base n : Nat} {xs : List Value} (hown : w.ownsRow base 99 2 v n xs) (hN : N ≤ base) (hs : N ≤ w.heap.size) (h : w.grownBy w' v.ownBlock) : Below N w w' :=
  (Below.refl _ w).grown h hs (fun k hk => Nat.le_trans hN (hown.lt k hk).1)
theorem one_pair {w : World} {y : Int × Int} : ∀ j, j < [y].length → (w.alloc (.cells #[.int .i64 y.1, .int .i64 y.2] 99)).cell? ⟨w.heap.size, 0 + j * 2, none⟩ = some (.int .i64 ([y].getD j (0, 0)).1) ∧ (w.alloc (.cells #[.int .i64 y.1, .int .i64 y.2] 99)).cell? ⟨w.heap.size, 0 + j * 2 + 1, none⟩ = some (.int .i64 ([y].getD j (0, 0)).2) := by
  intro j hj
  obtain rfl : j = 0 := by simpa using hj
  exact ⟨cell_new w _ _ 0, cell_new w _ _ 1⟩
theorem take_snocP {L : List (Int × Int)} {k : Nat} (h : k < L.length) : L.take k ++ [L.getD k (0, 0)] = L.take (k + 1) := by
  rw [List.take_succ_eq_append_getElem h, List.getD_eq_getElem?_getD, List.getElem?_eq_getElem h]; rfl
theorem drop_cells {L : List (Int × Int)} {k : Nat} {j : Nat} (h : j < (L.drop k).length) : (L.drop k).getD j (0, 0) = L.getD (k + j) (0, 0) := by
  rw [List.getD_eq_getElem?_getD, List.getD_eq_getElem?_getD, List.getElem?_drop]
end Go.Proofs.Ytbolpjahmmjllaa
