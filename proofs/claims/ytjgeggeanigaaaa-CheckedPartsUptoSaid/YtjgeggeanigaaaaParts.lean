/- Numbers appended to numbers: what a slice that the call itself made holds behind it, whatever slice, nil or not, was appended. -/
import Derived.Test.YtjgeggeanigaaaaSum
import Derived.Test.YtjgeggeanigaaaaAwake
import Derived.Laws.AppendOwnNone
namespace Go.Proofs.Ytjgeggeanigaaaa
open Go.RowKit
set_option linter.unusedVariables false

theorem Try.info3 : (Try.prog.info? 3).map (fun i => (i.zero, i.size, i.bytes)) = some (some (.int .i64 0), 1, 8) := by kernel_rfl

theorem add_block (a : Addr) (n : Nat) : (a.add n).block = a.block := by unfold Addr.add; split <;> rfl
theorem RI.below {w w' : World} {ao : Option Addr} {zs : List Int} (h : RI w ao zs) (hb : Below w.heap.size w w') : RI w' ao zs := by
  intro i hi
  obtain ⟨ad, h1, h2, h3⟩ := h i hi
  exact ⟨ad, h1, Nat.lt_of_lt_of_le h2 hb.size, by rw [hb.cell (by rw [add_block]; exact h2)]; exact h3⟩
theorem RI.grown {w w' : World} {ao : Option Addr} {zs : List Int} (h : RI w ao zs) (hg : w.grownBy w' none) : RI w' ao zs :=
  h.below ((Below.refl _ _).grown hg (Nat.le_refl _) (fun k hk => by cases hk))
/-- What the call itself made reads as these numbers. -/
theorem own_ri {w : World} {base n : Nat} {v : Value} {zs : List Int} (h : w.ownsRow base 3 1 v n (zs.map (Value.int .i64))) :
    ∃ (ao : Option Addr) (cap : Nat), v = .slice ao n cap ∧ RI w ao zs ∧ zs.length = n ∧ (∀ k, v.ownBlock = some k → base ≤ k) := by
  have hl : zs.length = n := by have := h.1; rw [List.length_map] at this; omega
  have hlt := h.lt
  rcases h.2 with ⟨rfl, h0⟩ | ⟨g, cap, cur, hv, hb, _, _, _, _, _⟩
  · subst h0
    exact ⟨none, 0, rfl, fun i hi => absurd hi (by omega), hl, fun k hk => by cases hk⟩
  · subst hv
    refine ⟨some ⟨g, 0, none⟩, cap, rfl, fun i hi => ⟨_, rfl, (hlt g rfl).2, ?_⟩, hl, fun k hk => (hlt k hk).1⟩
    refine h.cells rfl i _ ?_
    rw [List.getElem?_map, List.getElem?_eq_getElem hi, List.getD_eq_getElem?_getD, List.getElem?_eq_getElem hi]
    rfl
theorem wpList_append_ri {w : World} {ops : Array Oper} {rest : List Oper} {o : Oper} {a : Act} {Q : Exit → Act → World → Prop} (hgd : o.guard = none) (s x : Operand)
    (ho : o.op = .call { callee := .builtin .append, args := #[s, x], argTypes := #[27, 27] })
    (base : Nat) (v : Value) (n : Nat) (xs : List Int) (hs : a.eval s = v) (hown : w.ownsRow base 3 1 v n (xs.map (Value.int .i64)))
    (ao : Option Addr) (m c : Nat) (zs : List Int) (hx : a.eval x = .slice ao m c) (hm : zs.length = m) (hc : ao = none → c = 0) (hri : RI w ao zs)
    (hroom : n + m ≤ 2097152) (hbase : base ≤ w.heap.size)
    (h : ∀ v' w', w'.ownsRow base 3 1 v' (n + m) ((xs ++ zs).map (Value.int .i64)) → w.grownBy w' v.ownBlock → wpList Try.prog ops Q rest (a.put o.dst v') w') : wpList Try.prog ops Q (o :: rest) a w := by
  obtain ⟨i0, hi, hz0, hz1, hz2⟩ := info_parts Try.info3
  cases ao with
  | none =>
    have h0 : zs = [] := by
      cases zs with
      | nil => rfl
      | cons z zs => obtain ⟨ad, h1, _⟩ := hri 0 (by simp); cases h1
    subst h0
    subst hm
    obtain rfl := hc rfl
    exact wpList_append_own_none hgd s x 27 ho base 3 i0 1 Try.underlying27 hi v n _ hs hown hx (h v w (by simpa using hown) (World.grownBy.refl _ _))
  | some ad =>
    refine wpList_append_own _ hgd s x 27 ho base 3 i0 (.int .i64 0) 1 8 Try.underlying27 hi hz0 hz1 hz2 rfl (by decide) v n _ hs hown ad m c (zs.map (Value.int .i64)) hx (by simpa using hm) ?_ (ints_oneCell _ _) (by unfold maxLen; omega) (by omega) hbase ?_
    · intro j u hj
      have hjl : j < zs.length := by
        rcases Nat.lt_or_ge j zs.length with h | h
        · exact h
        · rw [List.getElem?_eq_none (by simpa using h)] at hj; cases hj
      obtain ⟨ad', h1, _, h3⟩ := hri j hjl
      obtain rfl := Option.some.inj h1
      rw [h3, ← hj, List.getElem?_map, List.getElem?_eq_getElem hjl, List.getD_eq_getElem?_getD, List.getElem?_eq_getElem hjl]
      rfl
    · intro v' w' h1 h2 _
      exact h v' w' (by rw [List.map_append]; exact h1) h2
end Go.Proofs.Ytjgeggeanigaaaa
