/- Lemmas of the layers below, several texts in one. -/
import Derived.Test.YtlkbohpnlbfopaaBQ
import Derived.Sort.Grow
import Derived.StillTailTactics
import Derived.LoopTactic
import Derived.Deep.QuietTactic
import Derived.BigQuiet
import Derived.OwnWalk
import Derived.Maps.AppendAt
namespace Go.Proofs.Ytlkbohpnlbfopaa
open Go.RowKit Go.Sort
set_option linter.unusedVariables false
end Go.Proofs.Ytlkbohpnlbfopaa
namespace Go.Proofs.Ytlkbohpnlbfopaa
open Go.RowKit Go.Sort
set_option linter.unusedVariables false
def ltK (a b : Int × Int × Int) : Bool := decide (a.1 < b.1 ∨ a.1 = b.1 ∧ (a.2.1 < b.2.1 ∨ a.2.1 = b.2.1 ∧ a.2.2 < b.2.2))
theorem ltK_iff {a b : Int × Int × Int} : ltK a b = true ↔ (a.1 < b.1 ∨ a.1 = b.1 ∧ (a.2.1 < b.2.1 ∨ a.2.1 = b.2.1 ∧ a.2.2 < b.2.2)) := by unfold ltK; exact decide_eq_true_iff
theorem ltK_no {a b : Int × Int × Int} : ltK a b = false ↔ ¬ (a.1 < b.1 ∨ a.1 = b.1 ∧ (a.2.1 < b.2.1 ∨ a.2.1 = b.2.1 ∧ a.2.2 < b.2.2)) := by unfold ltK; exact decide_eq_false_iff_not
theorem ltK_ntrans {a b c : Int × Int × Int} (h : ltK a b = false) (k : ltK b c = false) : ltK a c = false := by rw [ltK_no] at *; omega
theorem ltK_asymm {a b : Int × Int × Int} (h : ltK a b = true) : ltK b a = false := by rw [ltK_iff] at h; rw [ltK_no]; omega
def kM (m : Int × Int × Int) : Int × Int × Int := (m.2.1, m.1, 0)
end Go.Proofs.Ytlkbohpnlbfopaa
namespace Go.Proofs.Ytlkbohpnlbfopaa
open Go.RowKit Go.Sort
set_option linter.unusedVariables false
theorem Row.tri {w : World} {ao : Option Addr} {Z : List (Int × Int × Int)} (h : Row encK 3 w ao Z) {i : Nat} (hi : i < Z.length) : ∃ b o, ao = some ⟨b, o, none⟩ ∧ b < w.heap.size ∧
    w.cell? ⟨b, o + i * 3, none⟩ = some (.int .i64 Z[i].1) ∧ w.cell? ⟨b, o + i * 3 + 1, none⟩ = some (.int .i64 Z[i].2.1) ∧ w.cell? ⟨b, o + i * 3 + 2, none⟩ = some (.int .i64 Z[i].2.2) := by
  obtain ⟨b, o, e, hb, hc⟩ := h i hi
  exact ⟨b, o, e, hb, hc 0 (by omega), hc 1 (by omega), hc 2 (by omega)⟩
theorem Row.pair {w : World} {ao : Option Addr} {Z : List (Int × Int)} (h : Row encPQ 2 w ao Z) {i : Nat} (hi : i < Z.length) : ∃ b o, ao = some ⟨b, o, none⟩ ∧ b < w.heap.size ∧
    w.cell? ⟨b, o + i * 2, none⟩ = some (.int .i64 Z[i].1) ∧ w.cell? ⟨b, o + i * 2 + 1, none⟩ = some (.int .i64 Z[i].2) := by
  obtain ⟨b, o, e, hb, hc⟩ := h i hi
  exact ⟨b, o, e, hb, hc 0 (by omega), hc 1 (by omega)⟩
end Go.Proofs.Ytlkbohpnlbfopaa
namespace Go.Proofs.Ytlkbohpnlbfopaa
open Go.RowKit
set_option linter.unusedVariables false
section
variable {α : Type} {enc : α → List Value} {k : Nat}
theorem own_belowQ {w w' : World} {base : Nat} {e : TypeId} {v : Value} {n : Nat} {xs : List Value} (h : w.ownsRow base e k v n xs) (hb : Below w.heap.size w w') : w'.ownsRow base e k v n xs :=
  h.kept (grown_of_below hb none) (by
    cases v.ownBlock with
    | none => exact .inl rfl
    | some g => exact .inr (by simp))
end
def GRowQ (w : World) (ga : Option Addr) (G : List (List Nat)) : Prop := ∀ i (hi : i < G.length), ∃ b o ao cap, ga = some ⟨b, o, none⟩ ∧ b < w.heap.size ∧ w.cell? ⟨b, o + i, none⟩ = some (.slice ao G[i].length cap) ∧ Row encIQ 1 w ao (natI G[i])
theorem GRowQ.below' {w w' : World} {ga : Option Addr} {G : List (List Nat)} (h : GRowQ w ga G) (hb : Below w.heap.size w w') : GRowQ w' ga G := by
  intro i hi
  obtain ⟨b, o, ao, cap, e, h1, h2, h3⟩ := h i hi
  exact ⟨b, o, ao, cap, e, Nat.lt_of_lt_of_le h1 hb.size, by rw [hb.cell h1]; exact h2, h3.below' hb⟩
def tots (f : Nat → Int) (G : List (List Nat)) : List Int := G.map fun g => (g.map f).sum
def AllIn (l : List Int) : Prop := ∀ s ∈ l, in64 s
end Go.Proofs.Ytlkbohpnlbfopaa
