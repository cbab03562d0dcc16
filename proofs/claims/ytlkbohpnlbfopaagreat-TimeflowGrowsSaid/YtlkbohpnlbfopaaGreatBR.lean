/- Lemmas of the layers below, several texts in one. -/
import Derived.Test.YtlkbohpnlbfopaaGreatBQ
import Derived.Sort.Grow
import Derived.StillTailTactics
import Derived.LoopTactic
import Derived.Deep.QuietTactic
import Derived.BigQuiet
import Derived.OwnWalk
import Derived.Maps.AppendAt
namespace Go.Proofs.YtlkbohpnlbfopaaGreat
open Go.RowKit Go.Sort
set_option linter.unusedVariables false
end Go.Proofs.YtlkbohpnlbfopaaGreat
namespace Go.Proofs.YtlkbohpnlbfopaaGreat
open Go.RowKit Go.Sort
set_option linter.unusedVariables false
end Go.Proofs.YtlkbohpnlbfopaaGreat
namespace Go.Proofs.YtlkbohpnlbfopaaGreat
open Go.RowKit Go.Sort
set_option linter.unusedVariables false
theorem Row.pair {w : World} {ao : Option Addr} {Z : List (Int × Int)} (h : Row encPQ 2 w ao Z) {i : Nat} (hi : i < Z.length) : ∃ b o, ao = some ⟨b, o, none⟩ ∧ b < w.heap.size ∧
    w.cell? ⟨b, o + i * 2, none⟩ = some (.int .i64 Z[i].1) ∧ w.cell? ⟨b, o + i * 2 + 1, none⟩ = some (.int .i64 Z[i].2) := by
  obtain ⟨b, o, e, hb, hc⟩ := h i hi
  exact ⟨b, o, e, hb, hc 0 (by omega), hc 1 (by omega)⟩
end Go.Proofs.YtlkbohpnlbfopaaGreat
namespace Go.Proofs.YtlkbohpnlbfopaaGreat
open Go.RowKit
set_option linter.unusedVariables false
section
variable {α : Type} {enc : α → List Value} {k : Nat}
end
def GRowQ (w : World) (ga : Option Addr) (G : List (List Nat)) : Prop := ∀ i (hi : i < G.length), ∃ b o ao cap, ga = some ⟨b, o, none⟩ ∧ b < w.heap.size ∧ w.cell? ⟨b, o + i, none⟩ = some (.slice ao G[i].length cap) ∧ Row encIQ 1 w ao (natI G[i])
theorem GRowQ.below' {w w' : World} {ga : Option Addr} {G : List (List Nat)} (h : GRowQ w ga G) (hb : Below w.heap.size w w') : GRowQ w' ga G := by
  intro i hi
  obtain ⟨b, o, ao, cap, e, h1, h2, h3⟩ := h i hi
  exact ⟨b, o, ao, cap, e, Nat.lt_of_lt_of_le h1 hb.size, by rw [hb.cell h1]; exact h2, h3.below' hb⟩
end Go.Proofs.YtlkbohpnlbfopaaGreat
