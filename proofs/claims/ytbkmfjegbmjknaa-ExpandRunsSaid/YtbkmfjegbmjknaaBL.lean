/- Lemmas of the layers below, several texts in one. -/
import Derived.Test.YtbkmfjegbmjknaaSup
import Derived.Test.YtbkmfjegbmjknaaXSpec
import Derived.Test.YtbkmfjegbmjknaaBG
import Derived.Test.YtbkmfjegbmjknaaVPlant
namespace Go.Proofs.Ytbkmfjegbmjknaa
open Go.RowKit
set_option linter.unusedVariables false
def Off (ao : Option Addr) (n p tb : Nat) : Prop := ∀ ad, ao = some ad → 0 < n → ad.block ≠ p ∧ ad.block ≠ tb
theorem Row.off {α : Type} {enc : α → List Value} {k : Nat} {S : Nat → Prop} {w w' : World} {ao : Option Addr} {A : List α} (h : Row enc k w ao A) (hk : Kept S w w') (hn : ∀ ad, ao = some ad → 0 < A.length → ¬ S ad.block) : Row enc k w' ao A := by
  intro i hi
  obtain ⟨b, o, e, hb, hc⟩ := h i hi
  exact ⟨b, o, e, Nat.lt_of_lt_of_le hb hk.size, fun j hj => (cell_of_block (hk.block b hb (hn _ e (by omega)))).trans (hc j hj)⟩
theorem Lst.off {α : Type} {enc : α → Value} {S : Nat → Prop} {w w' : World} {ao : Option Addr} {A : List α} (h : Lst enc w ao A) (hk : Kept S w w') (hn : ∀ ad, ao = some ad → 0 < A.length → ¬ S ad.block) : Lst enc w' ao A := by
  intro i hi
  obtain ⟨b, o, e, hb, hc⟩ := h i hi
  exact ⟨b, o, e, Nat.lt_of_lt_of_le hb hk.size, (cell_of_block (hk.block b hb (hn _ e (by omega)))).trans hc⟩
def StepRow (w : World) (p tb sg : Nat) (G : List (List StepT)) : Prop := ∀ i (hi : i < G.length), ∃ ao cap, w.cell? ⟨sg, i, none⟩ = some (.slice ao G[i].length cap) ∧ Row encS 2 w ao G[i] ∧ Off ao G[i].length p tb
def rowsU (Z : List ArcT) (N : Nat) : List (List StepT) := (List.range N).map (stepsU Z)
theorem rowsU_len (Z : List ArcT) (N : Nat) : (rowsU Z N).length = N := by simp [rowsU]
theorem StepRow.at {w : World} {p tb sg N : Nat} {Z : List ArcT} (h : StepRow w p tb sg (rowsU Z N)) {v : Nat} (hv : v < N) : ∃ ao cap, w.cell? ⟨sg, v, none⟩ = some (.slice ao (stepsU Z v).length cap) ∧ Row encS 2 w ao (stepsU Z v) ∧ Off ao (stepsU Z v).length p tb := by
  have := h v (by rw [rowsU_len]; exact hv)
  simpa [rowsU] using this
section
variable {w w2 : World} {p tb sg N : Nat} {b : Bool} {ao : Option Addr} {cap : Nat} {Z : List ArcT} {sc tc : Nat} {fo : Option Addr} {fc : Nat} {F : List Int} {lo : Option Addr} {lc : Nat} {L T T' : List Int}
theorem StepRow.kept {S : Nat → Prop} {G : List (List StepT)} (h : StepRow w p tb sg G) (hk : Kept S w w2) (hS : ∀ i, S i → i = p ∨ i = tb) (hsg : sg ≠ p ∧ sg ≠ tb ∧ sg < w.heap.size) : StepRow w2 p tb sg G := by
  intro i hi
  obtain ⟨a, c, h1, h2, h3⟩ := h i hi
  refine ⟨a, c, (cell_of_block (hk.block sg hsg.2.2 (fun e => by have := hS _ e; omega))).trans h1, h2.off hk (fun ad e h0 q => by have := hS _ q; have := h3 ad e h0; omega), h3⟩
end
end Go.Proofs.Ytbkmfjegbmjknaa
