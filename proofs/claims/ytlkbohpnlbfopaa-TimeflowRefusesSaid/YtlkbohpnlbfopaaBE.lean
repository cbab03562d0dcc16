/- Lemmas of the layers below, several texts in one. -/
import Derived.Test.YtlkbohpnlbfopaaBC
import Derived.Laws.StructEq
import Derived.Shelf.SlicesE.Kit
import Derived.OpenShut
import Derived.ChangeSame
import Derived.ProofKit
import Derived.Deep.Slices
import Derived.Deep.Fields
import Derived.Laws.AppendOwnNone
namespace Go.Proofs.Ytlkbohpnlbfopaa
open Go.RowKit Go.Sort
set_option linter.unusedVariables false
section
variable {w0 w w' : World} {b : Nat} {G : Option Nat} {qb qg : Nat} {L : List (Int × Int)} {l : List Int}
end
end Go.Proofs.Ytlkbohpnlbfopaa
namespace Go.Proofs.Ytlkbohpnlbfopaa
open Go.RowKit Go.WideShapes Go.ChangeShapes
set_option linter.unusedVariables false
def RI (w : World) (ao : Option Addr) (zs : List Int) : Prop := ∀ i, i < zs.length → ∃ ad, ao = some ad ∧ ad.block < w.heap.size ∧ w.cell? (ad.add i) = some (.int .i64 (zs.getD i 0))
theorem add_block (a : Addr) (n : Nat) : (a.add n).block = a.block := by unfold Addr.add; split <;> rfl
theorem RI.below {w w' : World} {ao : Option Addr} {zs : List Int} (h : RI w ao zs) (hb : RowKit.Below w.heap.size w w') : RI w' ao zs := by
  intro i hi
  obtain ⟨ad, h1, h2, h3⟩ := h i hi
  exact ⟨ad, h1, Nat.lt_of_lt_of_le h2 hb.size, by rw [hb.cell (by rw [add_block]; exact h2)]; exact h3⟩
theorem cellsInt : Try.prog.cellsOf 3 = 1 := by kernel_rfl
end Go.Proofs.Ytlkbohpnlbfopaa
namespace Go.Proofs.Ytlkbohpnlbfopaa
open Go.RowKit Go.WideShapes Go.ChangeShapes Go.Deep
set_option linter.unusedVariables false
section
variable {H : Type} {enc : TypeId × Value → H} {P : Program} {w : World} {base : Nat} {spare : Nat → Bool} {held : Bool}
end
def RA (w : World) (ao : Option Addr) (A : List (Int × Int × Int)) : Prop := ∀ i, i < A.length → ∃ b o, ao = some ⟨b, o, none⟩ ∧ b < w.heap.size ∧
  w.cell? ⟨b, o + i * 3, none⟩ = some (.int .i64 (A.getD i (0, 0, 0)).1) ∧ w.cell? ⟨b, o + i * 3 + 1, none⟩ = some (.int .i64 (A.getD i (0, 0, 0)).2.1) ∧ w.cell? ⟨b, o + i * 3 + 2, none⟩ = some (.int .i64 (A.getD i (0, 0, 0)).2.2)
def RP (w : World) (ao : Option Addr) (A : List (Int × Int)) : Prop := ∀ i, i < A.length → ∃ b o, ao = some ⟨b, o, none⟩ ∧ b < w.heap.size ∧
  w.cell? ⟨b, o + i * 2, none⟩ = some (.int .i64 (A.getD i (0, 0)).1) ∧ w.cell? ⟨b, o + i * 2 + 1, none⟩ = some (.int .i64 (A.getD i (0, 0)).2)
theorem RA.below {B : Nat} {w w' : World} {ao : Option Addr} {zs : List (Int × Int × Int)} (h : RA w ao zs) (hb : RowKit.Below B w w') (hB : ∀ ad, ao = some ad → ad.block < B) : RA w' ao zs := by
  intro i hi
  obtain ⟨b, o, h1, h2, h3, h4, h5⟩ := h i hi
  have hB' : b < B := hB _ h1
  exact ⟨b, o, h1, Nat.lt_of_lt_of_le h2 hb.size, by rw [hb.cell hB']; exact h3, by rw [hb.cell hB']; exact h4, by rw [hb.cell hB']; exact h5⟩
theorem RP.below {B : Nat} {w w' : World} {ao : Option Addr} {zs : List (Int × Int)} (h : RP w ao zs) (hb : RowKit.Below B w w') (hB : ∀ ad, ao = some ad → ad.block < B) : RP w' ao zs := by
  intro i hi
  obtain ⟨b, o, h1, h2, h3, h4⟩ := h i hi
  have hB' : b < B := hB _ h1
  exact ⟨b, o, h1, Nat.lt_of_lt_of_le h2 hb.size, by rw [hb.cell hB']; exact h3, by rw [hb.cell hB']; exact h4⟩
end Go.Proofs.Ytlkbohpnlbfopaa
namespace Go.Proofs.Ytlkbohpnlbfopaa
open Go.RowKit Go.Sort
set_option linter.unusedVariables false
end Go.Proofs.Ytlkbohpnlbfopaa
namespace Go.Proofs.Ytlkbohpnlbfopaa
open Go.RowKit Go.Sort
set_option linter.unusedVariables false
section
variable {w wr w' : World} {b g o cap most : Nat} {L : List (Int × Int)} {x : Int × Int} {cur : Array Value}
end
end Go.Proofs.Ytlkbohpnlbfopaa
