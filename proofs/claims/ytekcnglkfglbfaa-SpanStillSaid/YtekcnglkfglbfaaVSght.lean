/- sought of package ebbtideref08: the nodes that are found by some steps, and by which step each was. -/
import Derived.Test.YtekcnglkfglbfaaBH
import Derived.Deep.RegionLaw
import Derived.Deep.RegionHeld3
import Derived.Deep.AppendLies
import Derived.Deep.DeepCutAuto
namespace Go.Proofs.Ytekcnglkfglbfaa
open Go.RowKit
set_option linter.unusedVariables false

def byX (x : List Ent) : List StepT := x.map fun e => e.2.1
theorem byX_len (x : List Ent) : (byX x).length = x.length := by simp [byX]
theorem keysX_len (x : List Ent) : (keysX x).length = x.length := by simp [keysX]
section
variable {w wb wr w2 : World} {gv gn nc gs bc : Nat} {K : List Nat} {T : List StepT}
theorem ownI_snoc {w : World} {B : Nat} {v : Value} {K : List Nat} {x : Nat} (h : w.ownsRow B 3 1 v (K.length + 1) ((natI K).map encI ++ [.int .i64 (x : Int)])) : OwnL encI w B 3 v (natI (K ++ [x])) := by
  unfold OwnL
  rw [natI_snoc, List.length_append, List.map_append, natI_len]
  exact h
theorem ownS_snoc {w : World} {B : Nat} {v : Value} {T : List StepT} {y : StepT} (h : w.ownsRow B 75 2 v (T.length + 1) (T.flatMap encS ++ encS y)) : OwnS w B v (T ++ [y]) := by
  unfold OwnS
  rw [List.length_append, List.flatMap_append]
  simpa using h
end
theorem fresh_ne {g4 g5 H : Nat} {v : Value} (hv : v.ownBlock = none) (hl : v.ownBlock = some g5 ∨ g5 = H) (h : g4 < H) : g4 ≠ g5 := by
  rcases hl with e | e
  · rw [hv] at e; cases e
  · omega
/-- What sought tells. -/
def FoundRes (X : List Ent) (w : World) (e : Ending) (w' : World) : Prop :=
  ∃ gn nc gs bc, e = .returned (.agg #[.slice (some ⟨gn, 0, none⟩) X.length nc, .slice (some ⟨gs, 0, none⟩) X.length bc]) ∧ Lst encI w' (some ⟨gn, 0, none⟩) (natI (keysX X)) ∧ Row encS 2 w' (some ⟨gs, 0, none⟩) (byX X) ∧ Below w.heap.size w w'
section
variable (n : Int) (b : Bool) (ao lo : Option Addr) (cap lc : Nat) (Z : List ArcT) (L : List StepT) (N : Nat)
end
end Go.Proofs.Ytekcnglkfglbfaa
