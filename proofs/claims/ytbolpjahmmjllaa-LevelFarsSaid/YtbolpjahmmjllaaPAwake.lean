/- What any right program answers is answered: awake of layer 2 returns true. -/
import Derived.Test.YtbolpjahmmjllaaPPop
import Derived.Laws.StructEq
import Derived.Shelf.SlicesE.Kit
namespace Go.Proofs.Ytbolpjahmmjllaa
open Go.RowKit Go.Sort
set_option linter.unusedVariables false

def AP (x : Int × Int) : Value := .agg #[.int .i64 x.1, .int .i64 x.2]
theorem eq_pair (x1 x2 y1 y2 : Int) (w : World) : (binOp .eql 99 (.agg #[.int .i64 x1, .int .i64 x2]) (.agg #[.int .i64 y1, .int .i64 y2])).run Try.prog w = .ok (.bool (x1 == y1 && x2 == y2)) w := by
  have u3 := Try.underlying3
  have a3 := Try.isAgg3
  have z3 := Try.sizeOf3
  have hS : Try.prog.underlying 99 = some (.struct (Try.prog.fieldsOf 99)) := by kernel_rfl
  have hp : Try.prog.stoodInHeld 99 = false := by kernel_rfl
  rw [run_eql_struct, show (10000 : Nat) = 9999 + 1 from rfl, run_equalIn_agg w 9999 99 _ _ hS hp]
  simp only [Program.fieldsOf, Try.underlying99]
  go_simp
  by_cases h1 : x1 = y1 <;> by_cases h2 : x2 = y2 <;> simp [h1, h2]
section
variable {w0 w w' : World} {b : Nat} {G : Option Nat} {qb qg : Nat} {L : List (Int × Int)} {l : List Int}
end
theorem ins1 : insP (3, 1) [] = [(3, 1)] := rfl
theorem ins2 : insP (1, 2) [(3, 1)] = [(1, 2), (3, 1)] := by decide
theorem ins3 : insP (1, 1) [(1, 2), (3, 1)] = [(1, 1), (1, 2), (3, 1)] := by decide
end Go.Proofs.Ytbolpjahmmjllaa
