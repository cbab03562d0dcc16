/-
  No cell of these rows narrows 'for every input' (looked for: loops, veiled, ifaces, maps, wideKeys, modest, calm, conditions, laid).
  DERIVED. THE GIVEN ROWS OF THIS SEAT. 6 by the template 'for every input the law returns true; each argument reads behind the call as it read before'; 0 by the template 'total and deterministic' (their statements: YtfklkcnopngpgaaTotals.lean).
  GIVEN WITH THE SEED: the statements are not yours to turn. If you find one false, say at which input.
  Laid BY PROGRAM, IN A SANDBOX (cutbox-rows.mjs): the forced cells as the released guide's own fill.sh prints them over the translation 23fdcbe55e699425… (all of the seat's roots in one cut). By AI agents, Wed Nov 11 2026. No macro, syntax, notation, axiom, sorry.
-/
import Derived.Test.YtfklkcnopngpgaaChecked
import GoSem.Claim
import GoSem.ClaimJoined
import GoSem.ClaimMapViews
import Derived.JoinedTies
import Derived.KernelRfl
namespace Go.Proofs.Ytfklkcnopngpgaa
/- THE CELL 'sum', in the pinned program and in every row, IS THE sha256 OF THE DUMP (.gsa) THAT YtfklkcnopngpgaaProg.lean LOADS. Nothing in Lean hashes anything: it is a label: what it is worth is what the hold of that sum in a sandbox is worth. -/
noncomputable def Try.pinned : Pinned := { name := "ytfklkcnopngpgaa", sum := "23fdcbe55e699425059f305b4857773cafcb8e2e9259fe320aceb4d996706e36", checked := Try.checked }
namespace Rows
def none {H : Type} : Left H := { results := [], args := [] }

/-- 'ebbtidelaw11.CostFars': WHATEVER THE INPUT: true; the input reads as it did. -/
def costFarsSpec : ChangeSpec := { name := "costFars", fn := fun _ => fun
  | [d1, d2, d3] => { results := [.lit (.bool true)], args := [d1, d2, d3] }
  | _ => none }
def costFarsRow : OpenClaim := { program := "ytfklkcnopngpgaa", sum := "23fdcbe55e699425059f305b4857773cafcb8e2e9259fe320aceb4d996706e36", func := "ebbtide/ebbtidelaw11.CostFars", spec := "costFars", unfollowed := true, recurses := true, apart := false }
def CostFarsSaid : Prop := costFarsRow.holds Try.pinned (OpenSpec.ofChange costFarsSpec)

/-- ITS FALSE NEIGHBOUR: 'it returns false'. Refute it at one input. -/
def costFarsWrong : ChangeSpec := { name := "costFars", fn := fun _ => fun
  | [d1, d2, d3] => { results := [.lit (.bool false)], args := [d1, d2, d3] }
  | _ => none }
def CostFarsWrongFalsely : Prop := costFarsRow.holds Try.pinned (OpenSpec.ofChange costFarsWrong)

/-- 'ebbtidelaw11.CostTights': WHATEVER THE INPUT: true; the input reads as it did. -/
def costTightsSpec : ChangeSpec := { name := "costTights", fn := fun _ => fun
  | [d1, d2, d3] => { results := [.lit (.bool true)], args := [d1, d2, d3] }
  | _ => none }
def costTightsRow : OpenClaim := { program := "ytfklkcnopngpgaa", sum := "23fdcbe55e699425059f305b4857773cafcb8e2e9259fe320aceb4d996706e36", func := "ebbtide/ebbtidelaw11.CostTights", spec := "costTights", unfollowed := true, recurses := true, apart := false }
def CostTightsSaid : Prop := costTightsRow.holds Try.pinned (OpenSpec.ofChange costTightsSpec)

/-- ITS FALSE NEIGHBOUR: 'it returns false'. Refute it at one input. -/
def costTightsWrong : ChangeSpec := { name := "costTights", fn := fun _ => fun
  | [d1, d2, d3] => { results := [.lit (.bool false)], args := [d1, d2, d3] }
  | _ => none }
def CostTightsWrongFalsely : Prop := costTightsRow.holds Try.pinned (OpenSpec.ofChange costTightsWrong)

/-- 'ebbtidelaw11.CostFree': WHATEVER THE INPUT: true; the input reads as it did. -/
def costFreeSpec : ChangeSpec := { name := "costFree", fn := fun _ => fun
  | [d1, d2, d3] => { results := [.lit (.bool true)], args := [d1, d2, d3] }
  | _ => none }
def costFreeRow : OpenClaim := { program := "ytfklkcnopngpgaa", sum := "23fdcbe55e699425059f305b4857773cafcb8e2e9259fe320aceb4d996706e36", func := "ebbtide/ebbtidelaw11.CostFree", spec := "costFree", unfollowed := true, recurses := true, apart := false }
def CostFreeSaid : Prop := costFreeRow.holds Try.pinned (OpenSpec.ofChange costFreeSpec)

/-- ITS FALSE NEIGHBOUR: 'it returns false'. Refute it at one input. -/
def costFreeWrong : ChangeSpec := { name := "costFree", fn := fun _ => fun
  | [d1, d2, d3] => { results := [.lit (.bool false)], args := [d1, d2, d3] }
  | _ => none }
def CostFreeWrongFalsely : Prop := costFreeRow.holds Try.pinned (OpenSpec.ofChange costFreeWrong)

/-- 'ebbtidelaw11.CostSteps': WHATEVER THE INPUT: true; the input reads as it did. -/
def costStepsSpec : ChangeSpec := { name := "costSteps", fn := fun _ => fun
  | [d1, d2, d3] => { results := [.lit (.bool true)], args := [d1, d2, d3] }
  | _ => none }
def costStepsRow : OpenClaim := { program := "ytfklkcnopngpgaa", sum := "23fdcbe55e699425059f305b4857773cafcb8e2e9259fe320aceb4d996706e36", func := "ebbtide/ebbtidelaw11.CostSteps", spec := "costSteps", unfollowed := true, recurses := true, apart := false }
def CostStepsSaid : Prop := costStepsRow.holds Try.pinned (OpenSpec.ofChange costStepsSpec)

/-- ITS FALSE NEIGHBOUR: 'it returns false'. Refute it at one input. -/
def costStepsWrong : ChangeSpec := { name := "costSteps", fn := fun _ => fun
  | [d1, d2, d3] => { results := [.lit (.bool false)], args := [d1, d2, d3] }
  | _ => none }
def CostStepsWrongFalsely : Prop := costStepsRow.holds Try.pinned (OpenSpec.ofChange costStepsWrong)

/-- 'ebbtidelaw11.CostEmpty': WHATEVER THE INPUT: true; the input reads as it did. -/
def costEmptySpec : ChangeSpec := { name := "costEmpty", fn := fun _ => fun
  | [d] => { results := [.lit (.bool true)], args := [d] }
  | _ => none }
def costEmptyRow : OpenClaim := { program := "ytfklkcnopngpgaa", sum := "23fdcbe55e699425059f305b4857773cafcb8e2e9259fe320aceb4d996706e36", func := "ebbtide/ebbtidelaw11.CostEmpty", spec := "costEmpty", unfollowed := true, recurses := true, apart := false }
def CostEmptySaid : Prop := costEmptyRow.holds Try.pinned (OpenSpec.ofChange costEmptySpec)

/-- ITS FALSE NEIGHBOUR: 'it returns false'. Refute it at one input. -/
def costEmptyWrong : ChangeSpec := { name := "costEmpty", fn := fun _ => fun
  | [d] => { results := [.lit (.bool false)], args := [d] }
  | _ => none }
def CostEmptyWrongFalsely : Prop := costEmptyRow.holds Try.pinned (OpenSpec.ofChange costEmptyWrong)

/-- 'ebbtidelaw11.CostCheapest': WHATEVER THE INPUT: true; the input reads as it did. -/
def costCheapestSpec : ChangeSpec := { name := "costCheapest", fn := fun _ => fun
  | [d1, d2, d3] => { results := [.lit (.bool true)], args := [d1, d2, d3] }
  | _ => none }
def costCheapestRow : OpenClaim := { program := "ytfklkcnopngpgaa", sum := "23fdcbe55e699425059f305b4857773cafcb8e2e9259fe320aceb4d996706e36", func := "ebbtide/ebbtidelaw11.CostCheapest", spec := "costCheapest", unfollowed := true, recurses := true, apart := false }
def CostCheapestSaid : Prop := costCheapestRow.holds Try.pinned (OpenSpec.ofChange costCheapestSpec)

/-- ITS FALSE NEIGHBOUR: 'it returns false'. Refute it at one input. -/
def costCheapestWrong : ChangeSpec := { name := "costCheapest", fn := fun _ => fun
  | [d1, d2, d3] => { results := [.lit (.bool false)], args := [d1, d2, d3] }
  | _ => none }
def CostCheapestWrongFalsely : Prop := costCheapestRow.holds Try.pinned (OpenSpec.ofChange costCheapestWrong)

/- THE SECOND FORM. 'bulk': how many values and letters a reading holds, each counted each time it is reached (what is shared counts as often as it is met; a slice's spare places count too). A statement '..UptoSaid' is the law's where the arguments, and the package variables that the reading takes, are together of bulk at most 1048576: NARROWER than '..Said'. Prove '..Said' where nothing that the law and all that it calls make is longer than what came in: it says more and counts as full. Else prove '..UptoSaid'. A law counts once. -/
mutual
def uptoBulk {H : Type} : DataW H → Nat
  | .lit (.string bytes) => bytes.length + 1
  | .lit _ => 1
  | .nil => 1
  | .ptr d => uptoBulk d + 1
  | .slice elems spare => uptoBulkAll elems + uptoBulkAll spare + 1
  | .agg parts => uptoBulkAll parts + 1
  | .iface _ d => uptoBulk d + 1
  | .map entries => uptoBulkEntries entries + 1
  | .held _ => 1
def uptoBulkAll {H : Type} : List (DataW H) → Nat
  | [] => 0
  | d :: r => uptoBulk d + uptoBulkAll r
def uptoBulkEntries {H : Type} : List (Lit × DataW H) → Nat
  | [] => 0
  | x :: r => uptoBulkEntry x + uptoBulkEntries r
def uptoBulkEntry {H : Type} : Lit × DataW H → Nat
  | (.string bytes, d) => bytes.length + uptoBulk d + 1
  | (_, d) => uptoBulk d + 1
 end
def uptoSmall : (H : Type) → List (DataW H) → Bool := fun _ ds => decide (uptoBulkAll ds ≤ 1048576)
def OpenSpec.upto (s : _root_.Go.ChangeSpec) : _root_.Go.OpenSpec := { _root_.Go.OpenSpec.ofChange s with cond := some uptoSmall }

/-- 'ebbtidelaw11.CostFars', WHERE WHAT IT READS IS OF BULK AT MOST 1048576: true; the input reads as it did. -/
def costFarsUptoRow : OpenClaim := { program := "ytfklkcnopngpgaa", sum := "23fdcbe55e699425059f305b4857773cafcb8e2e9259fe320aceb4d996706e36", func := "ebbtide/ebbtidelaw11.CostFars", spec := "costFars", unfollowed := true, recurses := true, apart := false, narrowed := true }
def CostFarsUptoSaid : Prop := costFarsUptoRow.holds Try.pinned (OpenSpec.upto costFarsSpec)

/-- 'ebbtidelaw11.CostTights', WHERE WHAT IT READS IS OF BULK AT MOST 1048576: true; the input reads as it did. -/
def costTightsUptoRow : OpenClaim := { program := "ytfklkcnopngpgaa", sum := "23fdcbe55e699425059f305b4857773cafcb8e2e9259fe320aceb4d996706e36", func := "ebbtide/ebbtidelaw11.CostTights", spec := "costTights", unfollowed := true, recurses := true, apart := false, narrowed := true }
def CostTightsUptoSaid : Prop := costTightsUptoRow.holds Try.pinned (OpenSpec.upto costTightsSpec)

/-- 'ebbtidelaw11.CostFree', WHERE WHAT IT READS IS OF BULK AT MOST 1048576: true; the input reads as it did. -/
def costFreeUptoRow : OpenClaim := { program := "ytfklkcnopngpgaa", sum := "23fdcbe55e699425059f305b4857773cafcb8e2e9259fe320aceb4d996706e36", func := "ebbtide/ebbtidelaw11.CostFree", spec := "costFree", unfollowed := true, recurses := true, apart := false, narrowed := true }
def CostFreeUptoSaid : Prop := costFreeUptoRow.holds Try.pinned (OpenSpec.upto costFreeSpec)

/-- 'ebbtidelaw11.CostSteps', WHERE WHAT IT READS IS OF BULK AT MOST 1048576: true; the input reads as it did. -/
def costStepsUptoRow : OpenClaim := { program := "ytfklkcnopngpgaa", sum := "23fdcbe55e699425059f305b4857773cafcb8e2e9259fe320aceb4d996706e36", func := "ebbtide/ebbtidelaw11.CostSteps", spec := "costSteps", unfollowed := true, recurses := true, apart := false, narrowed := true }
def CostStepsUptoSaid : Prop := costStepsUptoRow.holds Try.pinned (OpenSpec.upto costStepsSpec)

/-- 'ebbtidelaw11.CostEmpty', WHERE WHAT IT READS IS OF BULK AT MOST 1048576: true; the input reads as it did. -/
def costEmptyUptoRow : OpenClaim := { program := "ytfklkcnopngpgaa", sum := "23fdcbe55e699425059f305b4857773cafcb8e2e9259fe320aceb4d996706e36", func := "ebbtide/ebbtidelaw11.CostEmpty", spec := "costEmpty", unfollowed := true, recurses := true, apart := false, narrowed := true }
def CostEmptyUptoSaid : Prop := costEmptyUptoRow.holds Try.pinned (OpenSpec.upto costEmptySpec)

/-- 'ebbtidelaw11.CostCheapest', WHERE WHAT IT READS IS OF BULK AT MOST 1048576: true; the input reads as it did. -/
def costCheapestUptoRow : OpenClaim := { program := "ytfklkcnopngpgaa", sum := "23fdcbe55e699425059f305b4857773cafcb8e2e9259fe320aceb4d996706e36", func := "ebbtide/ebbtidelaw11.CostCheapest", spec := "costCheapest", unfollowed := true, recurses := true, apart := false, narrowed := true }
def CostCheapestUptoSaid : Prop := costCheapestUptoRow.holds Try.pinned (OpenSpec.upto costCheapestSpec)

end Rows
end Go.Proofs.Ytfklkcnopngpgaa
