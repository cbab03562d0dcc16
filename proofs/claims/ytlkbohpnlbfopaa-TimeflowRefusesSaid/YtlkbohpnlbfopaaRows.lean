/-
  No cell of these rows narrows 'for every input' (looked for: loops, veiled, ifaces, maps, wideKeys, modest, calm, conditions, laid).
  DERIVED. THE GIVEN ROWS OF THIS SEAT. 4 by the template 'for every input the law returns true; each argument reads behind the call as it read before'; 0 by the template 'total and deterministic' (their statements: YtlkbohpnlbfopaaTotals.lean).
  GIVEN WITH THE SEED: the statements are not yours to turn. If you find one false, say at which input.
  Laid BY PROGRAM, IN A SANDBOX (cutbox-rows.mjs): the forced cells as the released guide's own fill.sh prints them over the translation c2621b3904978a75… (all of the seat's roots in one cut). By AI agents, Wed Nov 11 2026. No macro, syntax, notation, axiom, sorry.
-/
import Derived.Test.YtlkbohpnlbfopaaChecked
import GoSem.Claim
import GoSem.ClaimJoined
import GoSem.ClaimMapViews
import Derived.JoinedTies
import Derived.KernelRfl
namespace Go.Proofs.Ytlkbohpnlbfopaa
/- THE CELL 'sum', in the pinned program and in every row, IS THE sha256 OF THE DUMP (.gsa) THAT YtlkbohpnlbfopaaProg.lean LOADS. Nothing in Lean hashes anything: it is a label: what it is worth is what the hold of that sum in a sandbox is worth. -/
noncomputable def Try.pinned : Pinned := { name := "ytlkbohpnlbfopaa", sum := "c2621b3904978a7541f4e6c99090f91978a9ea71c311ced319801dd34d205385", checked := Try.checked }
namespace Rows
def none {H : Type} : Left H := { results := [], args := [] }

/-- 'ebbtidelaw16.TimeflowRefuses': WHATEVER THE INPUT: true; the input reads as it did. -/
def timeflowRefusesSpec : ChangeSpec := { name := "timeflowRefuses", fn := fun _ => fun
  | [d1, d2, d3, d4] => { results := [.lit (.bool true)], args := [d1, d2, d3, d4] }
  | _ => none }
def timeflowRefusesRow : OpenClaim := { program := "ytlkbohpnlbfopaa", sum := "c2621b3904978a7541f4e6c99090f91978a9ea71c311ced319801dd34d205385", func := "ebbtide/ebbtidelaw16.TimeflowRefuses", spec := "timeflowRefuses", unfollowed := true, recurses := true, plainKeys := false, apart := false }
def TimeflowRefusesSaid : Prop := timeflowRefusesRow.holds Try.pinned (OpenSpec.ofChange timeflowRefusesSpec)

/-- ITS FALSE NEIGHBOUR: 'it returns false'. Refute it at one input. -/
def timeflowRefusesWrong : ChangeSpec := { name := "timeflowRefuses", fn := fun _ => fun
  | [d1, d2, d3, d4] => { results := [.lit (.bool false)], args := [d1, d2, d3, d4] }
  | _ => none }
def TimeflowRefusesWrongFalsely : Prop := timeflowRefusesRow.holds Try.pinned (OpenSpec.ofChange timeflowRefusesWrong)

/-- 'ebbtidelaw16.TimeflowPlans': WHATEVER THE INPUT: true; the input reads as it did. -/
def timeflowPlansSpec : ChangeSpec := { name := "timeflowPlans", fn := fun _ => fun
  | [d] => { results := [.lit (.bool true)], args := [d] }
  | _ => none }
def timeflowPlansRow : OpenClaim := { program := "ytlkbohpnlbfopaa", sum := "c2621b3904978a7541f4e6c99090f91978a9ea71c311ced319801dd34d205385", func := "ebbtide/ebbtidelaw16.TimeflowPlans", spec := "timeflowPlans", unfollowed := true, recurses := true, plainKeys := false, apart := false }
def TimeflowPlansSaid : Prop := timeflowPlansRow.holds Try.pinned (OpenSpec.ofChange timeflowPlansSpec)

/-- ITS FALSE NEIGHBOUR: 'it returns false'. Refute it at one input. -/
def timeflowPlansWrong : ChangeSpec := { name := "timeflowPlans", fn := fun _ => fun
  | [d] => { results := [.lit (.bool false)], args := [d] }
  | _ => none }
def TimeflowPlansWrongFalsely : Prop := timeflowPlansRow.holds Try.pinned (OpenSpec.ofChange timeflowPlansWrong)

/-- 'ebbtidelaw16.TimeflowTops': WHATEVER THE INPUT: true; the input reads as it did. -/
def timeflowTopsSpec : ChangeSpec := { name := "timeflowTops", fn := fun _ => fun
  | [d] => { results := [.lit (.bool true)], args := [d] }
  | _ => none }
def timeflowTopsRow : OpenClaim := { program := "ytlkbohpnlbfopaa", sum := "c2621b3904978a7541f4e6c99090f91978a9ea71c311ced319801dd34d205385", func := "ebbtide/ebbtidelaw16.TimeflowTops", spec := "timeflowTops", unfollowed := true, recurses := true, plainKeys := false, apart := false }
def TimeflowTopsSaid : Prop := timeflowTopsRow.holds Try.pinned (OpenSpec.ofChange timeflowTopsSpec)

/-- ITS FALSE NEIGHBOUR: 'it returns false'. Refute it at one input. -/
def timeflowTopsWrong : ChangeSpec := { name := "timeflowTops", fn := fun _ => fun
  | [d] => { results := [.lit (.bool false)], args := [d] }
  | _ => none }
def TimeflowTopsWrongFalsely : Prop := timeflowTopsRow.holds Try.pinned (OpenSpec.ofChange timeflowTopsWrong)

/-- 'ebbtidelaw16.TimeflowHolds': WHATEVER THE INPUT: true; the input reads as it did. -/
def timeflowHoldsSpec : ChangeSpec := { name := "timeflowHolds", fn := fun _ => fun
  | [d] => { results := [.lit (.bool true)], args := [d] }
  | _ => none }
def timeflowHoldsRow : OpenClaim := { program := "ytlkbohpnlbfopaa", sum := "c2621b3904978a7541f4e6c99090f91978a9ea71c311ced319801dd34d205385", func := "ebbtide/ebbtidelaw16.TimeflowHolds", spec := "timeflowHolds", unfollowed := true, recurses := true, plainKeys := false, apart := false }
def TimeflowHoldsSaid : Prop := timeflowHoldsRow.holds Try.pinned (OpenSpec.ofChange timeflowHoldsSpec)

/-- ITS FALSE NEIGHBOUR: 'it returns false'. Refute it at one input. -/
def timeflowHoldsWrong : ChangeSpec := { name := "timeflowHolds", fn := fun _ => fun
  | [d] => { results := [.lit (.bool false)], args := [d] }
  | _ => none }
def TimeflowHoldsWrongFalsely : Prop := timeflowHoldsRow.holds Try.pinned (OpenSpec.ofChange timeflowHoldsWrong)

/- THE SECOND FORM. 'bulk': how many values and letters a reading holds, each counted each time it is reached (what is shared counts as often as it is met; a slice's spare places count too). A statement '..UptoSaid' is the law's where the arguments, and the package variables that the reading takes, are together of bulk at most 1048576: NARROWER than '..Said'. Prove '..Said' where nothing that the law and all that it calls make is longer than what came in: it says more and counts as full. Else prove '..UptoSaid'. A law counts once. -/
mutual
def uptoBulk {H : Type} : DataW H → Nat
  | .lit (.string bytes) => bytes.length + 1
  | .lit _ => 1
  | .nil => 1
  | .ptr d => uptoBulk d + 1
  | .slice elems spare => uptoBulkAll elems + uptoBulkAll spare + 1
  | .agg parts => uptoBulkAll parts + 1
  | .iface _ d => uptoBulk d + 1
  | .map entries => uptoBulkEntries entries + 1
  | .held _ => 1
def uptoBulkAll {H : Type} : List (DataW H) → Nat
  | [] => 0
  | d :: r => uptoBulk d + uptoBulkAll r
def uptoBulkEntries {H : Type} : List (Lit × DataW H) → Nat
  | [] => 0
  | x :: r => uptoBulkEntry x + uptoBulkEntries r
def uptoBulkEntry {H : Type} : Lit × DataW H → Nat
  | (.string bytes, d) => bytes.length + uptoBulk d + 1
  | (_, d) => uptoBulk d + 1
 end
def uptoSmall : (H : Type) → List (DataW H) → Bool := fun _ ds => decide (uptoBulkAll ds ≤ 1048576)
def OpenSpec.upto (s : _root_.Go.ChangeSpec) : _root_.Go.OpenSpec := { _root_.Go.OpenSpec.ofChange s with cond := some uptoSmall }

/-- 'ebbtidelaw16.TimeflowRefuses', WHERE WHAT IT READS IS OF BULK AT MOST 1048576: true; the input reads as it did. -/
def timeflowRefusesUptoRow : OpenClaim := { program := "ytlkbohpnlbfopaa", sum := "c2621b3904978a7541f4e6c99090f91978a9ea71c311ced319801dd34d205385", func := "ebbtide/ebbtidelaw16.TimeflowRefuses", spec := "timeflowRefuses", unfollowed := true, recurses := true, plainKeys := false, apart := false, narrowed := true }
def TimeflowRefusesUptoSaid : Prop := timeflowRefusesUptoRow.holds Try.pinned (OpenSpec.upto timeflowRefusesSpec)

/-- 'ebbtidelaw16.TimeflowPlans', WHERE WHAT IT READS IS OF BULK AT MOST 1048576: true; the input reads as it did. -/
def timeflowPlansUptoRow : OpenClaim := { program := "ytlkbohpnlbfopaa", sum := "c2621b3904978a7541f4e6c99090f91978a9ea71c311ced319801dd34d205385", func := "ebbtide/ebbtidelaw16.TimeflowPlans", spec := "timeflowPlans", unfollowed := true, recurses := true, plainKeys := false, apart := false, narrowed := true }
def TimeflowPlansUptoSaid : Prop := timeflowPlansUptoRow.holds Try.pinned (OpenSpec.upto timeflowPlansSpec)

/-- 'ebbtidelaw16.TimeflowTops', WHERE WHAT IT READS IS OF BULK AT MOST 1048576: true; the input reads as it did. -/
def timeflowTopsUptoRow : OpenClaim := { program := "ytlkbohpnlbfopaa", sum := "c2621b3904978a7541f4e6c99090f91978a9ea71c311ced319801dd34d205385", func := "ebbtide/ebbtidelaw16.TimeflowTops", spec := "timeflowTops", unfollowed := true, recurses := true, plainKeys := false, apart := false, narrowed := true }
def TimeflowTopsUptoSaid : Prop := timeflowTopsUptoRow.holds Try.pinned (OpenSpec.upto timeflowTopsSpec)

/-- 'ebbtidelaw16.TimeflowHolds', WHERE WHAT IT READS IS OF BULK AT MOST 1048576: true; the input reads as it did. -/
def timeflowHoldsUptoRow : OpenClaim := { program := "ytlkbohpnlbfopaa", sum := "c2621b3904978a7541f4e6c99090f91978a9ea71c311ced319801dd34d205385", func := "ebbtide/ebbtidelaw16.TimeflowHolds", spec := "timeflowHolds", unfollowed := true, recurses := true, plainKeys := false, apart := false, narrowed := true }
def TimeflowHoldsUptoSaid : Prop := timeflowHoldsUptoRow.holds Try.pinned (OpenSpec.upto timeflowHoldsSpec)

end Rows
end Go.Proofs.Ytlkbohpnlbfopaa
