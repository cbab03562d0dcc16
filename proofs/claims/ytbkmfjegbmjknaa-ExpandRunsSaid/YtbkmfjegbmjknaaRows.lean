/-
  No cell of these rows narrows 'for every input' (looked for: loops, veiled, ifaces, maps, wideKeys, modest, calm, conditions, laid).
  DERIVED. THE GIVEN ROWS OF THIS SEAT. 7 by the template 'for every input the law returns true; each argument reads behind the call as it read before'; 0 by the template 'total and deterministic' (their statements: YtbkmfjegbmjknaaTotals.lean).
  GIVEN WITH THE SEED: the statements are not yours to turn. If you find one false, say at which input.
  Laid BY PROGRAM, IN A SANDBOX (cutbox-rows.mjs): the forced cells as the released guide's own fill.sh prints them over the translation 9f2563cd0f425bfe… (all of the seat's roots in one cut). By AI agents, Wed Nov 11 2026. No macro, syntax, notation, axiom, sorry.
-/
import Derived.Test.YtbkmfjegbmjknaaChecked
import GoSem.Claim
import GoSem.ClaimJoined
import GoSem.ClaimMapViews
import Derived.JoinedTies
import Derived.KernelRfl
namespace Go.Proofs.Ytbkmfjegbmjknaa
/- THE CELL 'sum', in the pinned program and in every row, IS THE sha256 OF THE DUMP (.gsa) THAT YtbkmfjegbmjknaaProg.lean LOADS. Nothing in Lean hashes anything: it is a label: what it is worth is what the hold of that sum in a sandbox is worth. -/
noncomputable def Try.pinned : Pinned := { name := "ytbkmfjegbmjknaa", sum := "9f2563cd0f425bfe69332a7149dc134d548be3c001241f38d6d879fce375c10c", checked := Try.checked }
namespace Rows
def none {H : Type} : Left H := { results := [], args := [] }

/-- 'ebbtidelaw15.ExpandFits': WHATEVER THE INPUT: true; the input reads as it did. -/
def expandFitsSpec : ChangeSpec := { name := "expandFits", fn := fun _ => fun
  | [d1, d2, d3, d4] => { results := [.lit (.bool true)], args := [d1, d2, d3, d4] }
  | _ => none }
def expandFitsRow : OpenClaim := { program := "ytbkmfjegbmjknaa", sum := "9f2563cd0f425bfe69332a7149dc134d548be3c001241f38d6d879fce375c10c", func := "ebbtide/ebbtidelaw15.ExpandFits", spec := "expandFits", unfollowed := true, recurses := true, plainKeys := false, apart := false }
def ExpandFitsSaid : Prop := expandFitsRow.holds Try.pinned (OpenSpec.ofChange expandFitsSpec)

/-- ITS FALSE NEIGHBOUR: 'it returns false'. Refute it at one input. -/
def expandFitsWrong : ChangeSpec := { name := "expandFits", fn := fun _ => fun
  | [d1, d2, d3, d4] => { results := [.lit (.bool false)], args := [d1, d2, d3, d4] }
  | _ => none }
def ExpandFitsWrongFalsely : Prop := expandFitsRow.holds Try.pinned (OpenSpec.ofChange expandFitsWrong)

/-- 'ebbtidelaw15.ExpandBuilds': WHATEVER THE INPUT: true; the input reads as it did. -/
def expandBuildsSpec : ChangeSpec := { name := "expandBuilds", fn := fun _ => fun
  | [d1, d2, d3, d4] => { results := [.lit (.bool true)], args := [d1, d2, d3, d4] }
  | _ => none }
def expandBuildsRow : OpenClaim := { program := "ytbkmfjegbmjknaa", sum := "9f2563cd0f425bfe69332a7149dc134d548be3c001241f38d6d879fce375c10c", func := "ebbtide/ebbtidelaw15.ExpandBuilds", spec := "expandBuilds", unfollowed := true, recurses := true, plainKeys := false, apart := false }
def ExpandBuildsSaid : Prop := expandBuildsRow.holds Try.pinned (OpenSpec.ofChange expandBuildsSpec)

/-- ITS FALSE NEIGHBOUR: 'it returns false'. Refute it at one input. -/
def expandBuildsWrong : ChangeSpec := { name := "expandBuilds", fn := fun _ => fun
  | [d1, d2, d3, d4] => { results := [.lit (.bool false)], args := [d1, d2, d3, d4] }
  | _ => none }
def ExpandBuildsWrongFalsely : Prop := expandBuildsRow.holds Try.pinned (OpenSpec.ofChange expandBuildsWrong)

/-- 'ebbtidelaw15.ExpandMoves': WHATEVER THE INPUT: true; the input reads as it did. -/
def expandMovesSpec : ChangeSpec := { name := "expandMoves", fn := fun _ => fun
  | [d1, d2, d3] => { results := [.lit (.bool true)], args := [d1, d2, d3] }
  | _ => none }
def expandMovesRow : OpenClaim := { program := "ytbkmfjegbmjknaa", sum := "9f2563cd0f425bfe69332a7149dc134d548be3c001241f38d6d879fce375c10c", func := "ebbtide/ebbtidelaw15.ExpandMoves", spec := "expandMoves", unfollowed := true, recurses := true, plainKeys := false, apart := false }
def ExpandMovesSaid : Prop := expandMovesRow.holds Try.pinned (OpenSpec.ofChange expandMovesSpec)

/-- ITS FALSE NEIGHBOUR: 'it returns false'. Refute it at one input. -/
def expandMovesWrong : ChangeSpec := { name := "expandMoves", fn := fun _ => fun
  | [d1, d2, d3] => { results := [.lit (.bool false)], args := [d1, d2, d3] }
  | _ => none }
def ExpandMovesWrongFalsely : Prop := expandMovesRow.holds Try.pinned (OpenSpec.ofChange expandMovesWrong)

/-- 'ebbtidelaw15.ExpandFlows': WHATEVER THE INPUT: true; the input reads as it did. -/
def expandFlowsSpec : ChangeSpec := { name := "expandFlows", fn := fun _ => fun
  | [d] => { results := [.lit (.bool true)], args := [d] }
  | _ => none }
def expandFlowsRow : OpenClaim := { program := "ytbkmfjegbmjknaa", sum := "9f2563cd0f425bfe69332a7149dc134d548be3c001241f38d6d879fce375c10c", func := "ebbtide/ebbtidelaw15.ExpandFlows", spec := "expandFlows", unfollowed := true, recurses := true, plainKeys := false, apart := false }
def ExpandFlowsSaid : Prop := expandFlowsRow.holds Try.pinned (OpenSpec.ofChange expandFlowsSpec)

/-- ITS FALSE NEIGHBOUR: 'it returns false'. Refute it at one input. -/
def expandFlowsWrong : ChangeSpec := { name := "expandFlows", fn := fun _ => fun
  | [d] => { results := [.lit (.bool false)], args := [d] }
  | _ => none }
def ExpandFlowsWrongFalsely : Prop := expandFlowsRow.holds Try.pinned (OpenSpec.ofChange expandFlowsWrong)

/-- 'ebbtidelaw15.ExpandBack': WHATEVER THE INPUT: true; the input reads as it did. -/
def expandBackSpec : ChangeSpec := { name := "expandBack", fn := fun _ => fun
  | [d1, d2, d3, d4] => { results := [.lit (.bool true)], args := [d1, d2, d3, d4] }
  | _ => none }
def expandBackRow : OpenClaim := { program := "ytbkmfjegbmjknaa", sum := "9f2563cd0f425bfe69332a7149dc134d548be3c001241f38d6d879fce375c10c", func := "ebbtide/ebbtidelaw15.ExpandBack", spec := "expandBack", unfollowed := true, recurses := true, plainKeys := false, apart := false }
def ExpandBackSaid : Prop := expandBackRow.holds Try.pinned (OpenSpec.ofChange expandBackSpec)

/-- ITS FALSE NEIGHBOUR: 'it returns false'. Refute it at one input. -/
def expandBackWrong : ChangeSpec := { name := "expandBack", fn := fun _ => fun
  | [d1, d2, d3, d4] => { results := [.lit (.bool false)], args := [d1, d2, d3, d4] }
  | _ => none }
def ExpandBackWrongFalsely : Prop := expandBackRow.holds Try.pinned (OpenSpec.ofChange expandBackWrong)

/-- 'ebbtidelaw15.ExpandPlans': WHATEVER THE INPUT: true; the input reads as it did. -/
def expandPlansSpec : ChangeSpec := { name := "expandPlans", fn := fun _ => fun
  | [d] => { results := [.lit (.bool true)], args := [d] }
  | _ => none }
def expandPlansRow : OpenClaim := { program := "ytbkmfjegbmjknaa", sum := "9f2563cd0f425bfe69332a7149dc134d548be3c001241f38d6d879fce375c10c", func := "ebbtide/ebbtidelaw15.ExpandPlans", spec := "expandPlans", unfollowed := true, recurses := true, plainKeys := false, apart := false }
def ExpandPlansSaid : Prop := expandPlansRow.holds Try.pinned (OpenSpec.ofChange expandPlansSpec)

/-- ITS FALSE NEIGHBOUR: 'it returns false'. Refute it at one input. -/
def expandPlansWrong : ChangeSpec := { name := "expandPlans", fn := fun _ => fun
  | [d] => { results := [.lit (.bool false)], args := [d] }
  | _ => none }
def ExpandPlansWrongFalsely : Prop := expandPlansRow.holds Try.pinned (OpenSpec.ofChange expandPlansWrong)

/-- 'ebbtidelaw15.ExpandRuns': WHATEVER THE INPUT: true; the input reads as it did. -/
def expandRunsSpec : ChangeSpec := { name := "expandRuns", fn := fun _ => fun
  | [d] => { results := [.lit (.bool true)], args := [d] }
  | _ => none }
def expandRunsRow : OpenClaim := { program := "ytbkmfjegbmjknaa", sum := "9f2563cd0f425bfe69332a7149dc134d548be3c001241f38d6d879fce375c10c", func := "ebbtide/ebbtidelaw15.ExpandRuns", spec := "expandRuns", unfollowed := true, recurses := true, plainKeys := false, apart := false }
def ExpandRunsSaid : Prop := expandRunsRow.holds Try.pinned (OpenSpec.ofChange expandRunsSpec)

/-- ITS FALSE NEIGHBOUR: 'it returns false'. Refute it at one input. -/
def expandRunsWrong : ChangeSpec := { name := "expandRuns", fn := fun _ => fun
  | [d] => { results := [.lit (.bool false)], args := [d] }
  | _ => none }
def ExpandRunsWrongFalsely : Prop := expandRunsRow.holds Try.pinned (OpenSpec.ofChange expandRunsWrong)

/- THE SECOND FORM. 'bulk': how many values and letters a reading holds, each counted each time it is reached (what is shared counts as often as it is met; a slice's spare places count too). A statement '..UptoSaid' is the law's where the arguments, and the package variables that the reading takes, are together of bulk at most 1048576: NARROWER than '..Said'. Prove '..Said' where nothing that the law and all that it calls make is longer than what came in: it says more and counts as full. Else prove '..UptoSaid'. A law counts once. -/
mutual
def uptoBulk {H : Type} : DataW H → Nat
  | .lit (.string bytes) => bytes.length + 1
  | .lit _ => 1
  | .nil => 1
  | .ptr d => uptoBulk d + 1
  | .slice elems spare => uptoBulkAll elems + uptoBulkAll spare + 1
  | .agg parts => uptoBulkAll parts + 1
  | .iface _ d => uptoBulk d + 1
  | .map entries => uptoBulkEntries entries + 1
  | .held _ => 1
def uptoBulkAll {H : Type} : List (DataW H) → Nat
  | [] => 0
  | d :: r => uptoBulk d + uptoBulkAll r
def uptoBulkEntries {H : Type} : List (Lit × DataW H) → Nat
  | [] => 0
  | x :: r => uptoBulkEntry x + uptoBulkEntries r
def uptoBulkEntry {H : Type} : Lit × DataW H → Nat
  | (.string bytes, d) => bytes.length + uptoBulk d + 1
  | (_, d) => uptoBulk d + 1
 end
def uptoSmall : (H : Type) → List (DataW H) → Bool := fun _ ds => decide (uptoBulkAll ds ≤ 1048576)
def OpenSpec.upto (s : _root_.Go.ChangeSpec) : _root_.Go.OpenSpec := { _root_.Go.OpenSpec.ofChange s with cond := some uptoSmall }

/-- 'ebbtidelaw15.ExpandFits', WHERE WHAT IT READS IS OF BULK AT MOST 1048576: true; the input reads as it did. -/
def expandFitsUptoRow : OpenClaim := { program := "ytbkmfjegbmjknaa", sum := "9f2563cd0f425bfe69332a7149dc134d548be3c001241f38d6d879fce375c10c", func := "ebbtide/ebbtidelaw15.ExpandFits", spec := "expandFits", unfollowed := true, recurses := true, plainKeys := false, apart := false, narrowed := true }
def ExpandFitsUptoSaid : Prop := expandFitsUptoRow.holds Try.pinned (OpenSpec.upto expandFitsSpec)

/-- 'ebbtidelaw15.ExpandBuilds', WHERE WHAT IT READS IS OF BULK AT MOST 1048576: true; the input reads as it did. -/
def expandBuildsUptoRow : OpenClaim := { program := "ytbkmfjegbmjknaa", sum := "9f2563cd0f425bfe69332a7149dc134d548be3c001241f38d6d879fce375c10c", func := "ebbtide/ebbtidelaw15.ExpandBuilds", spec := "expandBuilds", unfollowed := true, recurses := true, plainKeys := false, apart := false, narrowed := true }
def ExpandBuildsUptoSaid : Prop := expandBuildsUptoRow.holds Try.pinned (OpenSpec.upto expandBuildsSpec)

/-- 'ebbtidelaw15.ExpandMoves', WHERE WHAT IT READS IS OF BULK AT MOST 1048576: true; the input reads as it did. -/
def expandMovesUptoRow : OpenClaim := { program := "ytbkmfjegbmjknaa", sum := "9f2563cd0f425bfe69332a7149dc134d548be3c001241f38d6d879fce375c10c", func := "ebbtide/ebbtidelaw15.ExpandMoves", spec := "expandMoves", unfollowed := true, recurses := true, plainKeys := false, apart := false, narrowed := true }
def ExpandMovesUptoSaid : Prop := expandMovesUptoRow.holds Try.pinned (OpenSpec.upto expandMovesSpec)

/-- 'ebbtidelaw15.ExpandFlows', WHERE WHAT IT READS IS OF BULK AT MOST 1048576: true; the input reads as it did. -/
def expandFlowsUptoRow : OpenClaim := { program := "ytbkmfjegbmjknaa", sum := "9f2563cd0f425bfe69332a7149dc134d548be3c001241f38d6d879fce375c10c", func := "ebbtide/ebbtidelaw15.ExpandFlows", spec := "expandFlows", unfollowed := true, recurses := true, plainKeys := false, apart := false, narrowed := true }
def ExpandFlowsUptoSaid : Prop := expandFlowsUptoRow.holds Try.pinned (OpenSpec.upto expandFlowsSpec)

/-- 'ebbtidelaw15.ExpandBack', WHERE WHAT IT READS IS OF BULK AT MOST 1048576: true; the input reads as it did. -/
def expandBackUptoRow : OpenClaim := { program := "ytbkmfjegbmjknaa", sum := "9f2563cd0f425bfe69332a7149dc134d548be3c001241f38d6d879fce375c10c", func := "ebbtide/ebbtidelaw15.ExpandBack", spec := "expandBack", unfollowed := true, recurses := true, plainKeys := false, apart := false, narrowed := true }
def ExpandBackUptoSaid : Prop := expandBackUptoRow.holds Try.pinned (OpenSpec.upto expandBackSpec)

/-- 'ebbtidelaw15.ExpandPlans', WHERE WHAT IT READS IS OF BULK AT MOST 1048576: true; the input reads as it did. -/
def expandPlansUptoRow : OpenClaim := { program := "ytbkmfjegbmjknaa", sum := "9f2563cd0f425bfe69332a7149dc134d548be3c001241f38d6d879fce375c10c", func := "ebbtide/ebbtidelaw15.ExpandPlans", spec := "expandPlans", unfollowed := true, recurses := true, plainKeys := false, apart := false, narrowed := true }
def ExpandPlansUptoSaid : Prop := expandPlansUptoRow.holds Try.pinned (OpenSpec.upto expandPlansSpec)

/-- 'ebbtidelaw15.ExpandRuns', WHERE WHAT IT READS IS OF BULK AT MOST 1048576: true; the input reads as it did. -/
def expandRunsUptoRow : OpenClaim := { program := "ytbkmfjegbmjknaa", sum := "9f2563cd0f425bfe69332a7149dc134d548be3c001241f38d6d879fce375c10c", func := "ebbtide/ebbtidelaw15.ExpandRuns", spec := "expandRuns", unfollowed := true, recurses := true, plainKeys := false, apart := false, narrowed := true }
def ExpandRunsUptoSaid : Prop := expandRunsUptoRow.holds Try.pinned (OpenSpec.upto expandRunsSpec)

end Rows
end Go.Proofs.Ytbkmfjegbmjknaa
