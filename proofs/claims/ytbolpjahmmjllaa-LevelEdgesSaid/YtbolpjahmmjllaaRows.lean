/-
  No cell of these rows narrows 'for every input' (looked for: loops, veiled, ifaces, maps, wideKeys, modest, calm, conditions, laid).
  DERIVED. THE GIVEN ROWS OF THIS SEAT. 5 by the template 'for every input the law returns true; each argument reads behind the call as it read before'; 0 by the template 'total and deterministic' (their statements: YtbolpjahmmjllaaTotals.lean).
  GIVEN WITH THE SEED: the statements are not yours to turn. If you find one false, say at which input.
  Laid BY PROGRAM, IN A SANDBOX (cutbox-rows.mjs): the forced cells as the released guide's own fill.sh prints them over the translation 6b15b74490cf92fd… (all of the seat's roots in one cut). By AI agents, Wed Nov 11 2026. No macro, syntax, notation, axiom, sorry.
-/
import Derived.Test.YtbolpjahmmjllaaChecked
import GoSem.Claim
import GoSem.ClaimJoined
import GoSem.ClaimMapViews
import Derived.JoinedTies
import Derived.KernelRfl
namespace Go.Proofs.Ytbolpjahmmjllaa
/- THE CELL 'sum', in the pinned program and in every row, IS THE sha256 OF THE DUMP (.gsa) THAT YtbolpjahmmjllaaProg.lean LOADS. Nothing in Lean hashes anything: it is a label: what it is worth is what the hold of that sum in a sandbox is worth. -/
noncomputable def Try.pinned : Pinned := { name := "ytbolpjahmmjllaa", sum := "6b15b74490cf92fd3c7a926611d25964cfa222eb0523b859378f796e183ab739", checked := Try.checked }
namespace Rows
def none {H : Type} : Left H := { results := [], args := [] }

/-- 'ebbtidelaw08.LevelFars': WHATEVER THE INPUT: true; the input reads as it did. -/
def levelFarsSpec : ChangeSpec := { name := "levelFars", fn := fun _ => fun
  | [d1, d2, d3] => { results := [.lit (.bool true)], args := [d1, d2, d3] }
  | _ => none }
def levelFarsRow : OpenClaim := { program := "ytbolpjahmmjllaa", sum := "6b15b74490cf92fd3c7a926611d25964cfa222eb0523b859378f796e183ab739", func := "ebbtide/ebbtidelaw08.LevelFars", spec := "levelFars", unfollowed := true, recurses := true, apart := false }
def LevelFarsSaid : Prop := levelFarsRow.holds Try.pinned (OpenSpec.ofChange levelFarsSpec)

/-- ITS FALSE NEIGHBOUR: 'it returns false'. Refute it at one input. -/
def levelFarsWrong : ChangeSpec := { name := "levelFars", fn := fun _ => fun
  | [d1, d2, d3] => { results := [.lit (.bool false)], args := [d1, d2, d3] }
  | _ => none }
def LevelFarsWrongFalsely : Prop := levelFarsRow.holds Try.pinned (OpenSpec.ofChange levelFarsWrong)

/-- 'ebbtidelaw08.LevelPaths': WHATEVER THE INPUT: true; the input reads as it did. -/
def levelPathsSpec : ChangeSpec := { name := "levelPaths", fn := fun _ => fun
  | [d1, d2, d3, d4] => { results := [.lit (.bool true)], args := [d1, d2, d3, d4] }
  | _ => none }
def levelPathsRow : OpenClaim := { program := "ytbolpjahmmjllaa", sum := "6b15b74490cf92fd3c7a926611d25964cfa222eb0523b859378f796e183ab739", func := "ebbtide/ebbtidelaw08.LevelPaths", spec := "levelPaths", unfollowed := true, recurses := true, apart := false }
def LevelPathsSaid : Prop := levelPathsRow.holds Try.pinned (OpenSpec.ofChange levelPathsSpec)

/-- ITS FALSE NEIGHBOUR: 'it returns false'. Refute it at one input. -/
def levelPathsWrong : ChangeSpec := { name := "levelPaths", fn := fun _ => fun
  | [d1, d2, d3, d4] => { results := [.lit (.bool false)], args := [d1, d2, d3, d4] }
  | _ => none }
def LevelPathsWrongFalsely : Prop := levelPathsRow.holds Try.pinned (OpenSpec.ofChange levelPathsWrong)

/-- 'ebbtidelaw08.LevelWays': WHATEVER THE INPUT: true; the input reads as it did. -/
def levelWaysSpec : ChangeSpec := { name := "levelWays", fn := fun _ => fun
  | [d1, d2, d3, d4] => { results := [.lit (.bool true)], args := [d1, d2, d3, d4] }
  | _ => none }
def levelWaysRow : OpenClaim := { program := "ytbolpjahmmjllaa", sum := "6b15b74490cf92fd3c7a926611d25964cfa222eb0523b859378f796e183ab739", func := "ebbtide/ebbtidelaw08.LevelWays", spec := "levelWays", unfollowed := true, recurses := true, apart := false }
def LevelWaysSaid : Prop := levelWaysRow.holds Try.pinned (OpenSpec.ofChange levelWaysSpec)

/-- ITS FALSE NEIGHBOUR: 'it returns false'. Refute it at one input. -/
def levelWaysWrong : ChangeSpec := { name := "levelWays", fn := fun _ => fun
  | [d1, d2, d3, d4] => { results := [.lit (.bool false)], args := [d1, d2, d3, d4] }
  | _ => none }
def LevelWaysWrongFalsely : Prop := levelWaysRow.holds Try.pinned (OpenSpec.ofChange levelWaysWrong)

/-- 'ebbtidelaw08.LevelEdges': WHATEVER THE INPUT: true; the input reads as it did. -/
def levelEdgesSpec : ChangeSpec := { name := "levelEdges", fn := fun _ => fun
  | [d1, d2, d3] => { results := [.lit (.bool true)], args := [d1, d2, d3] }
  | _ => none }
def levelEdgesRow : OpenClaim := { program := "ytbolpjahmmjllaa", sum := "6b15b74490cf92fd3c7a926611d25964cfa222eb0523b859378f796e183ab739", func := "ebbtide/ebbtidelaw08.LevelEdges", spec := "levelEdges", unfollowed := true, recurses := true, apart := false }
def LevelEdgesSaid : Prop := levelEdgesRow.holds Try.pinned (OpenSpec.ofChange levelEdgesSpec)

/-- ITS FALSE NEIGHBOUR: 'it returns false'. Refute it at one input. -/
def levelEdgesWrong : ChangeSpec := { name := "levelEdges", fn := fun _ => fun
  | [d1, d2, d3] => { results := [.lit (.bool false)], args := [d1, d2, d3] }
  | _ => none }
def LevelEdgesWrongFalsely : Prop := levelEdgesRow.holds Try.pinned (OpenSpec.ofChange levelEdgesWrong)

/-- 'ebbtidelaw08.LevelMore': WHATEVER THE INPUT: true; the input reads as it did. -/
def levelMoreSpec : ChangeSpec := { name := "levelMore", fn := fun _ => fun
  | [d1, d2, d3, d4] => { results := [.lit (.bool true)], args := [d1, d2, d3, d4] }
  | _ => none }
def levelMoreRow : OpenClaim := { program := "ytbolpjahmmjllaa", sum := "6b15b74490cf92fd3c7a926611d25964cfa222eb0523b859378f796e183ab739", func := "ebbtide/ebbtidelaw08.LevelMore", spec := "levelMore", unfollowed := true, recurses := true, apart := false }
def LevelMoreSaid : Prop := levelMoreRow.holds Try.pinned (OpenSpec.ofChange levelMoreSpec)

/-- ITS FALSE NEIGHBOUR: 'it returns false'. Refute it at one input. -/
def levelMoreWrong : ChangeSpec := { name := "levelMore", fn := fun _ => fun
  | [d1, d2, d3, d4] => { results := [.lit (.bool false)], args := [d1, d2, d3, d4] }
  | _ => none }
def LevelMoreWrongFalsely : Prop := levelMoreRow.holds Try.pinned (OpenSpec.ofChange levelMoreWrong)

/- THE SECOND FORM. 'bulk': how many values and letters a reading holds, each counted each time it is reached (what is shared counts as often as it is met; a slice's spare places count too). A statement '..UptoSaid' is the law's where the arguments, and the package variables that the reading takes, are together of bulk at most 1048576: NARROWER than '..Said'. Prove '..Said' where nothing that the law and all that it calls make is longer than what came in: it says more and counts as full. Else prove '..UptoSaid'. A law counts once. -/
mutual
def uptoBulk {H : Type} : DataW H → Nat
  | .lit (.string bytes) => bytes.length + 1
  | .lit _ => 1
  | .nil => 1
  | .ptr d => uptoBulk d + 1
  | .slice elems spare => uptoBulkAll elems + uptoBulkAll spare + 1
  | .agg parts => uptoBulkAll parts + 1
  | .iface _ d => uptoBulk d + 1
  | .map entries => uptoBulkEntries entries + 1
  | .held _ => 1
def uptoBulkAll {H : Type} : List (DataW H) → Nat
  | [] => 0
  | d :: r => uptoBulk d + uptoBulkAll r
def uptoBulkEntries {H : Type} : List (Lit × DataW H) → Nat
  | [] => 0
  | x :: r => uptoBulkEntry x + uptoBulkEntries r
def uptoBulkEntry {H : Type} : Lit × DataW H → Nat
  | (.string bytes, d) => bytes.length + uptoBulk d + 1
  | (_, d) => uptoBulk d + 1
 end
def uptoSmall : (H : Type) → List (DataW H) → Bool := fun _ ds => decide (uptoBulkAll ds ≤ 1048576)
def OpenSpec.upto (s : _root_.Go.ChangeSpec) : _root_.Go.OpenSpec := { _root_.Go.OpenSpec.ofChange s with cond := some uptoSmall }

/-- 'ebbtidelaw08.LevelFars', WHERE WHAT IT READS IS OF BULK AT MOST 1048576: true; the input reads as it did. -/
def levelFarsUptoRow : OpenClaim := { program := "ytbolpjahmmjllaa", sum := "6b15b74490cf92fd3c7a926611d25964cfa222eb0523b859378f796e183ab739", func := "ebbtide/ebbtidelaw08.LevelFars", spec := "levelFars", unfollowed := true, recurses := true, apart := false, narrowed := true }
def LevelFarsUptoSaid : Prop := levelFarsUptoRow.holds Try.pinned (OpenSpec.upto levelFarsSpec)

/-- 'ebbtidelaw08.LevelPaths', WHERE WHAT IT READS IS OF BULK AT MOST 1048576: true; the input reads as it did. -/
def levelPathsUptoRow : OpenClaim := { program := "ytbolpjahmmjllaa", sum := "6b15b74490cf92fd3c7a926611d25964cfa222eb0523b859378f796e183ab739", func := "ebbtide/ebbtidelaw08.LevelPaths", spec := "levelPaths", unfollowed := true, recurses := true, apart := false, narrowed := true }
def LevelPathsUptoSaid : Prop := levelPathsUptoRow.holds Try.pinned (OpenSpec.upto levelPathsSpec)

/-- 'ebbtidelaw08.LevelWays', WHERE WHAT IT READS IS OF BULK AT MOST 1048576: true; the input reads as it did. -/
def levelWaysUptoRow : OpenClaim := { program := "ytbolpjahmmjllaa", sum := "6b15b74490cf92fd3c7a926611d25964cfa222eb0523b859378f796e183ab739", func := "ebbtide/ebbtidelaw08.LevelWays", spec := "levelWays", unfollowed := true, recurses := true, apart := false, narrowed := true }
def LevelWaysUptoSaid : Prop := levelWaysUptoRow.holds Try.pinned (OpenSpec.upto levelWaysSpec)

/-- 'ebbtidelaw08.LevelEdges', WHERE WHAT IT READS IS OF BULK AT MOST 1048576: true; the input reads as it did. -/
def levelEdgesUptoRow : OpenClaim := { program := "ytbolpjahmmjllaa", sum := "6b15b74490cf92fd3c7a926611d25964cfa222eb0523b859378f796e183ab739", func := "ebbtide/ebbtidelaw08.LevelEdges", spec := "levelEdges", unfollowed := true, recurses := true, apart := false, narrowed := true }
def LevelEdgesUptoSaid : Prop := levelEdgesUptoRow.holds Try.pinned (OpenSpec.upto levelEdgesSpec)

/-- 'ebbtidelaw08.LevelMore', WHERE WHAT IT READS IS OF BULK AT MOST 1048576: true; the input reads as it did. -/
def levelMoreUptoRow : OpenClaim := { program := "ytbolpjahmmjllaa", sum := "6b15b74490cf92fd3c7a926611d25964cfa222eb0523b859378f796e183ab739", func := "ebbtide/ebbtidelaw08.LevelMore", spec := "levelMore", unfollowed := true, recurses := true, apart := false, narrowed := true }
def LevelMoreUptoSaid : Prop := levelMoreUptoRow.holds Try.pinned (OpenSpec.upto levelMoreSpec)

end Rows
end Go.Proofs.Ytbolpjahmmjllaa
