/-
  No cell of these rows narrows 'for every input' (looked for: loops, veiled, ifaces, maps, wideKeys, modest, calm, conditions, laid).
  DERIVED. THE GIVEN ROWS OF THIS SEAT. 6 by the template 'for every input the law returns true; each argument reads behind the call as it read before'; 0 by the template 'total and deterministic' (their statements: YthmighfbldhifaaTotals.lean).
  GIVEN WITH THE SEED: the statements are not yours to turn. If you find one false, say at which input.
  Laid BY PROGRAM, IN A SANDBOX (cutbox-rows.mjs): the forced cells as the released guide's own fill.sh prints them over the translation 664d14635afaf2f4… (all of the seat's roots in one cut). By AI agents, Wed Nov 11 2026. No macro, syntax, notation, axiom, sorry.
-/
import Derived.Test.YthmighfbldhifaaChecked
import GoSem.Claim
import GoSem.ClaimJoined
import GoSem.ClaimMapViews
import Derived.JoinedTies
import Derived.KernelRfl
namespace Go.Proofs.Ythmighfbldhifaa
/- THE CELL 'sum', in the pinned program and in every row, IS THE sha256 OF THE DUMP (.gsa) THAT YthmighfbldhifaaProg.lean LOADS. Nothing in Lean hashes anything: it is a label: what it is worth is what the hold of that sum in a sandbox is worth. -/
noncomputable def Try.pinned : Pinned := { name := "ythmighfbldhifaa", sum := "664d14635afaf2f496ddcdf0a310024bf2d82eec4341e925ad97df1a4ed1f64d", checked := Try.checked }
namespace Rows
def none {H : Type} : Left H := { results := [], args := [] }

/-- 'ebbtidelaw09.MaxflowValues': WHATEVER THE INPUT: true; the input reads as it did. -/
def maxflowValuesSpec : ChangeSpec := { name := "maxflowValues", fn := fun _ => fun
  | [d1, d2, d3] => { results := [.lit (.bool true)], args := [d1, d2, d3] }
  | _ => none }
def maxflowValuesRow : OpenClaim := { program := "ythmighfbldhifaa", sum := "664d14635afaf2f496ddcdf0a310024bf2d82eec4341e925ad97df1a4ed1f64d", func := "ebbtide/ebbtidelaw09.MaxflowValues", spec := "maxflowValues", unfollowed := true, recurses := true, apart := false }
def MaxflowValuesSaid : Prop := maxflowValuesRow.holds Try.pinned (OpenSpec.ofChange maxflowValuesSpec)

/-- ITS FALSE NEIGHBOUR: 'it returns false'. Refute it at one input. -/
def maxflowValuesWrong : ChangeSpec := { name := "maxflowValues", fn := fun _ => fun
  | [d1, d2, d3] => { results := [.lit (.bool false)], args := [d1, d2, d3] }
  | _ => none }
def MaxflowValuesWrongFalsely : Prop := maxflowValuesRow.holds Try.pinned (OpenSpec.ofChange maxflowValuesWrong)

/-- 'ebbtidelaw09.MaxflowFlows': WHATEVER THE INPUT: true; the input reads as it did. -/
def maxflowFlowsSpec : ChangeSpec := { name := "maxflowFlows", fn := fun _ => fun
  | [d1, d2, d3] => { results := [.lit (.bool true)], args := [d1, d2, d3] }
  | _ => none }
def maxflowFlowsRow : OpenClaim := { program := "ythmighfbldhifaa", sum := "664d14635afaf2f496ddcdf0a310024bf2d82eec4341e925ad97df1a4ed1f64d", func := "ebbtide/ebbtidelaw09.MaxflowFlows", spec := "maxflowFlows", unfollowed := true, recurses := true, apart := false }
def MaxflowFlowsSaid : Prop := maxflowFlowsRow.holds Try.pinned (OpenSpec.ofChange maxflowFlowsSpec)

/-- ITS FALSE NEIGHBOUR: 'it returns false'. Refute it at one input. -/
def maxflowFlowsWrong : ChangeSpec := { name := "maxflowFlows", fn := fun _ => fun
  | [d1, d2, d3] => { results := [.lit (.bool false)], args := [d1, d2, d3] }
  | _ => none }
def MaxflowFlowsWrongFalsely : Prop := maxflowFlowsRow.holds Try.pinned (OpenSpec.ofChange maxflowFlowsWrong)

/-- 'ebbtidelaw09.MaxflowTops': WHATEVER THE INPUT: true; the input reads as it did. -/
def maxflowTopsSpec : ChangeSpec := { name := "maxflowTops", fn := fun _ => fun
  | [d1, d2, d3, d4] => { results := [.lit (.bool true)], args := [d1, d2, d3, d4] }
  | _ => none }
def maxflowTopsRow : OpenClaim := { program := "ythmighfbldhifaa", sum := "664d14635afaf2f496ddcdf0a310024bf2d82eec4341e925ad97df1a4ed1f64d", func := "ebbtide/ebbtidelaw09.MaxflowTops", spec := "maxflowTops", unfollowed := true, recurses := true, apart := false }
def MaxflowTopsSaid : Prop := maxflowTopsRow.holds Try.pinned (OpenSpec.ofChange maxflowTopsSpec)

/-- ITS FALSE NEIGHBOUR: 'it returns false'. Refute it at one input. -/
def maxflowTopsWrong : ChangeSpec := { name := "maxflowTops", fn := fun _ => fun
  | [d1, d2, d3, d4] => { results := [.lit (.bool false)], args := [d1, d2, d3, d4] }
  | _ => none }
def MaxflowTopsWrongFalsely : Prop := maxflowTopsRow.holds Try.pinned (OpenSpec.ofChange maxflowTopsWrong)

/-- 'ebbtidelaw09.MaxflowMore': WHATEVER THE INPUT: true; the input reads as it did. -/
def maxflowMoreSpec : ChangeSpec := { name := "maxflowMore", fn := fun _ => fun
  | [d1, d2, d3, d4] => { results := [.lit (.bool true)], args := [d1, d2, d3, d4] }
  | _ => none }
def maxflowMoreRow : OpenClaim := { program := "ythmighfbldhifaa", sum := "664d14635afaf2f496ddcdf0a310024bf2d82eec4341e925ad97df1a4ed1f64d", func := "ebbtide/ebbtidelaw09.MaxflowMore", spec := "maxflowMore", unfollowed := true, recurses := true, apart := false }
def MaxflowMoreSaid : Prop := maxflowMoreRow.holds Try.pinned (OpenSpec.ofChange maxflowMoreSpec)

/-- ITS FALSE NEIGHBOUR: 'it returns false'. Refute it at one input. -/
def maxflowMoreWrong : ChangeSpec := { name := "maxflowMore", fn := fun _ => fun
  | [d1, d2, d3, d4] => { results := [.lit (.bool false)], args := [d1, d2, d3, d4] }
  | _ => none }
def MaxflowMoreWrongFalsely : Prop := maxflowMoreRow.holds Try.pinned (OpenSpec.ofChange maxflowMoreWrong)

/-- 'ebbtidelaw09.MaxflowParts': WHATEVER THE INPUT: true; the input reads as it did. -/
def maxflowPartsSpec : ChangeSpec := { name := "maxflowParts", fn := fun _ => fun
  | [d1, d2, d3, d4] => { results := [.lit (.bool true)], args := [d1, d2, d3, d4] }
  | _ => none }
def maxflowPartsRow : OpenClaim := { program := "ythmighfbldhifaa", sum := "664d14635afaf2f496ddcdf0a310024bf2d82eec4341e925ad97df1a4ed1f64d", func := "ebbtide/ebbtidelaw09.MaxflowParts", spec := "maxflowParts", unfollowed := true, recurses := true, apart := false }
def MaxflowPartsSaid : Prop := maxflowPartsRow.holds Try.pinned (OpenSpec.ofChange maxflowPartsSpec)

/-- ITS FALSE NEIGHBOUR: 'it returns false'. Refute it at one input. -/
def maxflowPartsWrong : ChangeSpec := { name := "maxflowParts", fn := fun _ => fun
  | [d1, d2, d3, d4] => { results := [.lit (.bool false)], args := [d1, d2, d3, d4] }
  | _ => none }
def MaxflowPartsWrongFalsely : Prop := maxflowPartsRow.holds Try.pinned (OpenSpec.ofChange maxflowPartsWrong)

/-- 'ebbtidelaw09.MaxflowCounts': WHATEVER THE INPUT: true; the input reads as it did. -/
def maxflowCountsSpec : ChangeSpec := { name := "maxflowCounts", fn := fun _ => fun
  | [d1, d2, d3] => { results := [.lit (.bool true)], args := [d1, d2, d3] }
  | _ => none }
def maxflowCountsRow : OpenClaim := { program := "ythmighfbldhifaa", sum := "664d14635afaf2f496ddcdf0a310024bf2d82eec4341e925ad97df1a4ed1f64d", func := "ebbtide/ebbtidelaw09.MaxflowCounts", spec := "maxflowCounts", unfollowed := true, recurses := true, apart := false }
def MaxflowCountsSaid : Prop := maxflowCountsRow.holds Try.pinned (OpenSpec.ofChange maxflowCountsSpec)

/-- ITS FALSE NEIGHBOUR: 'it returns false'. Refute it at one input. -/
def maxflowCountsWrong : ChangeSpec := { name := "maxflowCounts", fn := fun _ => fun
  | [d1, d2, d3] => { results := [.lit (.bool false)], args := [d1, d2, d3] }
  | _ => none }
def MaxflowCountsWrongFalsely : Prop := maxflowCountsRow.holds Try.pinned (OpenSpec.ofChange maxflowCountsWrong)

/- THE SECOND FORM. 'bulk': how many values and letters a reading holds, each counted each time it is reached (what is shared counts as often as it is met; a slice's spare places count too). A statement '..UptoSaid' is the law's where the arguments, and the package variables that the reading takes, are together of bulk at most 1048576: NARROWER than '..Said'. Prove '..Said' where nothing that the law and all that it calls make is longer than what came in: it says more and counts as full. Else prove '..UptoSaid'. A law counts once. -/
mutual
def uptoBulk {H : Type} : DataW H → Nat
  | .lit (.string bytes) => bytes.length + 1
  | .lit _ => 1
  | .nil => 1
  | .ptr d => uptoBulk d + 1
  | .slice elems spare => uptoBulkAll elems + uptoBulkAll spare + 1
  | .agg parts => uptoBulkAll parts + 1
  | .iface _ d => uptoBulk d + 1
  | .map entries => uptoBulkEntries entries + 1
  | .held _ => 1
def uptoBulkAll {H : Type} : List (DataW H) → Nat
  | [] => 0
  | d :: r => uptoBulk d + uptoBulkAll r
def uptoBulkEntries {H : Type} : List (Lit × DataW H) → Nat
  | [] => 0
  | x :: r => uptoBulkEntry x + uptoBulkEntries r
def uptoBulkEntry {H : Type} : Lit × DataW H → Nat
  | (.string bytes, d) => bytes.length + uptoBulk d + 1
  | (_, d) => uptoBulk d + 1
 end
def uptoSmall : (H : Type) → List (DataW H) → Bool := fun _ ds => decide (uptoBulkAll ds ≤ 1048576)
def OpenSpec.upto (s : _root_.Go.ChangeSpec) : _root_.Go.OpenSpec := { _root_.Go.OpenSpec.ofChange s with cond := some uptoSmall }

/-- 'ebbtidelaw09.MaxflowValues', WHERE WHAT IT READS IS OF BULK AT MOST 1048576: true; the input reads as it did. -/
def maxflowValuesUptoRow : OpenClaim := { program := "ythmighfbldhifaa", sum := "664d14635afaf2f496ddcdf0a310024bf2d82eec4341e925ad97df1a4ed1f64d", func := "ebbtide/ebbtidelaw09.MaxflowValues", spec := "maxflowValues", unfollowed := true, recurses := true, apart := false, narrowed := true }
def MaxflowValuesUptoSaid : Prop := maxflowValuesUptoRow.holds Try.pinned (OpenSpec.upto maxflowValuesSpec)

/-- 'ebbtidelaw09.MaxflowFlows', WHERE WHAT IT READS IS OF BULK AT MOST 1048576: true; the input reads as it did. -/
def maxflowFlowsUptoRow : OpenClaim := { program := "ythmighfbldhifaa", sum := "664d14635afaf2f496ddcdf0a310024bf2d82eec4341e925ad97df1a4ed1f64d", func := "ebbtide/ebbtidelaw09.MaxflowFlows", spec := "maxflowFlows", unfollowed := true, recurses := true, apart := false, narrowed := true }
def MaxflowFlowsUptoSaid : Prop := maxflowFlowsUptoRow.holds Try.pinned (OpenSpec.upto maxflowFlowsSpec)

/-- 'ebbtidelaw09.MaxflowTops', WHERE WHAT IT READS IS OF BULK AT MOST 1048576: true; the input reads as it did. -/
def maxflowTopsUptoRow : OpenClaim := { program := "ythmighfbldhifaa", sum := "664d14635afaf2f496ddcdf0a310024bf2d82eec4341e925ad97df1a4ed1f64d", func := "ebbtide/ebbtidelaw09.MaxflowTops", spec := "maxflowTops", unfollowed := true, recurses := true, apart := false, narrowed := true }
def MaxflowTopsUptoSaid : Prop := maxflowTopsUptoRow.holds Try.pinned (OpenSpec.upto maxflowTopsSpec)

/-- 'ebbtidelaw09.MaxflowMore', WHERE WHAT IT READS IS OF BULK AT MOST 1048576: true; the input reads as it did. -/
def maxflowMoreUptoRow : OpenClaim := { program := "ythmighfbldhifaa", sum := "664d14635afaf2f496ddcdf0a310024bf2d82eec4341e925ad97df1a4ed1f64d", func := "ebbtide/ebbtidelaw09.MaxflowMore", spec := "maxflowMore", unfollowed := true, recurses := true, apart := false, narrowed := true }
def MaxflowMoreUptoSaid : Prop := maxflowMoreUptoRow.holds Try.pinned (OpenSpec.upto maxflowMoreSpec)

/-- 'ebbtidelaw09.MaxflowParts', WHERE WHAT IT READS IS OF BULK AT MOST 1048576: true; the input reads as it did. -/
def maxflowPartsUptoRow : OpenClaim := { program := "ythmighfbldhifaa", sum := "664d14635afaf2f496ddcdf0a310024bf2d82eec4341e925ad97df1a4ed1f64d", func := "ebbtide/ebbtidelaw09.MaxflowParts", spec := "maxflowParts", unfollowed := true, recurses := true, apart := false, narrowed := true }
def MaxflowPartsUptoSaid : Prop := maxflowPartsUptoRow.holds Try.pinned (OpenSpec.upto maxflowPartsSpec)

/-- 'ebbtidelaw09.MaxflowCounts', WHERE WHAT IT READS IS OF BULK AT MOST 1048576: true; the input reads as it did. -/
def maxflowCountsUptoRow : OpenClaim := { program := "ythmighfbldhifaa", sum := "664d14635afaf2f496ddcdf0a310024bf2d82eec4341e925ad97df1a4ed1f64d", func := "ebbtide/ebbtidelaw09.MaxflowCounts", spec := "maxflowCounts", unfollowed := true, recurses := true, apart := false, narrowed := true }
def MaxflowCountsUptoSaid : Prop := maxflowCountsUptoRow.holds Try.pinned (OpenSpec.upto maxflowCountsSpec)

end Rows
end Go.Proofs.Ythmighfbldhifaa
