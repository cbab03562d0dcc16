/-
  No cell of these rows narrows 'for every input' (looked for: loops, veiled, ifaces, maps, wideKeys, modest, calm, conditions, laid).
  DERIVED. THE GIVEN ROWS OF THIS SEAT. 5 by the template 'for every input the law returns true; each argument reads behind the call as it read before'; 0 by the template 'total and deterministic' (their statements: YtmflleifglefiaaTotals.lean).
  GIVEN WITH THE SEED: the statements are not yours to turn. If you find one false, say at which input.
  Laid BY PROGRAM, IN A SANDBOX (cutbox-rows.mjs): the forced cells as the released guide's own fill.sh prints them over the translation 81ecc79567ba892f… (all of the seat's roots in one cut). By AI agents, Wed Nov 11 2026. No macro, syntax, notation, axiom, sorry.
-/
import Derived.Test.YtmflleifglefiaaChecked
import GoSem.Claim
import GoSem.ClaimJoined
import GoSem.ClaimMapViews
import Derived.JoinedTies
import Derived.KernelRfl
namespace Go.Proofs.Ytmflleifglefiaa
/- THE CELL 'sum', in the pinned program and in every row, IS THE sha256 OF THE DUMP (.gsa) THAT YtmflleifglefiaaProg.lean LOADS. Nothing in Lean hashes anything: it is a label: what it is worth is what the hold of that sum in a sandbox is worth. -/
noncomputable def Try.pinned : Pinned := { name := "ytmflleifglefiaa", sum := "81ecc79567ba892fba5743532253be8b2ecaa18f37f56a714603d1248b988457", checked := Try.checked }
namespace Rows
def none {H : Type} : Left H := { results := [], args := [] }

/-- 'ebbtidelaw13.DecompSplits': WHATEVER THE INPUT: true; the input reads as it did. -/
def decompSplitsSpec : ChangeSpec := { name := "decompSplits", fn := fun _ => fun
  | [d1, d2, d3, d4] => { results := [.lit (.bool true)], args := [d1, d2, d3, d4] }
  | _ => none }
def decompSplitsRow : OpenClaim := { program := "ytmflleifglefiaa", sum := "81ecc79567ba892fba5743532253be8b2ecaa18f37f56a714603d1248b988457", func := "ebbtide/ebbtidelaw13.DecompSplits", spec := "decompSplits", unfollowed := true, recurses := true, apart := false }
def DecompSplitsSaid : Prop := decompSplitsRow.holds Try.pinned (OpenSpec.ofChange decompSplitsSpec)

/-- ITS FALSE NEIGHBOUR: 'it returns false'. Refute it at one input. -/
def decompSplitsWrong : ChangeSpec := { name := "decompSplits", fn := fun _ => fun
  | [d1, d2, d3, d4] => { results := [.lit (.bool false)], args := [d1, d2, d3, d4] }
  | _ => none }
def DecompSplitsWrongFalsely : Prop := decompSplitsRow.holds Try.pinned (OpenSpec.ofChange decompSplitsWrong)

/-- 'ebbtidelaw13.DecompFlows': WHATEVER THE INPUT: true; the input reads as it did. -/
def decompFlowsSpec : ChangeSpec := { name := "decompFlows", fn := fun _ => fun
  | [d1, d2, d3, d4] => { results := [.lit (.bool true)], args := [d1, d2, d3, d4] }
  | _ => none }
def decompFlowsRow : OpenClaim := { program := "ytmflleifglefiaa", sum := "81ecc79567ba892fba5743532253be8b2ecaa18f37f56a714603d1248b988457", func := "ebbtide/ebbtidelaw13.DecompFlows", spec := "decompFlows", unfollowed := true, recurses := true, apart := false }
def DecompFlowsSaid : Prop := decompFlowsRow.holds Try.pinned (OpenSpec.ofChange decompFlowsSpec)

/-- ITS FALSE NEIGHBOUR: 'it returns false'. Refute it at one input. -/
def decompFlowsWrong : ChangeSpec := { name := "decompFlows", fn := fun _ => fun
  | [d1, d2, d3, d4] => { results := [.lit (.bool false)], args := [d1, d2, d3, d4] }
  | _ => none }
def DecompFlowsWrongFalsely : Prop := decompFlowsRow.holds Try.pinned (OpenSpec.ofChange decompFlowsWrong)

/-- 'ebbtidelaw13.DecompLengths': WHATEVER THE INPUT: true; the input reads as it did. -/
def decompLengthsSpec : ChangeSpec := { name := "decompLengths", fn := fun _ => fun
  | [d1, d2] => { results := [.lit (.bool true)], args := [d1, d2] }
  | _ => none }
def decompLengthsRow : OpenClaim := { program := "ytmflleifglefiaa", sum := "81ecc79567ba892fba5743532253be8b2ecaa18f37f56a714603d1248b988457", func := "ebbtide/ebbtidelaw13.DecompLengths", spec := "decompLengths", unfollowed := true, recurses := true, apart := false }
def DecompLengthsSaid : Prop := decompLengthsRow.holds Try.pinned (OpenSpec.ofChange decompLengthsSpec)

/-- ITS FALSE NEIGHBOUR: 'it returns false'. Refute it at one input. -/
def decompLengthsWrong : ChangeSpec := { name := "decompLengths", fn := fun _ => fun
  | [d1, d2] => { results := [.lit (.bool false)], args := [d1, d2] }
  | _ => none }
def DecompLengthsWrongFalsely : Prop := decompLengthsRow.holds Try.pinned (OpenSpec.ofChange decompLengthsWrong)

/-- 'ebbtidelaw13.DecompWhole': WHATEVER THE INPUT: true; the input reads as it did. -/
def decompWholeSpec : ChangeSpec := { name := "decompWhole", fn := fun _ => fun
  | [d1, d2, d3, d4] => { results := [.lit (.bool true)], args := [d1, d2, d3, d4] }
  | _ => none }
def decompWholeRow : OpenClaim := { program := "ytmflleifglefiaa", sum := "81ecc79567ba892fba5743532253be8b2ecaa18f37f56a714603d1248b988457", func := "ebbtide/ebbtidelaw13.DecompWhole", spec := "decompWhole", unfollowed := true, recurses := true, apart := false }
def DecompWholeSaid : Prop := decompWholeRow.holds Try.pinned (OpenSpec.ofChange decompWholeSpec)

/-- ITS FALSE NEIGHBOUR: 'it returns false'. Refute it at one input. -/
def decompWholeWrong : ChangeSpec := { name := "decompWhole", fn := fun _ => fun
  | [d1, d2, d3, d4] => { results := [.lit (.bool false)], args := [d1, d2, d3, d4] }
  | _ => none }
def DecompWholeWrongFalsely : Prop := decompWholeRow.holds Try.pinned (OpenSpec.ofChange decompWholeWrong)

/-- 'ebbtidelaw13.DecompClean': WHATEVER THE INPUT: true; the input reads as it did. -/
def decompCleanSpec : ChangeSpec := { name := "decompClean", fn := fun _ => fun
  | [d1, d2, d3, d4] => { results := [.lit (.bool true)], args := [d1, d2, d3, d4] }
  | _ => none }
def decompCleanRow : OpenClaim := { program := "ytmflleifglefiaa", sum := "81ecc79567ba892fba5743532253be8b2ecaa18f37f56a714603d1248b988457", func := "ebbtide/ebbtidelaw13.DecompClean", spec := "decompClean", unfollowed := true, recurses := true, apart := false }
def DecompCleanSaid : Prop := decompCleanRow.holds Try.pinned (OpenSpec.ofChange decompCleanSpec)

/-- ITS FALSE NEIGHBOUR: 'it returns false'. Refute it at one input. -/
def decompCleanWrong : ChangeSpec := { name := "decompClean", fn := fun _ => fun
  | [d1, d2, d3, d4] => { results := [.lit (.bool false)], args := [d1, d2, d3, d4] }
  | _ => none }
def DecompCleanWrongFalsely : Prop := decompCleanRow.holds Try.pinned (OpenSpec.ofChange decompCleanWrong)

/- THE SECOND FORM. 'bulk': how many values and letters a reading holds, each counted each time it is reached (what is shared counts as often as it is met; a slice's spare places count too). A statement '..UptoSaid' is the law's where the arguments, and the package variables that the reading takes, are together of bulk at most 1048576: NARROWER than '..Said'. Prove '..Said' where nothing that the law and all that it calls make is longer than what came in: it says more and counts as full. Else prove '..UptoSaid'. A law counts once. -/
mutual
def uptoBulk {H : Type} : DataW H → Nat
  | .lit (.string bytes) => bytes.length + 1
  | .lit _ => 1
  | .nil => 1
  | .ptr d => uptoBulk d + 1
  | .slice elems spare => uptoBulkAll elems + uptoBulkAll spare + 1
  | .agg parts => uptoBulkAll parts + 1
  | .iface _ d => uptoBulk d + 1
  | .map entries => uptoBulkEntries entries + 1
  | .held _ => 1
def uptoBulkAll {H : Type} : List (DataW H) → Nat
  | [] => 0
  | d :: r => uptoBulk d + uptoBulkAll r
def uptoBulkEntries {H : Type} : List (Lit × DataW H) → Nat
  | [] => 0
  | x :: r => uptoBulkEntry x + uptoBulkEntries r
def uptoBulkEntry {H : Type} : Lit × DataW H → Nat
  | (.string bytes, d) => bytes.length + uptoBulk d + 1
  | (_, d) => uptoBulk d + 1
 end
def uptoSmall : (H : Type) → List (DataW H) → Bool := fun _ ds => decide (uptoBulkAll ds ≤ 1048576)
def OpenSpec.upto (s : _root_.Go.ChangeSpec) : _root_.Go.OpenSpec := { _root_.Go.OpenSpec.ofChange s with cond := some uptoSmall }

/-- 'ebbtidelaw13.DecompSplits', WHERE WHAT IT READS IS OF BULK AT MOST 1048576: true; the input reads as it did. -/
def decompSplitsUptoRow : OpenClaim := { program := "ytmflleifglefiaa", sum := "81ecc79567ba892fba5743532253be8b2ecaa18f37f56a714603d1248b988457", func := "ebbtide/ebbtidelaw13.DecompSplits", spec := "decompSplits", unfollowed := true, recurses := true, apart := false, narrowed := true }
def DecompSplitsUptoSaid : Prop := decompSplitsUptoRow.holds Try.pinned (OpenSpec.upto decompSplitsSpec)

/-- 'ebbtidelaw13.DecompFlows', WHERE WHAT IT READS IS OF BULK AT MOST 1048576: true; the input reads as it did. -/
def decompFlowsUptoRow : OpenClaim := { program := "ytmflleifglefiaa", sum := "81ecc79567ba892fba5743532253be8b2ecaa18f37f56a714603d1248b988457", func := "ebbtide/ebbtidelaw13.DecompFlows", spec := "decompFlows", unfollowed := true, recurses := true, apart := false, narrowed := true }
def DecompFlowsUptoSaid : Prop := decompFlowsUptoRow.holds Try.pinned (OpenSpec.upto decompFlowsSpec)

/-- 'ebbtidelaw13.DecompLengths', WHERE WHAT IT READS IS OF BULK AT MOST 1048576: true; the input reads as it did. -/
def decompLengthsUptoRow : OpenClaim := { program := "ytmflleifglefiaa", sum := "81ecc79567ba892fba5743532253be8b2ecaa18f37f56a714603d1248b988457", func := "ebbtide/ebbtidelaw13.DecompLengths", spec := "decompLengths", unfollowed := true, recurses := true, apart := false, narrowed := true }
def DecompLengthsUptoSaid : Prop := decompLengthsUptoRow.holds Try.pinned (OpenSpec.upto decompLengthsSpec)

/-- 'ebbtidelaw13.DecompWhole', WHERE WHAT IT READS IS OF BULK AT MOST 1048576: true; the input reads as it did. -/
def decompWholeUptoRow : OpenClaim := { program := "ytmflleifglefiaa", sum := "81ecc79567ba892fba5743532253be8b2ecaa18f37f56a714603d1248b988457", func := "ebbtide/ebbtidelaw13.DecompWhole", spec := "decompWhole", unfollowed := true, recurses := true, apart := false, narrowed := true }
def DecompWholeUptoSaid : Prop := decompWholeUptoRow.holds Try.pinned (OpenSpec.upto decompWholeSpec)

/-- 'ebbtidelaw13.DecompClean', WHERE WHAT IT READS IS OF BULK AT MOST 1048576: true; the input reads as it did. -/
def decompCleanUptoRow : OpenClaim := { program := "ytmflleifglefiaa", sum := "81ecc79567ba892fba5743532253be8b2ecaa18f37f56a714603d1248b988457", func := "ebbtide/ebbtidelaw13.DecompClean", spec := "decompClean", unfollowed := true, recurses := true, apart := false, narrowed := true }
def DecompCleanUptoSaid : Prop := decompCleanUptoRow.holds Try.pinned (OpenSpec.upto decompCleanSpec)

end Rows
end Go.Proofs.Ytmflleifglefiaa
