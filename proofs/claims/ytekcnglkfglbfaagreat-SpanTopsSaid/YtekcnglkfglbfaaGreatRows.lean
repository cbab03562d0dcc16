/-
  No cell of these rows narrows 'for every input' (looked for: loops, veiled, ifaces, maps, wideKeys, modest, calm, conditions, laid).
  DERIVED. THE GIVEN ROWS OF THIS SEAT. 3 by the template 'for every input the law returns true; each argument reads behind the call as it read before'; 0 by the template 'total and deterministic' (their statements: YtekcnglkfglbfaaGreatTotals.lean).
  GIVEN WITH THE SEED: the statements are not yours to turn. If you find one false, say at which input.
  Laid BY PROGRAM, IN A SANDBOX (cutbox-rows.mjs): the forced cells as the released guide's own fill.sh prints them over the translation e3a84e7bf7eb2f37… (all of the seat's roots in one cut). By AI agents, Wed Nov 11 2026. No macro, syntax, notation, axiom, sorry.
-/
import Derived.Test.YtekcnglkfglbfaaGreatChecked
import GoSem.Claim
import GoSem.ClaimJoined
import GoSem.ClaimMapViews
import Derived.JoinedTies
import Derived.KernelRfl
namespace Go.Proofs.YtekcnglkfglbfaaGreat
/- THE CELL 'sum', in the pinned program and in every row, IS THE sha256 OF THE DUMP (.gsa) THAT YtekcnglkfglbfaaGreatProg.lean LOADS. Nothing in Lean hashes anything: it is a label: what it is worth is what the hold of that sum in a sandbox is worth. -/
noncomputable def Tryz.pinned : Pinned := { name := "ytekcnglkfglbfaagreat", sum := "e3a84e7bf7eb2f37ed4bdec361de3ac929588fa1dba3d18b6d73f9d85c2f240f", checked := Tryz.checked }
namespace Rows
def none {H : Type} : Left H := { results := [], args := [] }

/-- 'ebbtidelaw12.SpanMost': WHATEVER THE INPUT: true; the input reads as it did. -/
def spanMostSpec : ChangeSpec := { name := "spanMost", fn := fun _ => fun
  | [d1, d2, d3, d4] => { results := [.lit (.bool true)], args := [d1, d2, d3, d4] }
  | _ => none }
def spanMostRow : OpenClaim := { program := "ytekcnglkfglbfaagreat", sum := "e3a84e7bf7eb2f37ed4bdec361de3ac929588fa1dba3d18b6d73f9d85c2f240f", func := "ebbtide/ebbtidelaw12.SpanMost", spec := "spanMost", unfollowed := true, recurses := true, apart := false }
def SpanMostSaid : Prop := spanMostRow.holds Tryz.pinned (OpenSpec.ofChange spanMostSpec)

/-- ITS FALSE NEIGHBOUR: 'it returns false'. Refute it at one input. -/
def spanMostWrong : ChangeSpec := { name := "spanMost", fn := fun _ => fun
  | [d1, d2, d3, d4] => { results := [.lit (.bool false)], args := [d1, d2, d3, d4] }
  | _ => none }
def SpanMostWrongFalsely : Prop := spanMostRow.holds Tryz.pinned (OpenSpec.ofChange spanMostWrong)

/-- 'ebbtidelaw12.SpanBest': WHATEVER THE INPUT: true; the input reads as it did. -/
def spanBestSpec : ChangeSpec := { name := "spanBest", fn := fun _ => fun
  | [d1, d2, d3, d4] => { results := [.lit (.bool true)], args := [d1, d2, d3, d4] }
  | _ => none }
def spanBestRow : OpenClaim := { program := "ytekcnglkfglbfaagreat", sum := "e3a84e7bf7eb2f37ed4bdec361de3ac929588fa1dba3d18b6d73f9d85c2f240f", func := "ebbtide/ebbtidelaw12.SpanBest", spec := "spanBest", unfollowed := true, recurses := true, apart := false }
def SpanBestSaid : Prop := spanBestRow.holds Tryz.pinned (OpenSpec.ofChange spanBestSpec)

/-- ITS FALSE NEIGHBOUR: 'it returns false'. Refute it at one input. -/
def spanBestWrong : ChangeSpec := { name := "spanBest", fn := fun _ => fun
  | [d1, d2, d3, d4] => { results := [.lit (.bool false)], args := [d1, d2, d3, d4] }
  | _ => none }
def SpanBestWrongFalsely : Prop := spanBestRow.holds Tryz.pinned (OpenSpec.ofChange spanBestWrong)

/-- 'ebbtidelaw12.SpanTops': WHATEVER THE INPUT: true; the input reads as it did. -/
def spanTopsSpec : ChangeSpec := { name := "spanTops", fn := fun _ => fun
  | [d1, d2, d3, d4, d5] => { results := [.lit (.bool true)], args := [d1, d2, d3, d4, d5] }
  | _ => none }
def spanTopsRow : OpenClaim := { program := "ytekcnglkfglbfaagreat", sum := "e3a84e7bf7eb2f37ed4bdec361de3ac929588fa1dba3d18b6d73f9d85c2f240f", func := "ebbtide/ebbtidelaw12.SpanTops", spec := "spanTops", unfollowed := true, recurses := true, apart := false }
def SpanTopsSaid : Prop := spanTopsRow.holds Tryz.pinned (OpenSpec.ofChange spanTopsSpec)

/-- ITS FALSE NEIGHBOUR: 'it returns false'. Refute it at one input. -/
def spanTopsWrong : ChangeSpec := { name := "spanTops", fn := fun _ => fun
  | [d1, d2, d3, d4, d5] => { results := [.lit (.bool false)], args := [d1, d2, d3, d4, d5] }
  | _ => none }
def SpanTopsWrongFalsely : Prop := spanTopsRow.holds Tryz.pinned (OpenSpec.ofChange spanTopsWrong)

/- THE SECOND FORM. 'bulk': how many values and letters a reading holds, each counted each time it is reached (what is shared counts as often as it is met; a slice's spare places count too). A statement '..UptoSaid' is the law's where the arguments, and the package variables that the reading takes, are together of bulk at most 1048576: NARROWER than '..Said'. Prove '..Said' where nothing that the law and all that it calls make is longer than what came in: it says more and counts as full. Else prove '..UptoSaid'. A law counts once. -/
mutual
def uptoBulk {H : Type} : DataW H → Nat
  | .lit (.string bytes) => bytes.length + 1
  | .lit _ => 1
  | .nil => 1
  | .ptr d => uptoBulk d + 1
  | .slice elems spare => uptoBulkAll elems + uptoBulkAll spare + 1
  | .agg parts => uptoBulkAll parts + 1
  | .iface _ d => uptoBulk d + 1
  | .map entries => uptoBulkEntries entries + 1
  | .held _ => 1
def uptoBulkAll {H : Type} : List (DataW H) → Nat
  | [] => 0
  | d :: r => uptoBulk d + uptoBulkAll r
def uptoBulkEntries {H : Type} : List (Lit × DataW H) → Nat
  | [] => 0
  | x :: r => uptoBulkEntry x + uptoBulkEntries r
def uptoBulkEntry {H : Type} : Lit × DataW H → Nat
  | (.string bytes, d) => bytes.length + uptoBulk d + 1
  | (_, d) => uptoBulk d + 1
 end
def uptoSmall : (H : Type) → List (DataW H) → Bool := fun _ ds => decide (uptoBulkAll ds ≤ 1048576)
def OpenSpec.upto (s : _root_.Go.ChangeSpec) : _root_.Go.OpenSpec := { _root_.Go.OpenSpec.ofChange s with cond := some uptoSmall }

/-- 'ebbtidelaw12.SpanMost', WHERE WHAT IT READS IS OF BULK AT MOST 1048576: true; the input reads as it did. -/
def spanMostUptoRow : OpenClaim := { program := "ytekcnglkfglbfaagreat", sum := "e3a84e7bf7eb2f37ed4bdec361de3ac929588fa1dba3d18b6d73f9d85c2f240f", func := "ebbtide/ebbtidelaw12.SpanMost", spec := "spanMost", unfollowed := true, recurses := true, apart := false, narrowed := true }
def SpanMostUptoSaid : Prop := spanMostUptoRow.holds Tryz.pinned (OpenSpec.upto spanMostSpec)

/-- 'ebbtidelaw12.SpanBest', WHERE WHAT IT READS IS OF BULK AT MOST 1048576: true; the input reads as it did. -/
def spanBestUptoRow : OpenClaim := { program := "ytekcnglkfglbfaagreat", sum := "e3a84e7bf7eb2f37ed4bdec361de3ac929588fa1dba3d18b6d73f9d85c2f240f", func := "ebbtide/ebbtidelaw12.SpanBest", spec := "spanBest", unfollowed := true, recurses := true, apart := false, narrowed := true }
def SpanBestUptoSaid : Prop := spanBestUptoRow.holds Tryz.pinned (OpenSpec.upto spanBestSpec)

/-- 'ebbtidelaw12.SpanTops', WHERE WHAT IT READS IS OF BULK AT MOST 1048576: true; the input reads as it did. -/
def spanTopsUptoRow : OpenClaim := { program := "ytekcnglkfglbfaagreat", sum := "e3a84e7bf7eb2f37ed4bdec361de3ac929588fa1dba3d18b6d73f9d85c2f240f", func := "ebbtide/ebbtidelaw12.SpanTops", spec := "spanTops", unfollowed := true, recurses := true, apart := false, narrowed := true }
def SpanTopsUptoSaid : Prop := spanTopsUptoRow.holds Tryz.pinned (OpenSpec.upto spanTopsSpec)

end Rows
end Go.Proofs.YtekcnglkfglbfaaGreat
