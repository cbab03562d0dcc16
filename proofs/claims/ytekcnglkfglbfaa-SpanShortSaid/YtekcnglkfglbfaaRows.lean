/-
  No cell of these rows narrows 'for every input' (looked for: loops, veiled, ifaces, maps, wideKeys, modest, calm, conditions, laid).
  DERIVED. THE GIVEN ROWS OF THIS SEAT. 4 by the template 'for every input the law returns true; each argument reads behind the call as it read before'; 0 by the template 'total and deterministic' (their statements: YtekcnglkfglbfaaTotals.lean).
  GIVEN WITH THE SEED: the statements are not yours to turn. If you find one false, say at which input.
  Laid BY PROGRAM, IN A SANDBOX (cutbox-rows.mjs): the forced cells as the released guide's own fill.sh prints them over the translation 9d2d9475b421349b… (all of the seat's roots in one cut). By AI agents, Wed Nov 11 2026. No macro, syntax, notation, axiom, sorry.
-/
import Derived.Test.YtekcnglkfglbfaaChecked
import GoSem.Claim
import GoSem.ClaimJoined
import GoSem.ClaimMapViews
import Derived.JoinedTies
import Derived.KernelRfl
namespace Go.Proofs.Ytekcnglkfglbfaa
/- THE CELL 'sum', in the pinned program and in every row, IS THE sha256 OF THE DUMP (.gsa) THAT YtekcnglkfglbfaaProg.lean LOADS. Nothing in Lean hashes anything: it is a label: what it is worth is what the hold of that sum in a sandbox is worth. -/
noncomputable def Try.pinned : Pinned := { name := "ytekcnglkfglbfaa", sum := "9d2d9475b421349be9a63fe463bba8e0c26c6f387df3d343ad46ac4da0f57bc8", checked := Try.checked }
namespace Rows
def none {H : Type} : Left H := { results := [], args := [] }

/-- 'ebbtidelaw12.SpanWorths': WHATEVER THE INPUT: true; the input reads as it did. -/
def spanWorthsSpec : ChangeSpec := { name := "spanWorths", fn := fun _ => fun
  | [d1, d2, d3, d4, d5] => { results := [.lit (.bool true)], args := [d1, d2, d3, d4, d5] }
  | _ => none }
def spanWorthsRow : OpenClaim := { program := "ytekcnglkfglbfaa", sum := "9d2d9475b421349be9a63fe463bba8e0c26c6f387df3d343ad46ac4da0f57bc8", func := "ebbtide/ebbtidelaw12.SpanWorths", spec := "spanWorths", unfollowed := true, recurses := true, apart := false }
def SpanWorthsSaid : Prop := spanWorthsRow.holds Try.pinned (OpenSpec.ofChange spanWorthsSpec)

/-- ITS FALSE NEIGHBOUR: 'it returns false'. Refute it at one input. -/
def spanWorthsWrong : ChangeSpec := { name := "spanWorths", fn := fun _ => fun
  | [d1, d2, d3, d4, d5] => { results := [.lit (.bool false)], args := [d1, d2, d3, d4, d5] }
  | _ => none }
def SpanWorthsWrongFalsely : Prop := spanWorthsRow.holds Try.pinned (OpenSpec.ofChange spanWorthsWrong)

/-- 'ebbtidelaw12.SpanGrows': WHATEVER THE INPUT: true; the input reads as it did. -/
def spanGrowsSpec : ChangeSpec := { name := "spanGrows", fn := fun _ => fun
  | [d] => { results := [.lit (.bool true)], args := [d] }
  | _ => none }
def spanGrowsRow : OpenClaim := { program := "ytekcnglkfglbfaa", sum := "9d2d9475b421349be9a63fe463bba8e0c26c6f387df3d343ad46ac4da0f57bc8", func := "ebbtide/ebbtidelaw12.SpanGrows", spec := "spanGrows", unfollowed := true, recurses := true, apart := false }
def SpanGrowsSaid : Prop := spanGrowsRow.holds Try.pinned (OpenSpec.ofChange spanGrowsSpec)

/-- ITS FALSE NEIGHBOUR: 'it returns false'. Refute it at one input. -/
def spanGrowsWrong : ChangeSpec := { name := "spanGrows", fn := fun _ => fun
  | [d] => { results := [.lit (.bool false)], args := [d] }
  | _ => none }
def SpanGrowsWrongFalsely : Prop := spanGrowsRow.holds Try.pinned (OpenSpec.ofChange spanGrowsWrong)

/-- 'ebbtidelaw12.SpanShort': WHATEVER THE INPUT: true; the input reads as it did. -/
def spanShortSpec : ChangeSpec := { name := "spanShort", fn := fun _ => fun
  | [d] => { results := [.lit (.bool true)], args := [d] }
  | _ => none }
def spanShortRow : OpenClaim := { program := "ytekcnglkfglbfaa", sum := "9d2d9475b421349be9a63fe463bba8e0c26c6f387df3d343ad46ac4da0f57bc8", func := "ebbtide/ebbtidelaw12.SpanShort", spec := "spanShort", unfollowed := true, recurses := true, apart := false }
def SpanShortSaid : Prop := spanShortRow.holds Try.pinned (OpenSpec.ofChange spanShortSpec)

/-- ITS FALSE NEIGHBOUR: 'it returns false'. Refute it at one input. -/
def spanShortWrong : ChangeSpec := { name := "spanShort", fn := fun _ => fun
  | [d] => { results := [.lit (.bool false)], args := [d] }
  | _ => none }
def SpanShortWrongFalsely : Prop := spanShortRow.holds Try.pinned (OpenSpec.ofChange spanShortWrong)

/-- 'ebbtidelaw12.SpanStill': WHATEVER THE INPUT: true; the input reads as it did. -/
def spanStillSpec : ChangeSpec := { name := "spanStill", fn := fun _ => fun
  | [d] => { results := [.lit (.bool true)], args := [d] }
  | _ => none }
def spanStillRow : OpenClaim := { program := "ytekcnglkfglbfaa", sum := "9d2d9475b421349be9a63fe463bba8e0c26c6f387df3d343ad46ac4da0f57bc8", func := "ebbtide/ebbtidelaw12.SpanStill", spec := "spanStill", unfollowed := true, recurses := true, apart := false }
def SpanStillSaid : Prop := spanStillRow.holds Try.pinned (OpenSpec.ofChange spanStillSpec)

/-- ITS FALSE NEIGHBOUR: 'it returns false'. Refute it at one input. -/
def spanStillWrong : ChangeSpec := { name := "spanStill", fn := fun _ => fun
  | [d] => { results := [.lit (.bool false)], args := [d] }
  | _ => none }
def SpanStillWrongFalsely : Prop := spanStillRow.holds Try.pinned (OpenSpec.ofChange spanStillWrong)

/- THE SECOND FORM. 'bulk': how many values and letters a reading holds, each counted each time it is reached (what is shared counts as often as it is met; a slice's spare places count too). A statement '..UptoSaid' is the law's where the arguments, and the package variables that the reading takes, are together of bulk at most 1048576: NARROWER than '..Said'. Prove '..Said' where nothing that the law and all that it calls make is longer than what came in: it says more and counts as full. Else prove '..UptoSaid'. A law counts once. -/
mutual
def uptoBulk {H : Type} : DataW H → Nat
  | .lit (.string bytes) => bytes.length + 1
  | .lit _ => 1
  | .nil => 1
  | .ptr d => uptoBulk d + 1
  | .slice elems spare => uptoBulkAll elems + uptoBulkAll spare + 1
  | .agg parts => uptoBulkAll parts + 1
  | .iface _ d => uptoBulk d + 1
  | .map entries => uptoBulkEntries entries + 1
  | .held _ => 1
def uptoBulkAll {H : Type} : List (DataW H) → Nat
  | [] => 0
  | d :: r => uptoBulk d + uptoBulkAll r
def uptoBulkEntries {H : Type} : List (Lit × DataW H) → Nat
  | [] => 0
  | x :: r => uptoBulkEntry x + uptoBulkEntries r
def uptoBulkEntry {H : Type} : Lit × DataW H → Nat
  | (.string bytes, d) => bytes.length + uptoBulk d + 1
  | (_, d) => uptoBulk d + 1
 end
def uptoSmall : (H : Type) → List (DataW H) → Bool := fun _ ds => decide (uptoBulkAll ds ≤ 1048576)
def OpenSpec.upto (s : _root_.Go.ChangeSpec) : _root_.Go.OpenSpec := { _root_.Go.OpenSpec.ofChange s with cond := some uptoSmall }

/-- 'ebbtidelaw12.SpanWorths', WHERE WHAT IT READS IS OF BULK AT MOST 1048576: true; the input reads as it did. -/
def spanWorthsUptoRow : OpenClaim := { program := "ytekcnglkfglbfaa", sum := "9d2d9475b421349be9a63fe463bba8e0c26c6f387df3d343ad46ac4da0f57bc8", func := "ebbtide/ebbtidelaw12.SpanWorths", spec := "spanWorths", unfollowed := true, recurses := true, apart := false, narrowed := true }
def SpanWorthsUptoSaid : Prop := spanWorthsUptoRow.holds Try.pinned (OpenSpec.upto spanWorthsSpec)

/-- 'ebbtidelaw12.SpanGrows', WHERE WHAT IT READS IS OF BULK AT MOST 1048576: true; the input reads as it did. -/
def spanGrowsUptoRow : OpenClaim := { program := "ytekcnglkfglbfaa", sum := "9d2d9475b421349be9a63fe463bba8e0c26c6f387df3d343ad46ac4da0f57bc8", func := "ebbtide/ebbtidelaw12.SpanGrows", spec := "spanGrows", unfollowed := true, recurses := true, apart := false, narrowed := true }
def SpanGrowsUptoSaid : Prop := spanGrowsUptoRow.holds Try.pinned (OpenSpec.upto spanGrowsSpec)

/-- 'ebbtidelaw12.SpanShort', WHERE WHAT IT READS IS OF BULK AT MOST 1048576: true; the input reads as it did. -/
def spanShortUptoRow : OpenClaim := { program := "ytekcnglkfglbfaa", sum := "9d2d9475b421349be9a63fe463bba8e0c26c6f387df3d343ad46ac4da0f57bc8", func := "ebbtide/ebbtidelaw12.SpanShort", spec := "spanShort", unfollowed := true, recurses := true, apart := false, narrowed := true }
def SpanShortUptoSaid : Prop := spanShortUptoRow.holds Try.pinned (OpenSpec.upto spanShortSpec)

/-- 'ebbtidelaw12.SpanStill', WHERE WHAT IT READS IS OF BULK AT MOST 1048576: true; the input reads as it did. -/
def spanStillUptoRow : OpenClaim := { program := "ytekcnglkfglbfaa", sum := "9d2d9475b421349be9a63fe463bba8e0c26c6f387df3d343ad46ac4da0f57bc8", func := "ebbtide/ebbtidelaw12.SpanStill", spec := "spanStill", unfollowed := true, recurses := true, apart := false, narrowed := true }
def SpanStillUptoSaid : Prop := spanStillUptoRow.holds Try.pinned (OpenSpec.upto spanStillSpec)

end Rows
end Go.Proofs.Ytekcnglkfglbfaa
