/-
  No cell of these rows narrows 'for every input' (looked for: loops, veiled, ifaces, maps, wideKeys, modest, calm, conditions, laid).
  DERIVED. THE GIVEN ROWS OF THIS SEAT. 5 by the template 'for every input the law returns true; each argument reads behind the call as it read before'; 0 by the template 'total and deterministic' (their statements: YtbgnoaijgngifaaTotals.lean).
  GIVEN WITH THE SEED: the statements are not yours to turn. If you find one false, say at which input.
  Laid BY PROGRAM, IN A SANDBOX (cutbox-rows.mjs): the forced cells as the released guide's own fill.sh prints them over the translation 5d75669f45f1c23d… (all of the seat's roots in one cut). By AI agents, Wed Nov 11 2026. No macro, syntax, notation, axiom, sorry.
-/
import Derived.Test.YtbgnoaijgngifaaChecked
import GoSem.Claim
import GoSem.ClaimJoined
import GoSem.ClaimMapViews
import Derived.JoinedTies
import Derived.KernelRfl
namespace Go.Proofs.Ytbgnoaijgngifaa
/- THE CELL 'sum', in the pinned program and in every row, IS THE sha256 OF THE DUMP (.gsa) THAT YtbgnoaijgngifaaProg.lean LOADS. Nothing in Lean hashes anything: it is a label: what it is worth is what the hold of that sum in a sandbox is worth. -/
noncomputable def Try.pinned : Pinned := { name := "ytbgnoaijgngifaa", sum := "5d75669f45f1c23d394d56c65ea56ca987ef8eaaf08fa8d0c0cdcfbcda4883d1", checked := Try.checked }
namespace Rows
def none {H : Type} : Left H := { results := [], args := [] }

/-- 'ebbtidelaw10.MincutSides': WHATEVER THE INPUT: true; the input reads as it did. -/
def mincutSidesSpec : ChangeSpec := { name := "mincutSides", fn := fun _ => fun
  | [d1, d2, d3, d4] => { results := [.lit (.bool true)], args := [d1, d2, d3, d4] }
  | _ => none }
def mincutSidesRow : OpenClaim := { program := "ytbgnoaijgngifaa", sum := "5d75669f45f1c23d394d56c65ea56ca987ef8eaaf08fa8d0c0cdcfbcda4883d1", func := "ebbtide/ebbtidelaw10.MincutSides", spec := "mincutSides", unfollowed := true, recurses := true, apart := false }
def MincutSidesSaid : Prop := mincutSidesRow.holds Try.pinned (OpenSpec.ofChange mincutSidesSpec)

/-- ITS FALSE NEIGHBOUR: 'it returns false'. Refute it at one input. -/
def mincutSidesWrong : ChangeSpec := { name := "mincutSides", fn := fun _ => fun
  | [d1, d2, d3, d4] => { results := [.lit (.bool false)], args := [d1, d2, d3, d4] }
  | _ => none }
def MincutSidesWrongFalsely : Prop := mincutSidesRow.holds Try.pinned (OpenSpec.ofChange mincutSidesWrong)

/-- 'ebbtidelaw10.MincutBounds': WHATEVER THE INPUT: true; the input reads as it did. -/
def mincutBoundsSpec : ChangeSpec := { name := "mincutBounds", fn := fun _ => fun
  | [d1, d2, d3, d4, d5] => { results := [.lit (.bool true)], args := [d1, d2, d3, d4, d5] }
  | _ => none }
def mincutBoundsRow : OpenClaim := { program := "ytbgnoaijgngifaa", sum := "5d75669f45f1c23d394d56c65ea56ca987ef8eaaf08fa8d0c0cdcfbcda4883d1", func := "ebbtide/ebbtidelaw10.MincutBounds", spec := "mincutBounds", unfollowed := true, recurses := true, apart := false }
def MincutBoundsSaid : Prop := mincutBoundsRow.holds Try.pinned (OpenSpec.ofChange mincutBoundsSpec)

/-- ITS FALSE NEIGHBOUR: 'it returns false'. Refute it at one input. -/
def mincutBoundsWrong : ChangeSpec := { name := "mincutBounds", fn := fun _ => fun
  | [d1, d2, d3, d4, d5] => { results := [.lit (.bool false)], args := [d1, d2, d3, d4, d5] }
  | _ => none }
def MincutBoundsWrongFalsely : Prop := mincutBoundsRow.holds Try.pinned (OpenSpec.ofChange mincutBoundsWrong)

/-- 'ebbtidelaw10.MincutMeets': WHATEVER THE INPUT: true; the input reads as it did. -/
def mincutMeetsSpec : ChangeSpec := { name := "mincutMeets", fn := fun _ => fun
  | [d1, d2, d3] => { results := [.lit (.bool true)], args := [d1, d2, d3] }
  | _ => none }
def mincutMeetsRow : OpenClaim := { program := "ytbgnoaijgngifaa", sum := "5d75669f45f1c23d394d56c65ea56ca987ef8eaaf08fa8d0c0cdcfbcda4883d1", func := "ebbtide/ebbtidelaw10.MincutMeets", spec := "mincutMeets", unfollowed := true, recurses := true, apart := false }
def MincutMeetsSaid : Prop := mincutMeetsRow.holds Try.pinned (OpenSpec.ofChange mincutMeetsSpec)

/-- ITS FALSE NEIGHBOUR: 'it returns false'. Refute it at one input. -/
def mincutMeetsWrong : ChangeSpec := { name := "mincutMeets", fn := fun _ => fun
  | [d1, d2, d3] => { results := [.lit (.bool false)], args := [d1, d2, d3] }
  | _ => none }
def MincutMeetsWrongFalsely : Prop := mincutMeetsRow.holds Try.pinned (OpenSpec.ofChange mincutMeetsWrong)

/-- 'ebbtidelaw10.MincutAny': WHATEVER THE INPUT: true; the input reads as it did. -/
def mincutAnySpec : ChangeSpec := { name := "mincutAny", fn := fun _ => fun
  | [d1, d2, d3, d4] => { results := [.lit (.bool true)], args := [d1, d2, d3, d4] }
  | _ => none }
def mincutAnyRow : OpenClaim := { program := "ytbgnoaijgngifaa", sum := "5d75669f45f1c23d394d56c65ea56ca987ef8eaaf08fa8d0c0cdcfbcda4883d1", func := "ebbtide/ebbtidelaw10.MincutAny", spec := "mincutAny", unfollowed := true, recurses := true, apart := false }
def MincutAnySaid : Prop := mincutAnyRow.holds Try.pinned (OpenSpec.ofChange mincutAnySpec)

/-- ITS FALSE NEIGHBOUR: 'it returns false'. Refute it at one input. -/
def mincutAnyWrong : ChangeSpec := { name := "mincutAny", fn := fun _ => fun
  | [d1, d2, d3, d4] => { results := [.lit (.bool false)], args := [d1, d2, d3, d4] }
  | _ => none }
def MincutAnyWrongFalsely : Prop := mincutAnyRow.holds Try.pinned (OpenSpec.ofChange mincutAnyWrong)

/-- 'ebbtidelaw10.MincutSums': WHATEVER THE INPUT: true; the input reads as it did. -/
def mincutSumsSpec : ChangeSpec := { name := "mincutSums", fn := fun _ => fun
  | [d1, d2, d3] => { results := [.lit (.bool true)], args := [d1, d2, d3] }
  | _ => none }
def mincutSumsRow : OpenClaim := { program := "ytbgnoaijgngifaa", sum := "5d75669f45f1c23d394d56c65ea56ca987ef8eaaf08fa8d0c0cdcfbcda4883d1", func := "ebbtide/ebbtidelaw10.MincutSums", spec := "mincutSums", unfollowed := true, recurses := true, apart := false }
def MincutSumsSaid : Prop := mincutSumsRow.holds Try.pinned (OpenSpec.ofChange mincutSumsSpec)

/-- ITS FALSE NEIGHBOUR: 'it returns false'. Refute it at one input. -/
def mincutSumsWrong : ChangeSpec := { name := "mincutSums", fn := fun _ => fun
  | [d1, d2, d3] => { results := [.lit (.bool false)], args := [d1, d2, d3] }
  | _ => none }
def MincutSumsWrongFalsely : Prop := mincutSumsRow.holds Try.pinned (OpenSpec.ofChange mincutSumsWrong)

/- THE SECOND FORM. 'bulk': how many values and letters a reading holds, each counted each time it is reached (what is shared counts as often as it is met; a slice's spare places count too). A statement '..UptoSaid' is the law's where the arguments, and the package variables that the reading takes, are together of bulk at most 1048576: NARROWER than '..Said'. Prove '..Said' where nothing that the law and all that it calls make is longer than what came in: it says more and counts as full. Else prove '..UptoSaid'. A law counts once. -/
mutual
def uptoBulk {H : Type} : DataW H → Nat
  | .lit (.string bytes) => bytes.length + 1
  | .lit _ => 1
  | .nil => 1
  | .ptr d => uptoBulk d + 1
  | .slice elems spare => uptoBulkAll elems + uptoBulkAll spare + 1
  | .agg parts => uptoBulkAll parts + 1
  | .iface _ d => uptoBulk d + 1
  | .map entries => uptoBulkEntries entries + 1
  | .held _ => 1
def uptoBulkAll {H : Type} : List (DataW H) → Nat
  | [] => 0
  | d :: r => uptoBulk d + uptoBulkAll r
def uptoBulkEntries {H : Type} : List (Lit × DataW H) → Nat
  | [] => 0
  | x :: r => uptoBulkEntry x + uptoBulkEntries r
def uptoBulkEntry {H : Type} : Lit × DataW H → Nat
  | (.string bytes, d) => bytes.length + uptoBulk d + 1
  | (_, d) => uptoBulk d + 1
 end
def uptoSmall : (H : Type) → List (DataW H) → Bool := fun _ ds => decide (uptoBulkAll ds ≤ 1048576)
def OpenSpec.upto (s : _root_.Go.ChangeSpec) : _root_.Go.OpenSpec := { _root_.Go.OpenSpec.ofChange s with cond := some uptoSmall }

/-- 'ebbtidelaw10.MincutSides', WHERE WHAT IT READS IS OF BULK AT MOST 1048576: true; the input reads as it did. -/
def mincutSidesUptoRow : OpenClaim := { program := "ytbgnoaijgngifaa", sum := "5d75669f45f1c23d394d56c65ea56ca987ef8eaaf08fa8d0c0cdcfbcda4883d1", func := "ebbtide/ebbtidelaw10.MincutSides", spec := "mincutSides", unfollowed := true, recurses := true, apart := false, narrowed := true }
def MincutSidesUptoSaid : Prop := mincutSidesUptoRow.holds Try.pinned (OpenSpec.upto mincutSidesSpec)

/-- 'ebbtidelaw10.MincutBounds', WHERE WHAT IT READS IS OF BULK AT MOST 1048576: true; the input reads as it did. -/
def mincutBoundsUptoRow : OpenClaim := { program := "ytbgnoaijgngifaa", sum := "5d75669f45f1c23d394d56c65ea56ca987ef8eaaf08fa8d0c0cdcfbcda4883d1", func := "ebbtide/ebbtidelaw10.MincutBounds", spec := "mincutBounds", unfollowed := true, recurses := true, apart := false, narrowed := true }
def MincutBoundsUptoSaid : Prop := mincutBoundsUptoRow.holds Try.pinned (OpenSpec.upto mincutBoundsSpec)

/-- 'ebbtidelaw10.MincutMeets', WHERE WHAT IT READS IS OF BULK AT MOST 1048576: true; the input reads as it did. -/
def mincutMeetsUptoRow : OpenClaim := { program := "ytbgnoaijgngifaa", sum := "5d75669f45f1c23d394d56c65ea56ca987ef8eaaf08fa8d0c0cdcfbcda4883d1", func := "ebbtide/ebbtidelaw10.MincutMeets", spec := "mincutMeets", unfollowed := true, recurses := true, apart := false, narrowed := true }
def MincutMeetsUptoSaid : Prop := mincutMeetsUptoRow.holds Try.pinned (OpenSpec.upto mincutMeetsSpec)

/-- 'ebbtidelaw10.MincutAny', WHERE WHAT IT READS IS OF BULK AT MOST 1048576: true; the input reads as it did. -/
def mincutAnyUptoRow : OpenClaim := { program := "ytbgnoaijgngifaa", sum := "5d75669f45f1c23d394d56c65ea56ca987ef8eaaf08fa8d0c0cdcfbcda4883d1", func := "ebbtide/ebbtidelaw10.MincutAny", spec := "mincutAny", unfollowed := true, recurses := true, apart := false, narrowed := true }
def MincutAnyUptoSaid : Prop := mincutAnyUptoRow.holds Try.pinned (OpenSpec.upto mincutAnySpec)

/-- 'ebbtidelaw10.MincutSums', WHERE WHAT IT READS IS OF BULK AT MOST 1048576: true; the input reads as it did. -/
def mincutSumsUptoRow : OpenClaim := { program := "ytbgnoaijgngifaa", sum := "5d75669f45f1c23d394d56c65ea56ca987ef8eaaf08fa8d0c0cdcfbcda4883d1", func := "ebbtide/ebbtidelaw10.MincutSums", spec := "mincutSums", unfollowed := true, recurses := true, apart := false, narrowed := true }
def MincutSumsUptoSaid : Prop := mincutSumsUptoRow.holds Try.pinned (OpenSpec.upto mincutSumsSpec)

end Rows
end Go.Proofs.Ytbgnoaijgngifaa
