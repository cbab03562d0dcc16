/-
  No cell of these rows narrows 'for every input' (looked for: loops, veiled, ifaces, maps, wideKeys, modest, calm, conditions, laid).
  DERIVED. THE GIVEN ROWS OF THIS SEAT. 3 by the template 'for every input the law returns true; each argument reads behind the call as it read before'; 0 by the template 'total and deterministic' (their statements: YtlkbohpnlbfopaaGreatTotals.lean).
  GIVEN WITH THE SEED: the statements are not yours to turn. If you find one false, say at which input.
  Laid BY PROGRAM, IN A SANDBOX (cutbox-rows.mjs): the forced cells as the released guide's own fill.sh prints them over the translation 1ed1f37f18a311b6… (all of the seat's roots in one cut). By AI agents, Wed Nov 11 2026. No macro, syntax, notation, axiom, sorry.
-/
import Derived.Test.YtlkbohpnlbfopaaGreatChecked
import GoSem.Claim
import GoSem.ClaimJoined
import GoSem.ClaimMapViews
import Derived.JoinedTies
import Derived.KernelRfl
namespace Go.Proofs.YtlkbohpnlbfopaaGreat
/- THE CELL 'sum', in the pinned program and in every row, IS THE sha256 OF THE DUMP (.gsa) THAT YtlkbohpnlbfopaaGreatProg.lean LOADS. Nothing in Lean hashes anything: it is a label: what it is worth is what the hold of that sum in a sandbox is worth. -/
noncomputable def Tryz.pinned : Pinned := { name := "ytlkbohpnlbfopaagreat", sum := "1ed1f37f18a311b68475b95cded935589a4c0b89d3a7132d5be3cee65341b075", checked := Tryz.checked }
namespace Rows
def none {H : Type} : Left H := { results := [], args := [] }

/-- 'ebbtidelaw16.TimeflowMost': WHATEVER THE INPUT: true; the input reads as it did. -/
def timeflowMostSpec : ChangeSpec := { name := "timeflowMost", fn := fun _ => fun
  | [d] => { results := [.lit (.bool true)], args := [d] }
  | _ => none }
def timeflowMostRow : OpenClaim := { program := "ytlkbohpnlbfopaagreat", sum := "1ed1f37f18a311b68475b95cded935589a4c0b89d3a7132d5be3cee65341b075", func := "ebbtide/ebbtidelaw16.TimeflowMost", spec := "timeflowMost", unfollowed := true, recurses := true, plainKeys := false, apart := false }
def TimeflowMostSaid : Prop := timeflowMostRow.holds Tryz.pinned (OpenSpec.ofChange timeflowMostSpec)

/-- ITS FALSE NEIGHBOUR: 'it returns false'. Refute it at one input. -/
def timeflowMostWrong : ChangeSpec := { name := "timeflowMost", fn := fun _ => fun
  | [d] => { results := [.lit (.bool false)], args := [d] }
  | _ => none }
def TimeflowMostWrongFalsely : Prop := timeflowMostRow.holds Tryz.pinned (OpenSpec.ofChange timeflowMostWrong)

/-- 'ebbtidelaw16.TimeflowCuts': WHATEVER THE INPUT: true; the input reads as it did. -/
def timeflowCutsSpec : ChangeSpec := { name := "timeflowCuts", fn := fun _ => fun
  | [d] => { results := [.lit (.bool true)], args := [d] }
  | _ => none }
def timeflowCutsRow : OpenClaim := { program := "ytlkbohpnlbfopaagreat", sum := "1ed1f37f18a311b68475b95cded935589a4c0b89d3a7132d5be3cee65341b075", func := "ebbtide/ebbtidelaw16.TimeflowCuts", spec := "timeflowCuts", unfollowed := true, recurses := true, plainKeys := false, apart := false }
def TimeflowCutsSaid : Prop := timeflowCutsRow.holds Tryz.pinned (OpenSpec.ofChange timeflowCutsSpec)

/-- ITS FALSE NEIGHBOUR: 'it returns false'. Refute it at one input. -/
def timeflowCutsWrong : ChangeSpec := { name := "timeflowCuts", fn := fun _ => fun
  | [d] => { results := [.lit (.bool false)], args := [d] }
  | _ => none }
def TimeflowCutsWrongFalsely : Prop := timeflowCutsRow.holds Tryz.pinned (OpenSpec.ofChange timeflowCutsWrong)

/-- 'ebbtidelaw16.TimeflowGrows': WHATEVER THE INPUT: true; the input reads as it did. -/
def timeflowGrowsSpec : ChangeSpec := { name := "timeflowGrows", fn := fun _ => fun
  | [d] => { results := [.lit (.bool true)], args := [d] }
  | _ => none }
def timeflowGrowsRow : OpenClaim := { program := "ytlkbohpnlbfopaagreat", sum := "1ed1f37f18a311b68475b95cded935589a4c0b89d3a7132d5be3cee65341b075", func := "ebbtide/ebbtidelaw16.TimeflowGrows", spec := "timeflowGrows", unfollowed := true, recurses := true, plainKeys := false, apart := false }
def TimeflowGrowsSaid : Prop := timeflowGrowsRow.holds Tryz.pinned (OpenSpec.ofChange timeflowGrowsSpec)

/-- ITS FALSE NEIGHBOUR: 'it returns false'. Refute it at one input. -/
def timeflowGrowsWrong : ChangeSpec := { name := "timeflowGrows", fn := fun _ => fun
  | [d] => { results := [.lit (.bool false)], args := [d] }
  | _ => none }
def TimeflowGrowsWrongFalsely : Prop := timeflowGrowsRow.holds Tryz.pinned (OpenSpec.ofChange timeflowGrowsWrong)

/- THE SECOND FORM. 'bulk': how many values and letters a reading holds, each counted each time it is reached (what is shared counts as often as it is met; a slice's spare places count too). A statement '..UptoSaid' is the law's where the arguments, and the package variables that the reading takes, are together of bulk at most 1048576: NARROWER than '..Said'. Prove '..Said' where nothing that the law and all that it calls make is longer than what came in: it says more and counts as full. Else prove '..UptoSaid'. A law counts once. -/
mutual
def uptoBulk {H : Type} : DataW H → Nat
  | .lit (.string bytes) => bytes.length + 1
  | .lit _ => 1
  | .nil => 1
  | .ptr d => uptoBulk d + 1
  | .slice elems spare => uptoBulkAll elems + uptoBulkAll spare + 1
  | .agg parts => uptoBulkAll parts + 1
  | .iface _ d => uptoBulk d + 1
  | .map entries => uptoBulkEntries entries + 1
  | .held _ => 1
def uptoBulkAll {H : Type} : List (DataW H) → Nat
  | [] => 0
  | d :: r => uptoBulk d + uptoBulkAll r
def uptoBulkEntries {H : Type} : List (Lit × DataW H) → Nat
  | [] => 0
  | x :: r => uptoBulkEntry x + uptoBulkEntries r
def uptoBulkEntry {H : Type} : Lit × DataW H → Nat
  | (.string bytes, d) => bytes.length + uptoBulk d + 1
  | (_, d) => uptoBulk d + 1
 end
def uptoSmall : (H : Type) → List (DataW H) → Bool := fun _ ds => decide (uptoBulkAll ds ≤ 1048576)
def OpenSpec.upto (s : _root_.Go.ChangeSpec) : _root_.Go.OpenSpec := { _root_.Go.OpenSpec.ofChange s with cond := some uptoSmall }

/-- 'ebbtidelaw16.TimeflowMost', WHERE WHAT IT READS IS OF BULK AT MOST 1048576: true; the input reads as it did. -/
def timeflowMostUptoRow : OpenClaim := { program := "ytlkbohpnlbfopaagreat", sum := "1ed1f37f18a311b68475b95cded935589a4c0b89d3a7132d5be3cee65341b075", func := "ebbtide/ebbtidelaw16.TimeflowMost", spec := "timeflowMost", unfollowed := true, recurses := true, plainKeys := false, apart := false, narrowed := true }
def TimeflowMostUptoSaid : Prop := timeflowMostUptoRow.holds Tryz.pinned (OpenSpec.upto timeflowMostSpec)

/-- 'ebbtidelaw16.TimeflowCuts', WHERE WHAT IT READS IS OF BULK AT MOST 1048576: true; the input reads as it did. -/
def timeflowCutsUptoRow : OpenClaim := { program := "ytlkbohpnlbfopaagreat", sum := "1ed1f37f18a311b68475b95cded935589a4c0b89d3a7132d5be3cee65341b075", func := "ebbtide/ebbtidelaw16.TimeflowCuts", spec := "timeflowCuts", unfollowed := true, recurses := true, plainKeys := false, apart := false, narrowed := true }
def TimeflowCutsUptoSaid : Prop := timeflowCutsUptoRow.holds Tryz.pinned (OpenSpec.upto timeflowCutsSpec)

/-- 'ebbtidelaw16.TimeflowGrows', WHERE WHAT IT READS IS OF BULK AT MOST 1048576: true; the input reads as it did. -/
def timeflowGrowsUptoRow : OpenClaim := { program := "ytlkbohpnlbfopaagreat", sum := "1ed1f37f18a311b68475b95cded935589a4c0b89d3a7132d5be3cee65341b075", func := "ebbtide/ebbtidelaw16.TimeflowGrows", spec := "timeflowGrows", unfollowed := true, recurses := true, plainKeys := false, apart := false, narrowed := true }
def TimeflowGrowsUptoSaid : Prop := timeflowGrowsUptoRow.holds Tryz.pinned (OpenSpec.upto timeflowGrowsSpec)

end Rows
end Go.Proofs.YtlkbohpnlbfopaaGreat
