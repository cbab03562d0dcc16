/-
  No cell of these rows narrows 'for every input' (looked for: loops, veiled, ifaces, maps, wideKeys, modest, calm, conditions, laid).
  DERIVED. THE GIVEN ROWS OF THIS SEAT. 7 by the template 'for every input the law returns true; each argument reads behind the call as it read before'; 0 by the template 'total and deterministic' (their statements: YtedficnaipiplaaTotals.lean).
  GIVEN WITH THE SEED: the statements are not yours to turn. If you find one false, say at which input.
  Laid BY PROGRAM, IN A SANDBOX (cutbox-rows.mjs): the forced cells as the released guide's own fill.sh prints them over the translation 708d68b45190a873… (all of the seat's roots in one cut). By AI agents, Wed Nov 11 2026. No macro, syntax, notation, axiom, sorry.
-/
import Derived.Test.YtedficnaipiplaaChecked
import GoSem.Claim
import GoSem.ClaimJoined
import GoSem.ClaimMapViews
import Derived.JoinedTies
import Derived.KernelRfl
namespace Go.Proofs.Ytedficnaipiplaa
/- THE CELL 'sum', in the pinned program and in every row, IS THE sha256 OF THE DUMP (.gsa) THAT YtedficnaipiplaaProg.lean LOADS. Nothing in Lean hashes anything: it is a label: what it is worth is what the hold of that sum in a sandbox is worth. -/
noncomputable def Try.pinned : Pinned := { name := "ytedficnaipiplaa", sum := "708d68b45190a87367ee5aa8c617783a76faa857748b02ca16fdf9093b599fd5", checked := Try.checked }
namespace Rows
def none {H : Type} : Left H := { results := [], args := [] }

/-- 'ebbtidelaw14.PlanStocks': WHATEVER THE INPUT: true; the input reads as it did. -/
def planStocksSpec : ChangeSpec := { name := "planStocks", fn := fun _ => fun
  | [d1, d2, d3, d4, d5] => { results := [.lit (.bool true)], args := [d1, d2, d3, d4, d5] }
  | _ => none }
def planStocksRow : OpenClaim := { program := "ytedficnaipiplaa", sum := "708d68b45190a87367ee5aa8c617783a76faa857748b02ca16fdf9093b599fd5", func := "ebbtide/ebbtidelaw14.PlanStocks", spec := "planStocks", unfollowed := true, recurses := true, plainKeys := false, apart := false }
def PlanStocksSaid : Prop := planStocksRow.holds Try.pinned (OpenSpec.ofChange planStocksSpec)

/-- ITS FALSE NEIGHBOUR: 'it returns false'. Refute it at one input. -/
def planStocksWrong : ChangeSpec := { name := "planStocks", fn := fun _ => fun
  | [d1, d2, d3, d4, d5] => { results := [.lit (.bool false)], args := [d1, d2, d3, d4, d5] }
  | _ => none }
def PlanStocksWrongFalsely : Prop := planStocksRow.holds Try.pinned (OpenSpec.ofChange planStocksWrong)

/-- 'ebbtidelaw14.PlanChecks': WHATEVER THE INPUT: true; the input reads as it did. -/
def planChecksSpec : ChangeSpec := { name := "planChecks", fn := fun _ => fun
  | [d1, d2, d3, d4, d5] => { results := [.lit (.bool true)], args := [d1, d2, d3, d4, d5] }
  | _ => none }
def planChecksRow : OpenClaim := { program := "ytedficnaipiplaa", sum := "708d68b45190a87367ee5aa8c617783a76faa857748b02ca16fdf9093b599fd5", func := "ebbtide/ebbtidelaw14.PlanChecks", spec := "planChecks", unfollowed := true, recurses := true, plainKeys := false, apart := false }
def PlanChecksSaid : Prop := planChecksRow.holds Try.pinned (OpenSpec.ofChange planChecksSpec)

/-- ITS FALSE NEIGHBOUR: 'it returns false'. Refute it at one input. -/
def planChecksWrong : ChangeSpec := { name := "planChecks", fn := fun _ => fun
  | [d1, d2, d3, d4, d5] => { results := [.lit (.bool false)], args := [d1, d2, d3, d4, d5] }
  | _ => none }
def PlanChecksWrongFalsely : Prop := planChecksRow.holds Try.pinned (OpenSpec.ofChange planChecksWrong)

/-- 'ebbtidelaw14.PlanSmall': WHATEVER THE INPUT: true; the input reads as it did. -/
def planSmallSpec : ChangeSpec := { name := "planSmall", fn := fun _ => fun
  | [d] => { results := [.lit (.bool true)], args := [d] }
  | _ => none }
def planSmallRow : OpenClaim := { program := "ytedficnaipiplaa", sum := "708d68b45190a87367ee5aa8c617783a76faa857748b02ca16fdf9093b599fd5", func := "ebbtide/ebbtidelaw14.PlanSmall", spec := "planSmall", unfollowed := true, recurses := true, plainKeys := false, apart := false }
def PlanSmallSaid : Prop := planSmallRow.holds Try.pinned (OpenSpec.ofChange planSmallSpec)

/-- ITS FALSE NEIGHBOUR: 'it returns false'. Refute it at one input. -/
def planSmallWrong : ChangeSpec := { name := "planSmall", fn := fun _ => fun
  | [d] => { results := [.lit (.bool false)], args := [d] }
  | _ => none }
def PlanSmallWrongFalsely : Prop := planSmallRow.holds Try.pinned (OpenSpec.ofChange planSmallWrong)

/-- 'ebbtidelaw14.PlanBalances': WHATEVER THE INPUT: true; the input reads as it did. -/
def planBalancesSpec : ChangeSpec := { name := "planBalances", fn := fun _ => fun
  | [d] => { results := [.lit (.bool true)], args := [d] }
  | _ => none }
def planBalancesRow : OpenClaim := { program := "ytedficnaipiplaa", sum := "708d68b45190a87367ee5aa8c617783a76faa857748b02ca16fdf9093b599fd5", func := "ebbtide/ebbtidelaw14.PlanBalances", spec := "planBalances", unfollowed := true, recurses := true, plainKeys := false, apart := false }
def PlanBalancesSaid : Prop := planBalancesRow.holds Try.pinned (OpenSpec.ofChange planBalancesSpec)

/-- ITS FALSE NEIGHBOUR: 'it returns false'. Refute it at one input. -/
def planBalancesWrong : ChangeSpec := { name := "planBalances", fn := fun _ => fun
  | [d] => { results := [.lit (.bool false)], args := [d] }
  | _ => none }
def PlanBalancesWrongFalsely : Prop := planBalancesRow.holds Try.pinned (OpenSpec.ofChange planBalancesWrong)

/-- 'ebbtidelaw14.PlanRises': WHATEVER THE INPUT: true; the input reads as it did. -/
def planRisesSpec : ChangeSpec := { name := "planRises", fn := fun _ => fun
  | [d] => { results := [.lit (.bool true)], args := [d] }
  | _ => none }
def planRisesRow : OpenClaim := { program := "ytedficnaipiplaa", sum := "708d68b45190a87367ee5aa8c617783a76faa857748b02ca16fdf9093b599fd5", func := "ebbtide/ebbtidelaw14.PlanRises", spec := "planRises", unfollowed := true, recurses := true, plainKeys := false, apart := false }
def PlanRisesSaid : Prop := planRisesRow.holds Try.pinned (OpenSpec.ofChange planRisesSpec)

/-- ITS FALSE NEIGHBOUR: 'it returns false'. Refute it at one input. -/
def planRisesWrong : ChangeSpec := { name := "planRises", fn := fun _ => fun
  | [d] => { results := [.lit (.bool false)], args := [d] }
  | _ => none }
def PlanRisesWrongFalsely : Prop := planRisesRow.holds Try.pinned (OpenSpec.ofChange planRisesWrong)

/-- 'ebbtidelaw14.PlanMerges': WHATEVER THE INPUT: true; the input reads as it did. -/
def planMergesSpec : ChangeSpec := { name := "planMerges", fn := fun _ => fun
  | [d] => { results := [.lit (.bool true)], args := [d] }
  | _ => none }
def planMergesRow : OpenClaim := { program := "ytedficnaipiplaa", sum := "708d68b45190a87367ee5aa8c617783a76faa857748b02ca16fdf9093b599fd5", func := "ebbtide/ebbtidelaw14.PlanMerges", spec := "planMerges", unfollowed := true, recurses := true, plainKeys := false, apart := false }
def PlanMergesSaid : Prop := planMergesRow.holds Try.pinned (OpenSpec.ofChange planMergesSpec)

/-- ITS FALSE NEIGHBOUR: 'it returns false'. Refute it at one input. -/
def planMergesWrong : ChangeSpec := { name := "planMerges", fn := fun _ => fun
  | [d] => { results := [.lit (.bool false)], args := [d] }
  | _ => none }
def PlanMergesWrongFalsely : Prop := planMergesRow.holds Try.pinned (OpenSpec.ofChange planMergesWrong)

/-- 'ebbtidelaw14.PlanStill': WHATEVER THE INPUT: true; the input reads as it did. -/
def planStillSpec : ChangeSpec := { name := "planStill", fn := fun _ => fun
  | [d] => { results := [.lit (.bool true)], args := [d] }
  | _ => none }
def planStillRow : OpenClaim := { program := "ytedficnaipiplaa", sum := "708d68b45190a87367ee5aa8c617783a76faa857748b02ca16fdf9093b599fd5", func := "ebbtide/ebbtidelaw14.PlanStill", spec := "planStill", unfollowed := true, recurses := true, plainKeys := false, apart := false }
def PlanStillSaid : Prop := planStillRow.holds Try.pinned (OpenSpec.ofChange planStillSpec)

/-- ITS FALSE NEIGHBOUR: 'it returns false'. Refute it at one input. -/
def planStillWrong : ChangeSpec := { name := "planStill", fn := fun _ => fun
  | [d] => { results := [.lit (.bool false)], args := [d] }
  | _ => none }
def PlanStillWrongFalsely : Prop := planStillRow.holds Try.pinned (OpenSpec.ofChange planStillWrong)

/- THE SECOND FORM. 'bulk': how many values and letters a reading holds, each counted each time it is reached (what is shared counts as often as it is met; a slice's spare places count too). A statement '..UptoSaid' is the law's where the arguments, and the package variables that the reading takes, are together of bulk at most 1048576: NARROWER than '..Said'. Prove '..Said' where nothing that the law and all that it calls make is longer than what came in: it says more and counts as full. Else prove '..UptoSaid'. A law counts once. -/
mutual
def uptoBulk {H : Type} : DataW H → Nat
  | .lit (.string bytes) => bytes.length + 1
  | .lit _ => 1
  | .nil => 1
  | .ptr d => uptoBulk d + 1
  | .slice elems spare => uptoBulkAll elems + uptoBulkAll spare + 1
  | .agg parts => uptoBulkAll parts + 1
  | .iface _ d => uptoBulk d + 1
  | .map entries => uptoBulkEntries entries + 1
  | .held _ => 1
def uptoBulkAll {H : Type} : List (DataW H) → Nat
  | [] => 0
  | d :: r => uptoBulk d + uptoBulkAll r
def uptoBulkEntries {H : Type} : List (Lit × DataW H) → Nat
  | [] => 0
  | x :: r => uptoBulkEntry x + uptoBulkEntries r
def uptoBulkEntry {H : Type} : Lit × DataW H → Nat
  | (.string bytes, d) => bytes.length + uptoBulk d + 1
  | (_, d) => uptoBulk d + 1
 end
def uptoSmall : (H : Type) → List (DataW H) → Bool := fun _ ds => decide (uptoBulkAll ds ≤ 1048576)
def OpenSpec.upto (s : _root_.Go.ChangeSpec) : _root_.Go.OpenSpec := { _root_.Go.OpenSpec.ofChange s with cond := some uptoSmall }

/-- 'ebbtidelaw14.PlanStocks', WHERE WHAT IT READS IS OF BULK AT MOST 1048576: true; the input reads as it did. -/
def planStocksUptoRow : OpenClaim := { program := "ytedficnaipiplaa", sum := "708d68b45190a87367ee5aa8c617783a76faa857748b02ca16fdf9093b599fd5", func := "ebbtide/ebbtidelaw14.PlanStocks", spec := "planStocks", unfollowed := true, recurses := true, plainKeys := false, apart := false, narrowed := true }
def PlanStocksUptoSaid : Prop := planStocksUptoRow.holds Try.pinned (OpenSpec.upto planStocksSpec)

/-- 'ebbtidelaw14.PlanChecks', WHERE WHAT IT READS IS OF BULK AT MOST 1048576: true; the input reads as it did. -/
def planChecksUptoRow : OpenClaim := { program := "ytedficnaipiplaa", sum := "708d68b45190a87367ee5aa8c617783a76faa857748b02ca16fdf9093b599fd5", func := "ebbtide/ebbtidelaw14.PlanChecks", spec := "planChecks", unfollowed := true, recurses := true, plainKeys := false, apart := false, narrowed := true }
def PlanChecksUptoSaid : Prop := planChecksUptoRow.holds Try.pinned (OpenSpec.upto planChecksSpec)

/-- 'ebbtidelaw14.PlanSmall', WHERE WHAT IT READS IS OF BULK AT MOST 1048576: true; the input reads as it did. -/
def planSmallUptoRow : OpenClaim := { program := "ytedficnaipiplaa", sum := "708d68b45190a87367ee5aa8c617783a76faa857748b02ca16fdf9093b599fd5", func := "ebbtide/ebbtidelaw14.PlanSmall", spec := "planSmall", unfollowed := true, recurses := true, plainKeys := false, apart := false, narrowed := true }
def PlanSmallUptoSaid : Prop := planSmallUptoRow.holds Try.pinned (OpenSpec.upto planSmallSpec)

/-- 'ebbtidelaw14.PlanBalances', WHERE WHAT IT READS IS OF BULK AT MOST 1048576: true; the input reads as it did. -/
def planBalancesUptoRow : OpenClaim := { program := "ytedficnaipiplaa", sum := "708d68b45190a87367ee5aa8c617783a76faa857748b02ca16fdf9093b599fd5", func := "ebbtide/ebbtidelaw14.PlanBalances", spec := "planBalances", unfollowed := true, recurses := true, plainKeys := false, apart := false, narrowed := true }
def PlanBalancesUptoSaid : Prop := planBalancesUptoRow.holds Try.pinned (OpenSpec.upto planBalancesSpec)

/-- 'ebbtidelaw14.PlanRises', WHERE WHAT IT READS IS OF BULK AT MOST 1048576: true; the input reads as it did. -/
def planRisesUptoRow : OpenClaim := { program := "ytedficnaipiplaa", sum := "708d68b45190a87367ee5aa8c617783a76faa857748b02ca16fdf9093b599fd5", func := "ebbtide/ebbtidelaw14.PlanRises", spec := "planRises", unfollowed := true, recurses := true, plainKeys := false, apart := false, narrowed := true }
def PlanRisesUptoSaid : Prop := planRisesUptoRow.holds Try.pinned (OpenSpec.upto planRisesSpec)

/-- 'ebbtidelaw14.PlanMerges', WHERE WHAT IT READS IS OF BULK AT MOST 1048576: true; the input reads as it did. -/
def planMergesUptoRow : OpenClaim := { program := "ytedficnaipiplaa", sum := "708d68b45190a87367ee5aa8c617783a76faa857748b02ca16fdf9093b599fd5", func := "ebbtide/ebbtidelaw14.PlanMerges", spec := "planMerges", unfollowed := true, recurses := true, plainKeys := false, apart := false, narrowed := true }
def PlanMergesUptoSaid : Prop := planMergesUptoRow.holds Try.pinned (OpenSpec.upto planMergesSpec)

/-- 'ebbtidelaw14.PlanStill', WHERE WHAT IT READS IS OF BULK AT MOST 1048576: true; the input reads as it did. -/
def planStillUptoRow : OpenClaim := { program := "ytedficnaipiplaa", sum := "708d68b45190a87367ee5aa8c617783a76faa857748b02ca16fdf9093b599fd5", func := "ebbtide/ebbtidelaw14.PlanStill", spec := "planStill", unfollowed := true, recurses := true, plainKeys := false, apart := false, narrowed := true }
def PlanStillUptoSaid : Prop := planStillUptoRow.holds Try.pinned (OpenSpec.upto planStillSpec)

end Rows
end Go.Proofs.Ytedficnaipiplaa
