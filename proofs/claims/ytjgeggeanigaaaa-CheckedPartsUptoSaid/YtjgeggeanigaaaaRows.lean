/-
  No cell of these rows narrows 'for every input' (looked for: loops, veiled, ifaces, maps, wideKeys, modest, calm, conditions, laid).
  DERIVED. THE GIVEN ROWS OF THIS SEAT. 12 by the template 'for every input the law returns true; each argument reads behind the call as it read before'; 0 by the template 'total and deterministic' (their statements: YtjgeggeanigaaaaTotals.lean).
  GIVEN WITH THE SEED: the statements are not yours to turn. If you find one false, say at which input.
  Laid BY PROGRAM, IN A SANDBOX (cutbox-rows.mjs): the forced cells as the released guide's own fill.sh prints them over the translation eb962078156bf5bf… (all of the seat's roots in one cut). By AI agents, Wed Nov 11 2026. No macro, syntax, notation, axiom, sorry.
-/
import Derived.Test.YtjgeggeanigaaaaChecked
import GoSem.Claim
import GoSem.ClaimJoined
import GoSem.ClaimMapViews
import Derived.JoinedTies
import Derived.KernelRfl
namespace Go.Proofs.Ytjgeggeanigaaaa
/- THE CELL 'sum', in the pinned program and in every row, IS THE sha256 OF THE DUMP (.gsa) THAT YtjgeggeanigaaaaProg.lean LOADS. Nothing in Lean hashes anything: it is a label: what it is worth is what the hold of that sum in a sandbox is worth. -/
noncomputable def Try.pinned : Pinned := { name := "ytjgeggeanigaaaa", sum := "eb962078156bf5bf2b3d65981c21301d0d45dc6409b761084772ea8cf63bfe0a", checked := Try.checked }
namespace Rows
def none {H : Type} : Left H := { results := [], args := [] }

/-- 'ebbtidelaw01.CheckedAdds': WHATEVER THE INPUT: true; the input reads as it did. -/
def checkedAddsSpec : ChangeSpec := { name := "checkedAdds", fn := fun _ => fun
  | [d1, d2] => { results := [.lit (.bool true)], args := [d1, d2] }
  | _ => none }
def checkedAddsRow : OpenClaim := { program := "ytjgeggeanigaaaa", sum := "eb962078156bf5bf2b3d65981c21301d0d45dc6409b761084772ea8cf63bfe0a", func := "ebbtide/ebbtidelaw01.CheckedAdds", spec := "checkedAdds", apart := false }
def CheckedAddsSaid : Prop := checkedAddsRow.holds Try.pinned (OpenSpec.ofChange checkedAddsSpec)

/-- ITS FALSE NEIGHBOUR: 'it returns false'. Refute it at one input. -/
def checkedAddsWrong : ChangeSpec := { name := "checkedAdds", fn := fun _ => fun
  | [d1, d2] => { results := [.lit (.bool false)], args := [d1, d2] }
  | _ => none }
def CheckedAddsWrongFalsely : Prop := checkedAddsRow.holds Try.pinned (OpenSpec.ofChange checkedAddsWrong)

/-- 'ebbtidelaw01.CheckedMuls': WHATEVER THE INPUT: true; the input reads as it did. -/
def checkedMulsSpec : ChangeSpec := { name := "checkedMuls", fn := fun _ => fun
  | [d1, d2] => { results := [.lit (.bool true)], args := [d1, d2] }
  | _ => none }
def checkedMulsRow : OpenClaim := { program := "ytjgeggeanigaaaa", sum := "eb962078156bf5bf2b3d65981c21301d0d45dc6409b761084772ea8cf63bfe0a", func := "ebbtide/ebbtidelaw01.CheckedMuls", spec := "checkedMuls", apart := false }
def CheckedMulsSaid : Prop := checkedMulsRow.holds Try.pinned (OpenSpec.ofChange checkedMulsSpec)

/-- ITS FALSE NEIGHBOUR: 'it returns false'. Refute it at one input. -/
def checkedMulsWrong : ChangeSpec := { name := "checkedMuls", fn := fun _ => fun
  | [d1, d2] => { results := [.lit (.bool false)], args := [d1, d2] }
  | _ => none }
def CheckedMulsWrongFalsely : Prop := checkedMulsRow.holds Try.pinned (OpenSpec.ofChange checkedMulsWrong)

/-- 'ebbtidelaw01.CheckedSums': WHATEVER THE INPUT: true; the input reads as it did. -/
def checkedSumsSpec : ChangeSpec := { name := "checkedSums", fn := fun _ => fun
  | [d] => { results := [.lit (.bool true)], args := [d] }
  | _ => none }
def checkedSumsRow : OpenClaim := { program := "ytjgeggeanigaaaa", sum := "eb962078156bf5bf2b3d65981c21301d0d45dc6409b761084772ea8cf63bfe0a", func := "ebbtide/ebbtidelaw01.CheckedSums", spec := "checkedSums", apart := false }
def CheckedSumsSaid : Prop := checkedSumsRow.holds Try.pinned (OpenSpec.ofChange checkedSumsSpec)

/-- ITS FALSE NEIGHBOUR: 'it returns false'. Refute it at one input. -/
def checkedSumsWrong : ChangeSpec := { name := "checkedSums", fn := fun _ => fun
  | [d] => { results := [.lit (.bool false)], args := [d] }
  | _ => none }
def CheckedSumsWrongFalsely : Prop := checkedSumsRow.holds Try.pinned (OpenSpec.ofChange checkedSumsWrong)

/-- 'ebbtidelaw01.CheckedShifts': WHATEVER THE INPUT: true; the input reads as it did. -/
def checkedShiftsSpec : ChangeSpec := { name := "checkedShifts", fn := fun _ => fun
  | [d1, d2] => { results := [.lit (.bool true)], args := [d1, d2] }
  | _ => none }
def checkedShiftsRow : OpenClaim := { program := "ytjgeggeanigaaaa", sum := "eb962078156bf5bf2b3d65981c21301d0d45dc6409b761084772ea8cf63bfe0a", func := "ebbtide/ebbtidelaw01.CheckedShifts", spec := "checkedShifts", apart := false }
def CheckedShiftsSaid : Prop := checkedShiftsRow.holds Try.pinned (OpenSpec.ofChange checkedShiftsSpec)

/-- ITS FALSE NEIGHBOUR: 'it returns false'. Refute it at one input. -/
def checkedShiftsWrong : ChangeSpec := { name := "checkedShifts", fn := fun _ => fun
  | [d1, d2] => { results := [.lit (.bool false)], args := [d1, d2] }
  | _ => none }
def CheckedShiftsWrongFalsely : Prop := checkedShiftsRow.holds Try.pinned (OpenSpec.ofChange checkedShiftsWrong)

/-- 'ebbtidelaw01.CheckedNarrows': WHATEVER THE INPUT: true; the input reads as it did. -/
def checkedNarrowsSpec : ChangeSpec := { name := "checkedNarrows", fn := fun _ => fun
  | [d1, d2] => { results := [.lit (.bool true)], args := [d1, d2] }
  | _ => none }
def checkedNarrowsRow : OpenClaim := { program := "ytjgeggeanigaaaa", sum := "eb962078156bf5bf2b3d65981c21301d0d45dc6409b761084772ea8cf63bfe0a", func := "ebbtide/ebbtidelaw01.CheckedNarrows", spec := "checkedNarrows", apart := false }
def CheckedNarrowsSaid : Prop := checkedNarrowsRow.holds Try.pinned (OpenSpec.ofChange checkedNarrowsSpec)

/-- ITS FALSE NEIGHBOUR: 'it returns false'. Refute it at one input. -/
def checkedNarrowsWrong : ChangeSpec := { name := "checkedNarrows", fn := fun _ => fun
  | [d1, d2] => { results := [.lit (.bool false)], args := [d1, d2] }
  | _ => none }
def CheckedNarrowsWrongFalsely : Prop := checkedNarrowsRow.holds Try.pinned (OpenSpec.ofChange checkedNarrowsWrong)

/-- 'ebbtidelaw01.CheckedPacks': WHATEVER THE INPUT: true; the input reads as it did. -/
def checkedPacksSpec : ChangeSpec := { name := "checkedPacks", fn := fun _ => fun
  | [d1, d2, d3] => { results := [.lit (.bool true)], args := [d1, d2, d3] }
  | _ => none }
def checkedPacksRow : OpenClaim := { program := "ytjgeggeanigaaaa", sum := "eb962078156bf5bf2b3d65981c21301d0d45dc6409b761084772ea8cf63bfe0a", func := "ebbtide/ebbtidelaw01.CheckedPacks", spec := "checkedPacks", apart := false }
def CheckedPacksSaid : Prop := checkedPacksRow.holds Try.pinned (OpenSpec.ofChange checkedPacksSpec)

/-- ITS FALSE NEIGHBOUR: 'it returns false'. Refute it at one input. -/
def checkedPacksWrong : ChangeSpec := { name := "checkedPacks", fn := fun _ => fun
  | [d1, d2, d3] => { results := [.lit (.bool false)], args := [d1, d2, d3] }
  | _ => none }
def CheckedPacksWrongFalsely : Prop := checkedPacksRow.holds Try.pinned (OpenSpec.ofChange checkedPacksWrong)

/-- 'ebbtidelaw01.CheckedBytes': WHATEVER THE INPUT: true; the input reads as it did. -/
def checkedBytesSpec : ChangeSpec := { name := "checkedBytes", fn := fun _ => fun
  | [d1, d2, d3] => { results := [.lit (.bool true)], args := [d1, d2, d3] }
  | _ => none }
def checkedBytesRow : OpenClaim := { program := "ytjgeggeanigaaaa", sum := "eb962078156bf5bf2b3d65981c21301d0d45dc6409b761084772ea8cf63bfe0a", func := "ebbtide/ebbtidelaw01.CheckedBytes", spec := "checkedBytes", apart := false }
def CheckedBytesSaid : Prop := checkedBytesRow.holds Try.pinned (OpenSpec.ofChange checkedBytesSpec)

/-- ITS FALSE NEIGHBOUR: 'it returns false'. Refute it at one input. -/
def checkedBytesWrong : ChangeSpec := { name := "checkedBytes", fn := fun _ => fun
  | [d1, d2, d3] => { results := [.lit (.bool false)], args := [d1, d2, d3] }
  | _ => none }
def CheckedBytesWrongFalsely : Prop := checkedBytesRow.holds Try.pinned (OpenSpec.ofChange checkedBytesWrong)

/-- 'ebbtidelaw01.CheckedUndoes': WHATEVER THE INPUT: true; the input reads as it did. -/
def checkedUndoesSpec : ChangeSpec := { name := "checkedUndoes", fn := fun _ => fun
  | [d1, d2] => { results := [.lit (.bool true)], args := [d1, d2] }
  | _ => none }
def checkedUndoesRow : OpenClaim := { program := "ytjgeggeanigaaaa", sum := "eb962078156bf5bf2b3d65981c21301d0d45dc6409b761084772ea8cf63bfe0a", func := "ebbtide/ebbtidelaw01.CheckedUndoes", spec := "checkedUndoes", apart := false }
def CheckedUndoesSaid : Prop := checkedUndoesRow.holds Try.pinned (OpenSpec.ofChange checkedUndoesSpec)

/-- ITS FALSE NEIGHBOUR: 'it returns false'. Refute it at one input. -/
def checkedUndoesWrong : ChangeSpec := { name := "checkedUndoes", fn := fun _ => fun
  | [d1, d2] => { results := [.lit (.bool false)], args := [d1, d2] }
  | _ => none }
def CheckedUndoesWrongFalsely : Prop := checkedUndoesRow.holds Try.pinned (OpenSpec.ofChange checkedUndoesWrong)

/-- 'ebbtidelaw01.CheckedTimes': WHATEVER THE INPUT: true; the input reads as it did. -/
def checkedTimesSpec : ChangeSpec := { name := "checkedTimes", fn := fun _ => fun
  | [d1, d2] => { results := [.lit (.bool true)], args := [d1, d2] }
  | _ => none }
def checkedTimesRow : OpenClaim := { program := "ytjgeggeanigaaaa", sum := "eb962078156bf5bf2b3d65981c21301d0d45dc6409b761084772ea8cf63bfe0a", func := "ebbtide/ebbtidelaw01.CheckedTimes", spec := "checkedTimes", apart := false }
def CheckedTimesSaid : Prop := checkedTimesRow.holds Try.pinned (OpenSpec.ofChange checkedTimesSpec)

/-- ITS FALSE NEIGHBOUR: 'it returns false'. Refute it at one input. -/
def checkedTimesWrong : ChangeSpec := { name := "checkedTimes", fn := fun _ => fun
  | [d1, d2] => { results := [.lit (.bool false)], args := [d1, d2] }
  | _ => none }
def CheckedTimesWrongFalsely : Prop := checkedTimesRow.holds Try.pinned (OpenSpec.ofChange checkedTimesWrong)

/-- 'ebbtidelaw01.CheckedParts': WHATEVER THE INPUT: true; the input reads as it did. -/
def checkedPartsSpec : ChangeSpec := { name := "checkedParts", fn := fun _ => fun
  | [d1, d2] => { results := [.lit (.bool true)], args := [d1, d2] }
  | _ => none }
def checkedPartsRow : OpenClaim := { program := "ytjgeggeanigaaaa", sum := "eb962078156bf5bf2b3d65981c21301d0d45dc6409b761084772ea8cf63bfe0a", func := "ebbtide/ebbtidelaw01.CheckedParts", spec := "checkedParts", apart := false }
def CheckedPartsSaid : Prop := checkedPartsRow.holds Try.pinned (OpenSpec.ofChange checkedPartsSpec)

/-- ITS FALSE NEIGHBOUR: 'it returns false'. Refute it at one input. -/
def checkedPartsWrong : ChangeSpec := { name := "checkedParts", fn := fun _ => fun
  | [d1, d2] => { results := [.lit (.bool false)], args := [d1, d2] }
  | _ => none }
def CheckedPartsWrongFalsely : Prop := checkedPartsRow.holds Try.pinned (OpenSpec.ofChange checkedPartsWrong)

/-- 'ebbtidelaw01.CheckedBack': WHATEVER THE INPUT: true; the input reads as it did. -/
def checkedBackSpec : ChangeSpec := { name := "checkedBack", fn := fun _ => fun
  | [d1, d2, d3] => { results := [.lit (.bool true)], args := [d1, d2, d3] }
  | _ => none }
def checkedBackRow : OpenClaim := { program := "ytjgeggeanigaaaa", sum := "eb962078156bf5bf2b3d65981c21301d0d45dc6409b761084772ea8cf63bfe0a", func := "ebbtide/ebbtidelaw01.CheckedBack", spec := "checkedBack", apart := false }
def CheckedBackSaid : Prop := checkedBackRow.holds Try.pinned (OpenSpec.ofChange checkedBackSpec)

/-- ITS FALSE NEIGHBOUR: 'it returns false'. Refute it at one input. -/
def checkedBackWrong : ChangeSpec := { name := "checkedBack", fn := fun _ => fun
  | [d1, d2, d3] => { results := [.lit (.bool false)], args := [d1, d2, d3] }
  | _ => none }
def CheckedBackWrongFalsely : Prop := checkedBackRow.holds Try.pinned (OpenSpec.ofChange checkedBackWrong)

/-- 'ebbtidelaw01.CheckedWidths': WHATEVER THE INPUT: true; the input reads as it did. -/
def checkedWidthsSpec : ChangeSpec := { name := "checkedWidths", fn := fun _ => fun
  | [d1, d2, d3] => { results := [.lit (.bool true)], args := [d1, d2, d3] }
  | _ => none }
def checkedWidthsRow : OpenClaim := { program := "ytjgeggeanigaaaa", sum := "eb962078156bf5bf2b3d65981c21301d0d45dc6409b761084772ea8cf63bfe0a", func := "ebbtide/ebbtidelaw01.CheckedWidths", spec := "checkedWidths", apart := false }
def CheckedWidthsSaid : Prop := checkedWidthsRow.holds Try.pinned (OpenSpec.ofChange checkedWidthsSpec)

/-- ITS FALSE NEIGHBOUR: 'it returns false'. Refute it at one input. -/
def checkedWidthsWrong : ChangeSpec := { name := "checkedWidths", fn := fun _ => fun
  | [d1, d2, d3] => { results := [.lit (.bool false)], args := [d1, d2, d3] }
  | _ => none }
def CheckedWidthsWrongFalsely : Prop := checkedWidthsRow.holds Try.pinned (OpenSpec.ofChange checkedWidthsWrong)

/- THE SECOND FORM. 'bulk': how many values and letters a reading holds, each counted each time it is reached (what is shared counts as often as it is met; a slice's spare places count too). A statement '..UptoSaid' is the law's where the arguments, and the package variables that the reading takes, are together of bulk at most 1048576: NARROWER than '..Said'. Prove '..Said' where nothing that the law and all that it calls make is longer than what came in: it says more and counts as full. Else prove '..UptoSaid'. A law counts once. -/
mutual
def uptoBulk {H : Type} : DataW H → Nat
  | .lit (.string bytes) => bytes.length + 1
  | .lit _ => 1
  | .nil => 1
  | .ptr d => uptoBulk d + 1
  | .slice elems spare => uptoBulkAll elems + uptoBulkAll spare + 1
  | .agg parts => uptoBulkAll parts + 1
  | .iface _ d => uptoBulk d + 1
  | .map entries => uptoBulkEntries entries + 1
  | .held _ => 1
def uptoBulkAll {H : Type} : List (DataW H) → Nat
  | [] => 0
  | d :: r => uptoBulk d + uptoBulkAll r
def uptoBulkEntries {H : Type} : List (Lit × DataW H) → Nat
  | [] => 0
  | x :: r => uptoBulkEntry x + uptoBulkEntries r
def uptoBulkEntry {H : Type} : Lit × DataW H → Nat
  | (.string bytes, d) => bytes.length + uptoBulk d + 1
  | (_, d) => uptoBulk d + 1
 end
def uptoSmall : (H : Type) → List (DataW H) → Bool := fun _ ds => decide (uptoBulkAll ds ≤ 1048576)
def OpenSpec.upto (s : _root_.Go.ChangeSpec) : _root_.Go.OpenSpec := { _root_.Go.OpenSpec.ofChange s with cond := some uptoSmall }

/-- 'ebbtidelaw01.CheckedAdds', WHERE WHAT IT READS IS OF BULK AT MOST 1048576: true; the input reads as it did. -/
def checkedAddsUptoRow : OpenClaim := { program := "ytjgeggeanigaaaa", sum := "eb962078156bf5bf2b3d65981c21301d0d45dc6409b761084772ea8cf63bfe0a", func := "ebbtide/ebbtidelaw01.CheckedAdds", spec := "checkedAdds", apart := false, narrowed := true }
def CheckedAddsUptoSaid : Prop := checkedAddsUptoRow.holds Try.pinned (OpenSpec.upto checkedAddsSpec)

/-- 'ebbtidelaw01.CheckedMuls', WHERE WHAT IT READS IS OF BULK AT MOST 1048576: true; the input reads as it did. -/
def checkedMulsUptoRow : OpenClaim := { program := "ytjgeggeanigaaaa", sum := "eb962078156bf5bf2b3d65981c21301d0d45dc6409b761084772ea8cf63bfe0a", func := "ebbtide/ebbtidelaw01.CheckedMuls", spec := "checkedMuls", apart := false, narrowed := true }
def CheckedMulsUptoSaid : Prop := checkedMulsUptoRow.holds Try.pinned (OpenSpec.upto checkedMulsSpec)

/-- 'ebbtidelaw01.CheckedSums', WHERE WHAT IT READS IS OF BULK AT MOST 1048576: true; the input reads as it did. -/
def checkedSumsUptoRow : OpenClaim := { program := "ytjgeggeanigaaaa", sum := "eb962078156bf5bf2b3d65981c21301d0d45dc6409b761084772ea8cf63bfe0a", func := "ebbtide/ebbtidelaw01.CheckedSums", spec := "checkedSums", apart := false, narrowed := true }
def CheckedSumsUptoSaid : Prop := checkedSumsUptoRow.holds Try.pinned (OpenSpec.upto checkedSumsSpec)

/-- 'ebbtidelaw01.CheckedShifts', WHERE WHAT IT READS IS OF BULK AT MOST 1048576: true; the input reads as it did. -/
def checkedShiftsUptoRow : OpenClaim := { program := "ytjgeggeanigaaaa", sum := "eb962078156bf5bf2b3d65981c21301d0d45dc6409b761084772ea8cf63bfe0a", func := "ebbtide/ebbtidelaw01.CheckedShifts", spec := "checkedShifts", apart := false, narrowed := true }
def CheckedShiftsUptoSaid : Prop := checkedShiftsUptoRow.holds Try.pinned (OpenSpec.upto checkedShiftsSpec)

/-- 'ebbtidelaw01.CheckedNarrows', WHERE WHAT IT READS IS OF BULK AT MOST 1048576: true; the input reads as it did. -/
def checkedNarrowsUptoRow : OpenClaim := { program := "ytjgeggeanigaaaa", sum := "eb962078156bf5bf2b3d65981c21301d0d45dc6409b761084772ea8cf63bfe0a", func := "ebbtide/ebbtidelaw01.CheckedNarrows", spec := "checkedNarrows", apart := false, narrowed := true }
def CheckedNarrowsUptoSaid : Prop := checkedNarrowsUptoRow.holds Try.pinned (OpenSpec.upto checkedNarrowsSpec)

/-- 'ebbtidelaw01.CheckedPacks', WHERE WHAT IT READS IS OF BULK AT MOST 1048576: true; the input reads as it did. -/
def checkedPacksUptoRow : OpenClaim := { program := "ytjgeggeanigaaaa", sum := "eb962078156bf5bf2b3d65981c21301d0d45dc6409b761084772ea8cf63bfe0a", func := "ebbtide/ebbtidelaw01.CheckedPacks", spec := "checkedPacks", apart := false, narrowed := true }
def CheckedPacksUptoSaid : Prop := checkedPacksUptoRow.holds Try.pinned (OpenSpec.upto checkedPacksSpec)

/-- 'ebbtidelaw01.CheckedBytes', WHERE WHAT IT READS IS OF BULK AT MOST 1048576: true; the input reads as it did. -/
def checkedBytesUptoRow : OpenClaim := { program := "ytjgeggeanigaaaa", sum := "eb962078156bf5bf2b3d65981c21301d0d45dc6409b761084772ea8cf63bfe0a", func := "ebbtide/ebbtidelaw01.CheckedBytes", spec := "checkedBytes", apart := false, narrowed := true }
def CheckedBytesUptoSaid : Prop := checkedBytesUptoRow.holds Try.pinned (OpenSpec.upto checkedBytesSpec)

/-- 'ebbtidelaw01.CheckedUndoes', WHERE WHAT IT READS IS OF BULK AT MOST 1048576: true; the input reads as it did. -/
def checkedUndoesUptoRow : OpenClaim := { program := "ytjgeggeanigaaaa", sum := "eb962078156bf5bf2b3d65981c21301d0d45dc6409b761084772ea8cf63bfe0a", func := "ebbtide/ebbtidelaw01.CheckedUndoes", spec := "checkedUndoes", apart := false, narrowed := true }
def CheckedUndoesUptoSaid : Prop := checkedUndoesUptoRow.holds Try.pinned (OpenSpec.upto checkedUndoesSpec)

/-- 'ebbtidelaw01.CheckedTimes', WHERE WHAT IT READS IS OF BULK AT MOST 1048576: true; the input reads as it did. -/
def checkedTimesUptoRow : OpenClaim := { program := "ytjgeggeanigaaaa", sum := "eb962078156bf5bf2b3d65981c21301d0d45dc6409b761084772ea8cf63bfe0a", func := "ebbtide/ebbtidelaw01.CheckedTimes", spec := "checkedTimes", apart := false, narrowed := true }
def CheckedTimesUptoSaid : Prop := checkedTimesUptoRow.holds Try.pinned (OpenSpec.upto checkedTimesSpec)

/-- 'ebbtidelaw01.CheckedParts', WHERE WHAT IT READS IS OF BULK AT MOST 1048576: true; the input reads as it did. -/
def checkedPartsUptoRow : OpenClaim := { program := "ytjgeggeanigaaaa", sum := "eb962078156bf5bf2b3d65981c21301d0d45dc6409b761084772ea8cf63bfe0a", func := "ebbtide/ebbtidelaw01.CheckedParts", spec := "checkedParts", apart := false, narrowed := true }
def CheckedPartsUptoSaid : Prop := checkedPartsUptoRow.holds Try.pinned (OpenSpec.upto checkedPartsSpec)

/-- 'ebbtidelaw01.CheckedBack', WHERE WHAT IT READS IS OF BULK AT MOST 1048576: true; the input reads as it did. -/
def checkedBackUptoRow : OpenClaim := { program := "ytjgeggeanigaaaa", sum := "eb962078156bf5bf2b3d65981c21301d0d45dc6409b761084772ea8cf63bfe0a", func := "ebbtide/ebbtidelaw01.CheckedBack", spec := "checkedBack", apart := false, narrowed := true }
def CheckedBackUptoSaid : Prop := checkedBackUptoRow.holds Try.pinned (OpenSpec.upto checkedBackSpec)

/-- 'ebbtidelaw01.CheckedWidths', WHERE WHAT IT READS IS OF BULK AT MOST 1048576: true; the input reads as it did. -/
def checkedWidthsUptoRow : OpenClaim := { program := "ytjgeggeanigaaaa", sum := "eb962078156bf5bf2b3d65981c21301d0d45dc6409b761084772ea8cf63bfe0a", func := "ebbtide/ebbtidelaw01.CheckedWidths", spec := "checkedWidths", apart := false, narrowed := true }
def CheckedWidthsUptoSaid : Prop := checkedWidthsUptoRow.holds Try.pinned (OpenSpec.upto checkedWidthsSpec)

end Rows
end Go.Proofs.Ytjgeggeanigaaaa
