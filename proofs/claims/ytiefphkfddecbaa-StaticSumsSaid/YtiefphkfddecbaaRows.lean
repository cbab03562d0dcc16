/-
  No cell of these rows narrows 'for every input' (looked for: loops, veiled, ifaces, maps, wideKeys, modest, calm, conditions, laid).
  DERIVED. THE GIVEN ROWS OF THIS SEAT. 5 by the template 'for every input the law returns true; each argument reads behind the call as it read before'; 0 by the template 'total and deterministic' (their statements: YtiefphkfddecbaaTotals.lean).
  GIVEN WITH THE SEED: the statements are not yours to turn. If you find one false, say at which input.
  Laid BY PROGRAM, IN A SANDBOX (cutbox-rows.mjs): the forced cells as the released guide's own fill.sh prints them over the translation 2a1fd242ccab57e1… (all of the seat's roots in one cut). By AI agents, Wed Nov 11 2026. No macro, syntax, notation, axiom, sorry.
-/
import Derived.Test.YtiefphkfddecbaaChecked
import GoSem.Claim
import GoSem.ClaimJoined
import GoSem.ClaimMapViews
import Derived.JoinedTies
import Derived.KernelRfl
namespace Go.Proofs.Ytiefphkfddecbaa
/- THE CELL 'sum', in the pinned program and in every row, IS THE sha256 OF THE DUMP (.gsa) THAT YtiefphkfddecbaaProg.lean LOADS. Nothing in Lean hashes anything: it is a label: what it is worth is what the hold of that sum in a sandbox is worth. -/
noncomputable def Try.pinned : Pinned := { name := "ytiefphkfddecbaa", sum := "2a1fd242ccab57e1829070dcdaa6f2ee9370f14d08a61831645c8cdcf4fadc62", checked := Try.checked }
namespace Rows
def none {H : Type} : Left H := { results := [], args := [] }

/-- 'ebbtidelaw07.StaticChecks': WHATEVER THE INPUT: true; the input reads as it did. -/
def staticChecksSpec : ChangeSpec := { name := "staticChecks", fn := fun _ => fun
  | [d1, d2, d3, d4] => { results := [.lit (.bool true)], args := [d1, d2, d3, d4] }
  | _ => none }
def staticChecksRow : OpenClaim := { program := "ytiefphkfddecbaa", sum := "2a1fd242ccab57e1829070dcdaa6f2ee9370f14d08a61831645c8cdcf4fadc62", func := "ebbtide/ebbtidelaw07.StaticChecks", spec := "staticChecks", apart := false }
def StaticChecksSaid : Prop := staticChecksRow.holds Try.pinned (OpenSpec.ofChange staticChecksSpec)

/-- ITS FALSE NEIGHBOUR: 'it returns false'. Refute it at one input. -/
def staticChecksWrong : ChangeSpec := { name := "staticChecks", fn := fun _ => fun
  | [d1, d2, d3, d4] => { results := [.lit (.bool false)], args := [d1, d2, d3, d4] }
  | _ => none }
def StaticChecksWrongFalsely : Prop := staticChecksRow.holds Try.pinned (OpenSpec.ofChange staticChecksWrong)

/-- 'ebbtidelaw07.StaticRooms': WHATEVER THE INPUT: true; the input reads as it did. -/
def staticRoomsSpec : ChangeSpec := { name := "staticRooms", fn := fun _ => fun
  | [d1, d2, d3] => { results := [.lit (.bool true)], args := [d1, d2, d3] }
  | _ => none }
def staticRoomsRow : OpenClaim := { program := "ytiefphkfddecbaa", sum := "2a1fd242ccab57e1829070dcdaa6f2ee9370f14d08a61831645c8cdcf4fadc62", func := "ebbtide/ebbtidelaw07.StaticRooms", spec := "staticRooms", apart := false }
def StaticRoomsSaid : Prop := staticRoomsRow.holds Try.pinned (OpenSpec.ofChange staticRoomsSpec)

/-- ITS FALSE NEIGHBOUR: 'it returns false'. Refute it at one input. -/
def staticRoomsWrong : ChangeSpec := { name := "staticRooms", fn := fun _ => fun
  | [d1, d2, d3] => { results := [.lit (.bool false)], args := [d1, d2, d3] }
  | _ => none }
def StaticRoomsWrongFalsely : Prop := staticRoomsRow.holds Try.pinned (OpenSpec.ofChange staticRoomsWrong)

/-- 'ebbtidelaw07.StaticPushes': WHATEVER THE INPUT: true; the input reads as it did. -/
def staticPushesSpec : ChangeSpec := { name := "staticPushes", fn := fun _ => fun
  | [d1, d2, d3, d4] => { results := [.lit (.bool true)], args := [d1, d2, d3, d4] }
  | _ => none }
def staticPushesRow : OpenClaim := { program := "ytiefphkfddecbaa", sum := "2a1fd242ccab57e1829070dcdaa6f2ee9370f14d08a61831645c8cdcf4fadc62", func := "ebbtide/ebbtidelaw07.StaticPushes", spec := "staticPushes", apart := false }
def StaticPushesSaid : Prop := staticPushesRow.holds Try.pinned (OpenSpec.ofChange staticPushesSpec)

/-- ITS FALSE NEIGHBOUR: 'it returns false'. Refute it at one input. -/
def staticPushesWrong : ChangeSpec := { name := "staticPushes", fn := fun _ => fun
  | [d1, d2, d3, d4] => { results := [.lit (.bool false)], args := [d1, d2, d3, d4] }
  | _ => none }
def StaticPushesWrongFalsely : Prop := staticPushesRow.holds Try.pinned (OpenSpec.ofChange staticPushesWrong)

/-- 'ebbtidelaw07.StaticSums': WHATEVER THE INPUT: true; the input reads as it did. -/
def staticSumsSpec : ChangeSpec := { name := "staticSums", fn := fun _ => fun
  | [d1, d2, d3, d4] => { results := [.lit (.bool true)], args := [d1, d2, d3, d4] }
  | _ => none }
def staticSumsRow : OpenClaim := { program := "ytiefphkfddecbaa", sum := "2a1fd242ccab57e1829070dcdaa6f2ee9370f14d08a61831645c8cdcf4fadc62", func := "ebbtide/ebbtidelaw07.StaticSums", spec := "staticSums", apart := false }
def StaticSumsSaid : Prop := staticSumsRow.holds Try.pinned (OpenSpec.ofChange staticSumsSpec)

/-- ITS FALSE NEIGHBOUR: 'it returns false'. Refute it at one input. -/
def staticSumsWrong : ChangeSpec := { name := "staticSums", fn := fun _ => fun
  | [d1, d2, d3, d4] => { results := [.lit (.bool false)], args := [d1, d2, d3, d4] }
  | _ => none }
def StaticSumsWrongFalsely : Prop := staticSumsRow.holds Try.pinned (OpenSpec.ofChange staticSumsWrong)

/-- 'ebbtidelaw07.StaticTrails': WHATEVER THE INPUT: true; the input reads as it did. -/
def staticTrailsSpec : ChangeSpec := { name := "staticTrails", fn := fun _ => fun
  | [d1, d2, d3, d4, d5] => { results := [.lit (.bool true)], args := [d1, d2, d3, d4, d5] }
  | _ => none }
def staticTrailsRow : OpenClaim := { program := "ytiefphkfddecbaa", sum := "2a1fd242ccab57e1829070dcdaa6f2ee9370f14d08a61831645c8cdcf4fadc62", func := "ebbtide/ebbtidelaw07.StaticTrails", spec := "staticTrails", apart := false }
def StaticTrailsSaid : Prop := staticTrailsRow.holds Try.pinned (OpenSpec.ofChange staticTrailsSpec)

/-- ITS FALSE NEIGHBOUR: 'it returns false'. Refute it at one input. -/
def staticTrailsWrong : ChangeSpec := { name := "staticTrails", fn := fun _ => fun
  | [d1, d2, d3, d4, d5] => { results := [.lit (.bool false)], args := [d1, d2, d3, d4, d5] }
  | _ => none }
def StaticTrailsWrongFalsely : Prop := staticTrailsRow.holds Try.pinned (OpenSpec.ofChange staticTrailsWrong)

/- THE SECOND FORM. 'bulk': how many values and letters a reading holds, each counted each time it is reached (what is shared counts as often as it is met; a slice's spare places count too). A statement '..UptoSaid' is the law's where the arguments, and the package variables that the reading takes, are together of bulk at most 1048576: NARROWER than '..Said'. Prove '..Said' where nothing that the law and all that it calls make is longer than what came in: it says more and counts as full. Else prove '..UptoSaid'. A law counts once. -/
mutual
def uptoBulk {H : Type} : DataW H → Nat
  | .lit (.string bytes) => bytes.length + 1
  | .lit _ => 1
  | .nil => 1
  | .ptr d => uptoBulk d + 1
  | .slice elems spare => uptoBulkAll elems + uptoBulkAll spare + 1
  | .agg parts => uptoBulkAll parts + 1
  | .iface _ d => uptoBulk d + 1
  | .map entries => uptoBulkEntries entries + 1
  | .held _ => 1
def uptoBulkAll {H : Type} : List (DataW H) → Nat
  | [] => 0
  | d :: r => uptoBulk d + uptoBulkAll r
def uptoBulkEntries {H : Type} : List (Lit × DataW H) → Nat
  | [] => 0
  | x :: r => uptoBulkEntry x + uptoBulkEntries r
def uptoBulkEntry {H : Type} : Lit × DataW H → Nat
  | (.string bytes, d) => bytes.length + uptoBulk d + 1
  | (_, d) => uptoBulk d + 1
 end
def uptoSmall : (H : Type) → List (DataW H) → Bool := fun _ ds => decide (uptoBulkAll ds ≤ 1048576)
def OpenSpec.upto (s : _root_.Go.ChangeSpec) : _root_.Go.OpenSpec := { _root_.Go.OpenSpec.ofChange s with cond := some uptoSmall }

/-- 'ebbtidelaw07.StaticChecks', WHERE WHAT IT READS IS OF BULK AT MOST 1048576: true; the input reads as it did. -/
def staticChecksUptoRow : OpenClaim := { program := "ytiefphkfddecbaa", sum := "2a1fd242ccab57e1829070dcdaa6f2ee9370f14d08a61831645c8cdcf4fadc62", func := "ebbtide/ebbtidelaw07.StaticChecks", spec := "staticChecks", apart := false, narrowed := true }
def StaticChecksUptoSaid : Prop := staticChecksUptoRow.holds Try.pinned (OpenSpec.upto staticChecksSpec)

/-- 'ebbtidelaw07.StaticRooms', WHERE WHAT IT READS IS OF BULK AT MOST 1048576: true; the input reads as it did. -/
def staticRoomsUptoRow : OpenClaim := { program := "ytiefphkfddecbaa", sum := "2a1fd242ccab57e1829070dcdaa6f2ee9370f14d08a61831645c8cdcf4fadc62", func := "ebbtide/ebbtidelaw07.StaticRooms", spec := "staticRooms", apart := false, narrowed := true }
def StaticRoomsUptoSaid : Prop := staticRoomsUptoRow.holds Try.pinned (OpenSpec.upto staticRoomsSpec)

/-- 'ebbtidelaw07.StaticPushes', WHERE WHAT IT READS IS OF BULK AT MOST 1048576: true; the input reads as it did. -/
def staticPushesUptoRow : OpenClaim := { program := "ytiefphkfddecbaa", sum := "2a1fd242ccab57e1829070dcdaa6f2ee9370f14d08a61831645c8cdcf4fadc62", func := "ebbtide/ebbtidelaw07.StaticPushes", spec := "staticPushes", apart := false, narrowed := true }
def StaticPushesUptoSaid : Prop := staticPushesUptoRow.holds Try.pinned (OpenSpec.upto staticPushesSpec)

/-- 'ebbtidelaw07.StaticSums', WHERE WHAT IT READS IS OF BULK AT MOST 1048576: true; the input reads as it did. -/
def staticSumsUptoRow : OpenClaim := { program := "ytiefphkfddecbaa", sum := "2a1fd242ccab57e1829070dcdaa6f2ee9370f14d08a61831645c8cdcf4fadc62", func := "ebbtide/ebbtidelaw07.StaticSums", spec := "staticSums", apart := false, narrowed := true }
def StaticSumsUptoSaid : Prop := staticSumsUptoRow.holds Try.pinned (OpenSpec.upto staticSumsSpec)

/-- 'ebbtidelaw07.StaticTrails', WHERE WHAT IT READS IS OF BULK AT MOST 1048576: true; the input reads as it did. -/
def staticTrailsUptoRow : OpenClaim := { program := "ytiefphkfddecbaa", sum := "2a1fd242ccab57e1829070dcdaa6f2ee9370f14d08a61831645c8cdcf4fadc62", func := "ebbtide/ebbtidelaw07.StaticTrails", spec := "staticTrails", apart := false, narrowed := true }
def StaticTrailsUptoSaid : Prop := staticTrailsUptoRow.holds Try.pinned (OpenSpec.upto staticTrailsSpec)

end Rows
end Go.Proofs.Ytiefphkfddecbaa
