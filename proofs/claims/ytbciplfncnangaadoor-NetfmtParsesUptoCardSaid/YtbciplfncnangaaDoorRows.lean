/-
  NARROWER THAN 'FOR EVERY INPUT', by the rows' own cells (each row's printed sentence says how): NetfmtChecks: laid · NetfmtParses: laid · NetfmtBack: laid · NetfmtAgain: laid · NetfmtApart: laid · NetfmtIdle: laid · NetfmtMore: laid.
  DERIVED. THE GIVEN ROWS OF THIS SEAT. 7 by the template 'for every input the law returns true; each argument reads behind the call as it read before'; 0 by the template 'total and deterministic' (their statements: YtbciplfncnangaaDoorTotals.lean).
  GIVEN WITH THE SEED: the statements are not yours to turn. If you find one false, say at which input.
  Laid BY PROGRAM, IN A SANDBOX (cutbox-rows.mjs): the forced cells as the released guide's own fill.sh prints them over the translation e9aeff1aaabe6c94… (all of the seat's roots in one cut). By AI agents, Wed Nov 11 2026. No macro, syntax, notation, axiom, sorry.
-/
import Derived.Test.YtbciplfncnangaaDoorChecked
import GoSem.Claim
import GoSem.ClaimJoined
import GoSem.ClaimMapViews
import Derived.JoinedTies
import Derived.KernelRfl
namespace Go.Proofs.YtbciplfncnangaaDoor
/- THE CELL 'sum', in the pinned program and in every row, IS THE sha256 OF THE DUMP (.gsa) THAT YtbciplfncnangaaDoorProg.lean LOADS. Nothing in Lean hashes anything: it is a label: what it is worth is what the hold of that sum in a sandbox is worth. -/
noncomputable def Tryd.pinned : Pinned := { name := "ytbciplfncnangaadoor", sum := "e9aeff1aaabe6c9442cf0e4cf5bd14cb58380826a623a09a20c29fdb240a621c", checked := Tryd.checked }
namespace Rows
def none {H : Type} : Left H := { results := [], args := [] }

/- WHAT THE LISTED PACKAGE-LEVEL VARIABLES READ AS WHEN THE CALL BEGINS. Each datum BY PROGRAM (the guide's laid-datum.mjs) off the statement by which the dump's own 'gosem.cut.vars' lays the variable. In a bare row this is a premise. The card (YtbciplfncnangaaDoorCards.lean) ties it to the program's text. -/
def laid_math_bits_deBruijn32tab {H : Type} : DataW H := .agg [.lit (.int .u8 0), .lit (.int .u8 1), .lit (.int .u8 28), .lit (.int .u8 2), .lit (.int .u8 29), .lit (.int .u8 14), .lit (.int .u8 24), .lit (.int .u8 3), .lit (.int .u8 30), .lit (.int .u8 22), .lit (.int .u8 20), .lit (.int .u8 15), .lit (.int .u8 25), .lit (.int .u8 17), .lit (.int .u8 4), .lit (.int .u8 8), .lit (.int .u8 31), .lit (.int .u8 27), .lit (.int .u8 13), .lit (.int .u8 23), .lit (.int .u8 21), .lit (.int .u8 19), .lit (.int .u8 16), .lit (.int .u8 7), .lit (.int .u8 26), .lit (.int .u8 12), .lit (.int .u8 18), .lit (.int .u8 6), .lit (.int .u8 11), .lit (.int .u8 5), .lit (.int .u8 10), .lit (.int .u8 9)]
def laid_math_bits_deBruijn64tab {H : Type} : DataW H := .agg [.lit (.int .u8 0), .lit (.int .u8 1), .lit (.int .u8 56), .lit (.int .u8 2), .lit (.int .u8 57), .lit (.int .u8 49), .lit (.int .u8 28), .lit (.int .u8 3), .lit (.int .u8 61), .lit (.int .u8 58), .lit (.int .u8 42), .lit (.int .u8 50), .lit (.int .u8 38), .lit (.int .u8 29), .lit (.int .u8 17), .lit (.int .u8 4), .lit (.int .u8 62), .lit (.int .u8 47), .lit (.int .u8 59), .lit (.int .u8 36), .lit (.int .u8 45), .lit (.int .u8 43), .lit (.int .u8 51), .lit (.int .u8 22), .lit (.int .u8 53), .lit (.int .u8 39), .lit (.int .u8 33), .lit (.int .u8 30), .lit (.int .u8 24), .lit (.int .u8 18), .lit (.int .u8 12), .lit (.int .u8 5), .lit (.int .u8 63), .lit (.int .u8 55), .lit (.int .u8 48), .lit (.int .u8 27), .lit (.int .u8 60), .lit (.int .u8 41), .lit (.int .u8 37), .lit (.int .u8 16), .lit (.int .u8 46), .lit (.int .u8 35), .lit (.int .u8 44), .lit (.int .u8 21), .lit (.int .u8 52), .lit (.int .u8 32), .lit (.int .u8 23), .lit (.int .u8 11), .lit (.int .u8 54), .lit (.int .u8 26), .lit (.int .u8 40), .lit (.int .u8 15), .lit (.int .u8 34), .lit (.int .u8 20), .lit (.int .u8 31), .lit (.int .u8 10), .lit (.int .u8 25), .lit (.int .u8 14), .lit (.int .u8 19), .lit (.int .u8 9), .lit (.int .u8 13), .lit (.int .u8 8), .lit (.int .u8 7), .lit (.int .u8 6)]
def laid_internal_strconv_uint64pow10 {H : Type} : DataW H := .agg [.lit (.int .u64 1), .lit (.int .u64 10), .lit (.int .u64 100), .lit (.int .u64 1000), .lit (.int .u64 10000), .lit (.int .u64 100000), .lit (.int .u64 1000000), .lit (.int .u64 10000000), .lit (.int .u64 100000000), .lit (.int .u64 1000000000), .lit (.int .u64 10000000000), .lit (.int .u64 100000000000), .lit (.int .u64 1000000000000), .lit (.int .u64 10000000000000), .lit (.int .u64 100000000000000), .lit (.int .u64 1000000000000000), .lit (.int .u64 10000000000000000), .lit (.int .u64 100000000000000000), .lit (.int .u64 1000000000000000000), .lit (.int .u64 10000000000000000000)]

/-- 'ebbtidelaw05.NetfmtChecks': WHATEVER THE INPUT: true; the input reads as it did. -/
def netfmtChecksSpec : ChangeSpec := { name := "netfmtChecks", fn := fun _ => fun
  | [d] => { results := [.lit (.bool true)], args := [d] }
  | _ => none }
def netfmtChecksRow : OpenClaim := { program := "ytbciplfncnangaadoor", sum := "e9aeff1aaabe6c9442cf0e4cf5bd14cb58380826a623a09a20c29fdb240a621c", func := "ebbtide/ebbtidelaw05.NetfmtChecks", spec := "netfmtChecks", inPlace := ["internal/abi.NoEscape"], unfollowed := true, recurses := true, named := ["internal/strconv.uint64pow10", "math/bits.deBruijn32tab", "math/bits.deBruijn64tab"], apart := false, laid := [("math/bits.deBruijn32tab", laid_math_bits_deBruijn32tab), ("math/bits.deBruijn64tab", laid_math_bits_deBruijn64tab), ("internal/strconv.uint64pow10", laid_internal_strconv_uint64pow10)] }
def NetfmtChecksSaid : Prop := netfmtChecksRow.holds Tryd.pinned (OpenSpec.ofChange netfmtChecksSpec)

/-- ITS FALSE NEIGHBOUR: 'it returns false'. Refute it at one input. -/
def netfmtChecksWrong : ChangeSpec := { name := "netfmtChecks", fn := fun _ => fun
  | [d] => { results := [.lit (.bool false)], args := [d] }
  | _ => none }
def NetfmtChecksWrongFalsely : Prop := netfmtChecksRow.holds Tryd.pinned (OpenSpec.ofChange netfmtChecksWrong)

/-- 'ebbtidelaw05.NetfmtParses': WHATEVER THE INPUT: true; the input reads as it did. -/
def netfmtParsesSpec : ChangeSpec := { name := "netfmtParses", fn := fun _ => fun
  | [d] => { results := [.lit (.bool true)], args := [d] }
  | _ => none }
def netfmtParsesRow : OpenClaim := { program := "ytbciplfncnangaadoor", sum := "e9aeff1aaabe6c9442cf0e4cf5bd14cb58380826a623a09a20c29fdb240a621c", func := "ebbtide/ebbtidelaw05.NetfmtParses", spec := "netfmtParses", inPlace := ["internal/abi.NoEscape"], unfollowed := true, recurses := true, named := ["internal/strconv.uint64pow10", "math/bits.deBruijn32tab", "math/bits.deBruijn64tab"], apart := false, laid := [("math/bits.deBruijn32tab", laid_math_bits_deBruijn32tab), ("math/bits.deBruijn64tab", laid_math_bits_deBruijn64tab), ("internal/strconv.uint64pow10", laid_internal_strconv_uint64pow10)] }
def NetfmtParsesSaid : Prop := netfmtParsesRow.holds Tryd.pinned (OpenSpec.ofChange netfmtParsesSpec)

/-- ITS FALSE NEIGHBOUR: 'it returns false'. Refute it at one input. -/
def netfmtParsesWrong : ChangeSpec := { name := "netfmtParses", fn := fun _ => fun
  | [d] => { results := [.lit (.bool false)], args := [d] }
  | _ => none }
def NetfmtParsesWrongFalsely : Prop := netfmtParsesRow.holds Tryd.pinned (OpenSpec.ofChange netfmtParsesWrong)

/-- 'ebbtidelaw05.NetfmtBack': WHATEVER THE INPUT: true; the input reads as it did. -/
def netfmtBackSpec : ChangeSpec := { name := "netfmtBack", fn := fun _ => fun
  | [d] => { results := [.lit (.bool true)], args := [d] }
  | _ => none }
def netfmtBackRow : OpenClaim := { program := "ytbciplfncnangaadoor", sum := "e9aeff1aaabe6c9442cf0e4cf5bd14cb58380826a623a09a20c29fdb240a621c", func := "ebbtide/ebbtidelaw05.NetfmtBack", spec := "netfmtBack", inPlace := ["internal/abi.NoEscape"], unfollowed := true, recurses := true, named := ["internal/strconv.uint64pow10", "math/bits.deBruijn32tab", "math/bits.deBruijn64tab"], apart := false, laid := [("math/bits.deBruijn32tab", laid_math_bits_deBruijn32tab), ("math/bits.deBruijn64tab", laid_math_bits_deBruijn64tab), ("internal/strconv.uint64pow10", laid_internal_strconv_uint64pow10)] }
def NetfmtBackSaid : Prop := netfmtBackRow.holds Tryd.pinned (OpenSpec.ofChange netfmtBackSpec)

/-- ITS FALSE NEIGHBOUR: 'it returns false'. Refute it at one input. -/
def netfmtBackWrong : ChangeSpec := { name := "netfmtBack", fn := fun _ => fun
  | [d] => { results := [.lit (.bool false)], args := [d] }
  | _ => none }
def NetfmtBackWrongFalsely : Prop := netfmtBackRow.holds Tryd.pinned (OpenSpec.ofChange netfmtBackWrong)

/-- 'ebbtidelaw05.NetfmtAgain': WHATEVER THE INPUT: true; the input reads as it did. -/
def netfmtAgainSpec : ChangeSpec := { name := "netfmtAgain", fn := fun _ => fun
  | [d] => { results := [.lit (.bool true)], args := [d] }
  | _ => none }
def netfmtAgainRow : OpenClaim := { program := "ytbciplfncnangaadoor", sum := "e9aeff1aaabe6c9442cf0e4cf5bd14cb58380826a623a09a20c29fdb240a621c", func := "ebbtide/ebbtidelaw05.NetfmtAgain", spec := "netfmtAgain", inPlace := ["internal/abi.NoEscape"], unfollowed := true, recurses := true, named := ["internal/strconv.uint64pow10", "math/bits.deBruijn32tab", "math/bits.deBruijn64tab"], apart := false, laid := [("math/bits.deBruijn32tab", laid_math_bits_deBruijn32tab), ("math/bits.deBruijn64tab", laid_math_bits_deBruijn64tab), ("internal/strconv.uint64pow10", laid_internal_strconv_uint64pow10)] }
def NetfmtAgainSaid : Prop := netfmtAgainRow.holds Tryd.pinned (OpenSpec.ofChange netfmtAgainSpec)

/-- ITS FALSE NEIGHBOUR: 'it returns false'. Refute it at one input. -/
def netfmtAgainWrong : ChangeSpec := { name := "netfmtAgain", fn := fun _ => fun
  | [d] => { results := [.lit (.bool false)], args := [d] }
  | _ => none }
def NetfmtAgainWrongFalsely : Prop := netfmtAgainRow.holds Tryd.pinned (OpenSpec.ofChange netfmtAgainWrong)

/-- 'ebbtidelaw05.NetfmtApart': WHATEVER THE INPUT: true; the input reads as it did. -/
def netfmtApartSpec : ChangeSpec := { name := "netfmtApart", fn := fun _ => fun
  | [d1, d2] => { results := [.lit (.bool true)], args := [d1, d2] }
  | _ => none }
def netfmtApartRow : OpenClaim := { program := "ytbciplfncnangaadoor", sum := "e9aeff1aaabe6c9442cf0e4cf5bd14cb58380826a623a09a20c29fdb240a621c", func := "ebbtide/ebbtidelaw05.NetfmtApart", spec := "netfmtApart", inPlace := ["internal/abi.NoEscape"], unfollowed := true, recurses := true, named := ["internal/strconv.uint64pow10", "math/bits.deBruijn32tab", "math/bits.deBruijn64tab"], apart := false, laid := [("math/bits.deBruijn32tab", laid_math_bits_deBruijn32tab), ("math/bits.deBruijn64tab", laid_math_bits_deBruijn64tab), ("internal/strconv.uint64pow10", laid_internal_strconv_uint64pow10)] }
def NetfmtApartSaid : Prop := netfmtApartRow.holds Tryd.pinned (OpenSpec.ofChange netfmtApartSpec)

/-- ITS FALSE NEIGHBOUR: 'it returns false'. Refute it at one input. -/
def netfmtApartWrong : ChangeSpec := { name := "netfmtApart", fn := fun _ => fun
  | [d1, d2] => { results := [.lit (.bool false)], args := [d1, d2] }
  | _ => none }
def NetfmtApartWrongFalsely : Prop := netfmtApartRow.holds Tryd.pinned (OpenSpec.ofChange netfmtApartWrong)

/-- 'ebbtidelaw05.NetfmtIdle': WHATEVER THE INPUT: true; the input reads as it did. -/
def netfmtIdleSpec : ChangeSpec := { name := "netfmtIdle", fn := fun _ => fun
  | [d] => { results := [.lit (.bool true)], args := [d] }
  | _ => none }
def netfmtIdleRow : OpenClaim := { program := "ytbciplfncnangaadoor", sum := "e9aeff1aaabe6c9442cf0e4cf5bd14cb58380826a623a09a20c29fdb240a621c", func := "ebbtide/ebbtidelaw05.NetfmtIdle", spec := "netfmtIdle", inPlace := ["internal/abi.NoEscape"], unfollowed := true, recurses := true, named := ["internal/strconv.uint64pow10", "math/bits.deBruijn32tab", "math/bits.deBruijn64tab"], apart := false, laid := [("math/bits.deBruijn32tab", laid_math_bits_deBruijn32tab), ("math/bits.deBruijn64tab", laid_math_bits_deBruijn64tab), ("internal/strconv.uint64pow10", laid_internal_strconv_uint64pow10)] }
def NetfmtIdleSaid : Prop := netfmtIdleRow.holds Tryd.pinned (OpenSpec.ofChange netfmtIdleSpec)

/-- ITS FALSE NEIGHBOUR: 'it returns false'. Refute it at one input. -/
def netfmtIdleWrong : ChangeSpec := { name := "netfmtIdle", fn := fun _ => fun
  | [d] => { results := [.lit (.bool false)], args := [d] }
  | _ => none }
def NetfmtIdleWrongFalsely : Prop := netfmtIdleRow.holds Tryd.pinned (OpenSpec.ofChange netfmtIdleWrong)

/-- 'ebbtidelaw05.NetfmtMore': WHATEVER THE INPUT: true; the input reads as it did. -/
def netfmtMoreSpec : ChangeSpec := { name := "netfmtMore", fn := fun _ => fun
  | [d1, d2] => { results := [.lit (.bool true)], args := [d1, d2] }
  | _ => none }
def netfmtMoreRow : OpenClaim := { program := "ytbciplfncnangaadoor", sum := "e9aeff1aaabe6c9442cf0e4cf5bd14cb58380826a623a09a20c29fdb240a621c", func := "ebbtide/ebbtidelaw05.NetfmtMore", spec := "netfmtMore", inPlace := ["internal/abi.NoEscape"], unfollowed := true, recurses := true, named := ["internal/strconv.uint64pow10", "math/bits.deBruijn32tab", "math/bits.deBruijn64tab"], apart := false, laid := [("math/bits.deBruijn32tab", laid_math_bits_deBruijn32tab), ("math/bits.deBruijn64tab", laid_math_bits_deBruijn64tab), ("internal/strconv.uint64pow10", laid_internal_strconv_uint64pow10)] }
def NetfmtMoreSaid : Prop := netfmtMoreRow.holds Tryd.pinned (OpenSpec.ofChange netfmtMoreSpec)

/-- ITS FALSE NEIGHBOUR: 'it returns false'. Refute it at one input. -/
def netfmtMoreWrong : ChangeSpec := { name := "netfmtMore", fn := fun _ => fun
  | [d1, d2] => { results := [.lit (.bool false)], args := [d1, d2] }
  | _ => none }
def NetfmtMoreWrongFalsely : Prop := netfmtMoreRow.holds Tryd.pinned (OpenSpec.ofChange netfmtMoreWrong)

/- THE SECOND FORM. 'bulk': how many values and letters a reading holds, each counted each time it is reached (what is shared counts as often as it is met; a slice's spare places count too). A statement '..UptoSaid' is the law's where the arguments, and the package variables that the reading takes, are together of bulk at most 1048576: NARROWER than '..Said'. Prove '..Said' where nothing that the law and all that it calls make is longer than what came in: it says more and counts as full. Else prove '..UptoSaid'. A law counts once. -/
mutual
def uptoBulk {H : Type} : DataW H → Nat
  | .lit (.string bytes) => bytes.length + 1
  | .lit _ => 1
  | .nil => 1
  | .ptr d => uptoBulk d + 1
  | .slice elems spare => uptoBulkAll elems + uptoBulkAll spare + 1
  | .agg parts => uptoBulkAll parts + 1
  | .iface _ d => uptoBulk d + 1
  | .map entries => uptoBulkEntries entries + 1
  | .held _ => 1
def uptoBulkAll {H : Type} : List (DataW H) → Nat
  | [] => 0
  | d :: r => uptoBulk d + uptoBulkAll r
def uptoBulkEntries {H : Type} : List (Lit × DataW H) → Nat
  | [] => 0
  | x :: r => uptoBulkEntry x + uptoBulkEntries r
def uptoBulkEntry {H : Type} : Lit × DataW H → Nat
  | (.string bytes, d) => bytes.length + uptoBulk d + 1
  | (_, d) => uptoBulk d + 1
 end
def uptoSmall : (H : Type) → List (DataW H) → Bool := fun _ ds => decide (uptoBulkAll ds ≤ 1048576)
def OpenSpec.upto (s : _root_.Go.ChangeSpec) : _root_.Go.OpenSpec := { _root_.Go.OpenSpec.ofChange s with cond := some uptoSmall }

/-- 'ebbtidelaw05.NetfmtChecks', WHERE WHAT IT READS IS OF BULK AT MOST 1048576: true; the input reads as it did. -/
def netfmtChecksUptoRow : OpenClaim := { program := "ytbciplfncnangaadoor", sum := "e9aeff1aaabe6c9442cf0e4cf5bd14cb58380826a623a09a20c29fdb240a621c", func := "ebbtide/ebbtidelaw05.NetfmtChecks", spec := "netfmtChecks", inPlace := ["internal/abi.NoEscape"], unfollowed := true, recurses := true, named := ["internal/strconv.uint64pow10", "math/bits.deBruijn32tab", "math/bits.deBruijn64tab"], apart := false, laid := [("math/bits.deBruijn32tab", laid_math_bits_deBruijn32tab), ("math/bits.deBruijn64tab", laid_math_bits_deBruijn64tab), ("internal/strconv.uint64pow10", laid_internal_strconv_uint64pow10)], narrowed := true }
def NetfmtChecksUptoSaid : Prop := netfmtChecksUptoRow.holds Tryd.pinned (OpenSpec.upto netfmtChecksSpec)

/-- 'ebbtidelaw05.NetfmtParses', WHERE WHAT IT READS IS OF BULK AT MOST 1048576: true; the input reads as it did. -/
def netfmtParsesUptoRow : OpenClaim := { program := "ytbciplfncnangaadoor", sum := "e9aeff1aaabe6c9442cf0e4cf5bd14cb58380826a623a09a20c29fdb240a621c", func := "ebbtide/ebbtidelaw05.NetfmtParses", spec := "netfmtParses", inPlace := ["internal/abi.NoEscape"], unfollowed := true, recurses := true, named := ["internal/strconv.uint64pow10", "math/bits.deBruijn32tab", "math/bits.deBruijn64tab"], apart := false, laid := [("math/bits.deBruijn32tab", laid_math_bits_deBruijn32tab), ("math/bits.deBruijn64tab", laid_math_bits_deBruijn64tab), ("internal/strconv.uint64pow10", laid_internal_strconv_uint64pow10)], narrowed := true }
def NetfmtParsesUptoSaid : Prop := netfmtParsesUptoRow.holds Tryd.pinned (OpenSpec.upto netfmtParsesSpec)

/-- 'ebbtidelaw05.NetfmtBack', WHERE WHAT IT READS IS OF BULK AT MOST 1048576: true; the input reads as it did. -/
def netfmtBackUptoRow : OpenClaim := { program := "ytbciplfncnangaadoor", sum := "e9aeff1aaabe6c9442cf0e4cf5bd14cb58380826a623a09a20c29fdb240a621c", func := "ebbtide/ebbtidelaw05.NetfmtBack", spec := "netfmtBack", inPlace := ["internal/abi.NoEscape"], unfollowed := true, recurses := true, named := ["internal/strconv.uint64pow10", "math/bits.deBruijn32tab", "math/bits.deBruijn64tab"], apart := false, laid := [("math/bits.deBruijn32tab", laid_math_bits_deBruijn32tab), ("math/bits.deBruijn64tab", laid_math_bits_deBruijn64tab), ("internal/strconv.uint64pow10", laid_internal_strconv_uint64pow10)], narrowed := true }
def NetfmtBackUptoSaid : Prop := netfmtBackUptoRow.holds Tryd.pinned (OpenSpec.upto netfmtBackSpec)

/-- 'ebbtidelaw05.NetfmtAgain', WHERE WHAT IT READS IS OF BULK AT MOST 1048576: true; the input reads as it did. -/
def netfmtAgainUptoRow : OpenClaim := { program := "ytbciplfncnangaadoor", sum := "e9aeff1aaabe6c9442cf0e4cf5bd14cb58380826a623a09a20c29fdb240a621c", func := "ebbtide/ebbtidelaw05.NetfmtAgain", spec := "netfmtAgain", inPlace := ["internal/abi.NoEscape"], unfollowed := true, recurses := true, named := ["internal/strconv.uint64pow10", "math/bits.deBruijn32tab", "math/bits.deBruijn64tab"], apart := false, laid := [("math/bits.deBruijn32tab", laid_math_bits_deBruijn32tab), ("math/bits.deBruijn64tab", laid_math_bits_deBruijn64tab), ("internal/strconv.uint64pow10", laid_internal_strconv_uint64pow10)], narrowed := true }
def NetfmtAgainUptoSaid : Prop := netfmtAgainUptoRow.holds Tryd.pinned (OpenSpec.upto netfmtAgainSpec)

/-- 'ebbtidelaw05.NetfmtApart', WHERE WHAT IT READS IS OF BULK AT MOST 1048576: true; the input reads as it did. -/
def netfmtApartUptoRow : OpenClaim := { program := "ytbciplfncnangaadoor", sum := "e9aeff1aaabe6c9442cf0e4cf5bd14cb58380826a623a09a20c29fdb240a621c", func := "ebbtide/ebbtidelaw05.NetfmtApart", spec := "netfmtApart", inPlace := ["internal/abi.NoEscape"], unfollowed := true, recurses := true, named := ["internal/strconv.uint64pow10", "math/bits.deBruijn32tab", "math/bits.deBruijn64tab"], apart := false, laid := [("math/bits.deBruijn32tab", laid_math_bits_deBruijn32tab), ("math/bits.deBruijn64tab", laid_math_bits_deBruijn64tab), ("internal/strconv.uint64pow10", laid_internal_strconv_uint64pow10)], narrowed := true }
def NetfmtApartUptoSaid : Prop := netfmtApartUptoRow.holds Tryd.pinned (OpenSpec.upto netfmtApartSpec)

/-- 'ebbtidelaw05.NetfmtIdle', WHERE WHAT IT READS IS OF BULK AT MOST 1048576: true; the input reads as it did. -/
def netfmtIdleUptoRow : OpenClaim := { program := "ytbciplfncnangaadoor", sum := "e9aeff1aaabe6c9442cf0e4cf5bd14cb58380826a623a09a20c29fdb240a621c", func := "ebbtide/ebbtidelaw05.NetfmtIdle", spec := "netfmtIdle", inPlace := ["internal/abi.NoEscape"], unfollowed := true, recurses := true, named := ["internal/strconv.uint64pow10", "math/bits.deBruijn32tab", "math/bits.deBruijn64tab"], apart := false, laid := [("math/bits.deBruijn32tab", laid_math_bits_deBruijn32tab), ("math/bits.deBruijn64tab", laid_math_bits_deBruijn64tab), ("internal/strconv.uint64pow10", laid_internal_strconv_uint64pow10)], narrowed := true }
def NetfmtIdleUptoSaid : Prop := netfmtIdleUptoRow.holds Tryd.pinned (OpenSpec.upto netfmtIdleSpec)

/-- 'ebbtidelaw05.NetfmtMore', WHERE WHAT IT READS IS OF BULK AT MOST 1048576: true; the input reads as it did. -/
def netfmtMoreUptoRow : OpenClaim := { program := "ytbciplfncnangaadoor", sum := "e9aeff1aaabe6c9442cf0e4cf5bd14cb58380826a623a09a20c29fdb240a621c", func := "ebbtide/ebbtidelaw05.NetfmtMore", spec := "netfmtMore", inPlace := ["internal/abi.NoEscape"], unfollowed := true, recurses := true, named := ["internal/strconv.uint64pow10", "math/bits.deBruijn32tab", "math/bits.deBruijn64tab"], apart := false, laid := [("math/bits.deBruijn32tab", laid_math_bits_deBruijn32tab), ("math/bits.deBruijn64tab", laid_math_bits_deBruijn64tab), ("internal/strconv.uint64pow10", laid_internal_strconv_uint64pow10)], narrowed := true }
def NetfmtMoreUptoSaid : Prop := netfmtMoreUptoRow.holds Tryd.pinned (OpenSpec.upto netfmtMoreSpec)

end Rows
end Go.Proofs.YtbciplfncnangaaDoor
