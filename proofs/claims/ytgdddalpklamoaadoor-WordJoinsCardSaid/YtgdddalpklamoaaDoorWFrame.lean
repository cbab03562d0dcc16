/- Texts, numbers and lists of them that came in: which they are, and where they lie; the library's tables as the program's text lays them. -/
import Derived.Test.YtgdddalpklamoaaDoorWLaws
import Derived.Test.YtgdddalpklamoaaDoorRows
import Derived.OpenShut
import Derived.ChangeSame
import Derived.ProofKit
import Derived.ChangeMaps5
import Derived.SliceStrings
import Derived.Carry
import Derived.Stop.LaidErr
import Derived.Lib.LaidTab
import Derived.Deep.DeepHandedRow
namespace Go.Proofs.YtgdddalpklamoaaDoor
open Go.ChangeShapes Go.WideShapes Go.ChangeAt Go.RowKit Go.ChangeMaps
set_option linter.unusedVariables false

theorem own : ownKnob Tryd.prog.godebug = none := by kernel_rfl
theorem laidOut : laidOutB Tryd.prog = true := by kernel_rfl
theorem cellsInt : Tryd.prog.cellsOf 3 = 1 := by kernel_rfl
theorem cellsStr : Tryd.prog.cellsOf 9 = 1 := by kernel_rfl
theorem gPow : Tryd.prog.globalNamed "internal/strconv.uint64pow10" = some 0 := by kernel_rfl
theorem gPowType : (Tryd.prog.globals[0]?).map (·.type) = some 69 := by kernel_rfl
theorem cellsPow : Tryd.prog.cellsOf 69 = 20 := by kernel_rfl
theorem cellsU64 : Tryd.prog.cellsOf 62 = 1 := by kernel_rfl
theorem powIs : (Rows.laid_internal_strconv_uint64pow10 : DataW Unit) = Lib.tabData .u64 Lib.pow10Tab := by kernel_rfl
abbrev laidList : List (String × DataW Unit) := [("math/bits.deBruijn32tab", Rows.laid_math_bits_deBruijn32tab), ("math/bits.deBruijn64tab", Rows.laid_math_bits_deBruijn64tab), ("internal/strconv.uint64pow10", Rows.laid_internal_strconv_uint64pow10)]
/-- What the list gives: the table of powers of ten. -/
theorem table {W : World} (h : laidMetH Tryd.prog laidList W) : Tab W := by
  have h1 : laidMet Tryd.prog laidList W := h
  have h2 := h1.tail.tail
  rw [powIs] at h2
  exact Lib.tabIs_of_head gPow gPowType Tryd.underlying69 Tryd.underlying62 cellsU64 cellsPow h2

theorem add_block (a : Addr) (n : Nat) : (a.add n).block = a.block := by unfold Addr.add; split <;> rfl
theorem plain_addr {w : World} {a : Addr} {v : Value} (h : w.cell? (a.add 0) = some v) : a.spot = none := World.cell?_spot (a := a) (by simpa [Addr.add] using h)
theorem cell_lit {w : World} {b o n : Nat} {v : Option Value} (h : w.cell? ((⟨b, o, none⟩ : Addr).add n) = v) : w.cell? ⟨b, o + n, none⟩ = v := by rwa [Addr.add_lit] at h
theorem lst_of {α : Type} {enc : α → Value} {W : World} {a : Addr} {A : List α} (h : ∀ i (hi : i < A.length), W.cell? (a.add i) = some (enc A[i])) : Lst enc W (some a) A := by
  intro i hi
  have h0 := h 0 (by omega)
  have hsp := plain_addr h0
  have hb := block_lt_of_cell (h i hi)
  rw [add_block] at hb
  have hc := h i hi
  obtain ⟨ab, ax, sp⟩ := a
  simp only at hsp
  subst hsp
  exact ⟨ab, ax, rfl, hb, cell_lit hc⟩
theorem wf_i64 {a : Int} (h : (Lit.int .i64 a).wf = true) : -9223372036854775808 ≤ a ∧ a ≤ 9223372036854775807 := by
  simp only [Lit.wf, IntKind.min, IntKind.max, IntKind.signed, IntKind.bits, Bool.and_eq_true, decide_eq_true_eq, if_true] at h
  omega
/-- A list of numbers that came in. -/
theorem viewInts {H : Type} {enc : TypeId × Value → H} {W : World} {fuel : Nat} {a0 : Option Addr} {len cap : Nat} {d : DataW H} {p : List MemPlace}
    (hf : DataW.trod enc Tryd.prog W 0 (fun _ => true) true fuel 30 (Value.slice a0 len cap).cells.toList = some (d, p)) :
    ∃ Z : List Int, Z.length = len ∧ len ≤ maxLen ∧ Lst encI W a0 Z ∧ In64 Z := by
  rcases open_ints Tryd.underlying30 Tryd.underlying3 cellsInt hf with ⟨hcs, hx⟩ | ⟨a, len', cap', zs, hcs, _, hl, hm, hz, hx, hcell, hwz⟩
  · simp [Value.cells] at hcs
    obtain ⟨rfl, rfl, rfl⟩ := hcs
    exact ⟨[], rfl, Nat.zero_le _, Lst.nil _ _, (fun z hz => by cases hz)⟩
  · simp [Value.cells] at hcs
    obtain ⟨rfl, rfl, rfl⟩ := hcs
    simp only [if_true] at hz
    refine ⟨zs.take len, by simp; omega, by omega, lst_of fun i hi => ?_, fun z hz2 => wf_i64 (hwz z (List.mem_of_mem_take hz2))⟩
    have hi' : i < len := by simp at hi; omega
    rw [hcell i (by omega)]
    unfold encI
    rw [List.getElem_take, List.getD, List.getElem?_eq_getElem (by omega)]; rfl
/-- A list of texts that came in. -/
theorem viewStrs {H : Type} {enc : TypeId × Value → H} {W : World} {fuel : Nat} {a0 : Option Addr} {len cap : Nat} {d : DataW H} {p : List MemPlace}
    (hf : DataW.trod enc Tryd.prog W 0 (fun _ => true) true fuel 24 (Value.slice a0 len cap).cells.toList = some (d, p)) :
    ∃ A : List (List UInt8), A.length = len ∧ len ≤ maxLen ∧ Lst strV W a0 A ∧ OkS A := by
  rcases open_strings Tryd.underlying24 Tryd.underlying9 cellsStr hf with ⟨hcs, hx⟩ | ⟨a, len', cap', ss, hcs, _, hl, hm, hz, hx, hcell, hwz⟩
  · simp [Value.cells] at hcs
    obtain ⟨rfl, rfl, rfl⟩ := hcs
    exact ⟨[], rfl, Nat.zero_le _, Lst.nil _ _, (fun z hz => by cases hz)⟩
  · simp [Value.cells] at hcs
    obtain ⟨rfl, rfl, rfl⟩ := hcs
    simp only [if_true] at hz
    refine ⟨(ss.take len).map (fun s => s.data.toList), by simp; omega, by omega, lst_of fun i hi => ?_, fun z hz2 => ?_⟩
    · have hi' : i < len := by simp at hi; omega
      rw [hcell i (by omega), List.getElem_map, strV_of, List.getElem_take, List.getD, List.getElem?_eq_getElem (by omega)]; rfl
    · obtain ⟨s, hs, rfl⟩ := List.mem_map.1 hz2
      exact hwz s (List.mem_of_mem_take hs)
/-- The tables' cells, out of the list. -/
def litV : DataW Unit → Value
  | .lit (.int k z) => .int k z
  | _ => .int .i64 0
def cellsLaid : DataW Unit → Array Value
  | .agg parts => (parts.map litV).toArray
  | _ => #[]
def putLaid (d : DataW Unit) : Obj → Obj
  | .cells _ t frozen => .cells (cellsLaid d) t frozen
  | o => o
/-- A world in which the tables lie as the program's text lays them. -/
noncomputable def laidWorld (os : Os) : World :=
  { World.holding Tryd.prog os ⟨#[], #[], []⟩ with heap := (((World.holding Tryd.prog os ⟨#[], #[], []⟩).heap.modify 0 (putLaid Rows.laid_internal_strconv_uint64pow10)).modify 1 (putLaid Rows.laid_math_bits_deBruijn32tab)).modify 2 (putLaid Rows.laid_math_bits_deBruijn64tab) }
end Go.Proofs.YtgdddalpklamoaaDoor
