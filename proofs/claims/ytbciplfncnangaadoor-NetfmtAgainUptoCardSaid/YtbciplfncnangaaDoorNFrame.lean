/- Texts, networks and arcs that came in: which they are, and where they lie; the library's tables as the program's text lays them. -/
import Derived.Test.YtbciplfncnangaaDoorNArc
import Derived.Test.YtbciplfncnangaaDoorRows
import Derived.OpenShut
import Derived.ChangeSame
import Derived.ProofKit
import Derived.ChangeMaps5
import Derived.SliceStrings
import Derived.Carry
import Derived.Stop.LaidErr
import Derived.Lib.LaidTab
import Derived.Deep.DeepHandedRow
import Derived.Deep.Slices
import Derived.Deep.Fields
import Derived.Lib.SmallJoins
namespace Go.Proofs.YtbciplfncnangaaDoor
open Go.ChangeShapes Go.WideShapes Go.ChangeAt Go.RowKit Go.ChangeMaps
set_option linter.unusedVariables false

theorem own : ownKnob Tryd.prog.godebug = none := by kernel_rfl
theorem laidOut : laidOutB Tryd.prog = true := by kernel_rfl
theorem cellsInt : Tryd.prog.cellsOf 3 = 1 := by kernel_rfl
theorem cellsStr : Tryd.prog.cellsOf 9 = 1 := by kernel_rfl
theorem gPow : Tryd.prog.globalNamed "internal/strconv.uint64pow10" = some 0 := by kernel_rfl
theorem gPowType : (Tryd.prog.globals[0]?).map (·.type) = some 87 := by kernel_rfl
theorem cellsPow : Tryd.prog.cellsOf 87 = 20 := by kernel_rfl
theorem cellsU64 : Tryd.prog.cellsOf 80 = 1 := by kernel_rfl
theorem powIs : (Rows.laid_internal_strconv_uint64pow10 : DataW Unit) = Lib.tabData .u64 Lib.pow10Tab := by kernel_rfl
abbrev laidList : List (String × DataW Unit) := [("math/bits.deBruijn32tab", Rows.laid_math_bits_deBruijn32tab), ("math/bits.deBruijn64tab", Rows.laid_math_bits_deBruijn64tab), ("internal/strconv.uint64pow10", Rows.laid_internal_strconv_uint64pow10)]
/-- What the list gives: the table of powers of ten. -/
theorem table {W : World} (h : laidMetH Tryd.prog laidList W) : Tab W := by
  have h1 : laidMet Tryd.prog laidList W := h
  have h2 := h1.tail.tail
  rw [powIs] at h2
  exact Lib.tabIs_of_head gPow gPowType Tryd.underlying87 Tryd.underlying80 cellsU64 cellsPow h2

theorem add_block (a : Addr) (n : Nat) : (a.add n).block = a.block := by unfold Addr.add; split <;> rfl
theorem plain_addr {w : World} {a : Addr} {v : Value} (h : w.cell? (a.add 0) = some v) : a.spot = none := World.cell?_spot (a := a) (by simpa [Addr.add] using h)
theorem cell_lit {w : World} {b o n : Nat} {v : Option Value} (h : w.cell? ((⟨b, o, none⟩ : Addr).add n) = v) : w.cell? ⟨b, o + n, none⟩ = v := by rwa [Addr.add_lit] at h
theorem lst_of {α : Type} {enc : α → Value} {W : World} {a : Addr} {A : List α} (h : ∀ i (hi : i < A.length), W.cell? (a.add i) = some (enc A[i])) : Lst enc W (some a) A := by
  intro i hi
  have h0 := h 0 (by omega)
  have hsp := plain_addr h0
  have hb := block_lt_of_cell (h i hi)
  rw [add_block] at hb
  have hc := h i hi
  obtain ⟨ab, ax, sp⟩ := a
  simp only at hsp
  subst hsp
  exact ⟨ab, ax, rfl, hb, cell_lit hc⟩
theorem wf_i64 {a : Int} (h : (Lit.int .i64 a).wf = true) : -9223372036854775808 ≤ a ∧ a ≤ 9223372036854775807 := by
  simp only [Lit.wf, IntKind.min, IntKind.max, IntKind.signed, IntKind.bits, Bool.and_eq_true, decide_eq_true_eq, if_true] at h
  omega
def in64 (x : Int) : Prop := -9223372036854775808 ≤ x ∧ x ≤ 9223372036854775807
theorem cellsArc : Tryd.prog.cellsOf 37 = 4 := by kernel_rfl
theorem cellsNet : Tryd.prog.cellsOf 24 = 3 := by kernel_rfl
section
open Go.Deep
variable {H : Type} {enc : TypeId × Value → H} {P : Program} {w : World} {base : Nat} {spare : Nat → Bool} {held : Bool}
/-- A slice of structs, all of whose fields are int. -/
theorem open_int_structs {t e : TypeId} {fs : Array Field} {fuel : Nat} {cs : List Value} {x : DataW H × List MemPlace} (ht : P.underlying t = some (.slice e)) (he : P.underlying e = some (.struct fs))
    (hf : ∀ (j : Nat) (f : Field), fs[j]? = some f → f.offset = j ∧ P.cellsOf f.type = 1 ∧ P.underlying f.type = some (.int .i64)) {k : Nat} (hC : P.cellsOf e = k) (hfk : fs.size = k) (h : DataW.trod enc P w base spare held fuel t cs = some x) :
    cs = [.slice none 0 0] ∨ ∃ (a : Addr) (len cap : Nat), cs = [.slice (some a) len cap] ∧ len ≤ maxLen ∧
      ∀ i j : Nat, ∃ z : Int, i < len → j < k → w.cell? (a.add (i * k + j)) = some (.int .i64 z) ∧ in64 z := by
  subst hfk
  rcases open_slice ht h with ⟨h0, _⟩ | ⟨a, len, cap, m, n, D, Pl, hcs, hb, hl, hm, hmm, hx, hi⟩
  · exact .inl h0
  · refine .inr ⟨a, len, cap, hcs, by omega, fun i j => ?_⟩
    by_cases hij : i < len ∧ j < fs.size
    · have him : i < m := by rw [hmm]; split <;> omega
      obtain ⟨cs', hc, ht'⟩ := hi i him
      rw [hC] at hc
      obtain ⟨ys, n', _, _, hlen, hyl, hg⟩ := DataW.trod_struct he ht'
      obtain ⟨_, hcl, hat⟩ := World.cells?_some hc
      have hfj : fs[j]? = some fs[j] := Array.getElem?_eq_getElem hij.2
      obtain ⟨ho, hk, hu⟩ := hf j _ hfj
      have h1 := hg j _ hfj
      rw [ho, hk] at h1
      have hyj : ys[j]? = some (ys[j]'(by omega)) := List.getElem?_eq_getElem (by omega)
      rw [hyj] at h1
      obtain ⟨z, hz, _, hwf⟩ := DataW.trod_int hu h1
      refine ⟨z, fun _ _ => ⟨?_, wf_i64 hwf⟩⟩
      rw [← Go.Deep.add_add, hat j hij.2]
      have hd : (cs'.drop j).take 1 = [cs'[j]'(by omega)] := by rw [List.drop_eq_getElem_cons (by omega)]; rfl
      rw [hd] at hz
      rw [List.getElem?_eq_getElem (by omega), List.cons.inj hz |>.1]
    · exact ⟨0, fun h1 h2 => absurd ⟨h1, h2⟩ hij⟩
end
/-- .. as a list. -/
theorem rows_of {α : Type} {enc : α → List Value} {k : Nat} (hk0 : 0 < k) (mk : (Nat → Int) → α) (hmk : ∀ f j, j < k → (enc (mk f))[j]? = some (.int .i64 (f j))) {W : World} {a : Addr} {len : Nat}
    (hc : ∀ i j : Nat, ∃ z : Int, i < len → j < k → W.cell? (a.add (i * k + j)) = some (.int .i64 z) ∧ in64 z) :
    ∃ Z : List α, Z.length = len ∧ Row enc k W (some a) Z ∧ ∀ x ∈ Z, ∃ f : Nat → Int, x = mk f ∧ ∀ j, j < k → in64 (f j) := by
  refine ⟨(List.range len).map fun i => mk (fun j => Classical.choose (hc i j)), by simp, fun i hi => ?_, fun x hx => ?_⟩
  · have hi' : i < len := by simpa using hi
    have h0 := (Classical.choose_spec (hc i 0) hi' hk0).1
    have hb := block_lt_of_cell h0
    rw [add_block] at hb
    have h00 := (Classical.choose_spec (hc 0 0) (by omega) hk0).1
    have hsp := plain_addr (a := a) (by simpa using h00)
    obtain ⟨ab, ax, sp⟩ := a
    simp only at hsp
    subst hsp
    refine ⟨ab, ax, rfl, hb, fun j hj => ?_⟩
    have h1 := (Classical.choose_spec (hc i j) hi' hj).1
    have h2 := cell_lit h1
    rw [Nat.add_assoc, h2, List.getElem_map, List.getElem_range, hmk _ j hj]
  · obtain ⟨i, hi, rfl⟩ := List.mem_map.1 hx
    refine ⟨_, rfl, fun j hj => ?_⟩
    rw [List.mem_range] at hi
    exact (Classical.choose_spec (hc i j) hi hj).2
/-- A list of arcs that came in. -/
theorem viewArcs {H : Type} {enc : TypeId × Value → H} {W : World} {fuel : Nat} {v : Value} {x : DataW H × List MemPlace}
    (hf : DataW.trod enc Tryd.prog W 0 (fun _ => true) true fuel 22 [v] = some x) :
    ∃ (ao : Option Addr) (len cap : Nat) (Z : List ArcT), v = .slice ao len cap ∧ Z.length = len ∧ len ≤ maxLen ∧ Row encA 4 W ao Z := by
  rcases open_int_structs Tryd.underlying22 Tryd.underlying37 (fun j f hj => by
      match j, hj with
      | 0, hj => simp at hj; subst hj; exact ⟨rfl, cellsInt, Tryd.underlying3⟩
      | 1, hj => simp at hj; subst hj; exact ⟨rfl, cellsInt, Tryd.underlying3⟩
      | 2, hj => simp at hj; subst hj; exact ⟨rfl, cellsInt, Tryd.underlying3⟩
      | 3, hj => simp at hj; subst hj; exact ⟨rfl, cellsInt, Tryd.underlying3⟩
      | j + 4, hj => simp at hj) cellsArc rfl hf with hcs | ⟨a, len', cap', hcs, hm, hc⟩
  · cases hcs
    exact ⟨_, _, _, [], rfl, rfl, Nat.zero_le _, Row.nil _ _⟩
  · cases hcs
    obtain ⟨Z, h1, h2, h3⟩ := rows_of (enc := encA) (by omega) (fun f => (f 0, f 1, f 2, f 3)) (fun f j hj => by
      match j, hj with
      | 0, _ => rfl
      | 1, _ => rfl
      | 2, _ => rfl
      | 3, _ => rfl) hc
    exact ⟨_, _, _, Z, rfl, h1, hm, h2⟩
set_option maxRecDepth 100000 in
/-- A network that came in. -/
theorem viewNet {H : Type} {enc : TypeId × Value → H} {W : World} {base : Nat} {v : Value} {d : DataW H} {p : List MemPlace} (hv : Value.okWide Tryd.prog W .any base 24 v)
    (h : DataW.Trod enc Tryd.prog W 0 (fun _ => true) true 24 v d p) : ∃ (n : Int) (b : Bool) (ao : Option Addr) (len cap : Nat) (Z : List ArcT), v = .agg #[.int .i64 n, .bool b, .slice ao len cap] ∧ Z.length = len ∧ len ≤ maxLen ∧ Row encA 4 W ao Z := by
  obtain ⟨v0, v1, v2, y0, y1, y2, n, rfl, _, _, t0, t1, t2⟩ := Joins.open_agg3 Tryd.underlying24 (by kernel_rfl) cellsNet hv h
  obtain ⟨a, ha, _, wa⟩ := DataW.trod_int Tryd.underlying3 t0
  obtain ⟨b, hb, _⟩ := DataW.trod_bool Tryd.underlying4 t1
  obtain ⟨ao, len, cap, Z, rfl, h1, h2, h3⟩ := viewArcs t2
  cases ha; cases hb
  exact ⟨a, b, ao, len, cap, Z, rfl, h1, h2, h3⟩
set_option maxRecDepth 100000 in
/-- An arc that came in. -/
theorem viewArc {H : Type} {enc : TypeId × Value → H} {W : World} {base : Nat} {v : Value} {d : DataW H} {p : List MemPlace} (hv : Value.okWide Tryd.prog W .any base 37 v)
    (h : DataW.Trod enc Tryd.prog W 0 (fun _ => true) true 37 v d p) : ∃ a : ArcT, v = .agg #[.int .i64 a.1, .int .i64 a.2.1, .int .i64 a.2.2.1, .int .i64 a.2.2.2] ∧ in64 a.1 ∧ in64 a.2.1 ∧ in64 a.2.2.1 ∧ in64 a.2.2.2 := by
  obtain ⟨v0, v1, v2, v3, y0, y1, y2, y3, n, rfl, _, _, t0, t1, t2, t3⟩ := Joins.open_agg4 Tryd.underlying37 (by kernel_rfl) cellsArc hv h
  obtain ⟨a, ha, _, wa⟩ := DataW.trod_int Tryd.underlying3 t0
  obtain ⟨b, hb, _, wb⟩ := DataW.trod_int Tryd.underlying3 t1
  obtain ⟨c, hc, _, wc⟩ := DataW.trod_int Tryd.underlying3 t2
  obtain ⟨d, hd, _, wd⟩ := DataW.trod_int Tryd.underlying3 t3
  cases ha; cases hb; cases hc; cases hd
  exact ⟨(a, b, c, d), rfl, wf_i64 wa, wf_i64 wb, wf_i64 wc, wf_i64 wd⟩
/-- The tables' cells, out of the list. -/
def litV : DataW Unit → Value
  | .lit (.int k z) => .int k z
  | _ => .int .i64 0
def cellsLaid : DataW Unit → Array Value
  | .agg parts => (parts.map litV).toArray
  | _ => #[]
def putLaid (d : DataW Unit) : Obj → Obj
  | .cells _ t frozen => .cells (cellsLaid d) t frozen
  | o => o
/-- A world in which the tables lie as the program's text lays them. -/
noncomputable def laidWorld (os : Os) : World :=
  { World.holding Tryd.prog os ⟨#[], #[], []⟩ with heap := (((World.holding Tryd.prog os ⟨#[], #[], []⟩).heap.modify 0 (putLaid Rows.laid_internal_strconv_uint64pow10)).modify 1 (putLaid Rows.laid_math_bits_deBruijn32tab)).modify 2 (putLaid Rows.laid_math_bits_deBruijn64tab) }
end Go.Proofs.YtbciplfncnangaaDoor
