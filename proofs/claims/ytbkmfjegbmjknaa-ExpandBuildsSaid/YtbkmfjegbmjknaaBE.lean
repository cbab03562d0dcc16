/- Lemmas of the layers below, several texts in one. -/
import Derived.Test.YtbkmfjegbmjknaaBC
import Derived.Laws.StructEq
import Derived.Shelf.SlicesE.Kit
import Derived.OpenShut
import Derived.ChangeSame
import Derived.ProofKit
import Derived.Deep.Slices
import Derived.Deep.Fields
import Derived.Laws.AppendOwnNone
namespace Go.Proofs.Ytbkmfjegbmjknaa
open Go.RowKit Go.Sort
set_option linter.unusedVariables false

def AP (x : Int × Int) : Value := .agg #[.int .i64 x.1, .int .i64 x.2]
section
variable {w0 w w' : World} {b : Nat} {G : Option Nat} {qb qg : Nat} {L : List (Int × Int)} {l : List Int}
end
theorem ins1 : insP (3, 1) [] = [(3, 1)] := rfl
theorem ins2 : insP (1, 2) [(3, 1)] = [(1, 2), (3, 1)] := by decide
theorem ins3 : insP (1, 1) [(1, 2), (3, 1)] = [(1, 1), (1, 2), (3, 1)] := by decide
end Go.Proofs.Ytbkmfjegbmjknaa

namespace Go.Proofs.Ytbkmfjegbmjknaa
open Go.RowKit Go.WideShapes Go.ChangeShapes
set_option linter.unusedVariables false

/-- The places of a slice hold these numbers. -/
def RI (w : World) (ao : Option Addr) (zs : List Int) : Prop := ∀ i, i < zs.length → ∃ ad, ao = some ad ∧ ad.block < w.heap.size ∧ w.cell? (ad.add i) = some (.int .i64 (zs.getD i 0))
theorem add_block (a : Addr) (n : Nat) : (a.add n).block = a.block := by unfold Addr.add; split <;> rfl
theorem RI.below {w w' : World} {ao : Option Addr} {zs : List Int} (h : RI w ao zs) (hb : RowKit.Below w.heap.size w w') : RI w' ao zs := by
  intro i hi
  obtain ⟨ad, h1, h2, h3⟩ := h i hi
  exact ⟨ad, h1, Nat.lt_of_lt_of_le h2 hb.size, by rw [hb.cell (by rw [add_block]; exact h2)]; exact h3⟩
/-- What stands from place a on, ahead of place i. -/
def seg (Z : List Int) (a i : Nat) : List Int := (Z.take i).drop a
theorem seg_self (Z : List Int) (a : Nat) : seg Z a a = [] := by unfold seg; exact List.drop_eq_nil_of_le (by simp; omega)
theorem seg_len (Z : List Int) {a i : Nat} (h : i ≤ Z.length) : (seg Z a i).length = i - a := by unfold seg; simp; omega
theorem seg_snoc (Z : List Int) {a i : Nat} (ha : a ≤ i) (h : i < Z.length) : seg Z a (i + 1) = seg Z a i ++ [Z.getD i 0] := by
  unfold seg
  rw [List.take_succ_eq_append_getElem h, List.drop_append_of_le_length (by simp; omega), List.getD_eq_getElem?_getD, List.getElem?_eq_getElem h]
  rfl
theorem seg_cons (Z : List Int) {a i : Nat} (ha : a < i) (h : i ≤ Z.length) : seg Z a i = Z.getD a 0 :: seg Z (a + 1) i := by
  unfold seg
  rw [List.drop_eq_getElem_cons (by simp; omega)]
  congr 1
  rw [List.getElem_take, List.getD_eq_getElem?_getD, List.getElem?_eq_getElem (by omega)]
  rfl
theorem wf_i64 {a : Int} (h : (Lit.int .i64 a).wf = true) : -9223372036854775808 ≤ a ∧ a ≤ 9223372036854775807 := by
  simp only [Lit.wf, IntKind.min, IntKind.max, IntKind.signed, IntKind.bits, Bool.and_eq_true, decide_eq_true_eq, if_true] at h
  omega
theorem cellsInt : Try.prog.cellsOf 3 = 1 := by kernel_rfl
/-- A list of numbers that came in, nil or not: its numbers, and where they lie. -/
theorem viewI {H : Type} {enc : TypeId × Value → H} {W : World} {fuel : Nat} {a0 : Option Addr} {len cap : Nat} {d : DataW H} {p : List MemPlace}
    (hf : DataW.trod enc Try.prog W 0 (fun _ => true) true fuel 42 (Value.slice a0 len cap).cells.toList = some (d, p)) :
    ∃ Z : List Int, Z.length = len ∧ len ≤ maxLen ∧ RI W a0 Z := by
  rcases open_ints Try.underlying42 Try.underlying3 cellsInt hf with ⟨hcs, hx⟩ | ⟨a, len', cap', zs, hcs, _, hl, hm, hz, hx, hcell, hwz⟩
  · simp [Value.cells] at hcs
    obtain ⟨rfl, rfl, rfl⟩ := hcs
    exact ⟨[], rfl, Nat.zero_le _, fun i hi => absurd hi (by simp)⟩
  · simp [Value.cells] at hcs
    obtain ⟨rfl, rfl, rfl⟩ := hcs
    simp only [if_true] at hz
    refine ⟨zs.take len, by simp; omega, by omega, fun i hi => ?_⟩
    have hi' : i < len := by simp at hi; omega
    have hc := hcell i (by omega)
    have hb := block_lt_of_cell hc
    rw [add_block] at hb
    refine ⟨a, rfl, hb, ?_⟩
    rw [hc]
    simp [List.getD, hi']
end Go.Proofs.Ytbkmfjegbmjknaa

namespace Go.Proofs.Ytbkmfjegbmjknaa
open Go.RowKit Go.WideShapes Go.ChangeShapes Go.Deep
set_option linter.unusedVariables false

section
variable {H : Type} {enc : TypeId × Value → H} {P : Program} {w : World} {base : Nat} {spare : Nat → Bool} {held : Bool}
/-- A slice of structs, all of whose fields are int. -/
theorem open_int_structs {t e : TypeId} {fs : Array Field} {fuel : Nat} {cs : List Value} {x : DataW H × List MemPlace} (ht : P.underlying t = some (.slice e)) (he : P.underlying e = some (.struct fs))
    (hf : ∀ (j : Nat) (f : Field), fs[j]? = some f → f.offset = j ∧ P.cellsOf f.type = 1 ∧ P.underlying f.type = some (.int .i64)) {k : Nat} (hC : P.cellsOf e = k) (hfk : fs.size = k) (h : DataW.trod enc P w base spare held fuel t cs = some x) :
    cs = [.slice none 0 0] ∨ ∃ (a : Addr) (len cap : Nat), cs = [.slice (some a) len cap] ∧ len ≤ maxLen ∧
      ∀ i j : Nat, ∃ z : Int, i < len → j < k → w.cell? (a.add (i * k + j)) = some (.int .i64 z) := by
  subst hfk
  rcases open_slice ht h with ⟨h0, _⟩ | ⟨a, len, cap, m, n, D, Pl, hcs, hb, hl, hm, hmm, hx, hi⟩
  · exact .inl h0
  · refine .inr ⟨a, len, cap, hcs, by omega, fun i j => ?_⟩
    by_cases hij : i < len ∧ j < fs.size
    · have him : i < m := by rw [hmm]; split <;> omega
      obtain ⟨cs', hc, ht'⟩ := hi i him
      rw [hC] at hc
      obtain ⟨ys, n', _, _, hlen, hyl, hg⟩ := DataW.trod_struct he ht'
      obtain ⟨_, hcl, hat⟩ := World.cells?_some hc
      have hfj : fs[j]? = some fs[j] := Array.getElem?_eq_getElem hij.2
      obtain ⟨ho, hk, hu⟩ := hf j _ hfj
      have h1 := hg j _ hfj
      rw [ho, hk] at h1
      have hyj : ys[j]? = some (ys[j]'(by omega)) := List.getElem?_eq_getElem (by omega)
      rw [hyj] at h1
      obtain ⟨z, hz, _, _⟩ := DataW.trod_int hu h1
      refine ⟨z, fun _ _ => ?_⟩
      rw [← Go.Deep.add_add, hat j hij.2]
      have hd : (cs'.drop j).take 1 = [cs'[j]'(by omega)] := by rw [List.drop_eq_getElem_cons (by omega)]; rfl
      rw [hd] at hz
      rw [List.getElem?_eq_getElem (by omega), List.cons.inj hz |>.1]
    · exact ⟨0, fun h1 h2 => absurd ⟨h1, h2⟩ hij⟩
end
/-- The places of a slice of acts hold these numbers. -/
def RA (w : World) (ao : Option Addr) (A : List (Int × Int × Int)) : Prop := ∀ i, i < A.length → ∃ b o, ao = some ⟨b, o, none⟩ ∧ b < w.heap.size ∧
  w.cell? ⟨b, o + i * 3, none⟩ = some (.int .i64 (A.getD i (0, 0, 0)).1) ∧ w.cell? ⟨b, o + i * 3 + 1, none⟩ = some (.int .i64 (A.getD i (0, 0, 0)).2.1) ∧ w.cell? ⟨b, o + i * 3 + 2, none⟩ = some (.int .i64 (A.getD i (0, 0, 0)).2.2)
/-- The places of a slice of pairs hold these pairs. -/
def RP (w : World) (ao : Option Addr) (A : List (Int × Int)) : Prop := ∀ i, i < A.length → ∃ b o, ao = some ⟨b, o, none⟩ ∧ b < w.heap.size ∧
  w.cell? ⟨b, o + i * 2, none⟩ = some (.int .i64 (A.getD i (0, 0)).1) ∧ w.cell? ⟨b, o + i * 2 + 1, none⟩ = some (.int .i64 (A.getD i (0, 0)).2)
theorem RA.below {B : Nat} {w w' : World} {ao : Option Addr} {zs : List (Int × Int × Int)} (h : RA w ao zs) (hb : RowKit.Below B w w') (hB : ∀ ad, ao = some ad → ad.block < B) : RA w' ao zs := by
  intro i hi
  obtain ⟨b, o, h1, h2, h3, h4, h5⟩ := h i hi
  have hB' : b < B := hB _ h1
  exact ⟨b, o, h1, Nat.lt_of_lt_of_le h2 hb.size, by rw [hb.cell hB']; exact h3, by rw [hb.cell hB']; exact h4, by rw [hb.cell hB']; exact h5⟩
theorem RP.below {B : Nat} {w w' : World} {ao : Option Addr} {zs : List (Int × Int)} (h : RP w ao zs) (hb : RowKit.Below B w w') (hB : ∀ ad, ao = some ad → ad.block < B) : RP w' ao zs := by
  intro i hi
  obtain ⟨b, o, h1, h2, h3, h4⟩ := h i hi
  have hB' : b < B := hB _ h1
  exact ⟨b, o, h1, Nat.lt_of_lt_of_le h2 hb.size, by rw [hb.cell hB']; exact h3, by rw [hb.cell hB']; exact h4⟩
/-- A place that holds something lies in no spot of its cell. -/
theorem plain_addr {w : World} {a : Addr} {v : Value} (h : w.cell? (a.add 0) = some v) : a.spot = none := World.cell?_spot (a := a) (by simpa [Addr.add] using h)
theorem cell_lit {w : World} {b o n : Nat} {v : Option Value} (h : w.cell? ((⟨b, o, none⟩ : Addr).add n) = v) : w.cell? ⟨b, o + n, none⟩ = v := by rwa [Addr.add_lit] at h
end Go.Proofs.Ytbkmfjegbmjknaa

namespace Go.Proofs.Ytbkmfjegbmjknaa
open Go.RowKit Go.Sort
set_option linter.unusedVariables false

theorem res_cells {w : World} {r b : Nat} {o : Obj} {V a0 a1 X0 X1 : Value} {t : TypeId} (h : w.heap[r]? = some (.cells #[a0, a1] t (0, 0))) (hn : r ≠ b) :
    ((((w.alloc o).setCell ⟨b, 1, none⟩ V).setCell ⟨r, 0, none⟩ X0).setCell ⟨r, 1, none⟩ X1).cell? ⟨r, 0, none⟩ = some X0 ∧ ((((w.alloc o).setCell ⟨b, 1, none⟩ V).setCell ⟨r, 0, none⟩ X0).setCell ⟨r, 1, none⟩ X1).cell? ⟨r, 1, none⟩ = some X1 := by
  have hw := set_whole (set_whole (set_other (alloc_whole h o) hn 1 V) 0 X0) 1 X1
  have e0 := cell_whole hw 0
  have e1 := cell_whole hw 1
  exact ⟨by simpa using e0, by simpa using e1⟩
end Go.Proofs.Ytbkmfjegbmjknaa

namespace Go.Proofs.Ytbkmfjegbmjknaa
open Go.RowKit Go.Sort
set_option linter.unusedVariables false

section
variable {w wr w' : World} {b g o cap most : Nat} {L : List (Int × Int)} {x : Int × Int} {cur : Array Value}
end
theorem take_while_of {L : List (Int × Int)} {x : Int × Int} {k : Nat} (hk : k ≤ L.length) (h : ∀ j, j < k → ltP (L.getD j (0, 0)) x = true) (hn : k < L.length → ltP (L.getD k (0, 0)) x = false) : insP x L = L.take k ++ x :: L.drop k := by
  induction L generalizing k with
  | nil => simp at hk; subst hk; rfl
  | cons y L ih =>
    rw [insP_cons]
    cases k with
    | zero =>
      have := hn (by simp)
      simp at this
      rw [if_neg (by simp [this])]
      rfl
    | succ k =>
      have := h 0 (by omega)
      simp at this
      rw [if_pos this, ih (k := k) (by simpa using hk) (fun j hj => by have := h (j + 1) (by omega); simpa using this) (fun hk => by have := hn (by simpa using hk); simpa using this)]
      rfl
theorem take_snocP {L : List (Int × Int)} {k : Nat} (h : k < L.length) : L.take k ++ [L.getD k (0, 0)] = L.take (k + 1) := by
  rw [List.take_succ_eq_append_getElem h, List.getD_eq_getElem?_getD, List.getElem?_eq_getElem h]; rfl
theorem drop_cells {L : List (Int × Int)} {k : Nat} {j : Nat} (h : j < (L.drop k).length) : (L.drop k).getD j (0, 0) = L.getD (k + j) (0, 0) := by
  rw [List.getD_eq_getElem?_getD, List.getD_eq_getElem?_getD, List.getElem?_drop]
end Go.Proofs.Ytbkmfjegbmjknaa
