/- Lists of structs of whole numbers that came in: where each number of each struct lies. -/
import Derived.Test.YtbolpjahmmjllaaPList
import Derived.Deep.Slices
import Derived.Deep.Fields
namespace Go.Proofs.Ytbolpjahmmjllaa
open Go.RowKit Go.WideShapes Go.ChangeShapes Go.Deep
set_option linter.unusedVariables false

section
variable {H : Type} {enc : TypeId × Value → H} {P : Program} {w : World} {base : Nat} {spare : Nat → Bool} {held : Bool}
/-- A slice of structs, all of whose fields are int. -/
theorem open_int_structs {t e : TypeId} {fs : Array Field} {fuel : Nat} {cs : List Value} {x : DataW H × List MemPlace} (ht : P.underlying t = some (.slice e)) (he : P.underlying e = some (.struct fs))
    (hf : ∀ (j : Nat) (f : Field), fs[j]? = some f → f.offset = j ∧ P.cellsOf f.type = 1 ∧ P.underlying f.type = some (.int .i64)) {k : Nat} (hC : P.cellsOf e = k) (hfk : fs.size = k) (h : DataW.trod enc P w base spare held fuel t cs = some x) :
    cs = [.slice none 0 0] ∨ ∃ (a : Addr) (len cap : Nat), cs = [.slice (some a) len cap] ∧ len ≤ maxLen ∧
      ∀ i j : Nat, ∃ z : Int, i < len → j < k → w.cell? (a.add (i * k + j)) = some (.int .i64 z) := by
  subst hfk
  rcases open_slice ht h with ⟨h0, _⟩ | ⟨a, len, cap, m, n, D, Pl, hcs, hb, hl, hm, hmm, hx, hi⟩
  · exact .inl h0
  · refine .inr ⟨a, len, cap, hcs, by omega, fun i j => ?_⟩
    by_cases hij : i < len ∧ j < fs.size
    · have him : i < m := by rw [hmm]; split <;> omega
      obtain ⟨cs', hc, ht'⟩ := hi i him
      rw [hC] at hc
      obtain ⟨ys, n', _, _, hlen, hyl, hg⟩ := DataW.trod_struct he ht'
      obtain ⟨_, hcl, hat⟩ := World.cells?_some hc
      have hfj : fs[j]? = some fs[j] := Array.getElem?_eq_getElem hij.2
      obtain ⟨ho, hk, hu⟩ := hf j _ hfj
      have h1 := hg j _ hfj
      rw [ho, hk] at h1
      have hyj : ys[j]? = some (ys[j]'(by omega)) := List.getElem?_eq_getElem (by omega)
      rw [hyj] at h1
      obtain ⟨z, hz, _, _⟩ := DataW.trod_int hu h1
      refine ⟨z, fun _ _ => ?_⟩
      rw [← Go.Deep.add_add, hat j hij.2]
      have hd : (cs'.drop j).take 1 = [cs'[j]'(by omega)] := by rw [List.drop_eq_getElem_cons (by omega)]; rfl
      rw [hd] at hz
      rw [List.getElem?_eq_getElem (by omega), List.cons.inj hz |>.1]
    · exact ⟨0, fun h1 h2 => absurd ⟨h1, h2⟩ hij⟩
end
/-- The places of a slice of acts hold these numbers. -/
def RA (w : World) (ao : Option Addr) (A : List (Int × Int × Int)) : Prop := ∀ i, i < A.length → ∃ b o, ao = some ⟨b, o, none⟩ ∧ b < w.heap.size ∧
  w.cell? ⟨b, o + i * 3, none⟩ = some (.int .i64 (A.getD i (0, 0, 0)).1) ∧ w.cell? ⟨b, o + i * 3 + 1, none⟩ = some (.int .i64 (A.getD i (0, 0, 0)).2.1) ∧ w.cell? ⟨b, o + i * 3 + 2, none⟩ = some (.int .i64 (A.getD i (0, 0, 0)).2.2)
/-- The places of a slice of pairs hold these pairs. -/
def RP (w : World) (ao : Option Addr) (A : List (Int × Int)) : Prop := ∀ i, i < A.length → ∃ b o, ao = some ⟨b, o, none⟩ ∧ b < w.heap.size ∧
  w.cell? ⟨b, o + i * 2, none⟩ = some (.int .i64 (A.getD i (0, 0)).1) ∧ w.cell? ⟨b, o + i * 2 + 1, none⟩ = some (.int .i64 (A.getD i (0, 0)).2)
theorem RA.below {B : Nat} {w w' : World} {ao : Option Addr} {zs : List (Int × Int × Int)} (h : RA w ao zs) (hb : RowKit.Below B w w') (hB : ∀ ad, ao = some ad → ad.block < B) : RA w' ao zs := by
  intro i hi
  obtain ⟨b, o, h1, h2, h3, h4, h5⟩ := h i hi
  have hB' : b < B := hB _ h1
  exact ⟨b, o, h1, Nat.lt_of_lt_of_le h2 hb.size, by rw [hb.cell hB']; exact h3, by rw [hb.cell hB']; exact h4, by rw [hb.cell hB']; exact h5⟩
theorem RP.below {B : Nat} {w w' : World} {ao : Option Addr} {zs : List (Int × Int)} (h : RP w ao zs) (hb : RowKit.Below B w w') (hB : ∀ ad, ao = some ad → ad.block < B) : RP w' ao zs := by
  intro i hi
  obtain ⟨b, o, h1, h2, h3, h4⟩ := h i hi
  have hB' : b < B := hB _ h1
  exact ⟨b, o, h1, Nat.lt_of_lt_of_le h2 hb.size, by rw [hb.cell hB']; exact h3, by rw [hb.cell hB']; exact h4⟩
/-- A place that holds something lies in no spot of its cell. -/
theorem plain_addr {w : World} {a : Addr} {v : Value} (h : w.cell? (a.add 0) = some v) : a.spot = none := World.cell?_spot (a := a) (by simpa [Addr.add] using h)
theorem cell_lit {w : World} {b o n : Nat} {v : Option Value} (h : w.cell? ((⟨b, o, none⟩ : Addr).add n) = v) : w.cell? ⟨b, o + n, none⟩ = v := by rwa [Addr.add_lit] at h
theorem cellsPair : Try.prog.cellsOf 99 = 2 := by kernel_rfl
theorem viewP {H : Type} {enc : TypeId × Value → H} {W : World} {fuel : Nat} {a0 : Option Addr} {len cap : Nat} {d : DataW H} {p : List MemPlace}
    (hf : DataW.trod enc Try.prog W 0 (fun _ => true) true fuel 97 (Value.slice a0 len cap).cells.toList = some (d, p)) :
    ∃ Z : List (Int × Int), Z.length = len ∧ len ≤ maxLen ∧ RP W a0 Z := by
  rcases open_int_structs Try.underlying97 Try.underlying99 (fun j f hj => by
      match j, hj with
      | 0, hj => simp at hj; subst hj; exact ⟨rfl, cellsInt, Try.underlying3⟩
      | 1, hj => simp at hj; subst hj; exact ⟨rfl, cellsInt, Try.underlying3⟩
      | j + 2, hj => simp at hj) cellsPair rfl hf with hcs | ⟨a, len', cap', hcs, hm, hc⟩
  · simp [Value.cells] at hcs
    obtain ⟨rfl, rfl, rfl⟩ := hcs
    exact ⟨[], rfl, Nat.zero_le _, fun i hi => absurd hi (by simp)⟩
  · simp [Value.cells] at hcs
    obtain ⟨rfl, rfl, rfl⟩ := hcs
    refine ⟨(List.range len).map fun i => (Classical.choose (hc i 0), Classical.choose (hc i 1)), by simp, hm, fun i hi => ?_⟩
    have hi' : i < len := by simpa using hi
    have h0 := Classical.choose_spec (hc i 0) hi' (show (0 : Nat) < 2 by omega)
    have h1 := Classical.choose_spec (hc i 1) hi' (show (1 : Nat) < 2 by omega)
    have hb := block_lt_of_cell h0
    rw [add_block] at hb
    have h00 := Classical.choose_spec (hc 0 0) (by omega) (show (0 : Nat) < 2 by omega)
    have hsp := plain_addr (a := a) (by simpa using h00)
    obtain ⟨ab, ax, sp⟩ := a
    simp only at hsp
    subst hsp
    replace h0 := cell_lit h0
    replace h1 := cell_lit h1
    refine ⟨ab, ax, rfl, hb, ?_, ?_⟩
    · rw [List.getD_eq_getElem?_getD, List.getElem?_map, List.getElem?_range hi']; exact h0
    · rw [List.getD_eq_getElem?_getD, List.getElem?_map, List.getElem?_range hi']; exact h1
end Go.Proofs.Ytbolpjahmmjllaa
