/- Lists of structs of whole numbers that came in, and keys: which numbers they are, and where they lie. -/
import Derived.Test.YtieomjkiabfhcaaTMerge
import Derived.OpenShut
import Derived.ChangeSame
import Derived.ProofKit
import Derived.Deep.Slices
import Derived.Deep.Fields
import Derived.Lib.SmallJoins
namespace Go.Proofs.Ytieomjkiabfhcaa
open Go.RowKit Go.WideShapes Go.ChangeShapes Go.Deep
set_option linter.unusedVariables false

theorem add_block (a : Addr) (n : Nat) : (a.add n).block = a.block := by unfold Addr.add; split <;> rfl
theorem plain_addr {w : World} {a : Addr} {v : Value} (h : w.cell? (a.add 0) = some v) : a.spot = none := World.cell?_spot (a := a) (by simpa [Addr.add] using h)
theorem cell_lit {w : World} {b o n : Nat} {v : Option Value} (h : w.cell? ((⟨b, o, none⟩ : Addr).add n) = v) : w.cell? ⟨b, o + n, none⟩ = v := by rwa [Addr.add_lit] at h
section
variable {H : Type} {enc : TypeId × Value → H} {P : Program} {w : World} {base : Nat} {spare : Nat → Bool} {held : Bool}
/-- A slice of structs, all of whose fields are int. -/
theorem open_int_structs {t e : TypeId} {fs : Array Field} {fuel : Nat} {cs : List Value} {x : DataW H × List MemPlace} (ht : P.underlying t = some (.slice e)) (he : P.underlying e = some (.struct fs))
    (hf : ∀ (j : Nat) (f : Field), fs[j]? = some f → f.offset = j ∧ P.cellsOf f.type = 1 ∧ P.underlying f.type = some (.int .i64)) {k : Nat} (hC : P.cellsOf e = k) (hfk : fs.size = k) (h : DataW.trod enc P w base spare held fuel t cs = some x) :
    cs = [.slice none 0 0] ∨ ∃ (a : Addr) (len cap : Nat), cs = [.slice (some a) len cap] ∧ len ≤ maxLen ∧
      ∀ i j : Nat, ∃ z : Int, i < len → j < k → w.cell? (a.add (i * k + j)) = some (.int .i64 z) ∧ in64 z := by
  subst hfk
  rcases open_slice ht h with ⟨h0, _⟩ | ⟨a, len, cap, m, n, D, Pl, hcs, hb, hl, hm, hmm, hx, hi⟩
  · exact .inl h0
  · refine .inr ⟨a, len, cap, hcs, by omega, fun i j => ?_⟩
    by_cases hij : i < len ∧ j < fs.size
    · have him : i < m := by rw [hmm]; split <;> omega
      obtain ⟨cs', hc, ht'⟩ := hi i him
      rw [hC] at hc
      obtain ⟨ys, n', _, _, hlen, hyl, hg⟩ := DataW.trod_struct he ht'
      obtain ⟨_, hcl, hat⟩ := World.cells?_some hc
      have hfj : fs[j]? = some fs[j] := Array.getElem?_eq_getElem hij.2
      obtain ⟨ho, hk, hu⟩ := hf j _ hfj
      have h1 := hg j _ hfj
      rw [ho, hk] at h1
      have hyj : ys[j]? = some (ys[j]'(by omega)) := List.getElem?_eq_getElem (by omega)
      rw [hyj] at h1
      obtain ⟨z, hz, _, hwf⟩ := DataW.trod_int hu h1
      refine ⟨z, fun _ _ => ⟨?_, in64_of_wf hwf⟩⟩
      rw [← Go.Deep.add_add, hat j hij.2]
      have hd : (cs'.drop j).take 1 = [cs'[j]'(by omega)] := by rw [List.drop_eq_getElem_cons (by omega)]; rfl
      rw [hd] at hz
      rw [List.getElem?_eq_getElem (by omega), List.cons.inj hz |>.1]
    · exact ⟨0, fun h1 h2 => absurd ⟨h1, h2⟩ hij⟩
end
/-- .. as a list. -/
theorem rows_of {α : Type} {enc : α → List Value} {k : Nat} (hk0 : 0 < k) (mk : (Nat → Int) → α) (hmk : ∀ f j, j < k → (enc (mk f))[j]? = some (.int .i64 (f j))) {W : World} {a : Addr} {len : Nat}
    (hc : ∀ i j : Nat, ∃ z : Int, i < len → j < k → W.cell? (a.add (i * k + j)) = some (.int .i64 z) ∧ in64 z) :
    ∃ Z : List α, Z.length = len ∧ Row enc k W (some a) Z ∧ ∀ x ∈ Z, ∃ f : Nat → Int, x = mk f ∧ ∀ j, j < k → in64 (f j) := by
  refine ⟨(List.range len).map fun i => mk (fun j => Classical.choose (hc i j)), by simp, fun i hi => ?_, fun x hx => ?_⟩
  · have hi' : i < len := by simpa using hi
    have h0 := (Classical.choose_spec (hc i 0) hi' hk0).1
    have hb := block_lt_of_cell h0
    rw [add_block] at hb
    have h00 := (Classical.choose_spec (hc 0 0) (by omega) hk0).1
    have hsp := plain_addr (a := a) (by simpa using h00)
    obtain ⟨ab, ax, sp⟩ := a
    simp only at hsp
    subst hsp
    refine ⟨ab, ax, rfl, hb, fun j hj => ?_⟩
    have h1 := (Classical.choose_spec (hc i j) hi' hj).1
    have h2 := cell_lit h1
    rw [Nat.add_assoc, h2, List.getElem_map, List.getElem_range, hmk _ j hj]
  · obtain ⟨i, hi, rfl⟩ := List.mem_map.1 hx
    refine ⟨_, rfl, fun j hj => ?_⟩
    rw [List.mem_range] at hi
    exact (Classical.choose_spec (hc i j) hi hj).2
theorem viewArcs {H : Type} {enc : TypeId × Value → H} {W : World} {fuel : Nat} {a0 : Option Addr} {len cap : Nat} {d : DataW H} {p : List MemPlace}
    (hf : DataW.trod enc Try.prog W 0 (fun _ => true) true fuel 22 (Value.slice a0 len cap).cells.toList = some (d, p)) :
    ∃ Z : List ArcT, Z.length = len ∧ len ≤ maxLen ∧ Row encA 4 W a0 Z ∧ OkA Z := by
  rcases open_int_structs Try.underlying22 Try.underlying52 (fun j f hj => by
      match j, hj with
      | 0, hj => simp at hj; subst hj; exact ⟨rfl, cellsInt, Try.underlying3⟩
      | 1, hj => simp at hj; subst hj; exact ⟨rfl, cellsInt, Try.underlying3⟩
      | 2, hj => simp at hj; subst hj; exact ⟨rfl, cellsInt, Try.underlying3⟩
      | 3, hj => simp at hj; subst hj; exact ⟨rfl, cellsInt, Try.underlying3⟩
      | j + 4, hj => simp at hj) cellsArc rfl hf with hcs | ⟨a, len', cap', hcs, hm, hc⟩
  · simp [Value.cells] at hcs
    obtain ⟨rfl, rfl, rfl⟩ := hcs
    exact ⟨[], rfl, Nat.zero_le _, Row.nil _ _, fun x hx => by simp at hx⟩
  · simp [Value.cells] at hcs
    obtain ⟨rfl, rfl, rfl⟩ := hcs
    obtain ⟨Z, h1, h2, h3⟩ := rows_of (enc := encA) (by omega) (fun f => (f 0, f 1, f 2, f 3)) (fun f j hj => by
      match j, hj with
      | 0, _ => rfl
      | 1, _ => rfl
      | 2, _ => rfl
      | 3, _ => rfl) hc
    refine ⟨Z, h1, hm, h2, fun x hx => ?_⟩
    obtain ⟨f, rfl, hi⟩ := h3 x hx
    exact ⟨hi 0 (by omega), hi 1 (by omega), hi 2 (by omega), hi 3 (by omega)⟩
theorem viewMoves {H : Type} {enc : TypeId × Value → H} {W : World} {fuel : Nat} {a0 : Option Addr} {len cap : Nat} {d : DataW H} {p : List MemPlace}
    (hf : DataW.trod enc Try.prog W 0 (fun _ => true) true fuel 45 (Value.slice a0 len cap).cells.toList = some (d, p)) :
    ∃ Z : List (Int × Int × Int), Z.length = len ∧ len ≤ maxLen ∧ Row encK 3 W a0 Z ∧ ∀ x ∈ Z, okK x := by
  rcases open_int_structs Try.underlying45 Try.underlying56 (fun j f hj => by
      match j, hj with
      | 0, hj => simp at hj; subst hj; exact ⟨rfl, cellsInt, Try.underlying3⟩
      | 1, hj => simp at hj; subst hj; exact ⟨rfl, cellsInt, Try.underlying3⟩
      | 2, hj => simp at hj; subst hj; exact ⟨rfl, cellsInt, Try.underlying3⟩
      | j + 3, hj => simp at hj) cellsMove rfl hf with hcs | ⟨a, len', cap', hcs, hm, hc⟩
  · simp [Value.cells] at hcs
    obtain ⟨rfl, rfl, rfl⟩ := hcs
    exact ⟨[], rfl, Nat.zero_le _, Row.nil _ _, fun x hx => by simp at hx⟩
  · simp [Value.cells] at hcs
    obtain ⟨rfl, rfl, rfl⟩ := hcs
    obtain ⟨Z, h1, h2, h3⟩ := rows_of (enc := encK) (by omega) (fun f => (f 0, f 1, f 2)) (fun f j hj => by
      match j, hj with
      | 0, _ => rfl
      | 1, _ => rfl
      | 2, _ => rfl) hc
    refine ⟨Z, h1, hm, h2, fun x hx => ?_⟩
    obtain ⟨f, rfl, hi⟩ := h3 x hx
    exact ⟨hi 0 (by omega), hi 1 (by omega), hi 2 (by omega)⟩
theorem viewSlots {H : Type} {enc : TypeId × Value → H} {W : World} {fuel : Nat} {a0 : Option Addr} {len cap : Nat} {d : DataW H} {p : List MemPlace}
    (hf : DataW.trod enc Try.prog W 0 (fun _ => true) true fuel 41 (Value.slice a0 len cap).cells.toList = some (d, p)) :
    ∃ Z : List (Int × Int), Z.length = len ∧ len ≤ maxLen ∧ Row encP 2 W a0 Z ∧ ∀ x ∈ Z, okP x := by
  rcases open_int_structs Try.underlying41 Try.underlying74 (fun j f hj => by
      match j, hj with
      | 0, hj => simp at hj; subst hj; exact ⟨rfl, cellsInt, Try.underlying3⟩
      | 1, hj => simp at hj; subst hj; exact ⟨rfl, cellsInt, Try.underlying3⟩
      | j + 2, hj => simp at hj) cellsSlot rfl hf with hcs | ⟨a, len', cap', hcs, hm, hc⟩
  · simp [Value.cells] at hcs
    obtain ⟨rfl, rfl, rfl⟩ := hcs
    exact ⟨[], rfl, Nat.zero_le _, Row.nil _ _, fun x hx => by simp at hx⟩
  · simp [Value.cells] at hcs
    obtain ⟨rfl, rfl, rfl⟩ := hcs
    obtain ⟨Z, h1, h2, h3⟩ := rows_of (enc := encP) (by omega) (fun f => (f 0, f 1)) (fun f j hj => by
      match j, hj with
      | 0, _ => rfl
      | 1, _ => rfl) hc
    refine ⟨Z, h1, hm, h2, fun x hx => ?_⟩
    obtain ⟨f, rfl, hi⟩ := h3 x hx
    exact ⟨hi 0 (by omega), hi 1 (by omega)⟩
set_option maxRecDepth 100000 in
theorem viewKey {H : Type} {enc : TypeId × Value → H} {W : World} {base : Nat} {v : Value} {d : DataW H} {p : List MemPlace} (hv : Value.okWide Try.prog W .any base 24 v)
    (h : DataW.Trod enc Try.prog W 0 (fun _ => true) true 24 v d p) : ∃ k : Int × Int × Int, v = .agg #[.int .i64 k.1, .int .i64 k.2.1, .int .i64 k.2.2] ∧ okK k := by
  obtain ⟨v0, v1, v2, y0, y1, y2, n, rfl, _, _, t0, t1, t2⟩ := Joins.open_agg3 Try.underlying24 (by kernel_rfl) cellsKey hv h
  obtain ⟨a, ha, _, wa⟩ := DataW.trod_int Try.underlying3 t0
  obtain ⟨b, hb, _, wb⟩ := DataW.trod_int Try.underlying3 t1
  obtain ⟨c, hc, _, wc⟩ := DataW.trod_int Try.underlying3 t2
  cases ha; cases hb; cases hc
  exact ⟨(a, b, c), rfl, in64_of_wf wa, in64_of_wf wb, in64_of_wf wc⟩
end Go.Proofs.Ytieomjkiabfhcaa
