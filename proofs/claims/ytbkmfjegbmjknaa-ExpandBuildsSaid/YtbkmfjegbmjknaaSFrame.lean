/- Lists of numbers, steps and lists of steps that came in: which they are, and where they lie. -/
import Derived.Test.YtbkmfjegbmjknaaAFrame
import Derived.Test.YtbkmfjegbmjknaaBD
namespace Go.Proofs.Ytbkmfjegbmjknaa
open Go.ChangeShapes Go.WideShapes Go.ChangeAt Go.RowKit Go.ChangeMaps
set_option linter.unusedVariables false

theorem cellsBool : Try.prog.cellsOf 4 = 1 := by kernel_rfl
theorem cellsStep : Try.prog.cellsOf 150 = 2 := by kernel_rfl
theorem lst_of_row {W : World} {ao : Option Addr} {F : List Int} (h : Row (fun x : Int => [encI x]) 1 W ao F) : Lst encI W ao F := by
  intro i hi
  obtain ⟨b, o, e, hb, hc⟩ := h i hi
  refine ⟨b, o, e, hb, ?_⟩
  have := hc 0 (by omega)
  rw [Nat.mul_one, Nat.add_zero] at this
  exact this
set_option maxRecDepth 100000 in
/-- A list of numbers that came in. -/
theorem viewInts {H : Type} {enc : TypeId × Value → H} {W : World} {base : Nat} {v : Value} {d : DataW H} {p : List MemPlace} (hv : Value.okWide Try.prog W .any base 42 v)
    (h : DataW.Trod enc Try.prog W 0 (fun _ => true) true 42 v d p) : ∃ (ao : Option Addr) (len cap : Nat) (F : List Int), v = .slice ao len cap ∧ F.length = len ∧ len ≤ maxLen ∧ Lst encI W ao F ∧ (ao = none → cap = 0) ∧ ∀ x ∈ F, in64 x := by
  obtain ⟨a0, l0, c0, rfl⟩ := okWide_slice Try.underlying42 hv
  obtain ⟨fu, hf⟩ := h
  rcases Go.Deep.open_slice Try.underlying42 hf with ⟨hcs, _⟩ | ⟨a, len, cap, m, n, D, Pl, hcs, hb, hl, hm, hmm, hx, hi⟩
  · simp [Value.cells] at hcs
    obtain ⟨rfl, rfl, rfl⟩ := hcs
    exact ⟨none, 0, 0, [], rfl, rfl, Nat.zero_le _, Lst.nil _ _, fun _ => rfl, fun x hx => by cases hx⟩
  · simp [Value.cells] at hcs
    obtain ⟨rfl, rfl, rfl⟩ := hcs
    have hc : ∀ i j : Nat, ∃ z : Int, i < l0 → j < 1 → W.cell? (a.add (i * 1 + j)) = some (.int .i64 z) ∧ in64 z := by
      intro i j
      by_cases hij : i < l0 ∧ j < 1
      · obtain ⟨cs', hc, ht'⟩ := hi i (by rw [hmm]; split <;> omega)
        rw [cellsIntQ] at hc
        obtain ⟨_, hcl, hat⟩ := World.cells?_some hc
        obtain ⟨z, hz, _, hwf⟩ := DataW.trod_int Try.underlying3 ht'
        refine ⟨z, fun _ _ => ⟨?_, wf_i64Q hwf⟩⟩
        obtain rfl : j = 0 := by omega
        rw [← Go.Deep.add_add, hat 0 (by omega), hz]; rfl
      · exact ⟨0, fun h1 h2 => absurd ⟨h1, h2⟩ hij⟩
    obtain ⟨F, h1, h2, h3⟩ := rows_of (enc := fun x : Int => [encI x]) (by omega) (fun f => f 0) (fun f j hj => by obtain rfl : j = 0 := (by omega); rfl) hc
    refine ⟨some a, l0, c0, F, rfl, h1, by omega, lst_of_row h2, (fun e => by cases e), fun x hx => ?_⟩
    obtain ⟨f, rfl, hf⟩ := h3 x hx
    exact hf 0 (by omega)
set_option maxRecDepth 100000 in
/-- A list of steps that came in. -/
theorem viewSteps {H : Type} {enc : TypeId × Value → H} {W : World} {base : Nat} {v : Value} {d : DataW H} {p : List MemPlace} (hv : Value.okWide Try.prog W .any base 105 v)
    (h : DataW.Trod enc Try.prog W 0 (fun _ => true) true 105 v d p) : ∃ (ao : Option Addr) (len cap : Nat) (L : List StepT), v = .slice ao len cap ∧ L.length = len ∧ len ≤ maxLen ∧ Row encS 2 W ao L := by
  obtain ⟨a0, l0, c0, rfl⟩ := okWide_slice Try.underlying105 hv
  obtain ⟨fu, hf⟩ := h
  rcases Go.Deep.open_slice Try.underlying105 hf with ⟨hcs, _⟩ | ⟨a, len, cap, m, n, D, Pl, hcs, hb, hl, hm, hmm, hx, hi⟩
  · simp [Value.cells] at hcs
    obtain ⟨rfl, rfl, rfl⟩ := hcs
    exact ⟨none, 0, 0, [], rfl, rfl, Nat.zero_le _, Row.nil _ _⟩
  · simp [Value.cells] at hcs
    obtain ⟨rfl, rfl, rfl⟩ := hcs
    have hc : ∀ i : Nat, ∃ x : StepT, i < l0 → W.cell? (a.add (i * 2)) = some (.int .i64 x.1) ∧ W.cell? (a.add (i * 2 + 1)) = some (.bool x.2) := by
      intro i
      by_cases hil : i < l0
      · obtain ⟨cs', hc, ht'⟩ := hi i (by rw [hmm]; split <;> omega)
        rw [cellsStep] at hc
        obtain ⟨_, hcl, hat⟩ := World.cells?_some hc
        obtain ⟨y0, y1, n', _, _, t0, t1⟩ := trod_struct2 Try.underlying150 ht'
        match cs', hcl with
        | [c0, c1], _ =>
          obtain ⟨z, hz, _, _⟩ := DataW.trod_int Try.underlying3 t0
          obtain ⟨q, hq, _⟩ := DataW.trod_bool Try.underlying4 t1
          have hz' : c0 = .int .i64 z := by simpa [cellsIntQ] using hz
          have hq' : c1 = .bool q := by simpa [cellsBool] using hq
          refine ⟨(z, q), fun _ => ⟨?_, ?_⟩⟩
          · have h0 := hat 0 (by omega)
            rw [Go.Deep.add_add, Nat.add_zero] at h0
            rw [h0, hz']; rfl
          · have h1 := hat 1 (by omega)
            rw [Go.Deep.add_add] at h1
            rw [h1, hq']; rfl
      · exact ⟨(0, false), fun h => absurd h hil⟩
    refine ⟨some a, l0, c0, (List.range l0).map fun i => Classical.choose (hc i), rfl, by simp, by omega, fun i hi' => ?_⟩
    have hil : i < l0 := by simpa using hi'
    obtain ⟨h0, h1⟩ := Classical.choose_spec (hc i) hil
    have h00 := (Classical.choose_spec (hc 0) (by omega)).1
    have hsp := plain_addrQ (a := a) (by simpa using h00)
    have hbl := block_lt_of_cell h0
    rw [add_blockQ] at hbl
    obtain ⟨ab, ax, sp⟩ := a
    simp only at hsp
    subst hsp
    refine ⟨ab, ax, rfl, hbl, fun j hj => ?_⟩
    rw [List.getElem_map, List.getElem_range]
    match j, hj with
    | 0, _ => have := cell_litQ h0; rw [Nat.add_zero, this]; rfl
    | 1, _ => have := cell_litQ h1; rw [Nat.add_assoc, this]; rfl
set_option maxRecDepth 100000 in
/-- A step that came in. -/
theorem viewStep {H : Type} {enc : TypeId × Value → H} {W : World} {base : Nat} {v : Value} {d : DataW H} {p : List MemPlace} (hv : Value.okWide Try.prog W .any base 150 v)
    (h : DataW.Trod enc Try.prog W 0 (fun _ => true) true 150 v d p) : ∃ (i : Int) (q : Bool), v = .agg #[.int .i64 i, .bool q] ∧ in64 i := by
  obtain ⟨v0, v1, y0, y1, n, rfl, _, _, t0, t1⟩ := Joins.open_agg2 Try.underlying150 (by kernel_rfl) cellsStep hv h
  obtain ⟨a, ha, _, wa⟩ := DataW.trod_int Try.underlying3 t0
  obtain ⟨b, hb, _⟩ := DataW.trod_bool Try.underlying4 t1
  cases ha; cases hb
  exact ⟨a, b, rfl, wf_i64Q wa⟩
end Go.Proofs.Ytbkmfjegbmjknaa
