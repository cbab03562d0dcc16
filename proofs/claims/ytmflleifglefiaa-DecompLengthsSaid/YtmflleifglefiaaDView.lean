/- Rows of chains that came in: which they are, and where they lie. -/
import Derived.Test.YtmflleifglefiaaSFrame
import Derived.Test.YtmflleifglefiaaDRow
namespace Go.Proofs.Ytmflleifglefiaa
open Go.ChangeShapes Go.WideShapes Go.ChangeAt Go.RowKit Go.ChangeMaps
set_option linter.unusedVariables false

theorem cellsIntsD : Try.prog.cellsOf 25 = 1 := by kernel_rfl
theorem cellsChainD : Try.prog.cellsOf 49 = 2 := by kernel_rfl
theorem intsIn {H : Type} {enc : TypeId × Value → H} {W : World} {fuel : Nat} {v : Value} {x : DataW H × List MemPlace}
    (hf : DataW.trod enc Try.prog W 0 (fun _ => true) true fuel 25 [v] = some x) : ∃ (ao : Option Addr) (cap : Nat) (F : List Int), v = .slice ao F.length cap ∧ F.length ≤ maxLen ∧ Lst encI W ao F := by
  rcases Go.Deep.open_slice Try.underlying25 hf with ⟨hcs, _⟩ | ⟨a, l0, c0, m, n, D, Pl, hcs, hb, hl, hm, hmm, hx, hi⟩
  · cases hcs
    exact ⟨none, 0, [], rfl, Nat.zero_le _, Lst.nil _ _⟩
  · cases hcs
    have hc : ∀ i j : Nat, ∃ z : Int, i < l0 → j < 1 → W.cell? (a.add (i * 1 + j)) = some (.int .i64 z) ∧ in64 z := by
      intro i j
      by_cases hij : i < l0 ∧ j < 1
      · obtain ⟨cs', hc, ht'⟩ := hi i (by rw [hmm]; split <;> omega)
        rw [cellsIntQ] at hc
        obtain ⟨_, hcl, hat⟩ := World.cells?_some hc
        obtain ⟨z, hz, _, hwf⟩ := DataW.trod_int Try.underlying3 ht'
        refine ⟨z, fun _ _ => ⟨?_, wf_i64Q hwf⟩⟩
        obtain rfl : j = 0 := by omega
        rw [← Go.Deep.add_add, hat 0 (by omega), hz]; rfl
      · exact ⟨0, fun h1 h2 => absurd ⟨h1, h2⟩ hij⟩
    obtain ⟨F, h1, h2, h3⟩ := rows_of (enc := fun x : Int => [encI x]) (by omega) (fun f => f 0) (fun f j hj => by obtain rfl : j = 0 := (by omega); rfl) hc
    subst h1
    exact ⟨some a, c0, F, rfl, by omega, lst_of_row h2⟩
set_option maxRecDepth 100000 in
/-- A row of chains that came in. -/
theorem viewChains {H : Type} {enc : TypeId × Value → H} {W : World} {base : Nat} {v : Value} {d : DataW H} {p : List MemPlace} (hv : Value.okWide Try.prog W .any base 27 v)
    (h : DataW.Trod enc Try.prog W 0 (fun _ => true) true 27 v d p) : ∃ (ao : Option Addr) (len cap : Nat) (X : List ChT), v = .slice ao len cap ∧ X.length = len ∧ len ≤ maxLen ∧ Row encC 2 W ao X ∧ ∀ x ∈ X, Lst encI W x.1.1 x.2.1 ∧ x.2.1.length ≤ maxLen := by
  obtain ⟨a0, l0, c0, rfl⟩ := okWide_slice Try.underlying27 hv
  obtain ⟨fu, hf⟩ := h
  rcases Go.Deep.open_slice Try.underlying27 hf with ⟨hcs, _⟩ | ⟨a, len, cap, m, n, D, Pl, hcs, hb, hl, hm, hmm, hx, hi⟩
  · simp [Value.cells] at hcs
    obtain ⟨rfl, rfl, rfl⟩ := hcs
    exact ⟨none, 0, 0, [], rfl, rfl, Nat.zero_le _, Row.nil _ _, fun x hx => by cases hx⟩
  · simp [Value.cells] at hcs
    obtain ⟨rfl, rfl, rfl⟩ := hcs
    have hc : ∀ i : Nat, ∃ x : ChT, i < l0 → W.cell? (a.add (i * 2)) = some (.slice x.1.1 x.2.1.length x.1.2) ∧ W.cell? (a.add (i * 2 + 1)) = some (.int .i64 x.2.2) ∧ Lst encI W x.1.1 x.2.1 ∧ x.2.1.length ≤ maxLen := by
      intro i
      by_cases hil : i < l0
      · obtain ⟨cs', hc, ht'⟩ := hi i (by rw [hmm]; split <;> omega)
        rw [cellsChainD] at hc
        obtain ⟨_, hcl, hat⟩ := World.cells?_some hc
        obtain ⟨y0, y1, n', _, _, t0, t1⟩ := trod_struct2 Try.underlying49 ht'
        match cs', hcl with
        | [c0, c1], _ =>
          obtain ⟨z, hz, _, _⟩ := DataW.trod_int Try.underlying3 t1
          obtain ⟨xa, xc, A, hA, hAl, hAr⟩ := intsIn (v := c0) (x := y0) (by simpa [cellsIntsD] using t0)
          have hz' : c1 = .int .i64 z := by simpa [cellsIntQ] using hz
          refine ⟨((xa, xc), (A, z)), fun _ => ⟨?_, ?_, hAr, hAl⟩⟩
          · have h0 := hat 0 (by omega)
            rw [Go.Deep.add_add, Nat.add_zero] at h0
            rw [h0, hA]; rfl
          · have h1 := hat 1 (by omega)
            rw [Go.Deep.add_add] at h1
            rw [h1, hz']; rfl
      · exact ⟨((none, 0), ([], 0)), fun h => absurd h hil⟩
    refine ⟨some a, l0, c0, (List.range l0).map fun i => Classical.choose (hc i), rfl, by simp, by omega, fun i hi' => ?_, fun x hx => ?_⟩
    · have hil : i < l0 := by simpa using hi'
      obtain ⟨h0, h1, _, _⟩ := Classical.choose_spec (hc i) hil
      have h00 := (Classical.choose_spec (hc 0) (by omega)).1
      have hsp := plain_addrQ (a := a) (by simpa using h00)
      have hbl := block_lt_of_cell h0
      rw [add_blockQ] at hbl
      obtain ⟨ab, ax, sp⟩ := a
      simp only at hsp
      subst hsp
      refine ⟨ab, ax, rfl, hbl, fun j hj => ?_⟩
      rw [List.getElem_map, List.getElem_range]
      match j, hj with
      | 0, _ => have := cell_litQ h0; rw [Nat.add_zero, this]; rfl
      | 1, _ => have := cell_litQ h1; rw [Nat.add_assoc, this]; rfl
    · obtain ⟨i, hi, rfl⟩ := List.mem_map.1 hx
      rw [List.mem_range] at hi
      exact (Classical.choose_spec (hc i) hi).2.2
end Go.Proofs.Ytmflleifglefiaa
