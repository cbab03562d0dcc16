/- A list of bools that came in. -/
import Derived.Test.YtbgnoaijgngifaaSFrame
import Derived.Test.YtbgnoaijgngifaaARord
namespace Go.Proofs.Ytbgnoaijgngifaa
open Go.ChangeShapes Go.WideShapes Go.ChangeAt Go.RowKit Go.ChangeMaps
set_option linter.unusedVariables false

set_option maxRecDepth 100000 in
theorem viewBools {H : Type} {enc : TypeId × Value → H} {W : World} {base : Nat} {v : Value} {d : DataW H} {p : List MemPlace} (hv : Value.okWide Try.prog W .any base 26 v)
    (h : DataW.Trod enc Try.prog W 0 (fun _ => true) true 26 v d p) : ∃ (ao : Option Addr) (len cap : Nat) (S : List Bool), v = .slice ao len cap ∧ S.length = len ∧ len ≤ maxLen ∧ Lst encB W ao S ∧ (ao = none → cap = 0) := by
  obtain ⟨a0, l0, c0, rfl⟩ := okWide_slice Try.underlying26 hv
  obtain ⟨fu, hf⟩ := h
  rcases Go.Deep.open_slice Try.underlying26 hf with ⟨hcs, _⟩ | ⟨a, len, cap, m, n, D, Pl, hcs, hb, hl, hm, hmm, hx, hi⟩
  · simp [Value.cells] at hcs
    obtain ⟨rfl, rfl, rfl⟩ := hcs
    exact ⟨none, 0, 0, [], rfl, rfl, Nat.zero_le _, Lst.nil _ _, fun _ => rfl⟩
  · simp [Value.cells] at hcs
    obtain ⟨rfl, rfl, rfl⟩ := hcs
    have hc : ∀ i : Nat, ∃ z : Bool, i < l0 → W.cell? (a.add i) = some (.bool z) := by
      intro i
      by_cases hil : i < l0
      · obtain ⟨cs', hc, ht'⟩ := hi i (by rw [hmm]; split <;> omega)
        rw [cellsBool] at hc
        obtain ⟨_, hcl, hat⟩ := World.cells?_some hc
        obtain ⟨z, hz, _⟩ := DataW.trod_bool Try.underlying4 ht'
        refine ⟨z, fun _ => ?_⟩
        have h0 := hat 0 (by omega)
        rw [Go.Deep.add_add, Nat.mul_one, Nat.add_zero, hz] at h0
        exact h0
      · exact ⟨false, fun h1 => absurd h1 hil⟩
    refine ⟨some a, l0, c0, (List.range l0).map fun i => Classical.choose (hc i), rfl, by simp, by omega, fun i hi' => ?_, fun e => by cases e⟩
    have hil : i < l0 := by simpa using hi'
    have h0 := Classical.choose_spec (hc i) hil
    have hb' := block_lt_of_cell h0
    rw [add_blockQ] at hb'
    have h00 := Classical.choose_spec (hc 0) (by omega)
    have hsp := plain_addrQ (a := a) h00
    obtain ⟨ab, ax, sp⟩ := a
    simp only at hsp
    subst hsp
    refine ⟨ab, ax, rfl, hb', ?_⟩
    rw [List.getElem_map, List.getElem_range]
    exact cell_litQ h0
end Go.Proofs.Ytbgnoaijgngifaa
