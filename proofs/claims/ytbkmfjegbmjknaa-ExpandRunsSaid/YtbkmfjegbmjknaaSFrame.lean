/- Lists of numbers, steps and lists of steps that came in: which they are, and where they lie. -/
import Derived.Test.YtbkmfjegbmjknaaAFrame
import Derived.Test.YtbkmfjegbmjknaaBD
namespace Go.Proofs.Ytbkmfjegbmjknaa
open Go.ChangeShapes Go.WideShapes Go.ChangeAt Go.RowKit Go.ChangeMaps
set_option linter.unusedVariables false
theorem lst_of_row {W : World} {ao : Option Addr} {F : List Int} (h : Row (fun x : Int => [encI x]) 1 W ao F) : Lst encI W ao F := by
  intro i hi
  obtain ⟨b, o, e, hb, hc⟩ := h i hi
  refine ⟨b, o, e, hb, ?_⟩
  have := hc 0 (by omega)
  rw [Nat.mul_one, Nat.add_zero] at this
  exact this
set_option maxRecDepth 100000 in
theorem viewInts {H : Type} {enc : TypeId × Value → H} {W : World} {base : Nat} {v : Value} {d : DataW H} {p : List MemPlace} (hv : Value.okWide Try.prog W .any base 42 v)
    (h : DataW.Trod enc Try.prog W 0 (fun _ => true) true 42 v d p) : ∃ (ao : Option Addr) (len cap : Nat) (F : List Int), v = .slice ao len cap ∧ F.length = len ∧ len ≤ maxLen ∧ Lst encI W ao F ∧ (ao = none → cap = 0) ∧ ∀ x ∈ F, in64 x := by
  obtain ⟨a0, l0, c0, rfl⟩ := okWide_slice Try.underlying42 hv
  obtain ⟨fu, hf⟩ := h
  rcases Go.Deep.open_slice Try.underlying42 hf with ⟨hcs, _⟩ | ⟨a, len, cap, m, n, D, Pl, hcs, hb, hl, hm, hmm, hx, hi⟩
  · simp [Value.cells] at hcs
    obtain ⟨rfl, rfl, rfl⟩ := hcs
    exact ⟨none, 0, 0, [], rfl, rfl, Nat.zero_le _, Lst.nil _ _, fun _ => rfl, fun x hx => by cases hx⟩
  · simp [Value.cells] at hcs
    obtain ⟨rfl, rfl, rfl⟩ := hcs
    have hc : ∀ i j : Nat, ∃ z : Int, i < l0 → j < 1 → W.cell? (a.add (i * 1 + j)) = some (.int .i64 z) ∧ in64 z := by
      intro i j
      by_cases hij : i < l0 ∧ j < 1
      · obtain ⟨cs', hc, ht'⟩ := hi i (by rw [hmm]; split <;> omega)
        rw [cellsIntQ] at hc
        obtain ⟨_, hcl, hat⟩ := World.cells?_some hc
        obtain ⟨z, hz, _, hwf⟩ := DataW.trod_int Try.underlying3 ht'
        refine ⟨z, fun _ _ => ⟨?_, wf_i64Q hwf⟩⟩
        obtain rfl : j = 0 := by omega
        rw [← Go.Deep.add_add, hat 0 (by omega), hz]; rfl
      · exact ⟨0, fun h1 h2 => absurd ⟨h1, h2⟩ hij⟩
    obtain ⟨F, h1, h2, h3⟩ := rows_of (enc := fun x : Int => [encI x]) (by omega) (fun f => f 0) (fun f j hj => by obtain rfl : j = 0 := (by omega); rfl) hc
    refine ⟨some a, l0, c0, F, rfl, h1, by omega, lst_of_row h2, (fun e => by cases e), fun x hx => ?_⟩
    obtain ⟨f, rfl, hf⟩ := h3 x hx
    exact hf 0 (by omega)
end Go.Proofs.Ytbkmfjegbmjknaa
