/- Movements that came in; a case that came in: its numbers are bytes. -/
import Derived.Test.YtedficnaipiplaaGView
import Derived.Test.YtedficnaipiplaaHRav
namespace Go.Proofs.Ytedficnaipiplaa
open Go.ChangeShapes Go.WideShapes Go.ChangeAt Go.RowKit Go.ChangeMaps
set_option linter.unusedVariables false

theorem cellsMoveH : Try.prog.cellsOf 51 = 3 := by kernel_rfl
set_option maxRecDepth 100000 in
theorem viewMovesH {H : Type} {enc : TypeId × Value → H} {W : World} {base : Nat} {v : Value} {d : DataW H} {p : List MemPlace} (hv : Value.okWide Try.prog W .any base 25 v)
    (h : DataW.Trod enc Try.prog W 0 (fun _ => true) true 25 v d p) : ∃ (ao : Option Addr) (len cap : Nat) (K : List MoveT), v = .slice ao len cap ∧ K.length = len ∧ len ≤ maxLen ∧ Row encK 3 W ao K ∧ ∀ x ∈ K, okK x := by
  obtain ⟨a0, l0, c0, rfl⟩ := okWide_slice Try.underlying25 hv
  obtain ⟨fu, hf⟩ := h
  rcases open_int_structsQ Try.underlying25 Try.underlying51 (fun j f hj => by
      match j, hj with
      | 0, hj => simp at hj; subst hj; exact ⟨rfl, cellsIntQ, Try.underlying3⟩
      | 1, hj => simp at hj; subst hj; exact ⟨rfl, cellsIntQ, Try.underlying3⟩
      | 2, hj => simp at hj; subst hj; exact ⟨rfl, cellsIntQ, Try.underlying3⟩
      | j + 3, hj => simp at hj) cellsMoveH rfl hf with hcs | ⟨a, len', cap', hcs, hcp, hm, hc⟩
  · simp [Value.cells] at hcs
    obtain ⟨rfl, rfl, rfl⟩ := hcs
    exact ⟨_, _, _, [], rfl, rfl, Nat.zero_le _, Row.nil _ _, fun x hx => by simp at hx⟩
  · simp [Value.cells] at hcs
    obtain ⟨rfl, rfl, rfl⟩ := hcs
    obtain ⟨Z, h1, h2, h3⟩ := rows_of (enc := encK) (by omega) (fun f => (f 0, f 1, f 2)) (fun f j hj => by
      match j, hj with
      | 0, _ => rfl
      | 1, _ => rfl
      | 2, _ => rfl) hc
    refine ⟨_, _, _, Z, rfl, h1, hm, h2, fun x hx => ?_⟩
    obtain ⟨f, rfl, hi⟩ := h3 x hx
    exact ⟨hi 0 (by omega), hi 1 (by omega), hi 2 (by omega)⟩
end Go.Proofs.Ytedficnaipiplaa
