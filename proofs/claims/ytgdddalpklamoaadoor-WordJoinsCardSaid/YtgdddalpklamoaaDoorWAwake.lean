/- What the statements' head asks: the program answers as it should at a few texts. -/
import Derived.Test.YtgdddalpklamoaaDoorWNum
import Derived.Test.YtgdddalpklamoaaDoorWLin
import Derived.Test.YtgdddalpklamoaaDoorWRow
namespace Go.Proofs.YtgdddalpklamoaaDoor
open Go.RowKit Go.Shelf
set_option linter.unusedVariables false

theorem num120 (w : World) : Calls Tryd.prog 16 #[.string ⟨#[45, 49, 50, 48]⟩] w fun e w' => e = .returned (.tuple #[.int .i64 (-120), .int .i64 0]) ∧ Below w.heap.size w w' := by
  refine (number_any ⟨#[45, 49, 50, 48]⟩ w (by unfold maxLen; decide)).mono ?_
  rintro e w' ⟨rfl, hb⟩
  refine ⟨?_, hb⟩
  have : numL [45, 49, 50, 48] = (-120, 0) := by decide
  show Ending.returned (numV [45, 49, 50, 48]) = _
  unfold numV; rw [this]
theorem num007 (w : World) : Calls Tryd.prog 16 #[.string ⟨#[48, 48, 55]⟩] w fun e w' => e = .returned (.tuple #[.int .i64 0, .int .i64 40]) ∧ Below w.heap.size w w' := by
  refine (number_any ⟨#[48, 48, 55]⟩ w (by unfold maxLen; decide)).mono ?_
  rintro e w' ⟨rfl, hb⟩
  refine ⟨?_, hb⟩
  have : numL [48, 48, 55] = (0, 40) := by decide
  show Ending.returned (numV [48, 48, 55]) = _
  unfold numV; rw [this]
theorem row01 : rowL [97, 114, 99] [0, -1] = [97, 114, 99, 32, 48, 32, 45, 49, 10] := by
  have h0 : Lib.itoa 0 = [48] := by unfold Lib.itoa; rw [if_neg (by omega)]; rw [Lib.decDigits_one (by decide)]; rfl
  have h1 : Lib.itoa (-1) = [45, 49] := by unfold Lib.itoa; rw [if_pos (by omega)]; rw [Lib.decDigits_one (by decide)]; rfl
  simp [rowL, numsL, h0, h1]
theorem rowArc (g : Nat) (w : World) (hg : g < w.heap.size) (h0 : w.cell? ⟨g, 0, none⟩ = some (.int .i64 0)) (h1 : w.cell? ⟨g, 1, none⟩ = some (.int .i64 (-1))) (ht : Tab w) :
    Calls Tryd.prog 20 #[.string ⟨#[97, 114, 99]⟩, .slice (some ⟨g, 0, none⟩) 2 2] w fun e w' => e = .returned (.string ⟨#[97, 114, 99, 32, 48, 32, 45, 49, 10]⟩) ∧ Below w.heap.size w w' := by
  have hl : Lst encI w (some ⟨g, 0, none⟩) [0, -1] := by
    intro i hi
    refine ⟨g, 0, rfl, hg, ?_⟩
    match i, hi with
    | 0, _ => exact h0
    | 1, _ => exact h1
  have hz : In64 [0, -1] := by intro z hz; simp at hz; omega
  refine (row_any ⟨#[97, 114, 99]⟩ (some ⟨g, 0, none⟩) 2 [0, -1] w hl hz (by simp) (by decide) ht).mono ?_
  rintro e w' ⟨rfl, hb⟩
  refine ⟨?_, hb⟩
  show Ending.returned (strV (rowL [97, 114, 99] [0, -1])) = _
  rw [row01]; rfl
theorem wordsXY (w : World) : Calls Tryd.prog 14 #[.string ⟨#[32, 120, 32, 32, 121, 32]⟩] w fun e w' => ∃ ao cap, e = .returned (.slice ao 2 cap) ∧ Below w.heap.size w w' := by
  refine (words_any ⟨#[32, 120, 32, 32, 121, 32]⟩ w (by decide)).mono ?_
  rintro e w' ⟨v, rfl, ho, hb⟩
  obtain ⟨ao, cap, rfl, _⟩ := own_lst ho
  refine ⟨ao, cap, ?_, hb⟩
  have : (wordsL [32, 120, 32, 32, 121, 32]).length = 2 := by decide
  show Ending.returned (.slice ao (wordsL [32, 120, 32, 32, 121, 32]).length cap) = _
  rw [this]
theorem linesAB (w : World) : Calls Tryd.prog 12 #[.string ⟨#[97, 10, 10, 98]⟩] w fun e w' => ∃ ao cap, e = .returned (.slice ao 3 cap) ∧ Below w.heap.size w w' := by
  refine (lines_any ⟨#[97, 10, 10, 98]⟩ w (by decide)).mono ?_
  rintro e w' ⟨v, rfl, ho, hb⟩
  obtain ⟨ao, cap, rfl, _⟩ := own_lst ho
  refine ⟨ao, cap, ?_, hb⟩
  have : (linesL [97, 10, 10, 98]).length = 3 := by decide
  show Ending.returned (.slice ao (linesL [97, 10, 10, 98]).length cap) = _
  rw [this]
set_option maxRecDepth 100000 in
set_option maxHeartbeats 2000000 in
theorem awake_any (w : World) (ht : Tab w) : Calls Tryd.prog 10 #[] w fun e w' => e = .returned (.bool true) ∧ Below w.heap.size w w' := by
  have HT := Lib.hid ht
  clear ht
  go_enter Tryd.func10, Tryd.ntmps10
  go_wp2_with (first
    | (go_at_call 16; (with_reducible refine (num120 _).mono ?_); rintro e w1 ⟨rfl, b1⟩; have s1 := b1.size)
    | (go_at_call 16; (with_reducible refine (num007 _).mono ?_); rintro e w2 ⟨rfl, b2⟩; have hb2 := b1.trans (b2.mono s1); have s2 := hb2.size)
    | (go_at_call 20; refine (rowArc w2.heap.size _ (by simp) (by simp) (by simp) (HT.out.below (hb2.alloc s2 _))).mono ?_; rintro e w3 ⟨rfl, b3⟩; have hb3 := (hb2.alloc s2 _).trans (b3.mono (by simp; omega)); have s3 := hb3.size)
    | (go_at_call 14; refine (wordsXY _).mono ?_; rintro e w4 ⟨ao, cap, rfl, b4⟩; have hb4 := hb3.trans (b4.mono s3); have s4 := hb4.size)
    | (go_at_call 12; refine (linesAB _).mono ?_; rintro e w5 ⟨ao2, cap2, rfl, b5⟩; have hb5 := hb4.trans (b5.mono s4)))
  go_ret
  exact ⟨rfl, hb5⟩
end Go.Proofs.YtgdddalpklamoaaDoor
