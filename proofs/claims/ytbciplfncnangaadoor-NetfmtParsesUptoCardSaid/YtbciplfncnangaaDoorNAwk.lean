/- What the statements' head asks: the program answers as it should at two texts. -/
import Derived.Test.YtbciplfncnangaaDoorNSame
namespace Go.Proofs.YtbciplfncnangaaDoor
open Go.RowKit Go.Shelf
set_option linter.unusedVariables false

def awA : List UInt8 := [110, 101, 116, 32, 50, 32, 104, 111, 108, 100, 10, 97, 114, 99, 32, 48, 32, 49, 32, 53, 32, 51, 10]
def awB : List UInt8 := [110, 101, 116, 32, 50, 32, 102, 114, 101, 101, 10, 10, 97, 114, 99, 32, 48, 32, 50, 32, 53, 32, 51]
theorem parA : parseL zeroN 0 (linesL awA) = ((2, true, [(0, 1, 5, 3)]), 0, 0) := by kernel_rfl
theorem parB : parseL zeroN 0 (linesL awB) = (zeroN, 3, 51) := by kernel_rfl
theorem prtA : prtT 2 true [(0, 1, 5, 3)] = awA := by
  have hc : checkE 2 [(0, 1, 5, 3)] = 0 := by decide +kernel
  unfold prtT
  rw [if_pos hc]
  have h0 : Lib.itoa 0 = [48] := by unfold Lib.itoa; rw [if_neg (by omega)]; rw [Lib.decDigits_one (by decide)]; rfl
  have h1 : Lib.itoa 1 = [49] := by unfold Lib.itoa; rw [if_neg (by omega)]; rw [Lib.decDigits_one (by decide)]; rfl
  have h2 : Lib.itoa 2 = [50] := by unfold Lib.itoa; rw [if_neg (by omega)]; rw [Lib.decDigits_one (by decide)]; rfl
  have h3 : Lib.itoa 3 = [51] := by unfold Lib.itoa; rw [if_neg (by omega)]; rw [Lib.decDigits_one (by decide)]; rfl
  have h5 : Lib.itoa 5 = [53] := by unfold Lib.itoa; rw [if_neg (by omega)]; rw [Lib.decDigits_one (by decide)]; rfl
  simp [netT, headT, arcsT, rowL, numsL, arcL, h0, h1, h2, h3, h5, netB, arcB, keepB, holdB, awA]
theorem prtA0 : checkE 2 [(0, 1, 5, 3)] = 0 := by decide +kernel
theorem own_view {w : World} {B : Nat} {v : Value} {Z : List ArcT} (h : w.ownsRow B 37 4 v Z.length (Z.flatMap encA)) : ∃ ao cap, v = .slice ao Z.length cap ∧ Row encA 4 w ao Z := own_row encA_len h
theorem awkA (w : World) : Calls Tryd.prog 15 #[.string ⟨#[110, 101, 116, 32, 50, 32, 104, 111, 108, 100, 10, 97, 114, 99, 32, 48, 32, 49, 32, 53, 32, 51, 10]⟩] w fun e w' => ∃ ao cap, e = .returned (.tuple #[.agg #[.int .i64 2, .bool true, .slice ao 1 cap], .int .i64 0, .int .i64 0]) ∧ Row encA 4 w' ao [(0, 1, 5, 3)] ∧ Below w.heap.size w w' := by
  refine (parse_any ⟨awA.toArray⟩ w (by decide)).mono ?_
  rintro e w' hr
  have hr' : ParRes (parseL zeroN 0 (linesL awA)) w e w' := hr
  rw [parA] at hr'
  obtain ⟨v, rfl, ho, hb⟩ := hr'
  obtain ⟨ao, cap, rfl, hrow⟩ := own_view ho
  exact ⟨ao, cap, rfl, hrow, hb⟩
theorem awkB (w : World) : Calls Tryd.prog 15 #[.string ⟨#[110, 101, 116, 32, 50, 32, 102, 114, 101, 101, 10, 10, 97, 114, 99, 32, 48, 32, 50, 32, 53, 32, 51]⟩] w fun e w' => ∃ ao cap, e = .returned (.tuple #[.agg #[.int .i64 0, .bool false, .slice ao 0 cap], .int .i64 3, .int .i64 51]) ∧ Below w.heap.size w w' := by
  refine (parse_any ⟨awB.toArray⟩ w (by decide)).mono ?_
  rintro e w' hr
  have hr' : ParRes (parseL zeroN 0 (linesL awB)) w e w' := hr
  rw [parB] at hr'
  obtain ⟨v, rfl, ho, hb⟩ := hr'
  obtain ⟨ao, cap, rfl, hrow⟩ := own_view ho
  exact ⟨ao, cap, rfl, hb⟩
theorem awkP (ao : Option Addr) (cap : Nat) (w : World) (h : Row encA 4 w ao [(0, 1, 5, 3)]) (ht : Tab w) : Calls Tryd.prog 10 #[.agg #[.int .i64 2, .bool true, .slice ao 1 cap]] w fun e w' => e = .returned (.tuple #[.string ⟨#[110, 101, 116, 32, 50, 32, 104, 111, 108, 100, 10, 97, 114, 99, 32, 48, 32, 49, 32, 53, 32, 51, 10]⟩, .int .i64 0]) ∧ Below w.heap.size w w' := by
  refine (print_any 2 true ao cap [(0, 1, 5, 3)] w h (by unfold maxLen; decide) ht).mono ?_
  rintro e w' ⟨rfl, hb⟩
  refine ⟨?_, hb⟩
  unfold prtV
  rw [prtA, prtA0]
  rfl
set_option maxRecDepth 100000 in
set_option maxHeartbeats 2000000 in
theorem awake_any (w : World) (ht : Tab w) : Calls Tryd.prog 12 #[] w fun e w' => e = .returned (.bool true) ∧ Below w.heap.size w w' := by
  have HT := Lib.hid ht
  clear ht
  go_enter Tryd.func12, Tryd.ntmps12
  go_wp2_with (first
    | (go_at_call 15; (with_reducible refine (awkA _).mono ?_); rintro e w1 ⟨ao, cap, rfl, r1, b1⟩; have HR1 := Lib.hid (row_alloc r1 (.cells #[.int .i64 2, .bool true, .slice ao 1 cap] 24)); have hb1 := b1.alloc b1.size (.cells #[.int .i64 2, .bool true, .slice ao 1 cap] 24); have HT1 := Lib.hid (HT.out.below hb1); clear r1 b1)
    | (go_at_call 10; refine (awkP _ _ _ HR1.out HT1.out).mono ?_; rintro e w2 ⟨rfl, b2⟩; have hb2 := hb1.trans (b2.mono hb1.size); have s2 := hb2.size)
    | (go_at_call 15; (with_reducible refine (awkB _).mono ?_); rintro e w3 ⟨ao3, cap3, rfl, b3⟩; have hb3 := hb2.trans (b3.mono s2); have hb4 := hb3.alloc hb3.size (.cells #[.int .i64 0, .bool false, .slice ao3 0 cap3] 24)))
  go_ret
  exact ⟨rfl, hb4⟩
end Go.Proofs.YtbciplfncnangaaDoor
