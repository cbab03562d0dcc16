/- What any right program answers: awake of layer 8. -/
import Derived.Test.YtbolpjahmmjllaaVRef
import Derived.Test.YtbolpjahmmjllaaASame
namespace Go.Proofs.Ytbolpjahmmjllaa
open Go.RowKit
set_option linter.unusedVariables false

def ZV : List ArcT := [(0, 1, 5, 0), (1, 2, 5, 0)]
def SV : List StepT := [(0, false), (1, false)]
theorem rowV8 (w : World) (g : Nat) (hg : w.heap.size = g) (t : TypeId) : Row encA 4 (w.alloc (.cells #[.int .i64 0, .int .i64 1, .int .i64 5, .int .i64 0, .int .i64 1, .int .i64 2, .int .i64 5, .int .i64 0] t)) (some ⟨g, 0, none⟩) ZV := by
  intro i hi
  refine ⟨g, 0, rfl, by simp; omega, fun j hj => ?_⟩
  rw [Nat.zero_add, cell_new' hg]
  match i, hi, j, hj with
  | 0, _, 0, _ => rfl
  | 0, _, 1, _ => rfl
  | 0, _, 2, _ => rfl
  | 0, _, 3, _ => rfl
  | 1, _, 0, _ => rfl
  | 1, _, 1, _ => rfl
  | 1, _, 2, _ => rfl
  | 1, _, 3, _ => rfl
theorem lst28 (w : World) (t : TypeId) (g : Nat) (hg : w.heap.size = g) (x y : Int) : Lst encI (w.alloc (.cells #[.int .i64 x, .int .i64 y] t)) (some ⟨g, 0, none⟩) [x, y] := by
  intro i hi
  refine ⟨g, 0, rfl, by simp; omega, ?_⟩
  rw [Nat.zero_add, cell_new' hg]
  match i, hi with
  | 0, _ => rfl
  | 1, _ => rfl
theorem lst38 (w : World) (t : TypeId) (g : Nat) (hg : w.heap.size = g) (x y z : Int) : Lst encI (w.alloc (.cells #[.int .i64 x, .int .i64 y, .int .i64 z] t)) (some ⟨g, 0, none⟩) [x, y, z] := by
  intro i hi
  refine ⟨g, 0, rfl, by simp; omega, ?_⟩
  rw [Nat.zero_add, cell_new' hg]
  match i, hi with
  | 0, _ => rfl
  | 1, _ => rfl
  | 2, _ => rfl
theorem rowS8 (w : World) (g : Nat) (hg : w.heap.size = g) (t : TypeId) : Row encS 2 (w.alloc (.cells #[.int .i64 0, .bool false, .int .i64 1, .bool false] t)) (some ⟨g, 0, none⟩) SV := by
  intro i hi
  refine ⟨g, 0, rfl, by simp; omega, fun j hj => ?_⟩
  rw [Nat.zero_add, cell_new' hg]
  match i, hi, j, hj with
  | 0, _, 0, _ => rfl
  | 0, _, 1, _ => rfl
  | 1, _, 0, _ => rfl
  | 1, _, 1, _ => rfl
theorem zv_w1 : wayL 3 ZV [0, 0] 0 2 = SV ∧ wayB 3 ZV [0, 0] 0 2 = true ∧ pathE 3 ZV [0, 0] 0 2 = 0 := ⟨by kernel_rfl, by kernel_rfl, by kernel_rfl⟩
theorem zv_w2 : wayL 3 ZV [5, 5] 0 2 = [] ∧ wayB 3 ZV [5, 5] 0 2 = false ∧ pathE 3 ZV [5, 5] 0 2 = 0 := ⟨by kernel_rfl, by kernel_rfl, by kernel_rfl⟩
theorem zv_l : levL 3 ZV [5, 5] 2 = [2, 1, 0] ∧ levE 3 ZV [5, 5] 2 = 0 := ⟨by kernel_rfl, by kernel_rfl⟩
def LineV8 (w : World) (e : Ending) (w' : World) : Prop := ∃ g, e = .returned (.agg #[.int .i64 3, .bool false, .slice (some ⟨g, 0, none⟩) 2 2]) ∧ Row encA 4 w' (some ⟨g, 0, none⟩) ZV ∧ Below w.heap.size w w'
theorem line8_any (w : World) : Calls Try.prog 28 #[] w (LineV8 w) := by
  go_enter Try.func28, Try.ntmps28
  go_wp2
  have h0 := cell_alloc (cell_new w #[.int .i64 3, .bool false, .slice (some ⟨w.heap.size + 1, 0, none⟩) 2 2] 24 0) (.cells #[.int .i64 0, .int .i64 1, .int .i64 5, .int .i64 0, .int .i64 1, .int .i64 2, .int .i64 5, .int .i64 0] 66)
  have h1 := cell_alloc (cell_new w #[.int .i64 3, .bool false, .slice (some ⟨w.heap.size + 1, 0, none⟩) 2 2] 24 1) (.cells #[.int .i64 0, .int .i64 1, .int .i64 5, .int .i64 0, .int .i64 1, .int .i64 2, .int .i64 5, .int .i64 0] 66)
  have h2 := cell_alloc (cell_new w #[.int .i64 3, .bool false, .slice (some ⟨w.heap.size + 1, 0, none⟩) 2 2] 24 2) (.cells #[.int .i64 0, .int .i64 1, .int .i64 5, .int .i64 0, .int .i64 1, .int .i64 2, .int .i64 5, .int .i64 0] 66)
  refine bodyPost_ret (v := .agg #[.int .i64 3, .bool false, .slice (some ⟨w.heap.size + 1, 0, none⟩) 2 2]) (by simp [results, Try.results28, go_sem, h0, h1, h2]) rfl ⟨_, rfl, rowV8 _ _ (by simp) _, ((Below.refl _ w).alloc (Nat.le_refl _) _).alloc (by simp) _⟩
theorem two_len8 : ([0, 0] : List Int).length ≤ maxLen ∧ ([5, 5] : List Int).length ≤ maxLen ∧ ZV.length ≤ maxLen := by unfold maxLen; decide
theorem bstep8 {w w1 w2 : World} (h : Below w.heap.size w w1) (o : Obj) (h2 : Below (w1.alloc o).heap.size (w1.alloc o) w2) : Below w.heap.size w w2 :=
  (h.alloc h.size o).trans (h2.mono (by have := h.size; simp; omega))
set_option maxRecDepth 100000 in
set_option maxHeartbeats 4000000 in
theorem vawake_any (w : World) : Calls Try.prog 10 #[] w fun e w' => e = .returned (.bool true) ∧ Below w.heap.size w w' := by
  have HB := Lib.hid (Below.refl w.heap.size w)
  go_enter Try.func10, Try.ntmps10
  go_wp2_with (first
    | (go_at_call 28; refine (line8_any _).mono ?_; rintro e w1 ⟨g1, rfl, hr1, hb1⟩; have HR1 := Lib.hid hr1; have HQ1 := Lib.hid hb1; have HB := Lib.hid (HB.out.trans (hb1.mono HB.out.size)); clear hr1)
    | (go_at_call 12; refine (vpath_any 3 false (some ⟨g1, 0, none⟩) (some ⟨w1.heap.size, 0, none⟩) 2 2 ZV [0, 0] 0 2 _ (row_alloc HR1.out _) (lst28 _ _ _ rfl 0 0) two_len8.2.2 two_len8.1).mono ?_; rintro e w2 ⟨a2, c2, rfl, hl2, hb2⟩; rw [zv_w1.1] at hl2 ⊢; rw [zv_w1.2.1, zv_w1.2.2]; have HL2 := Lib.hid hl2; have HB := Lib.hid (bstep8 HB.out _ hb2); clear hb2 hl2)
    | (go_at_call 12; refine (vpath_any 3 false (some ⟨g1, 0, none⟩) (some ⟨w1.heap.size, 0, none⟩) 2 2 ZV [5, 5] 0 2 _ (row_alloc HR1.out _) (lst28 _ _ _ rfl 5 5) two_len8.2.2 two_len8.2.1).mono ?_; rintro e w3 ⟨a3, c3, rfl, hl3, hb3⟩; rw [zv_w2.1, zv_w2.2.1, zv_w2.2.2]; have HL2 := Lib.hid ((HL2.out.below' hb1).below' (((Below.refl _ w1).alloc (Nat.le_refl _) _).trans (hb3.mono (by simp)))); have HB := Lib.hid (bstep8 HB.out _ hb3); clear hb3 hl3)
    | (go_at_call 8; refine (levels_any 3 false (some ⟨g1, 0, none⟩) (some ⟨w1.heap.size, 0, none⟩) 2 2 ZV [5, 5] 2 _ (row_alloc HR1.out _) (lst28 _ _ _ rfl 5 5) two_len8.2.2 two_len8.2.1).mono ?_; rintro e w4 ⟨a4, c4, rfl, hl4, hb4⟩; rw [zv_l.1] at hl4 ⊢; rw [zv_l.2]; have HL4 := Lib.hid hl4; have HL2 := Lib.hid ((HL2.out.below' hb1).below' (((Below.refl _ w1).alloc (Nat.le_refl _) _).trans (hb4.mono (by simp)))); have HB := Lib.hid (bstep8 HB.out _ hb4); clear hb4 hl4)
    | (go_at_call 14; refine (rsames_eq SV a2 (some ⟨w4.heap.size, 0, none⟩) c2 2 _ (HL2.out.below' ((Below.refl _ _).alloc (Nat.le_refl _) _)) (rowS8 _ _ rfl _) (by decide)).mono ?_; rintro e w5 ⟨rfl, hb5⟩; have HL4 := Lib.hid (HL4.out.below (((Below.refl _ w4).alloc (Nat.le_refl _) _).trans (hb5.mono (by simp)))); have HB := Lib.hid (bstep8 HB.out _ hb5); clear hb5)
    | (go_at_call 11; refine (sameints_eq [2, 1, 0] a4 (some ⟨w5.heap.size, 0, none⟩) c4 3 _ (HL4.out.below ((Below.refl _ _).alloc (Nat.le_refl _) _)) (lst38 _ _ _ rfl 2 1 0) (by decide)).mono ?_; rintro e w6 ⟨rfl, hb6⟩; have HB := Lib.hid (bstep8 HB.out _ hb6); clear hb6))
  go_ret
  exact ⟨rfl, HB.out⟩
end Go.Proofs.Ytbolpjahmmjllaa
