/- What any right program answers: awake of layer 7. -/
import Derived.Test.YtiefphkfddecbaaSChk
import Derived.Test.YtiefphkfddecbaaSRoom
import Derived.Test.YtiefphkfddecbaaSRpu
namespace Go.Proofs.Ytiefphkfddecbaa
open Go.RowKit
set_option linter.unusedVariables false

def ZL : List ArcT := [(0, 1, 5, 2), (1, 2, 5, 2)]
theorem rowL (w : World) (g : Nat) (hg : w.heap.size = g) (t : TypeId) : Row encA 4 (w.alloc (.cells #[.int .i64 0, .int .i64 1, .int .i64 5, .int .i64 2, .int .i64 1, .int .i64 2, .int .i64 5, .int .i64 2] t)) (some ⟨g, 0, none⟩) ZL := by
  intro i hi
  refine ⟨g, 0, rfl, by simp; omega, fun j hj => ?_⟩
  rw [Nat.zero_add, cell_new' hg]
  match i, hi, j, hj with
  | 0, _, 0, _ => rfl
  | 0, _, 1, _ => rfl
  | 0, _, 2, _ => rfl
  | 0, _, 3, _ => rfl
  | 1, _, 0, _ => rfl
  | 1, _, 1, _ => rfl
  | 1, _, 2, _ => rfl
  | 1, _, 3, _ => rfl
theorem lst2 (w : World) (t : TypeId) (g : Nat) (hg : w.heap.size = g) (x y : Int) : Lst encI (w.alloc (.cells #[.int .i64 x, .int .i64 y] t)) (some ⟨g, 0, none⟩) [x, y] := by
  intro i hi
  refine ⟨g, 0, rfl, by simp; omega, ?_⟩
  rw [Nat.zero_add, cell_new' hg]
  match i, hi with
  | 0, _ => rfl
  | 1, _ => rfl
def SL : List StepT := [(0, false), (1, false)]
theorem rowS (w : World) (g : Nat) (hg : w.heap.size = g) (t : TypeId) : Row encS 2 (w.alloc (.cells #[.int .i64 0, .bool false, .int .i64 1, .bool false] t)) (some ⟨g, 0, none⟩) SL := by
  intro i hi
  refine ⟨g, 0, rfl, by simp; omega, fun j hj => ?_⟩
  rw [Nat.zero_add, cell_new' hg]
  match i, hi, j, hj with
  | 0, _, 0, _ => rfl
  | 0, _, 1, _ => rfl
  | 1, _, 0, _ => rfl
  | 1, _, 1, _ => rfl
theorem zl_e1 : valE 3 ZL 0 2 [3, 3] = 0 := by decide
theorem zl_k1 : valK 3 ZL 0 2 [3, 3] = 3 := by decide
theorem zl_e2 : valE 3 ZL 0 2 [3, 2] = 71 := by decide
theorem zl_k2 : valK 3 ZL 0 2 [3, 2] = 0 := by decide
theorem zl_p : pushR 3 ZL [3, 3] SL 2 = (0, [5, 5]) := by decide
theorem zl_n : endsE 3 ZL 1 1 = 70 := by decide
def LineV (w : World) (e : Ending) (w' : World) : Prop := ∃ g, e = .returned (.agg #[.int .i64 3, .bool false, .slice (some ⟨g, 0, none⟩) 2 2]) ∧ Row encA 4 w' (some ⟨g, 0, none⟩) ZL ∧ Below w.heap.size w w'
theorem line_any (w : World) : Calls Try.prog 29 #[] w (LineV w) := by
  go_enter Try.func29, Try.ntmps29
  go_wp2
  have h0 := cell_alloc (cell_new w #[.int .i64 3, .bool false, .slice (some ⟨w.heap.size + 1, 0, none⟩) 2 2] 24 0) (.cells #[.int .i64 0, .int .i64 1, .int .i64 5, .int .i64 2, .int .i64 1, .int .i64 2, .int .i64 5, .int .i64 2] 63)
  have h1 := cell_alloc (cell_new w #[.int .i64 3, .bool false, .slice (some ⟨w.heap.size + 1, 0, none⟩) 2 2] 24 1) (.cells #[.int .i64 0, .int .i64 1, .int .i64 5, .int .i64 2, .int .i64 1, .int .i64 2, .int .i64 5, .int .i64 2] 63)
  have h2 := cell_alloc (cell_new w #[.int .i64 3, .bool false, .slice (some ⟨w.heap.size + 1, 0, none⟩) 2 2] 24 2) (.cells #[.int .i64 0, .int .i64 1, .int .i64 5, .int .i64 2, .int .i64 1, .int .i64 2, .int .i64 5, .int .i64 2] 63)
  refine bodyPost_ret (v := .agg #[.int .i64 3, .bool false, .slice (some ⟨w.heap.size + 1, 0, none⟩) 2 2]) (by simp [results, Try.results29, go_sem, h0, h1, h2]) rfl ⟨_, rfl, rowL _ _ (by simp) _, ((Below.refl _ w).alloc (Nat.le_refl _) _).alloc (by simp) _⟩
theorem two_len : ([3, 3] : List Int).length ≤ maxLen ∧ ([3, 2] : List Int).length ≤ maxLen ∧ ZL.length ≤ maxLen := by unfold maxLen; decide
theorem bstep {w w1 w2 : World} (h : Below w.heap.size w w1) (o : Obj) (h2 : Below (w1.alloc o).heap.size (w1.alloc o) w2) : Below w.heap.size w w2 :=
  (h.alloc h.size o).trans (h2.mono (by have := h.size; simp; omega))
theorem bstep2 {w w1 w2 : World} (h : Below w.heap.size w w1) (o p : Obj) (h2 : Below ((w1.alloc o).alloc p).heap.size ((w1.alloc o).alloc p) w2) : Below w.heap.size w w2 :=
  ((h.alloc h.size o).alloc (by have := h.size; simp; omega) p).trans (h2.mono (by have := h.size; simp; omega))
set_option maxRecDepth 100000 in
set_option maxHeartbeats 4000000 in
theorem sawake_any (w : World) : Calls Try.prog 12 #[] w fun e w' => e = .returned (.bool true) ∧ Below w.heap.size w w' := by
  have HB := Lib.hid (Below.refl w.heap.size w)
  go_enter Try.func12, Try.ntmps12
  go_wp2_with (first
    | (go_at_call 29; refine (line_any _).mono ?_; rintro e w1 ⟨g1, rfl, hr1, hb1⟩; have HR1 := Lib.hid hr1; have HL0 := Lib.hid hb1; have HB1 := Lib.hid (HB.out.trans (hb1.mono HB.out.size)); clear hr1 hb1)
    | (go_at_call 10; refine (scheck_any 3 false (some ⟨g1, 0, none⟩) (some ⟨w1.heap.size, 0, none⟩) 2 2 ZL 0 2 [3, 3] _ (row_alloc HR1.out _) (lst2 _ _ _ rfl 3 3) two_len.2.2 two_len.1).mono ?_; rintro e w2 ⟨rfl, hb2⟩; rw [zl_e1, zl_k1]; have HB := Lib.hid (bstep HB1.out _ hb2); clear hb2)
    | (go_at_call 10; refine (scheck_any 3 false (some ⟨g1, 0, none⟩) (some ⟨w1.heap.size, 0, none⟩) 2 2 ZL 0 2 [3, 2] _ (row_alloc HR1.out _) (lst2 _ _ _ rfl 3 2) two_len.2.2 two_len.2.1).mono ?_; rintro e w2 ⟨rfl, hb2⟩; rw [zl_e2, zl_k2]; have HB := Lib.hid (bstep HB1.out _ hb2); clear hb2)
    | (go_at_call 20; refine (push7_any 3 false (some ⟨g1, 0, none⟩) (some ⟨w1.heap.size, 0, none⟩) (some ⟨w1.heap.size + 1, 0, none⟩) 2 2 2 ZL [3, 3] SL 2 _ (row_alloc (row_alloc HR1.out _) _) ((lst2 _ _ _ rfl 3 3).below ((Below.refl _ _).alloc (Nat.le_refl _) _)) (rowS _ _ (by simp) _) two_len.2.2 two_len.1 (by decide)).mono ?_; rintro e w2 ⟨a2, c2, rfl, hl2, hb2⟩; rw [zl_p] at hl2 ⊢; have HL2 : Hid (Lst encI w2 a2 [5, 5]) := Lib.hid hl2; have HB := Lib.hid (bstep2 HB1.out _ _ hb2); clear hb2 hl2)
    | (go_at_call 15; refine (sameints_eq [5, 5] a2 (some ⟨w2.heap.size, 0, none⟩) c2 2 _ (HL2.out.below ((Below.refl _ _).alloc (Nat.le_refl _) _)) (lst2 _ _ _ rfl 5 5) (by simp)).mono ?_; rintro e w3 ⟨rfl, hb3⟩; have HB := Lib.hid (bstep HB.out _ hb3); clear hb3 HL2)
    | (go_at_call 13; refine (ends_is 3 false (some ⟨g1, 0, none⟩) 2 ZL 1 1 70 _ HR1.out two_len.2.2 zl_n).mono ?_; rintro e w4 ⟨rfl, hb4⟩; have HB := Lib.hid (HB1.out.trans (hb4.mono HB1.out.size)); clear hb4))
  go_ret
  exact ⟨rfl, HB.out⟩
end Go.Proofs.Ytiefphkfddecbaa
