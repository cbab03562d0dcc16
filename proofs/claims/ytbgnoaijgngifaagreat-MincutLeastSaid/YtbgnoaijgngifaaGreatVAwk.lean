/- What any right program answers: awake of layer 8. -/
import Derived.Test.YtbgnoaijgngifaaGreatVRef
import Derived.Test.YtbgnoaijgngifaaGreatBC
namespace Go.Proofs.YtbgnoaijgngifaaGreat
open Go.RowKit
set_option linter.unusedVariables false

def ZV : List ArcT := [(0, 1, 5, 0), (1, 2, 5, 0)]
def SV : List StepT := [(0, false), (1, false)]
theorem rowV8 (w : World) (g : Nat) (hg : w.heap.size = g) (t : TypeId) : Row encA 4 (w.alloc (.cells #[.int .i64 0, .int .i64 1, .int .i64 5, .int .i64 0, .int .i64 1, .int .i64 2, .int .i64 5, .int .i64 0] t)) (some ⟨g, 0, none⟩) ZV := by
  intro i hi
  refine ⟨g, 0, rfl, by simp; omega, fun j hj => ?_⟩
  rw [Nat.zero_add, cell_new' hg]
  match i, hi, j, hj with
  | 0, _, 0, _ => rfl
  | 0, _, 1, _ => rfl
  | 0, _, 2, _ => rfl
  | 0, _, 3, _ => rfl
  | 1, _, 0, _ => rfl
  | 1, _, 1, _ => rfl
  | 1, _, 2, _ => rfl
  | 1, _, 3, _ => rfl
theorem lst28 (w : World) (t : TypeId) (g : Nat) (hg : w.heap.size = g) (x y : Int) : Lst encI (w.alloc (.cells #[.int .i64 x, .int .i64 y] t)) (some ⟨g, 0, none⟩) [x, y] := by
  intro i hi
  refine ⟨g, 0, rfl, by simp; omega, ?_⟩
  rw [Nat.zero_add, cell_new' hg]
  match i, hi with
  | 0, _ => rfl
  | 1, _ => rfl
theorem lst38 (w : World) (t : TypeId) (g : Nat) (hg : w.heap.size = g) (x y z : Int) : Lst encI (w.alloc (.cells #[.int .i64 x, .int .i64 y, .int .i64 z] t)) (some ⟨g, 0, none⟩) [x, y, z] := by
  intro i hi
  refine ⟨g, 0, rfl, by simp; omega, ?_⟩
  rw [Nat.zero_add, cell_new' hg]
  match i, hi with
  | 0, _ => rfl
  | 1, _ => rfl
  | 2, _ => rfl
theorem rowS8 (w : World) (g : Nat) (hg : w.heap.size = g) (t : TypeId) : Row encS 2 (w.alloc (.cells #[.int .i64 0, .bool false, .int .i64 1, .bool false] t)) (some ⟨g, 0, none⟩) SV := by
  intro i hi
  refine ⟨g, 0, rfl, by simp; omega, fun j hj => ?_⟩
  rw [Nat.zero_add, cell_new' hg]
  match i, hi, j, hj with
  | 0, _, 0, _ => rfl
  | 0, _, 1, _ => rfl
  | 1, _, 0, _ => rfl
  | 1, _, 1, _ => rfl
theorem zv_w1 : wayL 3 ZV [0, 0] 0 2 = SV ∧ wayB 3 ZV [0, 0] 0 2 = true ∧ pathE 3 ZV [0, 0] 0 2 = 0 := ⟨by kernel_rfl, by kernel_rfl, by kernel_rfl⟩
theorem zv_w2 : wayL 3 ZV [5, 5] 0 2 = [] ∧ wayB 3 ZV [5, 5] 0 2 = false ∧ pathE 3 ZV [5, 5] 0 2 = 0 := ⟨by kernel_rfl, by kernel_rfl, by kernel_rfl⟩
theorem zv_l : levL 3 ZV [5, 5] 2 = [2, 1, 0] ∧ levE 3 ZV [5, 5] 2 = 0 := ⟨by kernel_rfl, by kernel_rfl⟩
def LineV8 (w : World) (e : Ending) (w' : World) : Prop := ∃ g, e = .returned (.agg #[.int .i64 3, .bool false, .slice (some ⟨g, 0, none⟩) 2 2]) ∧ Row encA 4 w' (some ⟨g, 0, none⟩) ZV ∧ Below w.heap.size w w'
theorem two_len8 : ([0, 0] : List Int).length ≤ maxLen ∧ ([5, 5] : List Int).length ≤ maxLen ∧ ZV.length ≤ maxLen := by unfold maxLen; decide
theorem bstep8 {w w1 w2 : World} (h : Below w.heap.size w w1) (o : Obj) (h2 : Below (w1.alloc o).heap.size (w1.alloc o) w2) : Below w.heap.size w w2 :=
  (h.alloc h.size o).trans (h2.mono (by have := h.size; simp; omega))
end Go.Proofs.YtbgnoaijgngifaaGreat
