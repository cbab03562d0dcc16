/- What any right program answers: awake of layer 14. -/
import Derived.Test.YtbkmfjegbmjknaaHAny
import Derived.Test.YtbkmfjegbmjknaaBC
namespace Go.Proofs.Ytbkmfjegbmjknaa
open Go.RowKit
set_option linter.unusedVariables false

def ZLN : List ArcT := [(0, 1, 2, 1), (1, 2, 2, 1)]
def LA1 : List MoveT := [(0, 0, 2), (1, 1, 2)]
def LA2 : List MoveT := [(0, 0, 2), (1, 2, 2)]
theorem rowL14 (w : World) (g : Nat) (hg : w.heap.size = g) (t : TypeId) : Row encA 4 (w.alloc (.cells #[.int .i64 0, .int .i64 1, .int .i64 2, .int .i64 1, .int .i64 1, .int .i64 2, .int .i64 2, .int .i64 1] t)) (some ⟨g, 0, none⟩) ZLN := by
  intro i hi
  refine ⟨g, 0, rfl, by simp; omega, fun j hj => ?_⟩
  rw [Nat.zero_add, cell_new' hg]
  match i, hi, j, hj with
  | 0, _, 0, _ => rfl
  | 0, _, 1, _ => rfl
  | 0, _, 2, _ => rfl
  | 0, _, 3, _ => rfl
  | 1, _, 0, _ => rfl
  | 1, _, 1, _ => rfl
  | 1, _, 2, _ => rfl
  | 1, _, 3, _ => rfl
theorem rowM14 (w : World) (g : Nat) (hg : w.heap.size = g) (t : TypeId) (u : Int) : Row encK 3 (w.alloc (.cells #[.int .i64 0, .int .i64 0, .int .i64 2, .int .i64 1, .int .i64 u, .int .i64 2] t)) (some ⟨g, 0, none⟩) [(0, 0, 2), (1, u, 2)] := by
  intro i hi
  refine ⟨g, 0, rfl, by simp; omega, fun j hj => ?_⟩
  rw [Nat.zero_add, cell_new' hg]
  match i, hi, j, hj with
  | 0, _, 0, _ => rfl
  | 0, _, 1, _ => rfl
  | 0, _, 2, _ => rfl
  | 1, _, 0, _ => rfl
  | 1, _, 1, _ => rfl
  | 1, _, 2, _ => rfl
theorem lst3H (w : World) (t : TypeId) (g : Nat) (hg : w.heap.size = g) (x y z : Int) : Lst encI (w.alloc (.cells #[.int .i64 x, .int .i64 y, .int .i64 z] t)) (some ⟨g, 0, none⟩) [x, y, z] := by
  intro i hi
  refine ⟨g, 0, rfl, by simp; omega, ?_⟩
  rw [Nat.zero_add, cell_new' hg]
  match i, hi with
  | 0, _ => rfl
  | 1, _ => rfl
  | 2, _ => rfl
def LineR (hold : Bool) (w : World) (e : Ending) (w' : World) : Prop := ∃ g, e = .returned (.agg #[.int .i64 3, .bool hold, .slice (some ⟨g, 0, none⟩) 2 2]) ∧ Row encA 4 w' (some ⟨g, 0, none⟩) ZLN ∧ Below w.heap.size w w'
theorem line14_any (hold : Bool) (w : World) : Calls Try.prog 38 #[.bool hold] w (LineR hold w) := by
  go_enter Try.func38, Try.ntmps38
  go_wp2
  have h0 := cell_alloc (cell_new w #[.int .i64 3, .bool hold, .slice (some ⟨w.heap.size + 1, 0, none⟩) 2 2] 24 0) (.cells #[.int .i64 0, .int .i64 1, .int .i64 2, .int .i64 1, .int .i64 1, .int .i64 2, .int .i64 2, .int .i64 1] 64)
  have h1 := cell_alloc (cell_new w #[.int .i64 3, .bool hold, .slice (some ⟨w.heap.size + 1, 0, none⟩) 2 2] 24 1) (.cells #[.int .i64 0, .int .i64 1, .int .i64 2, .int .i64 1, .int .i64 1, .int .i64 2, .int .i64 2, .int .i64 1] 64)
  have h2 := cell_alloc (cell_new w #[.int .i64 3, .bool hold, .slice (some ⟨w.heap.size + 1, 0, none⟩) 2 2] 24 2) (.cells #[.int .i64 0, .int .i64 1, .int .i64 2, .int .i64 1, .int .i64 1, .int .i64 2, .int .i64 2, .int .i64 1] 64)
  refine bodyPost_ret (v := .agg #[.int .i64 3, .bool hold, .slice (some ⟨w.heap.size + 1, 0, none⟩) 2 2]) (by simp [results, Try.results38, go_sem, h0, h1, h2]) rfl ⟨_, rfl, rowL14 _ _ (by simp) _, ((Below.refl _ w).alloc (Nat.le_refl _) _).alloc (by simp) _⟩
theorem la_ok : (∀ x ∈ LA1, okK x) ∧ ∀ x ∈ LA2, okK x := by
  constructor <;> intro x hx <;> simp [LA1, LA2] at hx <;> rcases hx with rfl | rfl <;> (unfold okK in64; decide)
theorem la_a : plnV 3 ZLN 0 2 2 false LA1 = 2 ∧ plnE 3 ZLN 0 2 2 false LA1 = 0 ∧ arrV 3 ZLN 0 2 2 false LA1 = [0, 0, 2] := ⟨by kernel_rfl, by kernel_rfl, by kernel_rfl⟩
theorem la_b : plnV 3 ZLN 0 2 3 true LA2 = 2 ∧ plnE 3 ZLN 0 2 3 true LA2 = 0 ∧ plnE 3 ZLN 0 2 3 false LA2 = 141 ∧ plnV 3 ZLN 0 2 3 false LA2 = 0 := ⟨by kernel_rfl, by kernel_rfl, by kernel_rfl, by kernel_rfl⟩
section
variable (g h : Nat) (w : World)
theorem lchkA (hr : Row encA 4 w (some ⟨g, 0, none⟩) ZLN) (hl : Row encK 3 w (some ⟨h, 0, none⟩) LA1) : Calls Try.prog 47 #[.agg #[.int .i64 3, .bool false, .slice (some ⟨g, 0, none⟩) 2 2], .int .i64 0, .int .i64 2, .int .i64 2, .slice (some ⟨h, 0, none⟩) 2 2] w fun e w' => e = .returned (.tuple #[.int .i64 2, .int .i64 0]) ∧ Below w.heap.size w w' := by
  have := nchk14_any 3 false (some ⟨g, 0, none⟩) 2 2 ZLN 0 2 2 (some ⟨h, 0, none⟩) 2 2 LA1 w hr (by decide) hl la_ok.1 (by decide) rfl rfl
  rwa [la_a.1, la_a.2.1] at this
theorem lchkB (hr : Row encA 4 w (some ⟨g, 0, none⟩) ZLN) (hl : Row encK 3 w (some ⟨h, 0, none⟩) LA2) : Calls Try.prog 47 #[.agg #[.int .i64 3, .bool true, .slice (some ⟨g, 0, none⟩) 2 2], .int .i64 0, .int .i64 2, .int .i64 3, .slice (some ⟨h, 0, none⟩) 2 2] w fun e w' => e = .returned (.tuple #[.int .i64 2, .int .i64 0]) ∧ Below w.heap.size w w' := by
  have := nchk14_any 3 true (some ⟨g, 0, none⟩) 2 2 ZLN 0 2 3 (some ⟨h, 0, none⟩) 2 2 LA2 w hr (by decide) hl la_ok.2 (by decide) rfl rfl
  rwa [la_b.1, la_b.2.1] at this
theorem lchkC (hr : Row encA 4 w (some ⟨g, 0, none⟩) ZLN) (hl : Row encK 3 w (some ⟨h, 0, none⟩) LA2) : Calls Try.prog 47 #[.agg #[.int .i64 3, .bool false, .slice (some ⟨g, 0, none⟩) 2 2], .int .i64 0, .int .i64 2, .int .i64 3, .slice (some ⟨h, 0, none⟩) 2 2] w fun e w' => e = .returned (.tuple #[.int .i64 0, .int .i64 141]) ∧ Below w.heap.size w w' := by
  have := nchk14_any 3 false (some ⟨g, 0, none⟩) 2 2 ZLN 0 2 3 (some ⟨h, 0, none⟩) 2 2 LA2 w hr (by decide) hl la_ok.2 (by decide) rfl rfl
  rwa [la_b.2.2.1, la_b.2.2.2] at this
theorem larrA (hr : Row encA 4 w (some ⟨g, 0, none⟩) ZLN) (hl : Row encK 3 w (some ⟨h, 0, none⟩) LA1) : Calls Try.prog 71 #[.agg #[.int .i64 3, .bool false, .slice (some ⟨g, 0, none⟩) 2 2], .int .i64 0, .int .i64 2, .int .i64 2, .slice (some ⟨h, 0, none⟩) 2 2] w fun e w' => ∃ (aa : Option Addr) (ac : Nat), e = .returned (.tuple #[.slice aa 3 ac, .int .i64 0]) ∧ Lst encI w' aa [0, 0, 2] ∧ Below w.heap.size w w' := by
  refine (narrived_any 3 false (some ⟨g, 0, none⟩) 2 2 ZLN 0 2 2 (some ⟨h, 0, none⟩) 2 2 LA1 w hr (by decide) hl la_ok.1 (by decide) rfl rfl).mono ?_
  rintro e w' ⟨aa, al, ac, rfl, h1, h2, hb⟩
  rw [la_a.2.2] at h1 h2
  subst h1
  exact ⟨aa, ac, by rw [la_a.2.1]; rfl, h2, hb⟩
end
theorem bstepH {w w1 w2 : World} (h : Below w.heap.size w w1) (o : Obj) (h2 : Below (w1.alloc o).heap.size (w1.alloc o) w2) : Below w.heap.size w w2 := h.trans (((Below.refl w1.heap.size w1).alloc (Nat.le_refl _) o).trans (h2.mono (by simp)) |>.mono h.size)
end Go.Proofs.Ytbkmfjegbmjknaa
