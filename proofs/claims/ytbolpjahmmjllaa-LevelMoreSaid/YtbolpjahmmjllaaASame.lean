/- Lists that are the same are told to be; a network's beginning; what any right program answers. -/
import Derived.Test.YtbolpjahmmjllaaARest
namespace Go.Proofs.Ytbolpjahmmjllaa
open Go.RowKit
set_option linter.unusedVariables false

set_option maxRecDepth 100000 in
set_option maxHeartbeats 1000000 in
theorem sameints_eq (A : List Int) (aa ab : Option Addr) (ca cb : Nat) (w : World) (ha : Lst encI w aa A) (hb : Lst encI w ab A) (hl : A.length ≤ 200000) :
    Calls Try.prog 11 #[.slice aa A.length ca, .slice ab A.length cb] w fun e w' => e = .returned (.bool true) ∧ Below w.heap.size w w' := by
  have HA := Lib.hid ha
  have HB := Lib.hid hb
  clear ha hb
  go_enter Try.func11, Try.ntmps11
  go_wp2
  go_loopw [5] (fun i wr => ∃ k : Nat, k ≤ A.length ∧ i = .int .i64 (k : Int) ∧ Hid (Below w.heap.size w wr)) (fun i _ => A.length - (intOf i).toNat)
  case atStart => exact ⟨0, Nat.zero_le _, rfl, Lib.hid (Below.refl _ _)⟩
  case round =>
    obtain ⟨k, hk, rfl, HW⟩ := hrel
    by_cases hlt : k < A.length
    · have hli : (k : Int) < (A.length : Int) := by omega
      obtain ⟨b1, o1, q1, hb1, hc1⟩ := lst_cell (HA.out.below HW.out) (List.getElem?_eq_getElem hlt)
      obtain ⟨b2, o2, q2, hb2, hc2⟩ := lst_cell (HB.out.below HW.out) (List.getElem?_eq_getElem hlt)
      cases q1
      cases q2
      unfold encI at hc1 hc2
      generalize A[k] = x at *
      go_wp2
      go_quiet (fail)
      go_wp2
      go_roundw
      case rel => exact ⟨k + 1, by omega, by go_num, Lib.hid (below_drewN HW.out _)⟩
      case measure => simp [intOf]; omega
    · have hli : ¬ (k : Int) < (A.length : Int) := by omega
      obtain rfl : k = A.length := by omega
      go_wp2
      go_ret
      exact ⟨rfl, HW.out⟩
theorem grow_at {w : World} {ga : Option Addr} {G : List (List Nat)} (h : GRow w ga G) {i : Nat} {g : List Nat} (hg : G[i]? = some g) : ∃ b o ao cap, ga = some ⟨b, o, none⟩ ∧ b < w.heap.size ∧ w.cell? ⟨b, o + i, none⟩ = some (.slice ao g.length cap) ∧ Lst encI w ao (natI g) := by
  obtain ⟨hi, e⟩ := List.getElem?_eq_some_iff.1 hg
  subst e
  exact h i hi
/-! What any right program answers -/
def Z3 : List ArcT := [(0, 1, 0, 5), (1, 2, 0, 1), (0, 2, 0, 9)]
theorem row3 (w : World) (g : Nat) (hg : w.heap.size = g) (t : TypeId) : Row encA 4 (w.alloc (.cells #[.int .i64 0, .int .i64 1, .int .i64 0, .int .i64 5, .int .i64 1, .int .i64 2, .int .i64 0, .int .i64 1, .int .i64 0, .int .i64 2, .int .i64 0, .int .i64 9] t)) (some ⟨g, 0, none⟩) Z3 := by
  intro i hi
  refine ⟨g, 0, rfl, by simp; omega, fun j hj => ?_⟩
  rw [Nat.zero_add, cell_new' hg]
  match i, hi, j, hj with
  | 0, _, 0, _ => rfl
  | 0, _, 1, _ => rfl
  | 0, _, 2, _ => rfl
  | 0, _, 3, _ => rfl
  | 1, _, 0, _ => rfl
  | 1, _, 1, _ => rfl
  | 1, _, 2, _ => rfl
  | 1, _, 3, _ => rfl
  | 2, _, 0, _ => rfl
  | 2, _, 1, _ => rfl
  | 2, _, 2, _ => rfl
  | 2, _, 3, _ => rfl
theorem lst3 (w : World) (t : TypeId) (g : Nat) (hg : w.heap.size = g) (x y u : Int) : Lst encI (w.alloc (.cells #[.int .i64 x, .int .i64 y, .int .i64 u] t)) (some ⟨g, 0, none⟩) [x, y, u] := by
  intro i hi
  refine ⟨g, 0, rfl, by simp; omega, ?_⟩
  rw [Nat.zero_add, cell_new' hg]
  match i, hi with
  | 0, _ => rfl
  | 1, _ => rfl
  | 2, _ => rfl
theorem z3_err : hopE 3 Z3 0 = 0 := by decide
theorem z3_chk : checkE 3 Z3 = 0 := by decide
theorem z3_hops : hopsL 3 Z3 0 = [0, 1, 1] := by decide
theorem z3_fast : fastL 3 Z3 0 = [0, 5, 6] := by decide
theorem z3_order : orderL 3 Z3 = some [0, 1, 2] := by decide
end Go.Proofs.Ytbolpjahmmjllaa
