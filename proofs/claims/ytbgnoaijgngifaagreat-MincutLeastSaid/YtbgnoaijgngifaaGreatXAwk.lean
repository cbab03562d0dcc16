/- What any right program answers: awake of layer 9; and what Max and Most answer, case by case. -/
import Derived.Test.YtbgnoaijgngifaaGreatXBest
import Derived.Test.YtbgnoaijgngifaaGreatXMax
namespace Go.Proofs.YtbgnoaijgngifaaGreat
open Go.RowKit
set_option linter.unusedVariables false

section
variable (b : Bool) (ao : Option Addr) (cap : Nat) (Z : List ArcT)
theorem isMost_eq {N i j : Nat} {k m : Int} (hE : endsE (N : Int) Z (i : Int) (j : Int) = 0) (hi : i < N) (h : IsMost Z N i j k) (g : IsMost Z N i j m) : k = m := by
  have hZ := (arcs_lt hE).1
  rw [Int.toNat_natCast] at hZ
  exact isMost_unique hZ hi h g
theorem xmax_ok (N i j : Nat) (w : World) (h : Row encA 4 w ao Z) (hz : Z.length ≤ maxLen) (hE : endsE (N : Int) Z (i : Int) (j : Int) = 0) :
    Calls Tryz.prog 9 #[.agg #[.int .i64 (N : Int), .bool b, .slice ao Z.length cap], .int .i64 (i : Int), .int .i64 (j : Int)] w fun e w' => ∃ fo fc F k, e = .returned (.tuple #[.slice fo F.length fc, .int .i64 k, .int .i64 0]) ∧ Lst encI w' fo F ∧ FlowST Z N i j F k ∧ IsMost Z N i j k ∧ j ∉ keysX (seekN Z F N i) ∧ Below w.heap.size w w' := by
  refine (xmax_any (N : Int) b ao cap Z (i : Int) (j : Int) w h hz).mono ?_
  rintro e w' (⟨_, fo, fc, F, k, N', i', j', h1, h2, h3, _, he, hf, hv, hm, hn, hb⟩ | ⟨hne, _⟩)
  · obtain rfl : N' = N := by omega
    obtain rfl : i' = i := by omega
    obtain rfl : j' = j := by omega
    exact ⟨fo, fc, F, k, he, hf, hv, hm, hn, hb⟩
  · exact absurd hE hne
theorem xmax_no (n s t e0 : Int) (w : World) (h : Row encA 4 w ao Z) (hz : Z.length ≤ maxLen) (hE : endsE n Z s t = e0) (h0 : e0 ≠ 0) :
    Calls Tryz.prog 9 #[.agg #[.int .i64 n, .bool b, .slice ao Z.length cap], .int .i64 s, .int .i64 t] w fun e w' => e = .returned (.tuple #[.slice none 0 0, .int .i64 0, .int .i64 e0]) ∧ Below w.heap.size w w' := by
  refine (xmax_any n b ao cap Z s t w h hz).mono ?_
  rintro e w' (⟨h1, _⟩ | ⟨_, he, hb⟩)
  · rw [hE] at h1; exact absurd h1 h0
  · rw [hE] at he; exact ⟨he, hb⟩
theorem most_yes {n s t : Int} {N i j : Nat} (hn : n = (N : Int)) (hs : s = (i : Int)) (ht : t = (j : Int)) (hE : endsE n Z s t = 0) {w w' : World} {e : Ending} (h : MostRes n Z s t w e w') : ∃ k, e = .returned (.tuple #[.int .i64 k, .int .i64 0]) ∧ IsMost Z N i j k ∧ Below w.heap.size w w' := by
  rcases h with ⟨_, k, N', i', j', h1, h2, h3, _, he, hm, hb⟩ | ⟨hne, _⟩
  · obtain rfl : N' = N := by omega
    obtain rfl : i' = i := by omega
    obtain rfl : j' = j := by omega
    exact ⟨k, he, hm, hb⟩
  · exact absurd hE hne
theorem most_no {n s t e0 : Int} (hE : endsE n Z s t = e0) (h0 : e0 ≠ 0) {w w' : World} {e : Ending} (h : MostRes n Z s t w e w') : e = .returned (.tuple #[.int .i64 0, .int .i64 e0]) ∧ Below w.heap.size w w' := by
  rcases h with ⟨h1, _⟩ | ⟨_, he, hb⟩
  · rw [hE] at h1; exact absurd h1 h0
  · rw [hE] at he; exact ⟨he, hb⟩
end
/-! One network -/
def ZM : List ArcT := [(0, 1, 3, 0), (0, 2, 2, 0), (1, 3, 2, 0), (2, 3, 3, 0), (1, 2, 5, 0)]
def cellsM : Array Value := #[.int .i64 0, .int .i64 1, .int .i64 3, .int .i64 0, .int .i64 0, .int .i64 2, .int .i64 2, .int .i64 0, .int .i64 1, .int .i64 3, .int .i64 2, .int .i64 0, .int .i64 2, .int .i64 3, .int .i64 3, .int .i64 0, .int .i64 1, .int .i64 2, .int .i64 5, .int .i64 0]
theorem rowM9 (w : World) (g : Nat) (hg : w.heap.size = g) (t : TypeId) : Row encA 4 (w.alloc (.cells cellsM t)) (some ⟨g, 0, none⟩) ZM := by
  intro i hi
  refine ⟨g, 0, rfl, by simp; omega, fun j hj => ?_⟩
  rw [Nat.zero_add, cell_new' hg]
  match i, hi, j, hj with
  | 0, _, 0, _ => rfl
  | 0, _, 1, _ => rfl
  | 0, _, 2, _ => rfl
  | 0, _, 3, _ => rfl
  | 1, _, 0, _ => rfl
  | 1, _, 1, _ => rfl
  | 1, _, 2, _ => rfl
  | 1, _, 3, _ => rfl
  | 2, _, 0, _ => rfl
  | 2, _, 1, _ => rfl
  | 2, _, 2, _ => rfl
  | 2, _, 3, _ => rfl
  | 3, _, 0, _ => rfl
  | 3, _, 1, _ => rfl
  | 3, _, 2, _ => rfl
  | 3, _, 3, _ => rfl
  | 4, _, 0, _ => rfl
  | 4, _, 1, _ => rfl
  | 4, _, 2, _ => rfl
  | 4, _, 3, _ => rfl
theorem zm_e : endsE ((4 : Nat) : Int) ZM ((0 : Nat) : Int) ((3 : Nat) : Int) = 0 ∧ endsE ((4 : Nat) : Int) ZM ((3 : Nat) : Int) ((0 : Nat) : Int) = 0 ∧ endsE 4 ZM 1 1 = 70 := ⟨by kernel_rfl, by kernel_rfl, by kernel_rfl⟩
theorem zm_flow : Flow ZM [3, 2, 2, 3, 1] := by
  refine ⟨rfl, fun i a hi => ?_⟩
  match i, hi with
  | 0, hi => cases hi; decide
  | 1, hi => cases hi; decide
  | 2, hi => cases hi; decide
  | 3, hi => cases hi; decide
  | 4, hi => cases hi; decide
theorem zm_most : IsMost ZM 4 0 3 5 := by
  refine ⟨⟨[3, 2, 2, 3, 1], zm_flow, fun v hv h1 h2 => ?_, by kernel_rfl⟩, fun v => decide (v = 0), ⟨rfl, rfl⟩, by kernel_rfl⟩
  match v, hv with
  | 0, _ => exact absurd rfl h1
  | 1, _ => exact (by kernel_rfl : bal ZM [3, 2, 2, 3, 1] 1 = 0)
  | 2, _ => exact (by kernel_rfl : bal ZM [3, 2, 2, 3, 1] 2 = 0)
  | 3, _ => exact absurd rfl h2
theorem zm_none : IsMost ZM 4 3 0 0 := by
  refine ⟨⟨[0, 0, 0, 0, 0], ⟨rfl, fun i a hi => ?_⟩, fun v hv h1 h2 => ?_, by kernel_rfl⟩, fun v => decide (v = 3), ⟨rfl, rfl⟩, by kernel_rfl⟩
  · match i, hi with
    | 0, hi => cases hi; decide
    | 1, hi => cases hi; decide
    | 2, hi => cases hi; decide
    | 3, hi => cases hi; decide
    | 4, hi => cases hi; decide
  · match v, hv with
    | 0, _ => exact (by kernel_rfl : bal ZM [0, 0, 0, 0, 0] 0 = 0)
    | 1, _ => exact (by kernel_rfl : bal ZM [0, 0, 0, 0, 0] 1 = 0)
    | 2, _ => exact (by kernel_rfl : bal ZM [0, 0, 0, 0, 0] 2 = 0)
    | 3, _ => exact (by kernel_rfl : bal ZM [0, 0, 0, 0, 0] 3 = 0)
theorem zm_len : ZM.length ≤ maxLen := by unfold maxLen; decide
theorem xm1 (ao : Option Addr) (w : World) (h : Row encA 4 w ao ZM) : Calls Tryz.prog 9 #[.agg #[.int .i64 4, .bool false, .slice ao 5 5], .int .i64 0, .int .i64 3] w fun e w' => ∃ fo fc, e = .returned (.tuple #[.slice fo 5 fc, .int .i64 5, .int .i64 0]) ∧ Below w.heap.size w w' := by
  refine (show Calls Tryz.prog 9 #[.agg #[.int .i64 4, .bool false, .slice ao 5 5], .int .i64 0, .int .i64 3] w _ from xmax_ok false ao 5 ZM 4 0 3 w h zm_len zm_e.1).mono ?_
  rintro e w' ⟨fo, fc, F, k, rfl, _, hv, hm, _, hb⟩
  have hk : k = 5 := isMost_eq ZM zm_e.1 (by omega) hm zm_most
  have hl : F.length = 5 := hv.1.1
  exact ⟨fo, fc, by rw [hk, hl], hb⟩
theorem xm3 (ao : Option Addr) (w : World) (h : Row encA 4 w ao ZM) : Calls Tryz.prog 9 #[.agg #[.int .i64 4, .bool false, .slice ao 5 5], .int .i64 1, .int .i64 1] w fun e w' => e = .returned (.tuple #[.slice none 0 0, .int .i64 0, .int .i64 70]) ∧ Below w.heap.size w w' :=
  xmax_no false ao 5 ZM 4 1 1 70 w h zm_len zm_e.2.2 (by decide)
end Go.Proofs.YtbgnoaijgngifaaGreat
