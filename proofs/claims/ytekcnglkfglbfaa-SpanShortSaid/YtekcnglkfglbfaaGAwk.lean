/- What any right program answers: awake of layer 12; what Most answers, case by case. -/
import Derived.Test.YtekcnglkfglbfaaGNew
namespace Go.Proofs.Ytekcnglkfglbfaa
open Go.RowKit
set_option linter.unusedVariables false

theorem most_isG {n : Int} {Z : List ArcT} {s t H m m' : Int} (h : MostIs n Z s t H m) (g : MostIs n Z s t H m') : m = m' := by
  obtain ⟨N, i, j, rfl, rfl, rfl, _, _, _, _, h1⟩ := h
  obtain ⟨N', i', j', e1, e2, e3, _, _, _, _, g1⟩ := g
  obtain rfl : N' = N := by omega
  obtain rfl : i' = i := by omega
  obtain rfl : j' = j := by omega
  exact isBest_unique h1 g1
section
variable (n : Int) (b : Bool) (ao : Option Addr) (cap : Nat) (Z : List ArcT)
/-- The most is known. -/
theorem pmost_at (s t H m : Int) (w : World) (h : Row encA 4 w ao Z) (hz : Z.length ≤ maxLen) (hE : askE n Z s t H = 0) (hm : MostIs n Z s t H m) :
    Calls Try.prog 11 #[.agg #[.int .i64 n, .bool b, .slice ao Z.length cap], .int .i64 s, .int .i64 t, .int .i64 H] w fun e w' => e = .returned (.tuple #[.int .i64 m, .int .i64 0]) ∧ Below w.heap.size w w' := by
  refine (pmost_any b ao cap Z n s t H w h hz).mono ?_
  rintro e w' ⟨m', rfl, h1, _, hb⟩
  rw [hE, most_isG hm (h1 hE)]
  exact ⟨rfl, hb⟩
theorem pmost_no (s t H e0 : Int) (w : World) (h : Row encA 4 w ao Z) (hz : Z.length ≤ maxLen) (hE : askE n Z s t H = e0) (h0 : e0 ≠ 0) :
    Calls Try.prog 11 #[.agg #[.int .i64 n, .bool b, .slice ao Z.length cap], .int .i64 s, .int .i64 t, .int .i64 H] w fun e w' => e = .returned (.tuple #[.int .i64 0, .int .i64 e0]) ∧ Below w.heap.size w w' := by
  refine (pmost_any b ao cap Z n s t H w h hz).mono ?_
  rintro e w' ⟨m', rfl, _, h1, hb⟩
  rw [hE] at h1 ⊢
  rw [h1 h0]
  exact ⟨rfl, hb⟩
end
def ZG : List ArcT := [(0, 1, 2, 1), (1, 2, 2, 1)]
def cellsG : Array Value := #[.int .i64 0, .int .i64 1, .int .i64 2, .int .i64 1, .int .i64 1, .int .i64 2, .int .i64 2, .int .i64 1]
theorem rowG (w : World) (g : Nat) (hg : w.heap.size = g) (t : TypeId) : Row encA 4 (w.alloc (.cells cellsG t)) (some ⟨g, 0, none⟩) ZG := by
  intro i hi
  refine ⟨g, 0, rfl, by simp; omega, fun j hj => ?_⟩
  rw [Nat.zero_add, cell_new' hg]
  match i, hi, j, hj with
  | 0, _, 0, _ => rfl
  | 0, _, 1, _ => rfl
  | 0, _, 2, _ => rfl
  | 0, _, 3, _ => rfl
  | 1, _, 0, _ => rfl
  | 1, _, 1, _ => rfl
  | 1, _, 2, _ => rfl
  | 1, _, 3, _ => rfl
theorem lstG (w : World) (t : TypeId) (g : Nat) (hg : w.heap.size = g) (x y : Int) : Lst encI (w.alloc (.cells #[.int .i64 x, .int .i64 y] t)) (some ⟨g, 0, none⟩) [x, y] := by
  intro i hi
  refine ⟨g, 0, rfl, by simp; omega, ?_⟩
  rw [Nat.zero_add, cell_new' hg]
  match i, hi with
  | 0, _ => rfl
  | 1, _ => rfl
theorem zg_len : ZG.length ≤ maxLen := by unfold maxLen; decide
theorem zg_ask : askE 3 ZG 0 2 1 = 0 ∧ askE 3 ZG 0 2 5 = 0 ∧ askE 3 ZG 0 2 (-1) = 1 := ⟨by kernel_rfl, by kernel_rfl, by kernel_rfl⟩
theorem zg_flow {g : List Int} {k : Int} (h : FlowST ZG 3 0 2 g k) : (0 ≤ k ∧ k ≤ 2) ∧ ∀ H, worthK ZG H g k = (H + 1) * k - 2 * k := by
  obtain ⟨⟨hl, hc⟩, hb, hk⟩ := h
  have h0 := hc 0 _ rfl
  have h1 := hc 1 _ rfl
  have h2 := hb 1 (by omega) (by omega) (by omega)
  obtain ⟨x, y, rfl⟩ : ∃ x y, g = [x, y] := by
    match g, hl with
    | [x, y], _ => exact ⟨x, y, rfl⟩
  have e0 : atI [x, y] 0 = x := rfl
  have e1 : atI [x, y] 1 = y := rfl
  have e2 : bal ZG [x, y] 1 = 0 - x + (y - 0) := by unfold bal; simp [balK, ZG, share, frN, toN, e0, e1]
  have e3 : bal ZG [x, y] 0 = x := by unfold bal; simp [balK, ZG, share, frN, toN, e0]
  rw [e0] at h0
  rw [e1] at h1
  rw [e2] at h2
  rw [e3] at hk
  subst hk
  simp only [capN] at h0 h1
  refine ⟨⟨by omega, by omega⟩, fun H => ?_⟩
  unfold worthK
  have e4 : costK ZG [x, y] ZG.length = x + y := by simp [costK, ZG, tm, e0, e1]
  rw [e4]
  omega
theorem zg_st (x : Int) (h0 : 0 ≤ x) (h2 : x ≤ 2) : FlowST ZG 3 0 2 [x, x] x := by
  have e0 : atI [x, x] 0 = x := rfl
  have e1 : atI [x, x] 1 = x := rfl
  refine ⟨⟨rfl, fun i a hi => ?_⟩, fun v hv h1 h2 => ?_, by unfold bal; simp [balK, ZG, share, frN, toN, e0]⟩
  · match i, hi with
    | 0, hi => cases hi; exact ⟨h0, h2⟩
    | 1, hi => cases hi; exact ⟨h0, h2⟩
  · match v, hv with
    | 0, _ => exact absurd rfl h1
    | 1, _ => unfold bal; simp [balK, ZG, share, frN, toN, e0, e1]; exact Int.add_left_neg x
    | 2, _ => exact absurd rfl h2
theorem zg_most (H m x : Int) (hA : askE 3 ZG 0 2 H = 0) (h0 : 0 ≤ x) (h2 : x ≤ 2) (hx : (H + 1) * x - 2 * x = m) (hall : ∀ k : Int, 0 ≤ k → k ≤ 2 → (H + 1) * k - 2 * k ≤ m) : MostIs 3 ZG 0 2 H m := by
  obtain ⟨N, i, j, e1, e2, e3, hi, hj, hij, hW, _⟩ := ask_net hA
  obtain rfl : N = 3 := by omega
  obtain rfl : i = 0 := by omega
  obtain rfl : j = 2 := by omega
  refine ⟨3, 0, 2, rfl, rfl, rfl, hi, hj, hij, hW, ⟨[x, x], x, zg_st x h0 h2, ?_⟩, fun g k hg => ?_⟩
  · rw [(zg_flow (zg_st x h0 h2)).2 H, hx]
  · obtain ⟨⟨a, b⟩, c⟩ := zg_flow hg
    rw [c H]
    exact hall k a b
theorem zg_m1 : MostIs 3 ZG 0 2 1 0 := zg_most 1 0 0 zg_ask.1 (by omega) (by omega) (by omega) (fun k h1 h2 => by omega)
theorem zg_m5 : MostIs 3 ZG 0 2 5 8 := zg_most 5 8 2 zg_ask.2.1 (by omega) (by omega) (by omega) (fun k h1 h2 => by omega)
theorem zg_w : worE 3 ZG 0 2 [1, 1] 2 = 0 ∧ worV 3 ZG 0 2 [1, 1] 2 = 1 := ⟨by kernel_rfl, by kernel_rfl⟩
section
variable (ao fo : Option Addr) (w : World) (h : Row encA 4 w ao ZG)
theorem gc1 (h : Row encA 4 w ao ZG) : Calls Try.prog 11 #[.agg #[.int .i64 3, .bool false, .slice ao 2 2], .int .i64 0, .int .i64 2, .int .i64 1] w fun e w' => e = .returned (.tuple #[.int .i64 0, .int .i64 0]) ∧ Below w.heap.size w w' := pmost_at 3 false ao 2 ZG 0 2 1 0 w h zg_len zg_ask.1 zg_m1
theorem gc2 (h : Row encA 4 w ao ZG) : Calls Try.prog 11 #[.agg #[.int .i64 3, .bool false, .slice ao 2 2], .int .i64 0, .int .i64 2, .int .i64 5] w fun e w' => e = .returned (.tuple #[.int .i64 8, .int .i64 0]) ∧ Below w.heap.size w w' := pmost_at 3 false ao 2 ZG 0 2 5 8 w h zg_len zg_ask.2.1 zg_m5
theorem gc3 (h : Row encA 4 w ao ZG) (hf : Lst encI w fo [1, 1]) : Calls Try.prog 7 #[.agg #[.int .i64 3, .bool false, .slice ao 2 2], .int .i64 0, .int .i64 2, .slice fo 2 2, .int .i64 2] w fun e w' => e = .returned (.tuple #[.int .i64 1, .int .i64 0]) ∧ Below w.heap.size w w' := by
  refine (pworth_any 3 false ao fo 2 2 ZG [1, 1] 0 2 2 w h hf zg_len (by unfold maxLen; decide)).mono ?_
  rw [zg_w.1, zg_w.2]
  exact fun e w' h => h
theorem gc4 (h : Row encA 4 w ao ZG) : Calls Try.prog 11 #[.agg #[.int .i64 3, .bool false, .slice ao 2 2], .int .i64 0, .int .i64 2, .int .i64 (-1)] w fun e w' => e = .returned (.tuple #[.int .i64 0, .int .i64 1]) ∧ Below w.heap.size w w' := pmost_no 3 false ao 2 ZG 0 2 (-1) 1 w h zg_len zg_ask.2.2 (by decide)
end
set_option maxRecDepth 100000 in
set_option maxHeartbeats 4000000 in
theorem pawake_any (w : World) : Calls Try.prog 9 #[] w fun e w' => e = .returned (.bool true) ∧ Below w.heap.size w w' := by
  have hb0 := ((Below.refl _ w).alloc (Nat.le_refl _) (.cells cellsG 40)).alloc (by simp) (.cells #[.int .i64 3, .bool false, .slice (some ⟨w.heap.size, 0, none⟩) 2 2] 24)
  have HB := Lib.hid hb0
  have HR := Lib.hid (row_alloc (rowG w _ rfl 40) (.cells #[.int .i64 3, .bool false, .slice (some ⟨w.heap.size, 0, none⟩) 2 2] 24))
  have HN := Lib.hid (heap_alloc_new (w.alloc (.cells cellsG 40)) (.cells #[.int .i64 3, .bool false, .slice (some ⟨w.heap.size, 0, none⟩) 2 2] 24))
  obtain ⟨W, hW⟩ : ∃ W, (w.alloc (.cells cellsG 40)).alloc (.cells #[.int .i64 3, .bool false, .slice (some ⟨w.heap.size, 0, none⟩) 2 2] 24) = W := ⟨_, rfl⟩
  have HW := Lib.hid hW
  rw [hW] at HB HR HN
  rw [show (w.alloc (.cells cellsG 40)).heap.size = w.heap.size + 1 by simp] at HN
  clear hb0 hW
  go_enter Try.func9, Try.ntmps9
  go_upto_region 2 with (fail)
  unfold cellsG at HW
  rw [HW.out]
  have c0 := cell_whole HN.out 0
  have c1 := cell_whole HN.out 1
  have c2 := cell_whole HN.out 2
  clear HW
  go_wp2_with (first
    | (go_at_call 11; refine (gc1 (some ⟨w.heap.size, 0, none⟩) _ HR.out).mono ?_; rintro e w1 ⟨rfl, hb1⟩; have HB1 := Lib.hid (HB.out.trans (hb1.mono HB.out.size)); have HR1 := Lib.hid (HR.out.below' hb1); have c0 := cell_below hb1 c0; have c1 := cell_below hb1 c1; have c2 := cell_below hb1 c2; clear hb1 HR HB HN))
  go_wp2_with (first
    | (go_at_call 11; refine (gc2 (some ⟨w.heap.size, 0, none⟩) _ HR1.out).mono ?_; rintro e w2 ⟨rfl, hb1⟩; have HB2 := Lib.hid (HB1.out.trans (hb1.mono HB1.out.size)); have HR2 := Lib.hid (HR1.out.below' hb1); have c0 := cell_below hb1 c0; have c1 := cell_below hb1 c1; have c2 := cell_below hb1 c2; clear hb1 HR1 HB1))
  have bA := (Below.refl _ w2).alloc (Nat.le_refl _) (.cells #[.int .i64 1, .int .i64 1] 3)
  have HRA := Lib.hid (HR2.out.below' bA)
  have HFA := Lib.hid (lstG w2 3 _ rfl 1 1)
  have HBA := Lib.hid (HB2.out.trans (bA.mono HB2.out.size))
  have x0 := cell_below bA c0
  have x1 := cell_below bA c1
  have x2 := cell_below bA c2
  clear bA
  go_wp2_with (first
    | (go_at_call 7; refine (gc3 (some ⟨w.heap.size, 0, none⟩) _ _ HRA.out HFA.out).mono ?_; rintro e w3 ⟨rfl, hb1⟩; have HB3 := Lib.hid (HBA.out.trans (hb1.mono HBA.out.size)); have HR3 := Lib.hid (HRA.out.below' hb1); have c0 := cell_below hb1 x0; have c1 := cell_below hb1 x1; have c2 := cell_below hb1 x2; clear hb1 HRA HFA HBA x0 x1 x2))
  go_wp2_with (first
    | (go_at_call 11; refine (gc4 (some ⟨w.heap.size, 0, none⟩) _ HR3.out).mono ?_; rintro e w4 ⟨rfl, hb1⟩; have HB4 := Lib.hid (HB3.out.trans (hb1.mono HB3.out.size)); clear hb1))
  go_ret
  exact ⟨rfl, HB4.out⟩
end Go.Proofs.Ytekcnglkfglbfaa
