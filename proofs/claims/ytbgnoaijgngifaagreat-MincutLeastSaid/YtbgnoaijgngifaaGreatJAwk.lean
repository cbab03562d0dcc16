/- What Least answers, case by case; and what any right program answers: awake of layer 10. -/
import Derived.Test.YtbgnoaijgngifaaGreatJLst
import Derived.Test.YtbgnoaijgngifaaGreatJSam
import Derived.Test.YtbgnoaijgngifaaGreatJRef
import Derived.Test.YtbgnoaijgngifaaGreatXAwk
namespace Go.Proofs.YtbgnoaijgngifaaGreat
open Go.RowKit
set_option linter.unusedVariables false

theorem sideL_few {n : Int} {Z : List ArcT} {F : List Int} {s : Int} : (sideL n Z F s).length ≤ 50 := by
  unfold sideL
  rw [List.length_map]
  by_cases h : levE n Z F s = 0
  · have := levL_few h
    omega
  · rw [levL_no h]
    exact Nat.zero_le _
section
variable (b : Bool) (ao : Option Addr) (cap : Nat) (Z : List ArcT)
theorem lside_yes {n s t : Int} {N i j : Nat} (hn : n = (N : Int)) (hs : s = (i : Int)) (ht : t = (j : Int)) (hE : endsE n Z s t = 0) {w w' : World} {e : Ending} (h : LeastRes n Z s t w e w') :
    ∃ a c S k, e = .returned (.tuple #[.slice a S.length c, .int .i64 k, .int .i64 0]) ∧ Lst encB w' a S ∧ LeastS Z N i j S k ∧ Below w.heap.size w w' := by
  rcases h with ⟨_, a, c, S, k, N', i', j', h1, h2, h3, _, he, hl, hS, hb⟩ | ⟨hne, _⟩
  · obtain rfl : N' = N := by omega
    obtain rfl : i' = i := by omega
    obtain rfl : j' = j := by omega
    exact ⟨a, c, S, k, he, hl, hS, hb⟩
  · exact absurd hE hne
theorem lside_no {n s t e0 : Int} (hE : endsE n Z s t = e0) (h0 : e0 ≠ 0) {w w' : World} {e : Ending} (h : LeastRes n Z s t w e w') : e = .returned (.tuple #[.slice none 0 0, .int .i64 0, .int .i64 e0]) ∧ Below w.heap.size w w' := by
  rcases h with ⟨h1, _⟩ | ⟨_, he, hb⟩
  · rw [hE] at h1; exact absurd h1 h0
  · rw [hE] at he; exact ⟨he, hb⟩
theorem leastS_eq {N i j : Nat} {S T : List Bool} {k m : Int} (hE : endsE (N : Int) Z (i : Int) (j : Int) = 0) (hi : i < N) (h : LeastS Z N i j S k) (g : LeastS Z N i j T m) : S = T ∧ k = m := by
  have hZ := (arcs_lt hE).1
  rw [Int.toNat_natCast] at hZ
  exact h.same hZ hi g
theorem jleast_ok (N i j : Nat) (w : World) (h : Row encA 4 w ao Z) (hz : Z.length ≤ maxLen) (hE : endsE (N : Int) Z (i : Int) (j : Int) = 0) :
    Calls Tryz.prog 5 #[.agg #[.int .i64 (N : Int), .bool b, .slice ao Z.length cap], .int .i64 (i : Int), .int .i64 (j : Int)] w fun e w' => ∃ a c S k, e = .returned (.tuple #[.slice a S.length c, .int .i64 k, .int .i64 0]) ∧ Lst encB w' a S ∧ LeastS Z N i j S k ∧ Below w.heap.size w w' :=
  (jleast_any (N : Int) b ao cap Z (i : Int) (j : Int) w h hz).mono fun e w' hr => lside_yes Z rfl rfl rfl hE hr
theorem jleast_no (n s t e0 : Int) (w : World) (h : Row encA 4 w ao Z) (hz : Z.length ≤ maxLen) (hE : endsE n Z s t = e0) (h0 : e0 ≠ 0) :
    Calls Tryz.prog 5 #[.agg #[.int .i64 n, .bool b, .slice ao Z.length cap], .int .i64 s, .int .i64 t] w fun e w' => e = .returned (.tuple #[.slice none 0 0, .int .i64 0, .int .i64 e0]) ∧ Below w.heap.size w w' :=
  (jleast_any n b ao cap Z s t w h hz).mono fun e w' hr => lside_no Z hE h0 hr
/-- The least side is known. -/
theorem rleast_at (N i j : Nat) (S : List Bool) (k : Int) (w : World) (h : Row encA 4 w ao Z) (hz : Z.length ≤ maxLen) (hE : endsE (N : Int) Z (i : Int) (j : Int) = 0) (hi : i < N) (hS : LeastS Z N i j S k) :
    Calls Tryz.prog 6 #[.agg #[.int .i64 (N : Int), .bool b, .slice ao Z.length cap], .int .i64 (i : Int), .int .i64 (j : Int)] w fun e w' => ∃ a c, e = .returned (.tuple #[.slice a S.length c, .int .i64 k, .int .i64 0]) ∧ Lst encB w' a S ∧ Below w.heap.size w w' := by
  refine (rleast_any (N : Int) b ao cap Z (i : Int) (j : Int) w h hz).mono ?_
  intro e w' hr
  obtain ⟨a, c, T, m, he, hl, hT, hb⟩ := lside_yes Z rfl rfl rfl hE hr
  obtain ⟨rfl, rfl⟩ := leastS_eq Z hE hi hT hS
  exact ⟨a, c, he, hl, hb⟩
theorem jleast_at (N i j : Nat) (S : List Bool) (k : Int) (w : World) (h : Row encA 4 w ao Z) (hz : Z.length ≤ maxLen) (hE : endsE (N : Int) Z (i : Int) (j : Int) = 0) (hi : i < N) (hS : LeastS Z N i j S k) :
    Calls Tryz.prog 5 #[.agg #[.int .i64 (N : Int), .bool b, .slice ao Z.length cap], .int .i64 (i : Int), .int .i64 (j : Int)] w fun e w' => ∃ a c, e = .returned (.tuple #[.slice a S.length c, .int .i64 k, .int .i64 0]) ∧ Lst encB w' a S ∧ Below w.heap.size w w' := by
  refine (jleast_any (N : Int) b ao cap Z (i : Int) (j : Int) w h hz).mono ?_
  intro e w' hr
  obtain ⟨a, c, T, m, he, hl, hT, hb⟩ := lside_yes Z rfl rfl rfl hE hr
  obtain ⟨rfl, rfl⟩ := leastS_eq Z hE hi hT hS
  exact ⟨a, c, he, hl, hb⟩
theorem rlside_no (n s t e0 : Int) (w : World) (h : Row encA 4 w ao Z) (hz : Z.length ≤ maxLen) (hE : endsE n Z s t = e0) (h0 : e0 ≠ 0) :
    Calls Tryz.prog 6 #[.agg #[.int .i64 n, .bool b, .slice ao Z.length cap], .int .i64 s, .int .i64 t] w fun e w' => e = .returned (.tuple #[.slice none 0 0, .int .i64 0, .int .i64 e0]) ∧ Below w.heap.size w w' :=
  (rleast_any n b ao cap Z s t w h hz).mono fun e w' hr => lside_no Z hE h0 hr
end
/-! One network -/
def ZC : List ArcT := [(0, 1, 3, 0), (1, 2, 1, 0)]
theorem rowC (w : World) (g : Nat) (hg : w.heap.size = g) (t : TypeId) : Row encA 4 (w.alloc (.cells #[.int .i64 0, .int .i64 1, .int .i64 3, .int .i64 0, .int .i64 1, .int .i64 2, .int .i64 1, .int .i64 0] t)) (some ⟨g, 0, none⟩) ZC := by
  intro i hi
  refine ⟨g, 0, rfl, by simp; omega, fun j hj => ?_⟩
  rw [Nat.zero_add, cell_new' hg]
  match i, hi, j, hj with
  | 0, _, 0, _ => rfl
  | 0, _, 1, _ => rfl
  | 0, _, 2, _ => rfl
  | 0, _, 3, _ => rfl
  | 1, _, 0, _ => rfl
  | 1, _, 1, _ => rfl
  | 1, _, 2, _ => rfl
  | 1, _, 3, _ => rfl
theorem lstC (w : World) (t : TypeId) (g : Nat) (hg : w.heap.size = g) (x y z : Bool) : Lst encB (w.alloc (.cells #[.bool x, .bool y, .bool z] t)) (some ⟨g, 0, none⟩) [x, y, z] := by
  intro i hi
  refine ⟨g, 0, rfl, by simp; omega, ?_⟩
  rw [Nat.zero_add, cell_new' hg]
  match i, hi with
  | 0, _ => rfl
  | 1, _ => rfl
  | 2, _ => rfl
theorem zc_e : endsE ((3 : Nat) : Int) ZC ((0 : Nat) : Int) ((2 : Nat) : Int) = 0 := by kernel_rfl
theorem zc_len : ZC.length ≤ maxLen := by unfold maxLen; decide
theorem zc_flow : FlowST ZC 3 0 2 [1, 1] 1 := by
  refine ⟨⟨rfl, fun i a hi => ?_⟩, fun v hv h1 h2 => ?_, by kernel_rfl⟩
  · match i, hi with
    | 0, hi => cases hi; decide
    | 1, hi => cases hi; decide
  · match v, hv with
    | 0, _ => exact absurd rfl h1
    | 1, _ => exact (by kernel_rfl : bal ZC [1, 1] 1 = 0)
    | 2, _ => exact absurd rfl h2
theorem capC (T : Nat → Bool) (h : T 0 = true) (h2 : T 1 = false) : capS ZC T = 3 := by
  have o1 : outS T (0, 1, 3, 0) = true := by unfold outS; show (T 0 && !T 1) = true; rw [h, h2]; rfl
  have o2 : outS T (1, 2, 1, 0) = false := by unfold outS; show (T 1 && !T 2) = false; rw [h2]; rfl
  show capK ZC T 2 = 3
  rw [capK_succ (a := (1, 2, 1, 0)) rfl, capK_succ (a := (0, 1, 3, 0)) rfl, o1, o2]
  rfl
theorem zc_least : LeastS ZC 3 0 2 [true, true, false] 1 := by
  refine ⟨rfl, ⟨rfl, rfl⟩, by kernel_rfl, ⟨⟨_, zc_flow⟩, sideB [true, true, false], ⟨rfl, rfl⟩, by kernel_rfl⟩, fun T hT hc v hv => ?_⟩
  match v with
  | 0 => exact hT.1
  | 1 =>
    cases h : T 1 with
    | true => rfl
    | false => rw [capC T hT.1 h] at hc; exact absurd hc (by decide)
  | 2 => exact absurd hv (by decide)
  | v + 3 => exact absurd hv (by simp [sideB])
theorem zc_cap : capV 3 ZC [true, false, false] = 3 ∧ capE 3 ZC [true, false, false] = 0 := ⟨by kernel_rfl, by kernel_rfl⟩
theorem jc1 (ao : Option Addr) (w : World) (h : Row encA 4 w ao ZC) : Calls Tryz.prog 5 #[.agg #[.int .i64 3, .bool false, .slice ao 2 2], .int .i64 0, .int .i64 2] w fun e w' => ∃ a c, e = .returned (.tuple #[.slice a 3 c, .int .i64 1, .int .i64 0]) ∧ Lst encB w' a [true, true, false] ∧ Below w.heap.size w w' :=
  jleast_at false ao 2 ZC 3 0 2 [true, true, false] 1 w h zc_len zc_e (by omega) zc_least
theorem jc2 (ao so : Option Addr) (w : World) (h : Row encA 4 w ao ZC) (hs : Lst encB w so [true, false, false]) : Calls Tryz.prog 16 #[.agg #[.int .i64 3, .bool false, .slice ao 2 2], .slice so 3 3] w fun e w' => e = .returned (.tuple #[.int .i64 3, .int .i64 0]) ∧ Below w.heap.size w w' := by
  refine (show Calls Tryz.prog 16 #[.agg #[.int .i64 3, .bool false, .slice ao 2 2], .slice so 3 3] w _ from jcapacity_any 3 false ao so 2 3 ZC [true, false, false] w h hs zc_len (by unfold maxLen; decide)).mono ?_
  rw [zc_cap.1, zc_cap.2]
  exact fun e w' h => h
theorem jc3 (aa ab : Option Addr) (ca cb : Nat) (w : World) (ha : Lst encB w aa [true, true, false]) (hb : Lst encB w ab [true, true, false]) :
    Calls Tryz.prog 8 #[.slice aa 3 ca, .slice ab 3 cb] w fun e w' => e = .returned (.bool true) ∧ Below w.heap.size w w' :=
  rsameb_eq [true, true, false] aa ab ca cb w ha hb (by unfold maxLen; decide)
def cellsC : Array Value := #[.int .i64 0, .int .i64 1, .int .i64 3, .int .i64 0, .int .i64 1, .int .i64 2, .int .i64 1, .int .i64 0]
set_option maxRecDepth 100000 in
set_option maxHeartbeats 4000000 in
theorem jawake_any (w : World) : Calls Tryz.prog 7 #[] w fun e w' => e = .returned (.bool true) ∧ Below w.heap.size w w' := by
  have hb0 := ((Below.refl _ w).alloc (Nat.le_refl _) (.cells cellsC 42)).alloc (by simp) (.cells #[.int .i64 3, .bool false, .slice (some ⟨w.heap.size, 0, none⟩) 2 2] 24)
  have HB := Lib.hid hb0
  have HR := Lib.hid (row_alloc (rowC w _ rfl 42) (.cells #[.int .i64 3, .bool false, .slice (some ⟨w.heap.size, 0, none⟩) 2 2] 24))
  have HN := Lib.hid (heap_alloc_new (w.alloc (.cells cellsC 42)) (.cells #[.int .i64 3, .bool false, .slice (some ⟨w.heap.size, 0, none⟩) 2 2] 24))
  obtain ⟨W, hW⟩ : ∃ W, (w.alloc (.cells cellsC 42)).alloc (.cells #[.int .i64 3, .bool false, .slice (some ⟨w.heap.size, 0, none⟩) 2 2] 24) = W := ⟨_, rfl⟩
  have HW := Lib.hid hW
  rw [show w.alloc (.cells #[.int .i64 0, .int .i64 1, .int .i64 3, .int .i64 0, .int .i64 1, .int .i64 2, .int .i64 1, .int .i64 0] 42) = w.alloc (.cells cellsC 42) from rfl] at HR
  rw [hW] at HB HR HN
  rw [show (w.alloc (.cells cellsC 42)).heap.size = w.heap.size + 1 by simp] at HN
  clear hb0 hW
  go_enter Tryz.func7, Tryz.ntmps7
  go_upto_region 2 with (fail)
  unfold cellsC at HW
  rw [HW.out]
  have c0 := cell_whole HN.out 0
  have c1 := cell_whole HN.out 1
  have c2 := cell_whole HN.out 2
  clear HW
  go_wp2_with (go_at_call 5; refine (jc1 (some ⟨w.heap.size, 0, none⟩) W HR.out).mono ?_; rintro e w1 ⟨a1, q1, rfl, h1, hb1⟩; have HB1 := Lib.hid (HB.out.trans (hb1.mono HB.out.size)); have HR1 := Lib.hid (HR.out.below' hb1); have HL1 := Lib.hid h1; have c0 := cell_below hb1 c0; have c1 := cell_below hb1 c1; have c2 := cell_below hb1 c2; clear hb1 h1)
  have HBA := Lib.hid (HB1.out.alloc HB1.out.size (.cells #[.bool true, .bool false, .bool false] 4))
  have HLA := Lib.hid (HL1.out.below ((Below.refl _ w1).alloc (Nat.le_refl _) (.cells #[.bool true, .bool false, .bool false] 4)))
  have HRA := Lib.hid (HR1.out.below' ((Below.refl _ w1).alloc (Nat.le_refl _) (.cells #[.bool true, .bool false, .bool false] 4)))
  have HSA := Lib.hid (lstC w1 4 _ rfl true false false)
  go_wp2_with (go_at_call 16; refine (jc2 (some ⟨w.heap.size, 0, none⟩) (some ⟨w1.heap.size, 0, none⟩) _ HRA.out HSA.out).mono ?_; rintro e w2 ⟨rfl, hb2⟩; have HB2 := Lib.hid (HBA.out.trans (hb2.mono HBA.out.size)); have HL2 := Lib.hid (HLA.out.below hb2); clear hb2)
  have HBB := Lib.hid (HB2.out.alloc HB2.out.size (.cells #[.bool true, .bool true, .bool false] 4))
  have HLB := Lib.hid (HL2.out.below ((Below.refl _ w2).alloc (Nat.le_refl _) (.cells #[.bool true, .bool true, .bool false] 4)))
  have HSB := Lib.hid (lstC w2 4 _ rfl true true false)
  go_wp2_with (go_at_call 8; refine (jc3 a1 (some ⟨w2.heap.size, 0, none⟩) q1 3 _ HLB.out HSB.out).mono ?_; rintro e w3 ⟨rfl, hb3⟩; have HB3 := Lib.hid (HBB.out.trans (hb3.mono HBB.out.size)); clear hb3)
  go_ret
  exact ⟨rfl, HB3.out⟩
end Go.Proofs.YtbgnoaijgngifaaGreat
