/- Are two rows of numbers the same; and what any right program answers: awake of layer 11. -/
import Derived.Test.YtfklkcnopngpgaaOPrg
import Derived.Test.YtfklkcnopngpgaaJSam
namespace Go.Proofs.Ytfklkcnopngpgaa
open Go.RowKit
set_option linter.unusedVariables false

set_option maxRecDepth 100000 in
set_option maxHeartbeats 1000000 in
theorem sameints_is (A B : List Int) (aa ab : Option Addr) (ca cb : Nat) (w : World) (ha : Lst encI w aa A) (hb : Lst encI w ab B) (hl : A.length ≤ 200000) (hl2 : B.length ≤ 200000) :
    Calls Try.prog 12 #[.slice aa A.length ca, .slice ab B.length cb] w fun e w' => e = .returned (.bool (decide (A = B))) ∧ Below w.heap.size w w' := by
  have HA := Lib.hid ha
  have HB := Lib.hid hb
  clear ha hb
  by_cases hn : A.length = B.length
  · have HEX := Lib.hid (fun (h : ∀ i, i < A.length → A[i]? = B[i]?) => show A = B from List.ext_getElem? (fun i => by
      by_cases hi : i < A.length
      · exact h i hi
      · rw [List.getElem?_eq_none (by omega), List.getElem?_eq_none (by omega)]))
    obtain ⟨N, hN⟩ : ∃ N, A.length = N := ⟨_, rfl⟩
    rw [hN] at hn hl HEX
    have HNB := Lib.hid hn
    have HNA := Lib.hid hN
    rw [← hn, hN]
    clear hn hN
    go_enter Try.func12, Try.ntmps12
    go_wp2
    go_loopw [5] (fun i wr => ∃ k : Nat, k ≤ N ∧ i = .int .i64 (k : Int) ∧ Hid (∀ i, i < k → A[i]? = B[i]?) ∧ Hid (Below w.heap.size w wr)) (fun i _ => N - (intOf i).toNat)
    case atStart => exact ⟨0, Nat.zero_le _, rfl, Lib.hid (fun i h => by omega), Lib.hid (Below.refl _ _)⟩
    case round =>
      obtain ⟨k, hk, rfl, HS, HW⟩ := hrel
      by_cases hlt : k < N
      · have hli : (k : Int) < (N : Int) := by omega
        have h1 : k < A.length := by rw [HNA.out]; exact hlt
        have h2 : k < B.length := by rw [← HNB.out]; exact hlt
        obtain ⟨b1, o1, q1, hb1, hc1⟩ := lst_cell (HA.out.below HW.out) (List.getElem?_eq_getElem h1)
        obtain ⟨b2, o2, q2, hb2, hc2⟩ := lst_cell (HB.out.below HW.out) (List.getElem?_eq_getElem h2)
        have HX := Lib.hid (List.getElem?_eq_getElem h1)
        have HY := Lib.hid (List.getElem?_eq_getElem h2)
        cases q1
        cases q2
        unfold encI at hc1 hc2
        generalize A[k] = x at *
        generalize B[k] = y at *
        clear h1 h2
        by_cases hxy : x = y
        · subst hxy
          have HS2 : Hid (∀ i, i < k + 1 → A[i]? = B[i]?) := Lib.hid (fun i hi => by
            by_cases e : i = k
            · subst e; rw [HX.out, HY.out]
            · exact HS.out i (by omega))
          go_wp2
          go_quiet (fail)
          go_wp2
          go_roundw
          case rel => exact ⟨k + 1, by omega, by go_num, HS2, Lib.hid (below_drewN HW.out _)⟩
          case measure => simp [intOf]; omega
        · have hne : (x != y) = true := by simpa using hxy
          have HF : Hid (decide (A = B) = false) := Lib.hid (decide_eq_false (fun e => by
            have h3 := HX.out
            rw [e, HY.out] at h3
            exact hxy (Option.some.inj h3).symm))
          go_wp2
          go_quiet (fail)
          go_wp2
          go_ret
          exact ⟨by rw [HF.out]; rfl, below_drewN HW.out _⟩
      · have hli : ¬ (k : Int) < (N : Int) := by omega
        obtain rfl : k = N := by omega
        have HT : Hid (decide (A = B) = true) := Lib.hid (decide_eq_true (HEX.out HS.out))
        go_wp2
        go_ret
        exact ⟨by rw [HT.out]; rfl, HW.out⟩
  · have HF : Hid (decide (A = B) = false) := Lib.hid (decide_eq_false (fun e => hn (by rw [e])))
    have hf : ((A.length : Int) != (B.length : Int)) = true := by simp; omega
    have hf2 : (A.length != B.length) = true := by simpa using hn
    generalize A.length = x at *
    generalize B.length = y at *
    go_enter Try.func12, Try.ntmps12
    go_wp2
    go_ret
    exact ⟨by rw [HF.out]; rfl, Below.refl _ _⟩
/-! One network -/
def ZO : List ArcT := [(0, 1, 1, 4), (1, 2, 1, 1), (0, 2, 1, 7)]
def cellsO : Array Value := #[.int .i64 0, .int .i64 1, .int .i64 1, .int .i64 4, .int .i64 1, .int .i64 2, .int .i64 1, .int .i64 1, .int .i64 0, .int .i64 2, .int .i64 1, .int .i64 7]
theorem rowO (w : World) (g : Nat) (hg : w.heap.size = g) (t : TypeId) : Row encA 4 (w.alloc (.cells cellsO t)) (some ⟨g, 0, none⟩) ZO := by
  intro i hi
  refine ⟨g, 0, rfl, by simp; omega, fun j hj => ?_⟩
  rw [Nat.zero_add, cell_new' hg]
  match i, hi, j, hj with
  | 0, _, 0, _ => rfl
  | 0, _, 1, _ => rfl
  | 0, _, 2, _ => rfl
  | 0, _, 3, _ => rfl
  | 1, _, 0, _ => rfl
  | 1, _, 1, _ => rfl
  | 1, _, 2, _ => rfl
  | 1, _, 3, _ => rfl
  | 2, _, 0, _ => rfl
  | 2, _, 1, _ => rfl
  | 2, _, 2, _ => rfl
  | 2, _, 3, _ => rfl
theorem lstB3 (w : World) (t : TypeId) (g : Nat) (hg : w.heap.size = g) (x y z : Bool) : Lst encB (w.alloc (.cells #[.bool x, .bool y, .bool z] t)) (some ⟨g, 0, none⟩) [x, y, z] := by
  intro i hi
  refine ⟨g, 0, rfl, by simp; omega, ?_⟩
  rw [Nat.zero_add, cell_new' hg]
  match i, hi with
  | 0, _ => rfl
  | 1, _ => rfl
  | 2, _ => rfl
theorem lstI3 (w : World) (t : TypeId) (g : Nat) (hg : w.heap.size = g) (x y z : Int) : Lst encI (w.alloc (.cells #[.int .i64 x, .int .i64 y, .int .i64 z] t)) (some ⟨g, 0, none⟩) [x, y, z] := by
  intro i hi
  refine ⟨g, 0, rfl, by simp; omega, ?_⟩
  rw [Nat.zero_add, cell_new' hg]
  match i, hi with
  | 0, _ => rfl
  | 1, _ => rfl
  | 2, _ => rfl
theorem zo_len : ZO.length ≤ maxLen ∧ ∀ x y z : Int, [x, y, z].length ≤ maxLen := by unfold maxLen; exact ⟨by decide, fun x y z => by simp⟩
theorem zo_far : farE 3 ZO [0, 0, 0] 0 = 0 ∧ farO 3 ZO [0, 0, 0] 0 = [some 0, some 4, some 5] := ⟨by kernel_rfl, by kernel_rfl⟩
theorem zo_far2 : farE 3 ZO [0, 0, 1] 2 = 110 ∧ farO 3 ZO [0, 0, 1] 2 = [] := ⟨by kernel_rfl, by kernel_rfl⟩
theorem zo_free : (freeB 3 ZO [0, 0, 0] = true ∧ flowE 3 ZO [0, 0, 0] = 0) ∧ freeB 3 ZO [0, 0, 1] = false ∧ flowE 3 ZO [0, 0, 1] = 0 := ⟨⟨by kernel_rfl, by kernel_rfl⟩, by kernel_rfl, by kernel_rfl⟩
theorem oc1 (ao fo : Option Addr) (w : World) (h : Row encA 4 w ao ZO) (hf : Lst encI w fo [0, 0, 0]) : Calls Try.prog 9 #[.agg #[.int .i64 3, .bool false, .slice ao 3 3], .slice fo 3 3, .int .i64 0] w fun e w' => ∃ a c a2 c2, e = .returned (.tuple #[.slice a 3 c, .slice a2 3 c2, .int .i64 0]) ∧ Lst encI w' a [0, 4, 5] ∧ Lst encB w' a2 [true, true, true] ∧ Below w.heap.size w w' := by
  refine (show Calls Try.prog 9 #[.agg #[.int .i64 3, .bool false, .slice ao 3 3], .slice fo 3 3, .int .i64 0] w _ from ofar_any 3 false ao fo 3 3 ZO [0, 0, 0] 0 w h hf zo_len.1 (zo_len.2 0 0 0)).mono ?_
  rintro e w' ⟨a, c, a2, c2, he, h1, h2, hb⟩
  rw [zo_far.1, zo_far.2] at he
  rw [zo_far.2] at h1 h2
  exact ⟨a, c, a2, c2, he, h1, h2, hb⟩
theorem oc2 (ao fo : Option Addr) (w : World) (h : Row encA 4 w ao ZO) (hf : Lst encI w fo [0, 0, 1]) : Calls Try.prog 9 #[.agg #[.int .i64 3, .bool false, .slice ao 3 3], .slice fo 3 3, .int .i64 2] w fun e w' => ∃ a c a2 c2, e = .returned (.tuple #[.slice a 0 c, .slice a2 0 c2, .int .i64 110]) ∧ Below w.heap.size w w' := by
  refine (show Calls Try.prog 9 #[.agg #[.int .i64 3, .bool false, .slice ao 3 3], .slice fo 3 3, .int .i64 2] w _ from ofar_any 3 false ao fo 3 3 ZO [0, 0, 1] 2 w h hf zo_len.1 (zo_len.2 0 0 1)).mono ?_
  rintro e w' ⟨a, c, a2, c2, he, h1, h2, hb⟩
  rw [zo_far2.1, zo_far2.2] at he
  exact ⟨a, c, a2, c2, he, hb⟩
theorem oc3 (ao fo : Option Addr) (w : World) (h : Row encA 4 w ao ZO) (hf : Lst encI w fo [0, 0, 0]) : Calls Try.prog 16 #[.agg #[.int .i64 3, .bool false, .slice ao 3 3], .slice fo 3 3] w fun e w' => e = .returned (.tuple #[.bool true, .int .i64 0]) ∧ Below w.heap.size w w' := by
  refine (show Calls Try.prog 16 #[.agg #[.int .i64 3, .bool false, .slice ao 3 3], .slice fo 3 3] w _ from ofree_any 3 false ao fo 3 3 ZO [0, 0, 0] w h hf zo_len.1 (zo_len.2 0 0 0)).mono ?_
  rw [zo_free.1.1, zo_free.1.2]
  exact fun e w' h => h
theorem oc4 (ao fo : Option Addr) (w : World) (h : Row encA 4 w ao ZO) (hf : Lst encI w fo [0, 0, 1]) : Calls Try.prog 16 #[.agg #[.int .i64 3, .bool false, .slice ao 3 3], .slice fo 3 3] w fun e w' => e = .returned (.tuple #[.bool false, .int .i64 0]) ∧ Below w.heap.size w w' := by
  refine (show Calls Try.prog 16 #[.agg #[.int .i64 3, .bool false, .slice ao 3 3], .slice fo 3 3] w _ from ofree_any 3 false ao fo 3 3 ZO [0, 0, 1] w h hf zo_len.1 (zo_len.2 0 0 1)).mono ?_
  rw [zo_free.2.1, zo_free.2.2]
  exact fun e w' h => h
theorem oc5 (aa ab : Option Addr) (ca cb : Nat) (w : World) (ha : Lst encI w aa [0, 4, 5]) (hb : Lst encI w ab [0, 4, 5]) : Calls Try.prog 12 #[.slice aa 3 ca, .slice ab 3 cb] w fun e w' => e = .returned (.bool true) ∧ Below w.heap.size w w' :=
  sameints_is [0, 4, 5] [0, 4, 5] aa ab ca cb w ha hb (by simp) (by simp)
theorem oc6 (aa ab : Option Addr) (ca cb : Nat) (w : World) (ha : Lst encB w aa [true, true, true]) (hb : Lst encB w ab [true, true, true]) : Calls Try.prog 13 #[.slice aa 3 ca, .slice ab 3 cb] w fun e w' => e = .returned (.bool true) ∧ Below w.heap.size w w' :=
  rsameb_eq [true, true, true] aa ab ca cb w ha hb (by unfold maxLen; decide)
set_option maxRecDepth 100000 in
set_option maxHeartbeats 4000000 in
theorem oawake_any (w : World) : Calls Try.prog 11 #[] w fun e w' => e = .returned (.bool true) ∧ Below w.heap.size w w' := by
  have hb0 := ((Below.refl _ w).alloc (Nat.le_refl _) (.cells cellsO 61)).alloc (by simp) (.cells #[.int .i64 3, .bool false, .slice (some ⟨w.heap.size, 0, none⟩) 3 3] 24)
  have HB := Lib.hid hb0
  have HR := Lib.hid (row_alloc (rowO w _ rfl 61) (.cells #[.int .i64 3, .bool false, .slice (some ⟨w.heap.size, 0, none⟩) 3 3] 24))
  have HN := Lib.hid (heap_alloc_new (w.alloc (.cells cellsO 61)) (.cells #[.int .i64 3, .bool false, .slice (some ⟨w.heap.size, 0, none⟩) 3 3] 24))
  obtain ⟨W, hW⟩ : ∃ W, (w.alloc (.cells cellsO 61)).alloc (.cells #[.int .i64 3, .bool false, .slice (some ⟨w.heap.size, 0, none⟩) 3 3] 24) = W := ⟨_, rfl⟩
  have HW := Lib.hid hW
  rw [hW] at HB HR HN
  rw [show (w.alloc (.cells cellsO 61)).heap.size = w.heap.size + 1 by simp] at HN
  clear hb0 hW
  go_enter Try.func11, Try.ntmps11
  go_upto_region 2 with (fail)
  unfold cellsO at HW
  rw [HW.out]
  have c0 := cell_whole HN.out 0
  have c1 := cell_whole HN.out 1
  have c2 := cell_whole HN.out 2
  clear HW
  have HRA := Lib.hid (HR.out.below' ((Below.refl _ W).alloc (Nat.le_refl _) (.cells #[.int .i64 0, .int .i64 0, .int .i64 0] 3)))
  have HFA := Lib.hid (lstI3 W 3 _ rfl 0 0 0)
  have HBA := Lib.hid (HB.out.alloc HB.out.size (.cells #[.int .i64 0, .int .i64 0, .int .i64 0] 3))
  have HNA := Lib.hid (kept_box HN.out ((Below.refl _ W).alloc (Nat.le_refl _) (.cells #[.int .i64 0, .int .i64 0, .int .i64 0] 3)))
  go_wp2_with (go_at_call 9; refine (oc1 (some ⟨w.heap.size, 0, none⟩) _ _ HRA.out HFA.out).mono ?_; rintro e w1 ⟨a1, q1, a2, q2, rfl, h1, h2, hb1⟩; have HB1 := Lib.hid (HBA.out.trans (hb1.mono HBA.out.size)); have HR1 := Lib.hid (HRA.out.below' hb1); have HL1 := Lib.hid h1; have HL2 := Lib.hid h2; have hn1 := kept_box HNA.out hb1; have HN1 := Lib.hid hn1; have c0 := cell_whole hn1 0; have c1 := cell_whole hn1 1; have c2 := cell_whole hn1 2; clear hb1 h1 h2 hn1 HNA HRA HFA HBA)
  have bB := (Below.refl _ w1).alloc (Nat.le_refl _) (.cells #[.int .i64 0, .int .i64 0, .int .i64 1] 3)
  have HRA := Lib.hid (HR1.out.below' bB)
  have HFA := Lib.hid (lstI3 w1 3 _ rfl 0 0 1)
  have HBA := Lib.hid (HB1.out.trans (bB.mono HB1.out.size))
  have HNA := Lib.hid (kept_box HN1.out bB)
  have HL1 := Lib.hid (HL1.out.below bB)
  have HL2 := Lib.hid (HL2.out.below bB)
  clear bB
  go_wp2_with (go_at_call 9; refine (oc2 (some ⟨w.heap.size, 0, none⟩) _ _ HRA.out HFA.out).mono ?_; rintro e w2 ⟨a3, q3, a4, q4, rfl, hb2⟩; have HB2 := Lib.hid (HBA.out.trans (hb2.mono HBA.out.size)); have HR2 := Lib.hid (HRA.out.below' hb2); have HL1 := Lib.hid (HL1.out.below hb2); have HL2 := Lib.hid (HL2.out.below hb2); have hn1 := kept_box HNA.out hb2; have HN2 := Lib.hid hn1; have c0 := cell_whole hn1 0; have c1 := cell_whole hn1 1; have c2 := cell_whole hn1 2; clear hb2 hn1 HNA HRA HFA HBA)
  have bB := (Below.refl _ w2).alloc (Nat.le_refl _) (.cells #[.int .i64 0, .int .i64 0, .int .i64 0] 3)
  have HRA := Lib.hid (HR2.out.below' bB)
  have HFA := Lib.hid (lstI3 w2 3 _ rfl 0 0 0)
  have HBA := Lib.hid (HB2.out.trans (bB.mono HB2.out.size))
  have HNA := Lib.hid (kept_box HN2.out bB)
  have HL1 := Lib.hid (HL1.out.below bB)
  have HL2 := Lib.hid (HL2.out.below bB)
  clear bB
  go_wp2_with (go_at_call 16; refine (oc3 (some ⟨w.heap.size, 0, none⟩) _ _ HRA.out HFA.out).mono ?_; rintro e w3 ⟨rfl, hb2⟩; have HB3 := Lib.hid (HBA.out.trans (hb2.mono HBA.out.size)); have HR3 := Lib.hid (HRA.out.below' hb2); have HL1 := Lib.hid (HL1.out.below hb2); have HL2 := Lib.hid (HL2.out.below hb2); have hn1 := kept_box HNA.out hb2; have HN3 := Lib.hid hn1; have c0 := cell_whole hn1 0; have c1 := cell_whole hn1 1; have c2 := cell_whole hn1 2; clear hb2 hn1 HNA HRA HFA HBA)
  have bB := (Below.refl _ w3).alloc (Nat.le_refl _) (.cells #[.int .i64 0, .int .i64 0, .int .i64 1] 3)
  have HRA := Lib.hid (HR3.out.below' bB)
  have HFA := Lib.hid (lstI3 w3 3 _ rfl 0 0 1)
  have HBA := Lib.hid (HB3.out.trans (bB.mono HB3.out.size))
  have HNA := Lib.hid (kept_box HN3.out bB)
  have HL1 := Lib.hid (HL1.out.below bB)
  have HL2 := Lib.hid (HL2.out.below bB)
  clear bB
  go_wp2_with (go_at_call 16; refine (oc4 (some ⟨w.heap.size, 0, none⟩) _ _ HRA.out HFA.out).mono ?_; rintro e w4 ⟨rfl, hb2⟩; have HB4 := Lib.hid (HBA.out.trans (hb2.mono HBA.out.size)); have HL1 := Lib.hid (HL1.out.below hb2); have HL2 := Lib.hid (HL2.out.below hb2); clear hb2 HNA HRA HFA HBA)
  have bB := (Below.refl _ w4).alloc (Nat.le_refl _) (.cells #[.int .i64 0, .int .i64 4, .int .i64 5] 3)
  have HFA := Lib.hid (lstI3 w4 3 _ rfl 0 4 5)
  have HBA := Lib.hid (HB4.out.trans (bB.mono HB4.out.size))
  have HL1 := Lib.hid (HL1.out.below bB)
  have HL2 := Lib.hid (HL2.out.below bB)
  clear bB
  go_wp2_with (go_at_call 12; refine (oc5 a1 _ q1 3 _ HL1.out HFA.out).mono ?_; rintro e w5 ⟨rfl, hb2⟩; have HB5 := Lib.hid (HBA.out.trans (hb2.mono HBA.out.size)); have HL2 := Lib.hid (HL2.out.below hb2); clear hb2 HFA HBA)
  have bB := (Below.refl _ w5).alloc (Nat.le_refl _) (.cells #[.bool true, .bool true, .bool true] 4)
  have HFA := Lib.hid (lstB3 w5 4 _ rfl true true true)
  have HBA := Lib.hid (HB5.out.trans (bB.mono HB5.out.size))
  have HL2 := Lib.hid (HL2.out.below bB)
  clear bB
  go_wp2_with (go_at_call 13; refine (oc6 a2 _ q2 3 _ HL2.out HFA.out).mono ?_; rintro e w6 ⟨rfl, hb2⟩; have HB6 := Lib.hid (HBA.out.trans (hb2.mono HBA.out.size)); clear hb2 HFA HBA)
  go_ret
  exact ⟨rfl, HB6.out⟩
end Go.Proofs.Ytfklkcnopngpgaa
