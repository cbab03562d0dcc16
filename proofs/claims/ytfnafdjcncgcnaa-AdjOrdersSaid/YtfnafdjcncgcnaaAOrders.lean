/- AdjOrders: the order that the program tells is the document's. -/
import Derived.Test.YtfnafdjcncgcnaaALaws
namespace Go.Proofs.Ytfnafdjcncgcnaa
open Go.RowKit
set_option linter.unusedVariables false

def fewN (n : Int) : Int := if 20 < n ∧ n ≤ 50 then 20 else n
def fewZ (Z : List ArcT) : List ArcT := if 60 < Z.length ∧ Z.length ≤ 200 then Z.take 60 else Z
theorem row_take {w : World} {ao : Option Addr} {Z : List ArcT} (h : Row encA 4 w ao Z) (k : Nat) : Row encA 4 w ao (Z.take k) := by
  intro i hi
  have hi' : i < Z.length := by rw [List.length_take] at hi; omega
  obtain ⟨b, o, h1, h2, h3⟩ := h i hi'
  refine ⟨b, o, h1, h2, fun j hj => ?_⟩
  rw [h3 j hj, List.getElem_take]
theorem row_few {w : World} {ao : Option Addr} {Z : List ArcT} (h : Row encA 4 w ao Z) : Row encA 4 w ao (fewZ Z) := by
  unfold fewZ
  split
  · exact row_take h 60
  · exact h
theorem fewZ_le (Z : List ArcT) : (fewZ Z).length ≤ Z.length := by
  unfold fewZ
  split
  · rw [List.length_take]; omega
  · exact Nat.le_refl _
/-- What Few tells: a network with fewer nodes and arcs. -/
def FewRes (n : Int) (b : Bool) (ao : Option Addr) (cap : Nat) (Z : List ArcT) (w : World) (e : Ending) (w' : World) : Prop :=
  e = .returned (.agg #[.int .i64 (fewN n), .bool b, .slice ao (fewZ Z).length cap]) ∧ Below w.heap.size w w'
theorem below_two (w : World) (x y : Obj) : Below w.heap.size w ((w.alloc x).alloc y) := ((Below.refl _ w).alloc (Nat.le_refl _) x).alloc (by simp) y
set_option maxHeartbeats 1000000 in
theorem few_any (n : Int) (b : Bool) (ao : Option Addr) (cap : Nat) (Z : List ArcT) (w : World) (h : Row encA 4 w ao Z) (hm : Z.length ≤ maxLen) (hcap : Z.length ≤ cap) :
    Calls Try.prog 19 #[.agg #[.int .i64 n, .bool b, .slice ao Z.length cap], .int .i64 20, .int .i64 60] w (FewRes n b ao cap Z w) := by
  unfold maxLen at hm
  by_cases h1 : 20 < n ∧ n ≤ 50
  · have HN : Hid (fewN n = 20) := Lib.hid (by unfold fewN; rw [if_pos h1])
    obtain ⟨h1a, h1b⟩ := h1
    by_cases h2 : 60 < Z.length ∧ Z.length ≤ 200
    · have HZ : Hid ((fewZ Z).length = 60) := Lib.hid (by unfold fewZ; rw [if_pos h2, List.length_take]; omega)
      obtain ⟨h2a, h2b⟩ := h2
      have h2c : (60 : Int) < (Z.length : Int) := by omega
      have h2d : (Z.length : Int) ≤ 200 := by omega
      obtain ⟨ab, ax, e, _⟩ := h 0 (by omega)
      cases e
      clear h
      have hc3 : (60 : Int) ≤ (cap : Int) := by omega
      go_enter Try.func19, Try.ntmps19
      go_wp2
      refine bodyPost_ret (v := .agg #[.int .i64 20, .bool b, .slice (some ⟨ab, ax, none⟩) 60 cap]) (by simp [results, Try.results19, go_sem]) rfl ?_
      exact ⟨by rw [HN.out, HZ.out], below_two _ _ _⟩
    · have HZ : Hid ((fewZ Z).length = Z.length) := Lib.hid (by unfold fewZ; rw [if_neg h2])
      clear h
      by_cases h2a : 60 < Z.length
      · have h2b : ¬ Z.length ≤ 200 := by omega
        have h2c : (60 : Int) < (Z.length : Int) := by omega
        have h2d : ¬ (Z.length : Int) ≤ 200 := by omega
        have h2e : decide (Z.length ≤ 200) = false := decide_eq_false h2b
        clear h2
        go_enter Try.func19, Try.ntmps19
        go_wp2
        refine bodyPost_ret (v := .agg #[.int .i64 20, .bool b, .slice ao Z.length cap]) (by simp [results, Try.results19, go_sem]) rfl ?_
        exact ⟨by rw [HN.out, HZ.out], below_two _ _ _⟩
      · have h2c : ¬ (60 : Int) < (Z.length : Int) := by omega
        clear h2
        go_enter Try.func19, Try.ntmps19
        go_wp2
        refine bodyPost_ret (v := .agg #[.int .i64 20, .bool b, .slice ao Z.length cap]) (by simp [results, Try.results19, go_sem]) rfl ?_
        exact ⟨by rw [HN.out, HZ.out], below_two _ _ _⟩
  · have HN : Hid (fewN n = n) := Lib.hid (by unfold fewN; rw [if_neg h1])
    by_cases h2 : 60 < Z.length ∧ Z.length ≤ 200
    · have HZ : Hid ((fewZ Z).length = 60) := Lib.hid (by unfold fewZ; rw [if_pos h2, List.length_take]; omega)
      obtain ⟨h2a, h2b⟩ := h2
      have h2c : (60 : Int) < (Z.length : Int) := by omega
      have h2d : (Z.length : Int) ≤ 200 := by omega
      obtain ⟨ab, ax, e, _⟩ := h 0 (by omega)
      cases e
      clear h
      have hc3 : (60 : Int) ≤ (cap : Int) := by omega
      by_cases h1a : 20 < n
      · have h1b : ¬ n ≤ 50 := by omega
        clear h1
        go_enter Try.func19, Try.ntmps19
        go_wp2
        refine bodyPost_ret (v := .agg #[.int .i64 n, .bool b, .slice (some ⟨ab, ax, none⟩) 60 cap]) (by simp [results, Try.results19, go_sem]) rfl ?_
        exact ⟨by rw [HN.out, HZ.out], below_two _ _ _⟩
      · clear h1
        go_enter Try.func19, Try.ntmps19
        go_wp2
        refine bodyPost_ret (v := .agg #[.int .i64 n, .bool b, .slice (some ⟨ab, ax, none⟩) 60 cap]) (by simp [results, Try.results19, go_sem]) rfl ?_
        exact ⟨by rw [HN.out, HZ.out], below_two _ _ _⟩
    · have HZ : Hid ((fewZ Z).length = Z.length) := Lib.hid (by unfold fewZ; rw [if_neg h2])
      clear h
      by_cases h2a : 60 < Z.length
      · have h2b : ¬ Z.length ≤ 200 := by omega
        have h2c : (60 : Int) < (Z.length : Int) := by omega
        have h2d : ¬ (Z.length : Int) ≤ 200 := by omega
        have h2e : decide (Z.length ≤ 200) = false := decide_eq_false h2b
        clear h2
        by_cases h1a : 20 < n
        · have h1b : ¬ n ≤ 50 := by omega
          clear h1
          go_enter Try.func19, Try.ntmps19
          go_wp2
          refine bodyPost_ret (v := .agg #[.int .i64 n, .bool b, .slice ao Z.length cap]) (by simp [results, Try.results19, go_sem]) rfl ?_
          exact ⟨by rw [HN.out, HZ.out], below_two _ _ _⟩
        · clear h1
          go_enter Try.func19, Try.ntmps19
          go_wp2
          refine bodyPost_ret (v := .agg #[.int .i64 n, .bool b, .slice ao Z.length cap]) (by simp [results, Try.results19, go_sem]) rfl ?_
          exact ⟨by rw [HN.out, HZ.out], below_two _ _ _⟩
      · have h2c : ¬ (60 : Int) < (Z.length : Int) := by omega
        clear h2
        by_cases h1a : 20 < n
        · have h1b : ¬ n ≤ 50 := by omega
          clear h1
          go_enter Try.func19, Try.ntmps19
          go_wp2
          refine bodyPost_ret (v := .agg #[.int .i64 n, .bool b, .slice ao Z.length cap]) (by simp [results, Try.results19, go_sem]) rfl ?_
          exact ⟨by rw [HN.out, HZ.out], below_two _ _ _⟩
        · clear h1
          go_enter Try.func19, Try.ntmps19
          go_wp2
          refine bodyPost_ret (v := .agg #[.int .i64 n, .bool b, .slice ao Z.length cap]) (by simp [results, Try.results19, go_sem]) rfl ?_
          exact ⟨by rw [HN.out, HZ.out], below_two _ _ _⟩
set_option maxRecDepth 100000 in
set_option maxHeartbeats 2000000 in
theorem orders_law (n : Int) (b : Bool) (ao : Option Addr) (len cap : Nat) (Z : List ArcT) (w : World) (hl : Z.length = len) (hcap : len ≤ cap) (hm : len ≤ maxLen) (hr : Row encA 4 w ao Z) :
    Calls Try.prog 5 #[.agg #[.int .i64 n, .bool b, .slice ao len cap]] w fun e w' => e = .returned (.bool true) ∧ Below w.heap.size w w' := by
  subst hl
  have HCP := Lib.hid hcap
  have HMZ := Lib.hid hm
  have HRZ := Lib.hid (row_alloc hr (.cells #[.int .i64 n, .bool b, .slice ao Z.length cap] 24))
  have HR := Lib.hid (row_few hr)
  have HM := Lib.hid (Nat.le_trans (fewZ_le Z) hm)
  have HB0 : Hid (Below w.heap.size w (w.alloc (.cells #[.int .i64 n, .bool b, .slice ao Z.length cap] 24))) := Lib.hid ((Below.refl _ w).alloc (Nat.le_refl _) _)
  have HN := Lib.hid (heap_alloc_new w (.cells #[.int .i64 n, .bool b, .slice ao Z.length cap] 24))
  clear hr hm hcap
  obtain ⟨Y, hY⟩ : ∃ Y, fewZ Z = Y := ⟨_, rfl⟩
  obtain ⟨m, hmn⟩ : ∃ m, fewN n = m := ⟨_, rfl⟩
  have HY := Lib.hid hY
  have HMN := Lib.hid hmn
  rw [hY] at HR HM
  have hbd := orderL_bd m Y
  obtain ⟨o, ho⟩ : ∃ o, orderL m Y = o := ⟨_, rfl⟩
  rw [ho] at hbd
  have HO := Lib.hid ho
  obtain ⟨ce, hce⟩ : ∃ ce, checkE m Y = ce := ⟨_, rfl⟩
  have HCE := Lib.hid hce
  have HLN := Lib.hid (natI_len (o.getD []))
  have HBD : Hid ((natI (o.getD [])).length ≤ 200000) := Lib.hid (by rw [natI_len]; exact hbd)
  clear hY hmn ho hce hbd
  go_enter Try.func5, Try.ntmps5
  go_wp2_with (first
    | (go_at_call 19; refine (few_any n b ao cap Z _ HRZ.out HMZ.out HCP.out).mono ?_; rintro e w1 ⟨rfl, hb1⟩; rw [HY.out, HMN.out]; have hn1 := box_kept HN.out hb1; have x1 := cell_whole hn1 0; have y1 := cell_whole hn1 1; have z1 := cell_whole hn1 2; have fx1 := frozen_whole hn1 0; have fy1 := frozen_whole hn1 1; have fz1 := frozen_whole hn1 2; have hB1 := HB0.out.trans (hb1.mono HB0.out.size); obtain ⟨hn2, hB2⟩ := netSet hn1 hB1 (Nat.le_refl _) (.int .i64 m) (.bool b) (.slice ao Y.length cap); have HN2 := Lib.hid hn2; have HB2 := Lib.hid hB2; clear hb1 hn1 hB1 hn2 hB2)
    | (go_at_call 20; refine (order_any m b ao cap Y _ (HR.out.below' HB2.out) HM.out).mono ?_; rintro e w3 ⟨a3, c3, rfl, hl3, hb3⟩; rw [HO.out] at hl3 ⊢; rw [HCE.out]; have HB3 := Lib.hid (HB2.out.trans (hb3.mono HB2.out.size)); have hn3 := box_kept HN2.out hb3; have x3 := cell_whole hn3 0; have y3 := cell_whole hn3 1; have z3 := cell_whole hn3 2; have HL3 := Lib.hid hl3; clear hl3 hb3 hn3 x1 y1 z1 fx1 fy1 fz1)
    | (go_at_call 21; refine (rorder_any m b ao cap Y _ (HR.out.below' HB3.out) HM.out).mono ?_; rintro e w4 ⟨a4, c4, rfl, hl4, hb4⟩; rw [HO.out] at hl4 ⊢; rw [HCE.out]; have HB4 := Lib.hid (HB3.out.trans (hb4.mono HB3.out.size)); have HL3 := Lib.hid (HL3.out.below hb4); have HL4 := Lib.hid hl4; clear hl4 hb4 x3 y3 z3)
    | (go_at_call 14; refine (awake_any _).mono ?_; rintro e w5 ⟨rfl, hb5⟩; have HB5 := Lib.hid (HB4.out.trans (hb5.mono HB4.out.size)); have HL3 := Lib.hid (HL3.out.below hb5); have HL4 := Lib.hid (HL4.out.below hb5); clear hb5)
    | (go_at_call 18; rw [← HLN.out]; refine (sameints_eq (natI (o.getD [])) a3 a4 c3 c4 _ HL3.out HL4.out HBD.out).mono ?_; rintro e w6 ⟨rfl, hb6⟩; have HB6 := Lib.hid (HB5.out.trans (hb6.mono HB5.out.size)); clear hb6))
  go_ret
  exact ⟨by simp, HB6.out⟩
end Go.Proofs.Ytfnafdjcncgcnaa
