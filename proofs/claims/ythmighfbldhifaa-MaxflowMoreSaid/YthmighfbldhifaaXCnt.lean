/- MaxflowCounts. -/
import Derived.Test.YthmighfbldhifaaXAwk
namespace Go.Proofs.Ythmighfbldhifaa
open Go.RowKit
set_option linter.unusedVariables false

theorem outK_bd {Z : List ArcT} (h : ∀ a ∈ Z, 0 ≤ capN a ∧ capN a ≤ 1048576) (s : Nat) : ∀ i, (0 ≤ outK Z s i ∧ outK Z s i ≤ i * 1048576) ∧ 0 ≤ inK Z s i ∧ inK Z s i ≤ i * 1048576
  | 0 => by simp [outK, inK]
  | i + 1 => by
    have ih := outK_bd h s i
    cases hz : Z[i]? with
    | none =>
      have e1 : outK Z s (i + 1) = outK Z s i := by show outK Z s i + _ = _; rw [hz]; simp
      have e2 : inK Z s (i + 1) = inK Z s i := by show inK Z s i + _ = _; rw [hz]; simp
      rw [e1, e2]
      omega
    | some a =>
      have ha := h a (List.mem_of_getElem? hz)
      rw [outK_succ hz, inK_succ hz]
      split <;> split <;> omega
theorem caps_le {n : Int} {Z : List ArcT} (h : checkE n Z = 0) : ∀ a ∈ Z, 0 ≤ capN a ∧ capN a ≤ 1048576 := by
  have hR : Right (n, true, Z) := right_iff.1 h
  intro a ha
  obtain ⟨h1, h2⟩ := arcE_ok (hR.2.2 a ha)
  unfold badEnds at h1
  unfold bigArc at h2
  unfold capN
  omega
/-- Without arcs nothing goes from node to node. -/
theorem most_nil {N i j : Nat} (hij : i ≠ j) : IsMost [] N i j 0 := by
  refine ⟨⟨[], ⟨rfl, fun k a hk => by simp at hk⟩, fun v _ _ _ => rfl, rfl⟩, fun v => decide (v = i), ⟨by simp, by simpa using fun e => hij e.symm⟩, rfl⟩
theorem ends_nil {N i j : Nat} {Z : List ArcT} (h : endsE (N : Int) Z (i : Int) (j : Int) = 0) : endsE (N : Int) [] (i : Int) (j : Int) = 0 := by
  obtain ⟨hc, i', j', e1, e2, hi, hj, hij⟩ := endsE_ok h
  have hR : Right ((N : Int), true, Z) := right_iff.1 hc
  refine endsE_yes (right_iff.2 (show Right ((N : Int), true, []) from ⟨hR.1, Nat.zero_le _, fun a ha => by cases ha⟩)) ?_ ?_ (by omega)
  · unfold nodeB; rw [decide_eq_true_eq]; omega
  · unfold nodeB; rw [decide_eq_true_eq]; omega
section
variable (n : Int) (b : Bool) (ao : Option Addr) (len cap : Nat) (Z : List ArcT)
set_option maxRecDepth 100000 in
set_option maxHeartbeats 8000000 in
theorem counts_law (s t : Int) (w : World) (hl : Z.length = len) (hm : len ≤ maxLen) (hr : Row encA 4 w ao Z) :
    Calls Try.prog 8 #[.agg #[.int .i64 n, .bool b, .slice ao len cap], .int .i64 s, .int .i64 t] w fun e w' => e = .returned (.bool true) ∧ Below w.heap.size w w' := by
  subst hl
  have hb00 := (Below.refl _ w).alloc (Nat.le_refl _) (.cells #[.int .i64 n, .bool b, .slice ao Z.length cap] 24)
  have HB0 := Lib.hid hb00
  have HN0 := Lib.hid (heap_alloc_new w (.cells #[.int .i64 n, .bool b, .slice ao Z.length cap] 24))
  have HR0 := Lib.hid (hr.below' hb00)
  have HM := Lib.hid hm
  clear hr hm hb00
  obtain ⟨c0, hc0⟩ : ∃ c0, checkE n Z = c0 := ⟨_, rfl⟩
  have HCE := Lib.hid hc0
  by_cases hz : c0 = 0
  · subst hz
    obtain ⟨e0, he⟩ : ∃ e0, endsE n Z s t = e0 := ⟨_, rfl⟩
    have HE := Lib.hid he
    by_cases h0 : e0 = 0
    · subst h0
      obtain ⟨hc, i, j, rfl, rfl, hi, hj, hij⟩ := endsE_ok he
      have hR : Right (n, b, Z) := right_iff.1 hc
      have hn := nodesE_ok hR.1
      have hzl : Z.length ≤ 200 := hR.2.1
      simp only at hn
      obtain ⟨N, rfl⟩ : ∃ N : Nat, n = (N : Int) := ⟨n.toNat, by omega⟩
      rw [Int.toNat_natCast] at hi hj
      have HCP := Lib.hid (caps_le hc)
      have HRT := Lib.hid hR
      have HAL := Lib.hid (arcs_lt he)
      rw [Int.toNat_natCast] at HAL
      have HEN := Lib.hid (ends_nil he)
      have HNL := Lib.hid (most_nil (N := N) hij)
      have HIJ := Lib.hid hij
      clear he hc hc0 hR hij
      go_enter Try.func8, Try.ntmps8
      go_wp2_with (first
        | (go_at_call 12; refine (xawake_any _).mono ?_; rintro e w1 ⟨rfl, hb1⟩; have HB1 := Lib.hid (HB0.out.trans (hb1.mono HB0.out.size)); have HR1 := Lib.hid (HR0.out.below' hb1); have hn1 := kept_box HN0.out hb1; have HN1 := Lib.hid hn1; have x0 := cell_whole hn1 0; have x1 := cell_whole hn1 1; have x2 := cell_whole hn1 2; clear hb1 hn1)
        | (go_at_call 17; refine (rcheck_is (N : Int) b ao cap Z 0 _ HR1.out HM.out HCE.out).mono ?_; rintro e w2 ⟨rfl, hb2⟩; have HB2 := Lib.hid (HB1.out.trans (hb2.mono HB1.out.size)); have HR2 := Lib.hid (HR1.out.below' hb2); have hn2 := kept_box HN1.out hb2; have HN2 := Lib.hid hn2; have x0 := cell_whole hn2 0; have x1 := cell_whole hn2 1; have x2 := cell_whole hn2 2; clear hb2 hn2)
        | (go_at_call 10; refine (xmost_ok b ao cap Z N i j _ HR2.out HM.out HE.out).mono ?_; rintro e w3 ⟨k, rfl, hm3, hb3⟩; have hko := most_ends HAL.out.1 HAL.out.2 hi HIJ.out hm3; have HKO := Lib.hid hko; have HB3 := Lib.hid (HB2.out.trans (hb3.mono HB2.out.size)); have HR3 := Lib.hid (HR2.out.below' hb3); have hn3 := kept_box HN2.out hb3; have HN3 := Lib.hid hn3; have x0 := cell_whole hn3 0; have x1 := cell_whole hn3 1; have x2 := cell_whole hn3 2; clear hb3 hn3 hm3 hko))
      go_loop [10, 11, 12] (fun o q x => ∃ m : Nat, m ≤ Z.length ∧ x = .int .i64 (m : Int) ∧ o = .int .i64 (outK Z i m) ∧ q = .int .i64 (inK Z j m)) (fun _ _ x => Z.length - (intOf x).toNat)
      case atStart => exact ⟨0, Nat.zero_le _, rfl, rfl, rfl⟩
      case round =>
        obtain ⟨m, hm, rfl, rfl, rfl⟩ := hrel
        have hb1 := (outK_bd HCP.out i m).1
        have hb2 := (outK_bd HCP.out j m).2
        have hbo : 0 ≤ outK Z i m ∧ outK Z i m ≤ 209715200 := by omega
        have hbi : 0 ≤ inK Z j m ∧ inK Z j m ≤ 209715200 := by omega
        clear hb1 hb2
        by_cases hlt : m < Z.length
        · have hli : (m : Int) < (Z.length : Int) := by omega
          have ha : Z[m]? = some Z[m] := List.getElem?_eq_getElem hlt
          obtain ⟨h1, h2, _⟩ := right_arc HRT.out (List.mem_of_getElem? ha)
          obtain ⟨ab, ax, e, hab, d0, d1, d2, d3⟩ := arc_at HR3.out ha
          cases e
          rw [h1] at d0
          rw [h2] at d1
          have HO := Lib.hid (outK_succ (s := i) ha)
          have HI := Lib.hid (inK_succ (t := j) ha)
          have hcb := HCP.out _ (List.mem_of_getElem? ha)
          unfold capN at HO HI hcb
          clear h1 h2 d3 ha
          generalize Z[m] = a at *
          generalize frN a = x at *
          generalize toN a = y at *
          generalize a.2.2.1 = c at *
          generalize outK Z i m = so at *
          generalize inK Z j m = si at *
          by_cases hx : x = i <;> by_cases hy : y = j
          · subst hx
            subst hy
            have HO2 : Hid (outK Z x (m + 1) = so + c) := Lib.hid (by rw [HO.out, if_pos rfl])
            have HI2 : Hid (inK Z y (m + 1) = si + c) := Lib.hid (by rw [HI.out, if_pos rfl])
            clear HO HI
            go_wp2
            go_round
            case rel => exact ⟨m + 1, by omega, by go_num, by rw [HO2.out], by rw [HI2.out]⟩
            case measure => simp [intOf]; omega
          · subst hx
            have hf2 : ((y : Int) == (j : Int)) = false := by simp; omega
            have hf4 : (y == j) = false := by simp; omega
            have HO2 : Hid (outK Z x (m + 1) = so + c) := Lib.hid (by rw [HO.out, if_pos rfl])
            have HI2 : Hid (inK Z j (m + 1) = si) := Lib.hid (by rw [HI.out, if_neg hy]; omega)
            clear HO HI hy
            go_wp2
            go_round
            case rel => exact ⟨m + 1, by omega, by go_num, by rw [HO2.out], by rw [HI2.out]⟩
            case measure => simp [intOf]; omega
          · subst hy
            have hf1 : ((x : Int) == (i : Int)) = false := by simp; omega
            have hf3 : (x == i) = false := by simp; omega
            have HO2 : Hid (outK Z i (m + 1) = so) := Lib.hid (by rw [HO.out, if_neg hx]; omega)
            have HI2 : Hid (inK Z y (m + 1) = si + c) := Lib.hid (by rw [HI.out, if_pos rfl])
            clear HO HI hx
            go_wp2
            go_round
            case rel => exact ⟨m + 1, by omega, by go_num, by rw [HO2.out], by rw [HI2.out]⟩
            case measure => simp [intOf]; omega
          · have hf1 : ((x : Int) == (i : Int)) = false := by simp; omega
            have hf2 : ((y : Int) == (j : Int)) = false := by simp; omega
            have hf3 : (x == i) = false := by simp; omega
            have hf4 : (y == j) = false := by simp; omega
            have HO2 : Hid (outK Z i (m + 1) = so) := Lib.hid (by rw [HO.out, if_neg hx]; omega)
            have HI2 : Hid (inK Z j (m + 1) = si) := Lib.hid (by rw [HI.out, if_neg hy]; omega)
            clear HO HI hx hy
            go_wp2
            go_round
            case rel => exact ⟨m + 1, by omega, by go_num, by rw [HO2.out], by rw [HI2.out]⟩
            case measure => simp [intOf]; omega
        · have hli : ¬ (m : Int) < (Z.length : Int) := by omega
          obtain rfl : m = Z.length := by omega
          have hko := HKO.out
          generalize outK Z i Z.length = so at *
          generalize inK Z j Z.length = si at *
          have HB4 : Hid (Below w.heap.size w (w3.setCell ⟨w.heap.size, 2, none⟩ (.slice none 0 0))) := Lib.hid (below_set HB3.out (Nat.le_refl _) _)
          have hn4 := set_whole HN3.out 2 (.slice none 0 0)
          have f2 := frozen_whole HN3.out 2
          have y0 : (w3.setCell ⟨w.heap.size, 2, none⟩ (.slice none 0 0)).cell? ⟨w.heap.size, 0, none⟩ = some (.int .i64 (N : Int)) := cell_whole hn4 0
          have y1 : (w3.setCell ⟨w.heap.size, 2, none⟩ (.slice none 0 0)).cell? ⟨w.heap.size, 1, none⟩ = some (.bool b) := cell_whole hn4 1
          have y2 : (w3.setCell ⟨w.heap.size, 2, none⟩ (.slice none 0 0)).cell? ⟨w.heap.size, 2, none⟩ = some (.slice none 0 0) := cell_whole hn4 2
          clear hn4
          go_wp2_with (first
            | (go_at_call 10; refine (show Calls Try.prog 10 #[.agg #[.int .i64 (N : Int), .bool b, .slice none 0 0], .int .i64 (i : Int), .int .i64 (j : Int)] _ _ from xmost_at b none 0 [] N i j 0 (w3.setCell ⟨w.heap.size, 2, none⟩ (.slice none 0 0)) (Row.nil _ _) (Nat.zero_le _) HEN.out hi HNL.out).mono ?_; rintro e w5 ⟨rfl, hb5⟩; have HB5 := Lib.hid (HB4.out.trans (hb5.mono HB4.out.size)); clear hb5))
          go_ret
          exact ⟨by simp, HB5.out⟩
    · have H0 := Lib.hid h0
      have he70 : e0 = 70 := by
        rw [← he]
        unfold endsE at he ⊢
        rw [if_pos hc0] at he ⊢
        split at he
        · exact absurd he.symm h0
        · next h9 => rw [if_neg h9]
      subst he70
      clear he hc0 h0
      go_enter Try.func8, Try.ntmps8
      go_wp2_with (first
        | (go_at_call 12; refine (xawake_any _).mono ?_; rintro e w1 ⟨rfl, hb1⟩; have HB1 := Lib.hid (HB0.out.trans (hb1.mono HB0.out.size)); have HR1 := Lib.hid (HR0.out.below' hb1); have hn1 := kept_box HN0.out hb1; have HN1 := Lib.hid hn1; have x0 := cell_whole hn1 0; have x1 := cell_whole hn1 1; have x2 := cell_whole hn1 2; clear hb1 hn1)
        | (go_at_call 17; refine (rcheck_is n b ao cap Z 0 _ HR1.out HM.out HCE.out).mono ?_; rintro e w2 ⟨rfl, hb2⟩; have HB2 := Lib.hid (HB1.out.trans (hb2.mono HB1.out.size)); have HR2 := Lib.hid (HR1.out.below' hb2); have hn2 := kept_box HN1.out hb2; have x0 := cell_whole hn2 0; have x1 := cell_whole hn2 1; have x2 := cell_whole hn2 2; clear hb2 hn2)
        | (go_at_call 10; refine (xmost_no b ao cap Z n s t 70 _ HR2.out HM.out HE.out (by decide)).mono ?_; rintro e w3 ⟨rfl, hb3⟩; have HB3 := Lib.hid (HB2.out.trans (hb3.mono HB2.out.size)); clear hb3))
      go_ret
      exact ⟨by simp, HB3.out⟩
  · have hf1 : (c0 != 0) = true := by simpa using hz
    have HZ := Lib.hid hz
    clear hz hc0
    go_enter Try.func8, Try.ntmps8
    go_wp2_with (first
      | (go_at_call 12; refine (xawake_any _).mono ?_; rintro e w1 ⟨rfl, hb1⟩; have HB1 := Lib.hid (HB0.out.trans (hb1.mono HB0.out.size)); have HR1 := Lib.hid (HR0.out.below' hb1); have hn1 := kept_box HN0.out hb1; have x0 := cell_whole hn1 0; have x1 := cell_whole hn1 1; have x2 := cell_whole hn1 2; clear hb1 hn1)
      | (go_at_call 17; refine (rcheck_is n b ao cap Z c0 _ HR1.out HM.out HCE.out).mono ?_; rintro e w2 ⟨rfl, hb2⟩; have HB2 := Lib.hid (HB1.out.trans (hb2.mono HB1.out.size)); clear hb2))
    go_ret
    exact ⟨by simp, HB2.out⟩
end
end Go.Proofs.Ythmighfbldhifaa
