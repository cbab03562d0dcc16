/- Room and Cost of the program and of the document. -/
import Derived.Test.YtbolpjahmmjllaaSPsh
import Derived.Test.YtbolpjahmmjllaaSBal
namespace Go.Proofs.Ytbolpjahmmjllaa
open Go.RowKit
set_option linter.unusedVariables false

def roomE (n : Int) (Z : List ArcT) (F : List Int) (x : StepT) : Int := if flowE n Z F = 0 then (if isArc Z x then 0 else 1) else flowE n Z F
def roomK (n : Int) (Z : List ArcT) (F : List Int) (x : StepT) : Int := if roomE n Z F x = 0 then leftS Z F x else 0
theorem roomE_flow {n : Int} {Z : List ArcT} {F : List Int} {x : StepT} (h : flowE n Z F ≠ 0) : roomE n Z F x = flowE n Z F := by unfold roomE; rw [if_neg h]
theorem roomE_arg {n : Int} {Z : List ArcT} {F : List Int} {x : StepT} (h : flowE n Z F = 0) (h2 : ¬ isArc Z x) : roomE n Z F x = 1 := by unfold roomE; rw [if_pos h, if_neg h2]
theorem roomE_yes {n : Int} {Z : List ArcT} {F : List Int} {x : StepT} (h : flowE n Z F = 0) (h2 : isArc Z x) : roomE n Z F x = 0 := by unfold roomE; rw [if_pos h, if_pos h2]
theorem roomK_no {n : Int} {Z : List ArcT} {F : List Int} {x : StepT} (h : roomE n Z F x ≠ 0) : roomK n Z F x = 0 := by unfold roomK; rw [if_neg h]
theorem roomK_yes {n : Int} {Z : List ArcT} {F : List Int} {x : StepT} (h : roomE n Z F x = 0) : roomK n Z F x = leftS Z F x := by unfold roomK; rw [if_pos h]
def costV (n : Int) (Z : List ArcT) (F : List Int) : Int := if flowE n Z F = 0 then costK Z F Z.length else 0
section
variable (n : Int) (b : Bool) (ao fo : Option Addr) (cap fc : Nat) (Z : List ArcT) (F : List Int)
set_option maxRecDepth 100000 in
set_option maxHeartbeats 4000000 in
theorem rroom_any (i : Int) (q : Bool) (w : World) (h : Row encA 4 w ao Z) (hf : Lst encI w fo F) (hz : Z.length ≤ maxLen) (hfl : F.length ≤ maxLen) :
    Calls Try.prog 15 #[.agg #[.int .i64 n, .bool b, .slice ao Z.length cap], .slice fo F.length fc, .agg #[.int .i64 i, .bool q]] w fun e w' => e = .returned (.tuple #[.int .i64 (roomK n Z F (i, q)), .int .i64 (roomE n Z F (i, q))]) ∧ Below w.heap.size w w' := by
  have hb00 := ((Below.refl _ w).alloc (Nat.le_refl _) (.cells #[.int .i64 n, .bool b, .slice ao Z.length cap] 24)).alloc (by simp) (.cells #[.int .i64 i, .bool q] 40)
  have HB0 := Lib.hid hb00
  have HN := Lib.hid (alloc_whole (heap_alloc_new w (.cells #[.int .i64 n, .bool b, .slice ao Z.length cap] 24)) (.cells #[.int .i64 i, .bool q] 40))
  have HS := Lib.hid (new_whole1 w (.cells #[.int .i64 n, .bool b, .slice ao Z.length cap] 24) (.cells #[.int .i64 i, .bool q] 40))
  have HR := Lib.hid (h.below' hb00)
  have HF := Lib.hid (hf.below hb00)
  have HZ := Lib.hid hz
  have HFM := Lib.hid hfl
  clear h hf hz hfl hb00
  by_cases h1 : flowE n Z F = 0
  · have HE := Lib.hid h1
    obtain ⟨hR, hF, hzl, hfl, hn1, hn2⟩ := flow_facts (b := b) h1
    have hfl2 : F.length ≤ 200 := by omega
    by_cases h2 : isArc Z (i, q)
    · have he := roomE_yes h1 h2
      rw [roomK_yes he, he]
      obtain ⟨k, rfl, hk⟩ := isArc_nat h2
      have ha : Z[k]? = some Z[k] := List.getElem?_eq_getElem hk
      obtain ⟨q0, q1, q2, q3, _, _⟩ := flow_bd hR hF ha
      have q4 : atI F k ≤ 1048576 := by omega
      have HX := Lib.hid (atI_get (d := F) (v := k) (by omega))
      rw [left_room ha]
      have HA := Lib.hid ha
      have HC : Hid (0 ≤ atI F k ∧ atI F k ≤ 1048576 ∧ 0 ≤ Z[k].2.2.1 ∧ Z[k].2.2.1 ≤ 1048576) := Lib.hid ⟨q0, q4, q2, q3⟩
      have g1 : ¬ (F.length : Int) ≤ (k : Int) := by omega
      have g2 : ¬ F.length ≤ k := by omega
      generalize Z[k] = a at *
      generalize atI F k = x at *
      obtain ⟨rm, hrm⟩ : ∃ rm, roomI a x q = rm := ⟨_, rfl⟩
      rw [hrm]
      have HRM := Lib.hid hrm
      clear h1 h2 he hR hF hfl ha q0 q1 q2 q3 q4 hrm
      go_enter Try.func15, Try.ntmps15
      go_wp2_with (first
        | (go_at_call 25; refine (rasked_is n b ao fo cap fc Z F 0 _ HR.out HF.out HZ.out HFM.out HE.out).mono ?_; rintro e w1 ⟨rfl, hb1⟩; have hn1 := kept_box HN.out hb1; have hs1 := kept_box HS.out hb1; have HR1 := Lib.hid (HR.out.below' hb1); have HF1 := Lib.hid (HF.out.below hb1); have HB1 := Lib.hid (HB0.out.trans (hb1.mono HB0.out.size)); have t0 := cell_whole hs1 0; have t1 := cell_whole hs1 1; have y0 := cell_whole hn1 0; have y1 := cell_whole hn1 1; have y2 := cell_whole hn1 2; clear hb1 hs1 hn1)
        | (go_at_call 32; refine (rleft_at n b ao cap Z fo fc F k q a x _ HR1.out HF1.out HA.out HX.out (by omega) (by omega) HC.out.1 (by have := HC.out.2.1; omega) HC.out.2.2.1 (by have := HC.out.2.2.2; omega)).mono ?_; rintro e w3 ⟨rfl, hb3⟩; rw [HRM.out]; have HB3 := Lib.hid (HB1.out.trans (hb3.mono HB1.out.size)); clear hb3))
      go_ret2
      exact ⟨rfl, HB3.out⟩
    · have he := roomE_arg h1 h2
      rw [roomK_no (by rw [he]; decide), he]
      have hna : ¬ (0 ≤ i ∧ i < (Z.length : Int)) := h2
      rw [← hfl] at hna
      by_cases hi : i < 0
      · clear h1 h2 he hR hF hfl hna
        go_enter Try.func15, Try.ntmps15
        go_wp2_with (first
          | (go_at_call 25; refine (rasked_is n b ao fo cap fc Z F 0 _ HR.out HF.out HZ.out HFM.out HE.out).mono ?_; rintro e w1 ⟨rfl, hb1⟩; have hs1 := kept_box HS.out hb1; have HB1 := Lib.hid (HB0.out.trans (hb1.mono HB0.out.size)); have t0 := cell_whole hs1 0; have t1 := cell_whole hs1 1; clear hb1 hs1))
        go_ret2
        exact ⟨rfl, HB1.out⟩
      · have hi2 : (F.length : Int) ≤ i := by omega
        clear h1 h2 he hR hF hfl hna
        go_enter Try.func15, Try.ntmps15
        go_wp2_with (first
          | (go_at_call 25; refine (rasked_is n b ao fo cap fc Z F 0 _ HR.out HF.out HZ.out HFM.out HE.out).mono ?_; rintro e w1 ⟨rfl, hb1⟩; have hs1 := kept_box HS.out hb1; have HB1 := Lib.hid (HB0.out.trans (hb1.mono HB0.out.size)); have t0 := cell_whole hs1 0; have t1 := cell_whole hs1 1; clear hb1 hs1))
        go_ret2
        exact ⟨rfl, HB1.out⟩
  · have he := roomE_flow (x := (i, q)) h1
    rw [roomK_no (by rw [he]; exact h1), he]
    obtain ⟨e0, he0⟩ : ∃ e0, flowE n Z F = e0 := ⟨_, rfl⟩
    rw [he0] at h1 ⊢
    have HE := Lib.hid he0
    have hf2 : (e0 != 0) = true := by simpa using h1
    have hf1 : (e0 == 0) = false := by simpa using h1
    clear h1 he he0
    go_enter Try.func15, Try.ntmps15
    go_wp2_with (go_at_call 25; refine (rasked_is n b ao fo cap fc Z F e0 _ HR.out HF.out HZ.out HFM.out HE.out).mono ?_; rintro e w1 ⟨rfl, hb1⟩; have HB1 := Lib.hid (HB0.out.trans (hb1.mono HB0.out.size)); clear hb1)
    go_ret2
    exact ⟨rfl, HB1.out⟩
theorem cost_bd {n : Int} {b : Bool} {Z : List ArcT} {F : List Int} (hR : Right (n, b, Z)) (hf : Flow Z F) {i : Nat} (hi : i ≤ Z.length) : 0 ≤ costK Z F i ∧ costK Z F i ≤ 219902325555200 := by
  have h := costK_bd (Z := Z) (f := F) (fun i a ha => by have := flow_bd hR hf ha; exact ⟨⟨this.1, by omega⟩, this.2.2.2.2.1, this.2.2.2.2.2⟩) i
  have hz : Z.length ≤ 200 := hR.2.1
  omega
theorem mul_bd {x y : Int} (h0 : 0 ≤ x) (h1 : x ≤ 1048576) (h2 : 0 ≤ y) (h3 : y ≤ 1048576) : 0 ≤ x * y ∧ x * y ≤ 1099511627776 := by
  refine ⟨Int.mul_nonneg h0 h2, ?_⟩
  have h6 : x * y ≤ 1048576 * 1048576 := Int.mul_le_mul h1 h3 h2 (by omega)
  omega
end
end Go.Proofs.Ytbolpjahmmjllaa
