/- Room and Cost of the program and of the document. -/
import Derived.Test.YtlkbohpnlbfopaaBD
namespace Go.Proofs.Ytlkbohpnlbfopaa
open Go.RowKit
set_option linter.unusedVariables false
def costV (n : Int) (Z : List ArcT) (F : List Int) : Int := if flowE n Z F = 0 then costK Z F Z.length else 0
section
variable (n : Int) (b : Bool) (ao fo : Option Addr) (cap fc : Nat) (Z : List ArcT) (F : List Int)
theorem cost_bd {n : Int} {b : Bool} {Z : List ArcT} {F : List Int} (hR : Right (n, b, Z)) (hf : Flow Z F) {i : Nat} (hi : i ≤ Z.length) : 0 ≤ costK Z F i ∧ costK Z F i ≤ 219902325555200 := by
  have h := costK_bd (Z := Z) (f := F) (fun i a ha => by have := flow_bd hR hf ha; exact ⟨⟨this.1, by omega⟩, this.2.2.2.2.1, this.2.2.2.2.2⟩) i
  have hz : Z.length ≤ 200 := hR.2.1
  omega
theorem mul_bd {x y : Int} (h0 : 0 ≤ x) (h1 : x ≤ 1048576) (h2 : 0 ≤ y) (h3 : y ≤ 1048576) : 0 ≤ x * y ∧ x * y ≤ 1099511627776 := by
  refine ⟨Int.mul_nonneg h0 h2, ?_⟩
  have h6 : x * y ≤ 1048576 * 1048576 := Int.mul_le_mul h1 h3 h2 (by omega)
  omega
set_option maxRecDepth 100000 in
set_option maxHeartbeats 4000000 in
theorem cost_any (w : World) (h : Row encA 4 w ao Z) (hf : Lst encI w fo F) (hz : Z.length ≤ maxLen) (hfl : F.length ≤ maxLen) :
    Calls Try.prog 66 #[.agg #[.int .i64 n, .bool b, .slice ao Z.length cap], .slice fo F.length fc] w fun e w' => e = .returned (.tuple #[.int .i64 (costV n Z F), .int .i64 (flowE n Z F)]) ∧ Below w.heap.size w w' := by
  have hb00 := (Below.refl _ w).alloc (Nat.le_refl _) (.cells #[.int .i64 n, .bool b, .slice ao Z.length cap] 24)
  have HB0 := Lib.hid hb00
  have HR := Lib.hid (h.below' hb00)
  have HF := Lib.hid (hf.below hb00)
  have HZ := Lib.hid hz
  have HFM := Lib.hid hfl
  clear h hf hz hfl hb00
  by_cases h1 : flowE n Z F = 0
  · have HE := Lib.hid h1
    obtain ⟨hR, hF, hzl, hfl, hn1, hn2⟩ := flow_facts (b := b) h1
    have hfl2 : F.length ≤ 200 := by omega
    rw [h1]
    unfold costV
    rw [if_pos h1]
    have HL := Lib.hid hfl
    have HRT := Lib.hid hR
    have HFL := Lib.hid hF
    clear h1 hR hF hfl
    go_enter Try.func66, Try.ntmps66
    go_wp2_with (first
      | (go_at_call 78; refine (load_ok n b ao fo cap fc Z F _ HR.out HF.out HZ.out HFM.out HE.out).mono ?_; rintro e w1 ⟨rfl, hb1⟩; have hz1 := hb1.size; have hba := (Below.refl _ w1).alloc (Nat.le_refl _) (.cells #[.int .i64 n, .bool b, .slice ao Z.length cap, .slice fo F.length fc] 149); have HR1 := Lib.hid ((HR.out.below' hb1).below' hba); have HF1 := Lib.hid ((HF.out.below hb1).below hba); have HB1 := Lib.hid ((HB0.out.trans (hb1.mono HB0.out.size)).trans (hba.mono (by simp at hz1; omega))); obtain ⟨⟨y0, y1, y2, y3⟩, _⟩ := ldCells (heap_alloc_new w1 (.cells #[.int .i64 n, .bool b, .slice ao Z.length cap, .slice fo F.length fc] 149)); clear hb1 hz1 hba))
    generalize w1.alloc (.cells #[.int .i64 n, .bool b, .slice ao Z.length cap, .slice fo F.length fc] 149) = wq at *
    generalize w1.heap.size = V at *
    go_loop [8, 23] (fun c i => ∃ k : Nat, k ≤ F.length ∧ i = .int .i64 (k : Int) ∧ c = .int .i64 (costK Z F k)) (fun _ i => F.length - (intOf i).toNat)
    case atStart => exact ⟨0, Nat.zero_le _, rfl, rfl⟩
    case round =>
      obtain ⟨k, hk, rfl, rfl⟩ := hrel
      have hbd := cost_bd HRT.out HFL.out (i := k) (by rw [← HL.out]; exact hk)
      by_cases hlf : k < F.length
      · have hlfi : (k : Int) < (F.length : Int) := by omega
        have hlt : k < Z.length := by rw [← HL.out]; exact hlf
        have hli : (k : Int) < (Z.length : Int) := by omega
        have ha : Z[k]? = some Z[k] := List.getElem?_eq_getElem hlt
        obtain ⟨ab, ax, e, hab, c0, c1, c2, c3⟩ := arc_at HR1.out ha
        cases e
        obtain ⟨fb, fx, e, hfb, d0⟩ := lst_cell HF1.out (atI_get (d := F) (v := k) hlf)
        cases e
        have HS := Lib.hid (costK_succ (f := F) ha)
        obtain ⟨q0, q1, q2, q3, q5, q6⟩ := flow_bd HRT.out HFL.out ha
        have q4 : atI F k ≤ 1048576 := by omega
        have hm := mul_bd q0 q4 q5 q6
        unfold encI at d0
        unfold tm at HS hm q5 q6
        clear c0 c1 c2 ha q1 q2 q3
        generalize Z[k] = a at *
        generalize a.2.2.2 = tt at *
        generalize atI F k = u at *
        generalize costK Z F k = c at *
        have hm1 := hm.1
        have hm2 := hm.2
        have hb1 := hbd.1
        have hb2 := hbd.2
        clear hm hbd
        go_wp2
        go_round
        case rel => exact ⟨k + 1, by omega, by go_num, by rw [HS.out]⟩
        case measure => simp [intOf]; omega
      · have hlfi : ¬ (k : Int) < (F.length : Int) := by omega
        obtain rfl : k = F.length := by omega
        go_wp2
        go_ret2
        exact ⟨by rw [← HL.out]; rfl, HB1.out⟩
  · unfold costV
    rw [if_neg h1]
    obtain ⟨e0, he0⟩ : ∃ e0, flowE n Z F = e0 := ⟨_, rfl⟩
    rw [he0] at h1 ⊢
    have HE := Lib.hid he0
    have H0 := Lib.hid h1
    have hf2 : (e0 != 0) = true := by simpa using h1
    have hf1 : (e0 == 0) = false := by simpa using h1
    clear h1 he0
    go_enter Try.func66, Try.ntmps66
    go_wp2_with (go_at_call 78; refine (load_no n b ao fo cap fc Z F e0 _ HR.out HF.out HZ.out HFM.out HE.out H0.out).mono ?_; rintro e w1 ⟨rfl, hb1⟩; have hs1 := hb1.size; have HB1 := Lib.hid ((HB0.out.trans (hb1.mono HB0.out.size)).alloc (by simp at hs1; omega) (.cells #[.int .i64 0, .bool false, .slice none 0 0, .slice none 0 0] 149)); clear hb1 hs1)
    go_ret2
    exact ⟨rfl, HB1.out⟩
end
end Go.Proofs.Ytlkbohpnlbfopaa
