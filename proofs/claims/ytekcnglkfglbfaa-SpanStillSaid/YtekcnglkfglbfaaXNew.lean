/- The levels of a flow, and what is pushed along steps, as packages level and static tell them: in memory that is new. -/
import Derived.Test.YtekcnglkfglbfaaBH
namespace Go.Proofs.Ytekcnglkfglbfaa
open Go.RowKit
set_option linter.unusedVariables false

section
variable (b : Bool) (ao fo : Option Addr) (cap fc : Nat) (Z : List ArcT) (F : List Int)
set_option maxRecDepth 100000 in
set_option maxHeartbeats 4000000 in
/-- The levels of a flow of a network that is right, in memory of the call's own. -/
theorem levels_new (N i : Nat) (w : World) (h : Row encA 4 w ao Z) (hf : Lst encI w fo F) (he : flowE (N : Int) Z F = 0) (hi : i < N) :
    Calls Try.prog 59 #[.agg #[.int .i64 (N : Int), .bool b, .slice ao Z.length cap], .slice fo F.length fc, .int .i64 (i : Int)] w fun e w' => ∃ g, e = .returned (.tuple #[.slice (some ⟨g, 0, none⟩) (farsL (seekK (fromS Z) (toS Z) (stepsK Z F Z.length) i N) N).length N, .int .i64 0]) ∧ w.heap.size ≤ g ∧ Lst encI w' (some ⟨g, 0, none⟩) (farsL (seekK (fromS Z) (toS Z) (stepsK Z F Z.length) i N) N) ∧ Below w.heap.size w w' := by
  obtain ⟨hR, hFl, hz2, hfz, hn1, hn2⟩ := flow_facts (b := b) he
  have hb00 := (Below.refl _ w).alloc (Nat.le_refl _) (.cells #[.int .i64 (N : Int), .bool b, .slice ao Z.length cap] 24)
  have HB0 := Lib.hid hb00
  have c0 := cell_new w #[.int .i64 (N : Int), .bool b, .slice ao Z.length cap] 24 0
  have c1 := cell_new w #[.int .i64 (N : Int), .bool b, .slice ao Z.length cap] 24 1
  have c2 := cell_new w #[.int .i64 (N : Int), .bool b, .slice ao Z.length cap] 24 2
  have HR := Lib.hid (h.below' hb00)
  have HF := Lib.hid (hf.below hb00)
  have HZ : Hid (Z.length ≤ maxLen) := Lib.hid (by unfold maxLen; omega)
  have HFL : Hid (F.length ≤ maxLen) := Lib.hid (by unfold maxLen; omega)
  have HE := Lib.hid he
  have HA := Lib.hid (flow_arcs he)
  have HTT := Lib.hid (flow_to he)
  rw [Int.toNat_natCast] at HA HTT
  have HFZ := Lib.hid hfz
  have hq : nodeB (N : Int) (i : Int) = true := by unfold nodeB; rw [decide_eq_true_eq]; omega
  have HQ := Lib.hid hq
  clear h hf hb00 he hR hFl hfz hq
  have hfl := field_tree
  go_enter Try.func59, Try.ntmps59
  go_wp2_with (first
    | (go_at_call 68; refine (vload_ok (N : Int) b ao fo cap fc Z F _ HR.out HF.out HZ.out HFL.out HE.out).mono ?_; rintro e w1 ⟨g1, k1, g2, k2, rfl, hld, hb1⟩; rw [Int.toNat_natCast] at hld ⊢; have HB1 := Lib.hid (HB0.out.trans (hb1.mono HB0.out.size)); have HLD := Lib.hid (hld.below ((Below.refl _ _).alloc (Nat.le_refl _) (.cells #[.int .i64 (N : Int), .bool b, .slice ao Z.length cap, .slice fo F.length fc, .slice (some ⟨g1, 0, none⟩) N k1, .slice (some ⟨g2, 0, none⟩) N k2] 109))); have HBA := Lib.hid (HB1.out.alloc HB1.out.size (.cells #[.int .i64 (N : Int), .bool b, .slice ao Z.length cap, .slice fo F.length fc, .slice (some ⟨g1, 0, none⟩) N k1, .slice (some ⟨g2, 0, none⟩) N k2] 109)); have x0 := cell_new w1 #[.int .i64 (N : Int), .bool b, .slice ao Z.length cap, .slice fo F.length fc, .slice (some ⟨g1, 0, none⟩) N k1, .slice (some ⟨g2, 0, none⟩) N k2] 109 0; have x1 := cell_new w1 #[.int .i64 (N : Int), .bool b, .slice ao Z.length cap, .slice fo F.length fc, .slice (some ⟨g1, 0, none⟩) N k1, .slice (some ⟨g2, 0, none⟩) N k2] 109 1; have x2 := cell_new w1 #[.int .i64 (N : Int), .bool b, .slice ao Z.length cap, .slice fo F.length fc, .slice (some ⟨g1, 0, none⟩) N k1, .slice (some ⟨g2, 0, none⟩) N k2] 109 2; have x3 := cell_new w1 #[.int .i64 (N : Int), .bool b, .slice ao Z.length cap, .slice fo F.length fc, .slice (some ⟨g1, 0, none⟩) N k1, .slice (some ⟨g2, 0, none⟩) N k2] 109 3; have x4 := cell_new w1 #[.int .i64 (N : Int), .bool b, .slice ao Z.length cap, .slice fo F.length fc, .slice (some ⟨g1, 0, none⟩) N k1, .slice (some ⟨g2, 0, none⟩) N k2] 109 4; have x5 := cell_new w1 #[.int .i64 (N : Int), .bool b, .slice ao Z.length cap, .slice fo F.length fc, .slice (some ⟨g1, 0, none⟩) N k1, .slice (some ⟨g2, 0, none⟩) N k2] 109 5; clear hb1 hld)
    | (go_at_call 73; refine (vhasnode_is (N : Int) b _ (i : Int) true _ HQ.out).mono ?_; rintro e w2 ⟨rfl, hb2⟩; have HB2 := Lib.hid (HBA.out.trans (hb2.mono HBA.out.size)); have HLD2 := Lib.hid (HLD.out.below hb2); have y0 := cell_below hb2 x0; have y1 := cell_below hb2 x1; have y2 := cell_below hb2 x2; have y3 := cell_below hb2 x3; have y4 := cell_below hb2 x4; have y5 := cell_below hb2 x5; clear hb2 x0 x1 x2 x3 x4 x5)
    | (go_at_call 69; refine (vsearch_at b ao fo cap fc Z F g1 k1 g2 k2 N i (-1) _ HLD2.out hi (by omega) hz2 HFZ.out HA.out.1 HTT.out (fun p a q h => (HA.out.2 p a q h).1)).mono ?_; rintro e w3 ⟨gd, gb, x, B, rfl, htr, hvr⟩; have HTR := Lib.hid htr; have HVR := Lib.hid hvr; clear htr hvr))
  go_ret2
  have hX : seekK (fromS Z) (toS Z) (stepsK Z F Z.length) i N = x := by
    rcases HVR.out.all with h1 | ⟨v, h1, _⟩
    · exact h1
    · omega
  refine ⟨gd, by rw [farsL_len]; rfl, ?_, ?_, HB2.out.trans (HTR.out.below.mono HB2.out.size)⟩
  · have h1 := HTR.out.lt.1.1
    have h2 := HB2.out.size
    omega
  · rw [hX]
    exact HTR.out.lev.lstK
end
section
variable (n : Int) (b : Bool) (ao fo lo : Option Addr) (cap fc lc : Nat) (Z : List ArcT) (F : List Int) (L : List StepT)
set_option maxRecDepth 100000 in
set_option maxHeartbeats 4000000 in
/-- What is pushed along steps with room for it, in memory of the call's own. -/
theorem spush_new (k : Int) (w : World) (h : Row encA 4 w ao Z) (hf : Lst encI w fo F) (hl : Row encS 2 w lo L) (hll : L.length ≤ 1000) (he : flowE n Z F = 0) (hk : ¬ k < 0) (h0 : (pushL Z k F L).1 = 0) :
    Calls Try.prog 57 #[.agg #[.int .i64 n, .bool b, .slice ao Z.length cap], .slice fo F.length fc, .slice lo L.length lc, .int .i64 k] w fun e w' => ∃ g, e = .returned (.tuple #[.slice (some ⟨g, 0, none⟩) (pushL Z k F L).2.length F.length, .int .i64 0]) ∧ w.heap.size ≤ g ∧ Lst encI w' (some ⟨g, 0, none⟩) (pushL Z k F L).2 ∧ Below w.heap.size w w' := by
  obtain ⟨hR, hF, hzl, hfl, hn1, hn2⟩ := flow_facts (b := b) he
  have hfl2 : F.length ≤ 200 := by omega
  have hb00 := (Below.refl _ w).alloc (Nat.le_refl _) (.cells #[.int .i64 n, .bool b, .slice ao Z.length cap] 24)
  have HB0 := Lib.hid hb00
  have HR := Lib.hid (h.below' hb00)
  have HF := Lib.hid (hf.below hb00)
  have HS := Lib.hid (hl.below' hb00)
  have HE := Lib.hid he
  have H0 := Lib.hid h0
  have HRT := Lib.hid hR
  have HFL := Lib.hid hF
  have HL := Lib.hid hfl
  have HZ : Hid (Z.length ≤ maxLen) := Lib.hid (by unfold maxLen; omega)
  have HFM : Hid (F.length ≤ maxLen) := Lib.hid (by unfold maxLen; omega)
  clear h hf hl hb00 he hR hF hfl h0
  go_enter Try.func57, Try.ntmps57
  go_wp2_with (first
    | (go_at_call 23; refine (load_ok n b ao fo cap fc Z F _ HR.out HF.out HZ.out HFM.out HE.out).mono ?_; rintro e w1 ⟨rfl, hb1⟩; have hz1 := hb1.size; have hba := (Below.refl _ w1).alloc (Nat.le_refl _) (.cells #[.int .i64 n, .bool b, .slice ao Z.length cap, .slice fo F.length fc] 55); have HR1 := Lib.hid ((HR.out.below' hb1).below' hba); have HF1 := Lib.hid ((HF.out.below hb1).below hba); have HS1 := Lib.hid ((HS.out.below' hb1).below' hba); have HB1 := Lib.hid ((HB0.out.trans (hb1.mono HB0.out.size)).trans (hba.mono (by simp at hz1; omega))); obtain ⟨⟨y0, y1, y2, y3⟩, _⟩ := ldCells (heap_alloc_new w1 (.cells #[.int .i64 n, .bool b, .slice ao Z.length cap, .slice fo F.length fc] 55)); clear hb1 hz1 hba)
    | (go_at_call 71; refine (apart_ok n b ao fo cap fc Z F _ HF1.out hfl2).mono ?_; rintro e w3 ⟨g, rfl, hg3, ho3, hb3⟩; have hgl : g < w3.heap.size := (own_lt2 ho3 rfl).2; have HW3 : Hid (PW (w1.alloc (.cells #[.int .i64 n, .bool b, .slice ao Z.length cap, .slice fo F.length fc] 55)) (w3.alloc (.cells #[.int .i64 n, .bool b, .slice ao Z.length cap, .slice (some ⟨g, 0, none⟩) F.length F.length] 55)) g w3.heap.size F.length #[.int .i64 n, .bool b, .slice ao Z.length cap, .slice (some ⟨g, 0, none⟩) F.length F.length] F) := Lib.hid ⟨hb3.alloc hb3.size _, ho3.alloc _, heap_alloc_new _ _, by omega⟩; clear ho3 hb3 hg3 hgl y0 y1 y2 y3))
  generalize w3.alloc (.cells #[.int .i64 n, .bool b, .slice ao Z.length cap, .slice (some ⟨g, 0, none⟩) F.length F.length] 55) = w4 at *
  generalize w3.heap.size = V at *
  generalize w1.alloc (.cells #[.int .i64 n, .bool b, .slice ao Z.length cap, .slice fo F.length fc] 55) = wq at *
  go_loopw [31] (fun i wr => ∃ (m : Nat) (F' : List Int), m ≤ L.length ∧ i = .int .i64 (m : Int) ∧ Hid (PW wq wr g V F.length #[.int .i64 n, .bool b, .slice ao Z.length cap, .slice (some ⟨g, 0, none⟩) F.length F.length] F') ∧ Hid (Flow Z F') ∧ Hid (pushL Z k F' (L.drop m) = pushL Z k F L)) (fun i _ => L.length - (intOf i).toNat)
  case atStart => exact ⟨0, F, Nat.zero_le _, rfl, HW3, HFL, Lib.hid rfl⟩
  case round =>
    clear HW3
    obtain ⟨m, F', hm, rfl, HP, HFF, HA⟩ := hrel
    have HFN : Hid (F'.length = F.length) := Lib.hid (by rw [HFF.out.1, HL.out])
    by_cases hlt : m < L.length
    · have hli : (m : Int) < (L.length : Int) := by omega
      obtain ⟨lb, lx, e, hlb, s0, s1⟩ := step_at (HS1.out.below' HP.out.below) (List.getElem?_eq_getElem hlt)
      cases e
      by_cases hx : isArc Z L[m]
      · by_cases hr : leftS Z F' L[m] < k
        · have HD : Hid (pushL Z k F L = (71, [])) := Lib.hid (by rw [← HA.out]; exact pushL_full hlt hx hr)
          have h9 := H0.out
          rw [HD.out] at h9
          exact absurd h9 (by decide)
        · have HD : Hid (pushL Z k (stepTo k F' L[m]) (L.drop (m + 1)) = pushL Z k F L) := Lib.hid (by rw [← HA.out]; exact (pushL_step hlt hx hr).symm)
          have HFS := Lib.hid (stepTo_flow HFF.out (by omega) hx hr)
          generalize L[m] = x at *
          obtain ⟨i, q⟩ := x
          simp only at s0 s1
          obtain ⟨j, rfl, hj⟩ := isArc_nat hx
          have HX := Lib.hid hr
          have HSL := Lib.hid (stepTo_len k F' ((j : Int), q))
          obtain ⟨⟨z0, z1, z2, z3⟩, _⟩ := ldCells (HP.out.alloc (.cells #[.int .i64 (j : Int), .bool q] 75)).var
          clear hx hr
          go_wp2_with (first
            | (go_at_call 72; refine (show Calls Try.prog 72 #[.agg #[.int .i64 n, .bool b, .slice ao Z.length cap, .slice (some ⟨g, 0, none⟩) F.length F.length], .agg #[.int .i64 (j : Int), .bool q], .int .i64 k] (wr.alloc (.cells #[.int .i64 (j : Int), .bool q] 75)) _ from (by rw [← HFN.out]; exact lpush_ok n b ao cap Z F' wq.heap.size g j q k _ (HR1.out.below' (HP.out.alloc _).below) (by rw [HFN.out]; exact (HP.out.alloc _).own) HRT.out HFF.out hj (by omega) HX.out)).mono ?_; rintro e w6 ⟨rfl, ho6, hk6⟩; rw [HSL.out, HFN.out] at ho6; have HP6 := Lib.hid ((HP.out.alloc (.cells #[.int .i64 (j : Int), .bool q] 75)).turn hk6 ho6); clear ho6 hk6))
          go_roundw
          case rel => exact ⟨m + 1, _, by omega, by go_num, HP6, HFS, HD⟩
          case measure => simp [intOf]; omega
      · have HD : Hid (pushL Z k F L = (1, [])) := Lib.hid (by rw [← HA.out]; exact pushL_arg hlt hx)
        have h9 := H0.out
        rw [HD.out] at h9
        exact absurd h9 (by decide)
    · have hli : ¬ (m : Int) < (L.length : Int) := by omega
      obtain rfl : m = L.length := by omega
      have HD : Hid (pushL Z k F L = (0, F')) := Lib.hid (by rw [← HA.out, List.drop_eq_nil_of_le (Nat.le_refl _)]; rfl)
      obtain ⟨⟨z0, z1, z2, z3⟩, _⟩ := ldCells HP.out.var
      go_wp2
      go_ret2
      rw [HD.out]
      refine ⟨g, by rw [HFN.out]; rfl, ?_, HP.out.own.lstK, HB1.out.trans (HP.out.below.mono HB1.out.size)⟩
      have h1 : wq.heap.size ≤ g := (own_lt2 HP.out.own rfl).1
      have h2 := HB1.out.size
      omega
end
end Go.Proofs.Ytekcnglkfglbfaa
