/- Best of package ebbtideref09: a flow of the greatest value; of any network whose ends are in range. -/
import Derived.Test.YtlkbohpnlbfopaaGreatBH
import Derived.Test.YtlkbohpnlbfopaaGreatBP
import Derived.Test.YtlkbohpnlbfopaaGreatBN
namespace Go.Proofs.YtlkbohpnlbfopaaGreat
open Go.RowKit
set_option linter.unusedVariables false
structure WideNet (Z : List ArcT) (N : Nat) : Prop where
  ends : ∀ a ∈ Z, a.1 = (frN a : Int) ∧ a.2.1 = (toN a : Int)
  lt : ∀ a ∈ Z, frN a < N ∧ toN a < N
  caps : ∀ a ∈ Z, 0 ≤ capN a ∧ capN a ≤ 4398046511104
  len : Z.length ≤ 50000
  nodes : N ≤ 100000
theorem wide_step {Z : List ArcT} {N : Nat} {F : List Int} (hW : WideNet Z N) (hF : Flow Z F) {y : StepT} (hy : y ∈ stepsK Z F Z.length) : (toS Z y < N ∧ fromS Z y < N) ∧ isArc Z y ∧ 0 < leftS Z F y ∧ StepOk Z F y := by
  obtain ⟨h1, _, h3⟩ := (stepsK_mem (Nat.le_refl _)).1 hy
  obtain ⟨p, a, q, ha, rfl⟩ := stepsK_arc hy
  have hm := List.mem_of_getElem? ha
  have hpl : p < F.length := by rw [hF.1]; exact (List.getElem?_eq_some_iff.1 ha).1
  have hl := hW.lt a hm
  have hc := hW.caps a hm
  have hf := hF.2 p a ha
  refine ⟨?_, h1, h3, p, a, q, rfl, ha, atI_get hpl, hf.1, by omega, hc.1, hc.2⟩
  unfold toS fromS
  rw [arcOf_nat q ha]
  cases q <;> simp [hl]
theorem seek_facts {Z : List ArcT} {N s : Nat} {F : List Int} (hW : WideNet Z N) (hF : Flow Z F) (hs : s < N) : SK (fromS Z) (toS Z) (stepsK Z F Z.length) s (seekN Z F N s) (seekN Z F N s).length [] := seek_full hs (fun y hy => (wide_step hW hF hy).1.1)
theorem wide_none {Z : List ArcT} {N s t : Nat} {F : List Int} {k : Int} (hW : WideNet Z N) (hs : s < N) (h : FlowST Z N s t F k) (hw : wayK (fromS Z) (toS Z) (stepsK Z F Z.length) N s t = none) : IsMost Z N s t k ∧ t ∉ keysX (seekN Z F N s) := by
  have hn : t ∉ keysX (seekN Z F N s) := wayK_none hw
  exact ⟨(best_side hW.lt hs (fun y => by
    rw [stepsK_mem (Nat.le_refl _)]
    constructor
    · rintro ⟨h1, _, h3⟩; exact ⟨h1, h3⟩
    · rintro ⟨h1, h3⟩; exact ⟨h1, h1.2, h3⟩) h (seek_facts hW h.1 hs) hn).2.2.1, hn⟩
theorem wide_some {Z : List ArcT} {N s t : Nat} {F : List Int} {k : Int} {P : List StepT} (hW : WideNet Z N) (hs : s < N) (hne : s ≠ t) (h : FlowST Z N s t F k) (hw : wayK (fromS Z) (toS Z) (stepsK Z F Z.length) N s t = some P) :
    P ≠ [] ∧ P.length ≤ 100000 ∧ (∀ y ∈ P, StepOk Z F y) ∧ (0 < botK Z F P ∧ botK Z F P ≤ 4398046511104) ∧ FlowST Z N s t (pushedL (botK Z F P) F P) (k + botK Z F P) ∧ (∀ y ∈ P, ∃ (p : Nat) (q : Bool), y = ((p : Int), q) ∧ p < F.length) ∧
    ∀ m, m ≤ P.length → ∀ p, p < F.length → -8796093022208 ≤ atI (pushedL (botK Z F P) F (P.take m)) p ∧ atI (pushedL (botK Z F P) F (P.take m)) p ≤ 8796093022208 := by
  have hT : ∀ y ∈ stepsK Z F Z.length, toS Z y < N := fun y hy => (wide_step hW h.1 hy).1.1
  obtain ⟨w1, w2, w3, w4⟩ := way_props hs hT hw
  have hst := fun y hy => wide_step hW h.1 (w2 y hy)
  obtain ⟨g1, g2, g3⟩ := augment hne h w1 w3 w4 (fun y hy => ⟨(hst y hy).2.1, (hst y hy).2.2.1⟩)
  have hP : P ≠ [] := by
    rintro rfl
    exact hne w1
  refine ⟨hP, ?_, fun y hy => (hst y hy).2.2.2, ⟨g1, ?_⟩, g3, fun y hy => ?_, fun m hm p hp => ?_⟩
  · obtain ⟨b, q, q1, q2, rfl⟩ := wayK_some hw
    have hsk := seek_full (fr := fromS Z) hs hT
    have hb := (List.getElem?_eq_some_iff.1 q1).1
    have hl := seek_len hsk hs hT
    have hN := hW.nodes
    have hle : ∀ (n j : Nat), j ≤ n → j < (seekK (fromS Z) (toS Z) (stepsK Z F Z.length) s N).length → (pathX (seekK (fromS Z) (toS Z) (stepsK Z F Z.length) s N) j).length ≤ j := by
      intro n
      induction n with
      | zero => intro j hj _; obtain rfl : j = 0 := by omega
                simp [pathX_zero]
      | succ n ih =>
        intro j hj hjl
        by_cases h0 : j = 0
        · subst h0; simp [pathX_zero]
        · have he := List.getElem?_eq_getElem hjl
          rw [pathX_succ hsk he (by omega), List.length_append]
          have h3 := (hsk.par j _ he (by omega)).2.2.1
          have := ih _ (by omega) (by omega : (seekK (fromS Z) (toS Z) (stepsK Z F Z.length) s N)[j].2.2 < (seekK (fromS Z) (toS Z) (stepsK Z F Z.length) s N).length)
          simp only [List.length_singleton]
          omega
    have := hle b b (Nat.le_refl _) hb
    omega
  · cases P with
    | nil => exact absurd rfl hP
    | cons y r =>
      have h1 := botK_le (Z := Z) (f := F) (y :: r) y (by simp)
      have h2 := (hst y (by simp)).2.2.2.left
      omega
  · obtain ⟨p, a, q, e, ha, _⟩ := (hst y hy).2.2.2
    exact ⟨p, q, e, by rw [h.1.1]; exact (List.getElem?_eq_some_iff.1 ha).1⟩
  · have hf := pushed_flow (by omega) h.1 g2 m
    have hp2 : p < Z.length := by rw [← h.1.1]; exact hp
    have h1 := hf.2 p _ (List.getElem?_eq_getElem hp2)
    have h2 := hW.caps _ (List.getElem_mem hp2)
    omega
section
variable (n : Int) (b : Bool) (ao : Option Addr) (cap : Nat) (Z : List ArcT) (N : Nat)
set_option maxRecDepth 100000 in
set_option maxHeartbeats 8000000 in
theorem rbest_any (s t : Nat) (w : World) (h : Row encA 4 w ao Z) (hW : WideNet Z N) (hs : s < N) (ht : t < N) (hne : s ≠ t) :
    Calls Tryz.prog 18 #[.agg #[.int .i64 n, .bool b, .slice ao Z.length cap], .int .i64 (s : Int), .int .i64 (t : Int)] w fun e w' => ∃ fo fc F k, e = .returned (.slice fo F.length fc) ∧ Lst encI w' fo F ∧ (fo = none → fc = 0) ∧ FlowST Z N s t F k ∧ IsMost Z N s t k ∧ t ∉ keysX (seekN Z F N s) ∧ Below w.heap.size w w' := by
  have hb00 := (Below.refl _ w).alloc (Nat.le_refl _) (.cells #[.int .i64 n, .bool b, .slice ao Z.length cap] 27)
  have HB0 := Lib.hid hb00
  have c0 : (w.alloc (.cells #[.int .i64 n, .bool b, .slice ao Z.length cap] 27)).cell? ⟨w.heap.size, 0, none⟩ = some (.int .i64 n) := cell_new w #[.int .i64 n, .bool b, .slice ao Z.length cap] 27 0
  have c1 : (w.alloc (.cells #[.int .i64 n, .bool b, .slice ao Z.length cap] 27)).cell? ⟨w.heap.size, 1, none⟩ = some (.bool b) := cell_new w #[.int .i64 n, .bool b, .slice ao Z.length cap] 27 1
  have c2 : (w.alloc (.cells #[.int .i64 n, .bool b, .slice ao Z.length cap] 27)).cell? ⟨w.heap.size, 2, none⟩ = some (.slice ao Z.length cap) := cell_new w #[.int .i64 n, .bool b, .slice ao Z.length cap] 27 2
  have HR := Lib.hid (h.below' hb00)
  have HWN := Lib.hid hW
  have hzl := hW.len
  have hNl := hW.nodes
  have HNE := Lib.hid hne
  have hcl := block_lt_of_cell c0
  simp only at hcl
  obtain ⟨M, hM⟩ : ∃ M, mostV Z s = M := ⟨_, rfl⟩
  have HM : Hid (∀ f k, FlowST Z N s t f k → k ≤ M) := Lib.hid (fun f k h => by rw [← hM]; exact le_mostV hW.lt hs hne h)
  clear h hb00 hW hne hM
  go_enter Tryz.func18, Tryz.ntmps18
  go_upto_region 1 with (fail)
  generalize hw1 : w.alloc (.cells #[.int .i64 n, .bool b, .slice ao Z.length cap] 27) = w1 at *
  clear hw1
  go_wp2_with (first
    | (at_make; refine wpList_make_L (enc := encI) 0 Tryz.underlying51 infoInt rfl (by omega) rfl _ _ rfl Z.length rfl rfl (by omega) ?_; intro w2 ho2 hb2; have HO2 := Lib.hid ho2.lstK; have HB2 := Lib.hid hb2; clear ho2 hb2))
  go_loopg [7] ((M - 0).toNat + 1) (fun k fv wr => ∃ fo fc F v, fv = .slice fo F.length fc ∧ Hid (fo = none → fc = 0) ∧ Hid ((M - v).toNat < k) ∧ Hid (FlowST Z N s t F v) ∧ Hid (Lst encI wr fo F) ∧ Hid (Below w1.heap.size w1 wr))
  case atStart => exact ⟨some ⟨w1.heap.size, 0, none⟩, Z.length, List.replicate Z.length 0, 0, by rw [List.length_replicate], Lib.hid (fun e => by cases e), Lib.hid (Nat.lt_succ_self _), Lib.hid (zero_flow Z (fun a ha => (HWN.out.caps a ha).1) N s t), HO2, HB2⟩
  case round =>
    clear HO2 HB2
    obtain ⟨fo, fc, F, v, rfl, HNL, HMU, HV, HF, HB⟩ := hrel
    obtain ⟨gk0, hgk⟩ : ∃ gk0, gk0 = gk := ⟨_, rfl⟩
    subst hgk
    have d0 := cell_below' HB.out c0 hcl
    have d1 := cell_below' HB.out c1 hcl
    have d2 := cell_below' HB.out c2 hcl
    have HRW := Lib.hid (HR.out.below' HB.out)
    have hsl := stepsK_len Z F Z.length
    have HFL := Lib.hid HV.out.1.1
    have HST := Lib.hid (fun y hy => wide_step HWN.out HV.out.1 (y := y) hy)
    have HTT : Hid (∀ y ∈ stepsK Z F Z.length, toS Z y < N) := Lib.hid (fun y hy => (HST.out y hy).1.1)
    cases hw : wayK (fromS Z) (toS Z) (stepsK Z F Z.length) N s t with
    | none =>
      have HWK := Lib.hid hw
      have HMO := Lib.hid (wide_none HWN.out hs HV.out hw)
      clear hw c0 c1 c2
      go_wp2_with fail
      go_region_held3 (fun W => W.cell? ⟨w.heap.size, 0, none⟩ = some (.int .i64 n) ∧ W.cell? ⟨w.heap.size, 1, none⟩ = some (.bool b) ∧ W.cell? ⟨w.heap.size, 2, none⟩ = some (.slice ao Z.length cap)) (first | exact ⟨d0, d1, d2⟩ | exact ⟨z0, z1, z2⟩ | go_keep)
        (first
          | (go_at_call 35; refine (rsteps_any n b ao fo cap fc Z F wr.drew (HRW.out.below' (below_drew (Below.refl wr.heap.size wr))) (HF.out.below (below_drew (Below.refl wr.heap.size wr))) HFL.out (by omega)).mono ?_; rintro e w3 ⟨a3, c3, rfl, hr3, hb3⟩; have HB3 := Lib.hid ((below_drew HB.out).trans (hb3.mono HB.out.size)); have HR3 := Lib.hid ((HRW.out.below' (below_drew (Below.refl wr.heap.size wr))).below' hb3); have HF3 := Lib.hid ((HF.out.below (below_drew (Below.refl wr.heap.size wr))).below hb3); have HS3 := Lib.hid hr3; have z0 := cell_below (w := wr.drew) hb3 d0; have z1 := cell_below (w := wr.drew) hb3 d1; have z2 := cell_below (w := wr.drew) hb3 d2; clear hb3 hr3)
          | (go_at_call 34; refine (rway_any n b ao a3 cap c3 Z (stepsK Z F Z.length) N s t _ HR3.out HS3.out (by omega) (by omega) (by omega) hs HTT.out (fun y hy => stepsK_arc hy) HWN.out.ends).mono ?_; rw [HWK.out]; rintro e w5 ⟨a5, c5, rfl, hr5, hb5⟩; have HB5 := Lib.hid (HB3.out.trans (hb5.mono HB3.out.size)); have HR5 := Lib.hid (HR3.out.below' hb5); have HF5 := Lib.hid (HF3.out.below hb5); have HP5 := Lib.hid hr5; have z0 := cell_below hb5 z0; have z1 := cell_below hb5 z1; have z2 := cell_below hb5 z2; clear hb5 hr5))
      all_goals
        go_wp2
        go_ret
        exact ⟨fo, fc, F, v, rfl, HF5.out, HNL.out, HV.out, HMO.out.1, HMO.out.2, HB0.out.trans (HB5.out.mono HB0.out.size)⟩
    | some P =>
      have HWK := Lib.hid hw
      have HSM := Lib.hid (wide_some HWN.out hs HNE.out HV.out hw)
      have hPl := HSM.out.2.1
      have hkb := HSM.out.2.2.2.1
      obtain ⟨kb, hkk⟩ : ∃ kb, botK Z F P = kb := ⟨_, rfl⟩
      rw [hkk] at hkb
      have HKK := Lib.hid hkk
      have hfl2 : F.length ≤ 200000 := by rw [HFL.out]; omega
      clear hw c0 c1 c2 hkk
      go_wp2_with fail
      go_region_held3 (fun W => W.cell? ⟨w.heap.size, 0, none⟩ = some (.int .i64 n) ∧ W.cell? ⟨w.heap.size, 1, none⟩ = some (.bool b) ∧ W.cell? ⟨w.heap.size, 2, none⟩ = some (.slice ao Z.length cap)) (first | exact ⟨d0, d1, d2⟩ | exact ⟨z0, z1, z2⟩ | go_keep)
        (first
          | (go_at_call 35; refine (rsteps_any n b ao fo cap fc Z F wr.drew (HRW.out.below' (below_drew (Below.refl wr.heap.size wr))) (HF.out.below (below_drew (Below.refl wr.heap.size wr))) HFL.out (by omega)).mono ?_; rintro e w3 ⟨a3, c3, rfl, hr3, hb3⟩; have HB3 := Lib.hid ((below_drew HB.out).trans (hb3.mono HB.out.size)); have HR3 := Lib.hid ((HRW.out.below' (below_drew (Below.refl wr.heap.size wr))).below' hb3); have HF3 := Lib.hid ((HF.out.below (below_drew (Below.refl wr.heap.size wr))).below hb3); have HS3 := Lib.hid hr3; have z0 := cell_below (w := wr.drew) hb3 d0; have z1 := cell_below (w := wr.drew) hb3 d1; have z2 := cell_below (w := wr.drew) hb3 d2; clear hb3 hr3)
          | (go_at_call 34; refine (rway_any n b ao a3 cap c3 Z (stepsK Z F Z.length) N s t _ HR3.out HS3.out (by omega) (by omega) (by omega) hs HTT.out (fun y hy => stepsK_arc hy) HWN.out.ends).mono ?_; rw [HWK.out]; rintro e w5 ⟨a5, c5, rfl, hr5, hb5⟩; have HB5 := Lib.hid (HB3.out.trans (hb5.mono HB3.out.size)); have HR5 := Lib.hid (HR3.out.below' hb5); have HF5 := Lib.hid (HF3.out.below hb5); have HP5 := Lib.hid hr5; have z0 := cell_below hb5 z0; have z1 := cell_below hb5 z1; have z2 := cell_below hb5 z2; clear hb5 hr5))
      all_goals
        go_wp2_with (first
          | (go_at_call 37; refine (rbottle_any n b ao fo a5 cap fc c5 Z F P _ HR5.out HF5.out HP5.out HSM.out.1 (by omega) (by omega) hfl2 HSM.out.2.2.1).mono ?_; rw [HKK.out]; rintro e w6 ⟨rfl, b6⟩; have HB6 := Lib.hid (HB5.out.trans (b6.mono HB5.out.size)); have HF6 := Lib.hid (HF5.out.below b6); have HP6 := Lib.hid (HP5.out.below' b6); clear b6)
          | (go_at_call 36; refine (rpushed_any fo a5 fc c5 F P kb _ HF6.out HP6.out HNL.out (by omega) hfl2 (by omega) (by omega) HSM.out.2.2.2.2.2.1 (by rw [← HKK.out]; exact HSM.out.2.2.2.2.2.2)).mono ?_; rintro e w7 ⟨fo7, fc7, rfl, hf7, hn7, b7⟩; have HB7 := Lib.hid (HB6.out.trans (b7.mono HB6.out.size)); have HF7 := Lib.hid hf7; have HN7 := Lib.hid hn7; clear b7 hf7 hn7))
        go_roundg ((M - (v + botK Z F P)).toNat + 1)
        case measure =>
          have h1 := HMU.out
          have h2 := HM.out _ _ HSM.out.2.2.2.2.1
          have h3 := HSM.out.2.2.2.1.1
          omega
        case rel => exact ⟨fo7, fc7, pushedL kb F P, v + botK Z F P, by rw [pushedL_len], HN7, Lib.hid (Nat.lt_succ_self _), Lib.hid (by have h := HSM.out.2.2.2.2.1; rw [HKK.out] at h ⊢; exact h), HF7, HB7⟩
end
end Go.Proofs.YtlkbohpnlbfopaaGreat
