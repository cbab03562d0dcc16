/- The document's Best and Most of layer 12. -/
import Derived.Test.YtekcnglkfglbfaaGreatGNear
import Derived.Test.YtekcnglkfglbfaaGreatGBds
namespace Go.Proofs.YtekcnglkfglbfaaGreat
open Go.RowKit
set_option linter.unusedVariables false

section
variable (b : Bool) (ao : Option Addr) (cap : Nat) (Z : List ArcT) (N : Nat)
set_option maxRecDepth 100000 in
set_option maxHeartbeats 8000000 in
theorem rbest12_any (s t : Nat) (H : Int) (w : World) (h : Row encA 4 w ao Z) (hW : SpanNet Z N) (hs : s < N) (ht : t < N) (hne : s ≠ t) (hH : 0 ≤ H) :
    Calls Tryz.prog 15 #[.agg #[.int .i64 (N : Int), .bool b, .slice ao Z.length cap], .int .i64 (s : Int), .int .i64 (t : Int), .int .i64 H] w fun e w' => ∃ fo fc F k, e = .returned (.slice fo F.length fc) ∧ Lst encI w' fo F ∧ (fo = none → fc = 0) ∧ BestI Z N s t H F k ∧ (∀ x, getO (dN Z F N s N) t = some x → H < x) ∧ Below w.heap.size w w' := by
  have hb00 := (Below.refl _ w).alloc (Nat.le_refl _) (.cells #[.int .i64 (N : Int), .bool b, .slice ao Z.length cap] 24)
  have HB0 := Lib.hid hb00
  have HN0 := Lib.hid (heap_alloc_new w (.cells #[.int .i64 (N : Int), .bool b, .slice ao Z.length cap] 24))
  have c0 := cell_whole HN0.out 0
  have c1 := cell_whole HN0.out 1
  have c2 := cell_whole HN0.out 2
  have HR := Lib.hid (h.below' hb00)
  have HWN := Lib.hid hW
  have HTN := Lib.hid hW.time
  have hzl := hW.len
  have hNl := hW.nodes
  have HNE := Lib.hid hne
  have HHH := Lib.hid hH
  obtain ⟨M, hM⟩ : ∃ M, mostG Z s = M := ⟨_, rfl⟩
  have HM : Hid (∀ f k, FlowST Z N s t f k → k ≤ M) := Lib.hid (fun f k h => by rw [← hM]; exact le_mostG hW.lt hs hne h)
  clear h hb00 hW hne hM
  go_enter Tryz.func15, Tryz.ntmps15
  go_upto_region 1 with (fail)
  generalize w.alloc (.cells #[.int .i64 (N : Int), .bool b, .slice ao Z.length cap] 24) = w1 at *
  go_wp2_with (first
    | (at_make; refine wpList_make_L (enc := encI) 0 Tryz.underlying31 infoInt rfl (by omega) rfl _ _ rfl Z.length rfl rfl (by omega) ?_; intro w2 ho2 hb2; have HO2 := Lib.hid ho2.lstK; have HB2 := Lib.hid hb2; clear ho2 hb2))
  go_loopg [9] ((M - 0).toNat + 1) (fun k fv wr => ∃ fo fc F v, fv = .slice fo F.length fc ∧ Hid (fo = none → fc = 0) ∧ Hid ((M - v).toNat < k) ∧ Hid (BestI Z N s t H F v) ∧ Hid (Lst encI wr fo F) ∧ Hid (Below w1.heap.size w1 wr))
  case atStart => exact ⟨some ⟨w1.heap.size, 0, none⟩, Z.length, List.replicate Z.length 0, 0, by rw [List.length_replicate], Lib.hid (fun e => by cases e), Lib.hid (Nat.lt_succ_self _), Lib.hid (BestI.start HWN.out HHH.out), HO2, HB2⟩
  case round =>
    clear HO2 HB2
    obtain ⟨fo, fc, F, v, rfl, HNL, HMU, HV, HF, HB⟩ := hrel
    obtain ⟨gk0, hgk⟩ : ∃ gk0, gk0 = gk := ⟨_, rfl⟩
    subst hgk
    have hn2 := kept_box HN0.out HB.out
    have HN2 := Lib.hid hn2
    have d0 := cell_whole hn2 0
    have d1 := cell_whole hn2 1
    have d2 := cell_whole hn2 2
    have HRW := Lib.hid (HR.out.below' HB.out)
    have HFL := Lib.hid HV.out.flow.1.1
    have hfl2 : F.length ≤ 200000 := by rw [HFL.out]; omega
    have hcalm := HV.out.calm s
    have hci := (calmN_iff HWN.out.lt hs).2 hcalm
    have HDE := Lib.hid (calmN_far HWN.out.lt hs hci).1
    have HON := Lib.hid (dN_on HWN.out.lt hs hcalm)
    have HBD := Lib.hid (dN_bd (F := F) (s := s) HTN.out hNl hzl)
    have HDL : Hid ((dN Z F N s N).length = N) := Lib.hid (bellK_len _)
    have HNX := Lib.hid (fun x (hx : getO (dN Z F N s N) t = some x) => even_way HWN.out.lt hs ht hcalm hx)
    have HGO := Lib.hid (fun x (hx : getO (dN Z F N s N) t = some x) (hxH : x ≤ H) P (hw : wayK (fromS Z) (toS Z) (evenL Z F (dN Z F N s N)) N s t = some P) => HV.out.next HWN.out hs ht HNE.out hx hxH hw)
    obtain ⟨D, hD⟩ : ∃ D, dN Z F N s N = D := ⟨_, rfl⟩
    have HDD := Lib.hid hD
    rw [hD] at HDE HON HBD HDL HNX HGO
    have hti : (t : Int) < (N : Int) := by omega
    have htD : t < D.length := by rw [HDL.out]; exact ht
    have HVT := Lib.hid (valsO_at htD)
    have HIT := Lib.hid (isO_at htD)
    have ARMF : True := trivial
    clear hn2 hcalm hci hD htD ARMF c0 c1 c2
    cases hg : getO D t with
    | none =>
      have HST : Hid (∀ x, getO (dN Z F N s N) t = some x → H < x) := Lib.hid (fun x hx => by rw [HDD.out, hg] at hx; cases hx)
      rw [hg] at HVT HIT
      clear hg HNX HGO
      go_wp2_with (first
        | (go_at_call 14; refine (rreach_any b ao fo cap fc Z F N s _ HRW.out HF.out HFL.out HTN.out hs).mono ?_; rintro e w3 ⟨gd, gi, rfl, hd, hi, hb3⟩; rw [HDE.out] at hd hi; obtain ⟨ib, ix, e2, _, it⟩ := lst_cell hi HIT.out; cases e2; unfold encB at it; rw [Nat.zero_add] at it; have it := cell_alloc it (.cells #[.slice (some ⟨gd, 0, none⟩) N N, .slice (some ⟨gi, 0, none⟩) N N, .bool (calmN Z F N s)] 40); have k0 := cell_new w3 #[.slice (some ⟨gd, 0, none⟩) N N, .slice (some ⟨gi, 0, none⟩) N N, .bool (calmN Z F N s)] 40 0; have k1 := cell_new w3 #[.slice (some ⟨gd, 0, none⟩) N N, .slice (some ⟨gi, 0, none⟩) N N, .bool (calmN Z F N s)] 40 1; have hbx := hb3.trans (((Below.refl _ w3).alloc (Nat.le_refl _) (.cells #[.slice (some ⟨gd, 0, none⟩) N N, .slice (some ⟨gi, 0, none⟩) N N, .bool (calmN Z F N s)] 40)).mono hb3.size); have HB3 := Lib.hid (HB.out.trans (hbx.mono HB.out.size)); have HF3 := Lib.hid (HF.out.below hbx); clear hb3 hd hi hbx))
      go_ret
      exact ⟨fo, fc, F, v, rfl, HF3.out, HNL.out, HV.out, HST.out, HB0.out.trans (HB3.out.mono HB0.out.size)⟩
    | some x =>
      rw [hg] at HVT HIT
      have hvx : valO (some x) = x := rfl
      rw [hvx] at HVT
      by_cases hxH : x ≤ H
      · have hxd : decide (x > H) = false := decide_eq_false (by omega)
        obtain ⟨P, hP⟩ := HNX.out x hg
        have HWK := Lib.hid hP
        have HSM := Lib.hid (HGO.out x hg hxH P hP)
        have hPl := HSM.out.2.1
        have hkb := HSM.out.2.2.2.1
        obtain ⟨kb, hkk⟩ : ∃ kb, botK Z F P = kb := ⟨_, rfl⟩
        rw [hkk] at hkb
        have HKK := Lib.hid hkk
        clear hg HNX HGO hP hkk
        go_wp2_with (first
          | (go_at_call 14; refine (rreach_any b ao fo cap fc Z F N s _ HRW.out HF.out HFL.out HTN.out hs).mono ?_; rintro e w3 ⟨gd, gi, rfl, hd, hi, hb3⟩; rw [HDE.out] at hd hi; have bA := (Below.refl _ w3).alloc (Nat.le_refl _) (.cells #[.slice (some ⟨gd, 0, none⟩) N N, .slice (some ⟨gi, 0, none⟩) N N, .bool (calmN Z F N s)] 40); have HD3 := Lib.hid (hd.below bA); have HI3 := Lib.hid (hi.below bA); obtain ⟨ib, ix, e2, _, it⟩ := lst_cell HI3.out HIT.out; cases e2; unfold encB at it; rw [Nat.zero_add] at it; obtain ⟨db, dx, e2, _, dt⟩ := lst_cell HD3.out HVT.out; cases e2; unfold encI at dt; rw [Nat.zero_add] at dt; have k0 := cell_new w3 #[.slice (some ⟨gd, 0, none⟩) N N, .slice (some ⟨gi, 0, none⟩) N N, .bool (calmN Z F N s)] 40 0; have k1 := cell_new w3 #[.slice (some ⟨gd, 0, none⟩) N N, .slice (some ⟨gi, 0, none⟩) N N, .bool (calmN Z F N s)] 40 1; have k2 := cell_new w3 #[.slice (some ⟨gd, 0, none⟩) N N, .slice (some ⟨gi, 0, none⟩) N N, .bool (calmN Z F N s)] 40 2; have hbx := hb3.trans (bA.mono hb3.size); have HB3 := Lib.hid (HB.out.trans (hbx.mono HB.out.size)); have HF3 := Lib.hid (HF.out.below hbx); have HR3 := Lib.hid (HRW.out.below' hbx); have hn3 := kept_box HN2.out hbx; have HN3 := Lib.hid hn3; have d0 := cell_whole hn3 0; have d1 := cell_whole hn3 1; have d2 := cell_whole hn3 2; clear hb3 hd hi hbx bA hn3)
          | (go_at_call 29; refine (rnearest_any (N : Int) b _ ao fo cap fc gd gi Z F N D s t _ HR3.out HF3.out HFL.out HTN.out hs HD3.out HI3.out HDL.out HBD.out HON.out).mono ?_; rw [HWK.out]; rintro e w4 ⟨a5, c5, rfl, hp5, hb4⟩; have HP5 : Hid (Row encS 2 w4 a5 P) := Lib.hid hp5; have HB4 := Lib.hid (HB3.out.trans (hb4.mono HB3.out.size)); have HF4 := Lib.hid (HF3.out.below hb4); have HR4 := Lib.hid (HR3.out.below' hb4); have hn4 := kept_box HN3.out hb4; have d0 := cell_whole hn4 0; have d1 := cell_whole hn4 1; have d2 := cell_whole hn4 2; rw [show (some P).getD [] = P from rfl]; clear hb4 hp5 hn4)
          | (go_at_call 31; refine (rbottle_any (N : Int) b ao fo a5 cap fc c5 Z F P _ HR4.out HF4.out HP5.out HSM.out.1 (by omega) (by omega) hfl2 HSM.out.2.2.1).mono ?_; rw [HKK.out]; rintro e w6 ⟨rfl, b6⟩; have HB6 := Lib.hid (HB4.out.trans (b6.mono HB4.out.size)); have HF6 := Lib.hid (HF4.out.below b6); have HP6 := Lib.hid (HP5.out.below' b6); clear b6)
          | (go_at_call 30; refine (rpushed_any fo a5 fc c5 F P kb _ HF6.out HP6.out HNL.out (by omega) hfl2 (by omega) (by omega) HSM.out.2.2.2.2.2.1 (by rw [← HKK.out]; exact HSM.out.2.2.2.2.2.2)).mono ?_; rintro e w7 ⟨fo7, fc7, rfl, hf7, hn7, b7⟩; have HB7 := Lib.hid (HB6.out.trans (b7.mono HB6.out.size)); have HF7 := Lib.hid hf7; have HN7 := Lib.hid hn7; clear b7 hf7 hn7))
        go_roundg ((M - (v + botK Z F P)).toNat + 1)
        case measure =>
          have h1 := HMU.out
          have h2 := HM.out _ _ HSM.out.2.2.2.2.1.flow
          have h3 := HSM.out.2.2.2.1.1
          omega
        case rel => exact ⟨fo7, fc7, pushedL kb F P, v + botK Z F P, by rw [pushedL_len], HN7, Lib.hid (Nat.lt_succ_self _), Lib.hid (by have h := HSM.out.2.2.2.2.1; rw [HKK.out] at h ⊢; exact h), HF7, HB7⟩
      · have hxd : decide (x > H) = true := decide_eq_true (by omega)
        have HST : Hid (∀ x, getO (dN Z F N s N) t = some x → H < x) := Lib.hid (fun y hy => by rw [HDD.out, hg] at hy; cases hy; omega)
        clear hg HNX HGO
        go_wp2_with (first
          | (go_at_call 14; refine (rreach_any b ao fo cap fc Z F N s _ HRW.out HF.out HFL.out HTN.out hs).mono ?_; rintro e w3 ⟨gd, gi, rfl, hd, hi, hb3⟩; rw [HDE.out] at hd hi; have bA := (Below.refl _ w3).alloc (Nat.le_refl _) (.cells #[.slice (some ⟨gd, 0, none⟩) N N, .slice (some ⟨gi, 0, none⟩) N N, .bool (calmN Z F N s)] 40); have HD3 := Lib.hid (hd.below bA); have HI3 := Lib.hid (hi.below bA); obtain ⟨ib, ix, e2, _, it⟩ := lst_cell HI3.out HIT.out; cases e2; unfold encB at it; rw [Nat.zero_add] at it; obtain ⟨db, dx, e2, _, dt⟩ := lst_cell HD3.out HVT.out; cases e2; unfold encI at dt; rw [Nat.zero_add] at dt; have k0 := cell_new w3 #[.slice (some ⟨gd, 0, none⟩) N N, .slice (some ⟨gi, 0, none⟩) N N, .bool (calmN Z F N s)] 40 0; have k1 := cell_new w3 #[.slice (some ⟨gd, 0, none⟩) N N, .slice (some ⟨gi, 0, none⟩) N N, .bool (calmN Z F N s)] 40 1; have k2 := cell_new w3 #[.slice (some ⟨gd, 0, none⟩) N N, .slice (some ⟨gi, 0, none⟩) N N, .bool (calmN Z F N s)] 40 2; have hbx := hb3.trans (bA.mono hb3.size); have HB3 := Lib.hid (HB.out.trans (hbx.mono HB.out.size)); have HF3 := Lib.hid (HF.out.below hbx); have HR3 := Lib.hid (HRW.out.below' hbx); have hn3 := kept_box HN2.out hbx; have HN3 := Lib.hid hn3; have d0 := cell_whole hn3 0; have d1 := cell_whole hn3 1; have d2 := cell_whole hn3 2; clear hb3 hd hi hbx bA hn3))
        go_ret
        exact ⟨fo, fc, F, v, rfl, HF3.out, HNL.out, HV.out, HST.out, HB0.out.trans (HB3.out.mono HB0.out.size)⟩
end
section
variable (n : Int) (b : Bool) (ao : Option Addr) (cap : Nat) (Z : List ArcT)
set_option maxRecDepth 100000 in
set_option maxHeartbeats 8000000 in
theorem rmost12_any (s t H : Int) (w : World) (h : Row encA 4 w ao Z) (hz : Z.length ≤ maxLen) :
    Calls Tryz.prog 8 #[.agg #[.int .i64 n, .bool b, .slice ao Z.length cap], .int .i64 s, .int .i64 t, .int .i64 H] w (Most12 n Z s t H w) := by
  have hb00 := (Below.refl _ w).alloc (Nat.le_refl _) (.cells #[.int .i64 n, .bool b, .slice ao Z.length cap] 24)
  have HB0 := Lib.hid hb00
  have HN0 := Lib.hid (heap_alloc_new w (.cells #[.int .i64 n, .bool b, .slice ao Z.length cap] 24))
  have c0 := cell_whole HN0.out 0
  have c1 := cell_whole HN0.out 1
  have c2 := cell_whole HN0.out 2
  have HR := Lib.hid (h.below' hb00)
  have HZ := Lib.hid hz
  clear h hz hb00
  obtain ⟨e0, he⟩ : ∃ e0, askE n Z s t H = e0 := ⟨_, rfl⟩
  have HE := Lib.hid he
  by_cases h0 : e0 = 0
  · subst h0
    obtain ⟨N, i, j, rfl, rfl, rfl, hi, hj, hij, hW, hH1, hH2⟩ := ask_net he
    have HWN := Lib.hid hW
    have HIJ := Lib.hid hij
    clear he hW hij
    go_enter Tryz.func8, Tryz.ntmps8
    go_wp2_with (first
      | (go_at_call 11; refine (rasked12_is (N : Int) b ao cap Z 0 (i : Int) (j : Int) H _ HR.out HZ.out HE.out).mono ?_; rintro e w1 ⟨rfl, hb1⟩; have HB1 := Lib.hid (HB0.out.trans (hb1.mono HB0.out.size)); have hn1 := kept_box HN0.out hb1; have HN1 := Lib.hid hn1; have HR1 := Lib.hid (HR.out.below' hb1); have c0 := cell_whole hn1 0; have c1 := cell_whole hn1 1; have c2 := cell_whole hn1 2; clear hb1 hn1)
      | fail)
    have z0 : w1.drew.cell? ⟨w.heap.size, 0, none⟩ = some (.int .i64 (N : Int)) := c0
    have z1 : w1.drew.cell? ⟨w.heap.size, 1, none⟩ = some (.bool b) := c1
    have z2 : w1.drew.cell? ⟨w.heap.size, 2, none⟩ = some (.slice ao Z.length cap) := c2
    have HRx : Hid (Row encA 4 w1.drew ao Z) := Lib.hid (HR1.out.below' (below_drew (Below.refl w1.heap.size w1)))
    have HWx : Hid (Below w.heap.size w w1.drew) := Lib.hid (below_drew HB1.out)
    go_region_held3 (fun W => W.cell? ⟨w.heap.size, 0, none⟩ = some (.int .i64 (N : Int)) ∧ W.cell? ⟨w.heap.size, 1, none⟩ = some (.bool b) ∧ W.cell? ⟨w.heap.size, 2, none⟩ = some (.slice ao Z.length cap)) (first | exact ⟨c0, c1, c2⟩ | exact ⟨z0, z1, z2⟩ | go_keep)
      (first
        | (go_at_call 12; refine (rworth_any (N : Int) b ao fo cap fc Z F (i : Int) (j : Int) H _ HRx.out HFx.out HZ.out HFL.out).mono ?_; rw [HWE.out, HWV.out]; rintro e w8 ⟨rfl, b8⟩; have z0 := cell_below b8 z0; have z1 := cell_below b8 z1; have z2 := cell_below b8 z2; have HW8 := Lib.hid (HWx.out.trans (b8.mono HWx.out.size)); clear b8)
        | (go_at_call 15; refine (rbest12_any b ao cap Z N i j H _ HRx.out HWN.out hi hj HIJ.out hH1).mono ?_; rintro e w7 ⟨fo, fc, F, k, rfl, hf, _, hbi, hdn, b6⟩; have HWO := wor_st HE.out hbi.flow; have HWE := Lib.hid HWO.1; have HWV := Lib.hid HWO.2; have HIB := Lib.hid (hbi.done HWN.out hi hj HIJ.out hdn); have HFx := Lib.hid hf; have HFL : Hid (F.length ≤ maxLen) := Lib.hid (by rw [hbi.flow.1.1]; exact HZ.out); have z0 := cell_below b6 z0; have z1 := cell_below b6 z1; have z2 := cell_below b6 z2; have HRx := Lib.hid (HRx.out.below' b6); have HWx := Lib.hid (HWx.out.trans (b6.mono HWx.out.size)); clear b6 hf hbi hdn HWO))
    all_goals
      go_wp2
      go_ret2
      exact ⟨_, by rw [HE.out]; rfl, fun _ => ⟨N, i, j, rfl, rfl, rfl, hi, hj, HIJ.out, HWN.out, HIB.out⟩, fun h => absurd HE.out h, HW8.out⟩
  · have hf1 : (e0 != 0) = true := by simpa using h0
    have hf2 : (e0 == 0) = false := by simpa using h0
    have H0 := Lib.hid h0
    clear he h0
    go_enter Tryz.func8, Tryz.ntmps8
    go_wp2_with (first
      | (go_at_call 11; refine (rasked12_is n b ao cap Z e0 s t H _ HR.out HZ.out HE.out).mono ?_; rintro e w1 ⟨rfl, hb1⟩; have HB1 := Lib.hid (HB0.out.trans (hb1.mono HB0.out.size)); clear hb1))
    go_ret2
    exact ⟨0, by rw [HE.out]; rfl, fun h => absurd (HE.out.symm.trans h) H0.out, fun _ => rfl, HB1.out⟩
end
end Go.Proofs.YtekcnglkfglbfaaGreat
