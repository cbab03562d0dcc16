/- The document's pushed and Best, once more: what they tell is new memory of the call's own. -/
import Derived.Test.YtmflleifglefiaaXBest
import Derived.Test.YtmflleifglefiaaDCl2
namespace Go.Proofs.Ytmflleifglefiaa
open Go.RowKit
set_option linter.unusedVariables false

section
variable (fo lo : Option Addr) (fc lc : Nat) (F : List Int) (L : List StepT)
set_option maxRecDepth 100000 in
set_option maxHeartbeats 4000000 in
theorem rpushed_own (k : Int) (w : World) (hf : Lst encI w fo F) (hl : Row encS 2 w lo L) (hnil : fo = none → fc = 0) (hll : L.length ≤ 200000) (hfl : F.length ≤ 200000) (hk0 : -8796093022208 ≤ k) (hk1 : k ≤ 8796093022208) (hL : ∀ y ∈ L, ∃ (p : Nat) (q : Bool), y = ((p : Int), q) ∧ p < F.length)
    (hb : ∀ m, m ≤ L.length → ∀ p, p < F.length → -8796093022208 ≤ atI (pushedL k F (L.take m)) p ∧ atI (pushedL k F (L.take m)) p ≤ 8796093022208) :
    Calls Try.prog 36 #[.slice fo F.length fc, .slice lo L.length lc, .int .i64 k] w fun e w' => ∃ v, e = .returned v ∧ OwnL encI w' w.heap.size 3 v (pushedL k F L) ∧ Below w.heap.size w w' := by
  have HF := Lib.hid hf
  have HS := Lib.hid hl
  have HNL := Lib.hid hnil
  have HLO := Lib.hid hL
  have HBD := Lib.hid hb
  clear hf hl hnil hL hb
  go_enter Try.func36, Try.ntmps36
  go_wp2_with (first
    | (at_builtin; refine wpList_append_all rfl _ _ rfl fo fc F rfl rfl HF.out HNL.out hfl ?_; intro v w2 ho2 hb2; have HW2 := Lib.hid (RW.mk hb2 ho2); clear ho2 hb2))
  obtain ⟨fa, ca, hv, _⟩ := HW2.out.own.lst
  subst hv
  go_loopw [8] (fun i wr => ∃ m : Nat, m ≤ L.length ∧ i = .int .i64 (m : Int) ∧ Hid (RW w wr (.slice fa F.length ca) (pushedL k F (L.take m)))) (fun i _ => L.length - (intOf i).toNat)
  case atStart => exact ⟨0, Nat.zero_le _, rfl, HW2⟩
  case round =>
    clear HW2
    obtain ⟨m, hm, rfl, HP⟩ := hrel
    have HFN := Lib.hid (pushedL_len k (L.take m) F)
    by_cases hlt : m < L.length
    · have hli : (m : Int) < (L.length : Int) := by omega
      obtain ⟨lb, lx, e, hlb, s0, s1⟩ := step_at (HS.out.below' HP.out.below) (List.getElem?_eq_getElem hlt)
      cases e
      have HTK := Lib.hid (pushedL_take (k := k) (F := F) hlt)
      obtain ⟨p, q, hpq, hp⟩ := HLO.out _ (List.getElem_mem hlt)
      obtain ⟨b0, b1⟩ := HBD.out m hm p hp
      obtain ⟨b2, b3⟩ := HBD.out (m + 1) hlt p hp
      generalize L[m] = y at *
      subst hpq
      have hST : stepTo k (pushedL k F (L.take m)) ((p : Int), q) = (pushedL k F (L.take m)).set p (if q then atI (pushedL k F (L.take m)) p - k else atI (pushedL k F (L.take m)) p + k) := by unfold stepTo; simp
      rw [HTK.out, hST, atI_set (by rw [HFN.out]; exact hp), if_pos rfl] at b2 b3
      have HST := Lib.hid hST
      have hpi : (p : Int) < (F.length : Int) := by omega
      have hX := atI_get (d := pushedL k F (L.take m)) (v := p) (by rw [HFN.out]; exact hp)
      obtain ⟨g, cg, e, hgb, hgl⟩ := HP.out.own.some (by rw [HFN.out]; omega)
      injection e with e3 e4 e5
      subst e3
      subst e5
      clear e4
      obtain ⟨cy, fy⟩ := HP.out.own.cell hX
      unfold encI at cy
      simp only at s0 s1
      clear hST hX
      generalize pushedL k F (L.take m) = G at *
      generalize atI G p = x at *
      cases q
      all_goals
        simp only [Bool.false_eq_true, if_false, if_true] at b2 b3
        go_wp2_with fail
        go_region
        go_wp2
        go_roundw
        case rel => exact ⟨m + 1, by omega, by go_num, Lib.hid (by rw [HTK.out, HST.out]; exact (HP.out.put p _).drew)⟩
        case measure => simp [intOf]; omega
    · have hli : ¬ (m : Int) < (L.length : Int) := by omega
      obtain rfl : m = L.length := by omega
      rw [List.take_length] at HP HFN
      go_wp2
      go_ret
      exact ⟨_, rfl, HP.out.own, HP.out.below⟩
end
section
variable (n : Int) (b : Bool) (ao : Option Addr) (cap : Nat) (Z : List ArcT) (N : Nat)
set_option maxRecDepth 100000 in
set_option maxHeartbeats 8000000 in
theorem rbest_own (s t : Nat) (w : World) (h : Row encA 4 w ao Z) (hW : WideNet Z N) (hs : s < N) (ht : t < N) (hne : s ≠ t) :
    Calls Try.prog 17 #[.agg #[.int .i64 n, .bool b, .slice ao Z.length cap], .int .i64 (s : Int), .int .i64 (t : Int)] w fun e w' => ∃ v F k, e = .returned v ∧ OwnL encI w' w.heap.size 3 v F ∧ FlowST Z N s t F k ∧ IsMost Z N s t k ∧ t ∉ keysX (seekN Z F N s) ∧ Below w.heap.size w w' := by
  have hb00 := (Below.refl _ w).alloc (Nat.le_refl _) (.cells #[.int .i64 n, .bool b, .slice ao Z.length cap] 24)
  have HB0 := Lib.hid hb00
  have c0 : (w.alloc (.cells #[.int .i64 n, .bool b, .slice ao Z.length cap] 24)).cell? ⟨w.heap.size, 0, none⟩ = some (.int .i64 n) := cell_new w #[.int .i64 n, .bool b, .slice ao Z.length cap] 24 0
  have c1 : (w.alloc (.cells #[.int .i64 n, .bool b, .slice ao Z.length cap] 24)).cell? ⟨w.heap.size, 1, none⟩ = some (.bool b) := cell_new w #[.int .i64 n, .bool b, .slice ao Z.length cap] 24 1
  have c2 : (w.alloc (.cells #[.int .i64 n, .bool b, .slice ao Z.length cap] 24)).cell? ⟨w.heap.size, 2, none⟩ = some (.slice ao Z.length cap) := cell_new w #[.int .i64 n, .bool b, .slice ao Z.length cap] 24 2
  have HR := Lib.hid (h.below' hb00)
  have HWN := Lib.hid hW
  have hzl := hW.len
  have hNl := hW.nodes
  have HNE := Lib.hid hne
  have hcl := block_lt_of_cell c0
  simp only at hcl
  obtain ⟨M, hM⟩ : ∃ M, mostV Z s = M := ⟨_, rfl⟩
  have HM : Hid (∀ f k, FlowST Z N s t f k → k ≤ M) := Lib.hid (fun f k h => by rw [← hM]; exact le_mostV hW.lt hs hne h)
  clear h hb00 hW hne hM
  go_enter Try.func17, Try.ntmps17
  go_upto_region 1 with (fail)
  generalize hw1 : w.alloc (.cells #[.int .i64 n, .bool b, .slice ao Z.length cap] 24) = w1 at *
  clear hw1
  go_wp2_with (first
    | (at_make; refine wpList_make_L (enc := encI) 0 Try.underlying25 infoInt rfl (by omega) rfl _ _ rfl Z.length rfl rfl (by omega) ?_; intro w2 ho2 hb2; have HO2 := Lib.hid ho2; have HB2 := Lib.hid hb2; clear ho2 hb2))
  go_loopg [7] ((M - 0).toNat + 1) (fun k fv wr => ∃ F v, Hid ((M - v).toNat < k) ∧ Hid (FlowST Z N s t F v) ∧ Hid (OwnL encI wr w1.heap.size 3 fv F) ∧ Hid (Below w1.heap.size w1 wr))
  case atStart => exact ⟨List.replicate Z.length 0, 0, Lib.hid (Nat.lt_succ_self _), Lib.hid (zero_flow Z (fun a ha => (HWN.out.caps a ha).1) N s t), HO2, HB2⟩
  case round =>
    clear HO2 HB2
    obtain ⟨F, v, HMU, HV, HO, HB⟩ := hrel
    obtain ⟨fo, fc, rfl, hF0⟩ := HO.out.lst
    have HF := Lib.hid hF0
    have HNL := Lib.hid (own_nilD HO.out)
    clear hF0
    obtain ⟨gk0, hgk⟩ : ∃ gk0, gk0 = gk := ⟨_, rfl⟩
    subst hgk
    have d0 := cell_below' HB.out c0 hcl
    have d1 := cell_below' HB.out c1 hcl
    have d2 := cell_below' HB.out c2 hcl
    have HRW := Lib.hid (HR.out.below' HB.out)
    have hsl := stepsK_len Z F Z.length
    have HFL := Lib.hid HV.out.1.1
    have HST := Lib.hid (fun y hy => wide_step HWN.out HV.out.1 (y := y) hy)
    have HTT : Hid (∀ y ∈ stepsK Z F Z.length, toS Z y < N) := Lib.hid (fun y hy => (HST.out y hy).1.1)
    cases hw : wayK (fromS Z) (toS Z) (stepsK Z F Z.length) N s t with
    | none =>
      have HWK := Lib.hid hw
      have HMO := Lib.hid (wide_none HWN.out hs HV.out hw)
      clear hw c0 c1 c2
      go_wp2_with fail
      go_region_held3 (fun W => W.cell? ⟨w.heap.size, 0, none⟩ = some (.int .i64 n) ∧ W.cell? ⟨w.heap.size, 1, none⟩ = some (.bool b) ∧ W.cell? ⟨w.heap.size, 2, none⟩ = some (.slice ao Z.length cap)) (first | exact ⟨d0, d1, d2⟩ | exact ⟨z0, z1, z2⟩ | go_keep)
        (first
          | (go_at_call 35; refine (rsteps_any n b ao fo cap fc Z F wr.drew (HRW.out.below' (below_drew (Below.refl wr.heap.size wr))) (HF.out.below (below_drew (Below.refl wr.heap.size wr))) HFL.out (by omega)).mono ?_; rintro e w3 ⟨a3, c3, rfl, hr3, hb3⟩; have HB3 := Lib.hid ((below_drew HB.out).trans (hb3.mono HB.out.size)); have HR3 := Lib.hid ((HRW.out.below' (below_drew (Below.refl wr.heap.size wr))).below' hb3); have HF3 := Lib.hid ((HF.out.below (below_drew (Below.refl wr.heap.size wr))).below hb3); have HS3 := Lib.hid hr3; have HOx := Lib.hid ((HO.out.below (below_drew (Below.refl wr.heap.size wr))).below hb3); have z0 := cell_below (w := wr.drew) hb3 d0; have z1 := cell_below (w := wr.drew) hb3 d1; have z2 := cell_below (w := wr.drew) hb3 d2; clear hb3 hr3)
          | (go_at_call 30; refine (rway_any n b ao a3 cap c3 Z (stepsK Z F Z.length) N s t _ HR3.out HS3.out (by omega) (by omega) (by omega) hs HTT.out (fun y hy => stepsK_arc hy) HWN.out.ends).mono ?_; rw [HWK.out]; rintro e w5 ⟨a5, c5, rfl, hr5, hb5⟩; have HB5 := Lib.hid (HB3.out.trans (hb5.mono HB3.out.size)); have HR5 := Lib.hid (HR3.out.below' hb5); have HF5 := Lib.hid (HF3.out.below hb5); have HP5 := Lib.hid hr5; have HOx := Lib.hid (HOx.out.below hb5); have z0 := cell_below hb5 z0; have z1 := cell_below hb5 z1; have z2 := cell_below hb5 z2; clear hb5 hr5))
      all_goals
        go_wp2
        go_ret
        exact ⟨_, F, v, rfl, own_mono HOx.out HB0.out.size, HV.out, HMO.out.1, HMO.out.2, HB0.out.trans (HB5.out.mono HB0.out.size)⟩
    | some P =>
      have HWK := Lib.hid hw
      have HSM := Lib.hid (wide_some HWN.out hs HNE.out HV.out hw)
      have hPl := HSM.out.2.1
      have hkb := HSM.out.2.2.2.1
      obtain ⟨kb, hkk⟩ : ∃ kb, botK Z F P = kb := ⟨_, rfl⟩
      rw [hkk] at hkb
      have HKK := Lib.hid hkk
      have hfl2 : F.length ≤ 200000 := by rw [HFL.out]; omega
      clear hw c0 c1 c2 hkk
      go_wp2_with fail
      go_region_held3 (fun W => W.cell? ⟨w.heap.size, 0, none⟩ = some (.int .i64 n) ∧ W.cell? ⟨w.heap.size, 1, none⟩ = some (.bool b) ∧ W.cell? ⟨w.heap.size, 2, none⟩ = some (.slice ao Z.length cap)) (first | exact ⟨d0, d1, d2⟩ | exact ⟨z0, z1, z2⟩ | go_keep)
        (first
          | (go_at_call 35; refine (rsteps_any n b ao fo cap fc Z F wr.drew (HRW.out.below' (below_drew (Below.refl wr.heap.size wr))) (HF.out.below (below_drew (Below.refl wr.heap.size wr))) HFL.out (by omega)).mono ?_; rintro e w3 ⟨a3, c3, rfl, hr3, hb3⟩; have HB3 := Lib.hid ((below_drew HB.out).trans (hb3.mono HB.out.size)); have HR3 := Lib.hid ((HRW.out.below' (below_drew (Below.refl wr.heap.size wr))).below' hb3); have HF3 := Lib.hid ((HF.out.below (below_drew (Below.refl wr.heap.size wr))).below hb3); have HS3 := Lib.hid hr3; have HOx := Lib.hid ((HO.out.below (below_drew (Below.refl wr.heap.size wr))).below hb3); have z0 := cell_below (w := wr.drew) hb3 d0; have z1 := cell_below (w := wr.drew) hb3 d1; have z2 := cell_below (w := wr.drew) hb3 d2; clear hb3 hr3)
          | (go_at_call 30; refine (rway_any n b ao a3 cap c3 Z (stepsK Z F Z.length) N s t _ HR3.out HS3.out (by omega) (by omega) (by omega) hs HTT.out (fun y hy => stepsK_arc hy) HWN.out.ends).mono ?_; rw [HWK.out]; rintro e w5 ⟨a5, c5, rfl, hr5, hb5⟩; have HB5 := Lib.hid (HB3.out.trans (hb5.mono HB3.out.size)); have HR5 := Lib.hid (HR3.out.below' hb5); have HF5 := Lib.hid (HF3.out.below hb5); have HP5 := Lib.hid hr5; have HOx := Lib.hid (HOx.out.below hb5); have z0 := cell_below hb5 z0; have z1 := cell_below hb5 z1; have z2 := cell_below hb5 z2; clear hb5 hr5))
      all_goals
        go_wp2_with (first
          | (go_at_call 37; refine (rbottle_any n b ao fo a5 cap fc c5 Z F P _ HR5.out HF5.out HP5.out HSM.out.1 (by omega) (by omega) hfl2 HSM.out.2.2.1).mono ?_; rw [HKK.out]; rintro e w6 ⟨rfl, b6⟩; have HB6 := Lib.hid (HB5.out.trans (b6.mono HB5.out.size)); have HF6 := Lib.hid (HF5.out.below b6); have HP6 := Lib.hid (HP5.out.below' b6); clear b6)
          | (go_at_call 36; refine (rpushed_own fo a5 fc c5 F P kb _ HF6.out HP6.out HNL.out (by omega) hfl2 (by omega) (by omega) HSM.out.2.2.2.2.2.1 (by rw [← HKK.out]; exact HSM.out.2.2.2.2.2.2)).mono ?_; rintro e w7 ⟨v7, rfl, ho7, b7⟩; have HB7 := Lib.hid (HB6.out.trans (b7.mono HB6.out.size)); have HO7 := Lib.hid (own_mono ho7 HB6.out.size); clear b7 ho7))
        go_roundg ((M - (v + botK Z F P)).toNat + 1)
        case measure =>
          have h1 := HMU.out
          have h2 := HM.out _ _ HSM.out.2.2.2.2.1
          have h3 := HSM.out.2.2.2.1.1
          omega
        case rel => exact ⟨pushedL kb F P, v + botK Z F P, Lib.hid (Nat.lt_succ_self _), Lib.hid (by have h := HSM.out.2.2.2.2.1; rw [HKK.out] at h ⊢; exact h), HO7, HB7⟩
end
end Go.Proofs.Ytmflleifglefiaa
