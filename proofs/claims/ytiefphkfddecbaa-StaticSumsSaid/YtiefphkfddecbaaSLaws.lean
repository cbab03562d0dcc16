/- StaticChecks, StaticRooms, StaticPushes: the program tells what the document tells. -/
import Derived.Test.YtiefphkfddecbaaSAwk
namespace Go.Proofs.Ytiefphkfddecbaa
open Go.RowKit
set_option linter.unusedVariables false

theorem balsL_bd (n : Int) (Z : List ArcT) (F : List Int) : (balsL n Z F).length ≤ 200000 := by
  unfold balsL
  by_cases h : flowE n Z F = 0
  · rw [if_pos h, balL_len]
    obtain ⟨_, _, _, _, hn1, hn2⟩ := flow_facts (b := false) h
    omega
  · rw [if_neg h]; simp
theorem pushL_len {Z : List ArcT} {k : Int} : ∀ (L : List StepT) (F : List Int), (pushL Z k F L).2.length ≤ F.length
  | [], F => Nat.le_refl _
  | x :: r, F => by
    unfold pushL
    split
    · split
      · simp
      · have := pushL_len (Z := Z) (k := k) r (stepTo k F x)
        rw [stepTo_len] at this
        exact this
    · simp
theorem pushR_bd (n : Int) (Z : List ArcT) (F : List Int) (L : List StepT) (k : Int) : (pushR n Z F L k).2.length ≤ 200000 := by
  unfold pushR
  by_cases h : flowE n Z F = 0
  · rw [if_pos h]
    split
    · simp
    · obtain ⟨_, _, hz, hf, _, _⟩ := flow_facts (b := false) h
      have := pushL_len (Z := Z) (k := k) L F
      omega
  · rw [if_neg h]; simp
section
variable (n : Int) (b : Bool) (ao fo : Option Addr) (len cap fl fc : Nat) (Z : List ArcT) (F : List Int)
set_option maxRecDepth 100000 in
set_option maxHeartbeats 4000000 in
theorem rooms_law (i : Int) (q : Bool) (w : World) (hl : Z.length = len) (hm : len ≤ maxLen) (hr : Row encA 4 w ao Z) (hl2 : F.length = fl) (hm2 : fl ≤ maxLen) (hf : Lst encI w fo F) :
    Calls Try.prog 4 #[.agg #[.int .i64 n, .bool b, .slice ao len cap], .slice fo fl fc, .agg #[.int .i64 i, .bool q]] w fun e w' => e = .returned (.bool true) ∧ Below w.heap.size w w' := by
  subst hl
  subst hl2
  have hb00 := ((Below.refl _ w).alloc (Nat.le_refl _) (.cells #[.int .i64 n, .bool b, .slice ao Z.length cap] 24)).alloc (by simp) (.cells #[.int .i64 i, .bool q] 36)
  have HB := Lib.hid hb00
  have hn0 := alloc_whole (heap_alloc_new w (.cells #[.int .i64 n, .bool b, .slice ao Z.length cap] 24)) (.cells #[.int .i64 i, .bool q] 36)
  have hs0 := new_whole1 w (.cells #[.int .i64 n, .bool b, .slice ao Z.length cap] 24) (.cells #[.int .i64 i, .bool q] 36)
  have HN := Lib.hid hn0
  have HS := Lib.hid hs0
  have HR := Lib.hid (hr.below' hb00)
  have HF := Lib.hid (hf.below hb00)
  have HM := Lib.hid hm
  have HM2 := Lib.hid hm2
  obtain ⟨k1, hk1⟩ : ∃ k, roomK n Z F (i, q) = k := ⟨_, rfl⟩
  obtain ⟨e1, he1⟩ : ∃ k, roomE n Z F (i, q) = k := ⟨_, rfl⟩
  obtain ⟨k2, hk2⟩ : ∃ k, costV n Z F = k := ⟨_, rfl⟩
  obtain ⟨e2, he2⟩ : ∃ k, flowE n Z F = k := ⟨_, rfl⟩
  have HK1 := Lib.hid hk1
  have HE1 := Lib.hid he1
  have HK2 := Lib.hid hk2
  have HE2 := Lib.hid he2
  clear hr hf hm hm2 hb00 hn0 hs0 hk1 he1 hk2 he2
  go_enter Try.func4, Try.ntmps4
  go_wp2_with (first
    | (go_at_call 16; refine (room_any n b ao fo cap fc Z F i q _ HR.out HF.out HM.out HM2.out).mono ?_; rintro e w1 ⟨rfl, hb1⟩; rw [HK1.out, HE1.out]; have hn1 := kept_box HN.out hb1; have hs1 := kept_box HS.out hb1; have HR := Lib.hid (HR.out.below' hb1); have HF := Lib.hid (HF.out.below hb1); have HB := Lib.hid (HB.out.trans (hb1.mono HB.out.size)); have HN := Lib.hid hn1; have HS := Lib.hid hs1; have x1 := cell_whole hn1 0; have y1 := cell_whole hn1 1; have z1 := cell_whole hn1 2; have s1 := cell_whole hs1 0; have t1 := cell_whole hs1 1; clear hb1 hn1 hs1)
    | (go_at_call 17; refine (rroom_any n b ao fo cap fc Z F i q _ HR.out HF.out HM.out HM2.out).mono ?_; rintro e w2 ⟨rfl, hb1⟩; rw [HK1.out, HE1.out]; have hn1 := kept_box HN.out hb1; have HR := Lib.hid (HR.out.below' hb1); have HF := Lib.hid (HF.out.below hb1); have HB := Lib.hid (HB.out.trans (hb1.mono HB.out.size)); have HN := Lib.hid hn1; have x2 := cell_whole hn1 0; have y2 := cell_whole hn1 1; have z2 := cell_whole hn1 2; clear hb1 hn1 x1 y1 z1 s1 t1)
    | (go_at_call 18; refine (cost_any n b ao fo cap fc Z F _ HR.out HF.out HM.out HM2.out).mono ?_; rintro e w3 ⟨rfl, hb1⟩; rw [HK2.out, HE2.out]; have hn1 := kept_box HN.out hb1; have HR := Lib.hid (HR.out.below' hb1); have HF := Lib.hid (HF.out.below hb1); have HB := Lib.hid (HB.out.trans (hb1.mono HB.out.size)); have HN := Lib.hid hn1; have x3 := cell_whole hn1 0; have y3 := cell_whole hn1 1; have z3 := cell_whole hn1 2; clear hb1 hn1 x2 y2 z2)
    | (go_at_call 19; refine (rcost_any n b ao fo cap fc Z F _ HR.out HF.out HM.out HM2.out).mono ?_; rintro e w4 ⟨rfl, hb1⟩; rw [HK2.out, HE2.out]; have HB := Lib.hid (HB.out.trans (hb1.mono HB.out.size)); clear hb1 x3 y3 z3)
    | (go_at_call 12; refine (sawake_any _).mono ?_; rintro e w5 ⟨rfl, hb1⟩; have HB := Lib.hid (HB.out.trans (hb1.mono HB.out.size)); clear hb1))
  go_ret
  exact ⟨by simp, HB.out⟩
set_option maxRecDepth 100000 in
set_option maxHeartbeats 4000000 in
theorem pushes_law (lo : Option Addr) (ll lc : Nat) (L : List StepT) (k : Int) (w : World) (hl : Z.length = len) (hm : len ≤ maxLen) (hr : Row encA 4 w ao Z) (hl2 : F.length = fl) (hm2 : fl ≤ maxLen) (hf : Lst encI w fo F) (hnil : fo = none → fc = 0) (hl3 : L.length = ll) (hm3 : ll ≤ maxLen) (hs : Row encS 2 w lo L) :
    Calls Try.prog 5 #[.agg #[.int .i64 n, .bool b, .slice ao len cap], .slice fo fl fc, .slice lo ll lc, .int .i64 k] w fun e w' => e = .returned (.bool true) ∧ Below w.heap.size w w' := by
  subst hl
  subst hl2
  subst hl3
  unfold maxLen at hm3
  have hb00 := (Below.refl _ w).alloc (Nat.le_refl _) (.cells #[.int .i64 n, .bool b, .slice ao Z.length cap] 24)
  have HB := Lib.hid hb00
  have HN := Lib.hid (heap_alloc_new w (.cells #[.int .i64 n, .bool b, .slice ao Z.length cap] 24))
  have HR := Lib.hid (hr.below' hb00)
  have HF := Lib.hid (hf.below hb00)
  have HS := Lib.hid (hs.below' hb00)
  have HM := Lib.hid hm
  have HM2 := Lib.hid hm2
  have HNL := Lib.hid hnil
  clear hr hf hs hm hm2 hnil hb00
  by_cases h1 : 1000 < L.length
  · have h1i : (1000 : Int) < (L.length : Int) := by omega
    clear h1
    go_enter Try.func5, Try.ntmps5
    go_wp2_with (go_at_call 12; refine (sawake_any _).mono ?_; rintro e w5 ⟨rfl, hb1⟩; have HB := Lib.hid (HB.out.trans (hb1.mono HB.out.size)); clear hb1)
    go_ret
    exact ⟨rfl, HB.out⟩
  · have h1i : ¬ (1000 : Int) < (L.length : Int) := by omega
    have h2 : L.length ≤ 1000 := by omega
    obtain ⟨pr, hpr⟩ : ∃ p, pushR n Z F L k = p := ⟨_, rfl⟩
    have HBD := Lib.hid (pushR_bd n Z F L k)
    rw [hpr] at HBD
    have HPR := Lib.hid hpr
    clear h1 hpr
    obtain ⟨e0, P⟩ := pr
    go_enter Try.func5, Try.ntmps5
    go_wp2_with (first
      | (go_at_call 20; refine (push7_any n b ao fo lo cap fc lc Z F L k _ HR.out HF.out HS.out HM.out HM2.out h2).mono ?_; rintro e w1 ⟨a1, c1, rfl, hl1, hb1⟩; rw [HPR.out] at hl1 ⊢; have hn1 := kept_box HN.out hb1; have HR := Lib.hid (HR.out.below' hb1); have HF := Lib.hid (HF.out.below hb1); have HS := Lib.hid (HS.out.below' hb1); have HB := Lib.hid (HB.out.trans (hb1.mono HB.out.size)); have x1 := cell_whole hn1 0; have y1 := cell_whole hn1 1; have z1 := cell_whole hn1 2; have HL1 : Hid (Lst encI w1 a1 P) := Lib.hid hl1; clear hb1 hn1 hl1)
      | (go_at_call 21; refine (rpush_any n b ao fo lo cap fc lc Z F L k _ HR.out HF.out HS.out HNL.out HM.out HM2.out h2).mono ?_; rintro e w2 ⟨a2, c2, rfl, hl2, hb2⟩; rw [HPR.out] at hl2 ⊢; have HB := Lib.hid (HB.out.trans (hb2.mono HB.out.size)); have HL1 := Lib.hid (HL1.out.below hb2); have HL2 : Hid (Lst encI w2 a2 P) := Lib.hid hl2; clear hb2 hl2 x1 y1 z1)
      | (go_at_call 12; refine (sawake_any _).mono ?_; rintro e w3 ⟨rfl, hb3⟩; have HB := Lib.hid (HB.out.trans (hb3.mono HB.out.size)); have HL1 := Lib.hid (HL1.out.below hb3); have HL2 := Lib.hid (HL2.out.below hb3); clear hb3)
      | (go_at_call 15; refine (sameints_eq P a1 a2 c1 c2 _ HL1.out HL2.out HBD.out).mono ?_; rintro e w4 ⟨rfl, hb4⟩; have HB := Lib.hid (HB.out.trans (hb4.mono HB.out.size)); clear hb4))
    go_ret
    exact ⟨by simp, HB.out⟩
set_option maxRecDepth 100000 in
set_option maxHeartbeats 4000000 in
theorem schecks_law (s t : Int) (w : World) (hl : Z.length = len) (hm : len ≤ maxLen) (hr : Row encA 4 w ao Z) (hl2 : F.length = fl) (hm2 : fl ≤ maxLen) (hf : Lst encI w fo F) :
    Calls Try.prog 3 #[.agg #[.int .i64 n, .bool b, .slice ao len cap], .int .i64 s, .int .i64 t, .slice fo fl fc] w fun e w' => e = .returned (.bool true) ∧ Below w.heap.size w w' := by
  subst hl
  subst hl2
  have hb00 := (Below.refl _ w).alloc (Nat.le_refl _) (.cells #[.int .i64 n, .bool b, .slice ao Z.length cap] 24)
  have HB := Lib.hid hb00
  have HN := Lib.hid (heap_alloc_new w (.cells #[.int .i64 n, .bool b, .slice ao Z.length cap] 24))
  have HR := Lib.hid (hr.below' hb00)
  have HF := Lib.hid (hf.below hb00)
  have HM := Lib.hid hm
  have HM2 := Lib.hid hm2
  obtain ⟨P, hP⟩ : ∃ k, balsL n Z F = k := ⟨_, rfl⟩
  have HBD := Lib.hid (balsL_bd n Z F)
  rw [hP] at HBD
  obtain ⟨e1, he1⟩ : ∃ k, flowE n Z F = k := ⟨_, rfl⟩
  obtain ⟨k2, hk2⟩ : ∃ k, valK n Z s t F = k := ⟨_, rfl⟩
  obtain ⟨e2, he2⟩ : ∃ k, valE n Z s t F = k := ⟨_, rfl⟩
  obtain ⟨e3, he3⟩ : ∃ k, endsE n Z s t = k := ⟨_, rfl⟩
  have HP := Lib.hid hP
  have HE1 := Lib.hid he1
  have HK2 := Lib.hid hk2
  have HE2 := Lib.hid he2
  have HE3 := Lib.hid he3
  clear hr hf hm hm2 hb00 hP he1 hk2 he2 he3
  go_enter Try.func3, Try.ntmps3
  go_wp2_with (first
    | (go_at_call 8; refine (balance_is n b ao fo cap fc Z F e1 P _ HR.out HF.out HM.out HM2.out HE1.out HP.out).mono ?_; rintro e w1 ⟨a1, c1, rfl, hl1, hb1⟩; have hn1 := kept_box HN.out hb1; have HN := Lib.hid hn1; have HR := Lib.hid (HR.out.below' hb1); have HF := Lib.hid (HF.out.below hb1); have HB := Lib.hid (HB.out.trans (hb1.mono HB.out.size)); have x1 := cell_whole hn1 0; have y1 := cell_whole hn1 1; have z1 := cell_whole hn1 2; have HL1 := Lib.hid hl1; clear hb1 hn1 hl1)
    | (go_at_call 9; refine (rbalance_is n b ao fo cap fc Z F e1 P _ HR.out HF.out HM.out HM2.out HE1.out HP.out).mono ?_; rintro e w2 ⟨a2, c2, rfl, hl2, hb2⟩; have hn2 := kept_box HN.out hb2; have HN := Lib.hid hn2; have HR := Lib.hid (HR.out.below' hb2); have HF := Lib.hid (HF.out.below hb2); have HB := Lib.hid (HB.out.trans (hb2.mono HB.out.size)); have HL1 := Lib.hid (HL1.out.below hb2); have HL2 := Lib.hid hl2; have x2 := cell_whole hn2 0; have y2 := cell_whole hn2 1; have z2 := cell_whole hn2 2; clear hb2 hl2 hn2 x1 y1 z1)
    | (go_at_call 10; refine (scheck_any n b ao fo cap fc Z s t F _ HR.out HF.out HM.out HM2.out).mono ?_; rintro e w3 ⟨rfl, hb2⟩; rw [HK2.out, HE2.out]; have hn2 := kept_box HN.out hb2; have HN := Lib.hid hn2; have HR := Lib.hid (HR.out.below' hb2); have HF := Lib.hid (HF.out.below hb2); have HB := Lib.hid (HB.out.trans (hb2.mono HB.out.size)); have HL1 := Lib.hid (HL1.out.below hb2); have HL2 := Lib.hid (HL2.out.below hb2); have x3 := cell_whole hn2 0; have y3 := cell_whole hn2 1; have z3 := cell_whole hn2 2; clear hb2 hn2 x2 y2 z2)
    | (go_at_call 11; refine (rscheck_any n b ao fo cap fc Z s t F _ HR.out HF.out HM.out HM2.out).mono ?_; rintro e w4 ⟨rfl, hb2⟩; rw [HK2.out, HE2.out]; have hn2 := kept_box HN.out hb2; have HN := Lib.hid hn2; have HR := Lib.hid (HR.out.below' hb2); have HB := Lib.hid (HB.out.trans (hb2.mono HB.out.size)); have HL1 := Lib.hid (HL1.out.below hb2); have HL2 := Lib.hid (HL2.out.below hb2); have x4 := cell_whole hn2 0; have y4 := cell_whole hn2 1; have z4 := cell_whole hn2 2; clear hb2 hn2 x3 y3 z3))
  have r0 : w4.drew.cell? ⟨w.heap.size, 0, none⟩ = some (.int .i64 n) := x4
  have r1 : w4.drew.cell? ⟨w.heap.size, 1, none⟩ = some (.bool b) := y4
  have r2 : w4.drew.cell? ⟨w.heap.size, 2, none⟩ = some (.slice ao Z.length cap) := z4
  have HBx := Lib.hid (below_drew HB.out)
  have HRx : Hid (Row encA 4 w4.drew ao Z) := Lib.hid (HR.out.below' (below_drew (Below.refl _ _)))
  have HL1x : Hid (Lst encI w4.drew a1 P) := Lib.hid (HL1.out.below (below_drew (Below.refl _ _)))
  have HL2x : Hid (Lst encI w4.drew a2 P) := Lib.hid (HL2.out.below (below_drew (Below.refl _ _)))
  have q1 : (e3 == e3) = true := by simp
  have q2 : (e1 == e1) = true := by simp
  have q3 : (k2 == k2) = true := by simp
  have q4 : (e2 == e2) = true := by simp
  clear HB HR HL1 HL2 HF HN
  go_region_held3 (fun W => W.cell? ⟨w.heap.size, 0, none⟩ = some (.int .i64 n) ∧ W.cell? ⟨w.heap.size, 1, none⟩ = some (.bool b) ∧ W.cell? ⟨w.heap.size, 2, none⟩ = some (.slice ao Z.length cap)) (first | exact ⟨x4, y4, z4⟩ | exact ⟨r0, r1, r2⟩ | go_keep)
    (first
      | (go_at_call 12; refine (sawake_any _).mono ?_; rintro e w5 ⟨rfl, b5⟩; have r0 := cell_below b5 r0; have r1 := cell_below b5 r1; have r2 := cell_below b5 r2; have HBx := Lib.hid (HBx.out.trans (b5.mono HBx.out.size)); have HRx := Lib.hid (HRx.out.below' b5); have HL1x := Lib.hid (HL1x.out.below b5); have HL2x := Lib.hid (HL2x.out.below b5); clear b5)
      | (go_at_call 13; refine (ends_is n b ao cap Z s t e3 _ HRx.out HM.out HE3.out).mono ?_; rintro e w6 ⟨rfl, b5⟩; have r0 := cell_below b5 r0; have r1 := cell_below b5 r1; have r2 := cell_below b5 r2; have HBx := Lib.hid (HBx.out.trans (b5.mono HBx.out.size)); have HRx := Lib.hid (HRx.out.below' b5); have HL1x := Lib.hid (HL1x.out.below b5); have HL2x := Lib.hid (HL2x.out.below b5); clear b5)
      | (go_at_call 14; refine (rends_is n b ao cap Z s t e3 _ HRx.out HM.out HE3.out).mono ?_; rintro e w7 ⟨rfl, b5⟩; have r0 := cell_below b5 r0; have r1 := cell_below b5 r1; have r2 := cell_below b5 r2; have HBx := Lib.hid (HBx.out.trans (b5.mono HBx.out.size)); have HRx := Lib.hid (HRx.out.below' b5); have HL1x := Lib.hid (HL1x.out.below b5); have HL2x := Lib.hid (HL2x.out.below b5); clear b5)
      | (go_at_call 15; refine (sameints_eq P a1 a2 c1 c2 _ HL1x.out HL2x.out HBD.out).mono ?_; rintro e w8 ⟨rfl, b5⟩; have r0 := cell_below b5 r0; have r1 := cell_below b5 r1; have r2 := cell_below b5 r2; have HBx := Lib.hid (HBx.out.trans (b5.mono HBx.out.size)); clear b5))
  all_goals
    go_wp2
    go_ret
    exact ⟨by simp, HBx.out⟩
end
end Go.Proofs.Ytiefphkfddecbaa
