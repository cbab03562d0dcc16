/- AdjLists, AdjHops, AdjFastest, AdjOrders: the program tells what the document tells. -/
import Derived.Test.YtfnafdjcncgcnaaASame
import Derived.Test.YtfnafdjcncgcnaaARout
import Derived.Test.YtfnafdjcncgcnaaARfast
import Derived.Test.YtfnafdjcncgcnaaARord
namespace Go.Proofs.Ytfnafdjcncgcnaa
open Go.RowKit
set_option linter.unusedVariables false

theorem listsL_bd (f : ArcT → Nat) (n : Int) (Z : List ArcT) : (listsL f n Z).length ≤ 200000 ∧ ∀ g ∈ listsL f n Z, g.length ≤ 200000 := by
  unfold listsL
  by_cases h : checkE n Z = 0
  · rw [if_pos h]
    have hR : Right (n, false, Z) := right_iff.1 h
    have hn := nodesE_ok hR.1
    have hz : Z.length ≤ 200 := hR.2.1
    simp only at hn
    refine ⟨by rw [lists_len]; omega, fun g hg => ?_⟩
    unfold lists at hg
    obtain ⟨v, _, rfl⟩ := List.mem_map.1 hg
    have := places_len f Z v
    omega
  · rw [if_neg h]; simp
theorem hopsL_bd (n : Int) (Z : List ArcT) (s : Int) : (hopsL n Z s).length ≤ 200000 := by
  unfold hopsL
  by_cases h : hopE n Z s = 0
  · rw [if_pos h, hopK_len]
    have hR : Right (n, false, Z) := right_iff.1 (hopE_ok h).1
    have hn := nodesE_ok hR.1
    simp only at hn
    omega
  · rw [if_neg h]; simp
theorem fastL_bd (n : Int) (Z : List ArcT) (s : Int) : (fastL n Z s).length ≤ 200000 := by
  unfold fastL
  by_cases h : hopE n Z s = 0
  · rw [if_pos h, fastK_len]
    have hR : Right (n, false, Z) := right_iff.1 (hopE_ok h).1
    have hn := nodesE_ok hR.1
    simp only at hn
    omega
  · rw [if_neg h]; simp
theorem orderL_bd (n : Int) (Z : List ArcT) : ((orderL n Z).getD []).length ≤ 200000 := by
  unfold orderL
  by_cases h : checkE n Z = 0
  · rw [if_pos h]
    have hR : Right (n, false, Z) := right_iff.1 h
    have hn := nodesE_ok hR.1
    simp only at hn
    cases ho : orderK Z n.toNat n.toNat with
    | none => simp
    | some l =>
      have := (orderK_props _ _ ho).1
      simp only [Option.getD_some]
      omega
  · rw [if_neg h]; simp
/-- The network's box, and what lies beside it, behind a call. -/
theorem box_kept {w w' : World} {g : Nat} {o : Obj} (h : w.heap[g]? = some o) (hb : Below w.heap.size w w') : w'.heap[g]? = some o := (hb.block g (lt_whole h)).trans h
set_option maxRecDepth 100000 in
set_option maxHeartbeats 2000000 in
theorem lists_law (n : Int) (b : Bool) (ao : Option Addr) (len cap : Nat) (Z : List ArcT) (w : World) (hl : Z.length = len) (hm : len ≤ maxLen) (hr : Row encA 4 w ao Z) :
    Calls Try.prog 3 #[.agg #[.int .i64 n, .bool b, .slice ao len cap]] w fun e w' => e = .returned (.bool true) ∧ Below w.heap.size w w' := by
  subst hl
  have HM := Lib.hid hm
  have HR := Lib.hid (row_alloc hr (.cells #[.int .i64 n, .bool b, .slice ao Z.length cap] 24))
  have HB0 : Hid (Below w.heap.size w (w.alloc (.cells #[.int .i64 n, .bool b, .slice ao Z.length cap] 24))) := Lib.hid ((Below.refl _ w).alloc (Nat.le_refl _) _)
  have HN := Lib.hid (heap_alloc_new w (.cells #[.int .i64 n, .bool b, .slice ao Z.length cap] 24))
  clear hr hm
  have HE := listsL_bd frN n Z
  have HF := listsL_bd toN n Z
  obtain ⟨GO, hGO⟩ : ∃ G, listsL frN n Z = G := ⟨_, rfl⟩
  obtain ⟨GI, hGI⟩ : ∃ G, listsL toN n Z = G := ⟨_, rfl⟩
  rw [hGO] at HE
  rw [hGI] at HF
  have HGO := Lib.hid hGO
  have HGI := Lib.hid hGI
  have HE2 := Lib.hid HE
  have HF2 := Lib.hid HF
  obtain ⟨ce, hce⟩ : ∃ ce, checkE n Z = ce := ⟨_, rfl⟩
  have HCE := Lib.hid hce
  clear hGO hGI HE HF hce
  go_enter Try.func3, Try.ntmps3
  go_wp2_with (first
    | (go_at_call 10; refine (out_any n b ao cap Z _ HR.out HM.out).mono ?_; rintro e w1 ⟨a1, c1, rfl, hl1, hb1⟩; rw [HGO.out] at hl1 ⊢; rw [HCE.out]; have HR1 := Lib.hid (HR.out.below' hb1); have HB1 := Lib.hid (HB0.out.trans (hb1.mono HB0.out.size)); have hn1 := box_kept HN.out hb1; have HN1 := Lib.hid hn1; have x1 := cell_whole hn1 0; have y1 := cell_whole hn1 1; have z1 := cell_whole hn1 2; have HL1 := Lib.hid hl1; clear hl1 hb1 hn1)
    | (go_at_call 11; refine (rout_any n b ao cap Z _ HR1.out HM.out).mono ?_; rintro e w2 ⟨a2, c2, rfl, hl2, hb2⟩; rw [HGO.out] at hl2 ⊢; rw [HCE.out]; have HR2 := Lib.hid (HR1.out.below' hb2); have HB2 := Lib.hid (HB1.out.trans (hb2.mono HB1.out.size)); have hn2 := box_kept HN1.out hb2; have HN2 := Lib.hid hn2; have x2 := cell_whole hn2 0; have y2 := cell_whole hn2 1; have z2 := cell_whole hn2 2; have HL1 := Lib.hid (HL1.out.below hb2); have HL2 := Lib.hid hl2; clear hl2 hb2 hn2 x1 y1 z1)
    | (go_at_call 12; refine (intol_any n b ao cap Z _ HR2.out HM.out).mono ?_; rintro e w3 ⟨a3, c3, rfl, hl3, hb3⟩; rw [HGI.out] at hl3 ⊢; rw [HCE.out]; have HR3 := Lib.hid (HR2.out.below' hb3); have HB3 := Lib.hid (HB2.out.trans (hb3.mono HB2.out.size)); have hn3 := box_kept HN2.out hb3; have HN3 := Lib.hid hn3; have x3 := cell_whole hn3 0; have y3 := cell_whole hn3 1; have z3 := cell_whole hn3 2; have HL1 := Lib.hid (HL1.out.below hb3); have HL2 := Lib.hid (HL2.out.below hb3); have HL3 := Lib.hid hl3; clear hl3 hb3 hn3 x2 y2 z2)
    | (go_at_call 13; refine (rin_any n b ao cap Z _ HR3.out HM.out).mono ?_; rintro e w4 ⟨a4, c4, rfl, hl4, hb4⟩; rw [HGI.out] at hl4 ⊢; rw [HCE.out]; have HR4 := Lib.hid (HR3.out.below' hb4); have HB4 := Lib.hid (HB3.out.trans (hb4.mono HB3.out.size)); have hn4 := box_kept HN3.out hb4; have HN4 := Lib.hid hn4; have x4 := cell_whole hn4 0; have y4 := cell_whole hn4 1; have z4 := cell_whole hn4 2; have HL1 := Lib.hid (HL1.out.below hb4); have HL2 := Lib.hid (HL2.out.below hb4); have HL3 := Lib.hid (HL3.out.below hb4); have HL4 := Lib.hid hl4; clear hl4 hb4 hn4 x3 y3 z3)
    | (go_at_call 14; refine (awake_any _).mono ?_; rintro e w5 ⟨rfl, hb5⟩; have HB5 := Lib.hid (HB4.out.trans (hb5.mono HB4.out.size)); have HL1 := Lib.hid (HL1.out.below hb5); have HL2 := Lib.hid (HL2.out.below hb5); have HL3 := Lib.hid (HL3.out.below hb5); have HL4 := Lib.hid (HL4.out.below hb5); clear hb5)
    | (go_at_call 15; refine (sameg_eq GO a1 a2 c1 c2 _ HL1.out HL2.out HE2.out.1 HE2.out.2).mono ?_; rintro e w6 ⟨rfl, hb6⟩; have HB6 := Lib.hid (HB5.out.trans (hb6.mono HB5.out.size)); have HL3 := Lib.hid (HL3.out.below hb6); have HL4 := Lib.hid (HL4.out.below hb6); clear hb6 HL1)
    | (go_at_call 15; refine (sameg_eq GI a3 a4 c3 c4 _ HL3.out HL4.out HF2.out.1 HF2.out.2).mono ?_; rintro e w7 ⟨rfl, hb7⟩; have HB7 := Lib.hid (HB6.out.trans (hb7.mono HB6.out.size)); clear hb7))
  go_ret
  exact ⟨by simp, HB7.out⟩
set_option maxRecDepth 100000 in
set_option maxHeartbeats 2000000 in
theorem hops_law (n : Int) (b : Bool) (ao : Option Addr) (len cap : Nat) (Z : List ArcT) (s : Int) (w : World) (hl : Z.length = len) (hm : len ≤ maxLen) (hr : Row encA 4 w ao Z) :
    Calls Try.prog 4 #[.agg #[.int .i64 n, .bool b, .slice ao len cap], .int .i64 s] w fun e w' => e = .returned (.bool true) ∧ Below w.heap.size w w' := by
  subst hl
  have HM := Lib.hid hm
  have HR := Lib.hid (row_alloc hr (.cells #[.int .i64 n, .bool b, .slice ao Z.length cap] 24))
  have HB0 : Hid (Below w.heap.size w (w.alloc (.cells #[.int .i64 n, .bool b, .slice ao Z.length cap] 24))) := Lib.hid ((Below.refl _ w).alloc (Nat.le_refl _) _)
  have HN := Lib.hid (heap_alloc_new w (.cells #[.int .i64 n, .bool b, .slice ao Z.length cap] 24))
  clear hr hm
  have hbd := hopsL_bd n Z s
  obtain ⟨GO, hGO⟩ : ∃ G, hopsL n Z s = G := ⟨_, rfl⟩
  rw [hGO] at hbd
  have HGO := Lib.hid hGO
  have HBD := Lib.hid hbd
  obtain ⟨ce, hce⟩ : ∃ ce, hopE n Z s = ce := ⟨_, rfl⟩
  have HCE := Lib.hid hce
  clear hGO hce hbd
  go_enter Try.func4, Try.ntmps4
  go_wp2_with (first
    | (go_at_call 16; refine (hops_any n b ao cap Z s _ HR.out HM.out).mono ?_; rintro e w1 ⟨a1, c1, rfl, hl1, hb1⟩; rw [HGO.out] at hl1 ⊢; rw [HCE.out]; have HR1 := Lib.hid (HR.out.below' hb1); have HB1 := Lib.hid (HB0.out.trans (hb1.mono HB0.out.size)); have hn1 := box_kept HN.out hb1; have HN1 := Lib.hid hn1; have x1 := cell_whole hn1 0; have y1 := cell_whole hn1 1; have z1 := cell_whole hn1 2; have HL1 := Lib.hid hl1; clear hl1 hb1 hn1)
    | (go_at_call 17; refine (rhops_any n b ao cap Z s _ HR1.out HM.out).mono ?_; rintro e w2 ⟨a2, c2, rfl, hl2, hb2⟩; rw [HGO.out] at hl2 ⊢; rw [HCE.out]; have HB2 := Lib.hid (HB1.out.trans (hb2.mono HB1.out.size)); have HL1 := Lib.hid (HL1.out.below hb2); have HL2 := Lib.hid hl2; clear hl2 hb2 x1 y1 z1)
    | (go_at_call 14; refine (awake_any _).mono ?_; rintro e w5 ⟨rfl, hb5⟩; have HB5 := Lib.hid (HB2.out.trans (hb5.mono HB2.out.size)); have HL1 := Lib.hid (HL1.out.below hb5); have HL2 := Lib.hid (HL2.out.below hb5); clear hb5)
    | (go_at_call 18; refine (sameints_eq GO a1 a2 c1 c2 _ HL1.out HL2.out HBD.out).mono ?_; rintro e w6 ⟨rfl, hb6⟩; have HB6 := Lib.hid (HB5.out.trans (hb6.mono HB5.out.size)); clear hb6))
  go_ret
  exact ⟨by simp, HB6.out⟩
set_option maxRecDepth 100000 in
set_option maxHeartbeats 2000000 in
theorem fastest_law (n : Int) (b : Bool) (ao : Option Addr) (len cap : Nat) (Z : List ArcT) (s : Int) (w : World) (hl : Z.length = len) (hm : len ≤ maxLen) (hr : Row encA 4 w ao Z) :
    Calls Try.prog 6 #[.agg #[.int .i64 n, .bool b, .slice ao len cap], .int .i64 s] w fun e w' => e = .returned (.bool true) ∧ Below w.heap.size w w' := by
  subst hl
  have HM := Lib.hid hm
  have HR := Lib.hid (row_alloc hr (.cells #[.int .i64 n, .bool b, .slice ao Z.length cap] 24))
  have HB0 : Hid (Below w.heap.size w (w.alloc (.cells #[.int .i64 n, .bool b, .slice ao Z.length cap] 24))) := Lib.hid ((Below.refl _ w).alloc (Nat.le_refl _) _)
  have HN := Lib.hid (heap_alloc_new w (.cells #[.int .i64 n, .bool b, .slice ao Z.length cap] 24))
  clear hr hm
  have hbd := fastL_bd n Z s
  obtain ⟨GO, hGO⟩ : ∃ G, fastL n Z s = G := ⟨_, rfl⟩
  rw [hGO] at hbd
  have HGO := Lib.hid hGO
  have HBD := Lib.hid hbd
  obtain ⟨ce, hce⟩ : ∃ ce, hopE n Z s = ce := ⟨_, rfl⟩
  have HCE := Lib.hid hce
  clear hGO hce hbd
  go_enter Try.func6, Try.ntmps6
  go_wp2_with (first
    | (go_at_call 22; refine (fastest_any n b ao cap Z s _ HR.out HM.out).mono ?_; rintro e w1 ⟨a1, c1, rfl, hl1, hb1⟩; rw [HGO.out] at hl1 ⊢; rw [HCE.out]; have HR1 := Lib.hid (HR.out.below' hb1); have HB1 := Lib.hid (HB0.out.trans (hb1.mono HB0.out.size)); have hn1 := box_kept HN.out hb1; have HN1 := Lib.hid hn1; have x1 := cell_whole hn1 0; have y1 := cell_whole hn1 1; have z1 := cell_whole hn1 2; have HL1 := Lib.hid hl1; clear hl1 hb1 hn1)
    | (go_at_call 23; refine (rfastest_any n b ao cap Z s _ HR1.out HM.out).mono ?_; rintro e w2 ⟨a2, c2, rfl, hl2, hb2⟩; rw [HGO.out] at hl2 ⊢; rw [HCE.out]; have HB2 := Lib.hid (HB1.out.trans (hb2.mono HB1.out.size)); have HL1 := Lib.hid (HL1.out.below hb2); have HL2 := Lib.hid hl2; clear hl2 hb2 x1 y1 z1)
    | (go_at_call 14; refine (awake_any _).mono ?_; rintro e w5 ⟨rfl, hb5⟩; have HB5 := Lib.hid (HB2.out.trans (hb5.mono HB2.out.size)); have HL1 := Lib.hid (HL1.out.below hb5); have HL2 := Lib.hid (HL2.out.below hb5); clear hb5)
    | (go_at_call 18; refine (sameints_eq GO a1 a2 c1 c2 _ HL1.out HL2.out HBD.out).mono ?_; rintro e w6 ⟨rfl, hb6⟩; have HB6 := Lib.hid (HB5.out.trans (hb6.mono HB5.out.size)); clear hb6))
  go_ret
  exact ⟨by simp, HB6.out⟩
end Go.Proofs.Ytfnafdjcncgcnaa
