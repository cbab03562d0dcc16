/- LevelFars and LevelPaths: the program tells what the document tells. -/
import Derived.Test.YtbolpjahmmjllaaVAwk
namespace Go.Proofs.Ytbolpjahmmjllaa
open Go.RowKit
set_option linter.unusedVariables false

theorem levL_bd (n : Int) (Z : List ArcT) (F : List Int) (s : Int) : (levL n Z F s).length ≤ 200000 := by
  unfold levL
  by_cases h : levE n Z F s = 0
  · rw [if_pos h, farsL_len]
    obtain ⟨_, _, _, _, hn1, hn2⟩ := flow_facts (b := false) (levE_ok h).1
    omega
  · rw [if_neg h]; simp
theorem way_len {Z : List ArcT} {F : List Int} {N s t : Nat} {p : List StepT} (hs : s < N) (hT : ∀ y ∈ stepsK Z F Z.length, toS Z y < N) (h : wayK (fromS Z) (toS Z) (stepsK Z F Z.length) N s t = some p) : p.length < N := by
  obtain ⟨c, r, r1, r2, rfl⟩ := wayK_some h
  have hsk := seek_full (fr := fromS Z) (l := stepsK Z F Z.length) hs hT
  have hl := seek_len hsk hs hT
  have hc := (List.getElem?_eq_some_iff.1 r1).1
  have := path_le hsk c c (Nat.le_refl _) hc
  omega
theorem wayF_ok {n : Int} {Z : List ArcT} {F : List Int} {s t : Int} (h : pathE n Z F s t = 0) : ∃ (N i j : Nat), n = (N : Int) ∧ s = (i : Int) ∧ t = (j : Int) ∧ i < N ∧ j < N ∧ i ≠ j ∧ N ≤ 50 ∧ flowE n Z F = 0 ∧ wayF n Z F s t = wayK (fromS Z) (toS Z) (stepsK Z F Z.length) N i j := by
  obtain ⟨h1, h2⟩ := pathE_ok h
  obtain ⟨_, i, j, hs, ht, hi, hj, hij⟩ := endsE_ok h2
  obtain ⟨_, _, _, _, hn1, hn2⟩ := flow_facts (b := false) h1
  refine ⟨n.toNat, i, j, by omega, hs, ht, hi, hj, hij, by omega, h1, ?_⟩
  unfold wayF
  rw [if_pos h, hs, ht, Int.toNat_natCast, Int.toNat_natCast]
theorem wayL_bd (n : Int) (Z : List ArcT) (F : List Int) (s t : Int) : (wayL n Z F s t).length ≤ 50 := by
  unfold wayL
  by_cases h : pathE n Z F s t = 0
  · obtain ⟨N, i, j, hn, hs, ht, hi, hj, hij, hN, hf, hw⟩ := wayF_ok h
    rw [hw]
    cases hk : wayK (fromS Z) (toS Z) (stepsK Z F Z.length) N i j with
    | none => simp
    | some p =>
      have hT := flow_to hf
      rw [hn, Int.toNat_natCast] at hT
      have := way_len hi hT hk
      simp only [Option.getD_some]
      omega
  · rw [wayF_no h]; simp
section
variable (n : Int) (b : Bool) (ao fo : Option Addr) (len cap fl fc : Nat) (Z : List ArcT) (F : List Int)
set_option maxRecDepth 100000 in
set_option maxHeartbeats 4000000 in
theorem fars_law (s : Int) (w : World) (hl : Z.length = len) (hm : len ≤ maxLen) (hr : Row encA 4 w ao Z) (hl2 : F.length = fl) (hm2 : fl ≤ maxLen) (hf : Lst encI w fo F) :
    Calls Try.prog 3 #[.agg #[.int .i64 n, .bool b, .slice ao len cap], .slice fo fl fc, .int .i64 s] w fun e w' => e = .returned (.bool true) ∧ Below w.heap.size w w' := by
  subst hl
  subst hl2
  have hb00 := (Below.refl _ w).alloc (Nat.le_refl _) (.cells #[.int .i64 n, .bool b, .slice ao Z.length cap] 24)
  have HB := Lib.hid hb00
  have hn0 := heap_alloc_new w (.cells #[.int .i64 n, .bool b, .slice ao Z.length cap] 24)
  have HN := Lib.hid hn0
  have HR := Lib.hid (hr.below' hb00)
  have HF := Lib.hid (hf.below hb00)
  have HM := Lib.hid hm
  have HM2 := Lib.hid hm2
  obtain ⟨e0, he⟩ : ∃ e0, levE n Z F s = e0 := ⟨_, rfl⟩
  have HE := Lib.hid he
  have HBD := Lib.hid (levL_bd n Z F s)
  have q1 : (e0 == e0) = true := by simp
  clear hr hf hm hm2 hb00 he hn0
  go_enter Try.func3, Try.ntmps3
  go_wp2_with (first
    | (go_at_call 8; refine (levels_any n b ao fo cap fc Z F s _ HR.out HF.out HM.out HM2.out).mono ?_; rintro e w1 ⟨a1, c1, rfl, hl1, hb1⟩; rw [HE.out]; have hn1 := kept_box HN.out hb1; have HN := Lib.hid hn1; have HR := Lib.hid (HR.out.below' hb1); have HF := Lib.hid (HF.out.below hb1); have HB := Lib.hid (HB.out.trans (hb1.mono HB.out.size)); have HL1 := Lib.hid hl1; have x1 := cell_whole hn1 0; have y1 := cell_whole hn1 1; have z1 := cell_whole hn1 2; clear hn1 hl1 hb1)
    | (go_at_call 9; refine (rlevels_any n b ao fo cap fc Z F s _ HR.out HF.out HM.out HM2.out).mono ?_; rintro e w2 ⟨a2, c2, rfl, hl2, hb2⟩; rw [HE.out]; have HB := Lib.hid (HB.out.trans (hb2.mono HB.out.size)); have HL1 := Lib.hid (HL1.out.below hb2); have HL2 := Lib.hid hl2; clear hl2 hb2 x1 y1 z1)
    | (go_at_call 10; refine (vawake_any _).mono ?_; rintro e w3 ⟨rfl, hb3⟩; have HB := Lib.hid (HB.out.trans (hb3.mono HB.out.size)); have HL1 := Lib.hid (HL1.out.below hb3); have HL2 := Lib.hid (HL2.out.below hb3); clear hb3)
    | (go_at_call 11; refine (sameints_eq (levL n Z F s) a1 a2 c1 c2 _ HL1.out HL2.out HBD.out).mono ?_; rintro e w4 ⟨rfl, hb4⟩; have HB := Lib.hid (HB.out.trans (hb4.mono HB.out.size)); clear hb4))
  go_ret
  exact ⟨by simp, HB.out⟩
set_option maxRecDepth 100000 in
set_option maxHeartbeats 4000000 in
theorem paths_law (s t : Int) (w : World) (hl : Z.length = len) (hm : len ≤ maxLen) (hr : Row encA 4 w ao Z) (hl2 : F.length = fl) (hm2 : fl ≤ maxLen) (hf : Lst encI w fo F) :
    Calls Try.prog 4 #[.agg #[.int .i64 n, .bool b, .slice ao len cap], .slice fo fl fc, .int .i64 s, .int .i64 t] w fun e w' => e = .returned (.bool true) ∧ Below w.heap.size w w' := by
  subst hl
  subst hl2
  have hb00 := (Below.refl _ w).alloc (Nat.le_refl _) (.cells #[.int .i64 n, .bool b, .slice ao Z.length cap] 24)
  have HB := Lib.hid hb00
  have hn0 := heap_alloc_new w (.cells #[.int .i64 n, .bool b, .slice ao Z.length cap] 24)
  have HN := Lib.hid hn0
  have HR := Lib.hid (hr.below' hb00)
  have HF := Lib.hid (hf.below hb00)
  have HM := Lib.hid hm
  have HM2 := Lib.hid hm2
  obtain ⟨e0, he⟩ : ∃ e0, pathE n Z F s t = e0 := ⟨_, rfl⟩
  have HE := Lib.hid he
  obtain ⟨qb, hqb⟩ : ∃ qb, wayB n Z F s t = qb := ⟨_, rfl⟩
  have HQB := Lib.hid hqb
  have HBD := Lib.hid (wayL_bd n Z F s t)
  have q1 : (e0 == e0) = true := by simp
  have q2 : (qb == qb) = true := by simp
  clear hr hf hm hm2 hb00 he hqb hn0
  go_enter Try.func4, Try.ntmps4
  go_wp2_with (first
    | (go_at_call 12; refine (vpath_any n b ao fo cap fc Z F s t _ HR.out HF.out HM.out HM2.out).mono ?_; rintro e w1 ⟨a1, c1, rfl, hl1, hb1⟩; rw [HE.out, HQB.out]; have hn1 := kept_box HN.out hb1; have HN := Lib.hid hn1; have HR := Lib.hid (HR.out.below' hb1); have HF := Lib.hid (HF.out.below hb1); have HB := Lib.hid (HB.out.trans (hb1.mono HB.out.size)); have HL1 := Lib.hid hl1; have x1 := cell_whole hn1 0; have y1 := cell_whole hn1 1; have z1 := cell_whole hn1 2; clear hn1 hl1 hb1)
    | (go_at_call 13; refine (rvpath_any n b ao fo cap fc Z F s t _ HR.out HF.out HM.out HM2.out).mono ?_; rintro e w2 ⟨a2, c2, rfl, hl2, hb2⟩; rw [HE.out, HQB.out]; have HB := Lib.hid (HB.out.trans (hb2.mono HB.out.size)); have HL1 := Lib.hid (HL1.out.below' hb2); have HL2 := Lib.hid hl2; clear hl2 hb2 x1 y1 z1)
    | (go_at_call 10; refine (vawake_any _).mono ?_; rintro e w3 ⟨rfl, hb3⟩; have HB := Lib.hid (HB.out.trans (hb3.mono HB.out.size)); have HL1 := Lib.hid (HL1.out.below' hb3); have HL2 := Lib.hid (HL2.out.below' hb3); clear hb3)
    | (go_at_call 14; refine (rsames_eq (wayL n Z F s t) a1 a2 c1 c2 _ HL1.out HL2.out (by have := HBD.out; omega)).mono ?_; rintro e w4 ⟨rfl, hb4⟩; have HB := Lib.hid (HB.out.trans (hb4.mono HB.out.size)); clear hb4))
  go_ret
  exact ⟨by simp, HB.out⟩
end
end Go.Proofs.Ytbolpjahmmjllaa
