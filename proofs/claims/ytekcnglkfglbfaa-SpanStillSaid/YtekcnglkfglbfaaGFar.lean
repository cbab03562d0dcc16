/- Package cost's Far: the times and marks lie in blocks of the call's own. -/
import Derived.Test.YtekcnglkfglbfaaOPrg
namespace Go.Proofs.Ytekcnglkfglbfaa
open Go.RowKit
set_option linter.unusedVariables false

section
variable (b : Bool) (ao fo : Option Addr) (cap fc : Nat) (Z : List ArcT) (F : List Int)
set_option maxRecDepth 100000 in
set_option maxHeartbeats 4000000 in
theorem ofar_new (N i : Nat) (w : World) (h : Row encA 4 w ao Z) (hf : Lst encI w fo F) (hfe : flowE (N : Int) Z F = 0) (hi : i < N) (hcm : calmN Z F N i = true) :
    Calls Try.prog 52 #[.agg #[.int .i64 (N : Int), .bool b, .slice ao Z.length cap], .slice fo F.length fc, .int .i64 (i : Int)] w fun e w' => ∃ gd gi, e = .returned (.tuple #[.slice (some ⟨gd, 0, none⟩) N N, .slice (some ⟨gi, 0, none⟩) N N, .int .i64 0]) ∧ (w.heap.size ≤ gd ∧ w.heap.size ≤ gi) ∧ Lst encI w' (some ⟨gd, 0, none⟩) (valsO (dN Z F N i N)) ∧ Lst encB w' (some ⟨gi, 0, none⟩) (isO (dN Z F N i N)) ∧ Below w.heap.size w w' := by
  obtain ⟨hR, hFl, hz2, hfz, hn1, hn2⟩ := flow_facts (b := b) hfe
  have hz : Z.length ≤ maxLen := by unfold maxLen; omega
  have hfl : F.length ≤ maxLen := by unfold maxLen; omega
  have hb00 := (Below.refl _ w).alloc (Nat.le_refl _) (.cells #[.int .i64 (N : Int), .bool b, .slice ao Z.length cap] 24)
  have HB0 := Lib.hid hb00
  have HN0 := Lib.hid (heap_alloc_new w (.cells #[.int .i64 (N : Int), .bool b, .slice ao Z.length cap] 24))
  have c0 := cell_whole HN0.out 0
  have c1 := cell_whole HN0.out 1
  have c2 := cell_whole HN0.out 2
  have HR := Lib.hid (h.below' hb00)
  have HF := Lib.hid (hf.below hb00)
  have HZ := Lib.hid hz
  have HFL := Lib.hid hfl
  clear h hf hz hfl hb00
  have he : levE (N : Int) Z F (i : Int) = 0 := by
    unfold levE
    rw [if_pos hfe, if_pos]
    unfold nodeB
    rw [decide_eq_true_eq]
    omega
  have HE := Lib.hid he
  · skip
    have HTN := Lib.hid (time_of hR)
    have HSH := Lib.hid (rows_short (F := F) hR)
    rw [Int.toNat_natCast] at HTN
    have HFZ := Lib.hid hfz
    obtain ⟨hD, hDb, hDl, _⟩ := lev_dist hfe hi
    have HROK := Lib.hid (rows_ok (F := F) HTN.out)
    have hrf := rows_few (Z := Z) (F := F)
    obtain ⟨g, hg⟩ : ∃ g, calmN Z F N i = g := ⟨_, rfl⟩
    have hgt : g = true := by rw [← hg]; exact hcm
    clear hcm
    have hfe2 : farE (N : Int) Z F (i : Int) = if g = true then 0 else 110 := by rw [far_lev, if_pos he, Int.toNat_natCast, Int.toNat_natCast, hg]
    have HFE := Lib.hid hfe2
    have HSF : Hid (∀ q Q, SetIs (leadR (rowsR Z F) (isLev (levL (N : Int) Z F (i : Int)))) (hopsT (levL (N : Int) Z F (i : Int))) q Q → q = g ∧ (q = true → valsO (dN Z F N i N) = Q ∧ isO (dN Z F N i N) = isLev (levL (N : Int) Z F (i : Int)))) :=
      Lib.hid (fun q Q hs => by have := set_far HTN.out.lt HSH.out hi hD hs; rwa [hg] at this)
    have HG := Lib.hid hg
    obtain ⟨D, hDD⟩ : ∃ D, levL (N : Int) Z F (i : Int) = D := ⟨_, rfl⟩
    rw [hDD] at hDb hDl HSF
    have HDD := Lib.hid hDD
    have HDB := Lib.hid hDb
    have HDL := Lib.hid hDl
    have hD50 : D.length ≤ 50 := by omega
    have HLO : Hid (∀ a ∈ leadR (rowsR Z F) (isLev D), LinkOk N a) := Lib.hid (fun a ha => HROK.out a (leadR_mem.1 ha).1)
    have HLL := Lib.hid (leadR_len (rowsR Z F) (isLev D))
    have HRE : Hid (∀ a ∈ rowsR Z F, a.1 = (frN a : Int) ∧ frN a < (isLev D).length) := Lib.hid (fun a ha => ⟨(HROK.out a ha).1.1, by rw [isLev_len, HDL.out]; exact (HROK.out a ha).2.1.1⟩)
    have HIN : Hid ((isLev D).length = N) := Lib.hid (by rw [isLev_len]; exact HDL.out)
    have HPL : Hid ((hopsT D).length = N) := Lib.hid (by rw [hopsT_len]; exact HDL.out)
    have HBI := Lib.hid (BdI.hops HDB.out)
    obtain ⟨R, hRR⟩ : ∃ R, rowsR Z F = R := ⟨_, rfl⟩
    rw [hRR] at HSF HLO HLL HRE hrf HROK
    have HRR := Lib.hid hRR
    obtain ⟨R2, hR2⟩ : ∃ R2, leadR R (isLev D) = R2 := ⟨_, rfl⟩
    rw [hR2] at HSF HLO HLL
    have HRL := Lib.hid hR2
    have hR2l : R2.length ≤ 2000 := by have := HLL.out; omega
    have hRl : R.length ≤ 2000 := by omega
    clear hRR hR2 HSH
    clear he hfe hR hFl hfz hD hg hfe2 hDD hDb hDl
    have HFO : Hid (g = true → farO (N : Int) Z F (i : Int) = dN Z F N i N) := Lib.hid (fun e => by unfold farO; rw [if_pos (by rw [HFE.out, if_pos e]), Int.toNat_natCast, Int.toNat_natCast])
    have HLN : Hid ((dN Z F N i N).length = N) := Lib.hid (bellK_len _)
    subst hgt
    · skip
      go_enter Try.func52, Try.ntmps52
      go_wp2_with (first
        | (go_at_call 59; refine (levels_any (N : Int) b ao fo cap fc Z F (i : Int) _ HR.out HF.out HZ.out HFL.out).mono ?_; rintro e w1 ⟨da, dc, rfl, hd, hb1⟩; rw [HDD.out] at hd ⊢; rw [HE.out]; have HB1 := Lib.hid (HB0.out.trans (hb1.mono HB0.out.size)); have hn1 := kept_box HN0.out hb1; have HN1 := Lib.hid hn1; have HR1 := Lib.hid (HR.out.below' hb1); have HF1 := Lib.hid (HF.out.below hb1); have HD1 := Lib.hid hd; clear hb1 hn1 hd c0 c1 c2)
        | (go_at_call 64; refine (obounds_any D da dc _ HD1.out hD50 HDB.out).mono ?_; rintro e w2 ⟨gd, gi, rfl, ht⟩; rw [HDL.out] at ht ⊢; have hb2 := ht.below; have HT2 := Lib.hid ht; have hn2 := kept_box HN1.out hb2; have HN2 := Lib.hid hn2; have HR2 := Lib.hid (HR1.out.below' hb2); have HF2 := Lib.hid (HF1.out.below hb2); have HB2 := Lib.hid (HB1.out.trans (hb2.mono HB1.out.size)); have c0 := cell_whole hn2 0; have c1 := cell_whole hn2 1; have c2 := cell_whole hn2 2; clear hb2 hn2 ht)
        | (go_at_call 67; refine (olinks_any (N : Int) b ao fo cap fc Z F _ HR2.out HF2.out HFZ.out HTN.out).mono ?_; rintro e w3 ⟨la, lc, rfl, hk, hb3⟩; rw [HRR.out] at hk ⊢; have HT3 := Lib.hid (HT2.out.next hb3); have HK3 := Lib.hid hk; have HB3 := Lib.hid (HB2.out.trans (hb3.mono HB2.out.size)); clear hb3 hk c0 c1 c2)
        | (go_at_call 66; refine (oleading_is R.length N R (isLev D) la (some ⟨gi, 0, none⟩) lc N _ rfl HIN.out HK3.out.facts.1 HT3.out.ii.lstK HRE.out hRl).mono ?_; rintro e w4 ⟨ra, rc, rfl, hk, hb4⟩; rw [HRL.out] at hk ⊢; have HT4 := Lib.hid (HT3.out.next hb4); have HK4 := Lib.hid hk; have HB4 := Lib.hid (HB3.out.trans (hb4.mono HB3.out.size)); clear hb4 hk)
        | (go_at_call 65; refine (osettle_at w1.heap.size gd N (hopsT D) ra rc R2 50 _ (HT4.out.tw HPL.out HK4.out HT3.out.lt.1.2) HLO.out (by omega) hR2l HK4.out.facts.2.1 HBI.out (by omega)).mono ?_; rintro e w5 ⟨q, Q, rfl, hs, htw⟩; obtain ⟨rfl, hv⟩ := HSF.out q Q hs; have HV := Lib.hid hv; have HD5 := Lib.hid htw.own.lstK; have HI5 := Lib.hid (ownL_kept HT4.out.ii htw.kept (fun g e => by simp [Value.ownBlock] at e; subst e; exact fun e => HT4.out.ne e.symm)).lstK; have HB5 := Lib.hid (HB4.out.trans ((htw.below HT4.out.below.size HT4.out.lt.1.1).mono HB1.out.size)); clear htw hs hv))
      go_ret3
      refine ⟨gd, gi, rfl, ?_, ?_, ?_, HB5.out⟩
      · have h1 := HT4.out.lt
        have h2 := HB1.out.size
        have h3 := HB0.out.size
        exact ⟨by omega, by omega⟩
      · rw [(HV.out trivial).1]; exact HD5.out
      · rw [(HV.out trivial).2]; exact HI5.out
end
end Go.Proofs.Ytekcnglkfglbfaa
