/- Package cost's Far, Tight and Free answer what the document's do. -/
import Derived.Test.YtekcnglkfglbfaaBK
import Derived.Test.YtekcnglkfglbfaaBH
import Derived.Test.YtekcnglkfglbfaaSRoom
namespace Go.Proofs.Ytekcnglkfglbfaa
open Go.RowKit
set_option linter.unusedVariables false

theorem rows_ok {Z : List ArcT} {F : List Int} {N : Nat} (hT : TimeNet Z N) : ∀ a ∈ rowsR Z F, LinkOk N a := by
  intro a ha
  have hR := rowsR_to (F := F) hT.lt a ha
  obtain ⟨x, ⟨h1, _⟩, rfl⟩ := rowsR_mem.1 ha
  have hm := hT.times _ (List.mem_of_getElem? (arcOf_at h1))
  refine ⟨⟨?_, ?_⟩, hR, ?_⟩
  · rw [rowS_fr]; rfl
  · rw [rowS_to]; rfl
  · rw [rowS_tm]
    unfold tmS
    split <;> omega
theorem rows_short {n : Int} {b : Bool} {Z : List ArcT} {F : List Int} (hR : Right (n, b, Z)) : ∀ a ∈ rowsR Z F, tm a ≤ 1048576 := by
  intro a ha
  obtain ⟨x, ⟨h1, _⟩, rfl⟩ := rowsR_mem.1 ha
  obtain ⟨_, _, _, _, h5, h6⟩ := right_arc hR (List.mem_of_getElem? (arcOf_at h1))
  rw [rowS_tm]
  unfold tmS
  split <;> omega
theorem rows_few {Z : List ArcT} {F : List Int} : (rowsR Z F).length ≤ 2 * Z.length := by rw [rowsR_len]; exact stepsK_len Z F Z.length
theorem far_lev {n : Int} {Z : List ArcT} {F : List Int} {s : Int} : farE n Z F s = if levE n Z F s = 0 then (if calmN Z F n.toNat s.toNat = true then 0 else 110) else levE n Z F s := by
  unfold farE levE
  by_cases h1 : flowE n Z F = 0
  · rw [if_pos h1, if_pos h1]
    by_cases h2 : nodeB n s = true
    · rw [if_pos h2, if_pos h2, if_pos rfl]
    · rw [if_neg h2, if_neg h2, if_neg (by decide)]
  · rw [if_neg h1, if_neg h1, if_neg h1]
/-- The levels as times: none is greater than that. -/
theorem lev_dist {Z : List ArcT} {F : List Int} {N s : Nat} (h : flowE (N : Int) Z F = 0) (hs : s < N) :
    IsDist ((stepsK Z F Z.length).map (arcR (fromS Z) (toS Z))) one s N (levL (N : Int) Z F (s : Int)) ∧ (∀ d ∈ levL (N : Int) Z F (s : Int), -1 ≤ d ∧ d ≤ 50) ∧ (levL (N : Int) Z F (s : Int)).length = N ∧ N ≤ 50 := by
  obtain ⟨hR, hF, hz, hfl, hn1, hn2⟩ := flow_facts (b := true) h
  have hl : levE (N : Int) Z F (s : Int) = 0 := by
    unfold levE
    rw [if_pos h, if_pos]
    unfold nodeB
    rw [decide_eq_true_eq]
    omega
  have hT := flow_to h
  rw [Int.toNat_natCast] at hT
  have hsk := seek_full (fr := fromS Z) (l := stepsK Z F Z.length) hs hT
  have hsl := seek_len hsk hs hT
  have e : levL (N : Int) Z F (s : Int) = farsL (seekK (fromS Z) (toS Z) (stepsK Z F Z.length) s N) N := by
    unfold levL
    rw [if_pos hl]
    unfold seekF
    rw [Int.toNat_natCast, Int.toNat_natCast]
  rw [e]
  refine ⟨seek_isDist hsk, ?_, farsL_len _ _, by omega⟩
  intro d hd
  unfold farsL at hd
  obtain ⟨v, hv, rfl⟩ := List.mem_map.1 hd
  rcases farX_bd hsk hsl v with h1 | h1
  · omega
  · have := hsk.hd
    rw [h1] at this
    cases this
theorem BdI.hops {D : List Int} (h : ∀ d ∈ D, -1 ≤ d ∧ d ≤ 50) : BdI (hopsT D) 50 := by
  intro v
  by_cases hv : v < D.length
  · rw [hopsT_at hv]
    have hm := h (atI D v) (List.mem_of_getElem? (atI_get hv))
    split <;> omega
  · have : atI (hopsT D) v = 0 := by
      unfold atI
      rw [List.getD_eq_getElem?_getD, List.getElem?_eq_none (by rw [hopsT_len]; omega)]
      rfl
    rw [this]
    omega
theorem TwoW.tw {w0 w : World} {gd gi N : Nat} {P : List Int} {B : List Bool} (h : TwoW w0 w gd gi N P B) (hl : P.length = N) {la : Option Addr} {n c : Nat} {R : List ArcT} {b2 : Nat} (hK : OwnK w b2 (.slice la n c) R) (hb : gd < b2) : TW w w w0.heap.size gd N P la R :=
  ⟨hl, h.dd, hK.facts.1, fun ad e _ => by have := (hK.facts.2.2 ad e).1; omega, Kept.refl _ _⟩
theorem twA {w3 : World} {B gd N b2 n c : Nat} {la : Option Addr} {R : List ArcT} (hO : OwnL encI w3 B 3 (.slice (some ⟨gd, 0, none⟩) N N) (List.replicate N 0)) (hK : OwnK w3 b2 (.slice la n c) R) (hb : gd < b2) : TW w3 w3 B gd N (List.replicate N 0) la R :=
  ⟨by simp, hO, hK.facts.1, fun ad e _ => by have := (hK.facts.2.2 ad e).1; omega, Kept.refl _ _⟩
theorem twB {w3 : World} {B N b2 n c : Nat} {la : Option Addr} {R : List ArcT} (hK : OwnK w3 b2 (.slice la n c) R) (hB : B ≤ w3.heap.size) (hN : N ≤ 1000) : TW (w3.alloc (.cells (madeCells #[.int .i64 0] N) 3)) (w3.alloc (.cells (madeCells #[.int .i64 0] N) 3)) B w3.heap.size N (List.replicate N 0) la R :=
  ⟨by simp, own_mono (madeI w3 w3.heap.size N (Nat.le_refl _) (by omega)) hB, hK.facts.1.below' ((Below.refl _ w3).alloc (Nat.le_refl _) _), fun ad e _ => by have := (hK.facts.2.2 ad e).2; omega, Kept.refl _ _⟩
theorem TW.below {w0 w2 : World} {B gd N : Nat} {P : List Int} {la : Option Addr} {R : List ArcT} (k : TW w0 w2 B gd N P la R) (hB : B ≤ w0.heap.size) (hg : B ≤ gd) : Below B w0 w2 := k.kept.below hB (fun i e => by have e2 : i = gd := e; omega)
section
variable (n : Int) (b : Bool) (ao fo : Option Addr) (cap fc : Nat) (Z : List ArcT) (F : List Int)
set_option maxRecDepth 100000 in
set_option maxHeartbeats 4000000 in
theorem ofar_any (s : Int) (w : World) (h : Row encA 4 w ao Z) (hf : Lst encI w fo F) (hz : Z.length ≤ maxLen) (hfl : F.length ≤ maxLen) :
    Calls Try.prog 52 #[.agg #[.int .i64 n, .bool b, .slice ao Z.length cap], .slice fo F.length fc, .int .i64 s] w (FarRes n Z F s w) := by
  have hb00 := (Below.refl _ w).alloc (Nat.le_refl _) (.cells #[.int .i64 n, .bool b, .slice ao Z.length cap] 24)
  have HB0 := Lib.hid hb00
  have HN0 := Lib.hid (heap_alloc_new w (.cells #[.int .i64 n, .bool b, .slice ao Z.length cap] 24))
  have c0 := cell_whole HN0.out 0
  have c1 := cell_whole HN0.out 1
  have c2 := cell_whole HN0.out 2
  have HR := Lib.hid (h.below' hb00)
  have HF := Lib.hid (hf.below hb00)
  have HZ := Lib.hid hz
  have HFL := Lib.hid hfl
  clear h hf hz hfl hb00
  obtain ⟨e0, he⟩ : ∃ e0, levE n Z F s = e0 := ⟨_, rfl⟩
  have HE := Lib.hid he
  by_cases h0 : e0 = 0
  · subst h0
    obtain ⟨hfe, _, i, rfl, hi⟩ := levE_ok he
    obtain ⟨hR, hFl, hz2, hfz, hn1, hn2⟩ := flow_facts (b := b) hfe
    have HTN := Lib.hid (time_of hR)
    have HSH := Lib.hid (rows_short (F := F) hR)
    obtain ⟨N, rfl⟩ : ∃ N : Nat, n = (N : Int) := ⟨n.toNat, by omega⟩
    rw [Int.toNat_natCast] at HTN hi
    have HFZ := Lib.hid hfz
    obtain ⟨hD, hDb, hDl, _⟩ := lev_dist hfe hi
    have HROK := Lib.hid (rows_ok (F := F) HTN.out)
    have hrf := rows_few (Z := Z) (F := F)
    obtain ⟨g, hg⟩ : ∃ g, calmN Z F N i = g := ⟨_, rfl⟩
    have hfe2 : farE (N : Int) Z F (i : Int) = if g = true then 0 else 110 := by rw [far_lev, if_pos he, Int.toNat_natCast, Int.toNat_natCast, hg]
    have HFE := Lib.hid hfe2
    have HSF : Hid (∀ q Q, SetIs (leadR (rowsR Z F) (isLev (levL (N : Int) Z F (i : Int)))) (hopsT (levL (N : Int) Z F (i : Int))) q Q → q = g ∧ (q = true → valsO (dN Z F N i N) = Q ∧ isO (dN Z F N i N) = isLev (levL (N : Int) Z F (i : Int)))) :=
      Lib.hid (fun q Q hs => by have := set_far HTN.out.lt HSH.out hi hD hs; rwa [hg] at this)
    have HG := Lib.hid hg
    obtain ⟨D, hDD⟩ : ∃ D, levL (N : Int) Z F (i : Int) = D := ⟨_, rfl⟩
    rw [hDD] at hDb hDl HSF
    have HDD := Lib.hid hDD
    have HDB := Lib.hid hDb
    have HDL := Lib.hid hDl
    have hD50 : D.length ≤ 50 := by omega
    have HLO : Hid (∀ a ∈ leadR (rowsR Z F) (isLev D), LinkOk N a) := Lib.hid (fun a ha => HROK.out a (leadR_mem.1 ha).1)
    have HLL := Lib.hid (leadR_len (rowsR Z F) (isLev D))
    have HRE : Hid (∀ a ∈ rowsR Z F, a.1 = (frN a : Int) ∧ frN a < (isLev D).length) := Lib.hid (fun a ha => ⟨(HROK.out a ha).1.1, by rw [isLev_len, HDL.out]; exact (HROK.out a ha).2.1.1⟩)
    have HIN : Hid ((isLev D).length = N) := Lib.hid (by rw [isLev_len]; exact HDL.out)
    have HPL : Hid ((hopsT D).length = N) := Lib.hid (by rw [hopsT_len]; exact HDL.out)
    have HBI := Lib.hid (BdI.hops HDB.out)
    obtain ⟨R, hRR⟩ : ∃ R, rowsR Z F = R := ⟨_, rfl⟩
    rw [hRR] at HSF HLO HLL HRE hrf HROK
    have HRR := Lib.hid hRR
    obtain ⟨R2, hR2⟩ : ∃ R2, leadR R (isLev D) = R2 := ⟨_, rfl⟩
    rw [hR2] at HSF HLO HLL
    have HRL := Lib.hid hR2
    have hR2l : R2.length ≤ 2000 := by have := HLL.out; omega
    have hRl : R.length ≤ 2000 := by omega
    clear hRR hR2 HSH
    clear he hfe hR hFl hfz hD hg hfe2 hDD hDb hDl
    have HFO : Hid (g = true → farO (N : Int) Z F (i : Int) = dN Z F N i N) := Lib.hid (fun e => by unfold farO; rw [if_pos (by rw [HFE.out, if_pos e]), Int.toNat_natCast, Int.toNat_natCast])
    have HLN : Hid ((dN Z F N i N).length = N) := Lib.hid (bellK_len _)
    cases g
    all_goals
      go_enter Try.func52, Try.ntmps52
      go_wp2_with (first
        | (go_at_call 59; refine (levels_any (N : Int) b ao fo cap fc Z F (i : Int) _ HR.out HF.out HZ.out HFL.out).mono ?_; rintro e w1 ⟨da, dc, rfl, hd, hb1⟩; rw [HDD.out] at hd ⊢; rw [HE.out]; have HB1 := Lib.hid (HB0.out.trans (hb1.mono HB0.out.size)); have hn1 := kept_box HN0.out hb1; have HN1 := Lib.hid hn1; have HR1 := Lib.hid (HR.out.below' hb1); have HF1 := Lib.hid (HF.out.below hb1); have HD1 := Lib.hid hd; clear hb1 hn1 hd c0 c1 c2)
        | (go_at_call 64; refine (obounds_any D da dc _ HD1.out hD50 HDB.out).mono ?_; rintro e w2 ⟨gd, gi, rfl, ht⟩; rw [HDL.out] at ht ⊢; have hb2 := ht.below; have HT2 := Lib.hid ht; have hn2 := kept_box HN1.out hb2; have HN2 := Lib.hid hn2; have HR2 := Lib.hid (HR1.out.below' hb2); have HF2 := Lib.hid (HF1.out.below hb2); have HB2 := Lib.hid (HB1.out.trans (hb2.mono HB1.out.size)); have c0 := cell_whole hn2 0; have c1 := cell_whole hn2 1; have c2 := cell_whole hn2 2; clear hb2 hn2 ht)
        | (go_at_call 67; refine (olinks_any (N : Int) b ao fo cap fc Z F _ HR2.out HF2.out HFZ.out HTN.out).mono ?_; rintro e w3 ⟨la, lc, rfl, hk, hb3⟩; rw [HRR.out] at hk ⊢; have HT3 := Lib.hid (HT2.out.next hb3); have HK3 := Lib.hid hk; have HB3 := Lib.hid (HB2.out.trans (hb3.mono HB2.out.size)); clear hb3 hk c0 c1 c2)
        | (go_at_call 66; refine (oleading_is R.length N R (isLev D) la (some ⟨gi, 0, none⟩) lc N _ rfl HIN.out HK3.out.facts.1 HT3.out.ii.lstK HRE.out hRl).mono ?_; rintro e w4 ⟨ra, rc, rfl, hk, hb4⟩; rw [HRL.out] at hk ⊢; have HT4 := Lib.hid (HT3.out.next hb4); have HK4 := Lib.hid hk; have HB4 := Lib.hid (HB3.out.trans (hb4.mono HB3.out.size)); clear hb4 hk)
        | (go_at_call 65; refine (osettle_at w1.heap.size gd N (hopsT D) ra rc R2 50 _ (HT4.out.tw HPL.out HK4.out HT3.out.lt.1.2) HLO.out (by omega) hR2l HK4.out.facts.2.1 HBI.out (by omega)).mono ?_; rintro e w5 ⟨q, Q, rfl, hs, htw⟩; obtain ⟨rfl, hv⟩ := HSF.out q Q hs; have HV := Lib.hid hv; have HD5 := Lib.hid htw.own.lstK; have HI5 := Lib.hid (ownL_kept HT4.out.ii htw.kept (fun g e => by simp [Value.ownBlock] at e; subst e; exact fun e => HT4.out.ne e.symm)).lstK; have HB5 := Lib.hid (HB4.out.trans ((htw.below HT4.out.below.size HT4.out.lt.1.1).mono HB1.out.size)); clear htw hs hv))
    · go_ret3
      exact far_no HFE.out (by decide) HB5.out
    · go_ret3
      refine ⟨some ⟨gd, 0, none⟩, N, some ⟨gi, 0, none⟩, N, by rw [HFO.out trivial, HLN.out, HFE.out]; rfl, ?_, ?_, HB5.out⟩
      · rw [HFO.out trivial, (HV.out trivial).1]; exact HD5.out
      · rw [HFO.out trivial, (HV.out trivial).2]; exact HI5.out
  · have hf1 : (e0 != 0) = true := by simpa using h0
    have hf2 : (e0 == 0) = false := by simpa using h0
    have HL : Hid (farE n Z F s = e0) := Lib.hid (by rw [far_lev, if_neg (by rw [he]; exact h0), he])
    have HNO := Lib.hid (levL_no (n := n) (Z := Z) (F := F) (s := s) (by rw [he]; exact h0))
    have H0 := Lib.hid h0
    clear he h0
    go_enter Try.func52, Try.ntmps52
    go_wp2_with (first
      | (go_at_call 59; refine (levels_any n b ao fo cap fc Z F s _ HR.out HF.out HZ.out HFL.out).mono ?_; rintro e w1 ⟨da, dc, rfl, hd, hb1⟩; rw [HE.out]; have HB1 := Lib.hid (HB0.out.trans (hb1.mono HB0.out.size)); clear hb1 hd))
    go_ret3
    exact far_no HL.out H0.out HB1.out
end
end Go.Proofs.Ytekcnglkfglbfaa
