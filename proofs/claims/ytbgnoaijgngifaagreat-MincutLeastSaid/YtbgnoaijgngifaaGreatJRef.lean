/- Package mincut's Side, Capacity and Least answer what the document's do. -/
import Derived.Test.YtbgnoaijgngifaaGreatJProg
import Derived.Test.YtbgnoaijgngifaaGreatJLst
import Derived.Test.YtbgnoaijgngifaaGreatXMax
import Derived.Test.YtbgnoaijgngifaaGreatVRef
namespace Go.Proofs.YtbgnoaijgngifaaGreat
open Go.RowKit
set_option linter.unusedVariables false

theorem farX_low (x : List Ent) (v : Nat) : -1 ≤ farX x v := by
  unfold farX
  split <;> omega
theorem levL_low {n : Int} {Z : List ArcT} {F : List Int} {s : Int} : ∀ d ∈ levL n Z F s, -1 ≤ d := by
  unfold levL
  split
  · intro d hd
    unfold farsL at hd
    obtain ⟨v, _, rfl⟩ := List.mem_map.1 hd
    exact farX_low _ _
  · intro d hd
    cases hd
theorem levL_pos {n : Int} {Z : List ArcT} {F : List Int} {s : Int} (h : levE n Z F s = 0) : 0 < (levL n Z F s).length ∧ (levL n Z F s).length ≤ 50 := by
  obtain ⟨hf, _, i, _, hi⟩ := levE_ok h
  have := levL_few h
  omega
theorem max_yes {Z : List ArcT} {N i j : Nat} (hE : endsE (N : Int) Z (i : Int) (j : Int) = 0) {w w' : World} {e : Ending} (h : MaxRes (N : Int) Z (i : Int) (j : Int) w e w') :
    ∃ fo fc F k, e = .returned (.tuple #[.slice fo F.length fc, .int .i64 k, .int .i64 0]) ∧ Lst encI w' fo F ∧ FlowST Z N i j F k ∧ j ∉ keysX (seekN Z F N i) ∧ Below w.heap.size w w' := by
  rcases h with ⟨_, fo, fc, F, k, N', i', j', h1, h2, h3, _, he, hf, hv, _, hn, hb⟩ | ⟨hne, _⟩
  · obtain rfl : N' = N := by omega
    obtain rfl : i' = i := by omega
    obtain rfl : j' = j := by omega
    exact ⟨fo, fc, F, k, he, hf, hv, hn, hb⟩
  · exact absurd hE hne
theorem max_not {n : Int} {Z : List ArcT} {s t e0 : Int} (hE : endsE n Z s t = e0) (h0 : e0 ≠ 0) {w w' : World} {e : Ending} (h : MaxRes n Z s t w e w') : e = .returned (.tuple #[.slice none 0 0, .int .i64 0, .int .i64 e0]) ∧ Below w.heap.size w w' := by
  rcases h with ⟨h1, _⟩ | ⟨_, he, hb⟩
  · rw [hE] at h1; exact absurd h1 h0
  · rw [hE] at he; exact ⟨he, hb⟩
section
variable (n : Int) (b : Bool) (ao fo : Option Addr) (cap fc : Nat) (Z : List ArcT) (F : List Int)
set_option maxRecDepth 100000 in
set_option maxHeartbeats 4000000 in
theorem jside_any (s : Int) (w : World) (h : Row encA 4 w ao Z) (hf : Lst encI w fo F) (hz : Z.length ≤ maxLen) (hfl : F.length ≤ maxLen) :
    Calls Tryz.prog 10 #[.agg #[.int .i64 n, .bool b, .slice ao Z.length cap], .slice fo F.length fc, .int .i64 s] w (SideRes n Z F s w) := by
  have hb00 := (Below.refl _ w).alloc (Nat.le_refl _) (.cells #[.int .i64 n, .bool b, .slice ao Z.length cap] 24)
  have HB0 := Lib.hid hb00
  have x0 := cell_new w #[.int .i64 n, .bool b, .slice ao Z.length cap] 24 0
  have x1 := cell_new w #[.int .i64 n, .bool b, .slice ao Z.length cap] 24 1
  have x2 := cell_new w #[.int .i64 n, .bool b, .slice ao Z.length cap] 24 2
  have HR := Lib.hid (h.below' hb00)
  have HF := Lib.hid (hf.below hb00)
  have HZ := Lib.hid hz
  have HFL := Lib.hid hfl
  clear h hf hz hfl hb00
  obtain ⟨e0, he⟩ : ∃ e0, levE n Z F s = e0 := ⟨_, rfl⟩
  obtain ⟨D, hD⟩ : ∃ D, levL n Z F s = D := ⟨_, rfl⟩
  have HE := Lib.hid he
  have HD := Lib.hid hD
  have HLO := Lib.hid (levL_low (n := n) (Z := Z) (F := F) (s := s))
  rw [hD] at HLO
  by_cases h0 : e0 = 0
  · subst h0
    have hl := levL_pos he
    rw [hD] at hl
    have HL0 := Lib.hid hl.1
    have HL1 := Lib.hid hl.2
    have HSD : Hid (sideL n Z F s = D.map fun d => decide (0 ≤ d)) := Lib.hid (by unfold sideL; rw [hD])
    clear he hD hl
    go_enter Tryz.func10, Tryz.ntmps10
    go_wp2_with (first
      | (go_at_call 21; refine (levels_any n b ao fo cap fc Z F s _ HR.out HF.out HZ.out HFL.out).mono ?_; rintro e w1 ⟨da, dc, rfl, hd1, hb1⟩; rw [HE.out]; rw [HD.out] at hd1; rw [HD.out]; have HB1 := Lib.hid (HB0.out.trans (hb1.mono HB0.out.size)); have HD1 := Lib.hid hd1; clear hb1 hd1)
      | (go_at_call 22; refine (sideof_at D da dc _ HD1.out HL0.out HL1.out HLO.out).mono ?_; rintro e w2 ⟨sa, sc, rfl, hs2, hb2⟩; have HB2 := Lib.hid (HB1.out.trans (hb2.mono HB1.out.size)); have HS2 := Lib.hid hs2; clear hb2 hs2))
    go_ret2
    exact ⟨sa, sc, by rw [HSD.out, HE.out, List.length_map]; rfl, by rw [HSD.out]; exact HS2.out, HB2.out⟩
  · have H0 := Lib.hid h0
    have hf1 : (e0 != 0) = true := by simpa using h0
    have hD0 : D = [] := by rw [← hD]; unfold levL; rw [if_neg (by rw [he]; exact h0)]
    have HSD : Hid (sideL n Z F s = []) := Lib.hid (by unfold sideL; rw [hD, hD0]; rfl)
    clear he hD h0 HLO
    subst hD0
    go_enter Tryz.func10, Tryz.ntmps10
    go_wp2_with (first
      | (go_at_call 21; refine (levels_any n b ao fo cap fc Z F s _ HR.out HF.out HZ.out HFL.out).mono ?_; rintro e w1 ⟨da, dc, rfl, hd1, hb1⟩; rw [HE.out]; rw [HD.out]; have HB1 := Lib.hid (HB0.out.trans (hb1.mono HB0.out.size)); clear hb1 hd1))
    go_ret2
    exact ⟨none, 0, by rw [HSD.out, HE.out]; rfl, by rw [HSD.out]; exact Lst.nil _ _, HB1.out⟩
end
section
variable (n : Int) (b : Bool) (ao so : Option Addr) (cap sc : Nat) (Z : List ArcT) (S : List Bool)
set_option maxRecDepth 100000 in
set_option maxHeartbeats 4000000 in
theorem jcapacity_any (w : World) (h : Row encA 4 w ao Z) (hs : Lst encB w so S) (hz : Z.length ≤ maxLen) (hsl : S.length ≤ maxLen) :
    Calls Tryz.prog 16 #[.agg #[.int .i64 n, .bool b, .slice ao Z.length cap], .slice so S.length sc] w fun e w' => e = .returned (.tuple #[.int .i64 (capV n Z S), .int .i64 (capE n Z S)]) ∧ Below w.heap.size w w' := by
  have hb00 := (Below.refl _ w).alloc (Nat.le_refl _) (.cells #[.int .i64 n, .bool b, .slice ao Z.length cap] 24)
  have HB0 := Lib.hid hb00
  have x0 := cell_new w #[.int .i64 n, .bool b, .slice ao Z.length cap] 24 0
  have x1 := cell_new w #[.int .i64 n, .bool b, .slice ao Z.length cap] 24 1
  have x2 := cell_new w #[.int .i64 n, .bool b, .slice ao Z.length cap] 24 2
  have HN0 := Lib.hid (heap_alloc_new w (.cells #[.int .i64 n, .bool b, .slice ao Z.length cap] 24))
  have HR := Lib.hid (h.below' hb00)
  have HS := Lib.hid (hs.below hb00)
  have HZ := Lib.hid hz
  clear h hs hz hb00
  obtain ⟨c0, hc⟩ : ∃ c0, checkE n Z = c0 := ⟨_, rfl⟩
  have HC := Lib.hid hc
  by_cases h0 : c0 = 0
  · subst h0
    by_cases hl : (S.length : Int) = n
    · have HE : Hid (capE n Z S = 0) := Lib.hid (by unfold capE; rw [if_pos hc, if_pos hl])
      have HV : Hid (capV n Z S = capS Z (sideB S)) := Lib.hid (by unfold capV; rw [if_pos HE.out])
      have hw := wide_of hc
      subst hl
      rw [Int.toNat_natCast] at hw
      have HWN := Lib.hid hw
      clear hc hw
      go_enter Tryz.func16, Tryz.ntmps16
      go_wp2_with (first
        | (go_at_call 31; refine (ncheck_is (S.length : Int) b ao cap Z 0 _ HR.out HZ.out HC.out).mono ?_; rintro e w1 ⟨rfl, hb1⟩; have HB1 := Lib.hid (HB0.out.trans (hb1.mono HB0.out.size)); have HR1 := Lib.hid (HR.out.below' hb1); have HS1 := Lib.hid (HS.out.below hb1); have hn1 := kept_box HN0.out hb1; have x0 := cell_whole hn1 0; have x1 := cell_whole hn1 1; have x2 := cell_whole hn1 2; clear hb1 hn1)
        | (go_at_call 11; refine (capof_at (S.length : Int) b ao so cap sc Z S _ HR1.out HS1.out HWN.out).mono ?_; rintro e w2 ⟨rfl, hb2⟩; have HB2 := Lib.hid (HB1.out.trans (hb2.mono HB1.out.size)); clear hb2))
      go_ret2
      exact ⟨by rw [HV.out, HE.out]; rfl, HB2.out⟩
    · have HE : Hid (capE n Z S = 1) := Lib.hid (by unfold capE; rw [if_pos hc, if_neg hl])
      have HV : Hid (capV n Z S = 0) := Lib.hid (by unfold capV; rw [if_neg (by rw [HE.out]; decide)])
      have hf1 : ((S.length : Int) != n) = true := by simpa using hl
      have hf2 : ((S.length : Int) == n) = false := by simpa using hl
      clear hc hl
      go_enter Tryz.func16, Tryz.ntmps16
      go_wp2_with (first
        | (go_at_call 31; refine (ncheck_is n b ao cap Z 0 _ HR.out HZ.out HC.out).mono ?_; rintro e w1 ⟨rfl, hb1⟩; have HB1 := Lib.hid (HB0.out.trans (hb1.mono HB0.out.size)); have hn1 := kept_box HN0.out hb1; have x0 := cell_whole hn1 0; have x1 := cell_whole hn1 1; have x2 := cell_whole hn1 2; clear hb1 hn1))
      go_ret2
      exact ⟨by rw [HV.out, HE.out]; rfl, HB1.out⟩
  · have HE : Hid (capE n Z S = c0) := Lib.hid (by unfold capE; rw [if_neg (by rw [hc]; exact h0)]; exact hc)
    have HV : Hid (capV n Z S = 0) := Lib.hid (by unfold capV; rw [if_neg (by rw [HE.out]; exact h0)])
    have hf1 : (c0 != 0) = true := by simpa using h0
    have hf2 : (c0 == 0) = false := by simpa using h0
    clear hc h0
    go_enter Tryz.func16, Tryz.ntmps16
    go_wp2_with (first
      | (go_at_call 31; refine (ncheck_is n b ao cap Z c0 _ HR.out HZ.out HC.out).mono ?_; rintro e w1 ⟨rfl, hb1⟩; have HB1 := Lib.hid (HB0.out.trans (hb1.mono HB0.out.size)); clear hb1))
    go_ret2
    exact ⟨by rw [HV.out, HE.out]; rfl, HB1.out⟩
end
section
variable (n : Int) (b : Bool) (ao : Option Addr) (cap : Nat) (Z : List ArcT)
set_option maxRecDepth 100000 in
set_option maxHeartbeats 4000000 in
theorem jleast_any (s t : Int) (w : World) (h : Row encA 4 w ao Z) (hz : Z.length ≤ maxLen) :
    Calls Tryz.prog 5 #[.agg #[.int .i64 n, .bool b, .slice ao Z.length cap], .int .i64 s, .int .i64 t] w (LeastRes n Z s t w) := by
  have hb00 := (Below.refl _ w).alloc (Nat.le_refl _) (.cells #[.int .i64 n, .bool b, .slice ao Z.length cap] 24)
  have HB0 := Lib.hid hb00
  have HN0 := Lib.hid (heap_alloc_new w (.cells #[.int .i64 n, .bool b, .slice ao Z.length cap] 24))
  have x0 := cell_whole HN0.out 0
  have x1 := cell_whole HN0.out 1
  have x2 := cell_whole HN0.out 2
  have HR := Lib.hid (h.below' hb00)
  have HZ := Lib.hid hz
  clear h hz hb00
  obtain ⟨e0, he⟩ : ∃ e0, endsE n Z s t = e0 := ⟨_, rfl⟩
  have HE := Lib.hid he
  by_cases h0 : e0 = 0
  · subst h0
    obtain ⟨hc, i, j, rfl, rfl, hi, hj, hij⟩ := endsE_ok he
    have HWN := Lib.hid (wide_of hc)
    have hn := nodesE_ok (right_iff.1 hc : Right (n, b, Z)).1
    simp only at hn
    obtain ⟨N, rfl⟩ : ∃ N : Nat, n = (N : Int) := ⟨n.toNat, by omega⟩
    rw [Int.toNat_natCast] at hi hj HWN
    clear he hc
    go_enter Tryz.func5, Tryz.ntmps5
    go_wp2_with (first
      | (go_at_call 9; refine (xmax_any (N : Int) b ao cap Z (i : Int) (j : Int) _ HR.out HZ.out).mono ?_; rintro e w1 hmr; obtain ⟨fo, fc, F, k, rfl, hf1, hv1, hn1, hb1⟩ := max_yes HE.out hmr; have HB1 := Lib.hid (HB0.out.trans (hb1.mono HB0.out.size)); have HR1 := Lib.hid (HR.out.below' hb1); have HF1 := Lib.hid hf1; have HLE : Hid (levE (N : Int) Z F (i : Int) = 0) := Lib.hid (lev_zero (flowE_of HE.out hv1) hi); have HLS := Lib.hid (least_of HLE.out HWN.out hi hv1 hn1); have HFL : Hid (F.length ≤ maxLen) := Lib.hid (by rw [hv1.1.1]; exact HZ.out); have hw1 := kept_box HN0.out hb1; have HN1 := Lib.hid hw1; have x0 := cell_whole hw1 0; have x1 := cell_whole hw1 1; have x2 := cell_whole hw1 2; clear hb1 hf1 hv1 hn1 hw1 hmr)
      | (go_at_call 10; refine (jside_any (N : Int) b ao fo cap fc Z F (i : Int) _ HR1.out HF1.out HZ.out HFL.out).mono ?_; rintro e w2 ⟨sa, sc, rfl, hs2, hb2⟩; rw [HLE.out]; have HLE2 := Lib.hid HLS.out.len; obtain ⟨S, hS⟩ : ∃ S, sideL (N : Int) Z F (i : Int) = S := ⟨_, rfl⟩; rw [hS] at hs2 HLS HLE2 ⊢; have HB2 := Lib.hid (HB1.out.trans (hb2.mono HB1.out.size)); have HR2 := Lib.hid (HR1.out.below' hb2); have HS2 := Lib.hid hs2; have hw2 := kept_box HN1.out hb2; have x0 := cell_whole hw2 0; have x1 := cell_whole hw2 1; have x2 := cell_whole hw2 2; have HWS : Hid (WideNet Z S.length) := Lib.hid (by rw [HLE2.out]; exact HWN.out); have HTK : Hid (capS Z (sideB S) = k) := Lib.hid HLS.out.takes; clear hb2 hs2 hw2 hS)
      | (go_at_call 11; refine (capof_at (N : Int) b ao sa cap sc Z S _ HR2.out HS2.out HWS.out).mono ?_; rintro e w3 ⟨rfl, hb3⟩; rw [HTK.out]; have HB3 := Lib.hid (HB2.out.trans (hb3.mono HB2.out.size)); have HS3 := Lib.hid (HS2.out.below hb3); clear hb3))
    go_ret3
    exact .inl ⟨HE.out, sa, sc, S, k, N, i, j, rfl, rfl, rfl, ⟨hi, hj, hij⟩, rfl, HS3.out, HLS.out, HB3.out⟩
  · have H0 := Lib.hid h0
    have hf1 : (e0 != 0) = true := by simpa using h0
    have hf2 : (e0 == 0) = false := by simpa using h0
    clear h0 he
    go_enter Tryz.func5, Tryz.ntmps5
    go_wp2_with (first
      | (go_at_call 9; refine (xmax_any n b ao cap Z s t _ HR.out HZ.out).mono ?_; rintro e w1 hmr; obtain ⟨rfl, hb1⟩ := max_not HE.out H0.out hmr; have HB1 := Lib.hid (HB0.out.trans (hb1.mono HB0.out.size)); clear hb1 hmr))
    go_ret3
    exact .inr ⟨by rw [HE.out]; exact H0.out, by rw [HE.out]; rfl, HB1.out⟩
end
end Go.Proofs.YtbgnoaijgngifaaGreat
