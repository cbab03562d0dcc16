/- MaxflowValues, MaxflowFlows, MaxflowTops. -/
import Derived.Test.YthmighfbldhifaaXAwk
import Derived.Test.YthmighfbldhifaaXFew
namespace Go.Proofs.Ythmighfbldhifaa
open Go.RowKit
set_option linter.unusedVariables false

section
variable (n : Int) (b : Bool) (ao : Option Addr) (len cap : Nat) (Z : List ArcT)
set_option maxRecDepth 100000 in
set_option maxHeartbeats 4000000 in
theorem values_law (s t : Int) (w : World) (hl : Z.length = len) (hcap : len ≤ cap) (hm : len ≤ maxLen) (hr : Row encA 4 w ao Z) :
    Calls Try.prog 3 #[.agg #[.int .i64 n, .bool b, .slice ao len cap], .int .i64 s, .int .i64 t] w fun e w' => e = .returned (.bool true) ∧ Below w.heap.size w w' := by
  subst hl
  have HCP := Lib.hid hcap
  have HMZ := Lib.hid hm
  have HRZ := Lib.hid (row_alloc hr (.cells #[.int .i64 n, .bool b, .slice ao Z.length cap] 24))
  have HR := Lib.hid (row_few9 hr)
  have HM := Lib.hid (Nat.le_trans (fewZ9_le Z) hm)
  have HB0 : Hid (Below w.heap.size w (w.alloc (.cells #[.int .i64 n, .bool b, .slice ao Z.length cap] 24))) := Lib.hid ((Below.refl _ w).alloc (Nat.le_refl _) _)
  have HN := Lib.hid (heap_alloc_new w (.cells #[.int .i64 n, .bool b, .slice ao Z.length cap] 24))
  clear hr hm hcap
  obtain ⟨Y, hY⟩ : ∃ Y, fewZ9 Z = Y := ⟨_, rfl⟩
  obtain ⟨m, hmn⟩ : ∃ m, fewN9 n = m := ⟨_, rfl⟩
  have HY := Lib.hid hY
  have HMN := Lib.hid hmn
  rw [hY] at HR HM
  clear hY hmn
  obtain ⟨e0, he⟩ : ∃ e0, endsE m Y s t = e0 := ⟨_, rfl⟩
  have HE := Lib.hid he
  by_cases h0 : e0 = 0
  · subst h0
    obtain ⟨hc, i, j, rfl, rfl, hi, hj, hij⟩ := endsE_ok he
    have hn := nodesE_ok (right_iff.1 hc : Right (m, b, Y)).1
    simp only at hn
    obtain ⟨N, rfl⟩ : ∃ N : Nat, m = (N : Int) := ⟨m.toNat, by omega⟩
    rw [Int.toNat_natCast] at hi hj
    clear he hc
    go_enter Try.func3, Try.ntmps3
    go_wp2_with (first
      | (go_at_call 9; refine (few9_any n b ao cap Z _ HRZ.out HMZ.out HCP.out).mono ?_; rintro e w1 ⟨rfl, hb1⟩; rw [HY.out, HMN.out]; have hn1 := kept_box HN.out hb1; have x1 := cell_whole hn1 0; have y1 := cell_whole hn1 1; have z1 := cell_whole hn1 2; have fx1 := frozen_whole hn1 0; have fy1 := frozen_whole hn1 1; have fz1 := frozen_whole hn1 2; have hB1 := HB0.out.trans (hb1.mono HB0.out.size); obtain ⟨hn2, hB2⟩ := netSet hn1 hB1 (Nat.le_refl _) (.int .i64 (N : Int)) (.bool b) (.slice ao Y.length cap); have HN2 := Lib.hid hn2; have HB2 := Lib.hid hB2; clear hb1 hn1 hB1 hn2 hB2)
      | (go_at_call 10; refine (xmost_ok b ao cap Y N i j _ (HR.out.below' HB2.out) HM.out HE.out).mono ?_; rintro e w3 ⟨k, rfl, hm3, hb3⟩; have HB3 := Lib.hid (HB2.out.trans (hb3.mono HB2.out.size)); have hn3 := kept_box HN2.out hb3; have x3 := cell_whole hn3 0; have y3 := cell_whole hn3 1; have z3 := cell_whole hn3 2; have HM3 := Lib.hid hm3; clear hm3 hb3 hn3 x1 y1 z1 fx1 fy1 fz1)
      | (go_at_call 11; refine (rmost_at b ao cap Y N i j k _ (HR.out.below' HB3.out) HM.out HE.out hi HM3.out).mono ?_; rintro e w4 ⟨rfl, hb4⟩; have HB4 := Lib.hid (HB3.out.trans (hb4.mono HB3.out.size)); clear hb4 x3 y3 z3)
      | (go_at_call 12; refine (xawake_any _).mono ?_; rintro e w5 ⟨rfl, hb5⟩; have HB5 := Lib.hid (HB4.out.trans (hb5.mono HB4.out.size)); clear hb5))
    go_ret
    exact ⟨by simp, HB5.out⟩
  · have H0 := Lib.hid h0
    have hf1 : (e0 != 0) = true := by simpa using h0
    have hf2 : (e0 == 0) = false := by simpa using h0
    clear h0 he
    go_enter Try.func3, Try.ntmps3
    go_wp2_with (first
      | (go_at_call 9; refine (few9_any n b ao cap Z _ HRZ.out HMZ.out HCP.out).mono ?_; rintro e w1 ⟨rfl, hb1⟩; rw [HY.out, HMN.out]; have hn1 := kept_box HN.out hb1; have x1 := cell_whole hn1 0; have y1 := cell_whole hn1 1; have z1 := cell_whole hn1 2; have fx1 := frozen_whole hn1 0; have fy1 := frozen_whole hn1 1; have fz1 := frozen_whole hn1 2; have hB1 := HB0.out.trans (hb1.mono HB0.out.size); obtain ⟨hn2, hB2⟩ := netSet hn1 hB1 (Nat.le_refl _) (.int .i64 m) (.bool b) (.slice ao Y.length cap); have HN2 := Lib.hid hn2; have HB2 := Lib.hid hB2; clear hb1 hn1 hB1 hn2 hB2)
      | (go_at_call 10; refine (xmost_no b ao cap Y m s t e0 _ (HR.out.below' HB2.out) HM.out HE.out H0.out).mono ?_; rintro e w3 ⟨rfl, hb3⟩; have HB3 := Lib.hid (HB2.out.trans (hb3.mono HB2.out.size)); have hn3 := kept_box HN2.out hb3; have x3 := cell_whole hn3 0; have y3 := cell_whole hn3 1; have z3 := cell_whole hn3 2; clear hb3 hn3 x1 y1 z1 fx1 fy1 fz1)
      | (go_at_call 11; refine (rmost_no b ao cap Y m s t e0 _ (HR.out.below' HB3.out) HM.out HE.out H0.out).mono ?_; rintro e w4 ⟨rfl, hb4⟩; have HB4 := Lib.hid (HB3.out.trans (hb4.mono HB3.out.size)); clear hb4 x3 y3 z3)
      | (go_at_call 12; refine (xawake_any _).mono ?_; rintro e w5 ⟨rfl, hb5⟩; have HB5 := Lib.hid (HB4.out.trans (hb5.mono HB4.out.size)); clear hb5))
    go_ret
    exact ⟨by simp, HB5.out⟩
end
end Go.Proofs.Ythmighfbldhifaa
