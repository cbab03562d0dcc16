/- MincutLeast. -/
import Derived.Test.YtbgnoaijgngifaaGreatJAwk
import Derived.Test.YtbgnoaijgngifaaGreatXFew
namespace Go.Proofs.YtbgnoaijgngifaaGreat
open Go.RowKit
set_option linter.unusedVariables false

section
variable (n : Int) (b : Bool) (ao : Option Addr) (len cap : Nat) (Z : List ArcT)
set_option maxRecDepth 100000 in
set_option maxHeartbeats 4000000 in
theorem mleast_law (s t : Int) (w : World) (hl : Z.length = len) (hcap : len ≤ cap) (hm : len ≤ maxLen) (hr : Row encA 4 w ao Z) :
    Calls Tryz.prog 3 #[.agg #[.int .i64 n, .bool b, .slice ao len cap], .int .i64 s, .int .i64 t] w fun e w' => e = .returned (.bool true) ∧ Below w.heap.size w w' := by
  subst hl
  have HCP := Lib.hid hcap
  have HM := Lib.hid hm
  have HRZ := Lib.hid (row_alloc hr (.cells #[.int .i64 n, .bool b, .slice ao Z.length cap] 24))
  have HRW := Lib.hid (row_few9 hr)
  have HMY := Lib.hid (Nat.le_trans (fewZ9_le Z) hm)
  have HB : Hid (Below w.heap.size w (w.alloc (.cells #[.int .i64 n, .bool b, .slice ao Z.length cap] 24))) := Lib.hid ((Below.refl _ w).alloc (Nat.le_refl _) _)
  have HN := Lib.hid (heap_alloc_new w (.cells #[.int .i64 n, .bool b, .slice ao Z.length cap] 24))
  clear hr hm hcap
  obtain ⟨Y, hY⟩ : ∃ Y, fewZ9 Z = Y := ⟨_, rfl⟩
  obtain ⟨m, hmn⟩ : ∃ m, fewN9 n = m := ⟨_, rfl⟩
  have HY := Lib.hid hY
  have HMN := Lib.hid hmn
  rw [hY] at HRW HMY
  clear hY hmn
  obtain ⟨e0, he⟩ : ∃ e0, endsE m Y s t = e0 := ⟨_, rfl⟩
  have HE := Lib.hid he
  by_cases h0 : e0 = 0
  · subst h0
    obtain ⟨hc, i, j, rfl, rfl, hi, hj, hij⟩ := endsE_ok he
    have hn := nodesE_ok (right_iff.1 hc : Right (m, b, Y)).1
    simp only at hn
    obtain ⟨N, rfl⟩ : ∃ N : Nat, m = (N : Int) := ⟨m.toNat, by omega⟩
    rw [Int.toNat_natCast] at hi hj
    have HAL := Lib.hid (arcs_lt he)
    rw [Int.toNat_natCast] at HAL
    have HCE := Lib.hid hc
    clear he hc
    go_enter Tryz.func3, Tryz.ntmps3
    go_wp2_with (first
      | (go_at_call 4; refine (few9_any n b ao cap Z _ HRZ.out HM.out HCP.out).mono ?_; rintro e w1 ⟨rfl, hb1⟩; rw [HY.out, HMN.out]; have hn1 := kept_box HN.out hb1; have x0 := cell_whole hn1 0; have x1 := cell_whole hn1 1; have x2 := cell_whole hn1 2; have fx1 := frozen_whole hn1 0; have fy1 := frozen_whole hn1 1; have fz1 := frozen_whole hn1 2; have hB1 := HB.out.trans (hb1.mono HB.out.size); obtain ⟨hn2, hB2⟩ := netSet hn1 hB1 (Nat.le_refl _) (.int .i64 (N : Int)) (.bool b) (.slice ao Y.length cap); have HN := Lib.hid hn2; have HB := Lib.hid hB2; have HR := Lib.hid (HRW.out.below' hB2); clear hb1 hn1 hB1 hn2 hB2)
      | (go_at_call 5; refine (jleast_ok b ao cap Y N i j _ HR.out HMY.out HE.out).mono ?_; rintro e wn ⟨a1, q1, S, k, rfl, h1, hS, hb⟩; have HR := Lib.hid (HR.out.below' hb); have hn := kept_box HN.out hb; have HN := Lib.hid hn; have x0 := cell_whole hn 0; have x1 := cell_whole hn 1; have x2 := cell_whole hn 2; have HB := Lib.hid (HB.out.trans (hb.mono HB.out.size)); have hsl := hS.len; have H1 := Lib.hid h1; have HLS := Lib.hid hS; have HSL : Hid (S.length ≤ maxLen) := Lib.hid (by rw [hsl]; unfold maxLen; omega); clear h1 hS hsl fx1 fy1 fz1; clear hb hn)
      | (go_at_call 6; refine (rleast_at b ao cap Y N i j S k _ HR.out HMY.out HE.out hi HLS.out).mono ?_; rintro e wn ⟨a2, q2, rfl, h2, hb⟩; have HR := Lib.hid (HR.out.below' hb); have hn := kept_box HN.out hb; have HN := Lib.hid hn; have x0 := cell_whole hn 0; have x1 := cell_whole hn 1; have x2 := cell_whole hn 2; have H1 := Lib.hid (H1.out.below hb); have HB := Lib.hid (HB.out.trans (hb.mono HB.out.size)); have H2 := Lib.hid h2; clear h2; clear hb hn)
      | (go_at_call 7; refine (jawake_any _).mono ?_; rintro e wn ⟨rfl, hb⟩; have HR := Lib.hid (HR.out.below' hb); have hn := kept_box HN.out hb; have HN := Lib.hid hn; have x0 := cell_whole hn 0; have x1 := cell_whole hn 1; have x2 := cell_whole hn 2; have H1 := Lib.hid (H1.out.below hb); have H2 := Lib.hid (H2.out.below hb); have HB := Lib.hid (HB.out.trans (hb.mono HB.out.size)); clear hb hn)
      | (go_at_call 8; refine (rsameb_eq S a1 a2 q1 q2 _ H1.out H2.out HSL.out).mono ?_; rintro e wn ⟨rfl, hb⟩; have HR := Lib.hid (HR.out.below' hb); have hn := kept_box HN.out hb; have HN := Lib.hid hn; have x0 := cell_whole hn 0; have x1 := cell_whole hn 1; have x2 := cell_whole hn 2; have H1 := Lib.hid (H1.out.below hb); have H2 := Lib.hid (H2.out.below hb); have HB := Lib.hid (HB.out.trans (hb.mono HB.out.size)); clear hb hn))
    go_ret
    exact ⟨by simp, HB.out⟩
  · have H0 := Lib.hid h0
    clear h0 he
    go_enter Tryz.func3, Tryz.ntmps3
    go_wp2_with (first
      | (go_at_call 4; refine (few9_any n b ao cap Z _ HRZ.out HM.out HCP.out).mono ?_; rintro e w1 ⟨rfl, hb1⟩; rw [HY.out, HMN.out]; have hn1 := kept_box HN.out hb1; have x0 := cell_whole hn1 0; have x1 := cell_whole hn1 1; have x2 := cell_whole hn1 2; have fx1 := frozen_whole hn1 0; have fy1 := frozen_whole hn1 1; have fz1 := frozen_whole hn1 2; have hB1 := HB.out.trans (hb1.mono HB.out.size); obtain ⟨hn2, hB2⟩ := netSet hn1 hB1 (Nat.le_refl _) (.int .i64 m) (.bool b) (.slice ao Y.length cap); have HN := Lib.hid hn2; have HB := Lib.hid hB2; have HR := Lib.hid (HRW.out.below' hB2); clear hb1 hn1 hB1 hn2 hB2)
      | (go_at_call 5; refine (jleast_no b ao cap Y m s t e0 _ HR.out HMY.out HE.out H0.out).mono ?_; rintro e wn ⟨rfl, hb⟩; have HR := Lib.hid (HR.out.below' hb); have hn := kept_box HN.out hb; have HN := Lib.hid hn; have x0 := cell_whole hn 0; have x1 := cell_whole hn 1; have x2 := cell_whole hn 2; have HB := Lib.hid (HB.out.trans (hb.mono HB.out.size)); clear fx1 fy1 fz1; clear hb hn)
      | (go_at_call 6; refine (rlside_no b ao cap Y m s t e0 _ HR.out HMY.out HE.out H0.out).mono ?_; rintro e wn ⟨rfl, hb⟩; have HR := Lib.hid (HR.out.below' hb); have hn := kept_box HN.out hb; have HN := Lib.hid hn; have x0 := cell_whole hn 0; have x1 := cell_whole hn 1; have x2 := cell_whole hn 2; have HB := Lib.hid (HB.out.trans (hb.mono HB.out.size)); clear hb hn)
      | (go_at_call 7; refine (jawake_any _).mono ?_; rintro e wn ⟨rfl, hb⟩; have HR := Lib.hid (HR.out.below' hb); have hn := kept_box HN.out hb; have HN := Lib.hid hn; have x0 := cell_whole hn 0; have x1 := cell_whole hn 1; have x2 := cell_whole hn 2; have HB := Lib.hid (HB.out.trans (hb.mono HB.out.size)); clear hb hn)
      | (go_at_call 8; refine ((show Calls Tryz.prog 8 #[.slice none 0 0, .slice none 0 0] _ _ from rsameb_eq [] none none 0 0 _ (Lst.nil _ _) (Lst.nil _ _) (Nat.zero_le _))).mono ?_; rintro e wn ⟨rfl, hb⟩; have HR := Lib.hid (HR.out.below' hb); have hn := kept_box HN.out hb; have HN := Lib.hid hn; have x0 := cell_whole hn 0; have x1 := cell_whole hn 1; have x2 := cell_whole hn 2; have HB := Lib.hid (HB.out.trans (hb.mono HB.out.size)); clear hb hn))
    go_ret
    exact ⟨by simp, HB.out⟩
end
end Go.Proofs.YtbgnoaijgngifaaGreat
