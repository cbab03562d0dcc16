/- TimeflowRefuses. -/
import Derived.Test.YtlkbohpnlbfopaaFUmv
import Derived.Test.YtlkbohpnlbfopaaCO
import Derived.Test.YtlkbohpnlbfopaaCJ
namespace Go.Proofs.Ytlkbohpnlbfopaa
open Go.RowKit
set_option linter.unusedVariables false
theorem umoves_net {n : Int} {Z : List ArcT} {s t H : Int} {b0 : Bool} {A : List ArcT} {q : Nat} (hX : NetX n Z s t H b0 A q) (b : Bool) (ao : Option Addr) (nl cap : Nat) (hl : Z.length = nl) : ∀ (fo : Option Addr) (fc : Nat) (F : List Int) (W : World), Row encA 4 W ao Z → Lst encI W fo F → F.length = A.length → Calls Try.prog 24 #[.agg #[.int .i64 n, .bool b, .slice ao nl cap], .int .i64 s, .int .i64 t, .int .i64 H, .slice fo A.length fc] W (MovRes n b Z s t H F W) := by
  intro fo fc F W h1 h2 h3
  obtain ⟨N, i, j, K, rfl, rfl, rfl, rfl, hi, hj, hij, hW, hK, hq, hm1, hm2, hA⟩ := hX.exp
  have hk := kinds_len (⟨Z, N, i, j, K, b⟩ : Exp)
  simp only at hk
  exact umoves_big b ao fo nl cap _ fc Z N i j K F W h1 hl h2 h3 hX.err hi hj hij hW hK hm1 hm2 (by omega)
set_option maxRecDepth 100000 in
set_option maxHeartbeats 16000000 in
theorem frefuses_law (n : Int) (b : Bool) (ao : Option Addr) (nl cap : Nat) (Z : List ArcT) (s t H : Int) (w : World) (hl : Z.length = nl) (hm : nl ≤ maxLen) (hr : Row encA 4 w ao Z) (hw : nl * 32 ≤ 140737488351232) :
    Calls Try.prog 3 #[.agg #[.int .i64 n, .bool b, .slice ao nl cap], .int .i64 s, .int .i64 t, .int .i64 H] w fun e w' => e = .returned (.bool true) ∧ Below w.heap.size w w' := by
  have hb00 := (Below.refl _ w).alloc (Nat.le_refl _) (.cells #[.int .i64 n, .bool b, .slice ao nl cap] 24)
  have HB := Lib.hid hb00
  have HN := Lib.hid (heap_alloc_new w (.cells #[.int .i64 n, .bool b, .slice ao nl cap] 24))
  have HR := Lib.hid (hr.below' hb00)
  have HNL := Lib.hid hl
  have HM : Hid (Z.length ≤ maxLen) := Lib.hid (by rw [hl]; exact hm)
  have HZ : Hid (Z.length ≤ 4398046511104) := Lib.hid (by omega)
  have x0 := cell_whole HN.out 0
  have x1 := cell_whole HN.out 1
  have x2 := cell_whole HN.out 2
  clear hr hm hb00 hl hw
  obtain ⟨e0, he⟩ : ∃ e0, xpE n Z s t H = e0 := ⟨_, rfl⟩
  have HE := Lib.hid he
  clear he
  by_cases h4 : 4 < H
  · by_cases hz : e0 = 0
    · subst hz
      obtain ⟨e1, he1⟩ : ∃ e1, xpE n Z s t (H % 5) = e1 := ⟨_, rfl⟩
      have HE1 := Lib.hid he1
      have HGT : Hid (0 = 0) := Lib.hid rfl
      clear he1
      by_cases hz1 : e1 = 0
      · subst hz1
        obtain ⟨A, q, hX⟩ := net_facts HE1.out b
        have HX := Lib.hid hX
        clear hX
        go_enter Try.func3, Try.ntmps3
        go_wp2_with (first
          | (go_at_call 7; refine (fawake_any _).mono ?_; rintro e wn ⟨rfl, hb⟩; have HR := Lib.hid (HR.out.below' hb); have hn := kept_box HN.out hb; have HN := Lib.hid hn; have x0 := cell_whole hn 0; have x1 := cell_whole hn 1; have x2 := cell_whole hn 2; have HB := Lib.hid (HB.out.trans (hb.mono HB.out.size)); clear hn; clear hb)
          | (go_at_call 8; have hgate := HGT; clear HGT hgate; refine (rasked15_any n H b ao nl cap Z s t _ HR.out HNL.out HM.out).mono ?_; rw [HE.out]; rintro e wn ⟨rfl, hb⟩; have HR := Lib.hid (HR.out.below' hb); have hn := kept_box HN.out hb; have HN := Lib.hid hn; have x0 := cell_whole hn 0; have x1 := cell_whole hn 1; have x2 := cell_whole hn 2; have HB := Lib.hid (HB.out.trans (hb.mono HB.out.size)); clear hn; clear hb)
          | (go_at_call 8; refine (rasked15_any n (H % 5) b ao nl cap Z s t _ HR.out HNL.out HM.out).mono ?_; rw [HE1.out]; rintro e wn ⟨rfl, hb⟩; have HR := Lib.hid (HR.out.below' hb); have hn := kept_box HN.out hb; have HN := Lib.hid hn; have x0 := cell_whole hn 0; have x1 := cell_whole hn 1; have x2 := cell_whole hn 2; have HB := Lib.hid (HB.out.trans (hb.mono HB.out.size)); clear hn; clear hb)
          | (go_at_call 9; refine (fmost_yes n b ao nl cap Z s t (H % 5) A q _ HR.out HNL.out HZ.out HX.out).mono ?_; rintro e wn ⟨k, rfl, hm, hb⟩; have HMO := Lib.hid hm; have HR := Lib.hid (HR.out.below' hb); have hn := kept_box HN.out hb; have HN := Lib.hid hn; have x0 := cell_whole hn 0; have x1 := cell_whole hn 1; have x2 := cell_whole hn 2; have HB := Lib.hid (HB.out.trans (hb.mono HB.out.size)); clear hn; clear hb hm)
          | (go_at_call 10; refine (fmax_yes n b ao nl cap Z s t (H % 5) A q _ HR.out HNL.out HZ.out HX.out (umoves_net HX.out b ao nl cap HNL.out)).mono ?_; rintro e wn ⟨F, k2, la, lc, rfl, hF, hm, hrow, hb⟩; obtain rfl : k = k2 := isMost_unique HX.out.wide.lt (by omega) HMO.out hm; generalize (movV n Z s t (H % 5) b F).length = ll at *; have HR := Lib.hid (HR.out.below' hb); have hn := kept_box HN.out hb; have HN := Lib.hid hn; have x0 := cell_whole hn 0; have x1 := cell_whole hn 1; have x2 := cell_whole hn 2; have HB := Lib.hid (HB.out.trans (hb.mono HB.out.size)); clear hn; clear hF hm hrow hb)
          | (go_at_call 11; refine (fcut_yes n b ao nl cap Z s t (H % 5) A q _ HR.out HNL.out HZ.out HX.out).mono ?_; rintro e wn ⟨F2, k3, ca, cc, rfl, hF, hn2, hrow, hb⟩; generalize (cutL (fitN n Z (H % 5)) n (H % 5) (farsL (seekN A F2 (q + 2) q) (q + 2)) q).length = cl at *; have HR := Lib.hid (HR.out.below' hb); have hn := kept_box HN.out hb; have HN := Lib.hid hn; have x0 := cell_whole hn 0; have x1 := cell_whole hn 1; have x2 := cell_whole hn 2; have HB := Lib.hid (HB.out.trans (hb.mono HB.out.size)); clear hn; clear hF hn2 hrow hb))
        go_ret
        exact ⟨by simp, HB.out⟩
      · have HNO : Hid (xpE n Z s t (H % 5) ≠ 0) := Lib.hid (by rw [HE1.out]; exact hz1)
        have q1 : (e1 == 0) = false := by simpa using hz1
        have q2 : (e1 != 0) = true := by simpa using hz1
        have q3 : (e1 != e1) = false := by simp
        go_enter Try.func3, Try.ntmps3
        go_wp2_with (first
          | (go_at_call 7; refine (fawake_any _).mono ?_; rintro e wn ⟨rfl, hb⟩; have HR := Lib.hid (HR.out.below' hb); have hn := kept_box HN.out hb; have HN := Lib.hid hn; have x0 := cell_whole hn 0; have x1 := cell_whole hn 1; have x2 := cell_whole hn 2; have HB := Lib.hid (HB.out.trans (hb.mono HB.out.size)); clear hn; clear hb)
          | (go_at_call 8; have hgate := HGT; clear HGT hgate; refine (rasked15_any n H b ao nl cap Z s t _ HR.out HNL.out HM.out).mono ?_; rw [HE.out]; rintro e wn ⟨rfl, hb⟩; have HR := Lib.hid (HR.out.below' hb); have hn := kept_box HN.out hb; have HN := Lib.hid hn; have x0 := cell_whole hn 0; have x1 := cell_whole hn 1; have x2 := cell_whole hn 2; have HB := Lib.hid (HB.out.trans (hb.mono HB.out.size)); clear hn; clear hb)
          | (go_at_call 8; refine (rasked15_any n (H % 5) b ao nl cap Z s t _ HR.out HNL.out HM.out).mono ?_; rw [HE1.out]; rintro e wn ⟨rfl, hb⟩; have HR := Lib.hid (HR.out.below' hb); have hn := kept_box HN.out hb; have HN := Lib.hid hn; have x0 := cell_whole hn 0; have x1 := cell_whole hn 1; have x2 := cell_whole hn 2; have HB := Lib.hid (HB.out.trans (hb.mono HB.out.size)); clear hn; clear hb)
          | (go_at_call 9; refine (fmost_no n b ao nl cap Z s t (H % 5) _ HR.out HNL.out HZ.out HNO.out).mono ?_; rw [HE1.out]; rintro e wn ⟨rfl, hb⟩; have HR := Lib.hid (HR.out.below' hb); have hn := kept_box HN.out hb; have HN := Lib.hid hn; have x0 := cell_whole hn 0; have x1 := cell_whole hn 1; have x2 := cell_whole hn 2; have HB := Lib.hid (HB.out.trans (hb.mono HB.out.size)); clear hn; clear hb)
          | (go_at_call 10; refine (fmax_no n b ao nl cap Z s t (H % 5) _ HR.out HNL.out HZ.out HNO.out).mono ?_; rw [HE1.out]; rintro e wn ⟨rfl, hb⟩; have HR := Lib.hid (HR.out.below' hb); have hn := kept_box HN.out hb; have HN := Lib.hid hn; have x0 := cell_whole hn 0; have x1 := cell_whole hn 1; have x2 := cell_whole hn 2; have HB := Lib.hid (HB.out.trans (hb.mono HB.out.size)); clear hn; clear hb)
          | (go_at_call 11; refine (fcut_no n b ao nl cap Z s t (H % 5) _ HR.out HNL.out HZ.out HNO.out).mono ?_; rw [HE1.out]; rintro e wn ⟨rfl, hb⟩; have HR := Lib.hid (HR.out.below' hb); have hn := kept_box HN.out hb; have HN := Lib.hid hn; have x0 := cell_whole hn 0; have x1 := cell_whole hn 1; have x2 := cell_whole hn 2; have HB := Lib.hid (HB.out.trans (hb.mono HB.out.size)); clear hn; clear hb))
        go_ret
        exact ⟨by simp, HB.out⟩
    · have HNO : Hid (xpE n Z s t H ≠ 0) := Lib.hid (by rw [HE.out]; exact hz)
      have q1 : (e0 == 0) = false := by simpa using hz
      have q2 : (e0 != 0) = true := by simpa using hz
      have q3 : (e0 != e0) = false := by simp
      go_enter Try.func3, Try.ntmps3
      go_wp2_with (first
        | (go_at_call 7; refine (fawake_any _).mono ?_; rintro e wn ⟨rfl, hb⟩; have HR := Lib.hid (HR.out.below' hb); have hn := kept_box HN.out hb; have HN := Lib.hid hn; have x0 := cell_whole hn 0; have x1 := cell_whole hn 1; have x2 := cell_whole hn 2; have HB := Lib.hid (HB.out.trans (hb.mono HB.out.size)); clear hn; clear hb)
        | (go_at_call 8; refine (rasked15_any n H b ao nl cap Z s t _ HR.out HNL.out HM.out).mono ?_; rw [HE.out]; rintro e wn ⟨rfl, hb⟩; have HR := Lib.hid (HR.out.below' hb); have hn := kept_box HN.out hb; have HN := Lib.hid hn; have x0 := cell_whole hn 0; have x1 := cell_whole hn 1; have x2 := cell_whole hn 2; have HB := Lib.hid (HB.out.trans (hb.mono HB.out.size)); clear hn; clear hb)
        | (go_at_call 9; refine (fmost_no n b ao nl cap Z s t H _ HR.out HNL.out HZ.out HNO.out).mono ?_; rw [HE.out]; rintro e wn ⟨rfl, hb⟩; have HR := Lib.hid (HR.out.below' hb); have hn := kept_box HN.out hb; have HN := Lib.hid hn; have x0 := cell_whole hn 0; have x1 := cell_whole hn 1; have x2 := cell_whole hn 2; have HB := Lib.hid (HB.out.trans (hb.mono HB.out.size)); clear hn; clear hb)
        | (go_at_call 10; refine (fmax_no n b ao nl cap Z s t H _ HR.out HNL.out HZ.out HNO.out).mono ?_; rw [HE.out]; rintro e wn ⟨rfl, hb⟩; have HR := Lib.hid (HR.out.below' hb); have hn := kept_box HN.out hb; have HN := Lib.hid hn; have x0 := cell_whole hn 0; have x1 := cell_whole hn 1; have x2 := cell_whole hn 2; have HB := Lib.hid (HB.out.trans (hb.mono HB.out.size)); clear hn; clear hb)
        | (go_at_call 11; refine (fcut_no n b ao nl cap Z s t H _ HR.out HNL.out HZ.out HNO.out).mono ?_; rw [HE.out]; rintro e wn ⟨rfl, hb⟩; have HR := Lib.hid (HR.out.below' hb); have hn := kept_box HN.out hb; have HN := Lib.hid hn; have x0 := cell_whole hn 0; have x1 := cell_whole hn 1; have x2 := cell_whole hn 2; have HB := Lib.hid (HB.out.trans (hb.mono HB.out.size)); clear hn; clear hb))
      go_ret
      exact ⟨by simp, HB.out⟩
  · by_cases hz : e0 = 0
    · subst hz
      obtain ⟨A, q, hX⟩ := net_facts HE.out b
      have HX := Lib.hid hX
      clear hX
      go_enter Try.func3, Try.ntmps3
      go_wp2_with (first
        | (go_at_call 7; refine (fawake_any _).mono ?_; rintro e wn ⟨rfl, hb⟩; have HR := Lib.hid (HR.out.below' hb); have hn := kept_box HN.out hb; have HN := Lib.hid hn; have x0 := cell_whole hn 0; have x1 := cell_whole hn 1; have x2 := cell_whole hn 2; have HB := Lib.hid (HB.out.trans (hb.mono HB.out.size)); clear hn; clear hb)
        | (go_at_call 8; refine (rasked15_any n H b ao nl cap Z s t _ HR.out HNL.out HM.out).mono ?_; rw [HE.out]; rintro e wn ⟨rfl, hb⟩; have HR := Lib.hid (HR.out.below' hb); have hn := kept_box HN.out hb; have HN := Lib.hid hn; have x0 := cell_whole hn 0; have x1 := cell_whole hn 1; have x2 := cell_whole hn 2; have HB := Lib.hid (HB.out.trans (hb.mono HB.out.size)); clear hn; clear hb)
        | (go_at_call 9; refine (fmost_yes n b ao nl cap Z s t H A q _ HR.out HNL.out HZ.out HX.out).mono ?_; rintro e wn ⟨k, rfl, hm, hb⟩; have HMO := Lib.hid hm; have HR := Lib.hid (HR.out.below' hb); have hn := kept_box HN.out hb; have HN := Lib.hid hn; have x0 := cell_whole hn 0; have x1 := cell_whole hn 1; have x2 := cell_whole hn 2; have HB := Lib.hid (HB.out.trans (hb.mono HB.out.size)); clear hn; clear hb hm)
        | (go_at_call 10; refine (fmax_yes n b ao nl cap Z s t H A q _ HR.out HNL.out HZ.out HX.out (umoves_net HX.out b ao nl cap HNL.out)).mono ?_; rintro e wn ⟨F, k2, la, lc, rfl, hF, hm, hrow, hb⟩; obtain rfl : k = k2 := isMost_unique HX.out.wide.lt (by omega) HMO.out hm; generalize (movV n Z s t H b F).length = ll at *; have HR := Lib.hid (HR.out.below' hb); have hn := kept_box HN.out hb; have HN := Lib.hid hn; have x0 := cell_whole hn 0; have x1 := cell_whole hn 1; have x2 := cell_whole hn 2; have HB := Lib.hid (HB.out.trans (hb.mono HB.out.size)); clear hn; clear hF hm hrow hb)
        | (go_at_call 11; refine (fcut_yes n b ao nl cap Z s t H A q _ HR.out HNL.out HZ.out HX.out).mono ?_; rintro e wn ⟨F2, k3, ca, cc, rfl, hF, hn2, hrow, hb⟩; generalize (cutL (fitN n Z H) n H (farsL (seekN A F2 (q + 2) q) (q + 2)) q).length = cl at *; have HR := Lib.hid (HR.out.below' hb); have hn := kept_box HN.out hb; have HN := Lib.hid hn; have x0 := cell_whole hn 0; have x1 := cell_whole hn 1; have x2 := cell_whole hn 2; have HB := Lib.hid (HB.out.trans (hb.mono HB.out.size)); clear hn; clear hF hn2 hrow hb))
      go_ret
      exact ⟨by simp, HB.out⟩
    · have HNO : Hid (xpE n Z s t H ≠ 0) := Lib.hid (by rw [HE.out]; exact hz)
      have q1 : (e0 == 0) = false := by simpa using hz
      have q2 : (e0 != 0) = true := by simpa using hz
      have q3 : (e0 != e0) = false := by simp
      go_enter Try.func3, Try.ntmps3
      go_wp2_with (first
        | (go_at_call 7; refine (fawake_any _).mono ?_; rintro e wn ⟨rfl, hb⟩; have HR := Lib.hid (HR.out.below' hb); have hn := kept_box HN.out hb; have HN := Lib.hid hn; have x0 := cell_whole hn 0; have x1 := cell_whole hn 1; have x2 := cell_whole hn 2; have HB := Lib.hid (HB.out.trans (hb.mono HB.out.size)); clear hn; clear hb)
        | (go_at_call 8; refine (rasked15_any n H b ao nl cap Z s t _ HR.out HNL.out HM.out).mono ?_; rw [HE.out]; rintro e wn ⟨rfl, hb⟩; have HR := Lib.hid (HR.out.below' hb); have hn := kept_box HN.out hb; have HN := Lib.hid hn; have x0 := cell_whole hn 0; have x1 := cell_whole hn 1; have x2 := cell_whole hn 2; have HB := Lib.hid (HB.out.trans (hb.mono HB.out.size)); clear hn; clear hb)
        | (go_at_call 9; refine (fmost_no n b ao nl cap Z s t H _ HR.out HNL.out HZ.out HNO.out).mono ?_; rw [HE.out]; rintro e wn ⟨rfl, hb⟩; have HR := Lib.hid (HR.out.below' hb); have hn := kept_box HN.out hb; have HN := Lib.hid hn; have x0 := cell_whole hn 0; have x1 := cell_whole hn 1; have x2 := cell_whole hn 2; have HB := Lib.hid (HB.out.trans (hb.mono HB.out.size)); clear hn; clear hb)
        | (go_at_call 10; refine (fmax_no n b ao nl cap Z s t H _ HR.out HNL.out HZ.out HNO.out).mono ?_; rw [HE.out]; rintro e wn ⟨rfl, hb⟩; have HR := Lib.hid (HR.out.below' hb); have hn := kept_box HN.out hb; have HN := Lib.hid hn; have x0 := cell_whole hn 0; have x1 := cell_whole hn 1; have x2 := cell_whole hn 2; have HB := Lib.hid (HB.out.trans (hb.mono HB.out.size)); clear hn; clear hb)
        | (go_at_call 11; refine (fcut_no n b ao nl cap Z s t H _ HR.out HNL.out HZ.out HNO.out).mono ?_; rw [HE.out]; rintro e wn ⟨rfl, hb⟩; have HR := Lib.hid (HR.out.below' hb); have hn := kept_box HN.out hb; have HN := Lib.hid hn; have x0 := cell_whole hn 0; have x1 := cell_whole hn 1; have x2 := cell_whole hn 2; have HB := Lib.hid (HB.out.trans (hb.mono HB.out.size)); clear hn; clear hb))
      go_ret
      exact ⟨by simp, HB.out⟩
end Go.Proofs.Ytlkbohpnlbfopaa
