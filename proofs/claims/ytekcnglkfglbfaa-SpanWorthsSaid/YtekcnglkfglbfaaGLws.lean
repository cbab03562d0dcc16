/- SpanWorths. -/
import Derived.Test.YtekcnglkfglbfaaGAwk
import Derived.Test.YtekcnglkfglbfaaGRef
namespace Go.Proofs.Ytekcnglkfglbfaa
open Go.RowKit
set_option linter.unusedVariables false

section
variable (n : Int) (b : Bool) (ao : Option Addr) (len cap : Nat) (Z : List ArcT)
set_option maxRecDepth 100000 in
set_option maxHeartbeats 4000000 in
theorem worths_law (fo : Option Addr) (fl fc : Nat) (F : List Int) (s t H : Int) (w : World) (hl : Z.length = len) (hm : len ≤ maxLen) (hr : Row encA 4 w ao Z) (hl1 : F.length = fl) (hm1 : fl ≤ maxLen) (hf : Lst encI w fo F) :
    Calls Try.prog 3 #[.agg #[.int .i64 n, .bool b, .slice ao len cap], .int .i64 s, .int .i64 t, .slice fo fl fc, .int .i64 H] w fun e w' => e = .returned (.bool true) ∧ Below w.heap.size w w' := by
  subst hl
  subst hl1
  have hb00 := (Below.refl _ w).alloc (Nat.le_refl _) (.cells #[.int .i64 n, .bool b, .slice ao Z.length cap] 24)
  have HB := Lib.hid hb00
  have HN := Lib.hid (heap_alloc_new w (.cells #[.int .i64 n, .bool b, .slice ao Z.length cap] 24))
  have HR := Lib.hid (hr.below' hb00)
  have HM := Lib.hid hm
  have x0 := cell_whole HN.out 0
  have x1 := cell_whole HN.out 1
  have x2 := cell_whole HN.out 2
  have HF := Lib.hid (hf.below hb00)
  have HMF := Lib.hid hm1
  clear hr hm hb00 hf hm1
  obtain ⟨v0, hv⟩ : ∃ v0, worV n Z s t F H = v0 := ⟨_, rfl⟩
  obtain ⟨e0, he⟩ : ∃ e0, worE n Z s t F H = e0 := ⟨_, rfl⟩
  have HV := Lib.hid hv
  have HE := Lib.hid he
  clear hv he
  go_enter Try.func3, Try.ntmps3
  go_wp2_with (first
    | (go_at_call 7; refine (pworth_any n b ao fo cap fc Z F s t H _ HR.out HF.out HM.out HMF.out).mono ?_; rw [HV.out, HE.out]; rintro e wn ⟨rfl, hb⟩; have HR := Lib.hid (HR.out.below' hb); have hn := kept_box HN.out hb; have HN := Lib.hid hn; have x0 := cell_whole hn 0; have x1 := cell_whole hn 1; have x2 := cell_whole hn 2; have HF := Lib.hid (HF.out.below hb); have HB := Lib.hid (HB.out.trans (hb.mono HB.out.size)); clear hb hn)
    | (go_at_call 8; refine (rworth_any n b ao fo cap fc Z F s t H _ HR.out HF.out HM.out HMF.out).mono ?_; rw [HV.out, HE.out]; rintro e wn ⟨rfl, hb⟩; have HR := Lib.hid (HR.out.below' hb); have hn := kept_box HN.out hb; have HN := Lib.hid hn; have x0 := cell_whole hn 0; have x1 := cell_whole hn 1; have x2 := cell_whole hn 2; have HF := Lib.hid (HF.out.below hb); have HB := Lib.hid (HB.out.trans (hb.mono HB.out.size)); clear hb hn)
    | (go_at_call 9; refine (pawake_any _).mono ?_; rintro e wn ⟨rfl, hb⟩; have HR := Lib.hid (HR.out.below' hb); have hn := kept_box HN.out hb; have HN := Lib.hid hn; have x0 := cell_whole hn 0; have x1 := cell_whole hn 1; have x2 := cell_whole hn 2; have HB := Lib.hid (HB.out.trans (hb.mono HB.out.size)); clear hb hn))
  go_ret
  exact ⟨by simp, HB.out⟩
end
end Go.Proofs.Ytekcnglkfglbfaa
