/- The document's Span, Asked and Worth of layer 12. -/
import Derived.Test.YtbkmfjegbmjknaaGSpec
namespace Go.Proofs.Ytbkmfjegbmjknaa
open Go.RowKit
set_option linter.unusedVariables false

theorem rspan_any (H : Int) (w : World) : Calls Try.prog 41 #[.int .i64 H] w fun e w' => e = .returned (.int .i64 (spanE H)) ∧ Below w.heap.size w w' := by
  have HB := Lib.hid (Below.refl w.heap.size w)
  by_cases h1 : H < 0
  · have HE : Hid (spanE H = 1) := Lib.hid (by unfold spanE; rw [if_pos h1])
    go_enter Try.func41, Try.ntmps41
    go_wp2
    go_ret
    exact ⟨by rw [HE.out]; rfl, HB.out⟩
  · by_cases h2 : H > 1024
    · have HE : Hid (spanE H = 2) := Lib.hid (by unfold spanE; rw [if_neg h1, if_pos h2])
      go_enter Try.func41, Try.ntmps41
      go_wp2
      go_ret
      exact ⟨by rw [HE.out]; rfl, HB.out⟩
    · have HE : Hid (spanE H = 0) := Lib.hid (by unfold spanE; rw [if_neg h1, if_neg h2])
      go_enter Try.func41, Try.ntmps41
      go_wp2
      go_ret
      exact ⟨by rw [HE.out]; rfl, HB.out⟩
section
variable (n : Int) (b : Bool) (ao fo : Option Addr) (cap fc : Nat) (Z : List ArcT) (F : List Int)
set_option maxRecDepth 100000 in
set_option maxHeartbeats 4000000 in
theorem rasked12_any (s t H : Int) (w : World) (h : Row encA 4 w ao Z) (hz : Z.length ≤ maxLen) :
    Calls Try.prog 69 #[.agg #[.int .i64 n, .bool b, .slice ao Z.length cap], .int .i64 s, .int .i64 t, .int .i64 H] w fun e w' => e = .returned (.int .i64 (askE n Z s t H)) ∧ Below w.heap.size w w' := by
  have hb00 := (Below.refl _ w).alloc (Nat.le_refl _) (.cells #[.int .i64 n, .bool b, .slice ao Z.length cap] 24)
  have HB0 := Lib.hid hb00
  have HN0 := Lib.hid (heap_alloc_new w (.cells #[.int .i64 n, .bool b, .slice ao Z.length cap] 24))
  have c0 := cell_whole HN0.out 0
  have c1 := cell_whole HN0.out 1
  have c2 := cell_whole HN0.out 2
  have HR := Lib.hid (h.below' hb00)
  have HZ := Lib.hid hz
  clear h hz hb00
  obtain ⟨e0, he⟩ : ∃ e0, endsE n Z s t = e0 := ⟨_, rfl⟩
  have HE := Lib.hid he
  by_cases h0 : e0 = 0
  · subst h0
    obtain ⟨e1, he1⟩ : ∃ e1, spanE H = e1 := ⟨_, rfl⟩
    have HS := Lib.hid he1
    have HA : Hid (askE n Z s t H = e1) := Lib.hid (by unfold askE; rw [if_pos he, he1])
    clear he he1
    go_enter Try.func69, Try.ntmps69
    go_wp2_with (first
      | (go_at_call 93; refine (rends_is n b ao cap Z s t 0 _ HR.out HZ.out HE.out).mono ?_; rintro e w1 ⟨rfl, hb1⟩; have HB1 := Lib.hid (HB0.out.trans (hb1.mono HB0.out.size)); clear hb1)
      | (go_at_call 41; refine (rspan_any H _).mono ?_; rw [HS.out]; rintro e w2 ⟨rfl, hb2⟩; have HB2 := Lib.hid (HB1.out.trans (hb2.mono HB1.out.size)); clear hb2))
    go_ret
    exact ⟨by rw [HA.out]; rfl, HB2.out⟩
  · have hf1 : (e0 != 0) = true := by simpa using h0
    have hf2 : (e0 == 0) = false := by simpa using h0
    have HA : Hid (askE n Z s t H = e0) := Lib.hid (by unfold askE; rw [if_neg (by rw [he]; exact h0), he])
    clear he h0
    go_enter Try.func69, Try.ntmps69
    go_wp2_with (first
      | (go_at_call 93; refine (rends_is n b ao cap Z s t e0 _ HR.out HZ.out HE.out).mono ?_; rintro e w1 ⟨rfl, hb1⟩; have HB1 := Lib.hid (HB0.out.trans (hb1.mono HB0.out.size)); clear hb1))
    go_ret
    exact ⟨by rw [HA.out]; rfl, HB1.out⟩
theorem rasked12_is (e0 : Int) (s t H : Int) (w : World) (h : Row encA 4 w ao Z) (hz : Z.length ≤ maxLen) (he : askE n Z s t H = e0) :
    Calls Try.prog 69 #[.agg #[.int .i64 n, .bool b, .slice ao Z.length cap], .int .i64 s, .int .i64 t, .int .i64 H] w fun e w' => e = .returned (.int .i64 e0) ∧ Below w.heap.size w w' := by
  subst he; exact rasked12_any n b ao cap Z s t H w h hz
end
end Go.Proofs.Ytbkmfjegbmjknaa
