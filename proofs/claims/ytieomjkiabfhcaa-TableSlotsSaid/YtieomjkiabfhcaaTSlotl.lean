/- The walk of statement TableSlots. -/
import Derived.Test.YtieomjkiabfhcaaTSlots
import Derived.Test.YtieomjkiabfhcaaTOrd
namespace Go.Proofs.Ytieomjkiabfhcaa
open Go.RowKit
set_option linter.unusedVariables false

theorem rslots_nil (ao : Option Addr) (cap : Nat) (w : World) : Calls Try.prog 28 #[.slice ao 0 cap] w (SlotsRes [] w) := by
  go_enter Try.func28, Try.ntmps28
  go_wp2
  refine wp_loop_rounds 1 ?_
  rw [rounds_succ]
  go_wp2
  go_ret
  exact ⟨none, 0, [], rfl, Row.nil _ _, List.Perm.refl _, List.Pairwise.nil, Below.refl _ _⟩
theorem rslots_any (ao : Option Addr) (cap : Nat) (Z : List (Int × Int)) (w : World) (h : Row encP 2 w ao Z) (hn : Z.length ≤ 200) : Calls Try.prog 28 #[.slice ao Z.length cap] w (SlotsRes Z w) := by
  cases Z with
  | nil => exact rslots_nil ao cap w
  | cons z Z =>
    obtain ⟨b, o, rfl, _⟩ := h 0 (by simp)
    exact rslots_some _ cap _ w h hn
set_option maxRecDepth 100000 in
set_option maxHeartbeats 2000000 in
theorem slots_law (w : World) (ao : Option Addr) (len cap : Nat) (Z : List (Int × Int)) (hl : Z.length = len) (hm : len ≤ maxLen) (hr : Row encP 2 w ao Z) (hk : ∀ x ∈ Z, okP x) :
    Calls Try.prog 8 #[.slice ao len cap] w fun e w' => e = .returned (.bool true) ∧ Below w.heap.size w w' := by
  unfold maxLen at hm
  subst hl
  have HR := Lib.hid hr
  have HK := Lib.hid hk
  clear hr hk
  by_cases h : 200 < Z.length
  · go_enter Try.func8, Try.ntmps8
    go_wp2_with (go_at_call 13; refine (awake_any _).mono ?_; rintro e w1 ⟨rfl, hb1⟩)
    go_ret
    exact ⟨rfl, hb1⟩
  · have hs : Z.length ≤ 200 := by omega
    go_enter Try.func8, Try.ntmps8
    go_wp2_with (first
      | (go_at_call 13; refine (awake_any _).mono ?_; rintro e w1 ⟨rfl, hb1⟩; have HB1 := Lib.hid hb1; have HR1 := Lib.hid (HR.out.below' hb1); clear hb1)
      | (go_at_call 27; refine (slots_any ao cap Z _ HR1.out HK.out hs).mono ?_; rintro e w2 ⟨xa, xc, X, rfl, hx, hxp, hxs, hb2⟩; have HX := Lib.hid hx; have HXP := Lib.hid hxp; have HXS := Lib.hid hxs; have hxl : X.length ≤ 200 := (by rw [hxp.length_eq]; have := firsts_len Z; omega); have HR2 := Lib.hid (HR1.out.below' hb2); have HB2 := Lib.hid (HB1.out.trans (hb2.mono HB1.out.size)); clear hx hxp hxs hb2)
      | (go_at_call 28; refine (rslots_any ao cap Z _ HR2.out hs).mono ?_; rintro e w3 ⟨ya, yc, Y, rfl, hy, hyp, hys, hb3⟩; have HYE : Hid (X = Y) := Lib.hid (slots_same (fun x => Iff.rfl) HXP.out hyp HXS.out hys); have HX3 := Lib.hid (HX.out.below' hb3); have HY3 : Hid (Row encP 2 w3 ya X) := Lib.hid (HYE.out ▸ hy); have HYL : Hid (X.length = Y.length) := Lib.hid (by rw [HYE.out]); have HB3 := Lib.hid (HB2.out.trans (hb3.mono HB2.out.size)); clear hy hyp hys hb3)
      | (go_at_call 26; refine (sameslots_any xa ya _ _ xc yc X _ rfl HYL.out HX3.out HY3.out (by omega)).mono ?_; rintro e w4 ⟨rfl, n4, hw4⟩; have HB4 : Hid (Below w.heap.size w w4) := Lib.hid (by rw [hw4]; exact ⟨HB3.out.os, HB3.out.tape, HB3.out.output, HB3.out.size, HB3.out.block⟩); clear hw4))
    go_ret
    exact ⟨rfl, HB4.out⟩
end Go.Proofs.Ytieomjkiabfhcaa
