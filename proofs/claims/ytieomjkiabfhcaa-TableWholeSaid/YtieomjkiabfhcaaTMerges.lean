/- The walk of statement TableMerges. -/
import Derived.Test.YtieomjkiabfhcaaTRmerge
import Derived.Test.YtieomjkiabfhcaaTSame
namespace Go.Proofs.Ytieomjkiabfhcaa
open Go.RowKit
set_option linter.unusedVariables false

theorem rmerge_nil (ao : Option Addr) (cap : Nat) (w : World) : Calls Try.prog 20 #[.slice ao 0 cap] w (MergeRes [] w) := by
  have HG : Hid (∀ W, Calls Try.prog 17 #[.slice ao 0 cap] W (GroupsRes [] W)) := Lib.hid (fun W => rgroups_nil ao cap W)
  go_enter Try.func20, Try.ntmps20
  go_wp2_with (go_at_call 17; refine (HG.out _).mono ?_; rintro e w1 ⟨ga, gc, rfl, hg1, hb1⟩; have HB1 := Lib.hid hb1; clear hg1 hb1)
  refine wp_loop_rounds 1 ?_
  rw [rounds_succ]
  go_wp2
  go_ret2
  exact ⟨HB1.out, .inl ⟨fun s hs => by simp [mrgS, tots, keysOf, grps_nil] at hs, none, 0, [], rfl, Row.nil _ _, List.Perm.refl _, List.Pairwise.nil⟩⟩
theorem rmerge_any (ao : Option Addr) (cap : Nat) (Z : List ArcT) (w : World) (h : Row encA 4 w ao Z) (hok : OkA Z) (hn : Z.length ≤ 200) :
    Calls Try.prog 20 #[.slice ao Z.length cap] w (MergeRes Z w) := by
  cases Z with
  | nil => exact rmerge_nil ao cap w
  | cons z Z =>
    obtain ⟨b, o, rfl, _⟩ := h 0 (by simp)
    exact rmerge_some _ cap _ w h hok hn
theorem mrg_le (Z : List ArcT) : (mrg Z).length ≤ Z.length := by
  unfold mrg; rw [List.length_map]; have := firsts_len (keysOf Z); simp [keysOf] at this; unfold keysOf; omega
set_option maxRecDepth 100000 in
set_option maxHeartbeats 4000000 in
theorem merges_law (w : World) (ao : Option Addr) (len cap : Nat) (Z : List ArcT) (hl : Z.length = len) (hm : len ≤ maxLen) (hr : Row encA 4 w ao Z) (hk : OkA Z) :
    Calls Try.prog 5 #[.slice ao len cap] w fun e w' => e = .returned (.bool true) ∧ Below w.heap.size w w' := by
  unfold maxLen at hm
  subst hl
  have HR := Lib.hid hr
  have HK := Lib.hid hk
  clear hr hk
  by_cases h : 200 < Z.length
  · go_enter Try.func5, Try.ntmps5
    go_wp2_with (go_at_call 13; refine (awake_any _).mono ?_; rintro e w1 ⟨rfl, hb1⟩)
    go_ret
    exact ⟨rfl, hb1⟩
  · have hs : Z.length ≤ 200 := by omega
    go_enter Try.func5, Try.ntmps5
    go_wp2_with fail
    refine (merge_any ao cap Z _ HR.out HK.out hs).mono ?_
    rintro e w1 ⟨hb1, ⟨hall, xa, xc, X, rfl, hx, hxp, hxs⟩ | ⟨hall, rfl⟩⟩
    · have HALL := Lib.hid hall
      have HX := Lib.hid hx
      have HXP := Lib.hid hxp
      have HXS := Lib.hid hxs
      have HB1 := Lib.hid hb1
      have HR1 := Lib.hid (HR.out.below' hb1)
      have hxl : X.length ≤ 200 := (by rw [hxp.length_eq]; exact Nat.le_trans (mrg_le Z) hs)
      clear hall hx hxp hxs hb1
      go_wp2_with fail
      refine (rmerge_any ao cap Z _ HR1.out HK.out hs).mono ?_
      rintro e w2 ⟨hb2, ⟨hall2, ya, yc, Y, rfl, hy, hyp, hys⟩ | ⟨hall2, rfl⟩⟩
      · have HYE : Hid (X = Y) := Lib.hid (sorted_unique HXS.out hys (HXP.out.trans hyp.symm) (fun x hx y hy e => mrg_inj (HXP.out.mem_iff.1 hx) (HXP.out.mem_iff.1 hy) e))
        have HX2 := Lib.hid (HX.out.below' hb2)
        have HY2 : Hid (Row encA 4 w2 ya X) := Lib.hid (HYE.out ▸ hy)
        have HYL : Hid (X.length = Y.length) := Lib.hid (by rw [HYE.out])
        have HB2 := Lib.hid (HB1.out.trans (hb2.mono HB1.out.size))
        clear hy hyp hys hb2 hall2
        go_wp2_with (first
          | (go_at_call 13; refine (awake_any _).mono ?_; rintro e w3 ⟨rfl, hb3⟩; have HX3 := Lib.hid (HX2.out.below' hb3); have HY3 := Lib.hid (HY2.out.below' hb3); have HB3 := Lib.hid (HB2.out.trans (hb3.mono HB2.out.size)); clear hb3)
          | (go_at_call 21; refine (samearcs_any xa ya _ _ xc yc X _ rfl HYL.out HX3.out HY3.out (by omega)).mono ?_; rintro e w4 ⟨rfl, n4, hw4⟩; have HB4 : Hid (Below w.heap.size w w4) := Lib.hid (by rw [hw4]; exact ⟨HB3.out.os, HB3.out.tape, HB3.out.output, HB3.out.size, HB3.out.block⟩); clear hw4))
        go_ret
        exact ⟨rfl, HB4.out⟩
      · exact absurd HALL.out hall2
    · have HALL := Lib.hid hall
      have HB1 := Lib.hid hb1
      have HR1 := Lib.hid (HR.out.below' hb1)
      clear hall hb1
      go_wp2_with fail
      refine (rmerge_any ao cap Z _ HR1.out HK.out hs).mono ?_
      rintro e w2 ⟨hb2, ⟨hall2, _⟩ | ⟨hall2, rfl⟩⟩
      · exact absurd hall2 HALL.out
      · have HB2 := Lib.hid (HB1.out.trans (hb2.mono HB1.out.size))
        clear hb2 hall2
        go_wp2_with (first
          | (go_at_call 13; refine (awake_any _).mono ?_; rintro e w3 ⟨rfl, hb3⟩; have HB3 := Lib.hid (HB2.out.trans (hb3.mono HB2.out.size)); clear hb3)
          | (go_at_call 21; refine (samearcs_any none none _ _ 0 0 [] _ rfl rfl (Row.nil _ _) (Row.nil _ _) (by simp)).mono ?_; rintro e w4 ⟨rfl, n4, hw4⟩; have HB4 : Hid (Below w.heap.size w w4) := Lib.hid (by rw [hw4]; exact ⟨HB3.out.os, HB3.out.tape, HB3.out.output, HB3.out.size, HB3.out.block⟩); clear hw4))
        go_ret
        exact ⟨rfl, HB4.out⟩
end Go.Proofs.Ytieomjkiabfhcaa
