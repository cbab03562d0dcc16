/- The walk of statement TableMoves, from the document's Moves. -/
import Derived.Test.YtieomjkiabfhcaaTRmoves
import Derived.Test.YtieomjkiabfhcaaTOrd
namespace Go.Proofs.Ytieomjkiabfhcaa
open Go.RowKit
set_option linter.unusedVariables false

set_option maxRecDepth 100000 in
set_option maxHeartbeats 1000000 in
theorem rmoves_nil (ao : Option Addr) (cap : Nat) (w : World) : Calls Try.prog 30 #[.slice ao 0 cap] w (MovesRes [] w) := by
  go_enter Try.func30, Try.ntmps30
  go_wp2
  refine wp_loop_rounds 1 ?_
  rw [rounds_succ]
  go_wp2
  go_ret2
  exact ⟨Below.refl _ _, .inl ⟨fun s hs => by simp [mvS, tots, grps, pairsOf, firsts] at hs, none, 0, [], rfl, Row.nil _ _, List.Perm.refl _, List.Pairwise.nil⟩⟩
theorem rmoves_from (hsome : ∀ (ad : Addr) (cap : Nat) (Z : List MoveT) (w : World), Row encK 3 w (some ad) Z → (∀ x ∈ Z, okK x) → Z.length ≤ 200 → Calls Try.prog 30 #[.slice (some ad) Z.length cap] w (MovesRes Z w))
    (ao : Option Addr) (cap : Nat) (Z : List MoveT) (w : World) (h : Row encK 3 w ao Z) (hk : ∀ x ∈ Z, okK x) (hn : Z.length ≤ 200) : Calls Try.prog 30 #[.slice ao Z.length cap] w (MovesRes Z w) := by
  cases Z with
  | nil => exact rmoves_nil ao cap w
  | cons z Z =>
    obtain ⟨b, o, rfl, _⟩ := h 0 (by simp)
    exact hsome _ cap _ w h hk hn
set_option maxRecDepth 100000 in
set_option maxHeartbeats 2000000 in
theorem moves_law_from (hsome : ∀ (ad : Addr) (cap : Nat) (Z : List MoveT) (w : World), Row encK 3 w (some ad) Z → (∀ x ∈ Z, okK x) → Z.length ≤ 200 → Calls Try.prog 30 #[.slice (some ad) Z.length cap] w (MovesRes Z w))
    (w : World) (ao : Option Addr) (len cap : Nat) (Z : List MoveT) (hl : Z.length = len) (hm : len ≤ maxLen) (hr : Row encK 3 w ao Z) (hk : ∀ x ∈ Z, okK x) :
    Calls Try.prog 9 #[.slice ao len cap] w fun e w' => e = .returned (.bool true) ∧ Below w.heap.size w w' := by
  unfold maxLen at hm
  subst hl
  have HR := Lib.hid hr
  have HK := Lib.hid hk
  have HS := Lib.hid hsome
  clear hr hk hsome
  by_cases h : 200 < Z.length
  · go_enter Try.func9, Try.ntmps9
    go_wp2_with (go_at_call 13; refine (awake_any _).mono ?_; rintro e w1 ⟨rfl, hb1⟩)
    go_ret
    exact ⟨rfl, hb1⟩
  · have hs : Z.length ≤ 200 := by omega
    go_enter Try.func9, Try.ntmps9
    go_wp2_with fail
    refine (moves_any ao cap Z _ HR.out HK.out hs).mono ?_
    rintro e w1 ⟨hb1, ⟨hall, xa, xc, X, rfl, hx, hxp, hxs⟩ | ⟨hall, rfl⟩⟩
    · have HALL := Lib.hid hall
      have HX := Lib.hid hx
      have HXP := Lib.hid hxp
      have HXS := Lib.hid hxs
      have HB1 := Lib.hid hb1
      have HR1 := Lib.hid (HR.out.below' hb1)
      have hxl : X.length ≤ 200 := (by rw [hxp.length_eq]; exact Nat.le_trans (mvs_len Z) hs)
      clear hall hx hxp hxs hb1
      go_wp2_with fail
      refine (rmoves_from HS.out ao cap Z _ HR1.out HK.out hs).mono ?_
      rintro e w2 ⟨hb2, ⟨hall2, ya, yc, Y, rfl, hy, hyp, hys⟩ | ⟨hall2, rfl⟩⟩
      · have HYE : Hid (X = Y) := Lib.hid (sorted_unique HXS.out hys (HXP.out.trans hyp.symm) (fun x hx y hy e => mvs_inj (HXP.out.mem_iff.1 hx) (HXP.out.mem_iff.1 hy) e))
        have HX2 := Lib.hid (HX.out.below' hb2)
        have HY2 : Hid (Row encK 3 w2 ya X) := Lib.hid (HYE.out ▸ hy)
        have HYL : Hid (X.length = Y.length) := Lib.hid (by rw [HYE.out])
        have HB2 := Lib.hid (HB1.out.trans (hb2.mono HB1.out.size))
        clear hy hyp hys hb2 hall2
        go_wp2_with (first
          | (go_at_call 13; refine (awake_any _).mono ?_; rintro e w3 ⟨rfl, hb3⟩; have HX3 := Lib.hid (HX2.out.below' hb3); have HY3 := Lib.hid (HY2.out.below' hb3); have HB3 := Lib.hid (HB2.out.trans (hb3.mono HB2.out.size)); clear hb3)
          | (go_at_call 31; refine (samemoves_any xa ya _ _ xc yc X _ rfl HYL.out HX3.out HY3.out (by omega)).mono ?_; rintro e w4 ⟨rfl, n4, hw4⟩; have HB4 : Hid (Below w.heap.size w w4) := Lib.hid (by rw [hw4]; exact ⟨HB3.out.os, HB3.out.tape, HB3.out.output, HB3.out.size, HB3.out.block⟩); clear hw4))
        go_ret
        exact ⟨rfl, HB4.out⟩
      · exact absurd HALL.out hall2
    · have HALL := Lib.hid hall
      have HB1 := Lib.hid hb1
      have HR1 := Lib.hid (HR.out.below' hb1)
      clear hall hb1
      go_wp2_with fail
      refine (rmoves_from HS.out ao cap Z _ HR1.out HK.out hs).mono ?_
      rintro e w2 ⟨hb2, ⟨hall2, ya, yc, Y, rfl, hy, hyp, hys⟩ | ⟨hall2, rfl⟩⟩
      · exact absurd hall2 HALL.out
      · have HB2 := Lib.hid (HB1.out.trans (hb2.mono HB1.out.size))
        clear hb2 hall2
        go_wp2_with (first
          | (go_at_call 13; refine (awake_any _).mono ?_; rintro e w3 ⟨rfl, hb3⟩; have HB3 := Lib.hid (HB2.out.trans (hb3.mono HB2.out.size)); clear hb3)
          | (go_at_call 31; refine (samemoves_any none none _ _ 0 0 [] _ rfl rfl (Row.nil _ _) (Row.nil _ _) (by simp)).mono ?_; rintro e w4 ⟨rfl, n4, hw4⟩; have HB4 : Hid (Below w.heap.size w w4) := Lib.hid (by rw [hw4]; exact ⟨HB3.out.os, HB3.out.tape, HB3.out.output, HB3.out.size, HB3.out.block⟩); clear hw4))
        go_ret
        exact ⟨rfl, HB4.out⟩
end Go.Proofs.Ytieomjkiabfhcaa
