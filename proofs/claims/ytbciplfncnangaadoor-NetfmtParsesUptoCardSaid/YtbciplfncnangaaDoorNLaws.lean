/- The statements on networks and their texts, walked: Checks, Parses, Back, Again, Apart. -/
import Derived.Test.YtbciplfncnangaaDoorNAwk
namespace Go.Proofs.YtbciplfncnangaaDoor
open Go.RowKit Go.Shelf
set_option linter.unusedVariables false

theorem strAt (l : List UInt8) : ∃ X : ByteArray, X.data.toList = l ∧ strV l = .string X := ⟨⟨l.toArray⟩, rfl, rfl⟩
theorem tab_drew {w : World} (h : Tab w) : Tab w.drew := h.below (below_drew (Below.refl _ w))
theorem same_self (n : NetT) : sameB n n = true := by simp [sameB]
set_option maxRecDepth 100000 in
set_option maxHeartbeats 4000000 in
theorem checks_law (n : Int) (b : Bool) (ao : Option Addr) (len cap : Nat) (Z : List ArcT) (w : World) (hlen : Z.length = len) (h : Row encA 4 w ao Z) (hm : len ≤ maxLen) (ht : Tab w) :
    Calls Tryd.prog 3 #[.agg #[.int .i64 n, .bool b, .slice ao len cap]] w fun e w' => e = .returned (.bool true) ∧ Below w.heap.size w w' := by
  subst hlen
  have HB0 := Lib.hid ((Below.refl w.heap.size w).alloc (Nat.le_refl _) (.cells #[.int .i64 n, .bool b, .slice ao Z.length cap] 24))
  have HT := Lib.hid (ht.below HB0.out)
  have HR := Lib.hid (h.below' HB0.out)
  obtain ⟨X, _, hX⟩ := strAt (prtT n b Z)
  have K1 : Hid (∀ W, Row encA 4 W ao Z → Tab W → Calls Tryd.prog 10 #[.agg #[.int .i64 n, .bool b, .slice ao Z.length cap]] W fun e w' => e = .returned (.tuple #[.string X, .int .i64 (checkE n Z)]) ∧ Below W.heap.size W w') := Lib.hid (fun W hW hT => by have := print_any n b ao cap Z W hW hm hT; unfold prtV at this; rwa [hX] at this)
  have K2 : Hid (∀ W, Row encA 4 W ao Z → Calls Tryd.prog 11 #[.agg #[.int .i64 n, .bool b, .slice ao Z.length cap]] W fun e w' => e = .returned (.tuple #[.string X, .int .i64 (checkE n Z)]) ∧ Below W.heap.size W w') := Lib.hid (fun W hW => by have := rprint_any n b ao cap Z W hW hm; unfold prtV at this; rwa [hX] at this)
  have K3 := Lib.hid (fun W hW => ncheck_any n b ao cap Z W hW hm)
  have K4 := Lib.hid (fun W hW => rcheck_any n b ao cap Z W hW hm)
  generalize checkE n Z = e0 at *
  obtain ⟨c0, c1, c2⟩ := netBox w n b (.slice ao Z.length cap)
  clear ht h hX
  go_enter Tryd.func3, Tryd.ntmps3
  go_wp2_with (first
    | (go_at_call 10; refine (K1.out _ HR.out HT.out).mono ?_; rintro e w2 ⟨rfl, b2⟩; have d0 := cell_below b2 c0; have d1 := cell_below b2 c1; have d2 := cell_below b2 c2; have HR2 := Lib.hid (HR.out.below' b2); have HT2 := Lib.hid (HT.out.below b2); have HB2 := Lib.hid (HB0.out.trans (b2.mono HB0.out.size)); clear b2)
    | (go_at_call 11; refine (K2.out _ HR2.out).mono ?_; rintro e w3 ⟨rfl, b3⟩; have r0 := cell_below b3 d0; have r1 := cell_below b3 d1; have r2 := cell_below b3 d2; have HR3 := Lib.hid (HR2.out.below' b3); have HT3 := Lib.hid (HT2.out.below b3); have HB3 := Lib.hid (HB2.out.trans (b3.mono HB2.out.size)); clear b3)
    | fail)
  clear c0 c1 c2 d0 d1 d2 HR HT HR2 HT2 HB0 HB2
  go_region_held3 (fun W => W.cell? ⟨w.heap.size, 0, none⟩ = some (.int .i64 n) ∧ W.cell? ⟨w.heap.size, 1, none⟩ = some (.bool b) ∧ W.cell? ⟨w.heap.size, 2, none⟩ = some (.slice ao Z.length cap)) (first | exact ⟨r0, r1, r2⟩ | exact ⟨z60, z61, z62⟩ | exact ⟨z50, z51, z52⟩ | exact ⟨z40, z41, z42⟩ | go_keep)
    (first
      | (go_at_call 12; refine (awake_any _ (tab_drew HT3.out)).mono ?_; rintro e w4 ⟨rfl, b4'⟩; have b4 := below_undrew b4'; clear b4'; have z40 := cell_below b4 r0; have z41 := cell_below b4 r1; have z42 := cell_below b4 r2; have HR4 := Lib.hid (HR3.out.below' b4); have HB4 := Lib.hid (HB3.out.trans (b4.mono HB3.out.size)); clear b4)
      | (go_at_call 13; refine (K3.out _ HR4.out).mono ?_; rintro e w5 ⟨rfl, b5⟩; have z50 := cell_below b5 z40; have z51 := cell_below b5 z41; have z52 := cell_below b5 z42; have HR5 := Lib.hid (HR4.out.below' b5); have HB5 := Lib.hid (HB4.out.trans (b5.mono HB4.out.size)); clear b5)
      | (go_at_call 14; refine (K4.out _ HR5.out).mono ?_; rintro e w6 ⟨rfl, b6⟩; have z60 := cell_below b6 z50; have z61 := cell_below b6 z51; have z62 := cell_below b6 z52; have HB6 := Lib.hid (HB5.out.trans (b6.mono HB5.out.size)); clear b6))
  all_goals
    go_wp2
    go_ret
    exact ⟨by simp, HB6.out⟩
set_option maxRecDepth 100000 in
set_option maxHeartbeats 4000000 in
theorem parses_law (s : ByteArray) (w : World) (hs : s.size ≤ 1099511627776) (ht : Tab w) :
    Calls Tryd.prog 4 #[.string s] w fun e w' => e = .returned (.bool true) ∧ Below w.heap.size w w' := by
  have HT := Lib.hid ht
  have K1 := Lib.hid (fun W => parse_any s W hs)
  have K2 := Lib.hid (fun W => rparse_any s W hs)
  have HS := Lib.hid (parse_any_sound (ls := linesL s.data.toList) (n := zeroN) (i := 0) (.inl rfl))
  generalize parseL zeroN 0 (linesL s.data.toList) = r at *
  obtain ⟨⟨n, b, Z⟩, l, e0⟩ := r
  have hZ : Z.length ≤ 200 := sound_len HS.out
  clear ht
  go_enter Tryd.func4, Tryd.ntmps4
  go_wp2_with (first
    | (go_at_call 15; refine (K1.out _).mono ?_; rintro e w1 ⟨v1, rfl, o1, b1⟩; obtain ⟨ao1, cap1, rfl, r1⟩ := own_view o1; have HR1 := Lib.hid (row_alloc r1 (.cells #[.int .i64 n, .bool b, .slice ao1 Z.length cap1] 24)); obtain ⟨c0, c1, c2⟩ := netBox w1 n b (.slice ao1 Z.length cap1); have HB1 := Lib.hid (b1.alloc b1.size (.cells #[.int .i64 n, .bool b, .slice ao1 Z.length cap1] 24)); unfold netV; clear o1 b1 r1)
    | (go_at_call 16; refine (K2.out _).mono ?_; rintro e w2 ⟨v2, rfl, o2, b2⟩; obtain ⟨ao2, cap2, rfl, r2⟩ := own_view o2; have HR2 := Lib.hid (row_alloc r2 (.cells #[.int .i64 n, .bool b, .slice ao2 Z.length cap2] 24)); have HR1' := Lib.hid (row_alloc (HR1.out.below' b2) (.cells #[.int .i64 n, .bool b, .slice ao2 Z.length cap2] 24)); obtain ⟨d0, d1, d2⟩ := netBox w2 n b (.slice ao2 Z.length cap2); have e0' := cell_alloc (cell_below b2 c0) (.cells #[.int .i64 n, .bool b, .slice ao2 Z.length cap2] 24); have e1' := cell_alloc (cell_below b2 c1) (.cells #[.int .i64 n, .bool b, .slice ao2 Z.length cap2] 24); have e2' := cell_alloc (cell_below b2 c2) (.cells #[.int .i64 n, .bool b, .slice ao2 Z.length cap2] 24); have HB2 := Lib.hid ((HB1.out.trans (b2.mono HB1.out.size)).alloc (HB1.out.trans (b2.mono HB1.out.size)).size (.cells #[.int .i64 n, .bool b, .slice ao2 Z.length cap2] 24)); unfold netV; clear o2 b2 r2 c0 c1 c2)
    | (go_at_call 12; refine (awake_any _ (HT.out.below HB2.out)).mono ?_; rintro e w3 ⟨rfl, b3⟩; have f0 := cell_below b3 e0'; have f1 := cell_below b3 e1'; have f2 := cell_below b3 e2'; have g0 := cell_below b3 d0; have g1 := cell_below b3 d1; have g2 := cell_below b3 d2; have HR3 := Lib.hid (HR1'.out.below' b3); have HR4 := Lib.hid (HR2.out.below' b3); have HB3 := Lib.hid (HB2.out.trans (b3.mono HB2.out.size)); clear b3 d0 d1 d2 e0' e1' e2')
    | (go_at_call 17; refine (rsame_any n n b b Z Z _ _ _ _ _ HR3.out HR4.out (by omega)).mono ?_; rintro e w4 ⟨rfl, b4⟩; have HB4 := Lib.hid (HB3.out.trans (b4.mono HB3.out.size)); rw [same_self]; clear b4))
  go_ret
  exact ⟨rfl, HB4.out⟩
end Go.Proofs.YtbciplfncnangaaDoor
