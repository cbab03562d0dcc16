/- What is told of a network is read as that network; the statements Back, Again and Apart, walked. -/
import Derived.Test.YtbciplfncnangaaDoorNLaws
namespace Go.Proofs.YtbciplfncnangaaDoor
open Go.RowKit Go.Shelf
set_option linter.unusedVariables false

theorem net_size {n : Int} {b : Bool} {Z : List ArcT} (h : Right (n, b, Z)) : (netT n b Z).length ≤ 20000 := by
  have h1 : (headT n b).length ≤ 40 := head_size b h.1
  have h2 := arcs_size h.1 Z h.2.2
  have h3 : Z.length ≤ 200 := h.2.1
  unfold netT
  rw [List.length_append, List.length_cons]; omega
/-- Parse of the text of a network in which nothing is wrong. -/
theorem parse_text {n : Int} {b : Bool} {Z : List ArcT} (h : Right (n, b, Z)) {X : ByteArray} (hX : X.data.toList = netT n b Z) (w : World) :
    Calls Tryd.prog 15 #[.string X] w fun e w' => ∃ ao cap, e = .returned (.tuple #[.agg #[.int .i64 n, .bool b, .slice ao Z.length cap], .int .i64 0, .int .i64 0]) ∧ Row encA 4 w' ao Z ∧ Below w.heap.size w w' := by
  have hs := net_size h
  rw [← hX, size_data] at hs
  refine (parse_any X w (by omega)).mono ?_
  rintro e w' hr
  rw [hX, parse_back h] at hr
  obtain ⟨v, rfl, ho, hb⟩ := hr
  obtain ⟨ao, cap, rfl, hrow⟩ := own_view ho
  exact ⟨ao, cap, rfl, hrow, hb⟩
/-- Print of such a network. -/
theorem print_text {n : Int} {b : Bool} {Z : List ArcT} (h : Right (n, b, Z)) {X : ByteArray} (hX : X.data.toList = netT n b Z) (ao : Option Addr) (cap : Nat) (w : World) (hr : Row encA 4 w ao Z) (ht : Tab w) :
    Calls Tryd.prog 10 #[.agg #[.int .i64 n, .bool b, .slice ao Z.length cap]] w fun e w' => e = .returned (.tuple #[.string X, .int .i64 0]) ∧ Below w.heap.size w w' := by
  refine (print_core n b ao cap Z w hr h ht).mono ?_
  rintro e w' ⟨rfl, hb⟩
  exact ⟨by rw [← hX, strV_of], hb⟩
set_option maxRecDepth 100000 in
set_option maxHeartbeats 4000000 in
theorem back_law (n : Int) (b : Bool) (ao : Option Addr) (len cap : Nat) (Z : List ArcT) (w : World) (hlen : Z.length = len) (h : Row encA 4 w ao Z) (hm : len ≤ maxLen) (ht : Tab w) :
    Calls Tryd.prog 5 #[.agg #[.int .i64 n, .bool b, .slice ao len cap]] w fun e w' => e = .returned (.bool true) ∧ Below w.heap.size w w' := by
  subst hlen
  have HB0 := Lib.hid ((Below.refl w.heap.size w).alloc (Nat.le_refl _) (.cells #[.int .i64 n, .bool b, .slice ao Z.length cap] 24))
  have HT := Lib.hid (ht.below HB0.out)
  have HR := Lib.hid (h.below' HB0.out)
  obtain ⟨c0, c1, c2⟩ := netBox w n b (.slice ao Z.length cap)
  clear ht h
  by_cases hc : checkE n Z = 0
  · have hr : Right (n, b, Z) := right_iff.1 hc
    have hZ : Z.length ≤ 200 := hr.2.1
    obtain ⟨X, hX, _⟩ := strAt (netT n b Z)
    have K1 := Lib.hid (fun W hW hT => print_text hr hX ao cap W hW hT)
    have K2 := Lib.hid (fun W => parse_text hr hX W)
    clear hr hX hc
    go_enter Tryd.func5, Tryd.ntmps5
    go_wp2_with (first
      | (go_at_call 12; refine (awake_any _ HT.out).mono ?_; rintro e w2 ⟨rfl, b2⟩; have d0 := cell_below b2 c0; have d1 := cell_below b2 c1; have d2 := cell_below b2 c2; have HR2 := Lib.hid (HR.out.below' b2); have HT2 := Lib.hid (HT.out.below b2); have HB2 := Lib.hid (HB0.out.trans (b2.mono HB0.out.size)); clear b2 c0 c1 c2)
      | (go_at_call 10; refine (K1.out _ HR2.out HT2.out).mono ?_; rintro e w3 ⟨rfl, b3⟩; have e0 := cell_below b3 d0; have e1 := cell_below b3 d1; have e2 := cell_below b3 d2; have HR3 := Lib.hid (HR2.out.below' b3); have HB3 := Lib.hid (HB2.out.trans (b3.mono HB2.out.size)); clear b3 d0 d1 d2)
      | (go_at_call 15; refine (K2.out _).mono ?_; rintro e w4 ⟨ao4, cap4, rfl, r4, b4⟩; have f0 := cell_alloc (cell_below b4 e0) (.cells #[.int .i64 n, .bool b, .slice ao4 Z.length cap4] 24); have f1 := cell_alloc (cell_below b4 e1) (.cells #[.int .i64 n, .bool b, .slice ao4 Z.length cap4] 24); have f2 := cell_alloc (cell_below b4 e2) (.cells #[.int .i64 n, .bool b, .slice ao4 Z.length cap4] 24); have HR4 := Lib.hid (row_alloc (HR3.out.below' b4) (.cells #[.int .i64 n, .bool b, .slice ao4 Z.length cap4] 24)); have HR5 := Lib.hid (row_alloc r4 (.cells #[.int .i64 n, .bool b, .slice ao4 Z.length cap4] 24)); have HB4 := Lib.hid ((HB3.out.trans (b4.mono HB3.out.size)).alloc (HB3.out.trans (b4.mono HB3.out.size)).size (.cells #[.int .i64 n, .bool b, .slice ao4 Z.length cap4] 24)); clear b4 r4 e0 e1 e2)
      | (go_at_call 17; refine (rsame_any n n b b Z Z _ _ _ _ _ HR4.out HR5.out (by omega)).mono ?_; rintro e w5 ⟨rfl, b5⟩; have HB5 := Lib.hid (HB4.out.trans (b5.mono HB4.out.size)); rw [same_self]; clear b5))
    go_ret
    exact ⟨rfl, HB5.out⟩
  · have K1 := Lib.hid (fun W hW => print_bad n b ao cap Z W hW hm hc)
    have K2 := Lib.hid (fun W hW => ncheck_any n b ao cap Z W hW hm)
    generalize checkE n Z = e0 at *
    have hf2 : (e0 != 0) = true := by simpa using hc
    have hf1 : (e0 == 0) = false := by simpa using hc
    clear hc
    go_enter Tryd.func5, Tryd.ntmps5
    go_wp2_with (first
      | (go_at_call 12; refine (awake_any _ HT.out).mono ?_; rintro e w2 ⟨rfl, b2⟩; have d0 := cell_below b2 c0; have d1 := cell_below b2 c1; have d2 := cell_below b2 c2; have HR2 := Lib.hid (HR.out.below' b2); have HB2 := Lib.hid (HB0.out.trans (b2.mono HB0.out.size)); clear b2 c0 c1 c2)
      | (go_at_call 10; refine (K1.out _ HR2.out).mono ?_; rintro e w3 ⟨rfl, b3⟩; have e0 := cell_below b3 d0; have e1 := cell_below b3 d1; have e2 := cell_below b3 d2; have HR3 := Lib.hid (HR2.out.below' b3); have HB3 := Lib.hid (HB2.out.trans (b3.mono HB2.out.size)); clear b3 d0 d1 d2)
      | (go_at_call 13; refine (K2.out _ HR3.out).mono ?_; rintro e w4 ⟨rfl, b4⟩; have HB4 := Lib.hid (HB3.out.trans (b4.mono HB3.out.size)); clear b4))
    go_ret
    exact ⟨by simp, HB4.out⟩
set_option maxRecDepth 100000 in
set_option maxHeartbeats 4000000 in
theorem again_law (s : ByteArray) (w : World) (hs : s.size ≤ 1099511627776) (ht : Tab w) :
    Calls Tryd.prog 6 #[.string s] w fun e w' => e = .returned (.bool true) ∧ Below w.heap.size w w' := by
  have HT := Lib.hid ht
  have K0 := Lib.hid (fun W => parse_any s W hs)
  have hps := parse_sound (linesL s.data.toList) zeroN 0 (.inl rfl)
  have hpz := parse_zero (linesL s.data.toList) zeroN 0
  generalize parseL zeroN 0 (linesL s.data.toList) = r at *
  obtain ⟨⟨n, b, Z⟩, l, e0⟩ := r
  clear ht
  by_cases he : e0 = 0
  · subst he
    obtain ⟨hr, hl0⟩ := hps rfl
    simp only at hr hl0
    subst hl0
    have hZ : Z.length ≤ 200 := hr.2.1
    obtain ⟨X, hX, _⟩ := strAt (netT n b Z)
    have hck : checkE n Z = 0 := right_iff.2 hr
    have K1 := Lib.hid (fun W ao cap hW hT => print_text hr hX ao cap W hW hT)
    have K2 := Lib.hid (fun W => parse_text hr hX W)
    have K3 : Hid (∀ W ao cap, Row encA 4 W ao Z → Calls Tryd.prog 13 #[.agg #[.int .i64 n, .bool b, .slice ao Z.length cap]] W fun e w' => e = .returned (.int .i64 0) ∧ Below W.heap.size W w') := Lib.hid (fun W ao cap hW => by have := ncheck_any n b ao cap Z W hW (by unfold maxLen; omega); rwa [hck] at this)
    clear hr hX hps hpz hck
    go_enter Tryd.func6, Tryd.ntmps6
    go_wp2_with (first
      | (go_at_call 12; refine (awake_any _ HT.out).mono ?_; rintro e w1 ⟨rfl, b1⟩; have HB1 := Lib.hid b1; clear b1)
      | (go_at_call 15; (with_reducible refine (K0.out _).mono ?_); rintro e w2 ⟨v2, rfl, o2, b2⟩; obtain ⟨ao2, cap2, rfl, r2⟩ := own_view o2; have HR2 := Lib.hid (row_alloc r2 (.cells #[.int .i64 n, .bool b, .slice ao2 Z.length cap2] 24)); obtain ⟨c0, c1, c2⟩ := netBox w2 n b (.slice ao2 Z.length cap2); have HB2 := Lib.hid ((HB1.out.trans (b2.mono HB1.out.size)).alloc (HB1.out.trans (b2.mono HB1.out.size)).size (.cells #[.int .i64 n, .bool b, .slice ao2 Z.length cap2] 24)); unfold netV; clear o2 b2 r2 K0)
      | (go_at_call 10; (with_reducible refine (K1.out _ ao2 cap2 HR2.out (HT.out.below HB2.out)).mono ?_); rintro e w3 ⟨rfl, b3⟩; have d0 := cell_below b3 c0; have d1 := cell_below b3 c1; have d2 := cell_below b3 c2; have HR3 := Lib.hid (HR2.out.below' b3); have HB3 := Lib.hid (HB2.out.trans (b3.mono HB2.out.size)); clear b3 c0 c1 c2 HR2)
      | (go_at_call 15; (with_reducible refine (K2.out _).mono ?_); rintro e w4 ⟨ao4, cap4, rfl, r4, b4⟩; have f0 := cell_alloc (cell_below b4 d0) (.cells #[.int .i64 n, .bool b, .slice ao4 Z.length cap4] 24); have f1 := cell_alloc (cell_below b4 d1) (.cells #[.int .i64 n, .bool b, .slice ao4 Z.length cap4] 24); have f2 := cell_alloc (cell_below b4 d2) (.cells #[.int .i64 n, .bool b, .slice ao4 Z.length cap4] 24); obtain ⟨g0, g1, g2⟩ := netBox w4 n b (.slice ao4 Z.length cap4); have HR4 := Lib.hid (row_alloc (HR3.out.below' b4) (.cells #[.int .i64 n, .bool b, .slice ao4 Z.length cap4] 24)); have HR5 := Lib.hid (row_alloc r4 (.cells #[.int .i64 n, .bool b, .slice ao4 Z.length cap4] 24)); have HB4 := Lib.hid ((HB3.out.trans (b4.mono HB3.out.size)).alloc (HB3.out.trans (b4.mono HB3.out.size)).size (.cells #[.int .i64 n, .bool b, .slice ao4 Z.length cap4] 24)); clear b4 r4 d0 d1 d2)
      | (go_at_call 10; (with_reducible refine (K1.out _ ao4 cap4 HR5.out (HT.out.below HB4.out)).mono ?_); rintro e w5 ⟨rfl, b5⟩; have h0 := cell_below b5 f0; have h1 := cell_below b5 f1; have h2 := cell_below b5 f2; have i0 := cell_below b5 g0; have i1 := cell_below b5 g1; have i2 := cell_below b5 g2; have HR6 := Lib.hid (HR4.out.below' b5); have HR7 := Lib.hid (HR5.out.below' b5); have HB5 := Lib.hid (HB4.out.trans (b5.mono HB4.out.size)); clear b5 f0 f1 f2 g0 g1 g2)
      | (go_at_call 13; refine (K3.out _ _ _ HR6.out).mono ?_; rintro e w6 ⟨rfl, b6⟩; have j0 := cell_below b6 h0; have j1 := cell_below b6 h1; have j2 := cell_below b6 h2; have k0 := cell_below b6 i0; have k1 := cell_below b6 i1; have k2 := cell_below b6 i2; have HR8 := Lib.hid (HR6.out.below' b6); have HR9 := Lib.hid (HR7.out.below' b6); have HB6 := Lib.hid (HB5.out.trans (b6.mono HB5.out.size)); clear b6 h0 h1 h2 i0 i1 i2)
      | (go_at_call 17; refine (rsame_any n n b b Z Z _ _ _ _ _ HR8.out HR9.out (by omega)).mono ?_; rintro e w7 ⟨rfl, b7⟩; have HB7 := Lib.hid (HB6.out.trans (b7.mono HB6.out.size)); rw [same_self]; clear b7))
    go_ret
    exact ⟨by simp, HB7.out⟩
  · have hz := hpz he
    simp only [zeroN, Prod.mk.injEq] at hz
    obtain ⟨rfl, rfl, rfl⟩ := hz
    have hf2 : (e0 != 0) = true := by simpa using he
    have hf1 : (e0 == 0) = false := by simpa using he
    clear he hps hpz
    go_enter Tryd.func6, Tryd.ntmps6
    go_wp2_with (first
      | (go_at_call 12; refine (awake_any _ HT.out).mono ?_; rintro e w1 ⟨rfl, b1⟩; have HB1 := Lib.hid b1; clear b1)
      | (go_at_call 15; (with_reducible refine (K0.out _).mono ?_); rintro e w2 ⟨v2, rfl, o2, b2⟩; obtain ⟨ao2, cap2, rfl, r2⟩ := own_view o2; obtain ⟨c0, c1, c2⟩ := netBox w2 0 false (.slice ao2 0 cap2); have HB2 := Lib.hid ((HB1.out.trans (b2.mono HB1.out.size)).alloc (HB1.out.trans (b2.mono HB1.out.size)).size (.cells #[.int .i64 0, .bool false, .slice ao2 0 cap2] 24)); unfold netV; clear o2 b2 r2)
      | (go_at_call 17; refine (rsame_any 0 0 false false [] [] _ _ _ _ _ (Row.nil _ _) (Row.nil _ _) (by simp)).mono ?_; rintro e w7 ⟨rfl, b7⟩; have HB7 := Lib.hid (HB2.out.trans (b7.mono HB2.out.size)); rw [same_self]; clear b7))
    go_ret
    exact ⟨by simp, HB7.out⟩
set_option maxRecDepth 100000 in
set_option maxHeartbeats 4000000 in
theorem apart_law (n m : Int) (b c : Bool) (ao bo : Option Addr) (la lb ca cb : Nat) (Y Z : List ArcT) (w : World) (hla : Y.length = la) (hlb : Z.length = lb) (ha : Row encA 4 w ao Y) (hb : Row encA 4 w bo Z) (hma : la ≤ maxLen) (hmb : lb ≤ maxLen) (ht : Tab w) :
    Calls Tryd.prog 7 #[.agg #[.int .i64 n, .bool b, .slice ao la ca], .agg #[.int .i64 m, .bool c, .slice bo lb cb]] w fun e w' => e = .returned (.bool true) ∧ Below w.heap.size w w' := by
  subst hla
  subst hlb
  have HB0 := Lib.hid (((Below.refl w.heap.size w).alloc (Nat.le_refl _) (.cells #[.int .i64 n, .bool b, .slice ao Y.length ca] 24)).alloc (by simp) (.cells #[.int .i64 m, .bool c, .slice bo Z.length cb] 24))
  have HT := Lib.hid (ht.below HB0.out)
  have HA := Lib.hid (ha.below' HB0.out)
  have HZ := Lib.hid (hb.below' HB0.out)
  have hG := alloc_whole (heap_alloc_new w (.cells #[.int .i64 n, .bool b, .slice ao Y.length ca] 24)) (.cells #[.int .i64 m, .bool c, .slice bo Z.length cb] 24)
  have hW := new_whole1 w (.cells #[.int .i64 n, .bool b, .slice ao Y.length ca] 24) (.cells #[.int .i64 m, .bool c, .slice bo Z.length cb] 24)
  obtain ⟨c0, c1, c2, _, _, _⟩ := netCells hG
  obtain ⟨d0, d1, d2, _, _, _⟩ := netCells hW
  obtain ⟨X1, hX1, hX1'⟩ := strAt (prtT n b Y)
  obtain ⟨X2, hX2, hX2'⟩ := strAt (prtT m c Z)
  have K1 : Hid (∀ W, Row encA 4 W ao Y → Tab W → Calls Tryd.prog 10 #[.agg #[.int .i64 n, .bool b, .slice ao Y.length ca]] W fun e w' => e = .returned (.tuple #[.string X1, .int .i64 (checkE n Y)]) ∧ Below W.heap.size W w') := Lib.hid (fun W hW hT => by have := print_any n b ao ca Y W hW hma hT; unfold prtV at this; rwa [hX1'] at this)
  have K2 : Hid (∀ W, Row encA 4 W bo Z → Tab W → Calls Tryd.prog 10 #[.agg #[.int .i64 m, .bool c, .slice bo Z.length cb]] W fun e w' => e = .returned (.tuple #[.string X2, .int .i64 (checkE m Z)]) ∧ Below W.heap.size W w') := Lib.hid (fun W hW hT => by have := print_any m c bo cb Z W hW hmb hT; unfold prtV at this; rwa [hX2'] at this)
  have hsame : checkE n Y = 0 → checkE m Z = 0 → Z.length ≤ 1099511627776 ∧ ((X1.toList == X2.toList) = sameB (n, b, Y) (m, c, Z)) := by
    intro h1 h2
    have r1 : Right (n, b, Y) := right_iff.1 h1
    have r2 : Right (m, c, Z) := right_iff.1 h2
    refine ⟨by have h3 : Z.length ≤ 200 := r2.2.1; omega, ?_⟩
    rw [Lib.toList_data, Lib.toList_data, hX1, hX2]
    unfold prtT
    rw [if_pos h1, if_pos h2]
    have hi := net_inj r1 r2
    rw [Bool.eq_iff_iff, beq_iff_eq, hi]
    simp [sameB]
  have HSM := Lib.hid hsame
  generalize checkE n Y = e1 at *
  generalize checkE m Z = e2 at *
  clear ht ha hb hG hW hX1 hX1' hX2 hX2' hsame
  by_cases h1 : e1 = 0
  · subst h1
    by_cases h2 : e2 = 0
    · subst h2
      obtain ⟨hZl, hbe⟩ := HSM.out rfl rfl
      clear HSM
      go_enter Tryd.func7, Tryd.ntmps7
      go_wp2_with (first
        | (go_at_call 12; refine (awake_any _ HT.out).mono ?_; rintro e w2 ⟨rfl, b2⟩; have f0 := cell_below b2 c0; have f1 := cell_below b2 c1; have f2 := cell_below b2 c2; have g0 := cell_below b2 d0; have g1 := cell_below b2 d1; have g2 := cell_below b2 d2; have HA2 := Lib.hid (HA.out.below' b2); have HZ2 := Lib.hid (HZ.out.below' b2); have HT2 := Lib.hid (HT.out.below b2); have HB2 := Lib.hid (HB0.out.trans (b2.mono HB0.out.size)); clear b2 c0 c1 c2 d0 d1 d2)
        | (go_at_call 10; (with_reducible refine (K1.out _ HA2.out HT2.out).mono ?_); rintro e w3 ⟨rfl, b3⟩; have h0 := cell_below b3 f0; have h1 := cell_below b3 f1; have h2 := cell_below b3 f2; have i0 := cell_below b3 g0; have i1 := cell_below b3 g1; have i2 := cell_below b3 g2; have HA3 := Lib.hid (HA2.out.below' b3); have HZ3 := Lib.hid (HZ2.out.below' b3); have HT3 := Lib.hid (HT2.out.below b3); have HB3 := Lib.hid (HB2.out.trans (b3.mono HB2.out.size)); clear b3 f0 f1 f2 g0 g1 g2 K1)
        | (go_at_call 10; (with_reducible refine (K2.out _ HZ3.out HT3.out).mono ?_); rintro e w4 ⟨rfl, b4⟩; have j0 := cell_below b4 h0; have j1 := cell_below b4 h1; have j2 := cell_below b4 h2; have k0 := cell_below b4 i0; have k1 := cell_below b4 i1; have k2 := cell_below b4 i2; have HA4 := Lib.hid (HA3.out.below' b4); have HZ4 := Lib.hid (HZ3.out.below' b4); have HB4 := Lib.hid (HB3.out.trans (b4.mono HB3.out.size)); clear b4 h0 h1 h2 i0 i1 i2)
        | (go_at_call 17; refine (rsame_any n m b c Y Z _ _ _ _ _ HA4.out HZ4.out hZl).mono ?_; rintro e w5 ⟨rfl, b5⟩; have HB5 := Lib.hid (HB4.out.trans (b5.mono HB4.out.size)); clear b5; rw [← hbe]))
      go_ret
      exact ⟨by simp, HB5.out⟩
    · have hf2 : (e2 != 0) = true := by simpa using h2
      have hf1 : (e2 == 0) = false := by simpa using h2
      clear h2 HSM
      go_enter Tryd.func7, Tryd.ntmps7
      go_wp2_with (first
        | (go_at_call 12; refine (awake_any _ HT.out).mono ?_; rintro e w2 ⟨rfl, b2⟩; have f0 := cell_below b2 c0; have f1 := cell_below b2 c1; have f2 := cell_below b2 c2; have g0 := cell_below b2 d0; have g1 := cell_below b2 d1; have g2 := cell_below b2 d2; have HA2 := Lib.hid (HA.out.below' b2); have HZ2 := Lib.hid (HZ.out.below' b2); have HT2 := Lib.hid (HT.out.below b2); have HB2 := Lib.hid (HB0.out.trans (b2.mono HB0.out.size)); clear b2 c0 c1 c2 d0 d1 d2)
        | (go_at_call 10; (with_reducible refine (K1.out _ HA2.out HT2.out).mono ?_); rintro e w3 ⟨rfl, b3⟩; have i0 := cell_below b3 g0; have i1 := cell_below b3 g1; have i2 := cell_below b3 g2; have HZ3 := Lib.hid (HZ2.out.below' b3); have HT3 := Lib.hid (HT2.out.below b3); have HB3 := Lib.hid (HB2.out.trans (b3.mono HB2.out.size)); clear b3 f0 f1 f2 g0 g1 g2 K1)
        | (go_at_call 10; (with_reducible refine (K2.out _ HZ3.out HT3.out).mono ?_); rintro e w4 ⟨rfl, b4⟩; have HB4 := Lib.hid (HB3.out.trans (b4.mono HB3.out.size)); clear b4))
      go_ret
      exact ⟨rfl, HB4.out⟩
  · have hf2 : (e1 != 0) = true := by simpa using h1
    have hf1 : (e1 == 0) = false := by simpa using h1
    clear h1 HSM
    go_enter Tryd.func7, Tryd.ntmps7
    go_wp2_with (first
      | (go_at_call 12; refine (awake_any _ HT.out).mono ?_; rintro e w2 ⟨rfl, b2⟩; have f0 := cell_below b2 c0; have f1 := cell_below b2 c1; have f2 := cell_below b2 c2; have g0 := cell_below b2 d0; have g1 := cell_below b2 d1; have g2 := cell_below b2 d2; have HA2 := Lib.hid (HA.out.below' b2); have HZ2 := Lib.hid (HZ.out.below' b2); have HT2 := Lib.hid (HT.out.below b2); have HB2 := Lib.hid (HB0.out.trans (b2.mono HB0.out.size)); clear b2 c0 c1 c2 d0 d1 d2)
      | (go_at_call 10; (with_reducible refine (K1.out _ HA2.out HT2.out).mono ?_); rintro e w3 ⟨rfl, b3⟩; have i0 := cell_below b3 g0; have i1 := cell_below b3 g1; have i2 := cell_below b3 g2; have HZ3 := Lib.hid (HZ2.out.below' b3); have HT3 := Lib.hid (HT2.out.below b3); have HB3 := Lib.hid (HB2.out.trans (b3.mono HB2.out.size)); clear b3 f0 f1 f2 g0 g1 g2 K1)
      | (go_at_call 10; (with_reducible refine (K2.out _ HZ3.out HT3.out).mono ?_); rintro e w4 ⟨rfl, b4⟩; have HB4 := Lib.hid (HB3.out.trans (b4.mono HB3.out.size)); clear b4))
    go_ret
    exact ⟨rfl, HB4.out⟩
end Go.Proofs.YtbciplfncnangaaDoor
