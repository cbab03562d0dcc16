/- The statements on lines, words, numbers and texts, walked. -/
import Derived.Test.YtgdddalpklamoaaDoorWAwake
import Derived.Test.YtgdddalpklamoaaDoorWRefw
import Derived.Test.YtgdddalpklamoaaDoorWNums
import Derived.Test.YtgdddalpklamoaaDoorWNat
namespace Go.Proofs.YtgdddalpklamoaaDoor
open Go.RowKit Go.Shelf
set_option linter.unusedVariables false

/-- A list of texts of a call's own, as the next call meets it. -/
def ListAt (w : World) (v : Value) (A : List (List UInt8)) : Prop := ∃ ao n cap, v = .slice ao n cap ∧ A.length = n ∧ Lst strV w ao A
theorem listAt_of {w : World} {base : Nat} {v : Value} {A : List (List UInt8)} (h : w.ownsRow base 9 1 v A.length (A.map strV)) : ListAt w v A := by
  obtain ⟨ao, cap, rfl, hl⟩ := own_lst h
  exact ⟨ao, _, cap, rfl, rfl, hl⟩
theorem NumsRes.ok {A : List (List UInt8)} {w w' : World} {e : Ending} (h : NumsRes A w e w') (he : errOf A = 0) : Below w.heap.size w w' ∧ ∃ v, e = .returned (.tuple #[v, .int .i64 0]) ∧ w'.ownsRow w.heap.size 3 1 v (valsOf A).length ((valsOf A).map encI) := by
  rcases h with ⟨hb, ⟨_, h⟩ | ⟨h, _⟩⟩
  · exact ⟨hb, h⟩
  · exact absurd he h
theorem NumsRes.bad {A : List (List UInt8)} {w w' : World} {e : Ending} (h : NumsRes A w e w') (he : errOf A ≠ 0) : Below w.heap.size w w' ∧ e = .returned (.tuple #[.slice none 0 0, .int .i64 (errOf A)]) := by
  rcases h with ⟨hb, ⟨h, _⟩ | ⟨_, h⟩⟩
  · exact absurd h he
  · exact ⟨hb, h⟩
theorem below_drewN {B : Nat} {w w' : World} (h : Below B w w') (n : Nat) : Below B w (w'.drewN n) := h.trans ⟨rfl, rfl, rfl, Nat.le_refl _, fun _ _ => rfl⟩

set_option maxRecDepth 100000 in
set_option maxHeartbeats 2000000 in
theorem splits_law (s : ByteArray) (w : World) (hs : s.size ≤ 1099511627776) (ht : Tab w) :
    Calls Tryd.prog 3 #[.string s] w fun e w' => e = .returned (.bool true) ∧ Below w.heap.size w w' := by
  have HT := Lib.hid ht
  clear ht
  have hl1 : (linesL s.data.toList).length ≤ 1099511627776 := Nat.le_trans (pcs_len 10 _) hs
  have hl2 : (wordsL s.data.toList).length ≤ 1099511627776 := Nat.le_trans (wordsL_len _) hs
  have L1 := fun W => lines_any s W hs
  have L2 := fun W => rlines_any s W hs
  have L3 := fun W => words_any s W hs
  have L4 := fun W => rwords_any s W hs
  generalize linesL s.data.toList = A at *
  generalize wordsL s.data.toList = C at *
  have H1 := Lib.hid L1
  have H2 := Lib.hid L2
  have H3 := Lib.hid L3
  have H4 := Lib.hid L4
  clear L1 L2 L3 L4
  go_enter Tryd.func3, Tryd.ntmps3
  go_wp2_with (first
    | (go_at_call 10; refine (awake_any _ HT.out).mono ?_; rintro e w1 ⟨rfl, b1⟩; have s1 := b1.size)
    | (go_at_call 12; refine (H1.out _).mono ?_; rintro e w2 ⟨v2, rfl, o2, b2⟩; obtain ⟨ao2, n2, cap2, rfl, hn2, l2⟩ := listAt_of o2; have HN2 := Lib.hid hn2; clear o2 hn2; have hb2 := b1.trans (b2.mono s1); have s2 := hb2.size)
    | (go_at_call 13; refine (H2.out _).mono ?_; rintro e w3 ⟨v3, rfl, o3, b3⟩; obtain ⟨ao3, n3, cap3, rfl, hn3, l3⟩ := listAt_of o3; have HN3 := Lib.hid hn3; clear o3 hn3; have l2' := l2.below b3; have hb3 := hb2.trans (b3.mono s2); have s3 := hb3.size)
    | (go_at_call 11; refine (same_any _ _ _ _ _ _ A _ HN2.out HN3.out l2' l3 hl1).mono ?_; rintro e w4 ⟨rfl, k4, rfl⟩; have hb4 := below_drewN hb3 k4; have s4 := hb4.size; clear l2 l2' l3; refine Hid.out ?_))
  refine Lib.hid ?_
  generalize w3.drewN k4 = w4 at *
  go_wp2_with (first
    | (go_at_call 14; refine (H3.out _).mono ?_; rintro e w5 ⟨v5, rfl, o5, b5⟩; obtain ⟨ao5, n5, cap5, rfl, hn5, l5⟩ := listAt_of o5; have HN5 := Lib.hid hn5; clear o5 hn5; have hb5 := hb4.trans (b5.mono s4); have s5 := hb5.size)
    | (go_at_call 15; refine (H4.out _).mono ?_; rintro e w6 ⟨v6, rfl, o6, b6⟩; obtain ⟨ao6, n6, cap6, rfl, hn6, l6⟩ := listAt_of o6; have HN6 := Lib.hid hn6; clear o6 hn6; have l5' := l5.below b6; have hb6 := hb5.trans (b6.mono s5))
    | (go_at_call 11; refine (same_any _ _ _ _ _ _ C _ HN5.out HN6.out l5' l6 hl2).mono ?_; rintro e w7 ⟨rfl, k7, rfl⟩; have hb7 := below_drewN hb6 k7))
  go_ret
  exact ⟨rfl, hb7⟩

set_option maxHeartbeats 2000000 in
theorem numbers_law (s : ByteArray) (w : World) (hs : s.size ≤ maxLen) (ht : Tab w) :
    Calls Tryd.prog 4 #[.string s] w fun e w' => e = .returned (.bool true) ∧ Below w.heap.size w w' := by
  have HT := Lib.hid ht
  clear ht
  obtain ⟨n, er, hne⟩ : ∃ n er, numL s.data.toList = (n, er) := ⟨_, _, rfl⟩
  have HNE := Lib.hid hne
  clear hne
  go_enter Tryd.func4, Tryd.ntmps4
  go_wp2_with (first
    | (go_at_call 16; refine (num_at s n er _ hs HNE.out).mono ?_; rintro e w1 ⟨rfl, b1⟩; have s1 := b1.size)
    | (go_at_call 17; refine (rnum_at s n er _ hs HNE.out).mono ?_; rintro e w2 ⟨rfl, rfl⟩)
    | (go_at_call 10; refine (awake_any _ (HT.out.below b1)).mono ?_; rintro e w3 ⟨rfl, b3⟩; have hb3 := b1.trans (b3.mono s1)))
  go_ret
  exact ⟨rfl, hb3⟩

set_option maxRecDepth 100000 in
set_option maxHeartbeats 2000000 in
theorem texts_law (n : Int) (s : ByteArray) (ao : Option Addr) (len cap : Nat) (Z : List Int) (w : World) (h0 : -9223372036854775808 ≤ n) (h1 : n ≤ 9223372036854775807) (hlen : Z.length = len) (hl : Lst encI w ao Z) (hz : In64 Z) (hm : len ≤ maxLen) (hs : s.size ≤ 1099511627776) (ht : Tab w) :
    Calls Tryd.prog 5 #[.int .i64 n, .string s, .slice ao len cap] w fun e w' => e = .returned (.bool true) ∧ Below w.heap.size w w' := by
  subst hlen
  unfold maxLen at hm
  have HT := Lib.hid ht
  have HL := Lib.hid hl
  have HZ := Lib.hid hz
  clear ht hl hz
  by_cases h3 : Z.length ≤ 300
  · have h3' : ¬ (300 : Int) < (Z.length : Int) := by omega
    have k1 := fun W => text_any n W h0 h1
    have k2 := fun W => rtext_any n W h0 h1
    have k3 := fun W (hl : Lst encI W ao Z) => row_any s ao cap Z W hl HZ.out (by omega) hs
    have k4 := fun W (hl : Lst encI W ao Z) => rrow_any s ao cap Z W hl HZ.out (by omega) hs
    unfold strV at k1 k2 k3 k4
    generalize (⟨(Lib.itoa n).toArray⟩ : ByteArray) = X at *
    generalize (⟨(rowL s.data.toList Z).toArray⟩ : ByteArray) = Y at *
    have K1 := Lib.hid k1
    have K2 := Lib.hid k2
    have K3 := Lib.hid k3
    have K4 := Lib.hid k4
    clear k1 k2 k3 k4
    go_enter Tryd.func5, Tryd.ntmps5
    go_wp2_with (first
      | (go_at_call 10; refine (awake_any _ HT.out).mono ?_; rintro e w1 ⟨rfl, b1⟩; have s1 := b1.size)
      | (go_at_call 18; refine (K1.out _ (HT.out.below b1)).mono ?_; rintro e w2 ⟨rfl, b2⟩; have hb2 := b1.trans (b2.mono s1); have s2 := hb2.size)
      | (go_at_call 19; refine (K2.out _).mono ?_; rintro e w3 ⟨rfl, b3⟩; have hb3 := hb2.trans (b3.mono s2); have s3 := hb3.size)
      | (go_at_call 20; refine (K3.out _ (HL.out.below hb3) (HT.out.below hb3)).mono ?_; rintro e w4 ⟨rfl, b4⟩; have hb4 := hb3.trans (b4.mono s3); have s4 := hb4.size)
      | (go_at_call 21; refine (K4.out _ (HL.out.below hb4)).mono ?_; rintro e w5 ⟨rfl, b5⟩; have hb5 := hb4.trans (b5.mono s4)))
    go_ret
    exact ⟨rfl, hb5⟩
  · have h3' : (300 : Int) < (Z.length : Int) := by omega
    go_enter Tryd.func5, Tryd.ntmps5
    go_wp2_with (go_at_call 10; refine (awake_any _ HT.out).mono ?_; rintro e w1 ⟨rfl, b1⟩)
    go_ret
    exact ⟨rfl, b1⟩

set_option maxRecDepth 100000 in
set_option maxHeartbeats 2000000 in
theorem lists_law (ao : Option Addr) (len cap : Nat) (A : List (List UInt8)) (w : World) (hlen : A.length = len) (hl : Lst strV w ao A) (hok : OkS A) (hm : len ≤ maxLen) (ht : Tab w) :
    Calls Tryd.prog 6 #[.slice ao len cap] w fun e w' => e = .returned (.bool true) ∧ Below w.heap.size w w' := by
  subst hlen
  unfold maxLen at hm
  have HT := Lib.hid ht
  have HL := Lib.hid hl
  have HK := Lib.hid hok
  clear ht hl hok
  by_cases h3 : A.length ≤ 300
  · have h3' : ¬ (300 : Int) < (A.length : Int) := by omega
    have hvl : (valsOf A).length ≤ 1099511627776 := by rw [valsOf_len]; omega
    by_cases he : errOf A = 0
    · have HE := Lib.hid he
      clear he
      go_enter Tryd.func6, Tryd.ntmps6
      go_wp2_with (first
        | (go_at_call 22; refine (numbers_any _ _ A _ HL.out HK.out (by omega)).mono ?_; rintro e w1 hr; obtain ⟨b1, v1, rfl, o1⟩ := NumsRes.ok hr HE.out; clear hr; obtain ⟨ao1, cap1, rfl, l1⟩ := own_lst o1; have s1 := b1.size; clear o1)
        | (go_at_call 23; refine (rnumbers_any _ _ A _ (HL.out.below b1) HK.out (by omega)).mono ?_; rintro e w2 hr; obtain ⟨b2, v2, rfl, o2⟩ := NumsRes.ok hr HE.out; clear hr; obtain ⟨ao2, cap2, rfl, l2⟩ := own_lst o2; have hb2 := b1.trans (b2.mono s1); have s2 := hb2.size; have l1' := l1.below b2; clear o2)
        | (go_at_call 10; refine (awake_any _ (HT.out.below hb2)).mono ?_; rintro e w3 ⟨rfl, b3⟩; have hb3 := hb2.trans (b3.mono s2); have l1'' := l1'.below b3; have l2' := l2.below b3)
        | (go_at_call 24; refine (sameints_any _ _ _ _ _ _ (valsOf A) _ rfl rfl l1'' l2' hvl).mono ?_; rintro e w4 ⟨rfl, k4, rfl⟩; have hb4 := below_drewN hb3 k4))
      go_ret
      exact ⟨rfl, hb4⟩
    · have hne2 : (errOf A == 0) = false := by simpa using he
      have HE := Lib.hid he
      clear he
      go_enter Tryd.func6, Tryd.ntmps6
      go_wp2_with (first
        | (go_at_call 22; refine (numbers_any _ _ A _ HL.out HK.out (by omega)).mono ?_; rintro e w1 hr; obtain ⟨b1, rfl⟩ := NumsRes.bad hr HE.out; clear hr; have s1 := b1.size)
        | (go_at_call 23; refine (rnumbers_any _ _ A _ (HL.out.below b1) HK.out (by omega)).mono ?_; rintro e w2 hr; obtain ⟨b2, rfl⟩ := NumsRes.bad hr HE.out; clear hr; have hb2 := b1.trans (b2.mono s1); have s2 := hb2.size)
        | (go_at_call 10; refine (awake_any _ (HT.out.below hb2)).mono ?_; rintro e w3 ⟨rfl, b3⟩; have hb3 := hb2.trans (b3.mono s2))
        | (go_at_call 24; refine (sameints_any _ _ _ _ _ _ [] _ rfl rfl (Lst.nil _ _) (Lst.nil _ _) (by simp)).mono ?_; rintro e w4 ⟨rfl, k4, rfl⟩; have hb4 := below_drewN hb3 k4))
      go_ret
      exact ⟨rfl, hb4⟩
  · have h3' : (300 : Int) < (A.length : Int) := by omega
    go_enter Tryd.func6, Tryd.ntmps6
    go_wp2_with (go_at_call 10; refine (awake_any _ HT.out).mono ?_; rintro e w1 ⟨rfl, b1⟩)
    go_ret
    exact ⟨rfl, b1⟩
end Go.Proofs.YtgdddalpklamoaaDoor
