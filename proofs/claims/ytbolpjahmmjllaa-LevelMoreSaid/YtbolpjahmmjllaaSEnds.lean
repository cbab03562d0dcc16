/- Ends of the program and of the document. -/
import Derived.Test.YtbolpjahmmjllaaSLoad
namespace Go.Proofs.Ytbolpjahmmjllaa
open Go.RowKit
set_option linter.unusedVariables false

/-- Is that a node? -/
def nodeB (n s : Int) : Bool := decide (0 ≤ s ∧ s < n)
def endsE (n : Int) (Z : List ArcT) (s t : Int) : Int := if checkE n Z = 0 then (if nodeB n s = true ∧ nodeB n t = true ∧ s ≠ t then 0 else 70) else checkE n Z
theorem endsE_net {n : Int} {Z : List ArcT} {s t : Int} (h : checkE n Z ≠ 0) : endsE n Z s t = checkE n Z := by unfold endsE; rw [if_neg h]
theorem endsE_no {n : Int} {Z : List ArcT} {s t : Int} (h : checkE n Z = 0) (h2 : nodeB n s = false ∨ nodeB n t = false ∨ s = t) : endsE n Z s t = 70 := by
  unfold endsE
  rw [if_pos h, if_neg]
  rintro ⟨h3, h4, h5⟩
  rcases h2 with h2 | h2 | h2
  · rw [h2] at h3; cases h3
  · rw [h2] at h4; cases h4
  · exact h5 h2
theorem endsE_yes {n : Int} {Z : List ArcT} {s t : Int} (h : checkE n Z = 0) (h2 : nodeB n s = true) (h3 : nodeB n t = true) (h4 : s ≠ t) : endsE n Z s t = 0 := by unfold endsE; rw [if_pos h, if_pos ⟨h2, h3, h4⟩]
theorem endsE_ok {n : Int} {Z : List ArcT} {s t : Int} (h : endsE n Z s t = 0) : checkE n Z = 0 ∧ ∃ i j : Nat, s = (i : Int) ∧ t = (j : Int) ∧ i < n.toNat ∧ j < n.toNat ∧ i ≠ j := by
  unfold endsE at h
  split at h
  · next h1 =>
    split at h
    · next h2 =>
      obtain ⟨h3, h4, h5⟩ := h2
      unfold nodeB at h3 h4
      rw [decide_eq_true_eq] at h3 h4
      exact ⟨h1, s.toNat, t.toNat, by omega, by omega, by omega, by omega, by omega⟩
    · cases h
  · next h1 => exact absurd h h1
section
variable (n : Int) (b : Bool) (ao : Option Addr) (cap : Nat) (Z : List ArcT) (s t : Int)
set_option maxRecDepth 100000 in
set_option maxHeartbeats 2000000 in
theorem ends_any (w : World) (h : Row encA 4 w ao Z) (hz : Z.length ≤ maxLen) :
    Calls Try.prog 29 #[.agg #[.int .i64 n, .bool b, .slice ao Z.length cap], .int .i64 s, .int .i64 t] w fun e w' => e = .returned (.int .i64 (endsE n Z s t)) ∧ Below w.heap.size w w' := by
  have HB0 := Lib.hid ((Below.refl _ w).alloc (Nat.le_refl _) (.cells #[.int .i64 n, .bool b, .slice ao Z.length cap] 24))
  have HN := Lib.hid (heap_alloc_new w (.cells #[.int .i64 n, .bool b, .slice ao Z.length cap] 24))
  have HR := Lib.hid (row_alloc h (.cells #[.int .i64 n, .bool b, .slice ao Z.length cap] 24))
  have HZ := Lib.hid hz
  clear h hz
  by_cases hc : checkE n Z = 0
  · have HC := Lib.hid hc
    by_cases hst : s = t
    · rw [endsE_no hc (.inr (.inr hst))]
      subst hst
      clear hc
      go_enter Try.func29, Try.ntmps29
      go_wp2_with (go_at_call 49; refine (ncheck_is n b ao cap Z 0 _ HR.out HZ.out HC.out).mono ?_; rintro e w1 ⟨rfl, hb1⟩; have hn1 := kept_box HN.out hb1; have HB1 := Lib.hid ((HB0.out.trans (hb1.mono HB0.out.size)).alloc (by have := HB0.out.size; have := hb1.size; omega) (.cells #[.int .i64 n, .bool b, .slice ao Z.length cap] 85)); have x1 := cell_whole hn1 0; have y1 := cell_whole hn1 1; have z1 := cell_whole hn1 2; clear hb1 hn1)
      go_ret
      exact ⟨rfl, HB1.out⟩
    · have hst1 : (s == t) = false := by simpa using hst
      cases hs : nodeB n s
      · rw [endsE_no hc (.inl hs)]
        have HS := Lib.hid hs
        clear hc hs hst
        go_enter Try.func29, Try.ntmps29
        go_wp2_with (first
          | (go_at_call 49; refine (ncheck_is n b ao cap Z 0 _ HR.out HZ.out HC.out).mono ?_; rintro e w1 ⟨rfl, hb1⟩; have hn1 := kept_box HN.out hb1; have HB1 := Lib.hid ((HB0.out.trans (hb1.mono HB0.out.size)).alloc (by have := HB0.out.size; have := hb1.size; omega) (.cells #[.int .i64 n, .bool b, .slice ao Z.length cap] 85)); have x1 := cell_whole hn1 0; have y1 := cell_whole hn1 1; have z1 := cell_whole hn1 2; clear hb1 hn1)
          | (go_at_call 50; refine (hasnode_is n b (.slice ao Z.length cap) s false _ HS.out).mono ?_; rintro e w2 ⟨rfl, hb2⟩; have HB2 := Lib.hid (HB1.out.trans (hb2.mono HB1.out.size)); clear hb2))
        go_ret
        exact ⟨rfl, HB2.out⟩
      · cases ht : nodeB n t
        all_goals
          first | rw [endsE_no hc (.inr (.inl ht))] | rw [endsE_yes hc hs ht hst]
          have HS := Lib.hid hs
          have HT := Lib.hid ht
          clear hc hs ht hst
          go_enter Try.func29, Try.ntmps29
          go_wp2_with (first
            | (go_at_call 49; refine (ncheck_is n b ao cap Z 0 _ HR.out HZ.out HC.out).mono ?_; rintro e w1 ⟨rfl, hb1⟩; have hn1 := kept_box HN.out hb1; have HB1 := Lib.hid ((HB0.out.trans (hb1.mono HB0.out.size)).alloc (by have := HB0.out.size; have := hb1.size; omega) (.cells #[.int .i64 n, .bool b, .slice ao Z.length cap] 85)); have x1 := cell_whole hn1 0; have y1 := cell_whole hn1 1; have z1 := cell_whole hn1 2; have HNN := Lib.hid (heap_alloc_new w1 (.cells #[.int .i64 n, .bool b, .slice ao Z.length cap] 85)); clear hb1 hn1)
            | (go_at_call 50; refine (hasnode_is n b (.slice ao Z.length cap) s true _ HS.out).mono ?_; rintro e w2 ⟨rfl, hb2⟩; have hn2 := kept_box HNN.out hb2; have HB2 := Lib.hid (HB1.out.trans (hb2.mono HB1.out.size)); have x2 := cell_whole hn2 0; have y2 := cell_whole hn2 1; have z2 := cell_whole hn2 2; clear hb2 hn2 HS)
            | (go_at_call 50; refine (hasnode_is n b (.slice ao Z.length cap) t _ _ HT.out).mono ?_; rintro e w3 ⟨rfl, hb3⟩; have HB3 := Lib.hid (HB2.out.trans (hb3.mono HB2.out.size)); clear hb3))
          go_ret
          exact ⟨rfl, HB3.out⟩
  · rw [endsE_net hc]
    obtain ⟨e0, he0⟩ : ∃ e0, checkE n Z = e0 := ⟨_, rfl⟩
    rw [he0] at hc ⊢
    have HC := Lib.hid he0
    have hf2 : (e0 != 0) = true := by simpa using hc
    have hf1 : (e0 == 0) = false := by simpa using hc
    clear hc he0
    go_enter Try.func29, Try.ntmps29
    go_wp2_with (go_at_call 49; refine (ncheck_is n b ao cap Z e0 _ HR.out HZ.out HC.out).mono ?_; rintro e w1 ⟨rfl, hb1⟩; have HB1 := Lib.hid (HB0.out.trans (hb1.mono HB0.out.size)); clear hb1)
    go_ret
    exact ⟨rfl, HB1.out⟩
set_option maxRecDepth 100000 in
set_option maxHeartbeats 2000000 in
theorem rends_any (w : World) (h : Row encA 4 w ao Z) (hz : Z.length ≤ maxLen) :
    Calls Try.prog 31 #[.agg #[.int .i64 n, .bool b, .slice ao Z.length cap], .int .i64 s, .int .i64 t] w fun e w' => e = .returned (.int .i64 (endsE n Z s t)) ∧ Below w.heap.size w w' := by
  have HB0 := Lib.hid ((Below.refl _ w).alloc (Nat.le_refl _) (.cells #[.int .i64 n, .bool b, .slice ao Z.length cap] 24))
  have HN := Lib.hid (heap_alloc_new w (.cells #[.int .i64 n, .bool b, .slice ao Z.length cap] 24))
  have HR := Lib.hid (row_alloc h (.cells #[.int .i64 n, .bool b, .slice ao Z.length cap] 24))
  have HZ := Lib.hid hz
  clear h hz
  by_cases hc : checkE n Z = 0
  · have HC := Lib.hid hc
    cases hs : nodeB n s
    · rw [endsE_no hc (.inl hs)]
      have HS := Lib.hid hs
      clear hc hs
      go_enter Try.func31, Try.ntmps31
      go_wp2_with (first
        | (go_at_call 45; refine (rcheck_is n b ao cap Z 0 _ HR.out HZ.out HC.out).mono ?_; rintro e w1 ⟨rfl, hb1⟩; have hn1 := kept_box HN.out hb1; have HB1 := Lib.hid (HB0.out.trans (hb1.mono HB0.out.size)); have x1 := cell_whole hn1 0; have y1 := cell_whole hn1 1; have z1 := cell_whole hn1 2; clear hb1 hn1)
        | (go_at_call 26; refine (rnode_is n b (.slice ao Z.length cap) s false _ HS.out).mono ?_; rintro e w2 ⟨rfl, hb2⟩; have HB2 := Lib.hid (HB1.out.trans (hb2.mono HB1.out.size)); clear hb2))
      go_ret
      exact ⟨rfl, HB2.out⟩
    · cases ht : nodeB n t
      · rw [endsE_no hc (.inr (.inl ht))]
        have HS := Lib.hid hs
        have HT := Lib.hid ht
        clear hc hs ht
        go_enter Try.func31, Try.ntmps31
        go_wp2_with (first
          | (go_at_call 45; refine (rcheck_is n b ao cap Z 0 _ HR.out HZ.out HC.out).mono ?_; rintro e w1 ⟨rfl, hb1⟩; have hn1 := kept_box HN.out hb1; have HN1 := Lib.hid hn1; have HB1 := Lib.hid (HB0.out.trans (hb1.mono HB0.out.size)); have x1 := cell_whole hn1 0; have y1 := cell_whole hn1 1; have z1 := cell_whole hn1 2; clear hb1 hn1)
          | (go_at_call 26; refine (rnode_is n b (.slice ao Z.length cap) s true _ HS.out).mono ?_; rintro e w2 ⟨rfl, hb2⟩; have hn2 := kept_box HN1.out hb2; have HB2 := Lib.hid (HB1.out.trans (hb2.mono HB1.out.size)); have x2 := cell_whole hn2 0; have y2 := cell_whole hn2 1; have z2 := cell_whole hn2 2; clear hb2 hn2 x1 y1 z1 HS)
          | (go_at_call 26; refine (rnode_is n b (.slice ao Z.length cap) t false _ HT.out).mono ?_; rintro e w3 ⟨rfl, hb3⟩; have HB3 := Lib.hid (HB2.out.trans (hb3.mono HB2.out.size)); clear hb3))
        go_ret
        exact ⟨rfl, HB3.out⟩
      · by_cases hst : s = t
        · rw [endsE_no hc (.inr (.inr hst))]
          subst hst
          have HS := Lib.hid hs
          clear hc hs ht
          go_enter Try.func31, Try.ntmps31
          go_wp2_with (first
            | (go_at_call 45; refine (rcheck_is n b ao cap Z 0 _ HR.out HZ.out HC.out).mono ?_; rintro e w1 ⟨rfl, hb1⟩; have hn1 := kept_box HN.out hb1; have HN1 := Lib.hid hn1; have HB1 := Lib.hid (HB0.out.trans (hb1.mono HB0.out.size)); have x1 := cell_whole hn1 0; have y1 := cell_whole hn1 1; have z1 := cell_whole hn1 2; clear hb1 hn1)
            | (go_at_call 26; refine (rnode_is n b (.slice ao Z.length cap) s true _ HS.out).mono ?_; rintro e w2 ⟨rfl, hb2⟩; have hn2 := kept_box HN1.out hb2; have HN1 := Lib.hid hn2; have HB1 := Lib.hid (HB1.out.trans (hb2.mono HB1.out.size)); have x2 := cell_whole hn2 0; have y2 := cell_whole hn2 1; have z2 := cell_whole hn2 2; clear hb2 hn2))
          go_ret
          exact ⟨rfl, HB1.out⟩
        · rw [endsE_yes hc hs ht hst]
          have hst1 : (s == t) = false := by simpa using hst
          have HS := Lib.hid hs
          have HT := Lib.hid ht
          clear hc hs ht hst
          go_enter Try.func31, Try.ntmps31
          go_wp2_with (first
            | (go_at_call 45; refine (rcheck_is n b ao cap Z 0 _ HR.out HZ.out HC.out).mono ?_; rintro e w1 ⟨rfl, hb1⟩; have hn1 := kept_box HN.out hb1; have HN1 := Lib.hid hn1; have HB1 := Lib.hid (HB0.out.trans (hb1.mono HB0.out.size)); have x1 := cell_whole hn1 0; have y1 := cell_whole hn1 1; have z1 := cell_whole hn1 2; clear hb1 hn1)
            | (go_at_call 26; refine (rnode_is n b (.slice ao Z.length cap) s true _ HS.out).mono ?_; rintro e w2 ⟨rfl, hb2⟩; have hn2 := kept_box HN1.out hb2; have HB2 := Lib.hid (HB1.out.trans (hb2.mono HB1.out.size)); have x2 := cell_whole hn2 0; have y2 := cell_whole hn2 1; have z2 := cell_whole hn2 2; clear hb2 hn2 x1 y1 z1 HS)
            | (go_at_call 26; refine (rnode_is n b (.slice ao Z.length cap) t true _ HT.out).mono ?_; rintro e w3 ⟨rfl, hb3⟩; have HB3 := Lib.hid (HB2.out.trans (hb3.mono HB2.out.size)); clear hb3))
          go_ret
          exact ⟨rfl, HB3.out⟩
  · rw [endsE_net hc]
    obtain ⟨e0, he0⟩ : ∃ e0, checkE n Z = e0 := ⟨_, rfl⟩
    rw [he0] at hc ⊢
    have HC := Lib.hid he0
    have hf2 : (e0 != 0) = true := by simpa using hc
    have hf1 : (e0 == 0) = false := by simpa using hc
    clear hc he0
    go_enter Try.func31, Try.ntmps31
    go_wp2_with (go_at_call 45; refine (rcheck_is n b ao cap Z e0 _ HR.out HZ.out HC.out).mono ?_; rintro e w1 ⟨rfl, hb1⟩; have HB1 := Lib.hid (HB0.out.trans (hb1.mono HB0.out.size)); clear hb1)
    go_ret
    exact ⟨rfl, HB1.out⟩
theorem ends_is (e0 : Int) (w : World) (h : Row encA 4 w ao Z) (hz : Z.length ≤ maxLen) (he : endsE n Z s t = e0) :
    Calls Try.prog 29 #[.agg #[.int .i64 n, .bool b, .slice ao Z.length cap], .int .i64 s, .int .i64 t] w fun e w' => e = .returned (.int .i64 e0) ∧ Below w.heap.size w w' := by subst he; exact ends_any n b ao cap Z s t w h hz
theorem rends_is (e0 : Int) (w : World) (h : Row encA 4 w ao Z) (hz : Z.length ≤ maxLen) (he : endsE n Z s t = e0) :
    Calls Try.prog 31 #[.agg #[.int .i64 n, .bool b, .slice ao Z.length cap], .int .i64 s, .int .i64 t] w fun e w' => e = .returned (.int .i64 e0) ∧ Below w.heap.size w w' := by subst he; exact rends_any n b ao cap Z s t w h hz
end
end Go.Proofs.Ytbolpjahmmjllaa
