/- The document's Sorted, its Same, and the walk of statement PileSorts. -/
import Derived.Test.YtfcpdknonhgnoaaPSorted
import Derived.Test.YtfcpdknonhgnoaaPPlays
namespace Go.Proofs.Ytfcpdknonhgnoaa
open Go.RowKit
set_option linter.unusedVariables false

theorem RowR.rp {w : World} {G : Option Nat} {v : Value} {L : List (Int × Int)} (h : RowR w G v L) : ∃ ao cap, v = .slice ao L.length cap ∧ RP w ao L ∧ ∀ ad, ao = some ad → some ad.block = G := by
  rcases h with ⟨rfl, rfl, rfl⟩ | ⟨g, o, cap, cur, rfl, rfl, h3, h4, h5⟩
  · exact ⟨none, 0, rfl, fun i hi => absurd hi (by simp), fun ad e => by cases e⟩
  · exact ⟨_, cap, rfl, fun i hi => ⟨g, o, rfl, lt_whole h3, by rw [cell_whole h3]; exact (h5 i hi).1, by rw [cell_whole h3]; exact (h5 i hi).2⟩, fun ad e => by cases e; rfl⟩
theorem RP.below' {w0 w w' : World} {ao : Option Addr} {A : List (Int × Int)} (h : RP w ao A) (hb : Below w0.heap.size w w') (hB : ∀ ad, ao = some ad → 0 < A.length → ad.block < w0.heap.size) : RP w' ao A := by
  intro i hi
  exact h.below hb (fun ad e => hB ad e (by omega)) i hi
set_option maxRecDepth 100000 in
set_option maxHeartbeats 1000000 in
theorem rsorted_some (ad : Addr) (cap : Nat) (Z : List (Int × Int)) (w : World) (h : RP w (some ad) Z) (hab : 0 < Z.length → ad.block < w.heap.size) (hs : Z.length ≤ 65536) :
    Calls Try.prog 27 #[.slice (some ad) Z.length cap] w (SortedRes Z w) := by
  have H := Lib.hid h
  have HAB := Lib.hid hab
  clear h hab
  go_enter Try.func27, Try.ntmps27
  go_wp2
  have HI : Hid (RPIs (w.alloc (.cells #[.int .i64 (Z.length : Int), .slice none 0 0] 40)) w.heap.size none Z.length []) := Lib.hid ⟨by simp, _, heap_alloc_new w _, .inl ⟨rfl, rfl, rfl⟩⟩
  have HB : Hid (Below w.heap.size w (w.alloc (.cells #[.int .i64 (Z.length : Int), .slice none 0 0] 40))) := Lib.hid ((Below.refl _ w).alloc (Nat.le_refl _) _)
  generalize w.alloc (.cells #[.int .i64 (Z.length : Int), .slice none 0 0] 40) = w1 at HI HB ⊢
  go_loopw [4] (fun si wr => ∃ (i : Nat) (L : List (Int × Int)) (G : Option Nat), i ≤ Z.length ∧ L.length = i ∧ Hid (RPIs wr w.heap.size G Z.length L) ∧ Hid (SortedP L) ∧ Hid (L.Perm (Z.take i)) ∧ Hid (Below w.heap.size w wr) ∧ Hid (∀ g, G = some g → w.heap.size ≤ g) ∧ si = .int .i64 (i : Int)) (fun si _ => Z.length - (intOf si).toNat)
  case atStart => exact ⟨0, [], none, by omega, rfl, HI, Lib.hid List.Pairwise.nil, Lib.hid (List.Perm.refl _), HB, Lib.hid (fun g e => by cases e), rfl⟩
  case round =>
    clear HI HB
    obtain ⟨i, L, G, hi, hLl, HI, HSO, HPM, HB, HGG, rfl⟩ := hrel
    have HLL := Lib.hid hLl
    clear hLl
    by_cases hlt : i < Z.length
    · have hli : (i : Int) < (Z.length : Int) := by omega
      obtain ⟨ab, ax, e, hb, c0, c1⟩ := (H.out.below HB.out (fun ad' e => by cases e; exact HAB.out (by omega))) i hlt
      cases e
      obtain ⟨x, hx⟩ : ∃ x, Z.getD i (0, 0) = x := ⟨_, rfl⟩
      rw [hx] at c0 c1
      have HX := Lib.hid hx
      clear hx
      go_wp2_with (go_at_call 17; refine (rpush_yes _ G Z.length L x _ HI.out (by rw [HLL.out]; exact hlt) hs).mono ?_; rintro e w5 ⟨g5, rfl, q5, k5, hg5⟩; have HI5 := Lib.hid q5; have HB5 := Lib.hid (HB.out.trans (k5.below HB.out.size (fun i hi => by omega))); have HG5 := Lib.hid (Nat.le_trans HB.out.size hg5); clear q5 k5 hg5)
      go_roundw
      case rel => exact ⟨i + 1, insP x L, some g5, by omega, by rw [insP_length, HLL.out], HI5, Lib.hid (insP_sorted x L HSO.out), Lib.hid (by
        rw [← take_snocP hlt, HX.out]
        exact (insP_perm x L).trans ((HPM.out.cons x).trans (List.perm_append_singleton x _).symm)), HB5, Lib.hid (fun g e => by cases e; exact HG5.out), by go_num⟩
      case measure => simp [intOf]; omega
    · obtain rfl : i = Z.length := by omega
      obtain ⟨hn, v, hb, hv⟩ := HI.out
      obtain ⟨ao, cap5, rfl, hrp, hao⟩ := hv.rp
      have c1 := cell_whole hb 1
      simp at c1
      rw [HLL.out] at c1
      have HRP := Lib.hid hrp
      have HAO := Lib.hid hao
      have hlt5 : ∀ g, G = some g → g < wr.heap.size := HI.out.lt.2
      have HLT := Lib.hid hlt5
      clear hb hv hrp hao hn hlt5
      go_wp2
      go_ret
      exact ⟨ao, cap5, L, rfl, by have := HPM.out; rwa [List.take_length] at this, HSO.out, HRP.out, HB.out, fun ad e => by
        have h := HAO.out ad e
        exact ⟨HGG.out _ h.symm, HLT.out _ h.symm⟩⟩
set_option maxHeartbeats 1000000 in
theorem rsorted_nil (cap : Nat) (ao : Option Addr) (w : World) : Calls Try.prog 27 #[.slice ao 0 cap] w (SortedRes [] w) := by
  go_enter Try.func27, Try.ntmps27
  go_wp2
  refine wp_loop_rounds 1 ?_
  rw [rounds_succ]
  go_wp2
  go_ret
  exact ⟨none, 0, [], rfl, List.Perm.refl _, List.Pairwise.nil, fun i hi => absurd hi (by simp), (Below.refl _ w).alloc (Nat.le_refl _) _, fun ad e => by cases e⟩
theorem rsorted_any (ao : Option Addr) (len cap : Nat) (Z : List (Int × Int)) (w : World) (hl : Z.length = len) (h : RP w ao Z) (hs : len ≤ 65536) : Calls Try.prog 27 #[.slice ao len cap] w (SortedRes Z w) := by
  subst hl
  cases Z with
  | nil => exact rsorted_nil cap ao w
  | cons z Z =>
    obtain ⟨b, o, rfl, hb, _⟩ := h 0 (by simp)
    exact rsorted_some _ cap _ w h (fun _ => hb) hs
set_option maxHeartbeats 1000000 in
theorem same_some (a b : Addr) (ca cb : Nat) (Z : List (Int × Int)) (w : World) (ha : RP w (some a) Z) (hb : RP w (some b) Z) (hs : Z.length ≤ 65536) :
    Calls Try.prog 25 #[.slice (some a) Z.length ca, .slice (some b) Z.length cb] w fun e w' => e = .returned (.bool true) ∧ ∃ n, w' = w.drewN n := by
  have HA := Lib.hid ha
  have HB := Lib.hid hb
  clear ha hb
  go_enter Try.func25, Try.ntmps25
  go_wp2
  go_loopw [5] (fun si wr => ∃ (i n : Nat), i ≤ Z.length ∧ Hid (wr = w.drewN n) ∧ si = .int .i64 (i : Int)) (fun si _ => Z.length - (intOf si).toNat)
  case atStart => exact ⟨0, 0, by omega, Lib.hid rfl, rfl⟩
  case round =>
    obtain ⟨i, n, hi, HW, rfl⟩ := hrel
    by_cases hlt : i < Z.length
    · have hli : (i : Int) < (Z.length : Int) := by omega
      obtain ⟨ab, ax, e, _, c0, c1⟩ := HA.out i hlt
      cases e
      obtain ⟨bb, bx, e, _, d0, d1⟩ := HB.out i hlt
      cases e
      obtain ⟨x, hx⟩ : ∃ x, Z.getD i (0, 0) = x := ⟨_, rfl⟩
      rw [hx] at c0 c1 d0 d1
      have c0' := cell_drew HW.out c0
      have c1' := cell_drew HW.out c1
      have d0' := cell_drew HW.out d0
      have d1' := cell_drew HW.out d1
      clear hx c0 c1 d0 d1
      have e1 := fun W => ne_pair x.1 x.2 x.1 x.2 W
      have e2 : (!(x.1 == x.1 && x.2 == x.2)) = false := by simp
      go_wp2
      go_quiet (fail)
      go_wp2
      go_roundw
      case rel => exact ⟨i + 1, n + nq, by omega, Lib.hid (by rw [HW.out, World.drewN_drewN]), by go_num⟩
      case measure => simp [intOf]; omega
    · have hli : (Z.length : Int) ≤ (i : Int) := by omega
      go_wp2
      go_ret
      exact ⟨rfl, n, HW.out⟩
theorem same_nil (a b : Option Addr) (ca cb : Nat) (w : World) : Calls Try.prog 25 #[.slice a 0 ca, .slice b 0 cb] w fun e w' => e = .returned (.bool true) ∧ ∃ n, w' = w.drewN n := by
  go_enter Try.func25, Try.ntmps25
  go_wp2
  refine wp_loop_rounds 1 ?_
  rw [rounds_succ]
  go_wp2
  go_ret
  exact ⟨rfl, 0, rfl⟩
theorem same_any (a b : Option Addr) (len ca cb : Nat) (Z : List (Int × Int)) (w : World) (hl : Z.length = len) (ha : RP w a Z) (hb : RP w b Z) (hs : len ≤ 65536) :
    Calls Try.prog 25 #[.slice a len ca, .slice b len cb] w fun e w' => e = .returned (.bool true) ∧ ∃ n, w' = w.drewN n := by
  subst hl
  cases Z with
  | nil => exact same_nil a b ca cb w
  | cons z Z =>
    obtain ⟨b1, o1, rfl, _⟩ := ha 0 (by simp)
    obtain ⟨b2, o2, rfl, _⟩ := hb 0 (by simp)
    exact same_some _ _ ca cb _ w ha hb hs
theorem sorts_law (w : World) (ao : Option Addr) (len cap : Nat) (Z : List (Int × Int)) (hl : Z.length = len) (hm : len ≤ maxLen) (hr : RP w ao Z) :
    Calls Try.prog 5 #[.slice ao len cap] w fun e w' => e = .returned (.bool true) ∧ Below w.heap.size w w' := by
  unfold maxLen at hm
  have HL := Lib.hid hl
  have HR := Lib.hid hr
  clear hl hr
  by_cases h : 300 < len
  · go_enter Try.func5, Try.ntmps5
    go_wp2_with (go_at_call 8; refine (awake_any _).mono ?_; rintro e w1 ⟨rfl, hb1⟩)
    go_ret
    exact ⟨rfl, hb1⟩
  · have hs : len ≤ 65536 := by omega
    have HAB : Hid (∀ ad, ao = some ad → 0 < Z.length → ad.block < w.heap.size) := Lib.hid (fun ad e h0 => by
      obtain ⟨b, o, e', hb, _⟩ := HR.out 0 h0
      rw [e] at e'
      cases e'
      exact hb)
    go_enter Try.func5, Try.ntmps5
    go_wp2_with (first
      | (go_at_call 8; refine (awake_any _).mono ?_; rintro e w1 ⟨rfl, hb1⟩; have HB1 := Lib.hid hb1; have HR1 := Lib.hid (HR.out.below' hb1 HAB.out); clear hb1)
      | (go_at_call 26; refine (sorted_any ao len cap Z _ HL.out HR1.out hs).mono ?_; rintro e w2 ⟨ao2, cap2, S2, rfl, hp2, hso2, hr2, hb2, hf2⟩; rw [HL.out]; have HP2 := Lib.hid hp2; have HS2 := Lib.hid hso2; have HRP2 := Lib.hid hr2; have HF2 := Lib.hid hf2; have hb12 := HB1.out.trans (hb2.mono HB1.out.size); have HB2 := Lib.hid hb12; have HR2 := Lib.hid (HR.out.below' hb12 HAB.out); clear hp2 hso2 hr2 hb2 hf2 hb12)
      | (go_at_call 27; refine (rsorted_any ao len cap Z _ HL.out HR2.out hs).mono ?_; rintro e w3 ⟨ao3, cap3, S3, rfl, hp3, hso3, hr3, hb3, hf3⟩; rw [HL.out]; have HE : Hid (S3 = S2) := Lib.hid (sorted_eq hso3 HS2.out (hp3.trans HP2.out.symm)); have HRP3 := Lib.hid (HE.out ▸ hr3); have HRQ3 := Lib.hid (HRP2.out.below (B := w2.heap.size) hb3 (fun ad e => (HF2.out ad e).2)); have HB3 := Lib.hid (HB2.out.trans (hb3.mono HB2.out.size)); clear hp3 hso3 hr3 hb3 hf3)
      | (go_at_call 25; refine (same_any ao2 ao3 len cap2 cap3 S2 _ (by rw [HP2.out.length_eq]; exact HL.out) HRQ3.out HRP3.out hs).mono ?_; rintro e w4 ⟨rfl, n4, h4⟩; have HW := Lib.hid h4; clear h4))
    go_ret
    have hw := HW.out
    subst hw
    have hb := HB3.out
    exact ⟨rfl, ⟨hb.os, hb.tape, hb.output, hb.size, hb.block⟩⟩
end Go.Proofs.Ytfcpdknonhgnoaa
