/- A row's line is one, and its words are the word and the numbers. -/
import Derived.Test.YtgdddalpklamoaaDoorWBack
import Derived.Deep.RegionHeld3
import Derived.IntWalk
namespace Go.Proofs.YtgdddalpklamoaaDoor
open Go.RowKit Go.Shelf
set_option linter.unusedVariables false

def noB (e : UInt8) (l : List UInt8) : Prop := ∀ c ∈ l, c ≠ e
theorem cut_none (e : UInt8) (p l : List UInt8) (h : noB e l) : cut e (p ++ l) = ((cut e p).1, (cut e p).2 ++ l) := by
  revert h
  refine snoc_ind (P := fun l => noB e l → cut e (p ++ l) = ((cut e p).1, (cut e p).2 ++ l)) (by intro; simp) ?_ l
  intro l c ih h
  have h1 := ih (fun x hx => h x (by simp [hx]))
  rw [← List.append_assoc, cut_miss e _ c (h c (by simp)), h1]
  simp
theorem digB_no32 {c : UInt8} (h : digB c = true) : c ≠ 32 ∧ c ≠ 10 := by
  have h1 := digB_yes h
  refine ⟨?_, ?_⟩ <;> rintro rfl
  · have : (32 : UInt8).toNat = 32 := rfl
    omega
  · have : (10 : UInt8).toNat = 10 := rfl
    omega
theorem dec_no (m : Nat) : noB 32 (Lib.decDigits m) ∧ noB 10 (Lib.decDigits m) := by
  have h := dec_all m
  rw [List.all_eq_true] at h
  exact ⟨fun c hc => (digB_no32 (h c hc)).1, fun c hc => (digB_no32 (h c hc)).2⟩
theorem itoa_no (n : Int) : noB 32 (Lib.itoa n) ∧ noB 10 (Lib.itoa n) := by
  unfold Lib.itoa
  split
  · have h := dec_no n.natAbs
    refine ⟨fun c hc => ?_, fun c hc => ?_⟩
    · rcases List.mem_cons.1 hc with rfl | hc
      · decide
      · exact h.1 c hc
    · rcases List.mem_cons.1 hc with rfl | hc
      · decide
      · exact h.2 c hc
  · exact dec_no n.toNat
theorem itoa_ne (n : Int) : Lib.itoa n ≠ [] := by
  unfold Lib.itoa
  split
  · simp
  · exact dec_ne _
theorem nums_no10 (Z : List Int) : noB 10 (numsL Z) := by
  intro c hc
  unfold numsL at hc
  obtain ⟨n, _, hn⟩ := List.mem_flatMap.1 hc
  rcases List.mem_cons.1 hn with rfl | hn
  · decide
  · exact (itoa_no n).2 c hn
theorem lines_row (x : List UInt8) (Z : List Int) (h : noB 10 x) : linesL (rowL x Z) = [x ++ numsL Z] := by
  have h1 : noB 10 (x ++ numsL Z) := by
    intro c hc
    rcases List.mem_append.1 hc with hc | hc
    · exact h c hc
    · exact nums_no10 Z c hc
  have h2 := cut_none 10 [] (x ++ numsL Z) h1
  rw [List.nil_append, cut_nil] at h2
  have h3 := cut_hit 10 (x ++ numsL Z)
  rw [h2] at h3
  unfold linesL pcs rowL
  rw [← List.append_assoc, h3]
  rfl
theorem cut_words (x : List UInt8) (Z : List Int) (h : noB 32 x) : (cut 32 (x ++ numsL Z)).1 ++ [(cut 32 (x ++ numsL Z)).2] = x :: Z.map Lib.itoa := by
  refine snoc_ind (P := fun Z => (cut 32 (x ++ numsL Z)).1 ++ [(cut 32 (x ++ numsL Z)).2] = x :: Z.map Lib.itoa) ?_ ?_ Z
  · have h2 := cut_none 32 [] x h
    rw [List.nil_append, cut_nil] at h2
    show (cut 32 (x ++ numsL [])).1 ++ [(cut 32 (x ++ numsL [])).2] = [x]
    rw [show numsL [] = [] from rfl, List.append_nil, h2]; rfl
  · intro Z n ih
    rw [numsL_snoc, show x ++ (numsL Z ++ 32 :: Lib.itoa n) = (x ++ numsL Z ++ [32]) ++ Lib.itoa n by simp, cut_none 32 _ _ (itoa_no n).1, cut_hit]
    simp only [List.nil_append]
    rw [ih]; simp
theorem filter_full {L : List (List UInt8)} (h : ∀ x ∈ L, x ≠ []) : L.filter full = L := by
  rw [List.filter_eq_self]
  intro x hx
  have := h x hx
  unfold full
  cases x with
  | nil => exact absurd rfl this
  | cons c r => rfl
theorem words_row (x : List UInt8) (Z : List Int) (h : noB 32 x) (hne : x ≠ []) : wordsL (x ++ numsL Z) = x :: Z.map Lib.itoa := by
  have h1 := cut_words x Z h
  have h2 : ∀ y ∈ x :: Z.map Lib.itoa, y ≠ [] := by
    intro y hy
    rcases List.mem_cons.1 hy with rfl | hy
    · exact hne
    · obtain ⟨n, _, rfl⟩ := List.mem_map.1 hy
      exact itoa_ne n
  have h3 : (cut 32 (x ++ numsL Z)).2 ≠ [] := h2 _ (by rw [← h1]; simp)
  unfold wordsL pcs
  rw [lastIf_ne h3, h1]
  exact filter_full h2
theorem lst_cell {α : Type} {enc : α → Value} {w : World} {ao : Option Addr} {A : List α} (h : Lst enc w ao A) {i : Nat} {x : α} (hx : A[i]? = some x) : ∃ b o, ao = some ⟨b, o, none⟩ ∧ b < w.heap.size ∧ w.cell? ⟨b, o + i, none⟩ = some (enc x) := by
  obtain ⟨hi, e⟩ := List.getElem?_eq_some_iff.1 hx
  obtain ⟨b, o, h1, h2, h3⟩ := h i hi
  exact ⟨b, o, h1, h2, by rw [h3, e]⟩
theorem cell_below' {B : Nat} {w w' : World} (hb : Below B w w') {b o : Nat} {v : Value} (h : w.cell? ⟨b, o, none⟩ = some v) (hlt : b < B) : w'.cell? ⟨b, o, none⟩ = some v := (hb.cell (p := ⟨b, o, none⟩) hlt).trans h

set_option maxRecDepth 100000 in
set_option maxHeartbeats 4000000 in
theorem rows_core (s : ByteArray) (ao : Option Addr) (cap : Nat) (Z : List Int) (w : World) (hl : Lst encI w ao Z) (hz : In64 Z) (h2 : Z.length ≤ 200) (hs : s.size ≤ 1048576) (ht : Tab w) (hne : 0 < s.size) :
    Calls Tryd.prog 8 #[.string s, .slice ao Z.length cap] w fun e w' => e = .returned (.bool true) ∧ Below w.heap.size w w' := by
  have HT := Lib.hid ht
  have HL := Lib.hid hl
  have HZ := Lib.hid hz
  clear ht hl hz
  have h2' : ¬ (200 : Int) < (Z.length : Int) := by omega
  have h2b : decide ((200 : Int) < (Z.length : Int)) = false := decide_eq_false h2'
  obtain ⟨hn1, hn2⟩ := nonempty_of s hne
  go_enter Tryd.func8, Tryd.ntmps8
  go_wp2_with (go_at_call 10; refine (awake_any _ HT.out).mono ?_; rintro e w1 ⟨rfl, b1⟩)
  go_loop [6] (fun i => ∃ k : Nat, k ≤ s.size ∧ i = .int .i64 (k : Int) ∧ Hid (noB 32 (s.data.toList.take k) ∧ noB 10 (s.data.toList.take k))) (fun i => s.size - (intOf i).toNat)
  case atStart => exact ⟨0, Nat.zero_le _, rfl, Lib.hid ⟨fun c hc => by simp at hc, fun c hc => by simp at hc⟩⟩
  case round =>
    obtain ⟨k, hk, rfl, HG⟩ := hrel
    by_cases hlt : k < s.size
    · by_cases hb32 : s[k]'hlt = 32
      · have hc : (((s[k]'hlt).toNat : Int) == 32) = true := by rw [hb32]; rfl
        go_wp2
        go_ret
        exact ⟨rfl, b1⟩
      · have hc : (((s[k]'hlt).toNat : Int) == 32) = false := by
          have : (s[k]'hlt).toNat ≠ (32 : UInt8).toNat := fun e => hb32 (UInt8.toNat_inj.1 e)
          simp at this ⊢; omega
        by_cases hb10 : s[k]'hlt = 10
        · have hc2 : (((s[k]'hlt).toNat : Int) == 10) = true := by rw [hb10]; rfl
          go_wp2
          go_ret
          exact ⟨rfl, b1⟩
        · have hc2 : (((s[k]'hlt).toNat : Int) == 10) = false := by
            have : (s[k]'hlt).toNat ≠ (10 : UInt8).toNat := fun e => hb10 (UInt8.toNat_inj.1 e)
            simp at this ⊢; omega
          have HG2 : Hid (noB 32 (s.data.toList.take (k + 1)) ∧ noB 10 (s.data.toList.take (k + 1))) := Lib.hid (by
            rw [take_snoc' s k hlt]
            refine ⟨fun c hc => ?_, fun c hc => ?_⟩
            · rcases List.mem_append.1 hc with h | h
              · exact HG.out.1 c h
              · simp at h; rw [h]; exact hb32
            · rcases List.mem_append.1 hc with h | h
              · exact HG.out.2 c h
              · simp at h; rw [h]; exact hb10)
          go_wp2
          go_round
          case rel => exact ⟨k + 1, by omega, by go_num, HG2⟩
          case measure => simp [intOf]; omega
    · have htk : s.data.toList.take k = s.data.toList := List.take_of_length_le (by rw [size_data]; omega)
      have hg := HG.out
      rw [htk] at hg
      have hne' : s.data.toList ≠ [] := by intro e; have := congrArg List.length e; rw [size_data, List.length_nil] at this; omega
      have hR := lines_row s.data.toList Z hg.2
      have hW := words_row s.data.toList Z hg.1 hne'
      have hrl : (rowL s.data.toList Z).length ≤ 1099511627776 := by
        have := numsL_len Z HZ.out
        unfold rowL
        rw [List.length_append, List.length_append, size_data, List.length_singleton]; omega
      obtain ⟨Y, hY⟩ : ∃ Y : ByteArray, Y.data.toList = rowL s.data.toList Z := ⟨⟨(rowL s.data.toList Z).toArray⟩, rfl⟩
      obtain ⟨X, hX⟩ : ∃ X : ByteArray, X.data.toList = s.data.toList ++ numsL Z := ⟨⟨(s.data.toList ++ numsL Z).toArray⟩, rfl⟩
      have hYs : Y.size ≤ 1099511627776 := by rw [← size_data, hY]; exact hrl
      have hXs : X.size ≤ 1099511627776 := by
        rw [← size_data, hX]
        unfold rowL at hrl
        rw [List.length_append, List.length_append] at hrl
        rw [List.length_append]; omega
      have K1 : Hid (∀ W, Lst encI W ao Z → Tab W → Calls Tryd.prog 20 #[.string s, .slice ao Z.length cap] W fun e w' => e = .returned (.string Y) ∧ Below W.heap.size W w') := Lib.hid (fun W h1 h3 => by
        refine (row_any s ao cap Z W h1 HZ.out (by omega) (by omega) h3).mono ?_
        rintro e w' ⟨rfl, hb⟩
        exact ⟨by rw [← hY, strV_of], hb⟩)
      have K2 : Hid (∀ W, Calls Tryd.prog 12 #[.string Y] W fun e w' => ∃ b o c, e = .returned (.slice (some ⟨b, o, none⟩) 1 c) ∧ b < w'.heap.size ∧ w'.cell? ⟨b, o, none⟩ = some (.string X) ∧ Below W.heap.size W w') := Lib.hid (fun W => by
        refine (lines_any Y W hYs).mono ?_
        rintro e w' ⟨v, rfl, ho, hb⟩
        rw [hY, hR] at ho
        obtain ⟨ao, c, rfl, hl⟩ := own_lst ho
        obtain ⟨b, o, rfl, h1, h2⟩ := lst_cell hl (i := 0) (x := s.data.toList ++ numsL Z) rfl
        exact ⟨b, o, c, rfl, h1, by rw [Nat.add_zero] at h2; rw [h2, ← hX, strV_of], hb⟩)
      have K3 : Hid (∀ W, Calls Tryd.prog 14 #[.string X] W fun e w' => ∃ b o c, e = .returned (.slice (some ⟨b, o, none⟩) (Z.length + 1) c) ∧ b < w'.heap.size ∧ w'.cell? ⟨b, o, none⟩ = some (.string s) ∧ Hid (∀ i (hi : i < Z.length), w'.cell? ⟨b, o + (i + 1), none⟩ = some (strV (Lib.itoa Z[i]))) ∧ Below W.heap.size W w') := Lib.hid (fun W => by
        refine (words_any X W hXs).mono ?_
        rintro e w' ⟨v, rfl, ho, hb⟩
        rw [hX, hW] at ho
        obtain ⟨ao, c, rfl, hl⟩ := own_lst ho
        obtain ⟨b, o, rfl, h1, h2⟩ := lst_cell hl (i := 0) (x := s.data.toList) rfl
        refine ⟨b, o, c, by simp, h1, by rw [Nat.add_zero] at h2; rw [h2, strV_of], Lib.hid (fun i hi => ?_), hb⟩
        obtain ⟨b', o', e', _, h3⟩ := lst_cell hl (i := i + 1) (x := Lib.itoa Z[i]) (by simp [hi])
        cases e'
        exact h3)
      have hli : ¬ (k : Int) < (s.size : Int) := by omega
      clear hY hX hR hW hg htk hrl hYs hXs HG
      go_wp2_with (first
        | (go_at_call 20; refine (K1.out _ (HL.out.below b1) (HT.out.below b1)).mono ?_; rintro e w2 ⟨rfl, b2⟩; have s1 := b1.size; have hb2 := b1.trans (b2.mono s1); have s2 := hb2.size)
        | (go_at_call 12; refine (K2.out _).mono ?_; rintro e w3 ⟨lb, lo, lc, rfl, hlb, hlc, b3⟩; have hb3 := hb2.trans (b3.mono s2); have s3 := hb3.size)
        | (go_at_call 14; refine (K3.out _).mono ?_; rintro e w4 ⟨wb, wo, wc, rfl, hwb, hwc, HWC, b4⟩; have hb4 := hb3.trans (b4.mono s3); have s4 := hb4.size))
      clear K1 K2 K3 hlc hwc hlb b2 b3 b4 hb2 hb3 s1 s2 s3
      go_loopw [9] (fun si wr => ∃ i : Nat, i ≤ Z.length ∧ si = .int .i64 (i : Int) ∧ Below w4.heap.size w4 wr) (fun si _ => Z.length - (intOf si).toNat)
      case atStart => exact ⟨0, Nat.zero_le _, rfl, Below.refl _ _⟩
      case round =>
        obtain ⟨i, hi, rfl, hbr⟩ := hrel
        have hbw := hb4.trans (hbr.mono s4)
        by_cases hil : i < Z.length
        · have hil' : (i : Int) < (Z.length : Int) := by omega
          obtain ⟨b, o, rfl, hb, hc⟩ := HL.out i hil
          have hc1 : wr.cell? ⟨b, o + i, none⟩ = some (.int .i64 Z[i]) := cell_below' hbw hc hb
          have hc2 : wr.cell? ⟨wb, wo + (i + 1), none⟩ = some (strV (Lib.itoa Z[i])) := cell_below' hbr (HWC.out i hil) hwb
          have hz1 := (HZ.out.at hil).1
          have hz2 := (HZ.out.at hil).2
          obtain ⟨T, hT⟩ : ∃ T : ByteArray, T.data.toList = Lib.itoa Z[i] := ⟨⟨(Lib.itoa Z[i]).toArray⟩, rfl⟩
          rw [← hT, strV_of] at hc2
          have K4 : Hid (∀ W, Tab W → Calls Tryd.prog 18 #[.int .i64 Z[i]] W fun e w' => e = .returned (.string T) ∧ Below W.heap.size W w') := Lib.hid (fun W h => text_at _ T W hz1 hz2 h hT)
          clear hT hc hz1 hz2
          generalize Z[i] = z at *
          have hbl : b < wr.heap.size := Nat.lt_of_lt_of_le hb hbw.size
          have hwl : wb < wr.heap.size := Nat.lt_of_lt_of_le hwb hbr.size
          have e1 : IntKind.i64.wrap ((i : Int) + 1) = (i : Int) + 1 := IntWalk.i64_in _ (by omega)
          have e2 : (0 : Int) ≤ (i : Int) + 1 := by omega
          have e3 : ((i : Int) + 1).toNat = i + 1 := by omega
          have e4 : (i : Int) + 1 < (Z.length : Int) + 1 := by omega
          have hTw : Hid (Tab wr.drew) := Lib.hid (HT.out.below hbw.drew)
          go_wp2_with fail
          go_region_held3 (fun W => W.cell? ⟨b, o + i, none⟩ = some (.int .i64 z) ∧ W.cell? ⟨wb, wo + (i + 1), none⟩ = some (.string T)) (first | exact ⟨hc1, hc2⟩ | exact ⟨z1, z2⟩ | go_keep)
            (first | (go_at_call 18; refine (K4.out _ hTw.out).mono ?_; rintro e w5 ⟨rfl, b5⟩; have z1 := cell_below' b5 (show wr.drew.cell? ⟨b, o + i, none⟩ = some (.int .i64 z) from hc1) hbl; have z2 := cell_below' b5 (show wr.drew.cell? ⟨wb, wo + (i + 1), none⟩ = some (.string T) from hc2) hwl))
          have hb5 : Below w4.heap.size w4 w5 := hbr.drew.trans (b5.mono hbr.size)
          clear e1 e2 e3 e4 z1 z2
          go_wp2
          go_roundw
          case rel => exact ⟨i + 1, by omega, by go_num, hb5⟩
          case measure => simp [intOf]; omega
        · have hil' : ¬ (i : Int) < (Z.length : Int) := by omega
          go_wp2
          go_ret
          exact ⟨rfl, hbw⟩
set_option maxHeartbeats 1000000 in
theorem rows_law (s : ByteArray) (ao : Option Addr) (len cap : Nat) (Z : List Int) (w : World) (hlen : Z.length = len) (hl : Lst encI w ao Z) (hz : In64 Z) (hm : len ≤ maxLen) (hs : s.size ≤ 1048576) (ht : Tab w) :
    Calls Tryd.prog 8 #[.string s, .slice ao len cap] w fun e w' => e = .returned (.bool true) ∧ Below w.heap.size w w' := by
  subst hlen
  unfold maxLen at hm
  by_cases h2 : Z.length ≤ 200
  · by_cases hne : 0 < s.size
    · exact rows_core s ao cap Z w hl hz h2 hs ht hne
    · have he := empty_of s (by omega)
      subst he
      have h2' : ¬ (200 : Int) < (Z.length : Int) := by omega
      have HT := Lib.hid ht
      clear ht hl hz
      go_enter Tryd.func8, Tryd.ntmps8
      go_wp2_with (go_at_call 10; refine (awake_any _ HT.out).mono ?_; rintro e w1 ⟨rfl, b1⟩)
      go_ret
      exact ⟨rfl, b1⟩
  · have h2' : (200 : Int) < (Z.length : Int) := by omega
    have HT := Lib.hid ht
    clear ht hl hz
    go_enter Tryd.func8, Tryd.ntmps8
    go_wp2_with (go_at_call 10; refine (awake_any _ HT.out).mono ?_; rintro e w1 ⟨rfl, b1⟩)
    go_ret
    exact ⟨rfl, b1⟩
end Go.Proofs.YtgdddalpklamoaaDoor
