/- The program's areDigits, isPadded and Number: what each says of any text. -/
import Derived.Test.YtbciplfncnangaaDoorWSpec
import Derived.Test.YtbciplfncnangaaDoorWLaid
import Derived.Test.YtbciplfncnangaaDoorChecked
import Derived.Lib.OthersKept
import Derived.Lib.Hide
import Derived.BigCall
namespace Go.Proofs.YtbciplfncnangaaDoor
open Go.RowKit
set_option linter.unusedVariables false

set_option maxHeartbeats 1000000 in
theorem digs_any (s : ByteArray) (w : World) (hs : s.size ≤ maxLen) :
    Calls Tryd.prog 62 #[.string s] w fun e w' => e = .returned (.bool (digsB s.data.toList)) ∧ Below w.heap.size w w' := by
  unfold maxLen at hs
  have hbe : (s.data.toList = []) ∨ (s.data.toList ≠ []) := by by_cases h : s.data.toList = [] <;> simp [h]
  go_enter Tryd.func62, Tryd.ntmps62
  go_wp2
  go_loopw [] (fun wr => ∃ pos : Nat, pos ≤ s.size ∧ Hid (wr.heap[w.heap.size]? = some (.stringIter s pos)) ∧ Below w.heap.size w wr ∧ Hid ((s.data.toList.take pos).all digB = true)) (fun wr => s.size - wr.iterPos w.heap.size)
  case atStart =>
    refine ⟨0, Nat.zero_le _, Lib.hid ?_, (Below.refl _ w).alloc (Nat.le_refl _) _, Lib.hid (by simp)⟩
    exact World.iter_heap w s 0
  case round =>
    obtain ⟨pos, hpos, HI, hbw, HA⟩ := hrel
    have hsz : w.heap.size < wr.heap.size := (Array.getElem?_eq_some_iff.1 HI.out).1
    by_cases hp : pos < s.size
    · by_cases ha : (s[pos]'hp).toNat < 128
      · have hnx : ∀ ty, (Instr.next (.pointer (some ⟨w.heap.size, 0, none⟩)) true ty).run Tryd.prog wr = _ := fun ty => Lib.run_next_ascii_at wr w.heap.size s pos ty HI.out hp ha
        by_cases h1 : 48 ≤ (s[pos]'hp).toNat
        · by_cases h2 : (s[pos]'hp).toNat ≤ 57
          · go_wp2
            go_roundw
            case rel =>
              refine ⟨pos + 1, by omega, Lib.hid (Lib.iterAt_heap wr w.heap.size s pos (pos + 1) HI.out), Lib.below_iterAt hbw (Nat.le_refl _) s (pos + 1), Lib.hid ?_⟩
              rw [take_snoc' s pos hp, List.all_append, HA.out]
              simp [digB_mk ⟨h1, h2⟩]
            case measure =>
              simp only [World.iterPos, HI.out, Lib.iterAt_heap wr w.heap.size s pos (pos + 1) HI.out]
              omega
          · go_wp2
            go_ret
            refine ⟨?_, Lib.below_iterAt hbw (Nat.le_refl _) s (pos + 1)⟩
            unfold digsB; rw [all_false pos hp (digB_no (by omega)), Bool.and_false]; rfl
        · go_wp2
          go_ret
          refine ⟨?_, Lib.below_iterAt hbw (Nat.le_refl _) s (pos + 1)⟩
          unfold digsB; rw [all_false pos hp (digB_no (by omega)), Bool.and_false]; rfl
      · have hnx : ∀ ty, (Instr.next (.pointer (some ⟨w.heap.size, 0, none⟩)) true ty).run Tryd.prog wr = _ := fun ty => Lib.run_next_any_at wr w.heap.size s pos ty HI.out hp
        have hd := (decode_high s pos hp (by omega)).1
        have hd2 := decode_le s pos
        generalize (Utf8.decode s pos).1 = r at hd hd2 hnx
        generalize (Utf8.decode s pos).2 = k at hnx
        go_wp2
        go_ret
        refine ⟨?_, Lib.below_iterAt hbw (Nat.le_refl _) s (pos + k)⟩
        unfold digsB; rw [all_false pos hp (digB_no (by omega)), Bool.and_false]; rfl
    · have hnx : ∀ ty, (Instr.next (.pointer (some ⟨w.heap.size, 0, none⟩)) true ty).run Tryd.prog wr = _ := fun ty => Lib.run_next_end_at wr w.heap.size s pos ty HI.out hp
      have hall : s.data.toList.all digB = true := by
        have := HA.out
        rwa [List.take_of_length_le (by rw [size_data]; omega)] at this
      have HALL := Lib.hid hall
      clear hall
      go_wp2
      go_ret
      refine ⟨?_, hbw⟩
      unfold digsB
      rw [HALL.out, Bool.and_true]
      rw [← Lib.toList_data]; rfl
theorem padded_any (s : ByteArray) (neg : Bool) (w : World) :
    Calls Tryd.prog 63 #[.string s, .bool neg] w fun e w' => e = .returned (.bool (padB s.data.toList neg)) ∧ w = w' := by
  rcases hp : Lib.hasPrefix s.data.toList [48] with _ | _
  · go_enter Tryd.func63, Tryd.ntmps63
    go_wp2_with (go_at_call 56; refine (Tryd.strings_HasPrefix _ _ _).mono ?_; rintro e w' ⟨rfl, rfl⟩)
    go_ret
    exact ⟨by unfold padB; rw [hp]; rfl, rfl⟩
  · cases neg
    · go_enter Tryd.func63, Tryd.ntmps63
      go_wp2_with (go_at_call 56; refine (Tryd.strings_HasPrefix _ _ _).mono ?_; rintro e w' ⟨rfl, rfl⟩)
      go_ret
      refine ⟨?_, rfl⟩
      unfold padB; rw [hp, ← Lib.toList_data]; rfl
    · go_enter Tryd.func63, Tryd.ntmps63
      go_wp2_with (go_at_call 56; refine (Tryd.strings_HasPrefix _ _ _).mono ?_; rintro e w' ⟨rfl, rfl⟩)
      go_ret
      exact ⟨by unfold padB; rw [hp]; rfl, rfl⟩
theorem digs_is (s : ByteArray) (b : Bool) (w : World) (hs : s.size ≤ maxLen) (h : digsB s.data.toList = b) :
    Calls Tryd.prog 62 #[.string s] w fun e w' => e = .returned (.bool b) ∧ Below w.heap.size w w' := by subst h; exact digs_any s w hs
theorem padded_is (s : ByteArray) (neg b : Bool) (w : World) (h : padB s.data.toList neg = b) :
    Calls Tryd.prog 63 #[.string s, .bool neg] w fun e w' => e = .returned (.bool b) ∧ w = w' := by subst h; exact padded_any s neg w
theorem cutp_is (s t : ByteArray) (neg : Bool) (w : World) (ht : t = ⟨(Lib.trimPrefix s.data.toList [45]).toArray⟩) (hn : Lib.hasPrefix s.data.toList [45] = neg) :
    Calls Tryd.prog 61 #[.string s, .string ⟨#[45]⟩] w fun e w' => e = .returned (.tuple #[.string t, .bool neg]) ∧ w = w' := by
  subst ht; subst hn
  refine (Tryd.strings_CutPrefix s ⟨#[45]⟩ w).mono ?_
  rintro e w' ⟨rfl, rfl⟩
  exact ⟨rfl, rfl⟩
theorem ret2_eq {a b c d : Int} (h : a = c) (h2 : b = d) : Ending.returned (.tuple #[.int .i64 a, .int .i64 b]) = .returned (.tuple #[.int .i64 c, .int .i64 d]) := by rw [h, h2]
set_option maxHeartbeats 2000000 in
theorem number_core (s t : ByteArray) (neg : Bool) (w : World) (ht : t.size ≤ maxLen) (HT : Hid (t = ⟨(Lib.trimPrefix s.data.toList [45]).toArray⟩)) (HN : Hid (Lib.hasPrefix s.data.toList [45] = neg))
    (HD : Hid (digsB t.data.toList = true)) (HP : Hid (padB t.data.toList neg = false)) (h18 : t.size ≤ 18) :
    Calls Tryd.prog 57 #[.string s] w fun e w' => e = .returned (.tuple #[.int .i64 (signed neg (valL t.data.toList)), .int .i64 0]) ∧ Below w.heap.size w w' := by
  cases neg
  all_goals
    go_enter Tryd.func57, Tryd.ntmps57
    go_wp2_with (first
      | (go_at_call 61; refine (cutp_is s t _ _ HT.out HN.out).mono ?_; rintro e w' ⟨rfl, rfl⟩)
      | (go_at_call 62; refine (digs_is t true _ ht HD.out).mono ?_; rintro e w1 ⟨rfl, hb1⟩)
      | (go_at_call 63; refine (padded_is t _ false _ HP.out).mono ?_; rintro e w' ⟨rfl, rfl⟩))
    go_loopw [6] (fun n wr => ∃ pos : Nat, pos ≤ t.size ∧ Hid (wr.heap[w1.heap.size]? = some (.stringIter t pos)) ∧ Below w.heap.size w wr ∧ n = .int .i64 (valL (t.data.toList.take pos))) (fun _ wr => t.size - wr.iterPos w1.heap.size)
    case atStart =>
      refine ⟨0, Nat.zero_le _, Lib.hid ?_, hb1.alloc hb1.size _, rfl⟩
      exact World.iter_heap w1 t 0
    case round =>
      obtain ⟨pos, hpos, HI, hbw, rfl⟩ := hrel
      have hbd := valL_small (t.data.toList.take pos) (take_all (digsB_all HD.out)) (by rw [List.length_take]; omega)
      have hlo := hbd.1
      have hhi := hbd.2
      clear hbd
      by_cases hp : pos < t.size
      · have hdg := digB_yes (all_at (digsB_all HD.out) pos hp)
        have hd1 := hdg.1
        have hd2 := hdg.2
        clear hdg
        have hstep : valL (t.data.toList.take (pos + 1)) = 10 * valL (t.data.toList.take pos) + (((t[pos]'hp).toNat : Int) - 48) := by rw [take_snoc' t pos hp, valL_snoc]
        have HS := Lib.hid hstep
        clear hstep
        have hbd1 := valL_small (t.data.toList.take (pos + 1)) (take_all (digsB_all HD.out)) (by rw [List.length_take]; omega)
        rw [HS.out] at hbd1
        have hlo1 := hbd1.1
        have hhi1 := hbd1.2
        clear hbd1
        have hnx : ∀ ty, (Instr.next (.pointer (some ⟨w1.heap.size, 0, none⟩)) true ty).run Tryd.prog wr = _ := fun ty => Lib.run_next_ascii_at wr w1.heap.size t pos ty HI.out hp (by omega)
        generalize valL (t.data.toList.take pos) = n0 at *
        go_wp2
        go_roundw
        case rel =>
          refine ⟨pos + 1, by omega, Lib.hid (Lib.iterAt_heap wr w1.heap.size t pos (pos + 1) HI.out), Lib.below_iterAt hbw hb1.size t (pos + 1), ?_⟩
          rw [HS.out]
        case measure =>
          simp only [World.iterPos, HI.out, Lib.iterAt_heap wr w1.heap.size t pos (pos + 1) HI.out]
          omega
      · have hnx : ∀ ty, (Instr.next (.pointer (some ⟨w1.heap.size, 0, none⟩)) true ty).run Tryd.prog wr = _ := fun ty => Lib.run_next_end_at wr w1.heap.size t pos ty HI.out hp
        have hall : valL (t.data.toList.take pos) = valL t.data.toList := by rw [List.take_of_length_le (by rw [size_data]; omega)]
        have HALL := Lib.hid hall
        clear hall
        generalize valL (t.data.toList.take pos) = n0 at *
        go_wp2
        go_ret2
        exact ⟨ret2_eq (by rw [← HALL.out]; rfl) rfl, hbw⟩
set_option maxHeartbeats 2000000 in
theorem number_bad1 (s t : ByteArray) (neg : Bool) (w : World) (ht : t.size ≤ maxLen) (HT : Hid (t = ⟨(Lib.trimPrefix s.data.toList [45]).toArray⟩)) (HN : Hid (Lib.hasPrefix s.data.toList [45] = neg))
    (HD : Hid (digsB t.data.toList = false)) :
    Calls Tryd.prog 57 #[.string s] w fun e w' => e = .returned (.tuple #[.int .i64 0, .int .i64 40]) ∧ Below w.heap.size w w' := by
  go_enter Tryd.func57, Tryd.ntmps57
  go_wp2_with (first
    | (go_at_call 61; refine (cutp_is s t neg _ HT.out HN.out).mono ?_; rintro e w' ⟨rfl, rfl⟩)
    | (go_at_call 62; refine (digs_is t false _ ht HD.out).mono ?_; rintro e w1 ⟨rfl, hb1⟩))
  go_ret2
  exact ⟨rfl, hb1⟩
set_option maxHeartbeats 2000000 in
theorem number_bad2 (s t : ByteArray) (neg : Bool) (w : World) (ht : t.size ≤ maxLen) (HT : Hid (t = ⟨(Lib.trimPrefix s.data.toList [45]).toArray⟩)) (HN : Hid (Lib.hasPrefix s.data.toList [45] = neg))
    (HD : Hid (digsB t.data.toList = true)) (HP : Hid (padB t.data.toList neg = true)) :
    Calls Tryd.prog 57 #[.string s] w fun e w' => e = .returned (.tuple #[.int .i64 0, .int .i64 40]) ∧ Below w.heap.size w w' := by
  go_enter Tryd.func57, Tryd.ntmps57
  go_wp2_with (first
    | (go_at_call 61; refine (cutp_is s t neg _ HT.out HN.out).mono ?_; rintro e w' ⟨rfl, rfl⟩)
    | (go_at_call 62; refine (digs_is t true _ ht HD.out).mono ?_; rintro e w1 ⟨rfl, hb1⟩)
    | (go_at_call 63; refine (padded_is t neg true _ HP.out).mono ?_; rintro e w' ⟨rfl, rfl⟩))
  go_ret2
  exact ⟨rfl, hb1⟩
set_option maxHeartbeats 2000000 in
theorem number_over (s t : ByteArray) (neg : Bool) (w : World) (ht : t.size ≤ maxLen) (HT : Hid (t = ⟨(Lib.trimPrefix s.data.toList [45]).toArray⟩)) (HN : Hid (Lib.hasPrefix s.data.toList [45] = neg))
    (HD : Hid (digsB t.data.toList = true)) (HP : Hid (padB t.data.toList neg = false)) (h18 : 18 < t.size) :
    Calls Tryd.prog 57 #[.string s] w fun e w' => e = .returned (.tuple #[.int .i64 0, .int .i64 10]) ∧ Below w.heap.size w w' := by
  have h18' : (18 : Int) < (t.size : Int) := by omega
  go_enter Tryd.func57, Tryd.ntmps57
  go_wp2_with (first
    | (go_at_call 61; refine (cutp_is s t neg _ HT.out HN.out).mono ?_; rintro e w' ⟨rfl, rfl⟩)
    | (go_at_call 62; refine (digs_is t true _ ht HD.out).mono ?_; rintro e w1 ⟨rfl, hb1⟩)
    | (go_at_call 63; refine (padded_is t neg false _ HP.out).mono ?_; rintro e w' ⟨rfl, rfl⟩))
  go_ret2
  exact ⟨rfl, hb1⟩
theorem trim_le (l p : List UInt8) : (Lib.trimPrefix l p).length ≤ l.length := by
  unfold Lib.trimPrefix; split
  · rw [List.length_drop]; omega
  · exact Nat.le_refl _
/-- The program's Number of any text. -/
theorem number_any (s : ByteArray) (w : World) (hs : s.size ≤ maxLen) :
    Calls Tryd.prog 57 #[.string s] w fun e w' => e = .returned (numV s.data.toList) ∧ Below w.heap.size w w' := by
  obtain ⟨t, ht⟩ : ∃ t : ByteArray, t = ⟨(Lib.trimPrefix s.data.toList [45]).toArray⟩ := ⟨_, rfl⟩
  have hd : t.data.toList = Lib.trimPrefix s.data.toList [45] := by rw [ht]
  have hts : t.size ≤ maxLen := by
    have := trim_le s.data.toList [45]
    rw [← hd, size_data, size_data] at this
    omega
  have hlen : t.size = (Lib.trimPrefix s.data.toList [45]).length := by rw [← hd, size_data]
  unfold numV
  by_cases h1 : digsB t.data.toList = true
  · by_cases h2 : padB t.data.toList (Lib.hasPrefix s.data.toList [45]) = true
    · rw [numL_bad (by rw [← hd, h2]; simp)]
      exact number_bad2 s t _ w hts (Lib.hid ht) (Lib.hid rfl) (Lib.hid h1) (Lib.hid h2)
    · rw [Bool.not_eq_true] at h2
      by_cases h3 : 18 < t.size
      · rw [numL_over (by rw [← hd]; exact ⟨h1, h2⟩) (by rw [← hlen]; exact h3)]
        exact number_over s t _ w hts (Lib.hid ht) (Lib.hid rfl) (Lib.hid h1) (Lib.hid h2) h3
      · rw [numL_ok (by rw [← hd]; exact ⟨h1, h2⟩) (by rw [← hlen]; exact h3), ← hd]
        exact number_core s t _ w hts (Lib.hid ht) (Lib.hid rfl) (Lib.hid h1) (Lib.hid h2) (by omega)
  · rw [Bool.not_eq_true] at h1
    rw [numL_bad (by rw [← hd, h1]; simp)]
    exact number_bad1 s t _ w hts (Lib.hid ht) (Lib.hid rfl) (Lib.hid h1)
end Go.Proofs.YtbciplfncnangaaDoor
