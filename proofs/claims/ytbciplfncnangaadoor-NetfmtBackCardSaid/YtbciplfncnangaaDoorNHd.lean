/- The document's Head and Idle. -/
import Derived.Test.YtbciplfncnangaaDoorNTai
namespace Go.Proofs.YtbciplfncnangaaDoor
open Go.RowKit Go.Shelf
set_option linter.unusedVariables false

theorem rnumAt (b : List UInt8) (hb : b.length ≤ maxLen) : ∃ k f, numL b = (k, f) ∧ (∀ W, Calls Tryd.prog 51 #[.string ⟨b.toArray⟩] W fun e w' => e = .returned (.tuple #[.int .i64 k, .int .i64 f]) ∧ W = w') :=
  ⟨_, _, rfl, fun W => rnum_at ⟨b.toArray⟩ _ _ W hb rfl⟩
theorem netLine_parts {a b c : List UInt8} (h : netLineB [a, b, c] = true) : (a = [110, 101, 116]) ∧ (c = [104, 111, 108, 100] ∨ c = [102, 114, 101, 101]) := by
  unfold netLineB netB holdB freeB at h
  simpa using h
set_option maxRecDepth 100000 in
set_option maxHeartbeats 2000000 in
theorem rhead_yes (ao : Option Addr) (cap : Nat) (a b c : List UInt8) (w : World) (hl : Lst strV w ao [a, b, c]) (hb : b.length ≤ maxLen) (hy : netLineB [a, b, c] = true) :
    Calls Tryd.prog 37 #[.slice ao 3 cap] w fun e w' => e = .returned (.tuple #[netV (headL [a, b, c]).1 (.slice none 0 0), .int .i64 (headL [a, b, c]).2]) ∧ Below w.heap.size w w' := by
  rw [headL_yes hy]
  obtain ⟨k, f, hkf, hN⟩ := rnumAt b hb
  have HN := Lib.hid hN
  rw [hkf]
  simp only
  clear hkf hN
  obtain ⟨bb, o, rfl, hbb, h1⟩ := lst_cell (i := 1) hl rfl
  obtain ⟨b2, o2, e2, hb2, h2⟩ := lst_cell (i := 2) hl rfl
  cases e2
  obtain ⟨b2, o2, e2, hb2, h0⟩ := lst_cell (i := 0) hl rfl
  cases e2
  clear hl hb2
  rw [Nat.add_zero] at h0
  unfold strV at h0 h1 h2
  obtain ⟨ha, hc⟩ := netLine_parts hy
  subst ha
  have g0 := cell_alloc h0 (.cells #[.int .i64 0, .bool false, .slice none 0 0] 24)
  have g1 := cell_alloc h1 (.cells #[.int .i64 0, .bool false, .slice none 0 0] 24)
  have g2 := cell_alloc h2 (.cells #[.int .i64 0, .bool false, .slice none 0 0] 24)
  clear h0 h1 h2 hy
  by_cases hf : f = 0
  · subst hf
    rw [if_pos rfl]
    by_cases hn : nodesE k = 0
    · rw [if_pos hn]
      have HE := Lib.hid hn
      clear hn
      rcases hc with rfl | rfl
      all_goals
        go_enter Tryd.func37, Tryd.ntmps37
        go_wp2_with (first
          | (go_at_call 51; refine (HN.out _).mono ?_; rintro e w2 ⟨rfl, rfl⟩)
          | (go_at_call 28; refine (rnodes_is k 0 _ HE.out).mono ?_; rintro e w' ⟨rfl, rfl⟩))
      · refine bodyPost_ret (v := .tuple #[.agg #[.int .i64 k, .bool true, .slice none 0 0], .int .i64 0]) (by simp [results, Tryd.results37, go_sem]) rfl ⟨rfl, (Below.refl _ w).alloc (Nat.le_refl _) _⟩
      · refine bodyPost_ret (v := .tuple #[.agg #[.int .i64 k, .bool false, .slice none 0 0], .int .i64 0]) (by simp [results, Tryd.results37, go_sem]) rfl ⟨rfl, (Below.refl _ w).alloc (Nat.le_refl _) _⟩
    · rw [if_neg hn]
      obtain ⟨e0, he0⟩ : ∃ e0, nodesE k = e0 := ⟨_, rfl⟩
      rw [he0] at hn ⊢
      have HE := Lib.hid he0
      have hf2 : (e0 != 0) = true := by simpa using hn
      have hf1 : (e0 == 0) = false := by simpa using hn
      clear hn he0
      rcases hc with rfl | rfl
      all_goals
        go_enter Tryd.func37, Tryd.ntmps37
        go_wp2_with (first
          | (go_at_call 51; refine (HN.out _).mono ?_; rintro e w2 ⟨rfl, rfl⟩)
          | (go_at_call 28; refine (rnodes_is k e0 _ HE.out).mono ?_; rintro e w' ⟨rfl, rfl⟩))
        refine bodyPost_ret (v := .tuple #[.agg #[.int .i64 0, .bool false, .slice none 0 0], .int .i64 e0]) (by simp [results, Tryd.results37, go_sem]) rfl ⟨rfl, (Below.refl _ w).alloc (Nat.le_refl _) _⟩
  · rw [if_neg hf]
    have hf2 : (f != 0) = true := by simpa using hf
    have hf1 : (f == 0) = false := by simpa using hf
    clear hf
    rcases hc with rfl | rfl
    all_goals
      go_enter Tryd.func37, Tryd.ntmps37
      go_wp2_with (first
        | (go_at_call 51; refine (HN.out _).mono ?_; rintro e w2 ⟨rfl, rfl⟩))
      refine bodyPost_ret (v := .tuple #[.agg #[.int .i64 0, .bool false, .slice none 0 0], .int .i64 f]) (by simp [results, Tryd.results37, go_sem]) rfl ⟨rfl, (Below.refl _ w).alloc (Nat.le_refl _) _⟩
set_option maxRecDepth 100000 in
set_option maxHeartbeats 2000000 in
theorem rhead_no (ao : Option Addr) (cap : Nat) (A : List (List UInt8)) (w : World) (hl : Lst strV w ao A) (hm : A.length ≤ 1099511627776) (hy : netLineB A = false) :
    Calls Tryd.prog 37 #[.slice ao A.length cap] w fun e w' => e = .returned (.tuple #[netV zeroN (.slice none 0 0), .int .i64 50]) ∧ Below w.heap.size w w' := by
  by_cases h3 : A.length = 3
  · obtain ⟨a, b', c, rfl⟩ := three h3
    obtain ⟨b, o, rfl, hb, hc⟩ := lst_cell (i := 0) hl rfl
    obtain ⟨b2, o2, e2, hb2, hc2⟩ := lst_cell (i := 2) hl rfl
    cases e2
    rw [Nat.add_zero] at hc
    unfold strV at hc hc2
    have g0 := cell_alloc hc (.cells #[.int .i64 0, .bool false, .slice none 0 0] 24)
    have g2 := cell_alloc hc2 (.cells #[.int .i64 0, .bool false, .slice none 0 0] 24)
    have hy' : (a == [110, 101, 116] && (c == [104, 111, 108, 100] || c == [102, 114, 101, 101])) = false := hy
    show Calls Tryd.prog 37 #[.slice _ 3 cap] w _
    have hcase : (a == [110, 101, 116]) = false ∨ ((a == [110, 101, 116]) = true ∧ (c == [104, 111, 108, 100]) = false ∧ (c == [102, 114, 101, 101]) = false) := by
      rcases h1 : (a == [110, 101, 116]) with _ | _
      · exact .inl rfl
      · right
        rw [h1, Bool.true_and, Bool.or_eq_false_iff] at hy'
        exact ⟨rfl, hy'⟩
    clear hy hy' hc hc2
    rcases hcase with h1 | ⟨h1, h2, h4⟩
    · have h1' : (a != [110, 101, 116]) = true := by rw [bne, h1]; rfl
      go_enter Tryd.func37, Tryd.ntmps37
      go_wp2
      refine bodyPost_ret (v := .tuple #[.agg #[.int .i64 0, .bool false, .slice none 0 0], .int .i64 50]) (by simp [results, Tryd.results37, go_sem]) rfl ⟨rfl, (Below.refl _ w).alloc (Nat.le_refl _) _⟩
    · have h1' : (a != [110, 101, 116]) = false := by rw [bne, h1]; rfl
      have h2' : (c != [104, 111, 108, 100]) = true := by rw [bne, h2]; rfl
      have h4' : (c != [102, 114, 101, 101]) = true := by rw [bne, h4]; rfl
      go_enter Tryd.func37, Tryd.ntmps37
      go_wp2
      refine bodyPost_ret (v := .tuple #[.agg #[.int .i64 0, .bool false, .slice none 0 0], .int .i64 50]) (by simp [results, Tryd.results37, go_sem]) rfl ⟨rfl, (Below.refl _ w).alloc (Nat.le_refl _) _⟩
  · have hne : ((A.length : Int) == 3) = false := by simp; omega
    have hne2 : ((A.length : Int) != 3) = true := by rw [bne, hne]; rfl
    generalize A.length = len at *
    go_enter Tryd.func37, Tryd.ntmps37
    go_wp2
    refine bodyPost_ret (v := .tuple #[.agg #[.int .i64 0, .bool false, .slice none 0 0], .int .i64 50]) (by simp [results, Tryd.results37, go_sem]) rfl ⟨rfl, (Below.refl _ w).alloc (Nat.le_refl _) _⟩
set_option maxHeartbeats 2000000 in
theorem ridle_any (s : ByteArray) (w : World) (hs : s.size ≤ 1099511627776) :
    Calls Tryd.prog 34 #[.string s] w fun e w' => e = .returned (.bool (idleB (wordsL s.data.toList))) ∧ Below w.heap.size w w' := by
  have HW := Lib.hid (fun W => rwords_any s W hs)
  have hlen := wordsL_len s.data.toList
  have hno := words_no s.data.toList
  rw [size_data] at hlen
  generalize wordsL s.data.toList = A at *
  cases A with
  | nil =>
    clear hno
    go_enter Tryd.func34, Tryd.ntmps34
    go_wp2_with (go_at_call 35; refine (HW.out _).mono ?_; rintro e w2 ⟨v2, rfl, o2, b2⟩; obtain ⟨ao2, cap2, rfl, l2⟩ := own_lst o2; clear o2 l2)
    go_ret
    exact ⟨rfl, b2⟩
  | cons x r =>
    have hx := (hno x (by simp)).2
    obtain ⟨X, hX⟩ : ∃ X : ByteArray, X = ⟨x.toArray⟩ := ⟨_, rfl⟩
    have hXl : X.data.toList = x := by rw [hX]
    have hXs : 0 < X.size := by rw [← size_data, hXl]; exact List.length_pos_iff.2 hx
    have hi : (0 : Int) < (X.size : Int) := by omega
    have hE : Hid (idleB (x :: r) = ((35 : UInt8) == X[0]'hXs)) := Lib.hid (by show Lib.hasPrefix x [35] = _; rw [← hXl, hasP_of X 35 hXs])
    have hlen2 : (0 : Int) < ((x :: r).length : Int) := by rw [List.length_cons]; omega
    have hne : (((x :: r).length : Int) == 0) = false := by rw [List.length_cons]; simp; omega
    have HX := Lib.hid hX
    clear hno hx hXl hX
    go_enter Tryd.func34, Tryd.ntmps34
    go_wp2_with (go_at_call 35; refine (HW.out _).mono ?_; rintro e w2 ⟨v2, rfl, o2, b2⟩; obtain ⟨ao2, cap2, rfl, l2⟩ := own_lst o2; obtain ⟨lb, lo, rfl, hlb, q0⟩ := lst_cell (i := 0) l2 rfl; rw [Nat.add_zero] at q0; unfold strV at q0; rw [← HX.out] at q0; clear o2 l2)
    go_ret
    refine ⟨ret_bool ?_, b2⟩
    rw [hE.out]
    exact eq_byte _ 35 35 rfl
end Go.Proofs.YtbciplfncnangaaDoor
