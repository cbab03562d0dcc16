/- Lines that say nothing, and blanks, make no difference: the statement Idle, walked. -/
import Derived.Test.YtbciplfncnangaaDoorNBack
import Derived.IntWalk
import Derived.Laws.Strings2
namespace Go.Proofs.YtbciplfncnangaaDoor
open Go.RowKit Go.Shelf
set_option linter.unusedVariables false

def trib (c : UInt8) : List UInt8 := if c = 32 then [32, 32, 32] else [c]
/-- A text with two blanks more behind each. -/
def tri (x : List UInt8) : List UInt8 := x.flatMap trib
theorem tri_snoc (x : List UInt8) (c : UInt8) : tri (x ++ [c]) = tri x ++ trib c := by unfold tri; simp
def triple (x : List UInt8) : List (List UInt8) := [35 :: 32 :: x, [32], 32 :: (tri x ++ [32])]
theorem cut_tri (x : List UInt8) : (cut 32 (32 :: tri x)).2 = (cut 32 x).2 ∧ (cut 32 (32 :: tri x)).1.filter full = (cut 32 x).1.filter full := by
  refine snoc_ind (P := fun x => (cut 32 (32 :: tri x)).2 = (cut 32 x).2 ∧ (cut 32 (32 :: tri x)).1.filter full = (cut 32 x).1.filter full) ⟨rfl, rfl⟩ ?_ x
  intro x c ih
  rw [tri_snoc, ← List.cons_append]
  by_cases hc : c = 32
  · subst hc
    have e1 : (32 :: tri x) ++ trib 32 = (32 :: tri x) ++ [32] ++ [32] ++ [32] := by simp [trib]
    rw [e1, cut_hit, cut_hit, cut_hit, cut_hit]
    refine ⟨rfl, ?_⟩
    simp only [List.filter_append, ih.1, ih.2]
    simp [full]
  · have e1 : trib c = [c] := by unfold trib; rw [if_neg hc]
    rw [e1, cut_miss 32 _ c hc, cut_miss 32 _ c hc]
    exact ⟨by rw [ih.1], ih.2⟩
theorem words_tri (x : List UInt8) : wordsL (32 :: (tri x ++ [32])) = wordsL x := by
  have h := cut_tri x
  rw [words_pcs, words_pcs, ← List.cons_append, cut_hit]
  simp only [List.filter_append, h.1, h.2]
  simp [full]
theorem words_mark (x : List UInt8) : wordsL (35 :: 32 :: x) = [35] :: wordsL x := by
  have e1 : (35 : UInt8) :: 32 :: x = [35] ++ [32] ++ x := rfl
  rw [words_pcs, words_pcs, e1, cut_app, cut_only 32 [35] (by intro c hc; simp at hc; subst hc; decide)]
  simp only [List.nil_append, List.append_assoc, List.cons_append]
  rw [List.filter_cons_of_pos (by rfl)]
theorem idle_mark (n : NetT) (x : List UInt8) : lineL n (35 :: 32 :: x) = (n, 0) := by
  unfold lineL wordsN; rw [words_mark, if_pos (by rfl)]
theorem idle_blank (n : NetT) : lineL n [32] = (n, 0) := by
  unfold lineL wordsN
  have : wordsL [32] = [] := by decide
  rw [this, if_pos (by rfl)]
theorem line_tri (n : NetT) (x : List UInt8) : lineL n (32 :: (tri x ++ [32])) = lineL n x := by unfold lineL; rw [words_tri]
theorem parse_triple : ∀ (L : List (List UInt8)) (n : NetT) (i : Nat), parseL n (3 * i) (L.flatMap triple) = ((parseL n i L).1, 3 * (parseL n i L).2.1, (parseL n i L).2.2)
  | [], n, i => by
    unfold parseL
    simp only [List.flatMap_nil]
    split <;> rfl
  | x :: r, n, i => by
    have ih := parse_triple r (lineL n x).1 (i + 1)
    rw [List.flatMap_cons]
    show parseL n (3 * i) ((35 :: 32 :: x) :: [32] :: (32 :: (tri x ++ [32])) :: r.flatMap triple) = _
    rw [parseL, idle_mark]
    simp only [if_true]
    rw [parseL, idle_blank]
    simp only [if_true]
    rw [parseL, line_tri, show parseL n i (x :: r) = if (lineL n x).2 = 0 then parseL (lineL n x).1 (i + 1) r else (zeroN, i + 1, (lineL n x).2) from rfl]
    split
    · next h => rw [show 3 * i + 1 + 1 + 1 = 3 * (i + 1) by omega, ih]
    · next h => simp only [Prod.mk.injEq]; exact ⟨trivial, by omega, trivial⟩
theorem no_tri {x : List UInt8} (h : noB 10 x) : noB 10 (tri x) := by
  intro c hc
  unfold tri at hc
  obtain ⟨d, hd, hcd⟩ := List.mem_flatMap.1 hc
  unfold trib at hcd
  split at hcd
  · simp at hcd; subst hcd; decide
  · simp at hcd; subst hcd; exact h _ hd
theorem no_triple {L : List (List UInt8)} (h : ∀ x ∈ L, noB 10 x) : ∀ y ∈ L.flatMap triple, noB 10 y := by
  intro y hy
  obtain ⟨x, hx, hyx⟩ := List.mem_flatMap.1 hy
  have hn := h x hx
  simp only [triple, List.mem_cons, List.not_mem_nil, or_false] at hyx
  rcases hyx with rfl | rfl | rfl
  · exact no_cons (by decide) (no_cons (by decide) hn)
  · exact no_cons (by decide) (fun c hc => by cases hc)
  · exact no_cons (by decide) (no_app (no_tri hn) (no_cons (by decide) (fun c hc => by cases hc)))
/-- A text with a line that says nothing ahead of each, and blanks more. -/
def spreadL (L : List (List UInt8)) : List UInt8 := flat (L.flatMap triple)
theorem spread_lines {l : List UInt8} : linesL (spreadL (linesL l)) = (linesL l).flatMap triple := linesL_flat _ (no_triple (pcs_no 10 l))
theorem parse_spread (l : List UInt8) : parseL zeroN 0 (linesL (spreadL (linesL l))) = ((parseL zeroN 0 (linesL l)).1, 3 * (parseL zeroN 0 (linesL l)).2.1, (parseL zeroN 0 (linesL l)).2.2) := by
  rw [spread_lines]; exact parse_triple (linesL l) zeroN 0
theorem spread_snoc (L : List (List UInt8)) (x : List UInt8) : spreadL (L ++ [x]) = spreadL L ++ (35 :: 32 :: x ++ [10, 32, 10, 32] ++ tri x ++ [32, 10]) := by
  unfold spreadL flat
  rw [List.flatMap_append, List.flatMap_append]
  simp [triple]
theorem trib_len (c : UInt8) : (trib c).length ≤ 3 := by unfold trib; split <;> simp
theorem tri_len (x : List UInt8) : (tri x).length ≤ 3 * x.length := by
  induction x with
  | nil => simp [tri]
  | cons c r ih =>
    have h := trib_len c
    have e : tri (c :: r) = trib c ++ tri r := by unfold tri; rw [List.flatMap_cons]
    rw [e, List.length_append, List.length_cons]; omega
theorem spread_len (L : List (List UInt8)) : (spreadL L).length ≤ 4 * (flat L).length + 8 * L.length := by
  refine snoc_ind (P := fun L => (spreadL L).length ≤ 4 * (flat L).length + 8 * L.length) (by simp [spreadL, flat]) ?_ L
  intro L x ih
  have h := tri_len x
  rw [spread_snoc, flat_snoc]
  simp only [List.length_append, List.length_cons, List.length_nil]
  omega
theorem spread_small {l : List UInt8} (h : l.length ≤ 2000) (k : Nat) : (spreadL ((linesL l).take k)).length ≤ 24004 := by
  have h1 := spread_len ((linesL l).take k)
  have h2 := flat_take_le (linesL l) k
  have h3 := flat_len l
  have h4 : (linesL l).length ≤ l.length := pcs_len 10 l
  rw [List.length_take] at h1
  omega
theorem byte_one (X : ByteArray) (j : Nat) (hj : j < X.size) : (X.extract j (j + 1)).data.toList = [X[j]] := by
  rw [extract_is X j (j + 1) _ rfl, drop_take_snoc X j j (Nat.le_refl _) hj, List.drop_eq_nil_of_le (by rw [List.length_take]; omega)]
  rfl
set_option maxRecDepth 100000 in
set_option maxHeartbeats 4000000 in
theorem spread_any (s : ByteArray) (w : World) (hs : s.size ≤ 2000) :
    Calls Tryd.prog 18 #[.string s] w fun e w' => ∃ X : ByteArray, X.data.toList = spreadL (linesL s.data.toList) ∧ e = .returned (.string X) ∧ Below w.heap.size w w' := by
  have HSM : Hid (∀ k, (spreadL ((linesL s.data.toList).take k)).length ≤ 24004) := Lib.hid (spread_small (by rw [size_data]; exact hs))
  have HLS : Hid (∀ x ∈ linesL s.data.toList, x.length ≤ 2000) := Lib.hid (fun x hx => by have := lines_small hx; rw [size_data] at this; omega)
  have hL : (linesL s.data.toList).length ≤ 2000 := by have := pcs_len 10 s.data.toList; rw [size_data] at this; unfold linesL; omega
  have HLI := Lib.hid (fun W => rlines_any s W (by omega))
  generalize linesL s.data.toList = L at *
  go_enter Tryd.func18, Tryd.ntmps18
  go_wp2_with (go_at_call 19; refine (HLI.out _).mono ?_; rintro e w1 ⟨v1, rfl, o1, b1⟩; obtain ⟨ao1, cap1, rfl, l1⟩ := own_lst o1; have HL1 := Lib.hid l1; clear o1 l1)
  go_loop [4, 5] (fun tv si => ∃ (k : Nat) (T : ByteArray), k ≤ L.length ∧ si = .int .i64 (k : Int) ∧ tv = .string T ∧ T.size ≤ 24004 ∧ Hid (T.data.toList = spreadL (L.take k))) (fun _ si => L.length - (intOf si).toNat)
  case atStart => exact ⟨0, ⟨#[]⟩, Nat.zero_le _, rfl, rfl, by simp [ByteArray.size], Lib.hid rfl⟩
  case round =>
    obtain ⟨k, T, hk, rfl, rfl, hT, HT⟩ := hrel
    by_cases hlt : k < L.length
    · have hlt' : (k : Int) < (L.length : Int) := by omega
      obtain ⟨lb, lo, rfl, hlb, hc⟩ := HL1.out k hlt
      have HS := Lib.hid (List.take_succ_eq_append_getElem hlt)
      have hxs := HLS.out _ (List.getElem_mem hlt)
      have hsz := HSM.out (k + 1)
      rw [HS.out, spread_snoc] at hsz
      obtain ⟨X, hX⟩ : ∃ X : ByteArray, X.data.toList = L[k] := ⟨⟨L[k].toArray⟩, rfl⟩
      rw [← hX, strV_of] at hc
      rw [← hX, size_data] at hxs
      have HX := Lib.hid hX
      rw [← hX, ← HT.out] at hsz
      have HSZ := Lib.hid hsz
      clear hX hsz
      obtain ⟨T1, hT1⟩ : ∃ T1 : ByteArray, T ++ ⟨#[35, 32]⟩ ++ X ++ ⟨#[10, 32, 10, 32]⟩ = T1 := ⟨_, rfl⟩
      have hT1s : T1.size = T.size + 2 + X.size + 4 := by
        rw [← hT1, ByteArray.size_append, ByteArray.size_append, ByteArray.size_append]; rfl
      have HT1 : Hid (T1.data.toList = T.data.toList ++ (35 :: 32 :: X.data.toList ++ [10, 32, 10, 32])) := Lib.hid (by rw [← hT1]; simp)
      go_wp2
      go_loop [4, 6] (fun tv sk => ∃ (j : Nat) (U : ByteArray), j ≤ X.size ∧ sk = .int .i64 (j : Int) ∧ tv = .string U ∧ U.size ≤ 40000 ∧ Hid (U.data.toList = T1.data.toList ++ tri (X.data.toList.take j))) (fun _ sk => X.size - (intOf sk).toNat)
      case atStart => exact ⟨0, T1, Nat.zero_le _, rfl, rfl, by omega, Lib.hid (by simp [tri])⟩
      case round =>
        obtain ⟨j, U, hj, rfl, rfl, hU, HU⟩ := hrel
        by_cases hjl : j < X.size
        · have hjl' : (j : Int) < (X.size : Int) := by omega
          obtain ⟨t, ht⟩ : ∃ t, X.extract j (j + 1) = t := ⟨_, rfl⟩
          have htl := byte_one X j hjl
          rw [ht] at htl
          have hts : t.size = 1 := by rw [← size_data, htl]; rfl
          have hUs : U.size ≤ 24004 + 2 + 2000 + 4 + 3 * j := by
            have h1 := congrArg List.length HU.out
            have h2 := tri_len (X.data.toList.take j)
            rw [size_data, List.length_append, size_data] at h1
            rw [List.length_take] at h2
            omega
          have hsl : ∀ W : World, (Instr.slice 9 (.string X) (some (.int .i64 (j : Int))) (some (.int .i64 ((j : Int) + 1))) none).run Tryd.prog W = .ok (.string t) W := fun W => by
            rw [run_slice_string W 9 X .i64 .i64 (j : Int) ((j : Int) + 1) Tryd.underlying9 (by omega) (by omega) (by omega), ← ht, Int.toNat_natCast, show ((j : Int) + 1).toNat = j + 1 by omega]
          have HTL := Lib.hid htl
          clear htl
          by_cases h32 : X[j]'hjl = 32
          · have hc32 : (((X[j]'hjl).toNat : Int) == 32) = true := by rw [h32]; rfl
            have HN : Hid (tri (X.data.toList.take (j + 1)) = tri (X.data.toList.take j) ++ (t.data.toList ++ [32, 32])) := Lib.hid (by rw [take_snoc' X j hjl, tri_snoc, HTL.out, h32]; rfl)
            go_wp2
            go_round
            case rel =>
              refine ⟨j + 1, U ++ t ++ ⟨#[32, 32]⟩, by omega, by go_num, rfl, ?_, Lib.hid ?_⟩
              · rw [ByteArray.size_append, ByteArray.size_append, hts]
                have e2 : (⟨#[32, 32]⟩ : ByteArray).size = 2 := rfl
                omega
              · rw [HN.out, ← List.append_assoc, ← HU.out]; simp
            case measure => simp [intOf]; omega
          · have hc32 := ne_byte (c := 32) (n := 32) rfl h32
            have HN : Hid (tri (X.data.toList.take (j + 1)) = tri (X.data.toList.take j) ++ t.data.toList) := Lib.hid (by rw [take_snoc' X j hjl, tri_snoc, HTL.out]; unfold trib; rw [if_neg h32])
            go_wp2
            go_round
            case rel =>
              refine ⟨j + 1, U ++ t, by omega, by go_num, rfl, ?_, Lib.hid ?_⟩
              · rw [ByteArray.size_append, hts]; omega
              · rw [HN.out, ← List.append_assoc, ← HU.out]; simp
            case measure => simp [intOf]; omega
        · have hjl' : ¬ (j : Int) < (X.size : Int) := by omega
          have hUL : U.data.toList = T1.data.toList ++ tri X.data.toList := by
            have := HU.out
            rwa [List.take_of_length_le (by rw [size_data]; omega)] at this
          have HUL := Lib.hid hUL
          have HF : Hid ((U ++ ⟨#[32, 10]⟩ : ByteArray).data.toList = spreadL (L.take (k + 1))) := Lib.hid (by
            rw [HS.out, spread_snoc, ← HX.out, ← HT.out]
            have e1 : (U ++ ⟨#[32, 10]⟩ : ByteArray).data.toList = U.data.toList ++ [32, 10] := by simp
            rw [e1, HUL.out, HT1.out]; simp)
          have HFS : Hid ((U ++ ⟨#[32, 10]⟩ : ByteArray).size ≤ 24004) := Lib.hid (by rw [← size_data, HF.out]; exact HSM.out (k + 1))
          clear hUL
          go_wp2
          go_round
          case rel => exact ⟨k + 1, U ++ ⟨#[32, 10]⟩, by omega, by go_num, rfl, HFS.out, HF⟩
          case measure => simp [intOf]; omega
    · have hlt' : ¬ (k : Int) < (L.length : Int) := by omega
      have HF : Hid (T.data.toList = spreadL L) := Lib.hid (by have := HT.out; rwa [List.take_of_length_le (by omega)] at this)
      go_wp2
      go_ret
      exact ⟨T, HF.out, rfl, b1⟩
set_option maxRecDepth 100000 in
set_option maxHeartbeats 4000000 in
theorem idle_law (s : ByteArray) (w : World) (hs : s.size ≤ maxLen) (ht : Tab w) :
    Calls Tryd.prog 8 #[.string s] w fun e w' => e = .returned (.bool true) ∧ Below w.heap.size w w' := by
  have HT := Lib.hid ht
  clear ht
  by_cases h2 : s.size ≤ 2000
  · have h2' : ¬ (2000 : Int) < (s.size : Int) := by omega
    have K0 := Lib.hid (fun W => parse_any s W (by omega))
    have hsp : ∀ X : ByteArray, X.data.toList = spreadL (linesL s.data.toList) → X.size ≤ 24004 ∧ parseL zeroN 0 (linesL X.data.toList) = ((parseL zeroN 0 (linesL s.data.toList)).1, 3 * (parseL zeroN 0 (linesL s.data.toList)).2.1, (parseL zeroN 0 (linesL s.data.toList)).2.2) := by
      intro X hX
      refine ⟨?_, by rw [hX, parse_spread]⟩
      have h3 := spread_small (l := s.data.toList) (by rw [size_data]; exact h2) (linesL s.data.toList).length
      rw [List.take_of_length_le (Nat.le_refl _), ← hX, size_data] at h3
      exact h3
    have K1 : Hid (∀ W, Calls Tryd.prog 18 #[.string s] W fun e w' => ∃ X : ByteArray, X.size ≤ 24004 ∧ parseL zeroN 0 (linesL X.data.toList) = ((parseL zeroN 0 (linesL s.data.toList)).1, 3 * (parseL zeroN 0 (linesL s.data.toList)).2.1, (parseL zeroN 0 (linesL s.data.toList)).2.2) ∧ e = .returned (.string X) ∧ Below W.heap.size W w') := Lib.hid (fun W => by
      refine (spread_any s W h2).mono ?_
      rintro e w' ⟨X, hX, rfl, hb⟩
      exact ⟨X, (hsp X hX).1, (hsp X hX).2, rfl, hb⟩)
    have HS := Lib.hid (parse_any_sound (ls := linesL s.data.toList) (n := zeroN) (i := 0) (.inl rfl))
    have hll := parse_line_le (linesL s.data.toList) zeroN 0
    have hLl : (linesL s.data.toList).length ≤ 2000 := by have := pcs_len 10 s.data.toList; rw [size_data] at this; unfold linesL; omega
    generalize parseL zeroN 0 (linesL s.data.toList) = r at *
    obtain ⟨⟨n, b, Z⟩, l, e0⟩ := r
    simp only at hll hsp K1
    have hl : l ≤ 2000 := by omega
    have hZ : Z.length ≤ 200 := sound_len HS.out
    clear hsp hll hLl
    go_enter Tryd.func8, Tryd.ntmps8
    go_wp2_with (first
      | (go_at_call 12; refine (awake_any _ HT.out).mono ?_; rintro e w1 ⟨rfl, b1⟩; have HB1 := Lib.hid b1; clear b1)
      | (go_at_call 15; (with_reducible refine (K0.out _).mono ?_); rintro e w2 ⟨v2, rfl, o2, b2⟩; obtain ⟨ao2, cap2, rfl, r2⟩ := own_view o2; have HR2 := Lib.hid (row_alloc r2 (.cells #[.int .i64 n, .bool b, .slice ao2 Z.length cap2] 24)); obtain ⟨c0, c1, c2⟩ := netBox w2 n b (.slice ao2 Z.length cap2); have HB2 := Lib.hid ((HB1.out.trans (b2.mono HB1.out.size)).alloc (HB1.out.trans (b2.mono HB1.out.size)).size (.cells #[.int .i64 n, .bool b, .slice ao2 Z.length cap2] 24)); unfold netV; clear o2 b2 r2 K0)
      | (go_at_call 18; refine (K1.out _).mono ?_; rintro e w3 ⟨X, hXs, hXp, rfl, b3⟩; have HXP := Lib.hid hXp; have d0 := cell_below b3 c0; have d1 := cell_below b3 c1; have d2 := cell_below b3 c2; have HR3 := Lib.hid (HR2.out.below' b3); have HB3 := Lib.hid (HB2.out.trans (b3.mono HB2.out.size)); clear b3 c0 c1 c2 hXp)
      | (go_at_call 15; refine (parse_any X _ (by omega)).mono ?_; rintro e w4 hr4; rw [HXP.out] at hr4; obtain ⟨v4, rfl, o4, b4⟩ := hr4; obtain ⟨ao4, cap4, rfl, r4⟩ := own_view o4; simp only at r4; have f0 := cell_alloc (cell_below b4 d0) (.cells #[.int .i64 n, .bool b, .slice ao4 Z.length cap4] 24); have f1 := cell_alloc (cell_below b4 d1) (.cells #[.int .i64 n, .bool b, .slice ao4 Z.length cap4] 24); have f2 := cell_alloc (cell_below b4 d2) (.cells #[.int .i64 n, .bool b, .slice ao4 Z.length cap4] 24); have HR4 := Lib.hid (row_alloc (HR3.out.below' b4) (.cells #[.int .i64 n, .bool b, .slice ao4 Z.length cap4] 24)); have HR5 := Lib.hid (row_alloc r4 (.cells #[.int .i64 n, .bool b, .slice ao4 Z.length cap4] 24)); have HB4 := Lib.hid ((HB3.out.trans (b4.mono HB3.out.size)).alloc (HB3.out.trans (b4.mono HB3.out.size)).size (.cells #[.int .i64 n, .bool b, .slice ao4 Z.length cap4] 24)); unfold netV; clear b4 r4 o4 d0 d1 d2)
      | (go_at_call 17; refine (rsame_any n n b b Z Z _ _ _ _ _ HR4.out HR5.out (by omega)).mono ?_; rintro e w5 ⟨rfl, b5⟩; have HB5 := Lib.hid (HB4.out.trans (b5.mono HB4.out.size)); rw [same_self]; clear b5))
    go_ret
    exact ⟨by simp, HB5.out⟩
  · have h2' : (2000 : Int) < (s.size : Int) := by omega
    unfold maxLen at hs
    go_enter Tryd.func8, Tryd.ntmps8
    go_wp2_with (go_at_call 12; refine (awake_any _ HT.out).mono ?_; rintro e w1 ⟨rfl, b1⟩)
    go_ret
    exact ⟨rfl, b1⟩
end Go.Proofs.YtbciplfncnangaaDoor
