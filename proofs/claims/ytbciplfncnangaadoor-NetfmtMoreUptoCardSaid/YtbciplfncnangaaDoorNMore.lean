/- With one arc more a text is read as with one more, or refused at that line: the statement More, walked. -/
import Derived.Test.YtbciplfncnangaaDoorNBack
import Derived.IntWalk
namespace Go.Proofs.YtbciplfncnangaaDoor
open Go.RowKit Go.Shelf
set_option linter.unusedVariables false

theorem begun_line {n : NetT} (hn : Sound n) (hp : 0 < n.1) {x : List UInt8} (h : (lineL n x).2 = 0) : 0 < (lineL n x).1.1 := by
  unfold lineL wordsN at h ⊢
  split
  · exact hp
  · next hi =>
    rw [if_neg hi, if_pos hp] at h
    first | rw [if_pos hp] | skip
    exact right_pos (tailL_sound (sound_begun hn hp) _ h)
theorem parse_snoc (x : List UInt8) : ∀ (L : List (List UInt8)) (n : NetT) (i : Nat), Sound n → (parseL n i L).2.2 = 0 →
    parseL n i (L ++ [x]) = if (lineL (parseL n i L).1 x).2 = 0 then ((lineL (parseL n i L).1 x).1, 0, 0) else (zeroN, i + L.length + 1, (lineL (parseL n i L).1 x).2)
  | [], n, i, hn, h => by
    unfold parseL at h
    split at h
    · next hp =>
      have e1 : parseL n i [] = (n, 0, 0) := by unfold parseL; rw [if_pos hp]
      rw [e1, List.nil_append]
      show (if (lineL n x).2 = 0 then parseL (lineL n x).1 (i + 1) [] else (zeroN, i + 1, (lineL n x).2)) = _
      split
      · next h2 => unfold parseL; rw [if_pos (begun_line hn hp h2)]
      · rfl
    · cases h
  | y :: r, n, i, hn, h => by
    have e1 : parseL n i (y :: r) = if (lineL n y).2 = 0 then parseL (lineL n y).1 (i + 1) r else (zeroN, i + 1, (lineL n y).2) := rfl
    rw [e1] at h ⊢
    have e2 : parseL n i ((y :: r) ++ [x]) = if (lineL n y).2 = 0 then parseL (lineL n y).1 (i + 1) (r ++ [x]) else (zeroN, i + 1, (lineL n y).2) := rfl
    rw [e2]
    by_cases hy : (lineL n y).2 = 0
    · rw [if_pos hy] at h
      simp only [if_pos hy]
      rw [parse_snoc x r (lineL n y).1 (i + 1) (words_sound hn _ hy) h]
      rw [show i + 1 + r.length + 1 = i + (y :: r).length + 1 by rw [List.length_cons]; omega]
    · rw [if_neg hy] at h; exact absurd h hy
theorem errOf_all {b c d e : List UInt8} (h : errOf [b, c, d, e] = 0) : (numL b).2 = 0 ∧ (numL c).2 = 0 ∧ (numL d).2 = 0 ∧ (numL e).2 = 0 := by
  unfold errOf at h
  split at h
  · next h1 =>
    unfold errOf at h
    split at h
    · next h2 =>
      unfold errOf at h
      split at h
      · next h3 =>
        unfold errOf at h
        split at h
        · next h4 => exact ⟨h1, h2, h3, h4⟩
        · next h4 => exact absurd h h4
      · next h3 => exact absurd h h3
    · next h2 => exact absurd h h2
  · next h1 => exact absurd h h1
theorem num_back {n : Int} (h : (numL (Lib.itoa n)).2 = 0) : (numL (Lib.itoa n)).1 = n := by
  rw [num_itoa] at h ⊢
  split at h
  · next hs => rw [if_pos hs]
  · cases h
theorem line_more {m : NetT} (hm : Right m) (a : ArcT) (h : (lineL m (arcLine a)).2 = 0) : (lineL m (arcLine a)).1 = (m.1, m.2.1, m.2.2 ++ [a]) := by
  have hp := right_pos hm
  unfold lineL wordsN at h ⊢
  rw [if_neg (by rw [idle_arc]; decide), if_pos hp, words_arc] at h ⊢
  unfold tailL at h ⊢
  simp only [if_true] at h ⊢
  split at h
  · next he =>
    obtain ⟨h1, h2, h3, h4⟩ := errOf_all he
    have ha : arcOf (Lib.itoa a.1) (Lib.itoa a.2.1) (Lib.itoa a.2.2.1) (Lib.itoa a.2.2.2) = a := by
      unfold arcOf; rw [num_back h1, num_back h2, num_back h3, num_back h4]
    rw [if_pos he]
    rw [ha] at h ⊢
    split at h
    · next hb =>
      rw [if_pos hb]
      split at h
      · cases h
      · next hc => rw [if_neg hc]
    · next hb => exact absurd h hb
  · next he => exact absurd h he
/-- A text with one arc's line more. -/
theorem lines_more (l : List UInt8) (a : ArcT) : linesL (flat (linesL l) ++ rowL arcB (arcL a)) = linesL l ++ [arcLine a] := by
  have e1 : flat (linesL l) ++ rowL arcB (arcL a) = flat (linesL l ++ [arcLine a]) := by rw [flat_snoc]; unfold rowL arcLine; simp
  rw [e1, linesL_flat]
  intro x hx
  rcases List.mem_append.1 hx with hx | hx
  · exact pcs_no 10 l x hx
  · rw [List.mem_singleton] at hx; subst hx; exact arcLine_no a
theorem own_grown {w w' : World} {B : Nat} {e : TypeId} {k : Nat} {v : Value} {n : Nat} {xs : List Value} {row : Option Nat} (h : w.ownsRow B e k v n xs) (hg : w.grownBy w' row) (hne : ∀ g, row = some g → g < B) : w'.ownsRow B e k v n xs := by
  refine ⟨h.1, ?_⟩
  rcases h.2 with h1 | ⟨g', cap, cur, rfl, h2, h3, h4⟩
  · exact .inl h1
  · exact .inr ⟨g', cap, cur, rfl, h2, (hg.block g' (lt_whole h3) (fun e => by have := hne g' e.symm; omega)).trans h3, h4⟩
theorem own_lt {w : World} {B g : Nat} {e : TypeId} {k : Nat} {v : Value} {n : Nat} {xs : List Value} (h : w.ownsRow B e k v n xs) (hg : v.ownBlock = some g) : g < w.heap.size := by
  rcases h.2 with ⟨rfl, _⟩ | ⟨g', cap, cur, rfl, h2, h3, _⟩
  · simp [Value.ownBlock] at hg
  · simp only [Value.ownBlock, Option.some.injEq] at hg; subst hg; exact lt_whole h3
/-- What is read of a text with one arc's line more. -/
theorem parse_more {l : List UInt8} {n : Int} {b : Bool} {Z : List ArcT} (h : parseL zeroN 0 (linesL l) = ((n, b, Z), 0, 0)) (a : ArcT) : Right (n, b, Z) ∧
    ((parseL zeroN 0 (linesL (flat (linesL l) ++ rowL arcB (arcL a))) = ((n, b, Z ++ [a]), 0, 0)) ∨ ∃ f, f ≠ 0 ∧ parseL zeroN 0 (linesL (flat (linesL l) ++ rowL arcB (arcL a))) = (zeroN, (linesL l).length + 1, f)) := by
  have h0 : (parseL zeroN 0 (linesL l)).2.2 = 0 := by rw [h]
  have hr := (parse_sound (linesL l) zeroN 0 (.inl rfl) h0).1
  have hs := parse_snoc (arcLine a) (linesL l) zeroN 0 (.inl rfl) h0
  rw [h] at hr hs
  simp only at hr hs
  refine ⟨hr, ?_⟩
  rw [lines_more, hs]
  by_cases hf : (lineL (n, b, Z) (arcLine a)).2 = 0
  · left; rw [if_pos hf, line_more hr a hf]
  · right; exact ⟨_, hf, by rw [if_neg hf, Nat.zero_add]⟩
/-- The program's Parse of that text. -/
theorem parse_bad {n : Nat} {f : Int} {X : ByteArray} (hp : parseL zeroN 0 (linesL X.data.toList) = (zeroN, n, f)) (hs : X.size ≤ 1099511627776) (w : World) :
    Calls Tryd.prog 15 #[.string X] w fun e w' => ∃ ao cap, e = .returned (.tuple #[.agg #[.int .i64 0, .bool false, .slice ao 0 cap], .int .i64 (n : Int), .int .i64 f]) ∧ Below w.heap.size w w' := by
  refine (parse_any X w hs).mono ?_
  rintro e w' hr
  rw [hp] at hr
  obtain ⟨v, rfl, ho, hb⟩ := hr
  obtain ⟨ao, cap, rfl, _⟩ := own_view ho
  exact ⟨ao, cap, rfl, hb⟩
theorem parse_good {n : Int} {b : Bool} {Z : List ArcT} {k : Nat} (hk : Z.length = k) {X : ByteArray} (hp : parseL zeroN 0 (linesL X.data.toList) = ((n, b, Z), 0, 0)) (hs : X.size ≤ 1099511627776) (w : World) :
    Calls Tryd.prog 15 #[.string X] w fun e w' => ∃ ao cap, e = .returned (.tuple #[.agg #[.int .i64 n, .bool b, .slice ao k cap], .int .i64 0, .int .i64 0]) ∧ w'.ownsRow w.heap.size 37 4 (.slice ao k cap) Z.length (Z.flatMap encA) ∧ Below w.heap.size w w' := by
  subst hk
  refine (parse_any X w hs).mono ?_
  rintro e w' hr
  rw [hp] at hr
  obtain ⟨v, rfl, ho, hb⟩ := hr
  obtain ⟨ao, cap, rfl, _⟩ := own_view ho
  exact ⟨ao, cap, rfl, ho, hb⟩
set_option maxRecDepth 100000 in
set_option maxHeartbeats 4000000 in
theorem more_over (s : ByteArray) (x y u t : Int) (w : World) (hs : s.size ≤ 1099511627776) (ht : Tab w) (h : 2000 < s.size ∨ (parseL zeroN 0 (linesL s.data.toList)).2.2 ≠ 0) :
    Calls Tryd.prog 9 #[.string s, .agg #[.int .i64 x, .int .i64 y, .int .i64 u, .int .i64 t]] w fun e w' => e = .returned (.bool true) ∧ Below w.heap.size w w' := by
  have HB0 := Lib.hid ((Below.refl w.heap.size w).alloc (Nat.le_refl _) (.cells #[.int .i64 x, .int .i64 y, .int .i64 u, .int .i64 t] 37))
  have HT := Lib.hid (ht.below HB0.out)
  have K0 := Lib.hid (fun W => parse_any s W hs)
  generalize parseL zeroN 0 (linesL s.data.toList) = r at *
  obtain ⟨⟨n, b, Z⟩, l, e0⟩ := r
  simp only at h
  clear ht
  by_cases h2 : 2000 < s.size
  · have h2' : (2000 : Int) < (s.size : Int) := by omega
    go_enter Tryd.func9, Tryd.ntmps9
    go_wp2_with (first
      | (go_at_call 12; refine (awake_any _ HT.out).mono ?_; rintro e w1 ⟨rfl, b1⟩; have HB1 := Lib.hid (HB0.out.trans (b1.mono HB0.out.size)); clear b1)
      | (go_at_call 15; refine (K0.out _).mono ?_; rintro e w2 ⟨v2, rfl, o2, b2⟩; obtain ⟨ao2, cap2, rfl, r2⟩ := own_view o2; have HB2 := Lib.hid ((HB1.out.trans (b2.mono HB1.out.size)).alloc (HB1.out.trans (b2.mono HB1.out.size)).size (.cells #[.int .i64 n, .bool b, .slice ao2 Z.length cap2] 24)); unfold netV; clear o2 b2 r2))
    go_ret
    exact ⟨rfl, HB2.out⟩
  · have he : e0 ≠ 0 := h.resolve_left h2
    have h2' : ¬ (2000 : Int) < (s.size : Int) := by omega
    have hf2 : (e0 != 0) = true := by simpa using he
    have hf1 : (e0 == 0) = false := by simpa using he
    clear he h
    go_enter Tryd.func9, Tryd.ntmps9
    go_wp2_with (first
      | (go_at_call 12; refine (awake_any _ HT.out).mono ?_; rintro e w1 ⟨rfl, b1⟩; have HB1 := Lib.hid (HB0.out.trans (b1.mono HB0.out.size)); clear b1)
      | (go_at_call 15; refine (K0.out _).mono ?_; rintro e w2 ⟨v2, rfl, o2, b2⟩; obtain ⟨ao2, cap2, rfl, r2⟩ := own_view o2; have HB2 := Lib.hid ((HB1.out.trans (b2.mono HB1.out.size)).alloc (HB1.out.trans (b2.mono HB1.out.size)).size (.cells #[.int .i64 n, .bool b, .slice ao2 Z.length cap2] 24)); unfold netV; clear o2 b2 r2))
    go_ret
    exact ⟨rfl, HB2.out⟩
theorem own_rowK {α : Type} {enc : α → List Value} {k : Nat} (hk : ∀ x, (enc x).length = k) {w : World} {base : Nat} {e : TypeId} {ao : Option Addr} {len cap : Nat} {A : List α} (h : w.ownsRow base e k (.slice ao len cap) A.length (A.flatMap enc)) : Row enc k w ao A := by
  obtain ⟨ao', cap', e', hr⟩ := own_row hk h
  injection e' with h1 h2 h3
  subst h1
  exact hr
theorem arcBox (w : World) (x y u t : Int) : (w.alloc (.cells #[.int .i64 x, .int .i64 y, .int .i64 u, .int .i64 t] 37)).cell? ⟨w.heap.size, 0, none⟩ = some (.int .i64 x) ∧ (w.alloc (.cells #[.int .i64 x, .int .i64 y, .int .i64 u, .int .i64 t] 37)).cell? ⟨w.heap.size, 1, none⟩ = some (.int .i64 y) ∧ (w.alloc (.cells #[.int .i64 x, .int .i64 y, .int .i64 u, .int .i64 t] 37)).cell? ⟨w.heap.size, 2, none⟩ = some (.int .i64 u) ∧ (w.alloc (.cells #[.int .i64 x, .int .i64 y, .int .i64 u, .int .i64 t] 37)).cell? ⟨w.heap.size, 3, none⟩ = some (.int .i64 t) :=
  ⟨cell_new w _ 37 0, cell_new w _ 37 1, cell_new w _ 37 2, cell_new w _ 37 3⟩
set_option maxRecDepth 100000 in
set_option maxHeartbeats 4000000 in
theorem more_core (s : ByteArray) (x y u t : Int) (n : Int) (b : Bool) (Z : List ArcT) (w : World) (hs : s.size ≤ 2000) (hi : In64 [x, y, u, t]) (ht : Tab w) (h : parseL zeroN 0 (linesL s.data.toList) = ((n, b, Z), 0, 0)) :
    Calls Tryd.prog 9 #[.string s, .agg #[.int .i64 x, .int .i64 y, .int .i64 u, .int .i64 t]] w fun e w' => e = .returned (.bool true) ∧ Below w.heap.size w w' := by
  have HB0 := Lib.hid ((Below.refl w.heap.size w).alloc (Nat.le_refl _) (.cells #[.int .i64 x, .int .i64 y, .int .i64 u, .int .i64 t] 37))
  have HT := Lib.hid (ht.below HB0.out)
  have hs' : ¬ (2000 : Int) < (s.size : Int) := by omega
  have K0 := Lib.hid (fun W => parse_good (k := Z.length) rfl h (by omega) W)
  obtain ⟨hr, hcase⟩ := parse_more h (x, y, u, t)
  have hZ : Z.length ≤ 200 := hr.2.1
  have hfl := flat_len s.data.toList
  rw [size_data] at hfl
  have hL : (linesL s.data.toList).length ≤ 2000 := by have := pcs_len 10 s.data.toList; rw [size_data] at this; unfold linesL; omega
  have HLI := Lib.hid (fun W => rlines_any s W (by omega))
  have hrl : (rowL arcB [x, y, u, t]).length ≤ 92 := by
    have h1 := numsL_len [x, y, u, t] hi
    unfold rowL
    rw [List.length_append, List.length_append, List.length_singleton]
    have h2 : arcB.length = 3 := rfl
    simp at h1
    omega
  obtain ⟨R, hR⟩ : ∃ R : ByteArray, R.data.toList = rowL arcB [x, y, u, t] := ⟨⟨(rowL arcB [x, y, u, t]).toArray⟩, rfl⟩
  have hRs : R.size ≤ 92 := by rwa [← hR, size_data] at hrl
  have hcase2 : ∀ X : ByteArray, X.data.toList = flat (linesL s.data.toList) ++ R.data.toList → (parseL zeroN 0 (linesL X.data.toList) = ((n, b, Z ++ [(x, y, u, t)]), 0, 0)) ∨ ∃ f, f ≠ 0 ∧ parseL zeroN 0 (linesL X.data.toList) = (zeroN, (linesL s.data.toList).length + 1, f) := by
    intro X hX
    rw [hX, hR]; exact hcase
  have HC := Lib.hid hcase2
  have KR : Hid (∀ W ao c, Lst encI W ao [x, y, u, t] → Calls Tryd.prog 20 #[.string ⟨#[97, 114, 99]⟩, .slice ao 4 c] W fun e w' => e = .returned (.string R) ∧ Below W.heap.size W w') := Lib.hid (fun W ao c hL => by
    refine (rrow_any ⟨#[97, 114, 99]⟩ ao c [x, y, u, t] W hL hi (by simp) (by decide)).mono ?_
    rintro e w' ⟨rfl, hb⟩
    refine ⟨?_, hb⟩
    show Ending.returned (strV (rowL arcB [x, y, u, t])) = _
    rw [← hR, strV_of])
  have KS : Hid (∀ W ao bo ca cb, Row encA 4 W ao (Z ++ [(x, y, u, t)]) → Row encA 4 W bo (Z ++ [(x, y, u, t)]) → Calls Tryd.prog 17 #[.agg #[.int .i64 n, .bool b, .slice ao (Z.length + 1) ca], .agg #[.int .i64 n, .bool b, .slice bo (Z.length + 1) cb]] W fun e w' => e = .returned (.bool true) ∧ Below W.heap.size W w') := Lib.hid (fun W ao bo ca cb h1 h2 => by
    have := rsame_any n n b b _ _ ao bo ca cb W h1 h2 (by simp; omega)
    rw [same_self, List.length_append, List.length_singleton] at this
    exact this)
  generalize linesL s.data.toList = L at *
  obtain ⟨a0, a1, a2, a3⟩ := arcBox w x y u t
  clear ht h hr hcase hcase2 hR hrl hi
  go_enter Tryd.func9, Tryd.ntmps9
  go_wp2_with (first
    | (go_at_call 12; refine (awake_any _ HT.out).mono ?_; rintro e w1 ⟨rfl, b1⟩; have e0 := cell_below b1 a0; have e1 := cell_below b1 a1; have e2 := cell_below b1 a2; have e3 := cell_below b1 a3; have HB1 := Lib.hid (HB0.out.trans (b1.mono HB0.out.size)); clear b1 a0 a1 a2 a3)
    | (go_at_call 15; refine (K0.out _).mono ?_; rintro e w2 ⟨ao2, cap2, rfl, o2, b2⟩; have f0 := cell_alloc (cell_below b2 e0) (.cells #[.int .i64 n, .bool b, .slice ao2 Z.length cap2] 24); have f1 := cell_alloc (cell_below b2 e1) (.cells #[.int .i64 n, .bool b, .slice ao2 Z.length cap2] 24); have f2 := cell_alloc (cell_below b2 e2) (.cells #[.int .i64 n, .bool b, .slice ao2 Z.length cap2] 24); have f3 := cell_alloc (cell_below b2 e3) (.cells #[.int .i64 n, .bool b, .slice ao2 Z.length cap2] 24); have HO2 := Lib.hid (o2.alloc (.cells #[.int .i64 n, .bool b, .slice ao2 Z.length cap2] 24)); have HN2 : Hid ((w2.alloc (.cells #[.int .i64 n, .bool b, .slice ao2 Z.length cap2] 24)).heap[w2.heap.size]? = some (.cells #[.int .i64 n, .bool b, .slice ao2 Z.length cap2] 24 (0, 0))) := Lib.hid (heap_alloc_new _ _); have hbb := HB1.out.trans (b2.mono HB1.out.size); have HB2 := Lib.hid (hbb.alloc hbb.size (.cells #[.int .i64 n, .bool b, .slice ao2 Z.length cap2] 24)); have hw1 : w.heap.size ≤ w1.heap.size := HB1.out.size; have hw2 : w1.heap.size ≤ w2.heap.size := b2.size; clear o2 b2 hbb e0 e1 e2 e3)
    | (go_at_call 19; refine (HLI.out _).mono ?_; rintro e w3 ⟨v3, rfl, o3, b3⟩; obtain ⟨ao3, cap3, rfl, l3⟩ := own_lst o3; have HL3 := Lib.hid l3; have g0 := cell_below b3 f0; have g1 := cell_below b3 f1; have g2 := cell_below b3 f2; have g3 := cell_below b3 f3; have HO3 := Lib.hid (own_below HO2.out b3); have HN3 := Lib.hid ((b3.block _ (lt_whole HN2.out)).trans HN2.out); have HB3 := Lib.hid (HB2.out.trans (b3.mono HB2.out.size)); clear o3 l3 b3 f0 f1 f2 f3))
  clear HO2 HN2 HB2 HB1 HB0 K0 HLI
  go_loop [10, 11] (fun tv si => ∃ (k : Nat) (T : ByteArray), k ≤ L.length ∧ si = .int .i64 (k : Int) ∧ tv = .string T ∧ T.size ≤ 2001 ∧ Hid (T.data.toList = flat (L.take k))) (fun _ si => L.length - (intOf si).toNat)
  case atStart => exact ⟨0, ⟨#[]⟩, Nat.zero_le _, rfl, rfl, by simp [ByteArray.size], Lib.hid rfl⟩
  case round =>
    obtain ⟨k, T, hk, rfl, rfl, hT, HTF⟩ := hrel
    by_cases hlt : k < L.length
    · have hlt' : (k : Int) < (L.length : Int) := by omega
      obtain ⟨lb, lo, rfl, hlb, hc⟩ := HL3.out k hlt
      have HS := Lib.hid (List.take_succ_eq_append_getElem hlt)
      obtain ⟨X, hX⟩ : ∃ X : ByteArray, X.data.toList = L[k] := ⟨⟨L[k].toArray⟩, rfl⟩
      rw [← hX, strV_of] at hc
      have HX := Lib.hid hX
      have hfin : (T ++ X ++ ⟨#[10]⟩ : ByteArray).size ≤ 2001 ∧ Hid ((T ++ X ++ ⟨#[10]⟩ : ByteArray).data.toList = flat (L.take (k + 1))) := by
        have e1 : (T ++ X ++ ⟨#[10]⟩ : ByteArray).data.toList = flat (L.take (k + 1)) := by
          rw [HS.out, flat_snoc, ← HX.out, ← HTF.out]; simp
        refine ⟨?_, Lib.hid e1⟩
        rw [← size_data, e1]
        have := flat_take_le L (k + 1)
        omega
      obtain ⟨hf1, HF2⟩ := hfin
      have hTX : T.size + X.size + 1 ≤ 2001 := by
        have := hf1
        rw [ByteArray.size_append, ByteArray.size_append] at this
        exact this
      clear hX
      go_wp2
      go_round
      case rel => exact ⟨k + 1, T ++ X ++ ⟨#[10]⟩, by omega, by go_num, rfl, hf1, HF2⟩
      case measure => simp [intOf]; omega
    · have hlt' : ¬ (k : Int) < (L.length : Int) := by omega
      have HTL : Hid (T.data.toList = flat L) := Lib.hid (by have := HTF.out; rwa [List.take_of_length_le (by omega)] at this)
      obtain ⟨X, hX⟩ : ∃ X : ByteArray, T ++ R = X := ⟨_, rfl⟩
      have hXs : X.size ≤ 1099511627776 := by rw [← hX, ByteArray.size_append]; omega
      have hXd : X.data.toList = flat L ++ R.data.toList := by rw [← hX, ← HTL.out]; simp
      have hTR : T.size + R.size ≤ 2093 := by omega
      clear HTF
      have HC4 := Lib.hid (cells4 w3 3 w3.heap.size rfl x y u t)
      have HI3 := Lib.hid ((Below.refl _ w3).alloc (Nat.le_refl _) (.cells #[.int .i64 x, .int .i64 y, .int .i64 u, .int .i64 t] 3))
      rcases HC.out X hXd with hgood | ⟨f, hf, hbad⟩
      · have KP := Lib.hid (fun W => parse_good (k := Z.length + 1) (by simp) hgood hXs W)
        clear HC hgood hXd
        go_wp2_with (first
          | (at_builtin; refine wpList_append4 rfl _ _ rfl rfl _ _ rfl x y u t HC4.out ?_; intro ao5 cap5 w5 l5 b5'; have b5 := HI3.out.trans (b5'.mono HI3.out.size); have HL5 := Lib.hid l5; have i0 := cell_below b5 g0; have i1 := cell_below b5 g1; have i2 := cell_below b5 g2; have i3 := cell_below b5 g3; have HO5 := Lib.hid (own_below HO3.out b5); have HN5 := Lib.hid ((b5.block _ (lt_whole HN3.out)).trans HN3.out); have HB5 := Lib.hid (HB3.out.trans (b5.mono HB3.out.size)); clear l5 b5 b5' g0 g1 g2 g3 HC4)
          | (go_at_call 20; refine (KR.out _ _ _ HL5.out).mono ?_; rintro e w6 ⟨rfl, b6⟩; have j0 := cell_below b6 i0; have j1 := cell_below b6 i1; have j2 := cell_below b6 i2; have j3 := cell_below b6 i3; have HO6 := Lib.hid (own_below HO5.out b6); have HN6 := Lib.hid ((b6.block _ (lt_whole HN5.out)).trans HN5.out); have HB6 := Lib.hid (HB5.out.trans (b6.mono HB5.out.size)); clear b6 i0 i1 i2 i3)
          | (go_at_call 15; refine (KP.out _).mono ?_; rintro e w7 ⟨ao7, cap7, rfl, o7, b7⟩; have k0 := cell_alloc (cell_below b7 j0) (.cells #[.int .i64 n, .bool b, .slice ao7 (Z.length + 1) cap7] 24); have k1 := cell_alloc (cell_below b7 j1) (.cells #[.int .i64 n, .bool b, .slice ao7 (Z.length + 1) cap7] 24); have k2 := cell_alloc (cell_below b7 j2) (.cells #[.int .i64 n, .bool b, .slice ao7 (Z.length + 1) cap7] 24); have k3 := cell_alloc (cell_below b7 j3) (.cells #[.int .i64 n, .bool b, .slice ao7 (Z.length + 1) cap7] 24); have HO7 := Lib.hid ((own_below HO6.out b7).alloc (.cells #[.int .i64 n, .bool b, .slice ao7 (Z.length + 1) cap7] 24)); have HN7 := Lib.hid (alloc_whole ((b7.block _ (lt_whole HN6.out)).trans HN6.out) (.cells #[.int .i64 n, .bool b, .slice ao7 (Z.length + 1) cap7] 24)); have HM7 : Hid ((w7.alloc (.cells #[.int .i64 n, .bool b, .slice ao7 (Z.length + 1) cap7] 24)).heap[w7.heap.size]? = some (.cells #[.int .i64 n, .bool b, .slice ao7 (Z.length + 1) cap7] 24 (0, 0))) := Lib.hid (heap_alloc_new _ _); have HOM7 := Lib.hid (o7.alloc (.cells #[.int .i64 n, .bool b, .slice ao7 (Z.length + 1) cap7] 24)); have hbb := HB6.out.trans (b7.mono HB6.out.size); have HB7 := Lib.hid (hbb.alloc hbb.size (.cells #[.int .i64 n, .bool b, .slice ao7 (Z.length + 1) cap7] 24)); have hw7 : w6.heap.size ≤ w7.heap.size := b7.size; clear o7 b7 hbb j0 j1 j2 j3; obtain ⟨m0, m1, m2, mf0, mf1, mf2⟩ := netCells HM7.out; obtain ⟨n0, n1, n2, nf0, nf1, nf2⟩ := netCells HN7.out; refine Hid.out ?_))
        refine Lib.hid ?_
        have hgn : w2.heap.size < w6.heap.size := lt_whole HN6.out
        have HLT : Hid (∀ g, (Value.slice ao2 Z.length cap2).ownBlock = some g → g < w6.heap.size) := Lib.hid (fun g hg => own_lt HO6.out hg)
        clear HL5 HO5 HN5 HB5 HO3 HN3 HB3 HI3 HO6 HN6 HB6 KP KR
        have HO8 := Lib.hid (HO7.out.alloc (.cells #[.int .i64 x, .int .i64 y, .int .i64 u, .int .i64 t] 37))
        have HN8 := Lib.hid (alloc_whole HN7.out (.cells #[.int .i64 x, .int .i64 y, .int .i64 u, .int .i64 t] 37))
        have HM8 := Lib.hid (alloc_whole HM7.out (.cells #[.int .i64 x, .int .i64 y, .int .i64 u, .int .i64 t] 37))
        have HOM8 := Lib.hid (HOM7.out.alloc (.cells #[.int .i64 x, .int .i64 y, .int .i64 u, .int .i64 t] 37))
        have HB8 := Lib.hid (HB7.out.alloc HB7.out.size (.cells #[.int .i64 x, .int .i64 y, .int .i64 u, .int .i64 t] 37))
        have hw8 := HB8.out.size
        clear HO7 HN7 HM7 HOM7 HB7
        go_wp2_with (first
          | (at_builtin; refine wpList_append_row (enc := encA) Tryd.underlying22 infoArc rfl (by omega) (by omega) encA_len rfl _ _ rfl w1.heap.size _ Z (x, y, u, t) (encA_one _) rfl HO8.out _ 1 rfl (fun i hi => cell_newL (by simp) (encA (x, y, u, t)) 37 i) (by omega) (by simp; omega) ?_; intro g9 cap9 w9 ho9 hg9 hl9 hb9 hlt9; have HN9 := Lib.hid ((hg9.block _ (lt_whole HN8.out) (fun e => own_ne HO8.out HN8.out (by decide) e.symm)).trans HN8.out); have HM9 := Lib.hid ((hg9.block _ (lt_whole HM8.out) (fun e => own_ne HO8.out HM8.out (by decide) e.symm)).trans HM8.out); have HOM9 := Lib.hid (own_grown HOM8.out hg9 HLT.out); have HB9 := Lib.hid (HB8.out.grown hg9 hw8 (fun k hk => by have := own_block HO8.out hk; omega)); have HO9 := Lib.hid ho9; clear ho9 hg9 hl9 n0 n1 n2 nf0 nf1 nf2 m0 m1 m2 mf0 mf1 mf2; obtain ⟨n0, n1, n2, nf0, nf1, nf2⟩ := netCells HN9.out; have HN10 : Hid ((w9.setCell ⟨w2.heap.size, 2, none⟩ (.slice (some ⟨g9, 0, none⟩) (Z.length + 1) cap9)).heap[w2.heap.size]? = some (.cells #[.int .i64 n, .bool b, .slice (some ⟨g9, 0, none⟩) (Z.length + 1) cap9] 24 (0, 0))) := Lib.hid (set_whole HN9.out 2 _); have HM10 : Hid ((w9.setCell ⟨w2.heap.size, 2, none⟩ (.slice (some ⟨g9, 0, none⟩) (Z.length + 1) cap9)).heap[w7.heap.size]? = some (.cells #[.int .i64 n, .bool b, .slice ao7 (Z.length + 1) cap7] 24 (0, 0))) := Lib.hid ((Below.heap_setCell w9 ⟨w2.heap.size, 2, none⟩ _ _ (by simp only; omega)).trans HM9.out); have HR1 := Lib.hid (own_rowK encA_len (own_set HO9.out HN9.out (by decide) 2 (.slice (some ⟨g9, 0, none⟩) (Z.length + 1) cap9))); have HR2 := Lib.hid (own_rowK encA_len (own_set HOM9.out HN9.out (by decide) 2 (.slice (some ⟨g9, 0, none⟩) (Z.length + 1) cap9))); have HB10 := Lib.hid (HB9.out.setCell (p := ⟨w2.heap.size, 2, none⟩) (by simp only; omega) (.slice (some ⟨g9, 0, none⟩) (Z.length + 1) cap9)); obtain ⟨p0, p1, p2, _, _, _⟩ := netCells HN10.out; obtain ⟨q0, q1, q2, _, _, _⟩ := netCells HM10.out)
          | (go_at_call 17; refine (KS.out _ _ _ _ _ HR1.out HR2.out).mono ?_; rintro e w11 ⟨rfl, b11⟩; have HB11 := Lib.hid (HB10.out.trans (b11.mono HB10.out.size)); clear b11))
        go_ret
        exact ⟨rfl, HB11.out⟩
      · have KP := Lib.hid (fun W => parse_bad hbad hXs W)
        have hf2 : (f != 0) = true := by simpa using hf
        have hf1 : (f == 0) = false := by simpa using hf
        clear HC hbad hXd hf
        go_wp2_with (first
          | (at_builtin; refine wpList_append4 rfl _ _ rfl rfl _ _ rfl x y u t HC4.out ?_; intro ao5 cap5 w5 l5 b5'; have b5 := HI3.out.trans (b5'.mono HI3.out.size); have HL5 := Lib.hid l5; have HB5 := Lib.hid (HB3.out.trans (b5.mono HB3.out.size)); clear l5 b5 b5' g0 g1 g2 g3 HC4)
          | (go_at_call 20; refine (KR.out _ _ _ HL5.out).mono ?_; rintro e w6 ⟨rfl, b6⟩; have HB6 := Lib.hid (HB5.out.trans (b6.mono HB5.out.size)); clear b6)
          | (go_at_call 15; refine (KP.out _).mono ?_; rintro e w7 ⟨ao7, cap7, rfl, b7⟩; have hbb := HB6.out.trans (b7.mono HB6.out.size); have HB7 := Lib.hid (hbb.alloc hbb.size (.cells #[.int .i64 0, .bool false, .slice ao7 0 cap7] 24)); clear b7 hbb)
          | (go_at_call 17; refine (rsame_any 0 0 false false [] [] _ _ _ _ _ (Row.nil _ _) (Row.nil _ _) (by simp)).mono ?_; rintro e w8 ⟨rfl, b8⟩; have HB8 := Lib.hid (HB7.out.trans (b8.mono HB7.out.size)); rw [same_self]; clear b8))
        go_ret
        exact ⟨by simp, HB8.out⟩
theorem more_law (s : ByteArray) (a : ArcT) (w : World) (hs : s.size ≤ 1099511627776) (hi : (-9223372036854775808 ≤ a.1 ∧ a.1 ≤ 9223372036854775807) ∧ (-9223372036854775808 ≤ a.2.1 ∧ a.2.1 ≤ 9223372036854775807) ∧ (-9223372036854775808 ≤ a.2.2.1 ∧ a.2.2.1 ≤ 9223372036854775807) ∧ (-9223372036854775808 ≤ a.2.2.2 ∧ a.2.2.2 ≤ 9223372036854775807)) (ht : Tab w) :
    Calls Tryd.prog 9 #[.string s, .agg #[.int .i64 a.1, .int .i64 a.2.1, .int .i64 a.2.2.1, .int .i64 a.2.2.2]] w fun e w' => e = .returned (.bool true) ∧ Below w.heap.size w w' := by
  by_cases h2 : 2000 < s.size
  · exact more_over s _ _ _ _ w hs ht (.inl h2)
  · by_cases h3 : (parseL zeroN 0 (linesL s.data.toList)).2.2 = 0
    · have h4 := (parse_sound (linesL s.data.toList) zeroN 0 (.inl rfl) h3).2
      refine more_core s _ _ _ _ (parseL zeroN 0 (linesL s.data.toList)).1.1 (parseL zeroN 0 (linesL s.data.toList)).1.2.1 (parseL zeroN 0 (linesL s.data.toList)).1.2.2 w (by omega) ?_ ht ?_
      · intro z hz
        simp at hz
        rcases hz with rfl | rfl | rfl | rfl
        · exact hi.1
        · exact hi.2.1
        · exact hi.2.2.1
        · exact hi.2.2.2
      · generalize parseL zeroN 0 (linesL s.data.toList) = r at *
        obtain ⟨⟨n, b, Z⟩, l, e⟩ := r
        simp only at h3 h4
        subst h3
        subst h4
        rfl
    · exact more_over s _ _ _ _ w hs ht (.inr h3)
end Go.Proofs.YtbciplfncnangaaDoor
