/- Numbers of the program and of the document, and the document's comparison of two lists of numbers. -/
import Derived.Test.YtbciplfncnangaaDoorWRnum
import Derived.Test.YtbciplfncnangaaDoorWRef
namespace Go.Proofs.YtbciplfncnangaaDoor
open Go.RowKit Go.Shelf
set_option linter.unusedVariables false

theorem infoInt : (Tryd.prog.info? 3).map (fun i => (i.zero, i.size, i.bytes)) = some (some (.int .i64 0), 1, 8) := by kernel_rfl
/-- The first error among the texts, or 0. -/
def errOf : List (List UInt8) → Int
  | [] => 0
  | x :: r => if (numL x).2 = 0 then errOf r else (numL x).2
def valsOf (A : List (List UInt8)) : List Int := A.map fun x => (numL x).1
def NumsRes (A : List (List UInt8)) (w : World) (e : Ending) (w' : World) : Prop :=
  Below w.heap.size w w' ∧ ((errOf A = 0 ∧ ∃ v, e = .returned (.tuple #[v, .int .i64 0]) ∧ w'.ownsRow w.heap.size 3 1 v (valsOf A).length ((valsOf A).map encI)) ∨ (errOf A ≠ 0 ∧ e = .returned (.tuple #[.slice none 0 0, .int .i64 (errOf A)])))
theorem errOf_take {A : List (List UInt8)} {k : Nat} (hk : k < A.length) (h0 : errOf (A.take k) = 0) (h1 : (numL A[k]).2 ≠ 0) : errOf A = (numL A[k]).2 := by
  induction A generalizing k with
  | nil => simp at hk
  | cons x r ih =>
    cases k with
    | zero => simp only [List.getElem_cons_zero] at h1 ⊢; unfold errOf; rw [if_neg h1]
    | succ k =>
      simp only [List.getElem_cons_succ] at h1 ⊢
      rw [List.take_succ_cons] at h0
      unfold errOf at h0 ⊢
      split at h0
      · next hx => rw [if_pos hx]; exact ih (by simpa using hk) h0 h1
      · next hx => exact absurd h0 hx
theorem errOf_snoc {A : List (List UInt8)} {x : List UInt8} (h0 : errOf A = 0) (h1 : (numL x).2 = 0) : errOf (A ++ [x]) = 0 := by
  induction A with
  | nil => simp [errOf, h1]
  | cons y r ih =>
    rw [List.cons_append]
    unfold errOf at h0 ⊢
    split at h0
    · next hy => rw [if_pos hy]; exact ih h0
    · next hy => exact absurd h0 hy
theorem valsOf_snoc (A : List (List UInt8)) (x : List UInt8) : valsOf (A ++ [x]) = valsOf A ++ [(numL x).1] := by simp [valsOf]
theorem valsOf_len (A : List (List UInt8)) : (valsOf A).length = A.length := by simp [valsOf]
theorem num_at (s : ByteArray) (n e : Int) (w : World) (hs : s.size ≤ maxLen) (h : numL s.data.toList = (n, e)) :
    Calls Tryd.prog 57 #[.string s] w fun en w' => en = .returned (.tuple #[.int .i64 n, .int .i64 e]) ∧ Below w.heap.size w w' := by
  refine (number_any s w hs).mono ?_
  rintro en w' ⟨rfl, hb⟩
  exact ⟨by unfold numV; rw [h], hb⟩
theorem rnum_at (s : ByteArray) (n e : Int) (w : World) (hs : s.size ≤ maxLen) (h : numL s.data.toList = (n, e)) :
    Calls Tryd.prog 51 #[.string s] w fun en w' => en = .returned (.tuple #[.int .i64 n, .int .i64 e]) ∧ w = w' := by
  refine (rnumber_any s w hs).mono ?_
  rintro en w' ⟨rfl, hb⟩
  exact ⟨by unfold numV; rw [h], hb⟩
/-- Each text is one that can be. -/
def OkS (A : List (List UInt8)) : Prop := ∀ x ∈ A, x.length ≤ maxLen
theorem OkS.at {A : List (List UInt8)} (h : OkS A) {i : Nat} (hi : i < A.length) : (⟨A[i].toArray⟩ : ByteArray).size ≤ maxLen := h _ (List.getElem_mem hi)

theorem own_below {w w' : World} {base : Nat} {e : TypeId} {k : Nat} {v : Value} {n : Nat} {xs : List Value} (h : w.ownsRow base e k v n xs) (hb : Below w.heap.size w w') : w'.ownsRow base e k v n xs := by
  refine ⟨h.1, ?_⟩
  rcases h.2 with h | ⟨g, cap, cur, h1, h2, h3, h4⟩
  · exact .inl h
  · exact .inr ⟨g, cap, cur, h1, h2, (hb.block g (Array.getElem?_eq_some_iff.1 h3).1).trans h3, h4⟩
set_option maxRecDepth 100000 in
set_option maxHeartbeats 4000000 in
/-- The program's Numbers of any texts. -/
theorem numbers_any (ao : Option Addr) (cap : Nat) (A : List (List UInt8)) (w : World) (hl : Lst strV w ao A) (hok : OkS A) (hn : A.length ≤ 1000) :
    Calls Tryd.prog 58 #[.slice ao A.length cap] w (NumsRes A w) := by
  obtain ⟨i0, hi, hz0, hz1, hz2⟩ := info_parts infoInt
  have HL := Lib.hid hl
  have HK := Lib.hid hok
  clear hl hok
  go_enter Tryd.func58, Tryd.ntmps58
  go_wp2_with (at_make; refine wpList_make_own w rfl _ _ 40 rfl w.heap.size 3 i0 _ 1 Tryd.underlying40 hi hz0 hz1 .i64 .i64 (A.length : Int) A.length rfl rfl rfl (by rw [hz2]; omega) (by unfold maxLen; omega) (Nat.le_refl _) ?_; intro w0 ho0 hg0; have hb0 := (Below.refl w.heap.size w).grown hg0 (Nat.le_refl _) (fun k hk => by cases hk))
  go_loopw [4, 14] (fun sv i wr => ∃ (k : Nat) (v : Value), v = sv ∧ i = .int .i64 (k : Int) ∧ k ≤ A.length ∧ Hid (errOf (A.take k) = 0) ∧ Hid (wr.ownsRow w.heap.size 3 1 v (valsOf (A.take k)).length ((valsOf (A.take k)).map encI)) ∧ Below w.heap.size w wr)
    (fun _ i _ => A.length - (intOf i).toNat)
  case atStart => exact ⟨0, _, rfl, rfl, Nat.zero_le _, Lib.hid rfl, Lib.hid ho0, hb0⟩
  case round =>
    obtain ⟨k, v, rfl, rfl, hk, HE, HO, hbw⟩ := hrel
    have hsz := hbw.size
    have hvl := valsOf_len (A.take k)
    have hvl2 : (valsOf (A.take k)).length ≤ 1000 := by rw [hvl, List.length_take]; omega
    clear hvl
    by_cases hlt : k < A.length
    · have hli : (k : Int) < (A.length : Int) := by omega
      obtain ⟨b, o, rfl, hb, hc⟩ := HL.out k hlt
      have hc1 : wr.cell? ⟨b, o + k, none⟩ = some (.string ⟨A[k].toArray⟩) := (hbw.cell (p := ⟨b, o + k, none⟩) hb).trans hc
      have hX := HK.out.at hlt
      have HS := Lib.hid (List.take_succ_eq_append_getElem hlt)
      obtain ⟨X, hXe⟩ : ∃ X : ByteArray, (⟨A[k].toArray⟩ : ByteArray) = X := ⟨_, rfl⟩
      rw [hXe] at hc1 hX
      have hNL : numL X.data.toList = numL A[k] := by rw [← hXe]
      obtain ⟨n, er, hne⟩ : ∃ n er, numL A[k] = (n, er) := ⟨_, _, rfl⟩
      have hbd := numL_bd A[k]
      rw [hne] at hbd hNL
      have hn1 := hbd.1
      have hn2 := hbd.2.1
      have HNL := Lib.hid hNL
      have HNE := Lib.hid hne
      clear hNL hne hXe hbd hc
      by_cases her : er = 0
      · subst her
        go_wp2_with (first
          | (go_at_call 57; refine (num_at X n 0 _ hX HNL.out).mono ?_; rintro e w1 ⟨rfl, b1⟩; have hb1 := hbw.trans (b1.mono hsz); have hs1 := hb1.size; have ho1 := own_below HO.out b1; have HO1 := Lib.hid ho1; clear ho1)
          | (at_builtin; refine wpList_append_own _ rfl _ _ 40 rfl w.heap.size 3 i0 (.int .i64 0) 1 8 Tryd.underlying40 hi hz0 hz1 hz2 rfl (by decide) _ _ _ rfl (HO1.out.alloc _) ⟨w1.heap.size, 0, none⟩ 1 1 [.int .i64 n] rfl rfl (cell_one_new _ _ _) (by simp [Value.oneCell']) (by unfold maxLen; omega) (by omega) (by simp; omega) ?_; intro v' w2 hown' hgrow _; have hb2 := app_below hb1 HO1.out hgrow))
        go_roundw
        case rel =>
          refine ⟨k + 1, _, rfl, by go_num, by omega, Lib.hid ?_, Lib.hid ?_, hb2⟩
          · rw [HS.out]; exact errOf_snoc HE.out (by rw [HNE.out])
          · rw [HS.out, valsOf_snoc, HNE.out]
            simp only [List.length_append, List.length_singleton, List.map_append, List.map_cons, List.map_nil]
            exact hown'
        case measure => simp [intOf]; omega
      · have h1 : (er == 0) = false := by simpa using her
        have h2 : (er != 0) = true := by simpa using her
        have HR := Lib.hid (errOf_take hlt HE.out (by rw [HNE.out]; exact her))
        go_wp2_with (go_at_call 57; refine (num_at X n er _ hX HNL.out).mono ?_; rintro e w1 ⟨rfl, b1⟩; have hb1 := hbw.trans (b1.mono hsz))
        go_ret2
        refine ⟨hb1, .inr ⟨?_, ?_⟩⟩
        · rw [HR.out, HNE.out]; exact her
        · rw [HR.out, HNE.out]; rfl
    · have hli : ¬ (k : Int) < (A.length : Int) := by omega
      have hE : Hid (errOf A = 0) := Lib.hid (by have := HE.out; rwa [List.take_of_length_le (by omega)] at this)
      have hO : Hid (wr.ownsRow w.heap.size 3 1 v (valsOf A).length ((valsOf A).map encI)) := Lib.hid (by have := HO.out; rwa [List.take_of_length_le (by omega)] at this)
      go_wp2
      go_ret2
      exact ⟨hbw, .inl ⟨hE.out, v, rfl, hO.out⟩⟩
set_option maxRecDepth 100000 in
set_option maxHeartbeats 4000000 in
/-- The document's Numbers of any texts. -/
theorem rnumbers_any (ao : Option Addr) (cap : Nat) (A : List (List UInt8)) (w : World) (hl : Lst strV w ao A) (hok : OkS A) (hn : A.length ≤ 1000) :
    Calls Tryd.prog 50 #[.slice ao A.length cap] w (NumsRes A w) := by
  obtain ⟨i0, hi, hz0, hz1, hz2⟩ := info_parts infoInt
  have HL := Lib.hid hl
  have HK := Lib.hid hok
  clear hl hok
  go_enter Tryd.func50, Tryd.ntmps50
  go_wp2
  go_loopw [4, 5] (fun sv i wr => ∃ (k : Nat) (v : Value), v = sv ∧ i = .int .i64 (k : Int) ∧ k ≤ A.length ∧ Hid (errOf (A.take k) = 0) ∧ Hid (wr.ownsRow w.heap.size 3 1 v (valsOf (A.take k)).length ((valsOf (A.take k)).map encI)) ∧ Below w.heap.size w wr)
    (fun _ i _ => A.length - (intOf i).toNat)
  case atStart => exact ⟨0, _, rfl, rfl, Nat.zero_le _, Lib.hid rfl, Lib.hid (World.ownsRow_nil _ _ _ _), Below.refl _ _⟩
  case round =>
    obtain ⟨k, v, rfl, rfl, hk, HE, HO, hbw⟩ := hrel
    have hsz := hbw.size
    have hvl := valsOf_len (A.take k)
    have hvl2 : (valsOf (A.take k)).length ≤ 1000 := by rw [hvl, List.length_take]; omega
    clear hvl
    by_cases hlt : k < A.length
    · have hli : (k : Int) < (A.length : Int) := by omega
      obtain ⟨b, o, rfl, hb, hc⟩ := HL.out k hlt
      have hc1 : wr.cell? ⟨b, o + k, none⟩ = some (.string ⟨A[k].toArray⟩) := (hbw.cell (p := ⟨b, o + k, none⟩) hb).trans hc
      have hX := HK.out.at hlt
      have HS := Lib.hid (List.take_succ_eq_append_getElem hlt)
      obtain ⟨X, hXe⟩ : ∃ X : ByteArray, (⟨A[k].toArray⟩ : ByteArray) = X := ⟨_, rfl⟩
      rw [hXe] at hc1 hX
      have hNL : numL X.data.toList = numL A[k] := by rw [← hXe]
      obtain ⟨n, er, hne⟩ : ∃ n er, numL A[k] = (n, er) := ⟨_, _, rfl⟩
      rw [hne] at hNL
      have HNL := Lib.hid hNL
      have HNE := Lib.hid hne
      clear hNL hne hXe hc
      by_cases her : er = 0
      · subst her
        go_wp2_with (first
          | (go_at_call 51; refine (rnum_at X n 0 _ hX HNL.out).mono ?_; rintro e w1 ⟨rfl, rfl⟩)
          | (at_builtin; refine wpList_append_own _ rfl _ _ 40 rfl w.heap.size 3 i0 (.int .i64 0) 1 8 Tryd.underlying40 hi hz0 hz1 hz2 rfl (by decide) _ _ _ rfl (HO.out.alloc _) ⟨wr.heap.size, 0, none⟩ 1 1 [.int .i64 n] rfl rfl (cell_one_new _ _ _) (by simp [Value.oneCell']) (by unfold maxLen; omega) (by omega) (by simp; omega) ?_; intro v' w2 hown' hgrow _; have hb2 := app_below hbw HO.out hgrow))
        go_roundw
        case rel =>
          refine ⟨k + 1, _, rfl, by go_num, by omega, Lib.hid ?_, Lib.hid ?_, hb2⟩
          · rw [HS.out]; exact errOf_snoc HE.out (by rw [HNE.out])
          · rw [HS.out, valsOf_snoc, HNE.out]
            simp only [List.length_append, List.length_singleton, List.map_append, List.map_cons, List.map_nil]
            exact hown'
        case measure => simp [intOf]; omega
      · have h1 : (er == 0) = false := by simpa using her
        have h2 : (er != 0) = true := by simpa using her
        have HR := Lib.hid (errOf_take hlt HE.out (by rw [HNE.out]; exact her))
        go_wp2_with (go_at_call 51; refine (rnum_at X n er _ hX HNL.out).mono ?_; rintro e w1 ⟨rfl, rfl⟩)
        go_ret2
        refine ⟨hbw, .inr ⟨?_, ?_⟩⟩
        · rw [HR.out, HNE.out]; exact her
        · rw [HR.out, HNE.out]; rfl
    · have hli : ¬ (k : Int) < (A.length : Int) := by omega
      have hE : Hid (errOf A = 0) := Lib.hid (by have := HE.out; rwa [List.take_of_length_le (by omega)] at this)
      have hO : Hid (wr.ownsRow w.heap.size 3 1 v (valsOf A).length ((valsOf A).map encI)) := Lib.hid (by have := HO.out; rwa [List.take_of_length_le (by omega)] at this)
      go_wp2
      go_ret2
      exact ⟨hbw, .inl ⟨hE.out, v, rfl, hO.out⟩⟩
end Go.Proofs.YtbciplfncnangaaDoor
