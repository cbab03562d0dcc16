/- A text is its lines with a byte 10 behind each, but perhaps the last one; words and blanks are all of it. -/
import Derived.Test.YtgdddalpklamoaaDoorWRows
namespace Go.Proofs.YtgdddalpklamoaaDoor
open Go.RowKit Go.Shelf
set_option linter.unusedVariables false

def flat (L : List (List UInt8)) : List UInt8 := L.flatMap fun x => x ++ [10]
theorem flat_snoc (L : List (List UInt8)) (x : List UInt8) : flat (L ++ [x]) = flat L ++ (x ++ [10]) := by simp [flat]
theorem flat_cut (l : List UInt8) : flat (cut 10 l).1 ++ (cut 10 l).2 = l := by
  refine snoc_ind (P := fun l => flat (cut 10 l).1 ++ (cut 10 l).2 = l) rfl ?_ l
  intro l c ih
  by_cases h : c = 10
  · subst h; rw [cut_hit, flat_snoc]
    simp only [List.append_nil]
    rw [← List.append_assoc, ih]
  · rw [cut_miss 10 l c h]
    simp only
    rw [← List.append_assoc, ih]
theorem flat_lines (l : List UInt8) : flat (linesL l) = l ∨ flat (linesL l) = l ++ [10] := by
  have h := flat_cut l
  unfold linesL pcs
  cases hc : (cut 10 l).2 with
  | nil => left; rw [hc, List.append_nil] at h; simpa [lastIf] using h
  | cons c r =>
    right
    rw [hc] at h
    show flat ((cut 10 l).1 ++ [c :: r]) = _
    rw [flat_snoc, ← List.append_assoc, h]
theorem cut_no (e : UInt8) (l : List UInt8) : (∀ x ∈ (cut e l).1, noB e x) ∧ noB e (cut e l).2 := by
  refine snoc_ind (P := fun l => (∀ x ∈ (cut e l).1, noB e x) ∧ noB e (cut e l).2) ⟨fun x hx => by simp [cut_nil] at hx, fun c hc => by simp [cut_nil] at hc⟩ ?_ l
  intro l c ih
  by_cases h : c = e
  · subst h; rw [cut_hit]
    refine ⟨fun x hx => ?_, fun c hc => by simp at hc⟩
    rcases List.mem_append.1 hx with hx | hx
    · exact ih.1 x hx
    · simp at hx; subst hx; exact ih.2
  · rw [cut_miss e l c h]
    refine ⟨ih.1, fun d hd => ?_⟩
    rcases List.mem_append.1 hd with hd | hd
    · exact ih.2 d hd
    · simp at hd; subst hd; exact h
theorem pcs_no (e : UInt8) (l : List UInt8) : ∀ x ∈ pcs e l, noB e x := by
  intro x hx
  have h := cut_no e l
  unfold pcs at hx
  rcases List.mem_append.1 hx with hx | hx
  · exact h.1 x hx
  · have : x = (cut e l).2 := by
      revert hx
      cases (cut e l).2 with
      | nil => intro hx; simp [lastIf] at hx
      | cons c r => intro hx; simpa [lastIf] using hx
    subst this; exact h.2
def lens (L : List (List UInt8)) : Nat := (L.map List.length).sum
theorem lens_snoc (L : List (List UInt8)) (x : List UInt8) : lens (L ++ [x]) = lens L + x.length := by simp [lens]
def blk (l : List UInt8) : Nat := l.count 32
theorem blk_hit (l : List UInt8) : blk (l ++ [32]) = blk l + 1 := by simp [blk]
theorem blk_miss (l : List UInt8) (c : UInt8) (h : c ≠ 32) : blk (l ++ [c]) = blk l := by
  unfold blk; rw [List.count_append, List.count_singleton]; simp [h]
theorem lens_cut (l : List UInt8) : lens (cut 32 l).1 + (cut 32 l).2.length + blk l = l.length := by
  refine snoc_ind (P := fun l => lens (cut 32 l).1 + (cut 32 l).2.length + blk l = l.length) rfl ?_ l
  intro l c ih
  by_cases h : c = 32
  · subst h; rw [cut_hit, lens_snoc, blk_hit, List.length_append]; simp; omega
  · rw [cut_miss 32 l c h, blk_miss l c h, List.length_append]; simp; omega
theorem lens_filter (L : List (List UInt8)) : lens (L.filter full) = lens L := by
  induction L with
  | nil => rfl
  | cons x r ih =>
    cases x with
    | nil => rw [List.filter_cons]; simp only [full, List.isEmpty_nil, Bool.not_true, Bool.false_eq_true, if_false]; rw [ih]; simp [lens]
    | cons c t => rw [List.filter_cons]; simp only [full, List.isEmpty_cons, Bool.not_false, if_true]; unfold lens at ih ⊢; rw [List.map_cons, List.map_cons, List.sum_cons, List.sum_cons, ih]
theorem lens_words (l : List UInt8) : lens (wordsL l) + blk l = l.length := by
  unfold wordsL
  rw [lens_filter]
  have h := lens_cut l
  unfold pcs
  cases hc : (cut 32 l).2 with
  | nil => rw [hc] at h; simpa [lastIf, lens] using h
  | cons c r =>
    rw [hc] at h
    show lens ((cut 32 l).1 ++ [c :: r]) + _ = _
    rw [lens_snoc]; exact h
theorem words_no (l : List UInt8) : ∀ x ∈ wordsL l, noB 32 x ∧ x ≠ [] := by
  intro x hx
  unfold wordsL at hx
  obtain ⟨h1, h2⟩ := List.mem_filter.1 hx
  refine ⟨pcs_no 32 l x h1, fun e => ?_⟩
  subst e
  simp [full] at h2
theorem lens_take_le (L : List (List UInt8)) (k : Nat) : lens (L.take k) ≤ lens L := by
  have h : ∀ a b : List (List UInt8), lens (a ++ b) = lens a + lens b := by intro a b; simp [lens]
  have h2 := h (L.take k) (L.drop k)
  rw [List.take_append_drop] at h2
  omega
theorem flat_take_le (L : List (List UInt8)) (k : Nat) : (flat (L.take k)).length ≤ (flat L).length := by
  have h : ∀ a b : List (List UInt8), flat (a ++ b) = flat a ++ flat b := by intro a b; simp [flat]
  have h2 := congrArg List.length (h (L.take k) (L.drop k))
  rw [List.take_append_drop, List.length_append] at h2
  omega
theorem flat_len (l : List UInt8) : (flat (linesL l)).length ≤ l.length + 1 := by
  rcases flat_lines l with h | h
  · rw [h]; omega
  · rw [h, List.length_append]; simp
theorem bytes_at {l : List UInt8} {X : ByteArray} (hX : X.data.toList = l) (k : Nat) (hk : k < X.size) {e : UInt8} (h : noB e l) : X[k]'hk ≠ e := by
  refine h _ ?_
  rw [← hX]
  have : X[k]'hk = X.data.toList[k]'(by rw [size_data]; exact hk) := rfl
  rw [this]; exact List.getElem_mem _
theorem ne_byte {a c : UInt8} {n : Int} (hn : (c.toNat : Int) = n) (h : a ≠ c) : ((a.toNat : Int) == n) = false := by
  rw [eq_byte a c n hn]
  have : ¬ c = a := fun e => h e.symm
  simpa using this
set_option maxRecDepth 100000 in
set_option maxHeartbeats 8000000 in
theorem joins_core (s : ByteArray) (w : World) (hs : s.size ≤ 4000) (ht : Tab w) :
    Calls Tryd.prog 9 #[.string s] w fun e w' => e = .returned (.bool true) ∧ Below w.heap.size w w' := by
  have HT := Lib.hid ht
  clear ht
  have hs' : ¬ (4000 : Int) < (s.size : Int) := by omega
  have hsb : decide ((4000 : Int) < (s.size : Int)) = false := decide_eq_false hs'
  have L1 := fun W => lines_any s W (by omega)
  have hA10 := pcs_no 10 s.data.toList
  have hAl : (linesL s.data.toList).length ≤ 4000 := Nat.le_trans (pcs_len 10 _) hs
  have hfl := flat_len s.data.toList
  rw [size_data] at hfl
  have hfs := flat_lines s.data.toList
  have L3 := fun W => words_any s W (by omega)
  have hC := words_no s.data.toList
  have hCl : (wordsL s.data.toList).length ≤ 4000 := Nat.le_trans (wordsL_len _) hs
  have hCs := lens_words s.data.toList
  rw [size_data] at hCs
  change ∀ x ∈ linesL s.data.toList, noB 10 x at hA10
  generalize linesL s.data.toList = A at *
  generalize wordsL s.data.toList = C at *
  have H1 := Lib.hid L1
  have H3 := Lib.hid L3
  have HA := Lib.hid hA10
  have HF := Lib.hid hfs
  have HC := Lib.hid hC
  have HCS := Lib.hid hCs
  clear L1 L3 hA10 hfs hC hCs
  go_enter Tryd.func9, Tryd.ntmps9
  go_wp2_with (first
    | (go_at_call 10; refine (awake_any _ HT.out).mono ?_; rintro e w1 ⟨rfl, b1⟩; have s1 := b1.size)
    | (go_at_call 12; refine (H1.out _).mono ?_; rintro e w2 ⟨v2, rfl, o2, b2⟩; obtain ⟨ao, n2, cap2, rfl, hn2, l2⟩ := listAt_of o2; subst hn2; have HL2 := Lib.hid l2; clear o2 l2; have hb2 := b1.trans (b2.mono s1); have s2 := hb2.size))
  go_loop [5, 6] (fun al si => ∃ (i : Nat) (T : ByteArray), i ≤ A.length ∧ si = .int .i64 (i : Int) ∧ al = .string T ∧ T.size ≤ 4001 ∧ Hid (T.data.toList = flat (A.take i))) (fun _ si => A.length - (intOf si).toNat)
  case atStart => exact ⟨0, ⟨#[]⟩, Nat.zero_le _, rfl, rfl, by simp [ByteArray.size], Lib.hid rfl⟩
  case round =>
    obtain ⟨i, T, hi, rfl, rfl, hT, HTF⟩ := hrel
    by_cases hlt : i < A.length
    · have hlt' : (i : Int) < (A.length : Int) := by omega
      obtain ⟨b, o, rfl, hb, hc⟩ := HL2.out i hlt
      have HS := Lib.hid (List.take_succ_eq_append_getElem hlt)
      have hno := HA.out _ (List.getElem_mem hlt)
      obtain ⟨X, hX⟩ : ∃ X : ByteArray, X.data.toList = A[i] := ⟨⟨A[i].toArray⟩, rfl⟩
      rw [← hX, strV_of] at hc
      rw [← hX] at hno
      have HX := Lib.hid hX
      have HNO := Lib.hid hno
      have hfin : (T ++ X ++ ⟨#[10]⟩ : ByteArray).size ≤ 4001 ∧ Hid ((T ++ X ++ ⟨#[10]⟩ : ByteArray).data.toList = flat (A.take (i + 1))) := by
        have e1 : (T ++ X ++ ⟨#[10]⟩ : ByteArray).data.toList = flat (A.take (i + 1)) := by
          rw [HS.out, flat_snoc, ← HX.out, ← HTF.out]; simp
        refine ⟨?_, Lib.hid e1⟩
        rw [← size_data, e1]
        have := flat_take_le A (i + 1)
        omega
      obtain ⟨hf1, HF2⟩ := hfin
      have hTX : T.size + X.size + 1 ≤ 4001 := by
        have := hf1
        rw [ByteArray.size_append, ByteArray.size_append] at this
        exact this
      clear hX hno
      go_wp2
      go_loop [7] (fun sk => ∃ k : Nat, k ≤ X.size ∧ sk = .int .i64 (k : Int)) (fun sk => X.size - (intOf sk).toNat)
      case atStart => exact ⟨0, Nat.zero_le _, rfl⟩
      case round =>
        obtain ⟨k, hk, rfl⟩ := hrel
        by_cases hkl : k < X.size
        · have hkl' : (k : Int) < (X.size : Int) := by omega
          have hne := ne_byte (c := 10) (n := 10) rfl (bytes_at rfl k hkl HNO.out)
          go_wp2
          go_round
          case rel => exact ⟨k + 1, by omega, by go_num⟩
          case measure => simp [intOf]; omega
        · have hkl' : ¬ (k : Int) < (X.size : Int) := by omega
          go_wp2
          go_round
          case rel => exact ⟨i + 1, T ++ X ++ ⟨#[10]⟩, by omega, by go_num, rfl, hf1, HF2⟩
          case measure => simp [intOf]; omega
    · have hlt' : ¬ (i : Int) < (A.length : Int) := by omega
      have hTA : T.data.toList = flat A := by have := HTF.out; rwa [List.take_of_length_le (by omega)] at this
      have hcase : s = T ∨ (T = s ++ ⟨#[10]⟩ ∧ (T.toList == s.toList) = false) := by
        rcases HF.out with h | h
        · left; exact WideShapes.bytes_inj (by rw [hTA, h])
        · right
          refine ⟨WideShapes.bytes_inj (by rw [hTA, h]; simp), ?_⟩
          rw [Lib.toList_data, Lib.toList_data, hTA, h]
          simp
      clear HTF hTA
      rcases hcase with rfl | ⟨rfl, hne⟩
      all_goals
        go_wp2_with (go_at_call 14; refine (H3.out _).mono ?_; rintro e w4 ⟨v4, rfl, o4, b4⟩; obtain ⟨aw, n4, cap4, rfl, hn4, l4⟩ := listAt_of o4; subst hn4; have HL4 := Lib.hid l4; clear o4 l4; have hb4 := hb2.trans (b4.mono s2))
        go_loop [9, 11] (fun le si => ∃ j : Nat, j ≤ C.length ∧ si = .int .i64 (j : Int) ∧ le = .int .i64 (lens (C.take j) : Int)) (fun _ si => C.length - (intOf si).toNat)
        case atStart => exact ⟨0, Nat.zero_le _, rfl, rfl⟩
        case round =>
          obtain ⟨j, hj, rfl, rfl⟩ := hrel
          by_cases hjl : j < C.length
          · have hjl' : (j : Int) < (C.length : Int) := by omega
            obtain ⟨b, o, rfl, hb, hc⟩ := HL4.out j hjl
            have hst : lens (C.take (j + 1)) = lens (C.take j) + C[j].length := by rw [List.take_succ_eq_append_getElem hjl, lens_snoc]
            have hle := lens_take_le C (j + 1)
            have hcs := HCS.out
            have hno := (HC.out _ (List.getElem_mem hjl)).1
            have hem := (HC.out _ (List.getElem_mem hjl)).2
            obtain ⟨X, hX⟩ : ∃ X : ByteArray, X.data.toList = C[j] := ⟨⟨C[j].toArray⟩, rfl⟩
            rw [← hX, strV_of] at hc
            rw [← hX] at hno hem hst
            rw [size_data] at hst
            have hx0 : 0 < X.size := by rw [← size_data]; exact List.length_pos_iff.2 hem
            obtain ⟨hn3, hn4⟩ := nonempty_of X hx0
            have HNO := Lib.hid hno
            have hbd : lens (C.take j) + X.size ≤ 4000 := by omega
            have HST := Lib.hid hst
            clear hX hno hem hst hle hcs
            generalize lens (C.take j) = m at *
            go_wp2
            go_loop [9, 12] (fun le sk => ∃ k : Nat, k ≤ X.size ∧ sk = .int .i64 (k : Int) ∧ le = .int .i64 ((m : Int) + (k : Int))) (fun _ sk => X.size - (intOf sk).toNat)
            case atStart => exact ⟨0, Nat.zero_le _, rfl, vi (by omega)⟩
            case round =>
              obtain ⟨k, hk, rfl, rfl⟩ := hrel
              by_cases hkl : k < X.size
              · have hkl' : (k : Int) < (X.size : Int) := by omega
                have hne32 := ne_byte (c := 32) (n := 32) rfl (bytes_at rfl k hkl HNO.out)
                go_wp2
                go_round
                case rel => exact ⟨k + 1, by omega, by go_num, vi (by omega)⟩
                case measure => simp [intOf]; omega
              · have hkl' : ¬ (k : Int) < (X.size : Int) := by omega
                go_wp2
                go_round
                case rel => exact ⟨j + 1, by omega, by go_num, vi (by rw [HST.out]; omega)⟩
                case measure => simp [intOf]; omega
          · have hjl' : ¬ (j : Int) < (C.length : Int) := by omega
            have htk : lens (C.take j) = lens C := by rw [List.take_of_length_le (by omega)]
            rw [htk]
            have hcs := HCS.out
            have hlc : lens C ≤ 4000 := by omega
            clear htk hcs
            go_wp2
            go_loop [10, 13] (fun bl sk => ∃ k : Nat, k ≤ s.size ∧ sk = .int .i64 (k : Int) ∧ bl = .int .i64 (blk (s.data.toList.take k) : Int)) (fun _ sk => s.size - (intOf sk).toNat)
            case atStart => exact ⟨0, Nat.zero_le _, rfl, rfl⟩
            case round =>
              obtain ⟨k, hk, rfl, rfl⟩ := hrel
              have hbl : blk (s.data.toList.take k) ≤ 4000 := by
                have h1 : blk (s.data.toList.take k) ≤ _ := List.count_le_length
                rw [List.length_take] at h1
                omega
              by_cases hkl : k < s.size
              · have hkl' : (k : Int) < (s.size : Int) := by omega
                by_cases h32 : s[k]'hkl = 32
                · have hc32 : (((s[k]'hkl).toNat : Int) == 32) = true := by rw [h32]; rfl
                  have hst : Hid (blk (s.data.toList.take (k + 1)) = blk (s.data.toList.take k) + 1) := Lib.hid (by rw [take_snoc' s k hkl, h32, blk_hit])
                  generalize blk (s.data.toList.take k) = m at *
                  go_wp2
                  go_round
                  case rel => exact ⟨k + 1, by omega, by go_num, vi (by rw [hst.out]; omega)⟩
                  case measure => simp [intOf]; omega
                · have hc32 := ne_byte (c := 32) (n := 32) rfl h32
                  have hst : Hid (blk (s.data.toList.take (k + 1)) = blk (s.data.toList.take k)) := Lib.hid (by rw [take_snoc' s k hkl, blk_miss _ _ h32])
                  generalize blk (s.data.toList.take k) = m at *
                  go_wp2
                  go_round
                  case rel => exact ⟨k + 1, by omega, by go_num, vi (by rw [hst.out])⟩
                  case measure => simp [intOf]; omega
              · have hkl' : ¬ (k : Int) < (s.size : Int) := by omega
                have htk : blk (s.data.toList.take k) = blk s.data.toList := by rw [List.take_of_length_le (by rw [size_data]; omega)]
                rw [htk] at hbl ⊢
                have hcs := HCS.out
                generalize blk s.data.toList = m at *
                generalize lens C = q at *
                have hsum : (((q : Int) + (m : Int)) == (s.size : Int)) = true := by simp; omega
                clear htk hcs
                go_wp2
                go_ret
                exact ⟨rfl, hb4⟩
set_option maxHeartbeats 1000000 in
theorem joins_law (s : ByteArray) (w : World) (hs : s.size ≤ maxLen) (ht : Tab w) :
    Calls Tryd.prog 9 #[.string s] w fun e w' => e = .returned (.bool true) ∧ Below w.heap.size w w' := by
  by_cases h : s.size ≤ 4000
  · exact joins_core s w h ht
  · have h' : (4000 : Int) < (s.size : Int) := by omega
    unfold maxLen at hs
    have HT := Lib.hid ht
    clear ht
    go_enter Tryd.func9, Tryd.ntmps9
    go_wp2_with (go_at_call 10; refine (awake_any _ HT.out).mono ?_; rintro e w1 ⟨rfl, b1⟩)
    go_ret
    exact ⟨rfl, b1⟩
end Go.Proofs.YtgdddalpklamoaaDoor
