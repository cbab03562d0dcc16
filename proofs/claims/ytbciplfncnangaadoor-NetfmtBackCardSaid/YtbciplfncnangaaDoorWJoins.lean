/- A text is its lines with a byte 10 behind each, but perhaps the last one; words and blanks are all of it. -/
import Derived.Test.YtbciplfncnangaaDoorWRows
namespace Go.Proofs.YtbciplfncnangaaDoor
open Go.RowKit Go.Shelf
set_option linter.unusedVariables false

def flat (L : List (List UInt8)) : List UInt8 := L.flatMap fun x => x ++ [10]
theorem flat_snoc (L : List (List UInt8)) (x : List UInt8) : flat (L ++ [x]) = flat L ++ (x ++ [10]) := by simp [flat]
theorem flat_cut (l : List UInt8) : flat (cut 10 l).1 ++ (cut 10 l).2 = l := by
  refine snoc_ind (P := fun l => flat (cut 10 l).1 ++ (cut 10 l).2 = l) rfl ?_ l
  intro l c ih
  by_cases h : c = 10
  · subst h; rw [cut_hit, flat_snoc]
    simp only [List.append_nil]
    rw [← List.append_assoc, ih]
  · rw [cut_miss 10 l c h]
    simp only
    rw [← List.append_assoc, ih]
theorem flat_lines (l : List UInt8) : flat (linesL l) = l ∨ flat (linesL l) = l ++ [10] := by
  have h := flat_cut l
  unfold linesL pcs
  cases hc : (cut 10 l).2 with
  | nil => left; rw [hc, List.append_nil] at h; simpa [lastIf] using h
  | cons c r =>
    right
    rw [hc] at h
    show flat ((cut 10 l).1 ++ [c :: r]) = _
    rw [flat_snoc, ← List.append_assoc, h]
theorem cut_no (e : UInt8) (l : List UInt8) : (∀ x ∈ (cut e l).1, noB e x) ∧ noB e (cut e l).2 := by
  refine snoc_ind (P := fun l => (∀ x ∈ (cut e l).1, noB e x) ∧ noB e (cut e l).2) ⟨fun x hx => by simp [cut_nil] at hx, fun c hc => by simp [cut_nil] at hc⟩ ?_ l
  intro l c ih
  by_cases h : c = e
  · subst h; rw [cut_hit]
    refine ⟨fun x hx => ?_, fun c hc => by simp at hc⟩
    rcases List.mem_append.1 hx with hx | hx
    · exact ih.1 x hx
    · simp at hx; subst hx; exact ih.2
  · rw [cut_miss e l c h]
    refine ⟨ih.1, fun d hd => ?_⟩
    rcases List.mem_append.1 hd with hd | hd
    · exact ih.2 d hd
    · simp at hd; subst hd; exact h
theorem pcs_no (e : UInt8) (l : List UInt8) : ∀ x ∈ pcs e l, noB e x := by
  intro x hx
  have h := cut_no e l
  unfold pcs at hx
  rcases List.mem_append.1 hx with hx | hx
  · exact h.1 x hx
  · have : x = (cut e l).2 := by
      revert hx
      cases (cut e l).2 with
      | nil => intro hx; simp [lastIf] at hx
      | cons c r => intro hx; simpa [lastIf] using hx
    subst this; exact h.2
def lens (L : List (List UInt8)) : Nat := (L.map List.length).sum
theorem lens_snoc (L : List (List UInt8)) (x : List UInt8) : lens (L ++ [x]) = lens L + x.length := by simp [lens]
def blk (l : List UInt8) : Nat := l.count 32
theorem blk_hit (l : List UInt8) : blk (l ++ [32]) = blk l + 1 := by simp [blk]
theorem blk_miss (l : List UInt8) (c : UInt8) (h : c ≠ 32) : blk (l ++ [c]) = blk l := by
  unfold blk; rw [List.count_append, List.count_singleton]; simp [h]
theorem lens_cut (l : List UInt8) : lens (cut 32 l).1 + (cut 32 l).2.length + blk l = l.length := by
  refine snoc_ind (P := fun l => lens (cut 32 l).1 + (cut 32 l).2.length + blk l = l.length) rfl ?_ l
  intro l c ih
  by_cases h : c = 32
  · subst h; rw [cut_hit, lens_snoc, blk_hit, List.length_append]; simp; omega
  · rw [cut_miss 32 l c h, blk_miss l c h, List.length_append]; simp; omega
theorem lens_filter (L : List (List UInt8)) : lens (L.filter full) = lens L := by
  induction L with
  | nil => rfl
  | cons x r ih =>
    cases x with
    | nil => rw [List.filter_cons]; simp only [full, List.isEmpty_nil, Bool.not_true, Bool.false_eq_true, if_false]; rw [ih]; simp [lens]
    | cons c t => rw [List.filter_cons]; simp only [full, List.isEmpty_cons, Bool.not_false, if_true]; unfold lens at ih ⊢; rw [List.map_cons, List.map_cons, List.sum_cons, List.sum_cons, ih]
theorem lens_words (l : List UInt8) : lens (wordsL l) + blk l = l.length := by
  unfold wordsL
  rw [lens_filter]
  have h := lens_cut l
  unfold pcs
  cases hc : (cut 32 l).2 with
  | nil => rw [hc] at h; simpa [lastIf, lens] using h
  | cons c r =>
    rw [hc] at h
    show lens ((cut 32 l).1 ++ [c :: r]) + _ = _
    rw [lens_snoc]; exact h
theorem words_no (l : List UInt8) : ∀ x ∈ wordsL l, noB 32 x ∧ x ≠ [] := by
  intro x hx
  unfold wordsL at hx
  obtain ⟨h1, h2⟩ := List.mem_filter.1 hx
  refine ⟨pcs_no 32 l x h1, fun e => ?_⟩
  subst e
  simp [full] at h2
theorem lens_take_le (L : List (List UInt8)) (k : Nat) : lens (L.take k) ≤ lens L := by
  have h : ∀ a b : List (List UInt8), lens (a ++ b) = lens a + lens b := by intro a b; simp [lens]
  have h2 := h (L.take k) (L.drop k)
  rw [List.take_append_drop] at h2
  omega
theorem flat_take_le (L : List (List UInt8)) (k : Nat) : (flat (L.take k)).length ≤ (flat L).length := by
  have h : ∀ a b : List (List UInt8), flat (a ++ b) = flat a ++ flat b := by intro a b; simp [flat]
  have h2 := congrArg List.length (h (L.take k) (L.drop k))
  rw [List.take_append_drop, List.length_append] at h2
  omega
theorem flat_len (l : List UInt8) : (flat (linesL l)).length ≤ l.length + 1 := by
  rcases flat_lines l with h | h
  · rw [h]; omega
  · rw [h, List.length_append]; simp
theorem bytes_at {l : List UInt8} {X : ByteArray} (hX : X.data.toList = l) (k : Nat) (hk : k < X.size) {e : UInt8} (h : noB e l) : X[k]'hk ≠ e := by
  refine h _ ?_
  rw [← hX]
  have : X[k]'hk = X.data.toList[k]'(by rw [size_data]; exact hk) := rfl
  rw [this]; exact List.getElem_mem _
theorem ne_byte {a c : UInt8} {n : Int} (hn : (c.toNat : Int) = n) (h : a ≠ c) : ((a.toNat : Int) == n) = false := by
  rw [eq_byte a c n hn]
  have : ¬ c = a := fun e => h e.symm
  simpa using this
end Go.Proofs.YtbciplfncnangaaDoor
