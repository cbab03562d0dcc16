/- A row's line is one, and its words are the word and the numbers. -/
import Derived.Test.YtbciplfncnangaaDoorWBack
import Derived.Deep.RegionHeld3
import Derived.IntWalk
namespace Go.Proofs.YtbciplfncnangaaDoor
open Go.RowKit Go.Shelf
set_option linter.unusedVariables false

def noB (e : UInt8) (l : List UInt8) : Prop := ∀ c ∈ l, c ≠ e
theorem cut_none (e : UInt8) (p l : List UInt8) (h : noB e l) : cut e (p ++ l) = ((cut e p).1, (cut e p).2 ++ l) := by
  revert h
  refine snoc_ind (P := fun l => noB e l → cut e (p ++ l) = ((cut e p).1, (cut e p).2 ++ l)) (by intro; simp) ?_ l
  intro l c ih h
  have h1 := ih (fun x hx => h x (by simp [hx]))
  rw [← List.append_assoc, cut_miss e _ c (h c (by simp)), h1]
  simp
theorem digB_no32 {c : UInt8} (h : digB c = true) : c ≠ 32 ∧ c ≠ 10 := by
  have h1 := digB_yes h
  refine ⟨?_, ?_⟩ <;> rintro rfl
  · have : (32 : UInt8).toNat = 32 := rfl
    omega
  · have : (10 : UInt8).toNat = 10 := rfl
    omega
theorem dec_no (m : Nat) : noB 32 (Lib.decDigits m) ∧ noB 10 (Lib.decDigits m) := by
  have h := dec_all m
  rw [List.all_eq_true] at h
  exact ⟨fun c hc => (digB_no32 (h c hc)).1, fun c hc => (digB_no32 (h c hc)).2⟩
theorem itoa_no (n : Int) : noB 32 (Lib.itoa n) ∧ noB 10 (Lib.itoa n) := by
  unfold Lib.itoa
  split
  · have h := dec_no n.natAbs
    refine ⟨fun c hc => ?_, fun c hc => ?_⟩
    · rcases List.mem_cons.1 hc with rfl | hc
      · decide
      · exact h.1 c hc
    · rcases List.mem_cons.1 hc with rfl | hc
      · decide
      · exact h.2 c hc
  · exact dec_no n.toNat
theorem itoa_ne (n : Int) : Lib.itoa n ≠ [] := by
  unfold Lib.itoa
  split
  · simp
  · exact dec_ne _
theorem nums_no10 (Z : List Int) : noB 10 (numsL Z) := by
  intro c hc
  unfold numsL at hc
  obtain ⟨n, _, hn⟩ := List.mem_flatMap.1 hc
  rcases List.mem_cons.1 hn with rfl | hn
  · decide
  · exact (itoa_no n).2 c hn
theorem lines_row (x : List UInt8) (Z : List Int) (h : noB 10 x) : linesL (rowL x Z) = [x ++ numsL Z] := by
  have h1 : noB 10 (x ++ numsL Z) := by
    intro c hc
    rcases List.mem_append.1 hc with hc | hc
    · exact h c hc
    · exact nums_no10 Z c hc
  have h2 := cut_none 10 [] (x ++ numsL Z) h1
  rw [List.nil_append, cut_nil] at h2
  have h3 := cut_hit 10 (x ++ numsL Z)
  rw [h2] at h3
  unfold linesL pcs rowL
  rw [← List.append_assoc, h3]
  rfl
theorem cut_words (x : List UInt8) (Z : List Int) (h : noB 32 x) : (cut 32 (x ++ numsL Z)).1 ++ [(cut 32 (x ++ numsL Z)).2] = x :: Z.map Lib.itoa := by
  refine snoc_ind (P := fun Z => (cut 32 (x ++ numsL Z)).1 ++ [(cut 32 (x ++ numsL Z)).2] = x :: Z.map Lib.itoa) ?_ ?_ Z
  · have h2 := cut_none 32 [] x h
    rw [List.nil_append, cut_nil] at h2
    show (cut 32 (x ++ numsL [])).1 ++ [(cut 32 (x ++ numsL [])).2] = [x]
    rw [show numsL [] = [] from rfl, List.append_nil, h2]; rfl
  · intro Z n ih
    rw [numsL_snoc, show x ++ (numsL Z ++ 32 :: Lib.itoa n) = (x ++ numsL Z ++ [32]) ++ Lib.itoa n by simp, cut_none 32 _ _ (itoa_no n).1, cut_hit]
    simp only [List.nil_append]
    rw [ih]; simp
theorem filter_full {L : List (List UInt8)} (h : ∀ x ∈ L, x ≠ []) : L.filter full = L := by
  rw [List.filter_eq_self]
  intro x hx
  have := h x hx
  unfold full
  cases x with
  | nil => exact absurd rfl this
  | cons c r => rfl
theorem words_row (x : List UInt8) (Z : List Int) (h : noB 32 x) (hne : x ≠ []) : wordsL (x ++ numsL Z) = x :: Z.map Lib.itoa := by
  have h1 := cut_words x Z h
  have h2 : ∀ y ∈ x :: Z.map Lib.itoa, y ≠ [] := by
    intro y hy
    rcases List.mem_cons.1 hy with rfl | hy
    · exact hne
    · obtain ⟨n, _, rfl⟩ := List.mem_map.1 hy
      exact itoa_ne n
  have h3 : (cut 32 (x ++ numsL Z)).2 ≠ [] := h2 _ (by rw [← h1]; simp)
  unfold wordsL pcs
  rw [lastIf_ne h3, h1]
  exact filter_full h2
theorem lst_cell {α : Type} {enc : α → Value} {w : World} {ao : Option Addr} {A : List α} (h : Lst enc w ao A) {i : Nat} {x : α} (hx : A[i]? = some x) : ∃ b o, ao = some ⟨b, o, none⟩ ∧ b < w.heap.size ∧ w.cell? ⟨b, o + i, none⟩ = some (enc x) := by
  obtain ⟨hi, e⟩ := List.getElem?_eq_some_iff.1 hx
  obtain ⟨b, o, h1, h2, h3⟩ := h i hi
  exact ⟨b, o, h1, h2, by rw [h3, e]⟩
theorem cell_below' {B : Nat} {w w' : World} (hb : Below B w w') {b o : Nat} {v : Value} (h : w.cell? ⟨b, o, none⟩ = some v) (hlt : b < B) : w'.cell? ⟨b, o, none⟩ = some v := (hb.cell (p := ⟨b, o, none⟩) hlt).trans h

end Go.Proofs.YtbciplfncnangaaDoor
