/- What any right program answers is answered: awake of layer 2 returns true. -/
import Derived.Test.YtfcpdknonhgnoaaPPop
import Derived.Laws.StructEq
import Derived.Shelf.SlicesE.Kit
namespace Go.Proofs.Ytfcpdknonhgnoaa
open Go.RowKit Go.Sort
set_option linter.unusedVariables false

def AP (x : Int × Int) : Value := .agg #[.int .i64 x.1, .int .i64 x.2]
theorem eq_pair (x1 x2 y1 y2 : Int) (w : World) : (binOp .eql 34 (.agg #[.int .i64 x1, .int .i64 x2]) (.agg #[.int .i64 y1, .int .i64 y2])).run Try.prog w = .ok (.bool (x1 == y1 && x2 == y2)) w := by
  have u3 := Try.underlying3
  have a3 := Try.isAgg3
  have z3 := Try.sizeOf3
  have hS : Try.prog.underlying 34 = some (.struct (Try.prog.fieldsOf 34)) := by kernel_rfl
  have hp : Try.prog.stoodInHeld 34 = false := by kernel_rfl
  rw [run_eql_struct, show (10000 : Nat) = 9999 + 1 from rfl, run_equalIn_agg w 9999 34 _ _ hS hp]
  simp only [Program.fieldsOf, Try.underlying34]
  go_simp
  by_cases h1 : x1 = y1 <;> by_cases h2 : x2 = y2 <;> simp [h1, h2]
/-- A pile of room for 3 and a queue of room for 1, both made behind w0. -/
def Both (w0 w : World) (b : Nat) (G : Option Nat) (qb qg : Nat) (L : List (Int × Int)) (l : List Int) : Prop :=
  Pl w b G 3 L ∧ QIs w qb qg 1 l ∧ qb ≠ b ∧ qg ≠ b ∧ G ≠ some qb ∧ G ≠ some qg ∧ w0.heap.size ≤ b ∧ w0.heap.size ≤ qb ∧ w0.heap.size ≤ qg ∧ (∀ g, G = some g → w0.heap.size ≤ g) ∧ Below w0.heap.size w0 w
section
variable {w0 w w' : World} {b : Nat} {G : Option Nat} {qb qg : Nat} {L : List (Int × Int)} {l : List Int}
theorem Both.below (h : Both w0 w b G qb qg L l) (k : Below w.heap.size w w') : Both w0 w' b G qb qg L l := by
  obtain ⟨h1, h2, h3, h4, h5, h6, h7, h8, h9, h10, h11⟩ := h
  have k' := Kept.of_below (S := fun _ => False) k
  exact ⟨h1.kept k' (fun h => h) (fun _ _ h => h), h2.kept k' (fun h => h) (fun h => h), h3, h4, h5, h6, h7, h8, h9, h10, h11.trans (k.mono h11.size)⟩
theorem Both.push (h : Both w0 w b G qb qg L l) (hm : L.length < 3) (k i : Int) :
    Calls Try.prog 16 #[.pointer (some ⟨b, 0, none⟩), .agg #[.int .i64 k, .int .i64 i]] w fun e w' => ∃ G', e = .returned (.int .i64 0) ∧ Both w0 w' b G' qb qg (insP (k, i) L) l := by
  obtain ⟨h1, h2, h3, h4, h5, h6, h7, h8, h9, h10, h11⟩ := h
  refine (push_yes b G 3 L (k, i) w h1 hm).mono ?_
  rintro e w' ⟨G', rfl, p1, p2, p3⟩
  have hq := h2.lt
  refine ⟨G', rfl, p1, h2.kept p2 ?_ ?_, h3, h4, ?_, ?_, h7, h8, h9, ?_, h11.trans (p2.below h11.size ?_)⟩
  · rintro (h | h)
    · exact h3 h
    · exact h5 h.symm
  · rintro (h | h)
    · exact h4 h
    · exact h6 h.symm
  · rcases p3 with rfl | ⟨k, rfl, hk⟩
    · exact h5
    · intro e; cases e; omega
  · rcases p3 with rfl | ⟨k, rfl, hk⟩
    · exact h6
    · intro e; cases e; omega
  · intro g hg
    rcases p3 with rfl | ⟨k, rfl, hk⟩
    · exact h10 g hg
    · cases hg; exact Nat.le_trans h11.size hk
  · rintro i (rfl | h)
    · exact h7
    · exact h10 i h.symm
theorem Both.pop {x : Int × Int} (h : Both w0 w b G qb qg (x :: L) l) :
    Calls Try.prog 11 #[.pointer (some ⟨b, 0, none⟩)] w fun e w' => e = .returned (.tuple #[.agg #[.int .i64 x.1, .int .i64 x.2], .int .i64 0]) ∧ Both w0 w' b G qb qg L l := by
  obtain ⟨h1, h2, h3, h4, h5, h6, h7, h8, h9, h10, h11⟩ := h
  refine (pop_yes b G 3 x L w h1).mono ?_
  rintro e w' ⟨rfl, p1, p2⟩
  refine ⟨rfl, p1, h2.kept p2 ?_ ?_, h3, h4, h5, h6, h7, h8, h9, h10, h11.trans (p2.below h11.size ?_)⟩
  · rintro (h | h)
    · exact h3 h
    · exact h5 h.symm
  · rintro (h | h)
    · exact h4 h
    · exact h6 h.symm
  · rintro i (rfl | h)
    · exact h7
    · exact h10 i h.symm
theorem Both.qkept (h : Both w0 w b G qb qg L l) {l' : List Int} {S : Nat → Prop} (k : Kept S w w') (hs : ∀ i, S i → i = qb ∨ i = qg) (hq : QIs w' qb qg 1 l') : Both w0 w' b G qb qg L l' := by
  obtain ⟨h1, h2, h3, h4, h5, h6, h7, h8, h9, h10, h11⟩ := h
  refine ⟨h1.kept k (fun h => ?_) (fun g hg h => ?_), hq, h3, h4, h5, h6, h7, h8, h9, h10, h11.trans (k.below h11.size ?_)⟩
  · rcases hs _ h with e | e
    · exact h3 e.symm
    · exact h4 e.symm
  · rcases hs _ h with e | e
    · exact h5 (by rw [hg, e])
    · exact h6 (by rw [hg, e])
  · intro i h
    rcases hs _ h with e | e <;> omega
end
theorem ins1 : insP (3, 1) [] = [(3, 1)] := rfl
theorem ins2 : insP (1, 2) [(3, 1)] = [(1, 2), (3, 1)] := by decide
theorem ins3 : insP (1, 1) [(1, 2), (3, 1)] = [(1, 1), (1, 2), (3, 1)] := by decide
set_option maxRecDepth 100000 in
set_option maxHeartbeats 2000000 in
theorem awake_any (w : World) : Calls Try.prog 8 #[] w fun e w' => e = .returned (.bool true) ∧ Below w.heap.size w w' := by
  go_enter Try.func8, Try.ntmps8
  go_wp2_with fail
  refine (new_yes 3 _ (by omega)).mono ?_
  rintro e w1 ⟨b, hb, rfl, hp1, hk1⟩
  have H1 := Lib.hid hp1
  have HK1 := Lib.hid hk1
  clear hp1 hk1
  go_wp2_with fail
  refine (newq_yes 1 _ (by omega)).mono ?_
  rintro e w2 ⟨qb, qg, hqb, hqg, rfl, hq2, hk2⟩
  have B2 : Hid (Both w w2 b none qb qg [] []) := Lib.hid (by
    have hbl := H1.out.lt.1
    have hs := HK1.out.size
    exact ⟨H1.out.kept (Kept.of_below (S := fun _ => False) hk2) (fun h => h) (fun _ _ h => h), hq2, by omega, by omega, by simp, by simp, hb, by omega, by omega, (fun g h => by cases h), HK1.out.trans (hk2.mono hs)⟩)
  clear hq2 hk2 H1 HK1
  go_wp2_with fail
  refine (B2.out.push (by simp) 3 1).mono ?_
  rintro e w3 ⟨G3, rfl, h3⟩
  rw [ins1] at h3
  have B3 := Lib.hid h3
  clear h3 B2
  go_wp2_with fail
  refine (B3.out.push (by simp) 1 2).mono ?_
  rintro e w4 ⟨G4, rfl, h4⟩
  rw [ins2] at h4
  have B4 := Lib.hid h4
  clear h4 B3
  go_wp2_with fail
  refine (B4.out.push (by simp) 1 1).mono ?_
  rintro e w5 ⟨G5, rfl, h5⟩
  rw [ins3] at h5
  have B5 := Lib.hid h5
  clear h5 B4
  go_wp2_with fail
  refine (B5.out.pop).mono ?_
  rintro e w6 ⟨rfl, h6⟩
  have B6 := Lib.hid h6
  clear h6 B5
  go_wp2_with fail
  have B7 := Lib.hid (B6.out.below ((Below.refl _ w6).alloc (Nat.le_refl _) (.cells #[.int .i64 1, .int .i64 1] 34)))
  refine (least_yes b G5 3 (1, 2) [(3, 1)] _ B7.out.1).mono ?_
  rintro e w7 ⟨rfl, h7⟩
  have X7 := Lib.hid (old_block h7)
  have B8 := Lib.hid (B7.out.below h7)
  have hs7 := lt_whole X7.out
  have hq7 := B6.out.2.1.lt
  have z1 : w6.heap.size ≠ qb := by omega
  have z2 : w6.heap.size ≠ qg := by omega
  have hq8 := B8.out.2.1.lt
  have z3 : w7.heap.size ≠ qb := by omega
  have z4 : w7.heap.size ≠ qg := by omega
  clear h7 B7 B6 hq7 hq8
  go_wp2_with fail
  have B9 := Lib.hid (B8.out.below ((Below.refl _ w7).alloc (Nat.le_refl _) (.cells #[.int .i64 1, .int .i64 2] 34)))
  refine (put_yes qb qg 1 [] 5 _ B9.out.2.1 (by simp)).mono ?_
  rintro e w8 ⟨rfl, q8, k8⟩
  have X8 := Lib.hid (k8.old (alloc_whole X7.out _) (by omega))
  have Y8 := Lib.hid (k8.old (heap_alloc_new w7 _) (by omega))
  have B10 := Lib.hid (B9.out.qkept k8 (fun _ h => h) q8)
  clear q8 k8 B9 B8 X7
  go_wp2_with fail
  refine (put_no qb qg 1 [5] 6 _ B10.out.2.1 rfl).mono ?_
  rintro e w9 ⟨rfl, n9, h9⟩
  have k9 : Kept (fun _ => False) w8 w9 := by rw [h9]; exact (Kept.refl _ w8).drewN _
  have X9 := Lib.hid (k9.old X8.out (fun h => h))
  have Y9 := Lib.hid (k9.old Y8.out (fun h => h))
  have B11 := Lib.hid (B10.out.qkept k9 (fun _ h => h.elim) (B10.out.2.1.kept k9 (fun h => h) (fun h => h)))
  clear h9 k9 B10 X8 Y8
  go_wp2_with fail
  refine (take_yes qb qg 1 [] 5 _ B11.out.2.1).mono ?_
  rintro e w10 ⟨rfl, q10, k10⟩
  have x10 := k10.old X9.out z1
  have y10 := k10.old Y9.out z3
  have cx0 := cell_whole x10 0
  have cx1 := cell_whole x10 1
  have cy0 := cell_whole y10 0
  have cy1 := cell_whole y10 1
  simp at cx0 cx1 cy0 cy1
  have B12 := Lib.hid (B11.out.qkept k10 (fun _ h => .inl h) q10)
  clear q10 k10 x10 y10 B11 X9 Y9
  have e1 := fun W => eq_pair 1 1 1 1 W
  have e2 := fun W => eq_pair 1 2 1 2 W
  go_wp2_with (first | (go_at_call 15; refine (plen_any b G5 3 [(1, 2), (3, 1)] _ B12.out.1).mono ?_; rintro e w' ⟨rfl, rfl⟩) | (go_at_call 24; refine (qlen_any qb qg 1 [] _ B12.out.2.1).mono ?_; rintro e w11 ⟨rfl, n11, h11⟩; have HW := Lib.hid h11; clear h11))
  go_ret
  have hw := HW.out
  subst hw
  have hb := B12.out.2.2.2.2.2.2.2.2.2.2
  exact ⟨rfl, ⟨hb.os, hb.tape, hb.output, hb.size, hb.block⟩⟩
end Go.Proofs.Ytfcpdknonhgnoaa
