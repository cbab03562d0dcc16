/- What the pile of the document's answer does: New, Least and Pop. -/
import Derived.Test.YtfcpdknonhgnoaaPPop
namespace Go.Proofs.Ytfcpdknonhgnoaa
open Go.RowKit Go.Sort
set_option linter.unusedVariables false

/-- A slice that reads as these pairs: nil, or some of block g. -/
def RowR (w : World) (G : Option Nat) (v : Value) (L : List (Int × Int)) : Prop :=
  (v = .slice none 0 0 ∧ L = [] ∧ G = none) ∨
  ∃ g o cap cur, G = some g ∧ v = .slice (some ⟨g, o, none⟩) L.length cap ∧ w.heap[g]? = some (.cells cur 34 (0, 0)) ∧ L.length ≤ cap ∧
    ∀ j, j < L.length → cur[o + j * 2]? = some (.int .i64 (L.getD j (0, 0)).1) ∧ cur[o + j * 2 + 1]? = some (.int .i64 (L.getD j (0, 0)).2)
/-- The document's pile: its struct at block b, its pairs in block G. -/
def RPIs (w : World) (b : Nat) (G : Option Nat) (most : Nat) (L : List (Int × Int)) : Prop :=
  G ≠ some b ∧ ∃ v, w.heap[b]? = some (.cells #[.int .i64 (most : Int), v] 40 (0, 0)) ∧ RowR w G v L
theorem RowR.kept {S : Nat → Prop} {w w' : World} {G : Option Nat} {v : Value} {L : List (Int × Int)} (h : RowR w G v L) (k : Kept S w w') (hg : ∀ g, G = some g → ¬ S g) : RowR w' G v L := by
  rcases h with h | ⟨g, o, cap, cur, h1, h2, h3, h4⟩
  · exact .inl h
  · exact .inr ⟨g, o, cap, cur, h1, h2, k.old h3 (hg g h1), h4⟩
theorem RPIs.kept {S : Nat → Prop} {w w' : World} {b : Nat} {G : Option Nat} {most : Nat} {L : List (Int × Int)} (h : RPIs w b G most L) (k : Kept S w w') (hb : ¬ S b) (hg : ∀ g, G = some g → ¬ S g) : RPIs w' b G most L := by
  obtain ⟨hn, v, h1, h2⟩ := h
  exact ⟨hn, v, k.old h1 hb, h2.kept k hg⟩
theorem RPIs.below {w w' : World} {b : Nat} {G : Option Nat} {most : Nat} {L : List (Int × Int)} (h : RPIs w b G most L) (k : Below w.heap.size w w') : RPIs w' b G most L := h.kept (Kept.of_below (S := fun _ => False) k) (fun h => h) (fun _ _ h => h)
theorem RowR.lt {w : World} {G : Option Nat} {v : Value} {L : List (Int × Int)} (h : RowR w G v L) : ∀ g, G = some g → g < w.heap.size := by
  intro g hg
  rcases h with ⟨_, _, h⟩ | ⟨g', o, cap, cur, h, _, h3, _⟩
  · rw [h] at hg; cases hg
  · rw [h] at hg; cases hg; exact lt_whole h3
theorem RPIs.lt {w : World} {b : Nat} {G : Option Nat} {most : Nat} {L : List (Int × Int)} (h : RPIs w b G most L) : b < w.heap.size ∧ ∀ g, G = some g → g < w.heap.size := by
  obtain ⟨hn, v, h1, h2⟩ := h
  exact ⟨lt_whole h1, h2.lt⟩
theorem RowR.len {w : World} {G : Option Nat} {v : Value} {L : List (Int × Int)} (h : RowR w G v L) : ∃ ao cap, v = .slice ao L.length cap := by
  rcases h with ⟨rfl, rfl, _⟩ | ⟨g, o, cap, cur, _, rfl, _⟩
  · exact ⟨none, 0, rfl⟩
  · exact ⟨_, cap, rfl⟩
theorem RPIs.slice {w : World} {b : Nat} {G : Option Nat} {most : Nat} {L : List (Int × Int)} (h : RPIs w b G most L) : ∃ ao cap, w.cell? ⟨b, 1, none⟩ = some (.slice ao L.length cap) := by
  obtain ⟨hn, v, hb, hv⟩ := h
  obtain ⟨ao, cap, rfl⟩ := hv.len
  have c1 := cell_whole hb 1
  exact ⟨ao, cap, by simpa using c1⟩
def NewRP (most : Nat) (w : World) (e : Ending) (w' : World) : Prop :=
  ∃ b, w.heap.size ≤ b ∧ e = .returned (.tuple #[.pointer (some ⟨b, 0, none⟩), .int .i64 0]) ∧ RPIs w' b none most [] ∧ Below w.heap.size w w'
theorem rnew_yes (most : Nat) (w : World) (h1 : most ≤ 65536) : Calls Try.prog 10 #[.int .i64 (most : Int)] w (NewRP most w) := by
  go_enter Try.func10, Try.ntmps10
  go_wp2
  go_ret2
  exact ⟨w.heap.size, by omega, rfl, ⟨by simp, _, heap_alloc_new _ _, .inl ⟨rfl, rfl, rfl⟩⟩, (Below.refl _ _).alloc (Nat.le_refl _) _⟩
theorem rnew_no (n : Int) (w : World) (h : n < 0 ∨ 65536 < n) : Calls Try.prog 10 #[.int .i64 n] w fun e w' => e = .returned (.tuple #[.pointer none, .int .i64 1]) ∧ w = w' := by
  rcases h with h | h
  · go_enter Try.func10, Try.ntmps10
    go_wp2
    go_ret2
    exact ⟨rfl, rfl⟩
  · have h' : 0 ≤ n := by omega
    go_enter Try.func10, Try.ntmps10
    go_wp2
    go_ret2
    exact ⟨rfl, rfl⟩
theorem rleast_no (b : Nat) (G : Option Nat) (most : Nat) (w : World) (h : RPIs w b G most []) :
    Calls Try.prog 14 #[.pointer (some ⟨b, 0, none⟩)] w fun e w' => e = .returned (.tuple #[.agg #[.int .i64 0, .int .i64 0], .int .i64 21]) ∧ Below w.heap.size w w' := by
  have hl := h.lt
  obtain ⟨ao, cap, c1⟩ := h.slice
  have hne : b ≠ w.heap.size := by omega
  clear h
  go_enter Try.func14, Try.ntmps14
  go_wp2
  exact bodyPost_ret (v := .tuple #[.agg #[.int .i64 0, .int .i64 0], .int .i64 21]) (by simp [results, Try.results14, go_sem]) rfl ⟨rfl, (Below.refl _ w).alloc (Nat.le_refl _) _⟩
/-- All that a walk asks of the document's pile with a pair in it. -/
theorem RPIs.full {w : World} {b : Nat} {G : Option Nat} {most : Nat} {x : Int × Int} {L : List (Int × Int)} (h : RPIs w b G most (x :: L)) :
    ∃ g o cap cur, G = some g ∧ g ≠ b ∧ w.heap[b]? = some (.cells #[.int .i64 (most : Int), .slice (some ⟨g, o, none⟩) (L.length + 1) cap] 40 (0, 0)) ∧ w.heap[g]? = some (.cells cur 34 (0, 0)) ∧ L.length + 1 ≤ cap ∧
      (∀ j, j < L.length + 1 → cur[o + j * 2]? = some (.int .i64 ((x :: L).getD j (0, 0)).1) ∧ cur[o + j * 2 + 1]? = some (.int .i64 ((x :: L).getD j (0, 0)).2)) := by
  obtain ⟨hn, v, h1, h2⟩ := h
  rcases h2 with ⟨_, h, _⟩ | ⟨g, o, cap, cur, rfl, rfl, h3, h4, h5⟩
  · cases h
  · exact ⟨g, o, cap, cur, rfl, fun e => hn (by rw [e]), h1, h3, by simpa using h4, by simpa using h5⟩
theorem rleast_yes (b : Nat) (G : Option Nat) (most : Nat) (x : Int × Int) (L : List (Int × Int)) (w : World) (h : RPIs w b G most (x :: L)) (hs : L.length ≤ 65536) :
    Calls Try.prog 14 #[.pointer (some ⟨b, 0, none⟩)] w fun e w' => e = .returned (.tuple #[.agg #[.int .i64 x.1, .int .i64 x.2], .int .i64 0]) ∧ Below w.heap.size w w' := by
  obtain ⟨g, o, cap, cur, rfl, hne, hb, hg, hcap, hc⟩ := h.full
  have c1 := cell_whole hb 1
  simp at c1
  have hc0 := hc 0 (by omega)
  have q0 : w.cell? ⟨g, o, none⟩ = some (.int .i64 x.1) := by rw [cell_whole hg]; simpa using hc0.1
  have q1 : w.cell? ⟨g, o + 1, none⟩ = some (.int .i64 x.2) := by rw [cell_whole hg]; simpa using hc0.2
  have hbs := lt_whole hb
  have hgs := lt_whole hg
  have n1 : b ≠ w.heap.size := by omega
  have n2 : g ≠ w.heap.size := by omega
  clear h hb hg hc hc0
  go_enter Try.func14, Try.ntmps14
  go_wp2
  exact bodyPost_ret (v := .tuple #[.agg #[.int .i64 x.1, .int .i64 x.2], .int .i64 0]) (by simp [results, Try.results14, go_sem]) rfl ⟨rfl, (Below.refl _ w).alloc (Nat.le_refl _) _⟩
theorem rpop_no (b : Nat) (G : Option Nat) (most : Nat) (w : World) (h : RPIs w b G most []) :
    Calls Try.prog 12 #[.pointer (some ⟨b, 0, none⟩)] w fun e w' => e = .returned (.tuple #[.agg #[.int .i64 0, .int .i64 0], .int .i64 21]) ∧ Below w.heap.size w w' := by
  have H := Lib.hid h
  clear h
  go_enter Try.func12, Try.ntmps12
  go_wp2_with (go_at_call 14; refine (rleast_no b G most _ (H.out.below ((Below.refl _ w).alloc (Nat.le_refl _) _))).mono ?_; rintro e w2 ⟨rfl, hb2⟩; have hr := old_block hb2; have r0 := cell_whole hr 0; have r1 := cell_whole hr 1; have f0 := frozen_whole hr 0; have f1 := frozen_whole hr 1; simp at r0 r1; have hsz := lt_whole hr; have hsn : w.heap.size ≠ w2.heap.size := (by omega); have HB2 := Lib.hid hb2; clear hb2 hr)
  exact bodyPost_ret (v := .tuple #[.agg #[.int .i64 0, .int .i64 0], .int .i64 21]) (by simp [results, Try.results12, go_sem, r0, r1, hsz]) rfl ⟨rfl, (((((Below.refl _ w).alloc (Nat.le_refl _) _).trans (HB2.out.mono (by simp))).setCell (Nat.le_refl _) _).setCell (Nat.le_refl _) _).alloc (by simp [World.setCell]; omega) _⟩
theorem res_cells {w : World} {r b : Nat} {o : Obj} {V a0 a1 X0 X1 : Value} {t : TypeId} (h : w.heap[r]? = some (.cells #[a0, a1] t (0, 0))) (hn : r ≠ b) :
    ((((w.alloc o).setCell ⟨b, 1, none⟩ V).setCell ⟨r, 0, none⟩ X0).setCell ⟨r, 1, none⟩ X1).cell? ⟨r, 0, none⟩ = some X0 ∧ ((((w.alloc o).setCell ⟨b, 1, none⟩ V).setCell ⟨r, 0, none⟩ X0).setCell ⟨r, 1, none⟩ X1).cell? ⟨r, 1, none⟩ = some X1 := by
  have hw := set_whole (set_whole (set_other (alloc_whole h o) hn 1 V) 0 X0) 1 X1
  have e0 := cell_whole hw 0
  have e1 := cell_whole hw 1
  exact ⟨by simpa using e0, by simpa using e1⟩
def PoppedR (b most : Nat) (G : Option Nat) (x : Int × Int) (L : List (Int × Int)) (w : World) (e : Ending) (w' : World) : Prop :=
  e = .returned (.tuple #[.agg #[.int .i64 x.1, .int .i64 x.2], .int .i64 0]) ∧ RPIs w' b G most L ∧ Kept (fun i => i = b) w w'
theorem rpop_yes (b : Nat) (G : Option Nat) (most : Nat) (x : Int × Int) (L : List (Int × Int)) (w : World) (h : RPIs w b G most (x :: L)) (hs : L.length ≤ 65536) :
    Calls Try.prog 12 #[.pointer (some ⟨b, 0, none⟩)] w (PoppedR b most G x L w) := by
  have H := Lib.hid h
  have hlt := h.lt
  obtain ⟨g, o, cap, cur, rfl, hne, hb, hg, hcap, hc⟩ := h.full
  have hgs := hlt.2 g rfl
  have hbs := hlt.1
  have HB := Lib.hid hb
  have HG := Lib.hid hg
  have HC := Lib.hid hc
  have n1 : b ≠ w.heap.size := by omega
  have n2 : g ≠ w.heap.size := by omega
  clear h hb hg hc hlt
  go_enter Try.func12, Try.ntmps12
  go_wp2_with (go_at_call 14; refine (rleast_yes b (some g) most x L _ (H.out.below ((Below.refl _ w).alloc (Nat.le_refl _) _)) hs).mono ?_; rintro e w2 ⟨rfl, hb2⟩; have hr := old_block hb2; have r0 := cell_whole hr 0; have r1 := cell_whole hr 1; have f0 := frozen_whole hr 0; have f1 := frozen_whole hr 1; simp at r0 r1; have hsz := lt_whole hr; have HRR := Lib.hid hr; have hsn : w.heap.size ≠ w2.heap.size := (by omega); have hbb := ((Below.refl _ w).alloc (Nat.le_refl _) (.cells #[.int .i64 0, .int .i64 0] 34)).trans (hb2.mono (by simp)); have hB2 := (hbb.block b hbs).trans HB.out; have hB3 := alloc_whole hB2 (.cells #[.int .i64 x.1, .int .i64 x.2] 34); have c1 := cell_whole hB3 1; simp at c1; have f2 := frozen_whole hB3 1; clear hB3; have HB2 := Lib.hid hB2; have HG2 := Lib.hid ((hbb.block g hgs).trans HG.out); have HBB := Lib.hid hbb; have hbn : b ≠ w2.heap.size := (by omega); clear hb2 hr hbb hB2)
  · refine bodyPost_ret (v := .tuple #[.agg #[.int .i64 x.1, .int .i64 x.2], .int .i64 0]) (by simp [results, Try.results12, go_sem, res_cells HRR.out (fun e => n1 e.symm)]) rfl ⟨rfl, ⟨fun e => hne (Option.some.inj e), _, set_other (set_other (set_whole (alloc_whole HB2.out _) _ _) n1 _ _) n1 _ _, .inr ⟨g, o, 0, cur, rfl, ?_, set_other (set_other (set_other (alloc_whole HG2.out _) hne _ _) n2 _ _) n2 _ _, by omega, fun j hj => by omega⟩⟩, ?_⟩
    · obtain rfl : L = [] := List.eq_nil_of_length_eq_zero (by omega)
      rfl
    · exact ((((Kept.of_below (S := fun i => i = b) HBB.out).alloc _).set (.inl rfl) _).set (.inr (Nat.le_refl _)) _).set (.inr (Nat.le_refl _)) _
  · refine bodyPost_ret (v := .tuple #[.agg #[.int .i64 x.1, .int .i64 x.2], .int .i64 0]) (by simp [results, Try.results12, go_sem, res_cells HRR.out (fun e => n1 e.symm)]) rfl ⟨rfl, ⟨fun e => hne (Option.some.inj e), _, set_other (set_other (set_whole (alloc_whole HB2.out _) _ _) n1 _ _) n1 _ _, .inr ⟨g, o + 2, cap - 1, cur, rfl, rfl, set_other (set_other (set_other (alloc_whole HG2.out _) hne _ _) n2 _ _) n2 _ _, by omega, fun j hj => ?_⟩⟩, ?_⟩
    · have h := HC.out (j + 1) (by omega)
      rw [show o + 2 + j * 2 = o + (j + 1) * 2 by omega]
      exact h
    · exact ((((Kept.of_below (S := fun i => i = b) HBB.out).alloc _).set (.inl rfl) _).set (.inr (Nat.le_refl _)) _).set (.inr (Nat.le_refl _)) _
end Go.Proofs.Ytfcpdknonhgnoaa
