/- The program's first line of a network, and its arcs' lines. -/
import Derived.Test.YtbciplfncnangaaDoorNWrd
namespace Go.Proofs.YtbciplfncnangaaDoor
open Go.RowKit Go.Shelf
set_option linter.unusedVariables false

theorem beqHold (c : List UInt8) : (c == [104, 111, 108, 100]) = decide (c = holdB) := by
  unfold holdB
  rcases h : (c == [104, 111, 108, 100]) with _ | _
  · have h2 : c ≠ [104, 111, 108, 100] := by simpa using h
    exact (decide_eq_false h2).symm
  · have h2 : c = [104, 111, 108, 100] := by simpa using h
    exact (decide_eq_true h2).symm
theorem own_lst2 {α : Type} {enc : α → Value} {w : World} {base : Nat} {e : TypeId} {v : Value} {A : List α} (h : w.ownsRow base e 1 v A.length (A.map enc)) : ∃ ao cap, v = .slice ao A.length cap ∧ A.length ≤ cap ∧ Lst enc w ao A ∧ (∀ ad, ao = some ad → base ≤ ad.block) := by
  obtain ⟨ao, cap, rfl, hl⟩ := own_lst h
  refine ⟨ao, cap, rfl, ?_, hl, ?_⟩
  · rcases h.2 with ⟨e1, h0⟩ | ⟨g, cap', cur, e1, hb, hg, h1, h2, h3, h4⟩
    · omega
    · cases e1; exact h1
  · intro ad hd
    subst hd
    rcases h.2 with ⟨e1, h0⟩ | ⟨g, cap', cur, e1, hb, hg, h1, h2, h3, h4⟩
    · cases e1
    · cases e1; exact hb
theorem numAt (b : List UInt8) (hb : b.length ≤ maxLen) : ∃ k f, numL b = (k, f) ∧ (∀ W, Calls Tryd.prog 57 #[.string ⟨b.toArray⟩] W fun e w' => e = .returned (.tuple #[.int .i64 k, .int .i64 f]) ∧ Below W.heap.size W w') :=
  ⟨_, _, rfl, fun W => num_at ⟨b.toArray⟩ _ _ W hb rfl⟩
set_option maxRecDepth 100000 in
set_option maxHeartbeats 2000000 in
theorem begin_any (ao : Option Addr) (cap : Nat) (a b c : List UInt8) (w : World) (hl : Lst strV w ao [a, b, c]) (hb : b.length ≤ maxLen) (hy : netLineB [a, b, c] = true) :
    Calls Tryd.prog 47 #[.slice ao 3 cap] w fun e w' => e = .returned (.tuple #[netV (headL [a, b, c]).1 (.slice none 0 0), .int .i64 (headL [a, b, c]).2]) ∧ Below w.heap.size w w' := by
  rw [headL_yes hy]
  obtain ⟨k, f, hkf, hN⟩ := numAt b hb
  have HK := Lib.hid hkf
  have HN := Lib.hid hN
  rw [hkf]
  simp only
  clear hkf hN hy
  obtain ⟨bb, o, rfl, hbb, h1⟩ := lst_cell (i := 1) hl rfl
  obtain ⟨b2, o2, e2, hb2, h2⟩ := lst_cell (i := 2) hl rfl
  cases e2
  clear hl hb2
  unfold strV at h1 h2
  have HB0 := Lib.hid ((Below.refl _ w).alloc (Nat.le_refl _) (.cells #[.int .i64 0, .bool false, .slice none 0 0] 24))
  have g1 := cell_alloc h1 (.cells #[.int .i64 0, .bool false, .slice none 0 0] 24)
  have g2 := cell_alloc h2 (.cells #[.int .i64 0, .bool false, .slice none 0 0] 24)
  have hW : (w.alloc (.cells #[.int .i64 0, .bool false, .slice none 0 0] 24)).heap[w.heap.size]? = some (.cells #[.int .i64 0, .bool false, .slice none 0 0] 24 (0, 0)) := heap_alloc_new _ _
  have HW := Lib.hid hW
  clear h1 h2 hW
  by_cases hf : f = 0
  · subst hf
    rw [if_pos rfl]
    by_cases hn : nodesE k = 0
    · rw [if_pos hn]
      have HE := Lib.hid hn
      clear hn
      go_enter Tryd.func47, Tryd.ntmps47
      go_wp2_with (first
        | (go_at_call 57; refine (HN.out _).mono ?_; rintro e w2 ⟨rfl, b2⟩; have z2 := cell_below b2 g2; have hW2 := (b2.block _ (lt_whole HW.out)).trans HW.out; have HW2 := Lib.hid hW2; obtain ⟨d0, d1, d2, f0, f1, f2⟩ := netCells hW2; have HB2 := Lib.hid (HB0.out.trans (b2.mono HB0.out.size)); clear b2 hW2)
        | (go_at_call 26; refine (cnodes_is k 0 _ HE.out).mono ?_; rintro e w' ⟨rfl, rfl⟩))
      obtain ⟨q, hB⟩ := netSet HW2.out HB2.out (Nat.le_refl _) (.int .i64 k) (.bool (c == [104, 111, 108, 100])) (.slice none 0 0)
      generalize World.setCell (World.setCell (World.setCell _ _ _) _ _) _ _ = W at *
      obtain ⟨k0, k1, k2, _, _, _⟩ := netCells q
      refine bodyPost_ret (v := .tuple #[.agg #[.int .i64 k, .bool (c == [104, 111, 108, 100]), .slice none 0 0], .int .i64 0]) (by simp [results, Tryd.results47, go_sem, k0, k1, k2]) rfl ⟨by unfold netV; simp only; rw [beqHold], hB⟩

    · rw [if_neg hn]
      obtain ⟨e0, he0⟩ : ∃ e0, nodesE k = e0 := ⟨_, rfl⟩
      rw [he0] at hn ⊢
      have HE := Lib.hid he0
      have hf2 : (e0 != 0) = true := by simpa using hn
      have hf1 : (e0 == 0) = false := by simpa using hn
      clear hn he0
      go_enter Tryd.func47, Tryd.ntmps47
      go_wp2_with (first
        | (go_at_call 57; refine (HN.out _).mono ?_; rintro e w2 ⟨rfl, b2⟩; have z2 := cell_below b2 g2; have hW2 := (b2.block _ (lt_whole HW.out)).trans HW.out; have HW2 := Lib.hid hW2; obtain ⟨d0, d1, d2, f0, f1, f2⟩ := netCells hW2; have HB2 := Lib.hid (HB0.out.trans (b2.mono HB0.out.size)); clear b2 hW2)
        | (go_at_call 26; refine (cnodes_is k e0 _ HE.out).mono ?_; rintro e w' ⟨rfl, rfl⟩))
      obtain ⟨q, hB⟩ := netSet HW2.out HB2.out (Nat.le_refl _) (.int .i64 0) (.bool false) (.slice none 0 0)
      generalize World.setCell (World.setCell (World.setCell _ _ _) _ _) _ _ = W at *
      obtain ⟨k0, k1, k2, _, _, _⟩ := netCells q
      refine bodyPost_ret (v := .tuple #[.agg #[.int .i64 0, .bool false, .slice none 0 0], .int .i64 e0]) (by simp [results, Tryd.results47, go_sem, k0, k1, k2]) rfl ⟨rfl, hB⟩

  · rw [if_neg hf]
    have hf2 : (f != 0) = true := by simpa using hf
    have hf1 : (f == 0) = false := by simpa using hf
    clear hf
    go_enter Tryd.func47, Tryd.ntmps47
    go_wp2_with (first
      | (go_at_call 57; refine (HN.out _).mono ?_; rintro e w2 ⟨rfl, b2⟩; have z2 := cell_below b2 g2; have hW2 := (b2.block _ (lt_whole HW.out)).trans HW.out; have HW2 := Lib.hid hW2; obtain ⟨d0, d1, d2, f0, f1, f2⟩ := netCells hW2; have HB2 := Lib.hid (HB0.out.trans (b2.mono HB0.out.size)); clear b2 hW2))
    obtain ⟨q, hB⟩ := netSet HW2.out HB2.out (Nat.le_refl _) (.int .i64 0) (.bool false) (.slice none 0 0)
    generalize World.setCell (World.setCell (World.setCell _ _ _) _ _) _ _ = W at *
    obtain ⟨k0, k1, k2, _, _, _⟩ := netCells q
    refine bodyPost_ret (v := .tuple #[.agg #[.int .i64 0, .bool false, .slice none 0 0], .int .i64 f]) (by simp [results, Tryd.results47, go_sem, k0, k1, k2]) rfl ⟨rfl, hB⟩

end Go.Proofs.YtbciplfncnangaaDoor
