/- Lemmas of the layers below, several texts in one. -/
import Derived.Test.YtlkbohpnlbfopaaBG
import Derived.Test.YtlkbohpnlbfopaaBD
import Derived.Test.YtlkbohpnlbfopaaBB
import Derived.Deep.DeepCutAuto
import Derived.Deep.RegionHeld3
namespace Go.Proofs.Ytlkbohpnlbfopaa
open Go.RowKit
set_option linter.unusedVariables false
theorem OwnS.lt {w : World} {base g n cap : Nat} {L : List StepT} (h : OwnS w base (.slice (some ⟨g, 0, none⟩) n cap) L) : base ≤ g ∧ g < w.heap.size := ⟨own_block h rfl, own_lt h rfl⟩
theorem OwnS.kept {S : Nat → Prop} {w w' : World} {base g n cap : Nat} {L : List StepT} (h : OwnS w base (.slice (some ⟨g, 0, none⟩) n cap) L) (k : Kept S w w') (hn : ¬ S g) : OwnS w' base (.slice (some ⟨g, 0, none⟩) n cap) L := by
  refine ⟨h.1, ?_⟩
  rcases h.2 with h1 | ⟨g', cap', cur, e, h2, h3, h4⟩
  · exact .inl h1
  · have e2 := e
    injection e2 with e2
    injection e2 with e2
    have hg : g' = g := by injection e2 with q; exact q.symm
    exact .inr ⟨g', cap', cur, e, h2, k.old h3 (by rw [hg]; exact hn), h4⟩
theorem OwnS.cell {w : World} {base g n cap : Nat} {L : List StepT} (h : OwnS w base (.slice (some ⟨g, 0, none⟩) n cap) L) {j : Nat} {x : StepT} (hj : L[j]? = some x) :
    (w.cell? ⟨g, j * 2, none⟩ = some (.int .i64 x.1) ∧ w.cell? ⟨g, j * 2 + 1, none⟩ = some (.bool x.2)) ∧ w.frozen? ⟨g, j * 2, none⟩ = false ∧ w.frozen? ⟨g, j * 2 + 1, none⟩ = false := by
  obtain ⟨b, o, e, _, c0, c1⟩ := step_at (own_rowK encS_len h) hj
  cases e
  rw [Nat.zero_add] at c0 c1
  refine ⟨⟨c0, c1⟩, ?_⟩
  rcases h.2 with ⟨h0, _⟩ | ⟨g', cap', cur, e1, hb, hg, _⟩
  · cases h0
  · injection e1 with e2 e3 e4
    injection e2 with e2
    have hg' : g' = g := by injection e2 with q; exact q.symm
    subst hg'
    exact ⟨frozen_whole hg _, frozen_whole hg _⟩
theorem flat_set (L : List StepT) (j : Nat) (x : StepT) (hj : j < L.length) : (((L.flatMap encS).set (j * 2) (.int .i64 x.1)).set (j * 2 + 1) (.bool x.2)) = (L.set j x).flatMap encS := by
  induction L generalizing j with
  | nil => simp at hj
  | cons y r ih =>
    cases j with
    | zero => rfl
    | succ j =>
      have := ih j (by simpa using hj)
      rw [List.set_cons_succ, List.flatMap_cons, List.flatMap_cons, ← this]
      have e1 : (j + 1) * 2 = j * 2 + 2 := by omega
      rw [e1]
      rfl
theorem OwnS.put {w : World} {base g n cap : Nat} {L : List StepT} (h : OwnS w base (.slice (some ⟨g, 0, none⟩) n cap) L) {j : Nat} (hj : j < L.length) (x : Int) (q : Bool) :
    OwnS ((w.setCell ⟨g, j * 2, none⟩ (.int .i64 x)).setCell ⟨g, j * 2 + 1, none⟩ (.bool q)) base (.slice (some ⟨g, 0, none⟩) n cap) (L.set j (x, q)) := by
  have hf := flat_set L j (x, q) hj
  have hl := h.1
  refine ⟨by rw [← hf, List.length_set, List.length_set, List.length_set]; exact hl, ?_⟩
  rcases h.2 with ⟨h0, _⟩ | ⟨g', cap', cur, e1, hb, hg, h1, h2, h3, h4⟩
  · cases h0
  · injection e1 with e2 e3 e4
    injection e2 with e2
    have hg' : g' = g := by injection e2 with q; exact q.symm
    subst hg'
    subst e4
    refine .inr ⟨g', cap, _, by rw [List.length_set, ← e3], hb, set_whole (set_whole hg _ _) _ _, by rw [List.length_set]; exact h1, h2, by simpa using h3, ?_⟩
    rw [Array.toList_setIfInBounds, Array.toList_setIfInBounds, List.length_set, List.take_set, List.take_set, h4, hf]
theorem lst_kept {α : Type} {enc : α → Value} {S : Nat → Prop} {w w' : World} {ao : Option Addr} {A : List α} (h : Lst enc w ao A) (hk : Kept S w w') (hn : ∀ ad, ao = some ad → ¬ S ad.block) : Lst enc w' ao A := by
  intro i hi
  obtain ⟨b, o, e, hb, hc⟩ := h i hi
  subst e
  exact ⟨b, o, rfl, Nat.lt_of_lt_of_le hb hk.size, by rw [cell_of_block (hk.block b hb (hn _ rfl))]; exact hc⟩
theorem GNew.below {B : Nat} {w w' : World} {g : Nat} {G : List (List Nat)} (h : GNew B w g G) (hg : g < w.heap.size) (hb : Below w.heap.size w w') : GNew B w' g G := by
  refine ⟨h.row.below hb, h.hd, fun i hi => ?_⟩
  obtain ⟨ao, cap, h1, h2, h3⟩ := h.inn i hi
  exact ⟨ao, cap, cell_below' hb h1 hg, h2.below hb, h3⟩
theorem GNew.lt {B : Nat} {w : World} {g : Nat} {G : List (List Nat)} (h : GNew B w g G) (h0 : 0 < G.length) : g < w.heap.size := by
  obtain ⟨b, o, ao, cap, e, h1, _⟩ := h.row 0 h0
  cases e
  exact h1
theorem GNew.kept {B x : Nat} {w w' : World} {g : Nat} {G : List (List Nat)} (h : GNew B w g G) (hk : Kept (fun i => i = x) w w') (hx : x < B) : GRow w' (some ⟨g, 0, none⟩) G := by
  intro i hi
  have hg := h.lt (by omega)
  obtain ⟨ao, cap, h1, h2, h3⟩ := h.inn i hi
  have hd := h.hd
  rw [getD_lt hi] at h1 h2
  refine ⟨g, 0, ao, cap, rfl, Nat.lt_of_lt_of_le hg hk.size, ?_, lst_kept h2 hk (fun ad e => by have := h3 ad e; omega)⟩
  rw [Nat.zero_add, cell_of_block (hk.block g hg (by omega))]
  exact h1
section
variable (n : Int) (b : Bool) (ao fo : Option Addr) (cap fc : Nat) (Z : List ArcT) (F : List Int)
end
end Go.Proofs.Ytlkbohpnlbfopaa
namespace Go.Proofs.Ytlkbohpnlbfopaa
open Go.RowKit
set_option linter.unusedVariables false
structure TR (w1 wr : World) (gd gb N : Nat) (d : List Int) (B : List StepT) : Prop where
  below : Below w1.heap.size w1 wr
  lev : OwnL encI wr w1.heap.size 3 (.slice (some ⟨gd, 0, none⟩) N N) d
  byy : OwnS wr w1.heap.size (.slice (some ⟨gb, 0, none⟩) N N) B
  ne : gd ≠ gb
section
variable {w0 w1 wr w2 : World} {gd gb N : Nat} {d : List Int} {B : List StepT}
theorem TR.lt (h : TR w1 wr gd gb N d B) : (w1.heap.size ≤ gd ∧ gd < wr.heap.size) ∧ w1.heap.size ≤ gb ∧ gb < wr.heap.size := ⟨own_lt2 h.lev rfl, h.byy.lt⟩
theorem TR.next (h : TR w1 wr gd gb N d B) (hb : Below wr.heap.size wr w2) : TR w1 w2 gd gb N d B := ⟨h.below.trans (hb.mono h.below.size), h.lev.below hb, h.byy.below hb, h.ne⟩
theorem TR.drewN (h : TR w1 wr gd gb N d B) (n : Nat) : TR w1 (wr.drewN n) gd gb N d B := h.next (below_drewN (Below.refl _ _) n)
theorem TR.kept {S : Nat → Prop} (h : TR w1 wr gd gb N d B) (hk : Kept S wr w2) (hd : ¬ S gd) (hb : ¬ S gb) (hl : ∀ i, S i → w1.heap.size ≤ i) : TR w1 w2 gd gb N d B := by
  refine ⟨h.below.trans (hk.below h.below.size hl), ownL_kept h.lev hk (fun g e => ?_), h.byy.kept hk hb, h.ne⟩
  simp [Value.ownBlock] at e
  subst e
  exact hd
theorem TR.setL (h : TR w1 wr gd gb N d B) (j : Nat) (y : Int) : TR w1 (wr.setCell ⟨gd, j, none⟩ (.int .i64 y)) gd gb N (d.set j y) B :=
  ⟨below_set h.below h.lt.1.1 _, h.lev.put j y, h.byy.kept ((Kept.refl (fun i => i = gd) wr).set (.inl rfl) _) (fun e => h.ne e.symm), h.ne⟩
theorem TR.weak (h : TR w1 wr gd gb N d B) (hb : Below w0.heap.size w0 w1) : TR w0 wr gd gb N d B := ⟨hb.trans (h.below.mono hb.size), h.lev.mono hb.size, own_mono h.byy hb.size, h.ne⟩
end
section
variable (b : Bool) (ao fo : Option Addr) (cap fc : Nat) (Z : List ArcT) (F : List Int) (g1 c1 g2 c2 N : Nat)
end
end Go.Proofs.Ytlkbohpnlbfopaa
