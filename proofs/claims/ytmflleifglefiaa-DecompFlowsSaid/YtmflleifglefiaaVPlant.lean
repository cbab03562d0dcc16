/- plant of package level: what a search begins with. -/
import Derived.Test.YtmflleifglefiaaVLoad
import Derived.Test.YtmflleifglefiaaBB
import Derived.Deep.DeepCutAuto
import Derived.Deep.RegionHeld3
namespace Go.Proofs.Ytmflleifglefiaa
open Go.RowKit
set_option linter.unusedVariables false

/-- The levels and the steps by which nodes are found, in memory of a call's own. -/
structure TR (w1 wr : World) (gd gb N : Nat) (d : List Int) (B : List StepT) : Prop where
  below : Below w1.heap.size w1 wr
  lev : OwnL encI wr w1.heap.size 3 (.slice (some ⟨gd, 0, none⟩) N N) d
  byy : OwnS wr w1.heap.size (.slice (some ⟨gb, 0, none⟩) N N) B
  ne : gd ≠ gb
section
variable {w0 w1 wr w2 : World} {gd gb N : Nat} {d : List Int} {B : List StepT}
theorem TR.lt (h : TR w1 wr gd gb N d B) : (w1.heap.size ≤ gd ∧ gd < wr.heap.size) ∧ w1.heap.size ≤ gb ∧ gb < wr.heap.size := ⟨own_lt2 h.lev rfl, h.byy.lt⟩
theorem TR.next (h : TR w1 wr gd gb N d B) (hb : Below wr.heap.size wr w2) : TR w1 w2 gd gb N d B := ⟨h.below.trans (hb.mono h.below.size), h.lev.below hb, h.byy.below hb, h.ne⟩
theorem TR.drewN (h : TR w1 wr gd gb N d B) (n : Nat) : TR w1 (wr.drewN n) gd gb N d B := h.next (below_drewN (Below.refl _ _) n)
theorem TR.kept {S : Nat → Prop} (h : TR w1 wr gd gb N d B) (hk : Kept S wr w2) (hd : ¬ S gd) (hb : ¬ S gb) (hl : ∀ i, S i → w1.heap.size ≤ i) : TR w1 w2 gd gb N d B := by
  refine ⟨h.below.trans (hk.below h.below.size hl), ownL_kept h.lev hk (fun g e => ?_), h.byy.kept hk hb, h.ne⟩
  simp [Value.ownBlock] at e
  subst e
  exact hd
theorem TR.setL (h : TR w1 wr gd gb N d B) (j : Nat) (y : Int) : TR w1 (wr.setCell ⟨gd, j, none⟩ (.int .i64 y)) gd gb N (d.set j y) B :=
  ⟨below_set h.below h.lt.1.1 _, h.lev.put j y, h.byy.kept ((Kept.refl (fun i => i = gd) wr).set (.inl rfl) _) (fun e => h.ne e.symm), h.ne⟩
theorem TR.setB (h : TR w1 wr gd gb N d B) {j : Nat} (hj : j < B.length) (x : Int) (q : Bool) : TR w1 ((wr.setCell ⟨gb, j * 2, none⟩ (.int .i64 x)).setCell ⟨gb, j * 2 + 1, none⟩ (.bool q)) gd gb N d (B.set j (x, q)) := by
  have hk : Kept (fun i => i = gb) wr ((wr.setCell ⟨gb, j * 2, none⟩ (.int .i64 x)).setCell ⟨gb, j * 2 + 1, none⟩ (.bool q)) := ((Kept.refl (fun i => i = gb) wr).set (.inl rfl) _).set (.inl rfl) _
  refine ⟨below_set (below_set h.below h.lt.2.1 _) h.lt.2.1 _, ownL_kept h.lev hk (fun g e => ?_), h.byy.put hj x q, h.ne⟩
  simp [Value.ownBlock] at e
  subst e
  exact h.ne
theorem TR.weak (h : TR w1 wr gd gb N d B) (hb : Below w0.heap.size w0 w1) : TR w0 wr gd gb N d B := ⟨hb.trans (h.below.mono hb.size), h.lev.mono hb.size, own_mono h.byy hb.size, h.ne⟩
end
set_option maxHeartbeats 2000000 in
theorem t8Set {w : World} {g : Nat} {a b c d e f p q : Value} {t : TypeId} (h : w.heap[g]? = some (.cells #[a, b, c, d, e, f, p, q] t (0, 0))) (x y z u v r s m : Value) :
    ((((((((w.setCell ⟨g, 0, none⟩ x).setCell ⟨g, 1, none⟩ y).setCell ⟨g, 2, none⟩ z).setCell ⟨g, 3, none⟩ u).setCell ⟨g, 4, none⟩ v).setCell ⟨g, 5, none⟩ r).setCell ⟨g, 6, none⟩ s).setCell ⟨g, 7, none⟩ m).heap[g]? = some (.cells #[x, y, z, u, v, r, s, m] t (0, 0)) ∧
    Kept (fun i => i = g) w ((((((((w.setCell ⟨g, 0, none⟩ x).setCell ⟨g, 1, none⟩ y).setCell ⟨g, 2, none⟩ z).setCell ⟨g, 3, none⟩ u).setCell ⟨g, 4, none⟩ v).setCell ⟨g, 5, none⟩ r).setCell ⟨g, 6, none⟩ s).setCell ⟨g, 7, none⟩ m) :=
  ⟨set_whole (set_whole (set_whole (set_whole (set_whole (set_whole (set_whole (set_whole h 0 x) 1 y) 2 z) 3 u) 4 v) 5 r) 6 s) 7 m,
   ((((((((Kept.refl (fun i => i = g) w).set (.inl rfl) x).set (.inl rfl) y).set (.inl rfl) z).set (.inl rfl) u).set (.inl rfl) v).set (.inl rfl) r).set (.inl rfl) s).set (.inl rfl) m⟩
theorem t8Cells {w : World} {g : Nat} {x y z u v r s m : Value} {t : TypeId} (h : w.heap[g]? = some (.cells #[x, y, z, u, v, r, s, m] t (0, 0))) :
    (w.cell? ⟨g, 0, none⟩ = some x ∧ w.cell? ⟨g, 1, none⟩ = some y ∧ w.cell? ⟨g, 2, none⟩ = some z ∧ w.cell? ⟨g, 3, none⟩ = some u ∧ w.cell? ⟨g, 4, none⟩ = some v ∧ w.cell? ⟨g, 5, none⟩ = some r ∧ w.cell? ⟨g, 6, none⟩ = some s ∧ w.cell? ⟨g, 7, none⟩ = some m) ∧
    w.frozen? ⟨g, 0, none⟩ = false ∧ w.frozen? ⟨g, 1, none⟩ = false ∧ w.frozen? ⟨g, 2, none⟩ = false ∧ w.frozen? ⟨g, 3, none⟩ = false ∧ w.frozen? ⟨g, 4, none⟩ = false ∧ w.frozen? ⟨g, 5, none⟩ = false ∧ w.frozen? ⟨g, 6, none⟩ = false ∧ w.frozen? ⟨g, 7, none⟩ = false :=
  ⟨⟨cell_whole h 0, cell_whole h 1, cell_whole h 2, cell_whole h 3, cell_whole h 4, cell_whole h 5, cell_whole h 6, cell_whole h 7⟩, frozen_whole h 0, frozen_whole h 1, frozen_whole h 2, frozen_whole h 3, frozen_whole h 4, frozen_whole h 5, frozen_whole h 6, frozen_whole h 7⟩
/-- The same, with the variable that holds them. -/
structure TV (w1 wr : World) (gd gb gt N : Nat) (cs : Array Value) (d : List Int) (B : List StepT) : Prop where
  tr : TR w1 wr gd gb N d B
  var : wr.heap[gt]? = some (.cells cs 117 (0, 0))
  ne : gt ≠ gd ∧ gt ≠ gb
theorem TV.setL {w1 wr : World} {gd gb gt N : Nat} {cs : Array Value} {d : List Int} {B : List StepT} (h : TV w1 wr gd gb gt N cs d B) (j : Nat) (y : Int) : TV w1 (wr.setCell ⟨gd, j, none⟩ (.int .i64 y)) gd gb gt N cs (d.set j y) B :=
  ⟨h.tr.setL j y, set_other h.var h.ne.1 _ _, h.ne⟩
theorem TV.setB {w1 wr : World} {gd gb gt N : Nat} {cs : Array Value} {d : List Int} {B : List StepT} (h : TV w1 wr gd gb gt N cs d B) {j : Nat} (hj : j < B.length) (x : Int) (q : Bool) : TV w1 ((wr.setCell ⟨gb, j * 2, none⟩ (.int .i64 x)).setCell ⟨gb, j * 2 + 1, none⟩ (.bool q)) gd gb gt N cs d (B.set j (x, q)) :=
  ⟨h.tr.setB hj x q, set_other (set_other h.var h.ne.2 _ _) h.ne.2 _ _, h.ne⟩
theorem TV.next {w1 wr w2 : World} {gd gb gt N : Nat} {cs : Array Value} {d : List Int} {B : List StepT} (h : TV w1 wr gd gb gt N cs d B) (hb : Below wr.heap.size wr w2) : TV w1 w2 gd gb gt N cs d B := ⟨h.tr.next hb, kept_box h.var hb, h.ne⟩
theorem TV.kept {S : Nat → Prop} {w1 wr w2 : World} {gd gb gt N : Nat} {cs : Array Value} {d : List Int} {B : List StepT} (h : TV w1 wr gd gb gt N cs d B) (hk : Kept S wr w2) (hd : ¬ S gd) (hb : ¬ S gb) (ht : ¬ S gt) (hl : ∀ i, S i → w1.heap.size ≤ i) : TV w1 w2 gd gb gt N cs d B :=
  ⟨h.tr.kept hk hd hb hl, (hk.block gt (lt_whole h.var) ht).trans h.var, h.ne⟩
theorem made_ints (w : World) (B M : Nat) (hB : B ≤ w.heap.size) (hM : M ≤ 200000) : OwnL encI (w.alloc (.cells (madeCells #[.int .i64 0] M) 3)) B 3 (.slice (some ⟨w.heap.size, 0, none⟩) M M) (List.replicate M 0) := by
  refine ⟨by simp, .inr ⟨w.heap.size, M, _, by rw [List.length_replicate], hB, heap_alloc_new _ _, by simp, by unfold maxLen; omega, by simp [madeCells], ?_⟩⟩
  have h := made_one (.int .i64 0) rfl M
  rw [Nat.mul_one] at h
  rw [show (madeCells #[Value.int .i64 0] M) = madeCells (Value.int .i64 0).cells M from rfl, h]
  simp [encI]
theorem ints_at {W : World} {B g N : Nat} (hg : W.heap.size = g) (hB : B ≤ g) (hN : N ≤ 50) : OwnL encI (W.alloc (.cells (madeCells #[.int .i64 0] N) 3)) B 3 (.slice (some ⟨g, 0, none⟩) N N) (List.replicate N 0) := by
  subst hg; exact made_ints W B N hB (by omega)
theorem steps_at {W : World} {B g N : Nat} (hg : W.heap.size = g) (hB : B ≤ g) (hN : N ≤ 50) : OwnS (W.alloc (.cells (madeCells #[.int .i64 0, .bool false] (N * 2)) 90)) B (.slice (some ⟨g, 0, none⟩) N N) (List.replicate N (0, false)) := by
  subst hg; exact made_steps W B N hB (by omega)
theorem var_at {W : World} {g : Nat} {cs : Array Value} (hg : W.heap.size = g) : (W.alloc (.cells cs 117)).heap[g]? = some (.cells cs 117 (0, 0)) := by
  subst hg; exact heap_alloc_new _ _
theorem below_three (w : World) (x y z : Obj) : Below w.heap.size w (((w.alloc x).alloc y).alloc z) := (((Below.refl _ w).alloc (Nat.le_refl _) x).alloc (by simp) y).alloc (by simp; omega) z
theorem plant_LSV (w1 : World) (N : Nat) (cs : Array Value) (hN : N ≤ 50) : TV w1 (((w1.alloc (.cells (madeCells #[.int .i64 0] N) 3)).alloc (.cells (madeCells #[.int .i64 0, .bool false] (N * 2)) 90)).alloc (.cells cs 117)).drew (w1.heap.size) (w1.heap.size + 1) (w1.heap.size + 1 + 1) N cs (List.replicate N 0) (List.replicate N (0, false)) :=
  TV.next ⟨⟨below_three _ _ _ _, (((ints_at (W := w1) (by simp) (by omega) hN).alloc _).alloc _), ((steps_at (W := (w1.alloc (.cells (madeCells #[.int .i64 0] N) 3))) (by simp) (by omega) hN).alloc _), by omega⟩, (var_at (W := ((w1.alloc (.cells (madeCells #[.int .i64 0] N) 3)).alloc (.cells (madeCells #[.int .i64 0, .bool false] (N * 2)) 90))) (by simp)), by omega⟩ (below_drew (Below.refl _ _))
theorem plant_LVS (w1 : World) (N : Nat) (cs : Array Value) (hN : N ≤ 50) : TV w1 (((w1.alloc (.cells (madeCells #[.int .i64 0] N) 3)).alloc (.cells cs 117)).alloc (.cells (madeCells #[.int .i64 0, .bool false] (N * 2)) 90)).drew (w1.heap.size) (w1.heap.size + 1 + 1) (w1.heap.size + 1) N cs (List.replicate N 0) (List.replicate N (0, false)) :=
  TV.next ⟨⟨below_three _ _ _ _, (((ints_at (W := w1) (by simp) (by omega) hN).alloc _).alloc _), (steps_at (W := ((w1.alloc (.cells (madeCells #[.int .i64 0] N) 3)).alloc (.cells cs 117))) (by simp) (by omega) hN), by omega⟩, (alloc_whole (var_at (W := (w1.alloc (.cells (madeCells #[.int .i64 0] N) 3))) (by simp)) _), by omega⟩ (below_drew (Below.refl _ _))
theorem plant_SLV (w1 : World) (N : Nat) (cs : Array Value) (hN : N ≤ 50) : TV w1 (((w1.alloc (.cells (madeCells #[.int .i64 0, .bool false] (N * 2)) 90)).alloc (.cells (madeCells #[.int .i64 0] N) 3)).alloc (.cells cs 117)).drew (w1.heap.size + 1) (w1.heap.size) (w1.heap.size + 1 + 1) N cs (List.replicate N 0) (List.replicate N (0, false)) :=
  TV.next ⟨⟨below_three _ _ _ _, ((ints_at (W := (w1.alloc (.cells (madeCells #[.int .i64 0, .bool false] (N * 2)) 90))) (by simp) (by omega) hN).alloc _), (((steps_at (W := w1) (by simp) (by omega) hN).alloc _).alloc _), by omega⟩, (var_at (W := ((w1.alloc (.cells (madeCells #[.int .i64 0, .bool false] (N * 2)) 90)).alloc (.cells (madeCells #[.int .i64 0] N) 3))) (by simp)), by omega⟩ (below_drew (Below.refl _ _))
theorem plant_SVL (w1 : World) (N : Nat) (cs : Array Value) (hN : N ≤ 50) : TV w1 (((w1.alloc (.cells (madeCells #[.int .i64 0, .bool false] (N * 2)) 90)).alloc (.cells cs 117)).alloc (.cells (madeCells #[.int .i64 0] N) 3)).drew (w1.heap.size + 1 + 1) (w1.heap.size) (w1.heap.size + 1) N cs (List.replicate N 0) (List.replicate N (0, false)) :=
  TV.next ⟨⟨below_three _ _ _ _, (ints_at (W := ((w1.alloc (.cells (madeCells #[.int .i64 0, .bool false] (N * 2)) 90)).alloc (.cells cs 117))) (by simp) (by omega) hN), (((steps_at (W := w1) (by simp) (by omega) hN).alloc _).alloc _), by omega⟩, (alloc_whole (var_at (W := (w1.alloc (.cells (madeCells #[.int .i64 0, .bool false] (N * 2)) 90))) (by simp)) _), by omega⟩ (below_drew (Below.refl _ _))
theorem plant_VLS (w1 : World) (N : Nat) (cs : Array Value) (hN : N ≤ 50) : TV w1 (((w1.alloc (.cells cs 117)).alloc (.cells (madeCells #[.int .i64 0] N) 3)).alloc (.cells (madeCells #[.int .i64 0, .bool false] (N * 2)) 90)).drew (w1.heap.size + 1) (w1.heap.size + 1 + 1) (w1.heap.size) N cs (List.replicate N 0) (List.replicate N (0, false)) :=
  TV.next ⟨⟨below_three _ _ _ _, ((ints_at (W := (w1.alloc (.cells cs 117))) (by simp) (by omega) hN).alloc _), (steps_at (W := ((w1.alloc (.cells cs 117)).alloc (.cells (madeCells #[.int .i64 0] N) 3))) (by simp) (by omega) hN), by omega⟩, (alloc_whole (alloc_whole (var_at (W := w1) (by simp)) _) _), by omega⟩ (below_drew (Below.refl _ _))
theorem plant_VSL (w1 : World) (N : Nat) (cs : Array Value) (hN : N ≤ 50) : TV w1 (((w1.alloc (.cells cs 117)).alloc (.cells (madeCells #[.int .i64 0, .bool false] (N * 2)) 90)).alloc (.cells (madeCells #[.int .i64 0] N) 3)).drew (w1.heap.size + 1 + 1) (w1.heap.size + 1) (w1.heap.size) N cs (List.replicate N 0) (List.replicate N (0, false)) :=
  TV.next ⟨⟨below_three _ _ _ _, (ints_at (W := ((w1.alloc (.cells cs 117)).alloc (.cells (madeCells #[.int .i64 0, .bool false] (N * 2)) 90))) (by simp) (by omega) hN), ((steps_at (W := (w1.alloc (.cells cs 117))) (by simp) (by omega) hN).alloc _), by omega⟩, (alloc_whole (alloc_whole (var_at (W := w1) (by simp)) _) _), by omega⟩ (below_drew (Below.refl _ _))
section
variable (b : Bool) (ao fo : Option Addr) (cap fc : Nat) (Z : List ArcT) (F : List Int) (g1 c1 g2 c2 N : Nat)
set_option maxRecDepth 100000 in
set_option maxHeartbeats 4000000 in
theorem vplant_at (s : Nat) (w : World) (hs : s < N) (hN : N ≤ 50) :
    Calls Try.prog 73 #[.agg #[.int .i64 (N : Int), .bool b, .slice ao Z.length cap, .slice fo F.length fc, .slice (some ⟨g1, 0, none⟩) N c1, .slice (some ⟨g2, 0, none⟩) N c2], .int .i64 (s : Int)] w fun e w' => ∃ gd gb, e = .returned (.agg #[.int .i64 (N : Int), .bool b, .slice ao Z.length cap, .slice fo F.length fc, .slice (some ⟨g1, 0, none⟩) N c1, .slice (some ⟨g2, 0, none⟩) N c2, .slice (some ⟨gd, 0, none⟩) N N, .slice (some ⟨gb, 0, none⟩) N N]) ∧ TR w w' gd gb N (startD N s) (List.replicate N (0, false)) := by
  have hb00 := ((Below.refl _ w).alloc (Nat.le_refl _) (.cells #[.int .i64 (N : Int), .bool b, .slice ao Z.length cap, .slice fo F.length fc, .slice (some ⟨g1, 0, none⟩) N c1, .slice (some ⟨g2, 0, none⟩) N c2] 113)).alloc (by simp) (.cells #[.int .i64 0, .bool false, .slice none 0 0, .slice none 0 0, .slice none 0 0, .slice none 0 0, .slice none 0 0, .slice none 0 0] 117)
  have HB0 := Lib.hid hb00
  have hn1 := alloc_whole (heap_alloc_new w (.cells #[.int .i64 (N : Int), .bool b, .slice ao Z.length cap, .slice fo F.length fc, .slice (some ⟨g1, 0, none⟩) N c1, .slice (some ⟨g2, 0, none⟩) N c2] 113)) (.cells #[.int .i64 0, .bool false, .slice none 0 0, .slice none 0 0, .slice none 0 0, .slice none 0 0, .slice none 0 0, .slice none 0 0] 117)
  have HV := Lib.hid (new_whole1 w (.cells #[.int .i64 (N : Int), .bool b, .slice ao Z.length cap, .slice fo F.length fc, .slice (some ⟨g1, 0, none⟩) N c1, .slice (some ⟨g2, 0, none⟩) N c2] 113) (.cells #[.int .i64 0, .bool false, .slice none 0 0, .slice none 0 0, .slice none 0 0, .slice none 0 0, .slice none 0 0, .slice none 0 0] 117))
  obtain ⟨⟨k0, k1, k2, k3, k4, k5⟩, _⟩ := ld6Cells hn1
  have hmk := fun W => run_make_row' (P := Try.prog) 25 3 (.int .i64 0) 8 Try.underlying25 infoInt rfl .i64 .i64 N (by omega) (by omega) W
  have hmk2 := run_make_steps N (by omega)
  have hxl : w.heap.size < ((w.alloc (.cells #[.int .i64 (N : Int), .bool b, .slice ao Z.length cap, .slice fo F.length fc, .slice (some ⟨g1, 0, none⟩) N c1, .slice (some ⟨g2, 0, none⟩) N c2] 113)).alloc (.cells #[.int .i64 0, .bool false, .slice none 0 0, .slice none 0 0, .slice none 0 0, .slice none 0 0, .slice none 0 0, .slice none 0 0] 117)).heap.size := by simp; omega
  clear hn1 hb00
  go_enter Try.func73, Try.ntmps73
  go_wp2
  generalize (w.alloc (.cells #[.int .i64 (N : Int), .bool b, .slice ao Z.length cap, .slice fo F.length fc, .slice (some ⟨g1, 0, none⟩) N c1, .slice (some ⟨g2, 0, none⟩) N c2] 113)).alloc (.cells #[.int .i64 0, .bool false, .slice none 0 0, .slice none 0 0, .slice none 0 0, .slice none 0 0, .slice none 0 0, .slice none 0 0] 117) = w1 at *
  have hq : ∀ (v : Value) (i : Nat), w1.cell? ⟨w.heap.size, i, none⟩ = some v → (∀ A, (w1.alloc A).cell? ⟨w.heap.size, i, none⟩ = some v) ∧ (∀ A B, ((w1.alloc A).alloc B).cell? ⟨w.heap.size, i, none⟩ = some v) ∧ (∀ A B C, (((w1.alloc A).alloc B).alloc C).cell? ⟨w.heap.size, i, none⟩ = some v) :=
    fun v i h => ⟨fun A => cell_alloc h A, fun A B => cell_alloc (cell_alloc h A) B, fun A B C => cell_alloc (cell_alloc (cell_alloc h A) B) C⟩
  obtain ⟨a0, b0, q0⟩ := hq _ _ k0
  obtain ⟨a1, b1, q1⟩ := hq _ _ k1
  obtain ⟨a2, b2, q2⟩ := hq _ _ k2
  obtain ⟨a3, b3, q3⟩ := hq _ _ k3
  obtain ⟨a4, b4, q4⟩ := hq _ _ k4
  obtain ⟨a5, b5, q5⟩ := hq _ _ k5
  clear hq
  go_cut [5] (fun v5 wc => ∃ gt gd gb, v5 = .pointer (some ⟨gt, 0, none⟩) ∧ Hid (TV w1 wc gd gb gt N #[.int .i64 (N : Int), .bool b, .slice ao Z.length cap, .slice fo F.length fc, .slice (some ⟨g1, 0, none⟩) N c1, .slice (some ⟨g2, 0, none⟩) N c2, .slice (some ⟨gd, 0, none⟩) N N, .slice (some ⟨gb, 0, none⟩) N N] (List.replicate N 0) (List.replicate N (0, false))))
  case first =>
    go_region_held3 (fun W => W.cell? ⟨w.heap.size, 0, none⟩ = some (.int .i64 (N : Int)) ∧ W.cell? ⟨w.heap.size, 1, none⟩ = some (.bool b) ∧ W.cell? ⟨w.heap.size, 2, none⟩ = some (.slice ao Z.length cap) ∧ W.cell? ⟨w.heap.size, 3, none⟩ = some (.slice fo F.length fc) ∧ W.cell? ⟨w.heap.size, 4, none⟩ = some (.slice (some ⟨g1, 0, none⟩) N c1) ∧ W.cell? ⟨w.heap.size, 5, none⟩ = some (.slice (some ⟨g2, 0, none⟩) N c2)) (first | exact ⟨k0, k1, k2, k3, k4, k5⟩ | go_keep) (fail)
    all_goals
      go_wp2
      go_meet
      first
        | exact ⟨_, _, _, rfl, Lib.hid (plant_LSV _ _ _ hN)⟩
        | exact ⟨_, _, _, rfl, Lib.hid (plant_LVS _ _ _ hN)⟩
        | exact ⟨_, _, _, rfl, Lib.hid (plant_SLV _ _ _ hN)⟩
        | exact ⟨_, _, _, rfl, Lib.hid (plant_SVL _ _ _ hN)⟩
        | exact ⟨_, _, _, rfl, Lib.hid (plant_VLS _ _ _ hN)⟩
        | exact ⟨_, _, _, rfl, Lib.hid (plant_VSL _ _ _ hN)⟩
  case rest =>
    obtain ⟨gt, gd, gb, rfl, HT⟩ := hcut
    clear a0 a1 a2 a3 a4 a5 b0 b1 b2 b3 b4 b5 q0 q1 q2 q3 q4 q5 k0 k1 k2 k3 k4 k5 hmk hmk2
    obtain ⟨⟨_, _, _, _, _, _, k6, _⟩, _⟩ := t8Cells HT.out.var
    go_wp2
    go_loopw [22] (fun i wr => ∃ t : Nat, t ≤ N ∧ i = .int .i64 (t : Int) ∧ Hid (TV w1 wr gd gb gt N #[.int .i64 (N : Int), .bool b, .slice ao Z.length cap, .slice fo F.length fc, .slice (some ⟨g1, 0, none⟩) N c1, .slice (some ⟨g2, 0, none⟩) N c2, .slice (some ⟨gd, 0, none⟩) N N, .slice (some ⟨gb, 0, none⟩) N N] (fillD t N) (List.replicate N (0, false)))) (fun i _ => N - (intOf i).toNat)
    case atStart => exact ⟨0, Nat.zero_le _, rfl, Lib.hid (by rw [fillD_zero]; exact HT.out)⟩
    case round =>
      clear HT k6
      obtain ⟨t, ht, rfl, HT⟩ := hrel
      obtain ⟨⟨_, _, _, _, _, _, k6, _⟩, _⟩ := t8Cells HT.out.var
      by_cases hlt : t < N
      · have hli : (t : Int) < (N : Int) := by omega
        obtain ⟨hc3, hf3⟩ := HT.out.tr.lev.cell (fillD_at hlt)
        unfold encI at hc3
        go_wp2
        go_roundw
        case rel => exact ⟨t + 1, by omega, by go_num, Lib.hid (by have := HT.out.setL t (-1); rw [fillD_set hlt] at this; exact this)⟩
        case measure => simp [intOf]; omega
      · have hli : ¬ (t : Int) < (N : Int) := by omega
        obtain rfl : t = N := by omega
        obtain ⟨hc3, hf3⟩ := HT.out.tr.lev.cell (j := s) (x := -1) (by rw [fillD_full, List.getElem?_replicate, if_pos hs])
        unfold encI at hc3
        have hsi : (s : Int) < (t : Int) := by omega
        have hT2 := HT.out.setL s 0
        rw [fillD_full] at hT2
        have HT2 := Lib.hid hT2
        have hv2 := kept_box HV.out hT2.tr.below
        obtain ⟨⟨k0, k1, k2, k3, k4, k5, l6, k7⟩, _⟩ := t8Cells hT2.var
        obtain ⟨⟨m0, m1, m2, m3, m4, m5, m6, m7⟩, f0, f1, f2, f3, f4, f5, f6, f7⟩ := t8Cells hv2
        have HV2 := Lib.hid hv2
        clear hT2 hv2 HT
        go_wp2
        obtain ⟨hs1, hk1⟩ := t8Set HV2.out (.int .i64 (t : Int)) (.bool b) (.slice ao Z.length cap) (.slice fo F.length fc) (.slice (some ⟨g1, 0, none⟩) t c1) (.slice (some ⟨g2, 0, none⟩) t c2) (.slice (some ⟨gd, 0, none⟩) t t) (.slice (some ⟨gb, 0, none⟩) t t)
        have hlt := HT2.out.tr.lt
        have hvl := lt_whole HV.out
        have HTR := Lib.hid ((HT2.out.tr.weak HB0.out).kept hk1 (by show gd ≠ w.heap.size + 1; omega) (by show gb ≠ w.heap.size + 1; omega) (fun i e => by have e2 : i = w.heap.size + 1 := e; omega))
        clear m0 m1 m2 m3 m4 m5 m6 m7 f0 f1 f2 f3 f4 f5 f6 f7 k0 k1 k2 k3 k4 k5 l6 k7 k6 hk1 HT2 HV2
        generalize World.setCell (World.setCell (World.setCell (World.setCell (World.setCell (World.setCell (World.setCell (World.setCell _ _ _) _ _) _ _) _ _) _ _) _ _) _ _) _ _ = W at *
        obtain ⟨⟨k0, k1, k2, k3, k4, k5, k6, k7⟩, _⟩ := t8Cells hs1
        exact bodyPost_ret (v := .agg #[.int .i64 (t : Int), .bool b, .slice ao Z.length cap, .slice fo F.length fc, .slice (some ⟨g1, 0, none⟩) t c1, .slice (some ⟨g2, 0, none⟩) t c2, .slice (some ⟨gd, 0, none⟩) t t, .slice (some ⟨gb, 0, none⟩) t t]) (by simp [results, Try.results73, go_sem, k0, k1, k2, k3, k4, k5, k6, k7]) rfl ⟨gd, gb, rfl, HTR.out⟩
end
end Go.Proofs.Ytmflleifglefiaa
