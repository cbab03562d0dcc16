/- The functions that package table hands to gather and to sums: each tells a key, or an amount, of the element at a place. -/
import Derived.Test.YtieomjkiabfhcaaTCmp
import Derived.Deep.QuietTactic
import Derived.BigQuiet
namespace Go.Proofs.Ytieomjkiabfhcaa
open Go.RowKit Go.Sort
set_option linter.unusedVariables false

theorem Row.arc {w : World} {ao : Option Addr} {Z : List (Int × Int × Int × Int)} (h : Row encA 4 w ao Z) {i : Nat} (hi : i < Z.length) : ∃ b o, ao = some ⟨b, o, none⟩ ∧ b < w.heap.size ∧
    w.cell? ⟨b, o + i * 4, none⟩ = some (.int .i64 Z[i].1) ∧ w.cell? ⟨b, o + i * 4 + 1, none⟩ = some (.int .i64 Z[i].2.1) ∧ w.cell? ⟨b, o + i * 4 + 2, none⟩ = some (.int .i64 Z[i].2.2.1) ∧ w.cell? ⟨b, o + i * 4 + 3, none⟩ = some (.int .i64 Z[i].2.2.2) := by
  obtain ⟨b, o, e, hb, hc⟩ := h i hi
  exact ⟨b, o, e, hb, hc 0 (by omega), hc 1 (by omega), hc 2 (by omega), hc 3 (by omega)⟩
theorem Row.tri {w : World} {ao : Option Addr} {Z : List (Int × Int × Int)} (h : Row encK 3 w ao Z) {i : Nat} (hi : i < Z.length) : ∃ b o, ao = some ⟨b, o, none⟩ ∧ b < w.heap.size ∧
    w.cell? ⟨b, o + i * 3, none⟩ = some (.int .i64 Z[i].1) ∧ w.cell? ⟨b, o + i * 3 + 1, none⟩ = some (.int .i64 Z[i].2.1) ∧ w.cell? ⟨b, o + i * 3 + 2, none⟩ = some (.int .i64 Z[i].2.2) := by
  obtain ⟨b, o, e, hb, hc⟩ := h i hi
  exact ⟨b, o, e, hb, hc 0 (by omega), hc 1 (by omega), hc 2 (by omega)⟩
theorem Row.pair {w : World} {ao : Option Addr} {Z : List (Int × Int)} (h : Row encP 2 w ao Z) {i : Nat} (hi : i < Z.length) : ∃ b o, ao = some ⟨b, o, none⟩ ∧ b < w.heap.size ∧
    w.cell? ⟨b, o + i * 2, none⟩ = some (.int .i64 Z[i].1) ∧ w.cell? ⟨b, o + i * 2 + 1, none⟩ = some (.int .i64 Z[i].2) := by
  obtain ⟨b, o, e, hb, hc⟩ := h i hi
  exact ⟨b, o, e, hb, hc 0 (by omega), hc 1 (by omega)⟩
theorem Row.num {w : World} {ao : Option Addr} {Z : List Int} (h : Row encI 1 w ao Z) {i : Nat} (hi : i < Z.length) : ∃ b o, ao = some ⟨b, o, none⟩ ∧ b < w.heap.size ∧ w.cell? ⟨b, o + i, none⟩ = some (.int .i64 Z[i]) := by
  obtain ⟨b, o, e, hb, hc⟩ := h i hi
  have := hc 0 (by omega)
  rw [Nat.mul_one, Nat.add_zero] at this
  exact ⟨b, o, e, hb, this⟩
theorem row_alloc {α : Type} {enc : α → List Value} {k : Nat} {w : World} {ao : Option Addr} {A : List α} (h : Row enc k w ao A) (o : Obj) : Row enc k (w.alloc o) ao A := h.below' ((Below.refl _ w).alloc (Nat.le_refl _) o)
theorem setArr20 (a b x y : Value) : ((#[a, b].setIfInBounds 0 x).setIfInBounds 1 y)[0]? = some x := rfl
theorem setArr21 (a b x y : Value) : ((#[a, b].setIfInBounds 0 x).setIfInBounds 1 y)[1]? = some y := rfl
theorem setArr30 (a b c x y z : Value) : (((#[a, b, c].setIfInBounds 0 x).setIfInBounds 1 y).setIfInBounds 2 z)[0]? = some x := rfl
theorem setArr31 (a b c x y z : Value) : (((#[a, b, c].setIfInBounds 0 x).setIfInBounds 1 y).setIfInBounds 2 z)[1]? = some y := rfl
theorem setArr32 (a b c x y z : Value) : (((#[a, b, c].setIfInBounds 0 x).setIfInBounds 1 y).setIfInBounds 2 z)[2]? = some z := rfl
theorem cell_alloc {w : World} {a : Addr} {v : Value} (h : w.cell? a = some v) (o : Obj) : (w.alloc o).cell? a = some v := by
  rw [((Below.refl _ w).alloc (Nat.le_refl _) o).cell (block_lt_of_cell h)]; exact h
set_option maxHeartbeats 1000000 in
theorem merge1_any (i p : Nat) (ao : Option Addr) (cap : Nat) (Z : List (Int × Int × Int × Int)) (w : World) (hp : w.cell? ⟨p, 0, none⟩ = some (.slice ao Z.length cap)) (h : Row encA 4 w ao Z) (hi : i < Z.length) (hs : Z.length ≤ 200) :
    Calls Try.prog 37 #[.int .i64 (i : Int), .pointer (some ⟨p, 0, none⟩)] w fun e w' => e = .returned (.agg (encK (kOf Z[i])).toArray) ∧ Below w.heap.size w w' := by
  obtain ⟨b, o, rfl, hb, c0, c1, c2, c3⟩ := h.arc hi
  obtain ⟨⟨x, y, u, v⟩, hx⟩ : ∃ x, Z[i] = x := ⟨_, rfl⟩
  rw [hx] at c0 c1 c2 c3
  rw [hx]
  have hpb := block_lt_of_cell hp
  clear h hx
  go_enter Try.func37, Try.ntmps37
  go_wp2_with (go_at_call 34; refine (keyof_any x y u v _).mono ?_; rintro e w2 ⟨rfl, hb2⟩; have hz := hb2.size; have r0 := hb2.block w.heap.size (by simp); rw [heap_alloc_new] at r0; have f0 := frozen_whole r0 0; have f1 := frozen_whole r0 1; have f2 := frozen_whole r0 2; have g0 := cell_whole r0 0; have g1 := cell_whole r0 1; have g2 := cell_whole r0 2; simp at g0 g1 g2; have HB2 := Lib.hid hb2; have HR0 := Lib.hid r0; clear hb2 r0)
  have q := set_whole (set_whole (set_whole HR0.out 0 (.int .i64 x)) 1 (.int .i64 y)) 2 (.int .i64 v)
  have q0 := cell_whole q 0
  have q1 := cell_whole q 1
  have q2 := cell_whole q 2
  simp only [setArr30, setArr31, setArr32] at q0 q1 q2
  have hbb : Below w.heap.size w w2 := ((Below.refl _ w).alloc (Nat.le_refl _) _).trans (HB2.out.mono (by simp))
  have hb3 := ((hbb.setCell (p := ⟨w.heap.size, 0, none⟩) (Nat.le_refl _) (.int .i64 x)).setCell (p := ⟨w.heap.size, 1, none⟩) (Nat.le_refl _) (.int .i64 y)).setCell (p := ⟨w.heap.size, 2, none⟩) (Nat.le_refl _) (.int .i64 v)
  clear q
  generalize ((w2.setCell ⟨w.heap.size, 0, none⟩ (.int .i64 x)).setCell ⟨w.heap.size, 1, none⟩ (.int .i64 y)).setCell ⟨w.heap.size, 2, none⟩ (.int .i64 v) = w3 at *
  exact bodyPost_ret (v := .agg #[.int .i64 x, .int .i64 y, .int .i64 v]) (by simp [results, Try.results37, go_sem, q0, q1, q2]) rfl ⟨rfl, hb3⟩
set_option maxHeartbeats 1000000 in
theorem groups1_any (i p : Nat) (ao : Option Addr) (cap : Nat) (Z : List (Int × Int × Int × Int)) (w : World) (hp : w.cell? ⟨p, 0, none⟩ = some (.slice ao Z.length cap)) (h : Row encA 4 w ao Z) (hi : i < Z.length) (hs : Z.length ≤ 200) :
    Calls Try.prog 36 #[.int .i64 (i : Int), .pointer (some ⟨p, 0, none⟩)] w fun e w' => e = .returned (.agg (encK (kOf Z[i])).toArray) ∧ Below w.heap.size w w' := by
  obtain ⟨b, o, rfl, hb, c0, c1, c2, c3⟩ := h.arc hi
  obtain ⟨⟨x, y, u, v⟩, hx⟩ : ∃ x, Z[i] = x := ⟨_, rfl⟩
  rw [hx] at c0 c1 c2 c3
  rw [hx]
  have hpb := block_lt_of_cell hp
  clear h hx
  go_enter Try.func36, Try.ntmps36
  go_wp2_with (go_at_call 34; refine (keyof_any x y u v _).mono ?_; rintro e w2 ⟨rfl, hb2⟩; have hz := hb2.size; have r0 := hb2.block w.heap.size (by simp); rw [heap_alloc_new] at r0; have f0 := frozen_whole r0 0; have f1 := frozen_whole r0 1; have f2 := frozen_whole r0 2; have g0 := cell_whole r0 0; have g1 := cell_whole r0 1; have g2 := cell_whole r0 2; simp at g0 g1 g2; have HB2 := Lib.hid hb2; have HR0 := Lib.hid r0; clear hb2 r0)
  have q := set_whole (set_whole (set_whole HR0.out 0 (.int .i64 x)) 1 (.int .i64 y)) 2 (.int .i64 v)
  have q0 := cell_whole q 0
  have q1 := cell_whole q 1
  have q2 := cell_whole q 2
  simp only [setArr30, setArr31, setArr32] at q0 q1 q2
  have hbb : Below w.heap.size w w2 := ((Below.refl _ w).alloc (Nat.le_refl _) _).trans (HB2.out.mono (by simp))
  have hb3 := ((hbb.setCell (p := ⟨w.heap.size, 0, none⟩) (Nat.le_refl _) (.int .i64 x)).setCell (p := ⟨w.heap.size, 1, none⟩) (Nat.le_refl _) (.int .i64 y)).setCell (p := ⟨w.heap.size, 2, none⟩) (Nat.le_refl _) (.int .i64 v)
  clear q
  generalize ((w2.setCell ⟨w.heap.size, 0, none⟩ (.int .i64 x)).setCell ⟨w.heap.size, 1, none⟩ (.int .i64 y)).setCell ⟨w.heap.size, 2, none⟩ (.int .i64 v) = w3 at *
  exact bodyPost_ret (v := .agg #[.int .i64 x, .int .i64 y, .int .i64 v]) (by simp [results, Try.results36, go_sem, q0, q1, q2]) rfl ⟨rfl, hb3⟩
set_option maxRecDepth 100000 in
set_option maxHeartbeats 1000000 in
theorem busy1_any (i p : Nat) (ao : Option Addr) (cap : Nat) (Z : List (Int × Int × Int × Int)) (w : World) (hp : w.cell? ⟨p, 0, none⟩ = some (.slice ao Z.length cap)) (h : Row encA 4 w ao Z) (hi : i < Z.length) (hs : Z.length ≤ 200) :
    Calls Try.prog 44 #[.int .i64 (i : Int), .pointer (some ⟨p, 0, none⟩)] w fun e w' => e = .returned (.agg (encP (Z[i].1, Z[i].2.1)).toArray) ∧ Below w.heap.size w w' := by
  obtain ⟨b, o, rfl, hb, c0, c1, c2, c3⟩ := h.arc hi
  obtain ⟨⟨x, y, u, v⟩, hx⟩ : ∃ x, Z[i] = x := ⟨_, rfl⟩
  rw [hx] at c0 c1 c2 c3
  rw [hx]
  have hpb := block_lt_of_cell hp
  have hli : (i : Int) < (Z.length : Int) := by omega
  have hp' := cell_alloc hp (.cells #[.int .i64 0, .int .i64 0] 37)
  have a' := cell_alloc c0 (.cells #[.int .i64 0, .int .i64 0] 37)
  have b' := cell_alloc c1 (.cells #[.int .i64 0, .int .i64 0] 37)
  have g0 := cell_new w #[.int .i64 0, .int .i64 0] 37 0
  have g1 := cell_new w #[.int .i64 0, .int .i64 0] 37 1
  have hn := heap_alloc_new w (.cells #[.int .i64 0, .int .i64 0] 37)
  have f0 := frozen_whole hn 0
  have f1 := frozen_whole hn 1
  have hb1 := (Below.refl _ w).alloc (Nat.le_refl _) (.cells #[.int .i64 0, .int .i64 0] 37)
  have G0 : Hid ((w.alloc (.cells #[.int .i64 0, .int .i64 0] 37)).cell? ⟨w.heap.size, 0, none⟩ = some (.int .i64 0)) := Lib.hid g0
  have G1 : Hid ((w.alloc (.cells #[.int .i64 0, .int .i64 0] 37)).cell? ⟨w.heap.size, 1, none⟩ = some (.int .i64 0)) := Lib.hid g1
  have HN := Lib.hid hn
  have HB1 := Lib.hid hb1
  clear h hx hp c0 c1 c2 c3 g0 g1 hn hb1
  go_enter Try.func44, Try.ntmps44
  go_wp2
  have g0 := G0.out
  have g1 := G1.out
  clear G0 G1
  generalize w.alloc (.cells #[.int .i64 0, .int .i64 0] 37) = w1 at *
  refine wp_region_still_tail 11 (by kernel_rfl) (by kernel_rfl) ?_
  change wpStill _ _ w1.drew _ _ _
  simp only [List.take_succ_cons, List.take_zero, List.drop_succ_cons, List.drop_zero]
  repeat still_step
  refine wpStill_nil ?_
  change wpList _ _ _ _ _ w1.drew
  have HN2 : Hid (w1.drew.heap[w.heap.size]? = some (.cells #[.int .i64 0, .int .i64 0] 37)) := Lib.hid HN.out
  have HB2 : Hid (Below w.heap.size w w1.drew) := Lib.hid ⟨HB1.out.os, HB1.out.tape, HB1.out.output, HB1.out.size, HB1.out.block⟩
  have g0' : w1.drew.cell? ⟨w.heap.size, 0, none⟩ = some (.int .i64 0) := g0
  have g1' : w1.drew.cell? ⟨w.heap.size, 1, none⟩ = some (.int .i64 0) := g1
  have f0' : w1.drew.frozen? ⟨w.heap.size, 0, none⟩ = false := f0
  have f1' : w1.drew.frozen? ⟨w.heap.size, 1, none⟩ = false := f1
  generalize w1.drew = w2 at *
  clear HN HB1 hp' a' b' g0 g1 f0 f1
  go_wp2
  have q := set_whole (set_whole HN2.out 0 (.int .i64 x)) 1 (.int .i64 y)
  have q0 := cell_whole q 0
  have q1 := cell_whole q 1
  simp only [setArr20, setArr21] at q0 q1
  have hb3 := (HB2.out.setCell (p := ⟨w.heap.size, 0, none⟩) (Nat.le_refl _) (.int .i64 x)).setCell (p := ⟨w.heap.size, 1, none⟩) (Nat.le_refl _) (.int .i64 y)
  clear q
  generalize (w2.setCell ⟨w.heap.size, 0, none⟩ (.int .i64 x)).setCell ⟨w.heap.size, 1, none⟩ (.int .i64 y) = w3 at *
  exact bodyPost_ret (v := .agg #[.int .i64 x, .int .i64 y]) (by simp [results, Try.results44, go_sem, q0, q1]) rfl ⟨rfl, hb3⟩
set_option maxRecDepth 100000 in
set_option maxHeartbeats 1000000 in
theorem moves1_any (i p : Nat) (ao : Option Addr) (cap : Nat) (Z : List (Int × Int × Int)) (w : World) (hp : w.cell? ⟨p, 0, none⟩ = some (.slice ao Z.length cap)) (h : Row encK 3 w ao Z) (hi : i < Z.length) (hs : Z.length ≤ 200) :
    Calls Try.prog 50 #[.int .i64 (i : Int), .pointer (some ⟨p, 0, none⟩)] w fun e w' => e = .returned (.agg (encP (Z[i].2.1, Z[i].1)).toArray) ∧ Below w.heap.size w w' := by
  obtain ⟨b, o, rfl, hb, c0, c1, c2⟩ := h.tri hi
  obtain ⟨⟨x, y, u⟩, hx⟩ : ∃ x, Z[i] = x := ⟨_, rfl⟩
  rw [hx] at c0 c1 c2
  rw [hx]
  have hpb := block_lt_of_cell hp
  have hli : (i : Int) < (Z.length : Int) := by omega
  have hp' := cell_alloc hp (.cells #[.int .i64 0, .int .i64 0] 37)
  have a' := cell_alloc c1 (.cells #[.int .i64 0, .int .i64 0] 37)
  have b' := cell_alloc c0 (.cells #[.int .i64 0, .int .i64 0] 37)
  have g0 := cell_new w #[.int .i64 0, .int .i64 0] 37 0
  have g1 := cell_new w #[.int .i64 0, .int .i64 0] 37 1
  have hn := heap_alloc_new w (.cells #[.int .i64 0, .int .i64 0] 37)
  have f0 := frozen_whole hn 0
  have f1 := frozen_whole hn 1
  have hb1 := (Below.refl _ w).alloc (Nat.le_refl _) (.cells #[.int .i64 0, .int .i64 0] 37)
  have G0 : Hid ((w.alloc (.cells #[.int .i64 0, .int .i64 0] 37)).cell? ⟨w.heap.size, 0, none⟩ = some (.int .i64 0)) := Lib.hid g0
  have G1 : Hid ((w.alloc (.cells #[.int .i64 0, .int .i64 0] 37)).cell? ⟨w.heap.size, 1, none⟩ = some (.int .i64 0)) := Lib.hid g1
  have HN := Lib.hid hn
  have HB1 := Lib.hid hb1
  clear h hx hp c0 c1 c2 g0 g1 hn hb1
  go_enter Try.func50, Try.ntmps50
  go_wp2
  have g0 := G0.out
  have g1 := G1.out
  clear G0 G1
  generalize w.alloc (.cells #[.int .i64 0, .int .i64 0] 37) = w1 at *
  refine wp_region_still_tail 11 (by kernel_rfl) (by kernel_rfl) ?_
  change wpStill _ _ w1.drew _ _ _
  simp only [List.take_succ_cons, List.take_zero, List.drop_succ_cons, List.drop_zero]
  repeat still_step
  refine wpStill_nil ?_
  change wpList _ _ _ _ _ w1.drew
  have HN2 : Hid (w1.drew.heap[w.heap.size]? = some (.cells #[.int .i64 0, .int .i64 0] 37)) := Lib.hid HN.out
  have HB2 : Hid (Below w.heap.size w w1.drew) := Lib.hid ⟨HB1.out.os, HB1.out.tape, HB1.out.output, HB1.out.size, HB1.out.block⟩
  have g0' : w1.drew.cell? ⟨w.heap.size, 0, none⟩ = some (.int .i64 0) := g0
  have g1' : w1.drew.cell? ⟨w.heap.size, 1, none⟩ = some (.int .i64 0) := g1
  have f0' : w1.drew.frozen? ⟨w.heap.size, 0, none⟩ = false := f0
  have f1' : w1.drew.frozen? ⟨w.heap.size, 1, none⟩ = false := f1
  generalize w1.drew = w2 at *
  clear HN HB1 hp' a' b' g0 g1 f0 f1
  go_wp2
  have q := set_whole (set_whole HN2.out 0 (.int .i64 y)) 1 (.int .i64 x)
  have q0 := cell_whole q 0
  have q1 := cell_whole q 1
  simp only [setArr20, setArr21] at q0 q1
  have hb3 := (HB2.out.setCell (p := ⟨w.heap.size, 0, none⟩) (Nat.le_refl _) (.int .i64 y)).setCell (p := ⟨w.heap.size, 1, none⟩) (Nat.le_refl _) (.int .i64 x)
  clear q
  generalize (w2.setCell ⟨w.heap.size, 0, none⟩ (.int .i64 y)).setCell ⟨w.heap.size, 1, none⟩ (.int .i64 x) = w3 at *
  exact bodyPost_ret (v := .agg #[.int .i64 y, .int .i64 x]) (by simp [results, Try.results50, go_sem, q0, q1]) rfl ⟨rfl, hb3⟩
theorem merge2_any (i p : Nat) (ao : Option Addr) (cap : Nat) (Z : List (Int × Int × Int × Int)) (w : World) (hp : w.cell? ⟨p, 0, none⟩ = some (.slice ao Z.length cap)) (h : Row encA 4 w ao Z) (hi : i < Z.length) (hs : Z.length ≤ 200) :
    Calls Try.prog 39 #[.int .i64 (i : Int), .pointer (some ⟨p, 0, none⟩)] w fun e w' => e = .returned (.int .i64 Z[i].2.2.1) ∧ Below w.heap.size w w' := by
  obtain ⟨b, o, rfl, hb, c0, c1, c2, c3⟩ := h.arc hi
  generalize Z[i] = x at *
  have hli : (i : Int) < (Z.length : Int) := by omega
  clear h
  go_enter Try.func39, Try.ntmps39
  go_wp2
  go_ret
  exact ⟨rfl, Below.refl _ _⟩
theorem moves2_any (i p : Nat) (ao : Option Addr) (cap : Nat) (Z : List (Int × Int × Int)) (w : World) (hp : w.cell? ⟨p, 0, none⟩ = some (.slice ao Z.length cap)) (h : Row encK 3 w ao Z) (hi : i < Z.length) (hs : Z.length ≤ 200) :
    Calls Try.prog 51 #[.int .i64 (i : Int), .pointer (some ⟨p, 0, none⟩)] w fun e w' => e = .returned (.int .i64 Z[i].2.2) ∧ Below w.heap.size w w' := by
  obtain ⟨b, o, rfl, hb, c0, c1, c2⟩ := h.tri hi
  generalize Z[i] = x at *
  have hli : (i : Int) < (Z.length : Int) := by omega
  clear h
  go_enter Try.func51, Try.ntmps51
  go_wp2
  go_ret
  exact ⟨rfl, Below.refl _ _⟩
set_option maxHeartbeats 1000000 in
theorem slots1_any (i p : Nat) (ao : Option Addr) (cap : Nat) (Z : List (Int × Int)) (w : World) (hp : w.cell? ⟨p, 0, none⟩ = some (.slice ao Z.length cap)) (h : Row encP 2 w ao Z) (hi : i < Z.length) (hs : Z.length ≤ 200) :
    Calls Try.prog 47 #[.int .i64 (i : Int), .pointer (some ⟨p, 0, none⟩)] w fun e w' => e = .returned (.agg (encP Z[i]).toArray) ∧ Below w.heap.size w w' := by
  obtain ⟨b, o, rfl, hb, c0, c1⟩ := h.pair hi
  obtain ⟨⟨x, y⟩, hx⟩ : ∃ x, Z[i] = x := ⟨_, rfl⟩
  rw [hx] at c0 c1
  rw [hx]
  have hpb := block_lt_of_cell hp
  have hli : (i : Int) < (Z.length : Int) := by omega
  clear h hx
  go_enter Try.func47, Try.ntmps47
  go_wp2
  have hb3 := (Below.refl _ w).alloc (Nat.le_refl _) (.cells #[.int .i64 x, .int .i64 y] 74)
  exact bodyPost_ret (v := .agg #[.int .i64 x, .int .i64 y]) (by simp [results, Try.results47, go_sem]) rfl ⟨rfl, hb3⟩
end Go.Proofs.Ytieomjkiabfhcaa
