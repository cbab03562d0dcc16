/- A grid of numbers: arrays of fifty numbers, one behind the other, in a block of the call's own. -/
import Derived.Test.YtbkmfjegbmjknaaHSpec
import Derived.Deep.MidRow
namespace Go.Proofs.Ytbkmfjegbmjknaa
open Go.RowKit
set_option linter.unusedVariables false

def gridL (n : Nat) (G : Nat → Nat → Int) : List Value := (List.range (n * 50)).map fun j => .int .i64 (G (j / 50) (j % 50))
def gridA (n : Nat) (G : Nat → Nat → Int) : Array Value := (gridL n G).toArray
theorem gridA_size (n : Nat) (G : Nat → Nat → Int) : (gridA n G).size = n * 50 := by simp [gridA, gridL]
theorem gridL_at (n : Nat) (G : Nat → Nat → Int) (j : Nat) : (gridL n G)[j]? = if j < n * 50 then some (.int .i64 (G (j / 50) (j % 50))) else none := by
  unfold gridL
  rw [List.getElem?_map]
  by_cases h : j < n * 50
  · rw [List.getElem?_range h, if_pos h]; rfl
  · rw [List.getElem?_eq_none (by simp; omega), if_neg h]; rfl
theorem gridA_get (n : Nat) (G : Nat → Nat → Int) (j : Nat) : (gridA n G)[j]? = if j < n * 50 then some (.int .i64 (G (j / 50) (j % 50))) else none := by
  unfold gridA
  rw [List.getElem?_toArray, gridL_at]
theorem gridA_at (n : Nat) (G : Nat → Nat → Int) {a v : Nat} (ha : a < n) (hv : v < 50) : (gridA n G)[a * 50 + v]? = some (.int .i64 (G a v)) := by
  have h1 : a * 50 + v < n * 50 := by omega
  have h2 : (a * 50 + v) / 50 = a := by omega
  have h3 : (a * 50 + v) % 50 = v := by omega
  unfold gridA
  rw [List.getElem?_toArray, gridL_at, if_pos h1, h2, h3]
def updG (G : Nat → Nat → Int) (a v : Nat) (x : Int) : Nat → Nat → Int := fun b u => if b = a ∧ u = v then x else G b u
theorem gridA_set (n : Nat) (G : Nat → Nat → Int) {a v : Nat} (hv : v < 50) (x : Int) : (gridA n G).setIfInBounds (a * 50 + v) (.int .i64 x) = gridA n (updG G a v x) := by
  apply Array.ext_getElem?
  intro j
  rw [Array.getElem?_setIfInBounds]
  unfold gridA
  rw [List.getElem?_toArray, List.getElem?_toArray, gridL_at, gridL_at]
  unfold updG
  by_cases h : a * 50 + v = j
  · subst h
    have h2 : (a * 50 + v) / 50 = a := by omega
    have h3 : (a * 50 + v) % 50 = v := by omega
    rw [if_pos rfl, h2, h3]
    by_cases h4 : a * 50 + v < n * 50
    · rw [if_pos (by simpa [gridL] using h4), if_pos h4, if_pos ⟨rfl, rfl⟩]
    · rw [if_neg (by simpa [gridL] using h4), if_neg h4]
  · rw [if_neg h, if_neg (c := j / 50 = a ∧ j % 50 = v) (by omega)]
theorem gridA_congr {n : Nat} {G G' : Nat → Nat → Int} (h : ∀ a v, a < n → v < 50 → G a v = G' a v) : gridA n G = gridA n G' := by
  unfold gridA gridL
  congr 1
  apply List.map_congr_left
  intro j hj
  have := List.mem_range.1 hj
  rw [h (j / 50) (j % 50) (by omega) (by omega)]
theorem infoCounts : (Try.prog.info? 140).map (fun i => (i.zero, i.size, i.bytes)) = some (some (.agg (Array.replicate 50 (.int .i64 0))), 50, 400) := by kernel_rfl
theorem sizeCounts : (Try.prog.info? 140).map (·.size) = some 50 := by kernel_rfl
/-- Block g holds the grid. -/
def GridW (w : World) (g n : Nat) (G : Nat → Nat → Int) : Prop := w.heap[g]? = some (.cells (gridA n G) 140 (0, 0))
section
variable {w w' : World} {g n : Nat} {G : Nat → Nat → Int}
theorem GridW.lt (h : GridW w g n G) : g < w.heap.size := lt_whole h
theorem GridW.below (h : GridW w g n G) (hb : Below w.heap.size w w') : GridW w' g n G := (hb.block g h.lt).trans h
theorem GridW.kept {S : Nat → Prop} (h : GridW w g n G) (hk : Kept S w w') (hn : ¬ S g) : GridW w' g n G := hk.old h hn
theorem GridW.cell (h : GridW w g n G) {a v : Nat} (ha : a < n) (hv : v < 50) : w.cell? ⟨g, a * 50 + v, none⟩ = some (.int .i64 (G a v)) ∧ w.frozen? ⟨g, a * 50 + v, none⟩ = false :=
  ⟨(cell_whole h _).trans (gridA_at n G ha hv), frozen_whole h _⟩
theorem GridW.put (h : GridW w g n G) (a : Nat) {v : Nat} (hv : v < 50) (x : Int) : GridW (w.setCell ⟨g, a * 50 + v, none⟩ (.int .i64 x)) g n (updG G a v x) := by
  unfold GridW at *
  rw [set_whole h, gridA_set n G hv]
theorem GridW.congr {G' : Nat → Nat → Int} (h : GridW w g n G) (e : ∀ a v, a < n → v < 50 → G a v = G' a v) : GridW w g n G' := by
  unfold GridW at *
  rw [h, gridA_congr e]
/-- One of its arrays. -/
def cellsG (G : Nat → Nat → Int) (a : Nat) : List Value := (List.range 50).map fun v => .int .i64 (G a v)
theorem cellsG_len (G : Nat → Nat → Int) (a : Nat) : (cellsG G a).length = 50 := by simp [cellsG]
theorem cellsG_at (G : Nat → Nat → Int) (a : Nat) {v : Nat} (hv : v < 50) : (cellsG G a)[v]? = some (.int .i64 (G a v)) := by
  unfold cellsG
  rw [List.getElem?_map, List.getElem?_range hv]; rfl
theorem cellsG_get (G : Nat → Nat → Int) (a : Nat) {v : Nat} (hv : v < 50) : (cellsG G a).toArray[v]? = some (.int .i64 (G a v)) := by rw [List.getElem?_toArray]; exact cellsG_at G a hv
theorem GridW.range (h : GridW w g n G) {a : Nat} (ha : a < n) : w.rangeAt g (a * 50) (cellsG G a) := by
  intro j v hv
  have hj : j < 50 := by
    have := (List.getElem?_eq_some_iff.1 hv).1
    rwa [cellsG_len] at this
  rw [cellsG_at G a hj] at hv
  cases hv
  exact (h.cell ha hj).1
end
/-- A grid of zeros is made. -/
theorem made_grid (n : Nat) : madeCells (Value.agg (Array.replicate 50 (.int .i64 0))).cells (n * 50) = gridA n (fun _ _ => 0) := by
  apply Array.ext_getElem?
  intro j
  rw [gridA_get]
  show ((Array.range (n * 50)).map (fun i => (Array.replicate 50 (Value.int .i64 0))[i % (Array.replicate 50 (Value.int .i64 0)).size]!))[j]? = _
  rw [Array.getElem?_map]
  by_cases h : j < n * 50
  · rw [Array.getElem?_range, if_pos h, if_pos h]
    simp only [Option.map_some, Array.size_replicate]
    have h2 : j % 50 < 50 := Nat.mod_lt _ (by decide)
    rw [getElem!_pos _ _ (by rw [Array.size_replicate]; exact h2), Array.getElem_replicate]
  · rw [Array.getElem?_range, if_neg h, if_neg h]; rfl
theorem wpList_make_grid {w : World} {ops : Array Oper} {rest : List Oper} {o : Oper} {a : Act} {Q : Exit → Act → World → Prop} (hgd : o.guard = none) (l c : Operand) (hop : o.op = Op.makeSlice 137 l c)
    (n : Nat) (L : Int) (hl : a.eval l = .int .i64 L) (hc : a.eval c = .int .i64 L) (hL : L = (n : Int)) (hn : n ≤ 200000)
    (hK : ∀ w', GridW w' w.heap.size n (fun _ _ => 0) → Below w.heap.size w w' → wpList Try.prog ops Q rest (a.put o.dst (.slice (some ⟨w.heap.size, 0, none⟩) n n)) w') : wpList Try.prog ops Q (o :: rest) a w := by
  obtain ⟨i0, hi, hz0, hz1, hz2⟩ := info_parts infoCounts
  subst hL
  refine wpList_plain hgd fun K hK' => ?_
  have hrun := run_make (P := Try.prog) w 137 140 i0 _ Try.underlying137 hi hz0 .i64 .i64 (n : Int) (n : Int) (by omega) (by omega) (by rw [hz2]; omega) (by omega)
  rw [hz1, Int.toNat_natCast, made_grid] at hrun
  unfold Oper.wp
  simp [execOp, hop, hl, hc, hrun, Result.andThen]
  exact hK' _ _ (hK _ (heap_alloc_new w _) ((Below.refl _ w).alloc (Nat.le_refl _) _))
/-- An element of an array, by value. -/
theorem run_index_counts (A : Array Value) (k : Nat) (y : Int) (hk : k < 50) (hA : A[k]? = some (.int .i64 y)) (w : World) : (Instr.index 140 (.agg A) (.int .i64 (k : Int))).run Try.prog w = .ok (.int .i64 y) w := by
  have h1 : (0 : Int) ≤ (k : Int) ∧ (k : Int) < ((50 : Nat) : Int) := by omega
  have hl : k < A.size := (Array.getElem?_eq_some_iff.1 hA).1
  have hs : k + 1 ≤ A.size := hl
  simp [Instr.index, run_underlying Try.underlying140, asIntOf, go_sem, part, hA]
  intro h
  omega
end Go.Proofs.Ytbkmfjegbmjknaa
