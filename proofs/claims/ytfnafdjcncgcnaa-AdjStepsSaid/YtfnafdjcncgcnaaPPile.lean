/- What the pile's inner functions do, for any pile of at most 65536 pairs: Len, before, swap. -/
import Derived.Test.YtfnafdjcncgcnaaPCmp
import Derived.Sort.LotA
import Derived.LoopTactic
import Derived.Deep.QuietTactic
import Derived.BigQuiet
import Derived.BigRegion
import Derived.Deep.RegionHeld3
import Derived.ChangeAlike
import Derived.IntWalk
namespace Go.Proofs.Ytfnafdjcncgcnaa
open Go.RowKit Go.Sort
set_option linter.unusedVariables false

/-- A row of pairs in a block of its own: nil, or block g from its first cell on. -/
def RowP (w : World) (G : Option Nat) (v : Value) (d : Array (Int × Int)) : Prop :=
  (v = .slice none 0 0 ∧ d = #[] ∧ G = none) ∨
  ∃ g cap cur, G = some g ∧ v = .slice (some ⟨g, 0, none⟩) d.size cap ∧ w.heap[g]? = some (.cells cur 57 (0, 0)) ∧ d.size ≤ cap ∧ cap ≤ maxLen ∧ cur.size = cap * 2 ∧
    ∀ j, j < d.size → cur[j * 2]? = some (.int .i64 d[j]!.1) ∧ cur[j * 2 + 1]? = some (.int .i64 d[j]!.2)
/-- A pile: its struct at block b, its row in block G, room for most pairs, the row's pairs d. -/
def PIs (w : World) (b : Nat) (G : Option Nat) (most : Nat) (d : Array (Int × Int)) : Prop :=
  G ≠ some b ∧ ∃ v, w.heap[b]? = some (.cells #[.int .i64 (most : Int), .func (.func 50) #[] #[], v] 75 (0, 0)) ∧ RowP w G v d
theorem RowP.kept {S : Nat → Prop} {w w' : World} {G : Option Nat} {v : Value} {d : Array (Int × Int)} (h : RowP w G v d) (k : Kept S w w') (hg : ∀ g, G = some g → ¬ S g) : RowP w' G v d := by
  rcases h with h | ⟨g, cap, cur, h1, h2, h3, h4⟩
  · exact .inl h
  · exact .inr ⟨g, cap, cur, h1, h2, k.old h3 (hg g h1), h4⟩
theorem PIs.kept {S : Nat → Prop} {w w' : World} {b : Nat} {G : Option Nat} {most : Nat} {d : Array (Int × Int)} (h : PIs w b G most d) (k : Kept S w w') (hb : ¬ S b) (hg : ∀ g, G = some g → ¬ S g) : PIs w' b G most d := by
  obtain ⟨hn, v, h1, h2⟩ := h
  exact ⟨hn, v, k.old h1 hb, h2.kept k hg⟩
theorem PIs.below {w w' : World} {b : Nat} {G : Option Nat} {most : Nat} {d : Array (Int × Int)} (h : PIs w b G most d) (k : Below w.heap.size w w') : PIs w' b G most d := h.kept (Kept.of_below (S := fun _ => False) k) (fun h => h) (fun _ _ h => h)
theorem RowP.lt {w : World} {G : Option Nat} {v : Value} {d : Array (Int × Int)} (h : RowP w G v d) : ∀ g, G = some g → g < w.heap.size := by
  intro g hg
  rcases h with ⟨_, _, h⟩ | ⟨g', cap, cur, h, _, h3, _⟩
  · rw [h] at hg; cases hg
  · rw [h] at hg; cases hg; exact lt_whole h3
theorem PIs.lt {w : World} {b : Nat} {G : Option Nat} {most : Nat} {d : Array (Int × Int)} (h : PIs w b G most d) : b < w.heap.size ∧ ∀ g, G = some g → g < w.heap.size := by
  obtain ⟨hn, v, h1, h2⟩ := h
  exact ⟨lt_whole h1, h2.lt⟩
theorem RowP.len {w : World} {G : Option Nat} {v : Value} {d : Array (Int × Int)} (h : RowP w G v d) : ∃ ao cap, v = .slice ao d.size cap := by
  rcases h with ⟨rfl, rfl, _⟩ | ⟨g, cap, cur, _, rfl, _⟩
  · exact ⟨none, 0, rfl⟩
  · exact ⟨_, cap, rfl⟩
theorem len_any (b : Nat) (G : Option Nat) (most : Nat) (d : Array (Int × Int)) (w : World) (h : PIs w b G most d) : Calls Try.prog 35 #[.pointer (some ⟨b, 0, none⟩)] w fun e w' => e = .returned (.int .i64 (d.size : Int)) ∧ w' = w := by
  obtain ⟨hn, v, h1, h2⟩ := h
  obtain ⟨ao, cap, rfl⟩ := h2.len
  have c2 := cell_whole h1 2
  simp at c2
  clear h1 h2
  go_enter Try.func35, Try.ntmps35
  go_wp2
  go_ret
  exact ⟨rfl, rfl⟩
theorem cell_grow {w : World} {os : Array Obj} {a : Addr} {v : Value} (h : w.cell? a = some v) : (grow w os).cell? a = some v := by
  rw [(below_grow w os).cell (block_lt_of_cell h)]; exact h
/-- All that a walk asks of a row with a pair in it. -/
theorem PIs.full {w : World} {b : Nat} {G : Option Nat} {most : Nat} {d : Array (Int × Int)} (h : PIs w b G most d) (hd : 0 < d.size) :
    ∃ g cap cur, G = some g ∧ g ≠ b ∧ w.heap[b]? = some (.cells #[.int .i64 (most : Int), .func (.func 50) #[] #[], .slice (some ⟨g, 0, none⟩) d.size cap] 75 (0, 0)) ∧ w.heap[g]? = some (.cells cur 57 (0, 0)) ∧ d.size ≤ cap ∧ cap ≤ maxLen ∧ cur.size = cap * 2 ∧
      ∀ j, j < d.size → cur[j * 2]? = some (.int .i64 d[j]!.1) ∧ cur[j * 2 + 1]? = some (.int .i64 d[j]!.2) := by
  obtain ⟨hn, v, h1, h2⟩ := h
  rcases h2 with ⟨_, rfl, _⟩ | ⟨g, cap, cur, rfl, rfl, h3, h4, h5, h6, h7⟩
  · simp at hd
  · exact ⟨g, cap, cur, rfl, fun e => hn (by rw [e]), h1, h3, h4, h5, h6, h7⟩
set_option maxHeartbeats 1000000 in
theorem before_any (b : Nat) (G : Option Nat) (most : Nat) (d : Array (Int × Int)) (i j : Nat) (w : World) (h : PIs w b G most d) (hi : i < d.size) (hj : j < d.size) (hs : d.size ≤ 65536) :
    Calls Try.prog 54 #[.pointer (some ⟨b, 0, none⟩), .int .i64 ((i : Int) + 1), .int .i64 ((j : Int) + 1)] w fun e w' => e = .returned (.bool (ltP d[i]! d[j]!)) ∧ Below w.heap.size w w' := by
  obtain ⟨g, cap, cur, rfl, hne, hb, hg, hc1, hc2, hc3, hc⟩ := h.full (by omega)
  clear h
  have c1 := cell_whole hb 1
  have c2 := cell_whole hb 2
  simp at c1 c2
  have p0 := cell_whole hg (i * 2)
  have p1 := cell_whole hg (i * 2 + 1)
  have q0 := cell_whole hg (j * 2)
  have q1 := cell_whole hg (j * 2 + 1)
  rw [(hc i hi).1] at p0
  rw [(hc i hi).2] at p1
  rw [(hc j hj).1] at q0
  rw [(hc j hj).2] at q1
  have HE := Lib.hid (cmpP_lt d[i]! d[j]!)
  generalize d[i]! = x at *
  generalize d[j]! = y at *
  clear hb hg hc hc3
  have bi : (i : Int) < (d.size : Int) := by omega
  have bj : (j : Int) < (d.size : Int) := by omega
  have wi : IntKind.i64.wrap (i : Int) = (i : Int) := IntWalk.i64_in _ (by omega)
  have wj : IntKind.i64.wrap (j : Int) = (j : Int) := IntWalk.i64_in _ (by omega)
  go_enter Try.func54, Try.ntmps54
  go_wp2
  go_region_held3 (fun W => W.cell? ⟨b, 1, none⟩ = some (.func (.func 50) #[] #[]) ∧ W.cell? ⟨b, 2, none⟩ = some (.slice (some ⟨g, 0, none⟩) d.size cap) ∧ W.cell? ⟨g, i * 2, none⟩ = some (.int .i64 x.1) ∧ W.cell? ⟨g, i * 2 + 1, none⟩ = some (.int .i64 x.2) ∧ W.cell? ⟨g, j * 2, none⟩ = some (.int .i64 y.1) ∧ W.cell? ⟨g, j * 2 + 1, none⟩ = some (.int .i64 y.2)) (first | go_keep | exact ⟨cell_grow (w := w.drew) c1, cell_grow (w := w.drew) c2, cell_grow (w := w.drew) p0, cell_grow (w := w.drew) p1, cell_grow (w := w.drew) q0, cell_grow (w := w.drew) q1⟩) (first | (go_at_call 50; refine (cmpp_any x y _).mono ?_; rintro e w' ⟨rfl, os, rfl⟩))
  go_wp2
  go_ret
  exact ⟨ret_bool HE.out, ((Below.refl _ w).drew).trans (below_grow w.drew os)⟩
theorem before_at (b : Nat) (G : Option Nat) (most : Nat) (d : Array (Int × Int)) (i j : Nat) (n m : Int) (w : World) (h : PIs w b G most d) (hn : n = (i : Int) + 1) (hm : m = (j : Int) + 1) (hi : i < d.size) (hj : j < d.size) (hs : d.size ≤ 65536) :
    Calls Try.prog 54 #[.pointer (some ⟨b, 0, none⟩), .int .i64 n, .int .i64 m] w fun e w' => e = .returned (.bool (ltP d[i]! d[j]!)) ∧ Below w.heap.size w w' := by
  subst hn
  subst hm
  exact before_any b G most d i j w h hi hj hs
theorem get_set (cur : Array Value) (k t : Nat) (u : Value) (h : k < cur.size) : (cur.setIfInBounds k u)[t]? = if k = t then some u else cur[t]? := by
  rw [Array.getElem?_setIfInBounds]
  by_cases e : k = t
  · rw [if_pos e, if_pos e]; simp [h]
  · rw [if_neg e, if_neg e]
theorem PIs.swapped {w : World} {b g most cap : Nat} {d : Array (Int × Int)} {cur : Array Value} {i j : Nat} {x y : Int × Int} (hne : g ≠ b)
    (hb : w.heap[b]? = some (.cells #[.int .i64 (most : Int), .func (.func 50) #[] #[], .slice (some ⟨g, 0, none⟩) d.size cap] 75 (0, 0))) (hg : w.heap[g]? = some (.cells cur 57 (0, 0))) (hc1 : d.size ≤ cap) (hc2 : cap ≤ maxLen) (hc3 : cur.size = cap * 2)
    (hc : ∀ j, j < d.size → cur[j * 2]? = some (.int .i64 d[j]!.1) ∧ cur[j * 2 + 1]? = some (.int .i64 d[j]!.2)) (hx : d[i]! = x) (hy : d[j]! = y) (hi : i < d.size) (hj : j < d.size) :
    PIs ((((w.setCell ⟨g, i * 2, none⟩ (.int .i64 y.1)).setCell ⟨g, i * 2 + 1, none⟩ (.int .i64 y.2)).setCell ⟨g, j * 2, none⟩ (.int .i64 x.1)).setCell ⟨g, j * 2 + 1, none⟩ (.int .i64 x.2)) b (some g) most (swp d i j) := by
  refine ⟨fun e => hne (Option.some.inj e), _, set_other (set_other (set_other (set_other hb (fun e => hne e.symm) _ _) (fun e => hne e.symm) _ _) (fun e => hne e.symm) _ _) (fun e => hne e.symm) _ _, .inr ⟨g, cap, _, rfl, by rw [swp_size], set_whole (set_whole (set_whole (set_whole hg _ _) _ _) _ _) _ _, by rw [swp_size]; exact hc1, hc2, by simpa using hc3, ?_⟩⟩
  intro t ht
  rw [swp_size] at ht
  obtain ⟨t1, t2⟩ := hc t ht
  rw [swp_get d hi hj]
  constructor
  · rw [get_set _ _ _ _ (by simp; omega), get_set _ _ _ _ (by simp; omega), get_set _ _ _ _ (by simp; omega), get_set _ _ _ _ (by omega), if_neg (by omega)]
    by_cases e1 : t = j
    · subst e1; rw [if_pos rfl, hx]; simp
    · rw [if_neg (by omega), if_neg (by omega)]
      by_cases e2 : t = i
      · subst e2; rw [if_pos rfl, hy]; simp [e1]
      · rw [if_neg (by omega), t1]; simp [e1, e2]
  · rw [get_set _ _ _ _ (by simp; omega), get_set _ _ _ _ (by simp; omega), get_set _ _ _ _ (by simp; omega), get_set _ _ _ _ (by omega)]
    by_cases e1 : t = j
    · subst e1; rw [if_pos rfl, hx]; simp
    · rw [if_neg (by omega), if_neg (by omega)]
      by_cases e2 : t = i
      · subst e2; rw [if_pos rfl, hy]; simp [e1]
      · rw [if_neg (by omega), if_neg (by omega), t2]; simp [e1, e2]
set_option maxHeartbeats 2000000 in
theorem swap_ne (b : Nat) (G : Option Nat) (most : Nat) (d : Array (Int × Int)) (i j : Nat) (w : World) (h : PIs w b G most d) (hi : i < d.size) (hj : j < d.size) (hij : i ≠ j) (hs : d.size ≤ 65536) :
    Calls Try.prog 47 #[.pointer (some ⟨b, 0, none⟩), .int .i64 ((i : Int) + 1), .int .i64 ((j : Int) + 1)] w fun e w' => e = .returned (.tuple #[]) ∧ PIs w' b G most (swp d i j) ∧ Kept (fun k => some k = G) w w' := by
  obtain ⟨g, cap, cur, rfl, hne, hb, hg, hc1, hc2, hc3, hc⟩ := h.full (by omega)
  clear h
  have c2 := cell_whole hb 2
  simp at c2
  have p0 := cell_whole hg (i * 2)
  have p1 := cell_whole hg (i * 2 + 1)
  have q0 := cell_whole hg (j * 2)
  have q1 := cell_whole hg (j * 2 + 1)
  rw [(hc i hi).1] at p0
  rw [(hc i hi).2] at p1
  rw [(hc j hj).1] at q0
  rw [(hc j hj).2] at q1
  have fp0 := frozen_whole hg (i * 2)
  have fp1 := frozen_whole hg (i * 2 + 1)
  have fq0 := frozen_whole hg (j * 2)
  have fq1 := frozen_whole hg (j * 2 + 1)
  have HB := Lib.hid hb
  have HG := Lib.hid hg
  have HC := Lib.hid hc
  have HS := Lib.hid hc3
  generalize hx : d[i]! = x at p0 p1
  generalize hy : d[j]! = y at q0 q1
  have HX := Lib.hid hx
  have HY := Lib.hid hy
  clear hb hg hc hc3 hx hy
  have bi : (i : Int) < (d.size : Int) := by omega
  have bj : (j : Int) < (d.size : Int) := by omega
  have wi : IntKind.i64.wrap (i : Int) = (i : Int) := IntWalk.i64_in _ (by omega)
  have wj : IntKind.i64.wrap (j : Int) = (j : Int) := IntWalk.i64_in _ (by omega)
  have n1 : i * 2 ≠ j * 2 := by omega
  have n2 : i * 2 ≠ j * 2 + 1 := by omega
  have n3 : j * 2 ≠ i * 2 + 1 := by omega
  have n4 : j * 2 ≠ i * 2 := by omega
  go_enter Try.func47, Try.ntmps47
  go_region
  go_end0
  exact ⟨rfl, PIs.swapped hne HB.out HG.out hc1 hc2 HS.out HC.out HX.out HY.out hi hj, (((((Kept.refl (fun k => some k = some g) w).set (.inl rfl) _).set (.inl rfl) _).set (.inl rfl) _).set (.inl rfl) _).drew⟩
set_option maxHeartbeats 2000000 in
theorem swap_eq (b : Nat) (G : Option Nat) (most : Nat) (d : Array (Int × Int)) (i : Nat) (w : World) (h : PIs w b G most d) (hi : i < d.size) (hs : d.size ≤ 65536) :
    Calls Try.prog 47 #[.pointer (some ⟨b, 0, none⟩), .int .i64 ((i : Int) + 1), .int .i64 ((i : Int) + 1)] w fun e w' => e = .returned (.tuple #[]) ∧ PIs w' b G most (swp d i i) ∧ Kept (fun k => some k = G) w w' := by
  obtain ⟨g, cap, cur, rfl, hne, hb, hg, hc1, hc2, hc3, hc⟩ := h.full (by omega)
  clear h
  have c2 := cell_whole hb 2
  simp at c2
  have p0 := cell_whole hg (i * 2)
  have p1 := cell_whole hg (i * 2 + 1)
  rw [(hc i hi).1] at p0
  rw [(hc i hi).2] at p1
  have fp0 := frozen_whole hg (i * 2)
  have fp1 := frozen_whole hg (i * 2 + 1)
  have HB := Lib.hid hb
  have HG := Lib.hid hg
  have HC := Lib.hid hc
  have HS := Lib.hid hc3
  generalize hx : d[i]! = x at p0 p1
  have HX := Lib.hid hx
  clear hb hg hc hc3 hx
  have bi : (i : Int) < (d.size : Int) := by omega
  have wi : IntKind.i64.wrap (i : Int) = (i : Int) := IntWalk.i64_in _ (by omega)
  go_enter Try.func47, Try.ntmps47
  go_region
  go_end0
  exact ⟨rfl, PIs.swapped hne HB.out HG.out hc1 hc2 HS.out HC.out HX.out HX.out hi hi, (((((Kept.refl (fun k => some k = some g) w).set (.inl rfl) _).set (.inl rfl) _).set (.inl rfl) _).set (.inl rfl) _).drew⟩
theorem swap_at (b : Nat) (G : Option Nat) (most : Nat) (d : Array (Int × Int)) (i j : Nat) (n m : Int) (w : World) (h : PIs w b G most d) (hn : n = (i : Int) + 1) (hm : m = (j : Int) + 1) (hi : i < d.size) (hj : j < d.size) (hs : d.size ≤ 65536) :
    Calls Try.prog 47 #[.pointer (some ⟨b, 0, none⟩), .int .i64 n, .int .i64 m] w fun e w' => e = .returned (.tuple #[]) ∧ PIs w' b G most (swp d i j) ∧ Kept (fun k => some k = G) w w' := by
  subst hn
  subst hm
  by_cases e : i = j
  · subst e; exact swap_eq b G most d i w h hi hs
  · exact swap_ne b G most d i j w h hi hj e hs
end Go.Proofs.Ytfnafdjcncgcnaa
