/- What Find does, in package table and in the document: the first place of a key, or -1. -/
import Derived.Test.YtieomjkiabfhcaaTEq
import Derived.Test.YtieomjkiabfhcaaTClo
import Derived.Deep.RegionHeld3
namespace Go.Proofs.Ytieomjkiabfhcaa
open Go.RowKit
set_option linter.unusedVariables false

section
variable {α : Type} [DecidableEq α]
/-- The first place of a value, or -1. -/
def fnd (l : List α) (k : α) : Int := match places l k with | [] => -1 | i :: _ => (i : Int)
theorem fnd_none {l : List α} {k : α} (h : k ∉ l) : fnd l k = -1 := by unfold fnd; rw [places_none h]
theorem fnd_at {l : List α} {k : α} {i : Nat} (hi : l[i]? = some k) (hn : k ∉ l.take i) : fnd l k = (i : Int) := by
  have hs := places_sorted l k
  have hm : i ∈ places l k := mem_places.2 hi
  unfold fnd
  cases e : places l k with
  | nil => rw [e] at hm; cases hm
  | cons a r =>
    rw [e] at hm hs
    have ha : a ∈ places l k := by rw [e]; exact List.mem_cons_self
    have hge : i ≤ a := by
      rcases Nat.lt_or_ge a i with h | h
      · exfalso
        apply hn
        have := mem_places.1 ha
        exact List.mem_of_getElem? (i := a) (by rw [List.getElem?_take_of_lt h]; exact this)
      · exact h
    rcases List.mem_cons.1 hm with rfl | hr
    · rfl
    · have := (List.pairwise_cons.1 hs).1 i hr
      omega
end
theorem cell_below {W w' : World} {a : Addr} {v : Value} (hb : Below W.heap.size W w') (c : W.cell? a = some v) : w'.cell? a = some v := by rw [hb.cell (block_lt_of_cell c)]; exact c
theorem beq3 {a b c x y z : Int} (h : (a, b, c) = (x, y, z)) : (a == x && b == y && c == z) = true := by cases h; simp
theorem beq3n {a b c x y z : Int} (h : (a, b, c) ≠ (x, y, z)) : (a == x && b == y && c == z) = false := by
  rw [Bool.eq_false_iff]; intro e; simp at e; apply h; rw [e.1.1, e.1.2, e.2]
theorem below_drew {n : Nat} {a b : World} (h : Below n a b) : Below n a b.drew := ⟨h.os, h.tape, h.output, h.size, h.block⟩
theorem take_no {α : Type} {l : List α} {i : Nat} {x k : α} (hi : l[i]? = some x) (hn : k ∉ l.take i) (hx : x ≠ k) : k ∉ l.take (i + 1) := by
  obtain ⟨hl, e⟩ := List.getElem?_eq_some_iff.1 hi
  rw [List.take_succ_eq_append_getElem hl, e]
  intro h
  rcases List.mem_append.1 h with h | h
  · exact hn h
  · simp at h; exact hx h.symm
set_option maxRecDepth 100000 in
set_option maxHeartbeats 1000000 in
theorem find_some (ad : Addr) (cap : Nat) (Z : List (Int × Int × Int × Int)) (k : Int × Int × Int) (w : World) (h : Row encA 4 w (some ad) Z) (hs : Z.length ≤ 200) :
    Calls Try.prog 14 #[.slice (some ad) Z.length cap, .agg #[.int .i64 k.1, .int .i64 k.2.1, .int .i64 k.2.2]] w fun e w' => e = .returned (.int .i64 (fnd (Z.map kOf) k)) ∧ Below w.heap.size w w' := by
  have HR := Lib.hid h
  clear h
  obtain ⟨kx, ky, kz⟩ := k
  simp only
  go_enter Try.func14, Try.ntmps14
  go_wp2
  have HB0 := Lib.hid ((Below.refl _ w).alloc (Nat.le_refl _) (.cells #[.int .i64 kx, .int .i64 ky, .int .i64 kz] 24))
  have HK0 := Lib.hid (heap_alloc_new w (.cells #[.int .i64 kx, .int .i64 ky, .int .i64 kz] 24))
  generalize w.alloc (.cells #[.int .i64 kx, .int .i64 ky, .int .i64 kz] 24) = w1 at HB0 HK0 ⊢
  go_loopw [9] (fun si wr => ∃ (i : Nat), i ≤ Z.length ∧ Hid (Below w.heap.size w wr) ∧ Hid (wr.heap[w.heap.size]? = some (.cells #[.int .i64 kx, .int .i64 ky, .int .i64 kz] 24)) ∧ Hid ((kx, ky, kz) ∉ (Z.map kOf).take i) ∧ si = .int .i64 (i : Int)) (fun si _ => Z.length - (intOf si).toNat)
  case atStart => exact ⟨0, by omega, HB0, HK0, Lib.hid (by simp), rfl⟩
  case round =>
    clear HB0 HK0
    obtain ⟨i, hi, HB, HK, HN, rfl⟩ := hrel
    by_cases hlt : i < Z.length
    · have hli : (i : Int) < (Z.length : Int) := by omega
      obtain ⟨ab, ax, e, hab, c0, c1, c2, c3⟩ := (HR.out.below' HB.out).arc hlt
      cases e
      have hki : (Z.map kOf)[i]? = some (kOf Z[i]) := by rw [List.getElem?_map, List.getElem?_eq_getElem hlt]; rfl
      generalize Z[i] = z at *
      obtain ⟨x, y, u, v⟩ := z
      simp only [kOf] at c0 c1 c2 c3 hki
      have HKI := Lib.hid hki
      clear hki
      have hab2 : ab ≠ wr.heap.size := by omega
      go_wp2_with fail
      have n0 : (wr.alloc (.cells #[.int .i64 x, .int .i64 y, .int .i64 u, .int .i64 v] 52)).cell? ⟨wr.heap.size, 0, none⟩ = some (.int .i64 x) := cell_new _ _ _ 0
      have n1 : (wr.alloc (.cells #[.int .i64 x, .int .i64 y, .int .i64 u, .int .i64 v] 52)).cell? ⟨wr.heap.size, 1, none⟩ = some (.int .i64 y) := cell_new _ _ _ 1
      have n2 : (wr.alloc (.cells #[.int .i64 x, .int .i64 y, .int .i64 u, .int .i64 v] 52)).cell? ⟨wr.heap.size, 2, none⟩ = some (.int .i64 u) := cell_new _ _ _ 2
      have n3 : (wr.alloc (.cells #[.int .i64 x, .int .i64 y, .int .i64 u, .int .i64 v] 52)).cell? ⟨wr.heap.size, 3, none⟩ = some (.int .i64 v) := cell_new _ _ _ 3
      have HK2 := Lib.hid (alloc_whole HK.out (.cells #[.int .i64 x, .int .i64 y, .int .i64 u, .int .i64 v] 52))
      have HB2 := Lib.hid (HB.out.alloc HB.out.size (.cells #[.int .i64 x, .int .i64 y, .int .i64 u, .int .i64 v] 52))
      clear c0 c1 c2 c3 HK HB
      generalize wr.alloc (.cells #[.int .i64 x, .int .i64 y, .int .i64 u, .int .i64 v] 52) = w2 at *
      have m0 : w2.cell? ⟨w.heap.size, 0, none⟩ = some (.int .i64 kx) := cell_whole HK2.out 0
      have m1 : w2.cell? ⟨w.heap.size, 1, none⟩ = some (.int .i64 ky) := cell_whole HK2.out 1
      have m2 : w2.cell? ⟨w.heap.size, 2, none⟩ = some (.int .i64 kz) := cell_whole HK2.out 2
      have eq := fun W => eq_key x y v kx ky kz W
      have e1 : (x, y, v) = (kx, ky, kz) ∨ (x, y, v) ≠ (kx, ky, kz) := Decidable.em _
      rcases e1 with e1 | e1
      · have e2 := beq3 e1
        have HE := Lib.hid e1
        clear e1
        go_region_held3 (fun W => W.cell? ⟨wr.heap.size, 0, none⟩ = some (.int .i64 x) ∧ W.cell? ⟨wr.heap.size, 1, none⟩ = some (.int .i64 y) ∧ W.cell? ⟨wr.heap.size, 2, none⟩ = some (.int .i64 u) ∧ W.cell? ⟨wr.heap.size, 3, none⟩ = some (.int .i64 v) ∧ W.cell? ⟨w.heap.size, 0, none⟩ = some (.int .i64 kx) ∧ W.cell? ⟨w.heap.size, 1, none⟩ = some (.int .i64 ky) ∧ W.cell? ⟨w.heap.size, 2, none⟩ = some (.int .i64 kz)) (first | go_keep | exact ⟨z0, z1, z2, z3, z4, z5, z6⟩)
          (first | (go_at_call 34; refine (keyof_any x y u v _).mono ?_; rintro e w4 ⟨rfl, hb4⟩; have z0 := cell_below hb4 n0; have z1 := cell_below hb4 n1; have z2 := cell_below hb4 n2; have z3 := cell_below hb4 n3; have z4 := cell_below hb4 m0; have z5 := cell_below hb4 m1; have z6 := cell_below hb4 m2; have HKB4 := Lib.hid ((hb4.block w.heap.size (lt_whole HK2.out)).trans HK2.out); have HB4 := Lib.hid ((below_drew HB2.out).trans (hb4.mono HB2.out.size)); clear hb4))
        go_wp2
        go_ret
        exact ⟨ret_int (fnd_at (by rw [HKI.out, HE.out]) HN.out).symm, HB4.out⟩
      · have e2 := beq3n e1
        have HE := Lib.hid e1
        clear e1
        go_region_held3 (fun W => W.cell? ⟨wr.heap.size, 0, none⟩ = some (.int .i64 x) ∧ W.cell? ⟨wr.heap.size, 1, none⟩ = some (.int .i64 y) ∧ W.cell? ⟨wr.heap.size, 2, none⟩ = some (.int .i64 u) ∧ W.cell? ⟨wr.heap.size, 3, none⟩ = some (.int .i64 v) ∧ W.cell? ⟨w.heap.size, 0, none⟩ = some (.int .i64 kx) ∧ W.cell? ⟨w.heap.size, 1, none⟩ = some (.int .i64 ky) ∧ W.cell? ⟨w.heap.size, 2, none⟩ = some (.int .i64 kz)) (first | go_keep | exact ⟨z0, z1, z2, z3, z4, z5, z6⟩)
          (first | (go_at_call 34; refine (keyof_any x y u v _).mono ?_; rintro e w4 ⟨rfl, hb4⟩; have z0 := cell_below hb4 n0; have z1 := cell_below hb4 n1; have z2 := cell_below hb4 n2; have z3 := cell_below hb4 n3; have z4 := cell_below hb4 m0; have z5 := cell_below hb4 m1; have z6 := cell_below hb4 m2; have HKB4 := Lib.hid ((hb4.block w.heap.size (lt_whole HK2.out)).trans HK2.out); have HB4 := Lib.hid ((below_drew HB2.out).trans (hb4.mono HB2.out.size)); clear hb4))
        go_wp2
        go_roundw
        case rel => exact ⟨i + 1, by omega, HB4, HKB4, Lib.hid (take_no HKI.out HN.out HE.out), by go_num⟩
        case measure => simp [intOf]; omega
    · have HE : Hid (fnd (Z.map kOf) (kx, ky, kz) = -1) := Lib.hid (fnd_none (by have := HN.out; rwa [List.take_of_length_le (by simp; omega)] at this))
      go_wp2
      go_ret
      exact ⟨ret_int HE.out.symm, HB.out⟩
theorem find_nil (ao : Option Addr) (cap : Nat) (k : Int × Int × Int) (w : World) : Calls Try.prog 14 #[.slice ao 0 cap, .agg #[.int .i64 k.1, .int .i64 k.2.1, .int .i64 k.2.2]] w fun e w' => e = .returned (.int .i64 (-1)) ∧ Below w.heap.size w w' := by
  go_enter Try.func14, Try.ntmps14
  go_wp2
  refine wp_loop_rounds 1 ?_
  rw [rounds_succ]
  go_wp2
  go_ret
  exact ⟨rfl, (Below.refl _ w).alloc (Nat.le_refl _) _⟩
theorem find_any (ao : Option Addr) (cap : Nat) (Z : List (Int × Int × Int × Int)) (k : Int × Int × Int) (w : World) (h : Row encA 4 w ao Z) (hs : Z.length ≤ 200) :
    Calls Try.prog 14 #[.slice ao Z.length cap, .agg #[.int .i64 k.1, .int .i64 k.2.1, .int .i64 k.2.2]] w fun e w' => e = .returned (.int .i64 (fnd (Z.map kOf) k)) ∧ Below w.heap.size w w' := by
  cases Z with
  | nil => exact find_nil ao cap k w
  | cons z Z =>
    obtain ⟨b, o, rfl, _⟩ := h 0 (by simp)
    exact find_some _ cap _ k w h hs
set_option maxRecDepth 100000 in
set_option maxHeartbeats 1000000 in
theorem rfind_some (ad : Addr) (cap : Nat) (Z : List (Int × Int × Int × Int)) (k : Int × Int × Int) (w : World) (h : Row encA 4 w (some ad) Z) (hs : Z.length ≤ 200) :
    Calls Try.prog 15 #[.slice (some ad) Z.length cap, .agg #[.int .i64 k.1, .int .i64 k.2.1, .int .i64 k.2.2]] w fun e w' => e = .returned (.int .i64 (fnd (Z.map kOf) k)) ∧ Below w.heap.size w w' := by
  have HR := Lib.hid h
  clear h
  obtain ⟨kx, ky, kz⟩ := k
  simp only
  go_enter Try.func15, Try.ntmps15
  go_wp2
  have HB0 := Lib.hid ((Below.refl _ w).alloc (Nat.le_refl _) (.cells #[.int .i64 kx, .int .i64 ky, .int .i64 kz] 24))
  have HK0 := Lib.hid (heap_alloc_new w (.cells #[.int .i64 kx, .int .i64 ky, .int .i64 kz] 24))
  generalize w.alloc (.cells #[.int .i64 kx, .int .i64 ky, .int .i64 kz] 24) = w1 at HB0 HK0 ⊢
  go_loopw [5] (fun si wr => ∃ (i : Nat), i ≤ Z.length ∧ Hid (Below w.heap.size w wr) ∧ Hid (wr.heap[w.heap.size]? = some (.cells #[.int .i64 kx, .int .i64 ky, .int .i64 kz] 24)) ∧ Hid ((kx, ky, kz) ∉ (Z.map kOf).take i) ∧ si = .int .i64 (i : Int)) (fun si _ => Z.length - (intOf si).toNat)
  case atStart => exact ⟨0, by omega, HB0, HK0, Lib.hid (by simp), rfl⟩
  case round =>
    clear HB0 HK0
    obtain ⟨i, hi, HB, HK2, HN, rfl⟩ := hrel
    by_cases hlt : i < Z.length
    · have hli : (i : Int) < (Z.length : Int) := by omega
      obtain ⟨ab, ax, e, hab, n0, n1, n2, n3⟩ := (HR.out.below' HB.out).arc hlt
      cases e
      have hki : (Z.map kOf)[i]? = some (kOf Z[i]) := by rw [List.getElem?_map, List.getElem?_eq_getElem hlt]; rfl
      generalize Z[i] = z at *
      obtain ⟨x, y, u, v⟩ := z
      simp only [kOf] at n0 n1 n2 n3 hki
      have HKI := Lib.hid hki
      clear hki
      have HB2 := HB
      have m0 : wr.cell? ⟨w.heap.size, 0, none⟩ = some (.int .i64 kx) := cell_whole HK2.out 0
      have m1 : wr.cell? ⟨w.heap.size, 1, none⟩ = some (.int .i64 ky) := cell_whole HK2.out 1
      have m2 : wr.cell? ⟨w.heap.size, 2, none⟩ = some (.int .i64 kz) := cell_whole HK2.out 2
      have eq := fun W => eq_key x y v kx ky kz W
      have e1 : (x, y, v) = (kx, ky, kz) ∨ (x, y, v) ≠ (kx, ky, kz) := Decidable.em _
      rcases e1 with e1 | e1
      · have e2 := beq3 e1
        have HE := Lib.hid e1
        clear e1
        go_wp2_with fail
        go_region_held3 (fun W => W.cell? ⟨ab, ax + i * 4, none⟩ = some (.int .i64 x) ∧ W.cell? ⟨ab, ax + i * 4 + 1, none⟩ = some (.int .i64 y) ∧ W.cell? ⟨ab, ax + i * 4 + 2, none⟩ = some (.int .i64 u) ∧ W.cell? ⟨ab, ax + i * 4 + 3, none⟩ = some (.int .i64 v) ∧ W.cell? ⟨w.heap.size, 0, none⟩ = some (.int .i64 kx) ∧ W.cell? ⟨w.heap.size, 1, none⟩ = some (.int .i64 ky) ∧ W.cell? ⟨w.heap.size, 2, none⟩ = some (.int .i64 kz)) (first | go_keep | exact ⟨z0, z1, z2, z3, z4, z5, z6⟩)
          (first | (go_at_call 32; refine (of_any x y u v _).mono ?_; rintro e w4 ⟨rfl, hb4⟩; have z0 := cell_below hb4 n0; have z1 := cell_below hb4 n1; have z2 := cell_below hb4 n2; have z3 := cell_below hb4 n3; have z4 := cell_below hb4 m0; have z5 := cell_below hb4 m1; have z6 := cell_below hb4 m2; have HKB4 := Lib.hid ((hb4.block w.heap.size (lt_whole HK2.out)).trans HK2.out); have HB4 := Lib.hid ((below_drew HB2.out).trans (hb4.mono HB2.out.size)); clear hb4))
        go_wp2
        go_ret
        exact ⟨ret_int (fnd_at (by rw [HKI.out, HE.out]) HN.out).symm, HB4.out⟩
      · have e2 := beq3n e1
        have HE := Lib.hid e1
        clear e1
        go_wp2_with fail
        go_region_held3 (fun W => W.cell? ⟨ab, ax + i * 4, none⟩ = some (.int .i64 x) ∧ W.cell? ⟨ab, ax + i * 4 + 1, none⟩ = some (.int .i64 y) ∧ W.cell? ⟨ab, ax + i * 4 + 2, none⟩ = some (.int .i64 u) ∧ W.cell? ⟨ab, ax + i * 4 + 3, none⟩ = some (.int .i64 v) ∧ W.cell? ⟨w.heap.size, 0, none⟩ = some (.int .i64 kx) ∧ W.cell? ⟨w.heap.size, 1, none⟩ = some (.int .i64 ky) ∧ W.cell? ⟨w.heap.size, 2, none⟩ = some (.int .i64 kz)) (first | go_keep | exact ⟨z0, z1, z2, z3, z4, z5, z6⟩)
          (first | (go_at_call 32; refine (of_any x y u v _).mono ?_; rintro e w4 ⟨rfl, hb4⟩; have z0 := cell_below hb4 n0; have z1 := cell_below hb4 n1; have z2 := cell_below hb4 n2; have z3 := cell_below hb4 n3; have z4 := cell_below hb4 m0; have z5 := cell_below hb4 m1; have z6 := cell_below hb4 m2; have HKB4 := Lib.hid ((hb4.block w.heap.size (lt_whole HK2.out)).trans HK2.out); have HB4 := Lib.hid ((below_drew HB2.out).trans (hb4.mono HB2.out.size)); clear hb4))
        go_wp2
        go_roundw
        case rel => exact ⟨i + 1, by omega, HB4, HKB4, Lib.hid (take_no HKI.out HN.out HE.out), by go_num⟩
        case measure => simp [intOf]; omega
    · have HE : Hid (fnd (Z.map kOf) (kx, ky, kz) = -1) := Lib.hid (fnd_none (by have := HN.out; rwa [List.take_of_length_le (by simp; omega)] at this))
      go_wp2
      go_ret
      exact ⟨ret_int HE.out.symm, HB.out⟩
theorem rfind_nil (ao : Option Addr) (cap : Nat) (k : Int × Int × Int) (w : World) : Calls Try.prog 15 #[.slice ao 0 cap, .agg #[.int .i64 k.1, .int .i64 k.2.1, .int .i64 k.2.2]] w fun e w' => e = .returned (.int .i64 (-1)) ∧ Below w.heap.size w w' := by
  go_enter Try.func15, Try.ntmps15
  go_wp2
  refine wp_loop_rounds 1 ?_
  rw [rounds_succ]
  go_wp2
  go_ret
  exact ⟨rfl, (Below.refl _ w).alloc (Nat.le_refl _) _⟩
theorem rfind_any (ao : Option Addr) (cap : Nat) (Z : List (Int × Int × Int × Int)) (k : Int × Int × Int) (w : World) (h : Row encA 4 w ao Z) (hs : Z.length ≤ 200) :
    Calls Try.prog 15 #[.slice ao Z.length cap, .agg #[.int .i64 k.1, .int .i64 k.2.1, .int .i64 k.2.2]] w fun e w' => e = .returned (.int .i64 (fnd (Z.map kOf) k)) ∧ Below w.heap.size w w' := by
  cases Z with
  | nil => exact rfind_nil ao cap k w
  | cons z Z =>
    obtain ⟨b, o, rfl, _⟩ := h 0 (by simp)
    exact rfind_some _ cap _ k w h hs
end Go.Proofs.Ytieomjkiabfhcaa
