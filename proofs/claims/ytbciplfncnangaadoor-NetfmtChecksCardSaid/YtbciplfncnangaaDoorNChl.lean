/- Check of the program and of the document, of any network. -/
import Derived.Test.YtbciplfncnangaaDoorNChk
namespace Go.Proofs.YtbciplfncnangaaDoor
open Go.RowKit Go.Shelf
set_option linter.unusedVariables false

theorem cnodes_is (n e0 : Int) (w : World) (h : nodesE n = e0) : Calls Tryd.prog 26 #[.int .i64 n] w fun e w' => e = .returned (.int .i64 e0) ∧ w = w' := by subst h; exact cnodes_any n w
theorem rnodes_is (n e0 : Int) (w : World) (h : nodesE n = e0) : Calls Tryd.prog 28 #[.int .i64 n] w fun e w' => e = .returned (.int .i64 e0) ∧ w = w' := by subst h; exact rnodes_any n w
theorem carc_is (a b c d n e0 : Int) (w : World) (h : arcE n (a, b, c, d) = e0) : Calls Tryd.prog 27 #[.agg #[.int .i64 a, .int .i64 b, .int .i64 c, .int .i64 d], .int .i64 n] w fun e w' => e = .returned (.int .i64 e0) ∧ Below w.heap.size w w' := by subst h; exact carc_any a b c d n w
theorem rarc_is (a b c d n e0 : Int) (w : World) (h : arcE n (a, b, c, d) = e0) : Calls Tryd.prog 29 #[.int .i64 n, .agg #[.int .i64 a, .int .i64 b, .int .i64 c, .int .i64 d]] w fun e w' => e = .returned (.int .i64 e0) ∧ Below w.heap.size w w' := by subst h; exact rarc_any a b c d n w
theorem arcsE_drop {n : Int} {Z : List ArcT} {k : Nat} (hk : k < Z.length) : arcsE n (Z.drop k) = if arcE n Z[k] = 0 then arcsE n (Z.drop (k + 1)) else arcE n Z[k] := by
  rw [List.drop_eq_getElem_cons hk]; rfl
theorem checkE_nodes {n : Int} {Z : List ArcT} (h : nodesE n ≠ 0) : checkE n Z = nodesE n := by unfold checkE; rw [if_neg h]
theorem checkE_many {n : Int} {Z : List ArcT} (h : nodesE n = 0) (h2 : 200 < Z.length) : checkE n Z = 2 := by unfold checkE; rw [if_pos h, if_pos h2]
theorem checkE_arcs {n : Int} {Z : List ArcT} (h : nodesE n = 0) (h2 : ¬ 200 < Z.length) : checkE n Z = arcsE n Z := by unfold checkE; rw [if_pos h, if_neg h2]
set_option maxRecDepth 100000 in
set_option maxHeartbeats 2000000 in
theorem check_loop (n : Int) (b : Bool) (ao : Option Addr) (cap : Nat) (Z : List ArcT) (w : World) (h : Row encA 4 w ao Z) (hn : nodesE n = 0) (hl : ¬ 200 < Z.length) :
    Calls Tryd.prog 13 #[.agg #[.int .i64 n, .bool b, .slice ao Z.length cap]] w fun e w' => e = .returned (.int .i64 (arcsE n Z)) ∧ Below w.heap.size w w' := by
  have HR := Lib.hid (row_alloc h (.cells #[.int .i64 n, .bool b, .slice ao Z.length cap] 24))
  have HN := Lib.hid hn
  have hl' : ¬ (200 : Int) < (Z.length : Int) := by omega
  clear h hn
  go_enter Tryd.func13, Tryd.ntmps13
  have c0 := cell_new w #[.int .i64 n, .bool b, .slice ao Z.length cap] 24 0
  have HB0 : Hid (Below w.heap.size w (w.alloc (.cells #[.int .i64 n, .bool b, .slice ao Z.length cap] 24))) := Lib.hid ((Below.refl _ w).alloc (Nat.le_refl _) _)
  go_wp2_with (go_at_call 26; refine (cnodes_is n 0 _ HN.out).mono ?_; rintro e w' ⟨rfl, rfl⟩)
  generalize w.alloc (.cells #[.int .i64 n, .bool b, .slice ao Z.length cap] 24) = w1 at *
  have hgs := block_lt_of_cell c0
  simp only at hgs
  go_loopw [20] (fun i wr => ∃ k : Nat, k ≤ Z.length ∧ i = .int .i64 (k : Int) ∧ Hid (Below w1.heap.size w1 wr) ∧ Hid (arcsE n (Z.drop k) = arcsE n Z)) (fun i _ => Z.length - (intOf i).toNat)
  case atStart => exact ⟨0, Nat.zero_le _, rfl, Lib.hid (Below.refl _ _), Lib.hid rfl⟩
  case round =>
    obtain ⟨k, hk, rfl, HB, HA⟩ := hrel
    have d0 := cell_below HB.out c0
    by_cases hlt : k < Z.length
    · have hli : (k : Int) < (Z.length : Int) := by omega
      obtain ⟨ab, ax, e, hab, c0', c1', c2', c3'⟩ := (HR.out.below' HB.out).arc hlt
      cases e
      have HD := Lib.hid (arcsE_drop (n := n) hlt)
      generalize Z[k] = z at *
      obtain ⟨x, y, u, v⟩ := z
      simp only at c0' c1' c2' c3'
      have d0a := cell_alloc d0 (.cells #[.int .i64 x, .int .i64 y, .int .i64 u, .int .i64 v] 37)
      by_cases he : arcE n (x, y, u, v) = 0
      · have HE := Lib.hid he
        clear he
        go_wp2_with (go_at_call 27; refine (carc_is x y u v n 0 _ HE.out).mono ?_; rintro e w2 ⟨rfl, b2⟩; have hb2 := Lib.hid ((HB.out.alloc HB.out.size (.cells #[.int .i64 x, .int .i64 y, .int .i64 u, .int .i64 v] 37)).trans (b2.mono (by have := HB.out.size; simp; omega))); clear b2)
        go_roundw
        case rel => exact ⟨k + 1, by omega, by go_num, hb2, Lib.hid (by rw [← HA.out, HD.out, if_pos HE.out])⟩
        case measure => simp [intOf]; omega
      · obtain ⟨e0, he0⟩ : ∃ e0, arcE n (x, y, u, v) = e0 := ⟨_, rfl⟩
        rw [he0] at he
        have HE := Lib.hid he0
        have HNE := Lib.hid he
        have hf2 : (e0 != 0) = true := by simpa using he
        have hf1 : (e0 == 0) = false := by simpa using he
        clear he he0
        go_wp2_with (go_at_call 27; refine (carc_is x y u v n e0 _ HE.out).mono ?_; rintro e w2 ⟨rfl, b2⟩; have hb2 := Lib.hid ((HB.out.alloc HB.out.size (.cells #[.int .i64 x, .int .i64 y, .int .i64 u, .int .i64 v] 37)).trans (b2.mono (by have := HB.out.size; simp; omega))); clear b2)
        go_ret
        refine ⟨ret_int ?_, HB0.out.trans (hb2.out.mono (by omega))⟩
        rw [← HA.out, HD.out, HE.out, if_neg HNE.out]
    · have hli : ¬ (k : Int) < (Z.length : Int) := by omega
      have HE : Hid (arcsE n Z = 0) := Lib.hid (by rw [← HA.out, List.drop_eq_nil_of_le (by omega)]; rfl)
      go_wp2
      go_ret
      exact ⟨ret_int HE.out.symm, HB0.out.trans (HB.out.mono (by omega))⟩
set_option maxHeartbeats 1000000 in
/-- Check of any network. -/
theorem ncheck_any (n : Int) (b : Bool) (ao : Option Addr) (cap : Nat) (Z : List ArcT) (w : World) (h : Row encA 4 w ao Z) (hm : Z.length ≤ maxLen) :
    Calls Tryd.prog 13 #[.agg #[.int .i64 n, .bool b, .slice ao Z.length cap]] w fun e w' => e = .returned (.int .i64 (checkE n Z)) ∧ Below w.heap.size w w' := by
  unfold maxLen at hm
  by_cases hn : nodesE n = 0
  · by_cases hl : 200 < Z.length
    · rw [checkE_many hn hl]
      have hl' : (200 : Int) < (Z.length : Int) := by omega
      have HN := Lib.hid hn
      clear hn h
      go_enter Tryd.func13, Tryd.ntmps13
      go_wp2_with (go_at_call 26; refine (cnodes_is n 0 _ HN.out).mono ?_; rintro e w' ⟨rfl, rfl⟩)
      go_ret
      exact ⟨rfl, (Below.refl _ w).alloc (Nat.le_refl _) _⟩
    · rw [checkE_arcs hn hl]
      exact check_loop n b ao cap Z w h hn hl
  · rw [checkE_nodes hn]
    obtain ⟨e0, he0⟩ : ∃ e0, nodesE n = e0 := ⟨_, rfl⟩
    rw [he0] at hn ⊢
    have HE := Lib.hid he0
    have hf2 : (e0 != 0) = true := by simpa using hn
    have hf1 : (e0 == 0) = false := by simpa using hn
    clear hn he0 h
    go_enter Tryd.func13, Tryd.ntmps13
    go_wp2_with (go_at_call 26; refine (cnodes_is n e0 _ HE.out).mono ?_; rintro e w' ⟨rfl, rfl⟩)
    go_ret
    exact ⟨rfl, (Below.refl _ w).alloc (Nat.le_refl _) _⟩
set_option maxRecDepth 100000 in
set_option maxHeartbeats 2000000 in
theorem rcheck_loop (n : Int) (b : Bool) (ao : Option Addr) (cap : Nat) (Z : List ArcT) (w : World) (h : Row encA 4 w ao Z) (hn : nodesE n = 0) (hl : ¬ 200 < Z.length) :
    Calls Tryd.prog 14 #[.agg #[.int .i64 n, .bool b, .slice ao Z.length cap]] w fun e w' => e = .returned (.int .i64 (arcsE n Z)) ∧ Below w.heap.size w w' := by
  have HR := Lib.hid (row_alloc h (.cells #[.int .i64 n, .bool b, .slice ao Z.length cap] 24))
  have HN := Lib.hid hn
  have hl' : ¬ (200 : Int) < (Z.length : Int) := by omega
  clear h hn
  go_enter Tryd.func14, Tryd.ntmps14
  have c0 := cell_new w #[.int .i64 n, .bool b, .slice ao Z.length cap] 24 0
  have c2 := cell_new w #[.int .i64 n, .bool b, .slice ao Z.length cap] 24 2
  have HB0 : Hid (Below w.heap.size w (w.alloc (.cells #[.int .i64 n, .bool b, .slice ao Z.length cap] 24))) := Lib.hid ((Below.refl _ w).alloc (Nat.le_refl _) _)
  go_wp2_with (go_at_call 28; refine (rnodes_is n 0 _ HN.out).mono ?_; rintro e w' ⟨rfl, rfl⟩)
  generalize w.alloc (.cells #[.int .i64 n, .bool b, .slice ao Z.length cap] 24) = w1 at *
  have hgs := block_lt_of_cell c0
  simp only at hgs
  go_loopw [4] (fun i wr => ∃ k : Nat, k ≤ Z.length ∧ i = .int .i64 (k : Int) ∧ Hid (Below w1.heap.size w1 wr) ∧ Hid (arcsE n (Z.drop k) = arcsE n Z)) (fun i _ => Z.length - (intOf i).toNat)
  case atStart => exact ⟨0, Nat.zero_le _, rfl, Lib.hid (Below.refl _ _), Lib.hid rfl⟩
  case round =>
    obtain ⟨k, hk, rfl, HB, HA⟩ := hrel
    have d0 := cell_below HB.out c0
    have d2 := cell_below HB.out c2
    clear c0 c2
    by_cases hlt : k < Z.length
    · have hli : (k : Int) < (Z.length : Int) := by omega
      obtain ⟨ab, ax, e, hab, c0', c1', c2', c3'⟩ := (HR.out.below' HB.out).arc hlt
      cases e
      have HD := Lib.hid (arcsE_drop (n := n) hlt)
      generalize Z[k] = z at *
      obtain ⟨x, y, u, v⟩ := z
      simp only at c0' c1' c2' c3'
      by_cases he : arcE n (x, y, u, v) = 0
      · have HE := Lib.hid he
        clear he
        go_wp2_with fail
        go_region_held3 (fun W => W.cell? ⟨w.heap.size, 0, none⟩ = some (.int .i64 n) ∧ W.cell? ⟨w.heap.size, 2, none⟩ = some (.slice (some ⟨ab, ax, none⟩) Z.length cap) ∧ W.cell? ⟨ab, ax + k * 4, none⟩ = some (.int .i64 x) ∧ W.cell? ⟨ab, ax + k * 4 + 1, none⟩ = some (.int .i64 y) ∧ W.cell? ⟨ab, ax + k * 4 + 2, none⟩ = some (.int .i64 u) ∧ W.cell? ⟨ab, ax + k * 4 + 3, none⟩ = some (.int .i64 v)) (first | exact ⟨d0, d2, c0', c1', c2', c3'⟩ | exact ⟨z0, z1, z2, z3, z4, z5⟩ | go_keep)
          (first | (go_at_call 29; refine (rarc_is x y u v n 0 _ HE.out).mono ?_; rintro e w2 ⟨rfl, b2⟩; have z0 := cell_below (w := wr.drew) b2 d0; have z1 := cell_below (w := wr.drew) b2 d2; have z2 := cell_below (w := wr.drew) b2 c0'; have z3 := cell_below (w := wr.drew) b2 c1'; have z4 := cell_below (w := wr.drew) b2 c2'; have z5 := cell_below (w := wr.drew) b2 c3'; have hb2 := Lib.hid ((below_drew HB.out).trans (b2.mono HB.out.size)); clear b2))
        all_goals
          go_wp2
          go_roundw
          case rel => exact ⟨k + 1, by omega, by go_num, hb2, Lib.hid (by rw [← HA.out, HD.out, if_pos HE.out])⟩
          case measure => simp [intOf]; omega
      · obtain ⟨e0, he0⟩ : ∃ e0, arcE n (x, y, u, v) = e0 := ⟨_, rfl⟩
        rw [he0] at he
        have HE := Lib.hid he0
        have HNE := Lib.hid he
        have hf2 : (e0 != 0) = true := by simpa using he
        have hf1 : (e0 == 0) = false := by simpa using he
        clear he he0
        go_wp2_with fail
        go_region_held3 (fun W => W.cell? ⟨w.heap.size, 0, none⟩ = some (.int .i64 n) ∧ W.cell? ⟨w.heap.size, 2, none⟩ = some (.slice (some ⟨ab, ax, none⟩) Z.length cap) ∧ W.cell? ⟨ab, ax + k * 4, none⟩ = some (.int .i64 x) ∧ W.cell? ⟨ab, ax + k * 4 + 1, none⟩ = some (.int .i64 y) ∧ W.cell? ⟨ab, ax + k * 4 + 2, none⟩ = some (.int .i64 u) ∧ W.cell? ⟨ab, ax + k * 4 + 3, none⟩ = some (.int .i64 v)) (first | exact ⟨d0, d2, c0', c1', c2', c3'⟩ | exact ⟨z0, z1, z2, z3, z4, z5⟩ | go_keep)
          (first | (go_at_call 29; refine (rarc_is x y u v n e0 _ HE.out).mono ?_; rintro e w2 ⟨rfl, b2⟩; have z0 := cell_below (w := wr.drew) b2 d0; have z1 := cell_below (w := wr.drew) b2 d2; have z2 := cell_below (w := wr.drew) b2 c0'; have z3 := cell_below (w := wr.drew) b2 c1'; have z4 := cell_below (w := wr.drew) b2 c2'; have z5 := cell_below (w := wr.drew) b2 c3'; have hb2 := Lib.hid ((below_drew HB.out).trans (b2.mono HB.out.size)); clear b2))
        all_goals
          go_wp2
          go_ret
          refine ⟨ret_int ?_, HB0.out.trans (hb2.out.mono (by omega))⟩
          rw [← HA.out, HD.out, HE.out, if_neg HNE.out]
    · have hli : ¬ (k : Int) < (Z.length : Int) := by omega
      have HE : Hid (arcsE n Z = 0) := Lib.hid (by rw [← HA.out, List.drop_eq_nil_of_le (by omega)]; rfl)
      go_wp2
      go_ret
      exact ⟨ret_int HE.out.symm, HB0.out.trans (HB.out.mono (by omega))⟩
set_option maxHeartbeats 1000000 in
/-- The document's Check of any network. -/
theorem rcheck_any (n : Int) (b : Bool) (ao : Option Addr) (cap : Nat) (Z : List ArcT) (w : World) (h : Row encA 4 w ao Z) (hm : Z.length ≤ maxLen) :
    Calls Tryd.prog 14 #[.agg #[.int .i64 n, .bool b, .slice ao Z.length cap]] w fun e w' => e = .returned (.int .i64 (checkE n Z)) ∧ Below w.heap.size w w' := by
  unfold maxLen at hm
  by_cases hn : nodesE n = 0
  · by_cases hl : 200 < Z.length
    · rw [checkE_many hn hl]
      have hl' : (200 : Int) < (Z.length : Int) := by omega
      have HN := Lib.hid hn
      clear hn h
      go_enter Tryd.func14, Tryd.ntmps14
      go_wp2_with (go_at_call 28; refine (rnodes_is n 0 _ HN.out).mono ?_; rintro e w' ⟨rfl, rfl⟩)
      go_ret
      exact ⟨rfl, (Below.refl _ w).alloc (Nat.le_refl _) _⟩
    · rw [checkE_arcs hn hl]
      exact rcheck_loop n b ao cap Z w h hn hl
  · rw [checkE_nodes hn]
    obtain ⟨e0, he0⟩ : ∃ e0, nodesE n = e0 := ⟨_, rfl⟩
    rw [he0] at hn ⊢
    have HE := Lib.hid he0
    have hf2 : (e0 != 0) = true := by simpa using hn
    have hf1 : (e0 == 0) = false := by simpa using hn
    clear hn he0 h
    go_enter Tryd.func14, Tryd.ntmps14
    go_wp2_with (go_at_call 28; refine (rnodes_is n e0 _ HE.out).mono ?_; rintro e w' ⟨rfl, rfl⟩)
    go_ret
    exact ⟨rfl, (Below.refl _ w).alloc (Nat.le_refl _) _⟩
end Go.Proofs.YtbciplfncnangaaDoor
