/- Whether a merged movement may be: package plan's allows. -/
import Derived.Test.YtbkmfjegbmjknaaHAmt
import Derived.Test.YtbkmfjegbmjknaaHGrd
import Derived.Test.YtbkmfjegbmjknaaGPrg
namespace Go.Proofs.Ytbkmfjegbmjknaa
open Go.RowKit
set_option linter.unusedVariables false

theorem okM_no {Z : List ArcT} {s t H : Int} {x : MoveT} (h : ¬ (0 ≤ x.1 ∧ x.1 < (Z.length : Int) ∧ 0 ≤ x.2.1 ∧ x.2.1 + (arcI Z x.1).2.2.2 ≤ H ∧ 0 ≤ x.2.2 ∧ x.2.2 ≤ (arcI Z x.1).2.2.1 ∧ (arcI Z x.1).2.1 ≠ s ∧ (arcI Z x.1).1 ≠ t)) : okM Z s t H x = false := by
  unfold okM
  rw [decide_eq_false_iff_not]; exact h
theorem okM_yes {Z : List ArcT} {s t H : Int} {x : MoveT} : okM Z s t H x = true ↔ 0 ≤ x.1 ∧ x.1 < (Z.length : Int) ∧ 0 ≤ x.2.1 ∧ x.2.1 + (arcI Z x.1).2.2.2 ≤ H ∧ 0 ≤ x.2.2 ∧ x.2.2 ≤ (arcI Z x.1).2.2.1 ∧ (arcI Z x.1).2.1 ≠ s ∧ (arcI Z x.1).1 ≠ t := by
  unfold okM
  rw [decide_eq_true_eq]
theorem arcI_at {Z : List ArcT} {p : Nat} (h : p < Z.length) : arcI Z (p : Int) = Z[p] := by
  unfold arcI
  rw [Int.toNat_natCast, List.getD_eq_getElem?_getD, List.getElem?_eq_getElem h]; rfl
/-- The value of a course. -/
def crsV (n : Int) (b : Bool) (ao : Option Addr) (nl cap : Nat) (s t H : Int) (bm : Nat) : Value := .agg #[.int .i64 n, .bool b, .slice ao nl cap, .int .i64 s, .int .i64 t, .int .i64 H, .map (some bm)]
section
variable (n : Int) (b : Bool) (ao : Option Addr) (nl cap : Nat) (Z : List ArcT) (s t H : Int) (bm : Nat)
set_option maxRecDepth 100000 in
set_option maxHeartbeats 4000000 in
theorem nallows_any (i u k : Int) (w : World) (h : Row encA 4 w ao Z) (hl : Z.length = nl) (hnl : nl ≤ 200) (hH : 0 ≤ H ∧ H ≤ 1024) (hZ : ∀ a ∈ Z, 0 ≤ a.2.2.2 ∧ a.2.2.2 ≤ 1048576) :
    Calls Try.prog 100 #[crsV n b ao nl cap s t H bm, .agg #[.int .i64 i, .int .i64 u, .int .i64 k]] w fun e w' => e = .returned (.bool (okM Z s t H (i, u, k))) ∧ Below w.heap.size w w' := by
  unfold crsV
  have hb00 := ((Below.refl _ w).alloc (Nat.le_refl _) (.cells #[.int .i64 n, .bool b, .slice ao nl cap, .int .i64 s, .int .i64 t, .int .i64 H, .map (some bm)] 134)).alloc (by simp) (.cells #[.int .i64 i, .int .i64 u, .int .i64 k] 94)
  have hx00 := alloc_whole (heap_alloc_new w (.cells #[.int .i64 n, .bool b, .slice ao nl cap, .int .i64 s, .int .i64 t, .int .i64 H, .map (some bm)] 134)) (.cells #[.int .i64 i, .int .i64 u, .int .i64 k] 94)
  have hm00 := new_whole1 w (.cells #[.int .i64 n, .bool b, .slice ao nl cap, .int .i64 s, .int .i64 t, .int .i64 H, .map (some bm)] 134) (.cells #[.int .i64 i, .int .i64 u, .int .i64 k] 94)
  have HB := Lib.hid hb00
  have HR := Lib.hid (h.below' hb00)
  have c1 := cell_whole hx00 1
  have c2 := cell_whole hx00 2
  have c0 := cell_whole hx00 0
  have c3 := cell_whole hx00 3
  have c4 := cell_whole hx00 4
  have c5 := cell_whole hx00 5
  have m0 := cell_whole hm00 0
  have m1 := cell_whole hm00 1
  have m2 := cell_whole hm00 2
  have HZ := Lib.hid hZ
  have HLN := Lib.hid hl
  obtain ⟨hH0, hH1⟩ := hH
  clear h hb00 hx00 hm00 hZ
  have hok : okM Z s t H (i, u, k) = false ∨ (0 ≤ i ∧ i < (nl : Int)) := by
    by_cases h0 : 0 ≤ i ∧ i < (nl : Int)
    · exact .inr h0
    · exact .inl (okM_no (fun e => h0 ⟨e.1, by rw [← hl]; exact e.2.1⟩))
  by_cases hi0 : i < 0
  · have HO : Hid (okM Z s t H (i, u, k) = false) := Lib.hid (hok.resolve_right (fun e => by omega))
    rw [HO.out]
    clear hok hl
    go_enter Try.func100, Try.ntmps100
    go_wp2
    go_ret
    exact ⟨rfl, HB.out⟩
  · by_cases hi1 : (nl : Int) ≤ i
    · have HO : Hid (okM Z s t H (i, u, k) = false) := Lib.hid (hok.resolve_right (fun e => by omega))
      rw [HO.out]
      clear hok hl
      go_enter Try.func100, Try.ntmps100
      go_wp2
      go_ret
      exact ⟨rfl, HB.out⟩
    · obtain ⟨p, rfl⟩ : ∃ p : Nat, i = (p : Int) := ⟨i.toNat, by omega⟩
      have hp : p < Z.length := by omega
      have hpi : (p : Int) < (nl : Int) := by omega
      obtain ⟨ab, ax, e, hab, d0, d1, d2, d3⟩ := arc_at HR.out (List.getElem?_eq_getElem hp)
      cases e
      obtain ⟨z1, z2⟩ := HZ.out _ (List.getElem_mem hp)
      have HOK : Hid (okM Z s t H ((p : Int), u, k) = decide (0 ≤ u ∧ u ≤ H - Z[p].2.2.2 ∧ 0 ≤ k ∧ k ≤ Z[p].2.2.1 ∧ Z[p].2.1 ≠ s ∧ Z[p].1 ≠ t)) := Lib.hid (by
        unfold okM
        rw [decide_eq_decide]
        show (0 ≤ (p : Int) ∧ (p : Int) < (Z.length : Int) ∧ 0 ≤ u ∧ u + (arcI Z (p : Int)).2.2.2 ≤ H ∧ 0 ≤ k ∧ k ≤ (arcI Z (p : Int)).2.2.1 ∧ (arcI Z (p : Int)).2.1 ≠ s ∧ (arcI Z (p : Int)).1 ≠ t) ↔ _
        rw [arcI_at hp]
        constructor
        · rintro ⟨_, _, h3, h4, h5, h6, h7, h8⟩; exact ⟨h3, by omega, h5, h6, h7, h8⟩
        · rintro ⟨h3, h4, h5, h6, h7, h8⟩; exact ⟨by omega, by omega, h3, by omega, h5, h6, h7, h8⟩)
      obtain ⟨q, hq⟩ : ∃ q, okM Z s t H ((p : Int), u, k) = q := ⟨_, rfl⟩
      rw [hq]
      generalize Z[p] = a at *
      obtain ⟨x, y, c, tt⟩ := a
      have HQ : Hid (q = decide (0 ≤ u ∧ u ≤ H - tt ∧ 0 ≤ k ∧ k ≤ c ∧ y ≠ s ∧ x ≠ t)) := Lib.hid (hq ▸ HOK.out)
      simp only at d0 d1 d2 d3 z1 z2 ⊢
      have hw : IntKind.i64.wrap (H - tt) = H - tt := IntWalk.i64_in _ (by omega)
      clear HOK hok hl hp hq
      go_enter Try.func100, Try.ntmps100
      go_wp2
      all_goals
        go_ret
        refine ⟨ret_bool ?_, HB.out.alloc (by simp; omega) _⟩
        rw [HQ.out]
        first
          | (have h9 := ‹(y == s) = true ∨ (x == t) = true›; simp only [beq_iff_eq] at h9; rw [eq_comm, decide_eq_false_iff_not]; omega)
          | (rw [eq_comm, decide_eq_false_iff_not]; omega)
          | (have h9 := ‹(y == s) = false ∧ (x == t) = false›; simp only [beq_eq_false_iff_ne] at h9; rw [decide_eq_decide]; omega)
end
end Go.Proofs.Ytbkmfjegbmjknaa
