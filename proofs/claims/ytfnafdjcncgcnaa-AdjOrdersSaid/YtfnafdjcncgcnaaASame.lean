/- Lists that are the same are told to be; a network's beginning; what any right program answers. -/
import Derived.Test.YtfnafdjcncgcnaaARest
namespace Go.Proofs.Ytfnafdjcncgcnaa
open Go.RowKit
set_option linter.unusedVariables false

set_option maxRecDepth 100000 in
set_option maxHeartbeats 1000000 in
theorem sameints_eq (A : List Int) (aa ab : Option Addr) (ca cb : Nat) (w : World) (ha : Lst encI w aa A) (hb : Lst encI w ab A) (hl : A.length ≤ 200000) :
    Calls Try.prog 18 #[.slice aa A.length ca, .slice ab A.length cb] w fun e w' => e = .returned (.bool true) ∧ Below w.heap.size w w' := by
  have HA := Lib.hid ha
  have HB := Lib.hid hb
  clear ha hb
  go_enter Try.func18, Try.ntmps18
  go_wp2
  go_loopw [5] (fun i wr => ∃ k : Nat, k ≤ A.length ∧ i = .int .i64 (k : Int) ∧ Hid (Below w.heap.size w wr)) (fun i _ => A.length - (intOf i).toNat)
  case atStart => exact ⟨0, Nat.zero_le _, rfl, Lib.hid (Below.refl _ _)⟩
  case round =>
    obtain ⟨k, hk, rfl, HW⟩ := hrel
    by_cases hlt : k < A.length
    · have hli : (k : Int) < (A.length : Int) := by omega
      obtain ⟨b1, o1, q1, hb1, hc1⟩ := lst_cell (HA.out.below HW.out) (List.getElem?_eq_getElem hlt)
      obtain ⟨b2, o2, q2, hb2, hc2⟩ := lst_cell (HB.out.below HW.out) (List.getElem?_eq_getElem hlt)
      cases q1
      cases q2
      unfold encI at hc1 hc2
      generalize A[k] = x at *
      go_wp2
      go_quiet (fail)
      go_wp2
      go_roundw
      case rel => exact ⟨k + 1, by omega, by go_num, Lib.hid (below_drewN HW.out _)⟩
      case measure => simp [intOf]; omega
    · have hli : ¬ (k : Int) < (A.length : Int) := by omega
      obtain rfl : k = A.length := by omega
      go_wp2
      go_ret
      exact ⟨rfl, HW.out⟩
theorem grow_at {w : World} {ga : Option Addr} {G : List (List Nat)} (h : GRow w ga G) {i : Nat} {g : List Nat} (hg : G[i]? = some g) : ∃ b o ao cap, ga = some ⟨b, o, none⟩ ∧ b < w.heap.size ∧ w.cell? ⟨b, o + i, none⟩ = some (.slice ao g.length cap) ∧ Lst encI w ao (natI g) := by
  obtain ⟨hi, e⟩ := List.getElem?_eq_some_iff.1 hg
  subst e
  exact h i hi
set_option maxRecDepth 100000 in
set_option maxHeartbeats 2000000 in
theorem sameg_eq (G : List (List Nat)) (ga gb : Option Addr) (ca cb : Nat) (w : World) (ha : GRow w ga G) (hb : GRow w gb G) (hl : G.length ≤ 200000) (hg : ∀ g ∈ G, g.length ≤ 200000) :
    Calls Try.prog 15 #[.slice ga G.length ca, .slice gb G.length cb] w fun e w' => e = .returned (.bool true) ∧ Below w.heap.size w w' := by
  have HA := Lib.hid ha
  have HB := Lib.hid hb
  have HG := Lib.hid hg
  clear ha hb hg
  go_enter Try.func15, Try.ntmps15
  go_wp2
  go_loopw [5] (fun i wr => ∃ k : Nat, k ≤ G.length ∧ i = .int .i64 (k : Int) ∧ Hid (Below w.heap.size w wr)) (fun i _ => G.length - (intOf i).toNat)
  case atStart => exact ⟨0, Nat.zero_le _, rfl, Lib.hid (Below.refl _ _)⟩
  case round =>
    obtain ⟨k, hk, rfl, HW⟩ := hrel
    by_cases hlt : k < G.length
    · have hli : (k : Int) < (G.length : Int) := by omega
      have hgl := HG.out _ (List.getElem_mem hlt)
      obtain ⟨b1, o1, a1, k1, q1, hb1, hc1, hl1⟩ := grow_at (HA.out.below HW.out) (List.getElem?_eq_getElem hlt)
      obtain ⟨b2, o2, a2, k2, q2, hb2, hc2, hl2⟩ := grow_at (HB.out.below HW.out) (List.getElem?_eq_getElem hlt)
      cases q1
      cases q2
      generalize G[k] = g at *
      have HL1 := Lib.hid hl1
      have HL2 := Lib.hid hl2
      clear hl1 hl2
      obtain ⟨wo, hwo⟩ : ∃ wo, wo = wr := ⟨_, rfl⟩
      subst hwo
      go_wp2
      go_quiet (fail)
      go_wp2
      have HW1 := Lib.hid (below_drewN (Below.refl wo.heap.size wo) nq)
      generalize wo.drewN nq = w1 at *
      go_loopw [6] (fun i wi => ∃ j : Nat, j ≤ g.length ∧ i = .int .i64 (j : Int) ∧ Hid (Below wo.heap.size wo wi)) (fun i _ => g.length - (intOf i).toNat)
      case atStart => exact ⟨0, Nat.zero_le _, rfl, HW1⟩
      case round =>
        obtain ⟨j, hj, rfl, HWI⟩ := hrel
        have hd1 := cell_below' HWI.out hc1 hb1
        have hd2 := cell_below' HWI.out hc2 hb2
        by_cases hlt2 : j < g.length
        · have hli2 : (j : Int) < (g.length : Int) := by omega
          obtain ⟨b3, o3, q1, hb3, hc3⟩ := lst_cell (HL1.out.below HWI.out) (natI_at hlt2)
          obtain ⟨b4, o4, q2, hb4, hc4⟩ := lst_cell (HL2.out.below HWI.out) (natI_at hlt2)
          cases q1
          cases q2
          unfold encI at hc3 hc4
          generalize g[j] = x at *
          go_wp2
          go_quiet (fail)
          go_wp2
          go_roundw
          case rel => exact ⟨j + 1, by omega, by go_num, Lib.hid (below_drewN HWI.out _)⟩
          case measure => simp [intOf]; omega
        · have hli2 : ¬ (j : Int) < (g.length : Int) := by omega
          obtain rfl : j = g.length := by omega
          go_wp2
          go_roundw
          case rel => exact ⟨k + 1, by omega, by go_num, Lib.hid (HW.out.trans (HWI.out.mono HW.out.size))⟩
          case measure => simp [intOf]; omega
    · have hli : ¬ (k : Int) < (G.length : Int) := by omega
      obtain rfl : k = G.length := by omega
      go_wp2
      go_ret
      exact ⟨rfl, HW.out⟩
/-! What any right program answers -/
def Z3 : List ArcT := [(0, 1, 0, 5), (1, 2, 0, 1), (0, 2, 0, 9)]
theorem row3 (w : World) (g : Nat) (hg : w.heap.size = g) (t : TypeId) : Row encA 4 (w.alloc (.cells #[.int .i64 0, .int .i64 1, .int .i64 0, .int .i64 5, .int .i64 1, .int .i64 2, .int .i64 0, .int .i64 1, .int .i64 0, .int .i64 2, .int .i64 0, .int .i64 9] t)) (some ⟨g, 0, none⟩) Z3 := by
  intro i hi
  refine ⟨g, 0, rfl, by simp; omega, fun j hj => ?_⟩
  rw [Nat.zero_add, cell_new' hg]
  match i, hi, j, hj with
  | 0, _, 0, _ => rfl
  | 0, _, 1, _ => rfl
  | 0, _, 2, _ => rfl
  | 0, _, 3, _ => rfl
  | 1, _, 0, _ => rfl
  | 1, _, 1, _ => rfl
  | 1, _, 2, _ => rfl
  | 1, _, 3, _ => rfl
  | 2, _, 0, _ => rfl
  | 2, _, 1, _ => rfl
  | 2, _, 2, _ => rfl
  | 2, _, 3, _ => rfl
theorem lst3 (w : World) (t : TypeId) (g : Nat) (hg : w.heap.size = g) (x y u : Int) : Lst encI (w.alloc (.cells #[.int .i64 x, .int .i64 y, .int .i64 u] t)) (some ⟨g, 0, none⟩) [x, y, u] := by
  intro i hi
  refine ⟨g, 0, rfl, by simp; omega, ?_⟩
  rw [Nat.zero_add, cell_new' hg]
  match i, hi with
  | 0, _ => rfl
  | 1, _ => rfl
  | 2, _ => rfl
theorem z3_err : hopE 3 Z3 0 = 0 := by decide
theorem z3_chk : checkE 3 Z3 = 0 := by decide
theorem z3_hops : hopsL 3 Z3 0 = [0, 1, 1] := by decide
theorem z3_fast : fastL 3 Z3 0 = [0, 5, 6] := by decide
theorem z3_order : orderL 3 Z3 = some [0, 1, 2] := by decide
set_option maxRecDepth 100000 in
set_option maxHeartbeats 2000000 in
theorem awake_any (w : World) : Calls Try.prog 14 #[] w fun e w' => e = .returned (.bool true) ∧ Below w.heap.size w w' := by
  have HR := Lib.hid (row_alloc (row3 w w.heap.size rfl 42) (.cells #[.int .i64 3, .bool false, .slice (some ⟨w.heap.size, 0, none⟩) 3 3] 24))
  have HB := Lib.hid ((((Below.refl _ w).alloc (Nat.le_refl _) (.cells #[.int .i64 0, .int .i64 1, .int .i64 0, .int .i64 5, .int .i64 1, .int .i64 2, .int .i64 0, .int .i64 1, .int .i64 0, .int .i64 2, .int .i64 0, .int .i64 9] 42))).alloc (by simp) (.cells #[.int .i64 3, .bool false, .slice (some ⟨w.heap.size, 0, none⟩) 3 3] 24))
  have hb := heap_alloc_new (w.alloc (.cells #[.int .i64 0, .int .i64 1, .int .i64 0, .int .i64 5, .int .i64 1, .int .i64 2, .int .i64 0, .int .i64 1, .int .i64 0, .int .i64 2, .int .i64 0, .int .i64 9] 42)) (.cells #[.int .i64 3, .bool false, .slice (some ⟨w.heap.size, 0, none⟩) 3 3] 24)
  rw [show (w.alloc (.cells #[.int .i64 0, .int .i64 1, .int .i64 0, .int .i64 5, .int .i64 1, .int .i64 2, .int .i64 0, .int .i64 1, .int .i64 0, .int .i64 2, .int .i64 0, .int .i64 9] 42)).heap.size = w.heap.size + 1 by simp] at hb
  have HN := Lib.hid hb
  clear hb
  go_enter Try.func14, Try.ntmps14
  go_wp2_with (first
    | (go_at_call 16; refine (hops_any 3 false (some ⟨w.heap.size, 0, none⟩) 3 Z3 0 _ HR.out (by unfold maxLen; decide)).mono ?_; rintro e w1 ⟨a1, c1, rfl, hl1, hb1⟩; rw [z3_hops] at hl1 ⊢; rw [z3_err]; have HL1 := Lib.hid hl1; have HB1 := Lib.hid (HB.out.trans (hb1.mono HB.out.size)); have HR1 := Lib.hid (HR.out.below' hb1); have hn1 := (hb1.block _ (lt_whole HN.out)).trans HN.out; have HN1 := Lib.hid hn1; have d0 := cell_whole hn1 0; have d1 := cell_whole hn1 1; have d2 := cell_whole hn1 2; clear hl1 hb1 hn1)
    | (go_at_call 22; refine (fastest_any 3 false (some ⟨w.heap.size, 0, none⟩) 3 Z3 0 _ HR1.out (by unfold maxLen; decide)).mono ?_; rintro e w2 ⟨a2, c2, rfl, hl2, hb2⟩; rw [z3_fast] at hl2 ⊢; rw [z3_err]; have HL2 := Lib.hid hl2; have HB2 := Lib.hid (HB1.out.trans (hb2.mono HB1.out.size)); have HR2 := Lib.hid (HR1.out.below' hb2); have hn2 := (hb2.block _ (lt_whole HN1.out)).trans HN1.out; have HN2 := Lib.hid hn2; have e0 := cell_whole hn2 0; have e1 := cell_whole hn2 1; have e2 := cell_whole hn2 2; have HL12 := Lib.hid (HL1.out.below hb2); clear hl2 hb2 hn2 d0 d1 d2)
    | (go_at_call 20; refine (order_any 3 false (some ⟨w.heap.size, 0, none⟩) 3 Z3 _ HR2.out (by unfold maxLen; decide)).mono ?_; rintro e w3 ⟨a3, c3, rfl, hl3, hb3⟩; rw [z3_order] at hl3 ⊢; rw [z3_chk]; have HL3 : Hid (Lst encI w3 a3 [0, 1, 2]) := Lib.hid hl3; have HB3 := Lib.hid (HB2.out.trans (hb3.mono HB2.out.size)); have HL13 := Lib.hid (HL12.out.below hb3); have HL23 := Lib.hid (HL2.out.below hb3); clear hl3 hb3 e0 e1 e2)
    | (go_at_call 18; refine (sameints_eq [0, 1, 1] a1 (some ⟨w3.heap.size, 0, none⟩) c1 3 _ (HL13.out.below ((Below.refl _ _).alloc (Nat.le_refl _) _)) (lst3 _ _ _ rfl 0 1 1) (by simp)).mono ?_; rintro e w4 ⟨rfl, hb4⟩; have hb34 := ((Below.refl _ w3).alloc (Nat.le_refl _) _).trans (hb4.mono (by simp)); have HB4 := Lib.hid (HB3.out.trans (hb34.mono HB3.out.size)); have HL24 := Lib.hid (HL23.out.below hb34); have HL34 := Lib.hid (HL3.out.below hb34); clear hb4 hb34 HL13)
    | (go_at_call 18; refine (sameints_eq [0, 5, 6] a2 (some ⟨w4.heap.size, 0, none⟩) c2 3 _ (HL24.out.below ((Below.refl _ _).alloc (Nat.le_refl _) _)) (lst3 _ _ _ rfl 0 5 6) (by simp)).mono ?_; rintro e w5 ⟨rfl, hb5⟩; have hb45 := ((Below.refl _ w4).alloc (Nat.le_refl _) _).trans (hb5.mono (by simp)); have HB5 := Lib.hid (HB4.out.trans (hb45.mono HB4.out.size)); have HL35 := Lib.hid (HL34.out.below hb45); clear hb5 hb45 HL24)
    | (go_at_call 18; refine (sameints_eq [0, 1, 2] a3 (some ⟨w5.heap.size, 0, none⟩) c3 3 _ (HL35.out.below ((Below.refl _ _).alloc (Nat.le_refl _) _)) (lst3 _ _ _ rfl 0 1 2) (by simp)).mono ?_; rintro e w6 ⟨rfl, hb6⟩; have hb56 := ((Below.refl _ w5).alloc (Nat.le_refl _) _).trans (hb6.mono (by simp)); have HB6 := Lib.hid (HB5.out.trans (hb56.mono HB5.out.size)); clear hb6 hb56 HL35))
  go_ret
  exact ⟨rfl, HB6.out⟩
end Go.Proofs.Ytfnafdjcncgcnaa
