/- The document's answer: a node's stock at a point of time, whatever it is. -/
import Derived.Test.YtbkmfjegbmjknaaCC
namespace Go.Proofs.Ytbkmfjegbmjknaa
open Go.RowKit
set_option linter.unusedVariables false
section
variable (n : Int) (b : Bool) (ao : Option Addr) (nl cap : Nat) (Z : List ArcT) (s t : Int) (H N : Nat)
set_option maxRecDepth 100000 in
set_option maxHeartbeats 8000000 in
theorem rstock15_any (mo : Option Addr) (mc ml : Nat) (M : List MoveT) (v : Nat) (u : Int) (w : World) (h : Row encA 4 w ao Z) (hl : Z.length = nl) (hm : Row encK 3 w mo M) (hml : M.length = ml) (hm2 : ml ≤ 200) (hW : SpanNet Z N) (hH : H ≤ 1024) (hM : ∀ x ∈ M, okM Z s t (H : Int) x = true) :
    Calls Try.prog 52 #[.agg #[.int .i64 n, .bool b, .slice ao nl cap], .slice mo ml mc, .int .i64 (v : Int), .int .i64 u] w fun e w' => e = .returned (.int .i64 (stk Z M (v : Int) u)) ∧ Below w.heap.size w w' := by
  have hb00 := (Below.refl _ w).alloc (Nat.le_refl _) (.cells #[.int .i64 n, .bool b, .slice ao nl cap] 24)
  have hn00 := heap_alloc_new w (.cells #[.int .i64 n, .bool b, .slice ao nl cap] 24)
  have HB := Lib.hid hb00
  have HNB := Lib.hid hn00
  have HR := Lib.hid (h.below' hb00)
  have HMR := Lib.hid (hm.below' hb00)
  have HLN := Lib.hid hl
  have HML := Lib.hid hml
  have HW := Lib.hid hW
  have HM := Lib.hid hM
  have HST := Lib.hid (fun i (hi : i < M.length) => stk_step (Z := Z) hi (v : Int) u)
  have HBD : Hid (∀ i, i ≤ 200 → -209715200 ≤ stk Z (M.take i) (v : Int) u ∧ stk Z (M.take i) (v : Int) u ≤ 209715200) := Lib.hid (fun i hi => by
    have h1 := stk_bd (Z := Z) (c := 1048576) (v : Int) u (M := M.take i) (fun x hx => by
      obtain ⟨g1, g2, _, _, g5, g6, _⟩ := okM_yes.1 (hM x (List.mem_of_mem_take hx))
      refine ⟨g5, Int.le_trans g6 ?_⟩
      obtain ⟨p, hp⟩ : ∃ p : Nat, x.1 = (p : Int) := ⟨x.1.toNat, by omega⟩
      have hpl : p < Z.length := by omega
      rw [hp, arcI_at hpl]
      exact (hW.caps _ (List.getElem_mem hpl)).2)
    have h2 : ((M.take i).length : Int) ≤ 200 := by have := List.length_take_le i M; omega
    omega)
  have hnl2 : nl ≤ 200 := by rw [← hl]; exact hW.len
  clear h hl hm hml hW hM hb00 hn00
  go_enter Try.func52, Try.ntmps52
  go_wp2
  generalize w.alloc (.cells #[.int .i64 n, .bool b, .slice ao nl cap] 24) = w1 at *
  go_loopw [9, 10] (fun kv iv wr => ∃ i : Nat, i ≤ ml ∧ iv = .int .i64 (i : Int) ∧ kv = .int .i64 (stk Z (M.take i) (v : Int) u) ∧ Hid (Below w1.heap.size w1 wr)) (fun _ iv _ => ml - (intOf iv).toNat)
  case atStart => exact ⟨0, Nat.zero_le _, rfl, rfl, Lib.hid (Below.refl _ _)⟩
  case round =>
    obtain ⟨i, hi, rfl, rfl, HWR⟩ := hrel
    by_cases hlt : i < ml
    · have hli : (i : Int) < (ml : Int) := by omega
      have hiM : i < M.length := by rw [HML.out]; exact hlt
      obtain ⟨mb, mx, e, hmb, d0, d1, d2⟩ := Row.tri (HMR.out.below' HWR.out) hiM
      cases e
      have HS1 := Lib.hid (HST.out i hiM)
      have HB1 := HBD.out i (by omega)
      have HB2 := HBD.out (i + 1) (by omega)
      obtain ⟨g1, g2, g3, g4, g5, g6, _⟩ := okM_yes.1 (HM.out _ (List.getElem_mem hiM))
      generalize M[i] = x at *
      obtain ⟨ix, ux, kx⟩ := x
      simp only at d0 d1 d2 g1 g2 g3 g4 g5 g6 HS1
      obtain ⟨p, rfl⟩ : ∃ p : Nat, ix = (p : Int) := ⟨ix.toNat, by omega⟩
      have hpz : p < Z.length := by omega
      have hpi : (p : Int) < (nl : Int) := by rw [← HLN.out]; exact g2
      obtain ⟨ab, ax, e, hab, a0, a1, a2, a3⟩ := arc_at (HR.out.below' HWR.out) (List.getElem?_eq_getElem hpz)
      cases e
      have ht := (HW.out.times _ (List.getElem_mem hpz)).1
      have hc := (HW.out.caps _ (List.getElem_mem hpz)).2
      unfold tm at ht
      unfold capN at hc
      rw [arcI_at hpz] at HS1 g4 g6
      generalize Z[p] = a at *
      obtain ⟨x, y, c, tt⟩ := a
      simp only at a0 a1 a2 a3 ht hc HS1 g4 g6
      have hbn := kept_box HNB.out HWR.out
      have c2 := cell_whole hbn 2
      generalize stk Z (M.take i) (v : Int) u = K0 at *
      obtain ⟨K1, hK1⟩ : ∃ K1, stk Z (M.take (i + 1)) (v : Int) u = K1 := ⟨_, rfl⟩
      have HK1 := Lib.hid hK1
      rw [hK1] at HS1 HB2
      clear hK1
      go_wp2_with fail
      go_region_held3 (fun W => W.cell? ⟨w.heap.size, 2, none⟩ = some (.slice (some ⟨ab, ax, none⟩) nl cap) ∧ W.cell? ⟨mb, mx + i * 3, none⟩ = some (.int .i64 (p : Int)) ∧ W.cell? ⟨ab, ax + p * 4, none⟩ = some (.int .i64 x) ∧ W.cell? ⟨ab, ax + p * 4 + 1, none⟩ = some (.int .i64 y) ∧ W.cell? ⟨ab, ax + p * 4 + 2, none⟩ = some (.int .i64 c) ∧ W.cell? ⟨ab, ax + p * 4 + 3, none⟩ = some (.int .i64 tt)) (first | exact ⟨c2, d0, a0, a1, a2, a3⟩ | go_keep) (fail)
      have hnx := heap_alloc_new wr (.cells #[.int .i64 x, .int .i64 y, .int .i64 c, .int .i64 tt] 64)
      have hbl := (Below.refl _ wr).alloc (Nat.le_refl _) (.cells #[.int .i64 x, .int .i64 y, .int .i64 c, .int .i64 tt] 64)
      have n0 : (wr.alloc (.cells #[.int .i64 x, .int .i64 y, .int .i64 c, .int .i64 tt] 64)).drew.cell? ⟨wr.heap.size, 0, none⟩ = some (.int .i64 x) := cell_whole hnx 0
      have n1 : (wr.alloc (.cells #[.int .i64 x, .int .i64 y, .int .i64 c, .int .i64 tt] 64)).drew.cell? ⟨wr.heap.size, 1, none⟩ = some (.int .i64 y) := cell_whole hnx 1
      have n3 : (wr.alloc (.cells #[.int .i64 x, .int .i64 y, .int .i64 c, .int .i64 tt] 64)).drew.cell? ⟨wr.heap.size, 3, none⟩ = some (.int .i64 tt) := cell_whole hnx 3
      have e1 : (wr.alloc (.cells #[.int .i64 x, .int .i64 y, .int .i64 c, .int .i64 tt] 64)).drew.cell? ⟨mb, mx + i * 3 + 1, none⟩ = some (.int .i64 ux) := cell_below' hbl d1 hmb
      have e2 : (wr.alloc (.cells #[.int .i64 x, .int .i64 y, .int .i64 c, .int .i64 tt] 64)).drew.cell? ⟨mb, mx + i * 3 + 2, none⟩ = some (.int .i64 kx) := cell_below' hbl d2 hmb
      have HWX := Lib.hid (HWR.out.trans ((below_drew hbl).mono HWR.out.size))
      clear hnx hbl d0 d1 d2 a0 a1 a2 a3 c2 hbn
      generalize (wr.alloc (.cells #[.int .i64 x, .int .i64 y, .int .i64 c, .int .i64 tt] 64)).drew = wx at *
      have hw1 : IntKind.i64.wrap (ux + tt) = ux + tt := IntWalk.i64_in _ (by omega)
      have hw2 : IntKind.i64.wrap (K0 + kx) = K0 + kx := IntWalk.i64_in _ (by omega)
      have hw3 : IntKind.i64.wrap (K0 - kx) = K0 - kx := IntWalk.i64_in _ (by omega)
      have hw4 : IntKind.i64.wrap (K0 + kx - kx) = K0 + kx - kx := IntWalk.i64_in _ (by omega)
      have hA : ((y == (v : Int)) = false ∧ ¬ (y = (v : Int) ∧ ux + tt ≤ u)) ∨ ((y == (v : Int)) = true ∧ (decide (ux + tt ≤ u) = false ∧ ¬ (y = (v : Int) ∧ ux + tt ≤ u))) ∨ ((y == (v : Int)) = true ∧ (decide (ux + tt ≤ u) = true ∧ (y = (v : Int) ∧ ux + tt ≤ u))) := by
        by_cases c1 : y = (v : Int)
        · by_cases c2 : ux + tt ≤ u
          · exact .inr (.inr ⟨by rw [beq_iff_eq]; exact c1, decide_eq_true c2, c1, c2⟩)
          · exact .inr (.inl ⟨by rw [beq_iff_eq]; exact c1, decide_eq_false c2, fun e => c2 e.2⟩)
        · exact .inl ⟨by rw [beq_eq_false_iff_ne]; exact c1, fun e => c1 e.1⟩
      have hB : ((x == (v : Int)) = false ∧ ¬ (x = (v : Int) ∧ ux ≤ u)) ∨ ((x == (v : Int)) = true ∧ (decide (ux ≤ u) = false ∧ ¬ (x = (v : Int) ∧ ux ≤ u))) ∨ ((x == (v : Int)) = true ∧ (decide (ux ≤ u) = true ∧ (x = (v : Int) ∧ ux ≤ u))) := by
        by_cases c1 : x = (v : Int)
        · by_cases c2 : ux ≤ u
          · exact .inr (.inr ⟨by rw [beq_iff_eq]; exact c1, decide_eq_true c2, c1, c2⟩)
          · exact .inr (.inl ⟨by rw [beq_iff_eq]; exact c1, decide_eq_false c2, fun e => c2 e.2⟩)
        · exact .inl ⟨by rw [beq_eq_false_iff_ne]; exact c1, fun e => c1 e.1⟩
      rcases hA with ⟨hA1, hA3⟩ | ⟨hA1, hA2, hA3⟩ | ⟨hA1, hA2, hA3⟩ <;> rcases hB with ⟨hB1, hB3⟩ | ⟨hB1, hB2, hB3⟩ | ⟨hB1, hB2, hB3⟩
      all_goals
        have HE : Hid (K1 = (K0 + if y = (v : Int) ∧ ux + tt ≤ u then kx else 0) - if x = (v : Int) ∧ ux ≤ u then kx else 0) := HS1
        have HA3 := Lib.hid hA3
        have HB3 := Lib.hid hB3
        clear hA3 hB3 HS1
        go_wp2
        go_quiet (fail)
        go_wp2
        have HWQ := Lib.hid (below_drewN HWX.out nq)
        go_roundw
        case rel =>
          refine ⟨i + 1, by omega, by go_num, vi ?_, HWQ⟩
          rw [HK1.out, HE.out]
          first
            | (rw [if_pos HA3.out, if_pos HB3.out]; omega)
            | (rw [if_pos HA3.out, if_neg HB3.out]; omega)
            | (rw [if_neg HA3.out, if_pos HB3.out]; omega)
            | (rw [if_neg HA3.out, if_neg HB3.out]; omega)
        case measure => simp [intOf]; omega
    · have hli : ¬ (i : Int) < (ml : Int) := by omega
      obtain rfl : ml = i := by omega
      have HT : Hid (M.take ml = M) := Lib.hid (List.take_of_length_le (by rw [HML.out]; exact Nat.le_refl _))
      rw [HT.out]
      go_wp2
      go_ret
      exact ⟨rfl, HB.out.trans (HWR.out.mono HB.out.size)⟩
end
end Go.Proofs.Ytbkmfjegbmjknaa
