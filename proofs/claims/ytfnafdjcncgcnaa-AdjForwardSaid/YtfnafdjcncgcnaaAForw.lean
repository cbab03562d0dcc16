/- AdjForward: in an order each node stands once, and arcs go forward. -/
import Derived.Test.YtfnafdjcncgcnaaALaws
namespace Go.Proofs.Ytfnafdjcncgcnaa
open Go.RowKit
set_option linter.unusedVariables false

/-- Where each node stands among the first i of an order. -/
def atK (l : List Nat) (N i : Nat) : List Int := (List.range N).map fun x => (posL (l.take i) x : Int)
theorem atK_len (l : List Nat) (N i : Nat) : (atK l N i).length = N := by simp [atK]
theorem atK_at (l : List Nat) {N x : Nat} (i : Nat) (h : x < N) : (atK l N i)[x]? = some (posL (l.take i) x : Int) := by simp [atK, h]
theorem atK_zero (l : List Nat) (N : Nat) : atK l N 0 = List.replicate N 0 := by
  apply List.ext_getElem
  · simp [atK]
  · intro i h1 h2; simp [atK, posL]
theorem atK_succ {l : List Nat} (hn : l.Nodup) {N i : Nat} (hi : i < l.length) : atK l N (i + 1) = (atK l N i).set l[i] ((i : Int) + 1) := by
  apply List.ext_getElem
  · simp [atK]
  · intro x h1 h2
    rw [List.getElem_set]
    simp only [atK, List.getElem_map, List.getElem_range]
    rw [posL_take hn hi]
    by_cases e : l[i] = x
    · subst e; simp
    · rw [if_neg e, if_neg (fun q => e q.symm)]
theorem posL_new {l : List Nat} (hn : l.Nodup) {i : Nat} (hi : i < l.length) : posL (l.take i) l[i] = 0 := by
  apply posL_not
  intro hm
  have h2 := hn.sublist (List.take_sublist (i + 1) l)
  rw [List.take_succ_eq_append_getElem hi, List.nodup_append] at h2
  exact h2.2.2 _ hm _ (by simp) rfl
theorem posL_le (l : List Nat) (x : Nat) : posL l x ≤ l.length := by
  unfold posL
  split
  · next h => have := List.idxOf_lt_length_of_mem h; omega
  · omega
set_option maxRecDepth 100000 in
set_option maxHeartbeats 4000000 in
theorem forward_law (n : Int) (b : Bool) (ao : Option Addr) (len cap : Nat) (Z : List ArcT) (w : World) (hl : Z.length = len) (hm : len ≤ maxLen) (hr : Row encA 4 w ao Z) :
    Calls Try.prog 9 #[.agg #[.int .i64 n, .bool b, .slice ao len cap]] w fun e w' => e = .returned (.bool true) ∧ Below w.heap.size w w' := by
  subst hl
  have HM := Lib.hid hm
  have HR := Lib.hid (row_alloc hr (.cells #[.int .i64 n, .bool b, .slice ao Z.length cap] 24))
  have HB0 : Hid (Below w.heap.size w (w.alloc (.cells #[.int .i64 n, .bool b, .slice ao Z.length cap] 24))) := Lib.hid ((Below.refl _ w).alloc (Nat.le_refl _) _)
  have HN := Lib.hid (heap_alloc_new w (.cells #[.int .i64 n, .bool b, .slice ao Z.length cap] 24))
  clear hr hm
  by_cases hc : checkE n Z = 0
  · have hR : Right (n, b, Z) := right_iff.1 hc
    have hn := nodesE_ok hR.1
    have hzl : Z.length ≤ 200 := hR.2.1
    simp only at hn
    obtain ⟨N, rfl⟩ : ∃ N : Nat, n = (N : Int) := ⟨n.toNat, by omega⟩
    have HRT := Lib.hid hR
    have HC := Lib.hid hc
    have hoL : orderL (N : Int) Z = orderK Z N N := by unfold orderL; rw [if_pos hc, Int.toNat_natCast]
    have HOL := Lib.hid hoL
    clear hoL hc hR
    cases ho : orderK Z N N with
    | none =>
      have HO := Lib.hid ho
      clear ho
      go_enter Try.func9, Try.ntmps9
      go_wp2_with (first
        | (go_at_call 14; refine (awake_any _).mono ?_; rintro e w1 ⟨rfl, hb1⟩; have HB1 := Lib.hid (HB0.out.trans (hb1.mono HB0.out.size)); have HR1 := Lib.hid (HR.out.below' hb1); have hn1 := box_kept HN.out hb1; have HN1 := Lib.hid hn1; have x1 := cell_whole hn1 0; have y1 := cell_whole hn1 1; have z1 := cell_whole hn1 2; clear hb1 hn1)
        | (go_at_call 20; refine (order_any (N : Int) b ao cap Z _ HR1.out HM.out).mono ?_; rintro e w2 ⟨a2, c2, rfl, hl2, hb2⟩; rw [HOL.out, HO.out, HC.out]; have HB2 := Lib.hid (HB1.out.trans (hb2.mono HB1.out.size)); clear hl2 hb2 x1 y1 z1))
      go_ret
      exact ⟨by simp, HB2.out⟩
    | some l =>
      have HO := Lib.hid ho
      obtain ⟨o1, o2, o3, o4⟩ := orderK_props N l ho
      have HND := Lib.hid o2
      have HLT := Lib.hid o3
      have HLL := Lib.hid o1
      have HLN := Lib.hid (natI_len l)
      clear ho o2 o3 o4 o1
      go_enter Try.func9, Try.ntmps9
      go_wp2_with (first
        | (go_at_call 14; refine (awake_any _).mono ?_; rintro e w1 ⟨rfl, hb1⟩; have HB1 := Lib.hid (HB0.out.trans (hb1.mono HB0.out.size)); have HR1 := Lib.hid (HR.out.below' hb1); have hn1 := box_kept HN.out hb1; have HN1 := Lib.hid hn1; have x1 := cell_whole hn1 0; have y1 := cell_whole hn1 1; have z1 := cell_whole hn1 2; clear hb1 hn1)
        | (go_at_call 20; refine (order_any (N : Int) b ao cap Z _ HR1.out HM.out).mono ?_; rintro e w2 ⟨a2, c2, rfl, hl2, hb2⟩; rw [HOL.out, HO.out] at hl2 ⊢; rw [HC.out]; simp only [Option.getD_some, Option.isSome_some] at hl2 ⊢; rw [HLL.out]; have HB2 := Lib.hid (HB1.out.trans (hb2.mono HB1.out.size)); have HR2 := Lib.hid (HR1.out.below' hb2); have hn2 := box_kept HN1.out hb2; have x2 := cell_whole hn2 0; have z2 := cell_whole hn2 2; have HL2 := Lib.hid hl2; clear hl2 hb2 hn2 x1 y1 z1)
        | (at_make; refine wpList_make_L (enc := encI) 0 Try.underlying32 infoInt rfl (by omega) rfl _ _ rfl N rfl rfl (by omega) ?_; intro w3 ho3 hb3; have HO3 := Lib.hid ho3; have HB3 := Lib.hid hb3; clear ho3 hb3))
      go_loopw [8] (fun i wr => ∃ k : Nat, k ≤ N ∧ i = .int .i64 (k : Int) ∧ Hid (Below w2.heap.size w2 wr) ∧ Hid (OwnL encI wr w2.heap.size 3 (.slice (some ⟨w2.heap.size, 0, none⟩) N N) (atK l N k))) (fun i _ => N - (intOf i).toNat)
      case atStart => exact ⟨0, Nat.zero_le _, rfl, HB3, Lib.hid (by rw [atK_zero]; exact HO3.out)⟩
      case round =>
        clear HO3 HB3
        obtain ⟨k, hk, rfl, HB, HA⟩ := hrel
        have e0 := cell_below' HB.out x2 (block_lt_of_cell x2)
        by_cases hlt : k < N
        · have hli : (k : Int) < (N : Int) := by omega
          have hlt' : k < l.length := by rw [HLL.out]; exact hlt
          obtain ⟨lb, lo, e, hlb, hcl⟩ := lst_cell (HL2.out.below HB.out) (natI_at hlt')
          cases e
          unfold encI at hcl
          have hvN := HLT.out _ (List.getElem_mem hlt')
          have HSU := Lib.hid (atK_succ HND.out (N := N) hlt')
          have hca := atK_at l k hvN
          rw [posL_new HND.out hlt'] at hca
          generalize l[k] = v at *
          obtain ⟨hcv, hfv⟩ := HA.out.cell hca
          unfold encI at hcv
          have hvi : (v : Int) < (N : Int) := by omega
          have hd1 : decide ((v : Int) < 0) = false := decide_eq_false (by omega)
          have hd2 : decide ((N : Int) ≤ (v : Int)) = false := decide_eq_false (by omega)
          have hd3 : decide (N ≤ v) = false := decide_eq_false (by omega)
          clear hca
          go_wp2
          go_quiet (fail)
          go_wp2
          go_roundw
          case rel => exact ⟨k + 1, by omega, by go_num, Lib.hid (below_set (below_drewN HB.out _) (Nat.le_refl _) _), Lib.hid (by rw [HSU.out]; exact OwnL.put (w := wr.drewN nq) HA.out v ((k : Int) + 1))⟩
          case measure => simp [intOf]; omega
        · have hli : ¬ (k : Int) < (N : Int) := by omega
          obtain rfl : k = N := by omega
          go_wp2
          go_loopw [9] (fun i wr => ∃ j : Nat, j ≤ Z.length ∧ i = .int .i64 (j : Int) ∧ Hid (Below w2.heap.size w2 wr) ∧ Hid (OwnL encI wr w2.heap.size 3 (.slice (some ⟨w2.heap.size, 0, none⟩) k k) (atK l k k))) (fun i _ => Z.length - (intOf i).toNat)
          case atStart => exact ⟨0, Nat.zero_le _, rfl, HB, HA⟩
          case round =>
            clear HB HA e0
            obtain ⟨j, hj, rfl, HB, HA⟩ := hrel
            have e2 := cell_below' HB.out z2 (block_lt_of_cell z2)
            by_cases hlt2 : j < Z.length
            · have hli2 : (j : Int) < (Z.length : Int) := by omega
              have hpa : Z[j]? = some Z[j] := List.getElem?_eq_getElem hlt2
              obtain ⟨h1, h2, h3, h4, h5, h6⟩ := right_arc HRT.out (List.mem_of_getElem? hpa)
              rw [Int.toNat_natCast] at h3 h4
              obtain ⟨ab, ax, e, hab, a0, a1, _, _⟩ := arc_at (HR2.out.below' HB.out) hpa
              cases e
              rw [h1] at a0
              rw [h2] at a1
              have hfo := order_forward HO.out (List.mem_of_getElem? hpa) h4
              have hcf := atK_at l k h3
              have hct := atK_at l k h4
              rw [show l.take k = l from List.take_of_length_le (by rw [HLL.out]; exact Nat.le_refl _)] at hcf hct
              have hpl := posL_le l (toN Z[j])
              rw [HLL.out] at hpl
              clear hpa h1 h2 h5 h6
              generalize frN Z[j] = x at *
              generalize toN Z[j] = y at *
              obtain ⟨px, hpx⟩ : ∃ px, posL l x = px := ⟨_, rfl⟩
              obtain ⟨py, hpy⟩ : ∃ py, posL l y = py := ⟨_, rfl⟩
              rw [hpx] at hcf hfo
              rw [hpy] at hct hfo hpl
              obtain ⟨hqf, _⟩ := HA.out.cell hcf
              obtain ⟨hqt, _⟩ := HA.out.cell hct
              unfold encI at hqf hqt
              have hxi : (x : Int) < (k : Int) := by omega
              have hyi : (y : Int) < (k : Int) := by omega
              have hd1 : decide ((py : Int) ≤ (px : Int)) = false := decide_eq_false (by omega)
              have hd2 : decide (py ≤ px) = false := decide_eq_false (by omega)
              clear hpx hpy hcf hct
              go_wp2
              go_quiet (fail)
              go_wp2
              go_roundw
              case rel => exact ⟨j + 1, by omega, by go_num, Lib.hid (below_drewN HB.out _), Lib.hid HA.out⟩
              case measure => simp [intOf]; omega
            · have hli2 : ¬ (j : Int) < (Z.length : Int) := by omega
              obtain rfl : j = Z.length := by omega
              go_wp2
              go_ret
              exact ⟨rfl, HB2.out.trans (HB.out.mono HB2.out.size)⟩
  · obtain ⟨ce, hce⟩ : ∃ ce, checkE n Z = ce := ⟨_, rfl⟩
    have hoL : orderL n Z = none := by unfold orderL; rw [if_neg hc]
    have HOL := Lib.hid hoL
    have HC := Lib.hid hce
    rw [hce] at hc
    have hf2 : (ce != 0) = true := by simpa using hc
    have hf1 : (ce == 0) = false := by simpa using hc
    clear hoL hce hc
    go_enter Try.func9, Try.ntmps9
    go_wp2_with (first
      | (go_at_call 14; refine (awake_any _).mono ?_; rintro e w1 ⟨rfl, hb1⟩; have HB1 := Lib.hid (HB0.out.trans (hb1.mono HB0.out.size)); have HR1 := Lib.hid (HR.out.below' hb1); have hn1 := box_kept HN.out hb1; have HN1 := Lib.hid hn1; have x1 := cell_whole hn1 0; have y1 := cell_whole hn1 1; have z1 := cell_whole hn1 2; clear hb1 hn1)
      | (go_at_call 20; refine (order_any n b ao cap Z _ HR1.out HM.out).mono ?_; rintro e w2 ⟨a2, c2, rfl, hl2, hb2⟩; rw [HOL.out, HC.out]; have HB2 := Lib.hid (HB1.out.trans (hb2.mono HB1.out.size)); clear hl2 hb2 x1 y1 z1))
    go_ret
    exact ⟨by simp, HB2.out⟩
end Go.Proofs.Ytfnafdjcncgcnaa
