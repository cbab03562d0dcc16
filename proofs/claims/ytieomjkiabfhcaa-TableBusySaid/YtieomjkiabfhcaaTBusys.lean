/- What the document's Busy does, and the walk of statement TableBusy. -/
import Derived.Test.YtieomjkiabfhcaaTAwake
namespace Go.Proofs.Ytieomjkiabfhcaa
open Go.RowKit
set_option linter.unusedVariables false

theorem cnt_take {l : List (Int × Int)} {k : Nat} {x : Int × Int} (h : l[k]? = some x) (p : Int × Int) : cnt (l.take (k + 1)) p = cnt (l.take k) p + if x = p then 1 else 0 := by
  unfold cnt
  rw [take_snoc' h, places_snoc]
  split <;> simp
theorem rbusy_fold (l : List (Int × Int)) : l.foldl (bstep l) ((0, 0), 0) = busyR l := (fold_firsts l l).1
theorem lt_iff (a b x y : Int) : ltK (kP (a, b)) (kP (x, y)) = true ↔ (a < x ∨ a = x ∧ b < y) := by rw [ltK_iff]; simp [kP]
set_option maxRecDepth 100000 in
set_option maxHeartbeats 4000000 in
theorem rbusy_some (ad : Addr) (cap : Nat) (Z : List ArcT) (w : World) (h : Row encA 4 w (some ad) Z) (hn : Z.length ≤ 200) :
    Calls Try.prog 23 #[.slice (some ad) Z.length cap] w fun e w' => e = busyE (busyR (endsOf Z)) ∧ Below w.heap.size w w' := by
  obtain ⟨R, hR⟩ : ∃ R, busyR (endsOf Z) = R := ⟨_, rfl⟩
  rw [hR]
  have HR1 := Lib.hid hR
  have HR := Lib.hid h
  clear h hR
  have hkl : (endsOf Z).length = Z.length := by simp [endsOf]
  have HKL := Lib.hid hkl
  have hei : ∀ i (hi : i < Z.length), (endsOf Z)[i]? = some (Z[i].1, Z[i].2.1) := fun i hi => by unfold endsOf; rw [List.getElem?_map, List.getElem?_eq_getElem hi]; rfl
  have HEI := Lib.hid hei
  have HRF : Hid ((endsOf Z).foldl (bstep (endsOf Z)) ((0, 0), 0) = R) := Lib.hid ((rbusy_fold _).trans HR1.out)
  have HCL : Hid (∀ p, cnt (endsOf Z) p ≤ 200) := Lib.hid (fun p => by have := cnt_le (endsOf Z) p; rw [hkl] at this; omega)
  clear hkl hei HR1
  go_enter Try.func23, Try.ntmps23
  go_wp2
  have hb0 := ((Below.refl _ w).alloc (Nat.le_refl _) (.cells #[.int .i64 0, .int .i64 0] 37)).alloc (by simp) (.cells #[.int .i64 0, .int .i64 0] 37)
  have hc1 := new_whole1 w (.cells #[.int .i64 0, .int .i64 0] 37) (.cells #[.int .i64 0, .int .i64 0] 37)
  have hc0 := alloc_whole (heap_alloc_new w (.cells #[.int .i64 0, .int .i64 0] 37)) (.cells #[.int .i64 0, .int .i64 0] 37)
  have HB0 := Lib.hid hb0
  have HC0 := Lib.hid hc0
  have HC1 := Lib.hid hc1
  clear hb0 hc0 hc1
  generalize (w.alloc (.cells #[.int .i64 0, .int .i64 0] 37)).alloc (.cells #[.int .i64 0, .int .i64 0] 37) = w1 at HB0 HC0 HC1 ⊢
  go_loopw [5, 6] (fun sn si wr => ∃ (i : Nat) (x y c : Int), i ≤ Z.length ∧ 0 ≤ c ∧ c ≤ 200 ∧ Hid (((x, y), c) = ((endsOf Z).take i).foldl (bstep (endsOf Z)) ((0, 0), 0)) ∧ Hid (Below w.heap.size w wr) ∧ Hid (wr.heap[w.heap.size]? = some (.cells #[.int .i64 0, .int .i64 0] 37)) ∧ Hid (wr.heap[w.heap.size + 1]? = some (.cells #[.int .i64 x, .int .i64 y] 37)) ∧ sn = .int .i64 c ∧ si = .int .i64 (i : Int)) (fun _ si _ => Z.length - (intOf si).toNat)
  case atStart => exact ⟨0, 0, 0, 0, by omega, by omega, by omega, Lib.hid rfl, HB0, HC0, HC1, rfl, rfl⟩
  case round =>
    clear HB0 HC0 HC1
    obtain ⟨i, x, y, c, hi, hc0, hc1, HF, HB, HE0, HE1, rfl, rfl⟩ := hrel
    obtain ⟨wo, hwo⟩ : ∃ wo, wo = wr := ⟨_, rfl⟩
    subst hwo
    by_cases hlt : i < Z.length
    · have hli : (i : Int) < (Z.length : Int) := by omega
      obtain ⟨ab, ax, e, hab, d0, d1, d2, d3⟩ := (HR.out.below' HB.out).arc hlt
      cases e
      have hep := HEI.out i hlt
      obtain ⟨z, hz⟩ : ∃ z, Z[i] = z := ⟨_, rfl⟩
      rw [hz] at d0 d1 d2 d3 hep
      obtain ⟨a, b, zu, zv⟩ := z
      simp only at d0 d1 d2 d3 hep
      have HEP := Lib.hid hep
      clear hz hep d2 d3
      go_wp2
      go_loopw [7, 8] (fun sm sk wi => ∃ (k m q : Nat), k ≤ Z.length ∧ m ≤ k ∧ Hid (cnt ((endsOf Z).take k) (a, b) = m) ∧ Hid (wi = wo.drewN q) ∧ sm = .int .i64 (m : Int) ∧ sk = .int .i64 (k : Int)) (fun _ sk _ => Z.length - (intOf sk).toNat)
      case atStart => exact ⟨0, 0, 0, by omega, by omega, Lib.hid rfl, Lib.hid rfl, rfl, rfl⟩
      case round =>
        obtain ⟨k, m, q, hk, hmk, HM, HQ, rfl, rfl⟩ := hrel
        by_cases hlk : k < Z.length
        · have hlkI : (k : Int) < (Z.length : Int) := by omega
          obtain ⟨b2, x2, e, hb2, c0, c1, c2, c3⟩ := (HR.out.below' HB.out).arc hlk
          cases e
          have hek := HEI.out k hlk
          obtain ⟨z, hz⟩ : ∃ z, Z[k] = z := ⟨_, rfl⟩
          rw [hz] at c0 c1 hek
          obtain ⟨x1, y1, zu1, zv1⟩ := z
          simp only at c0 c1 hek
          have HMS := Lib.hid (cnt_take hek (a, b))
          clear hz hek c2 c3
          have c0' := cell_drew HQ.out c0
          have c1' := cell_drew HQ.out c1
          have d0' := cell_drew HQ.out d0
          have d1' := cell_drew HQ.out d1
          by_cases h1 : x1 = a
          · by_cases h2 : y1 = b
            · subst h1; subst h2
              have HM2 : Hid (cnt ((endsOf Z).take (k + 1)) (x1, y1) = m + 1) := Lib.hid (by rw [HMS.out, HM.out, if_pos rfl])
              have g1 : (x1 == x1) = true := by simp
              have g2 : (y1 == y1) = true := by simp
              go_wp2
              go_quiet (fail)
              go_wp2
              go_roundw
              case rel => exact ⟨k + 1, m + 1, q + nq, by omega, by omega, HM2, Lib.hid (by rw [HQ.out, World.drewN_drewN]), by go_num, by go_num⟩
              case measure => simp [intOf]; omega
            · subst h1
              have HM2 : Hid (cnt ((endsOf Z).take (k + 1)) (x1, b) = m) := Lib.hid (by rw [HMS.out, HM.out, if_neg (fun e => h2 (Prod.mk.inj e).2)]; rfl)
              have g1 : (x1 == x1) = true := by simp
              have g2 : (y1 == b) = false := by simpa using h2
              clear h2
              go_wp2
              go_quiet (fail)
              go_wp2
              go_roundw
              case rel => exact ⟨k + 1, m, q + nq, by omega, by omega, HM2, Lib.hid (by rw [HQ.out, World.drewN_drewN]), by go_num, by go_num⟩
              case measure => simp [intOf]; omega
          · have HM2 : Hid (cnt ((endsOf Z).take (k + 1)) (a, b) = m) := Lib.hid (by rw [HMS.out, HM.out, if_neg (fun e => h1 (Prod.mk.inj e).1)]; rfl)
            have g1 : (x1 == a) = false := by simpa using h1
            clear h1
            go_wp2
            go_quiet (fail)
            go_wp2
            go_roundw
            case rel => exact ⟨k + 1, m, q + nq, by omega, by omega, HM2, Lib.hid (by rw [HQ.out, World.drewN_drewN]), by go_num, by go_num⟩
            case measure => simp [intOf]; omega
        · obtain rfl : k = Z.length := by omega
          have hcm : cnt (endsOf Z) (a, b) = m := by have := HM.out; rwa [List.take_of_length_le (by rw [HKL.out]; omega)] at this
          have hm200 : m ≤ 200 := by have := HCL.out (a, b); omega
          have hfs : ((endsOf Z).take (i + 1)).foldl (bstep (endsOf Z)) ((0, 0), 0) = bstep (endsOf Z) ((x, y), c) (a, b) := by
            rw [take_snoc' HEP.out, List.foldl_append, ← HF.out]; rfl
          have HFS := Lib.hid hfs
          have HCM := Lib.hid hcm
          have d0' := cell_drew HQ.out d0
          have d1' := cell_drew HQ.out d1
          have HBi : Hid (Below w.heap.size w wr) := Lib.hid (by rw [HQ.out]; exact ⟨HB.out.os, HB.out.tape, HB.out.output, HB.out.size, HB.out.block⟩)
          have HE0i : Hid (wr.heap[w.heap.size]? = some (.cells #[.int .i64 0, .int .i64 0] 37)) := Lib.hid (by rw [HQ.out]; exact HE0.out)
          have HE1i : Hid (wr.heap[w.heap.size + 1]? = some (.cells #[.int .i64 x, .int .i64 y] 37)) := Lib.hid (by rw [HQ.out]; exact HE1.out)
          clear hfs hcm d0 d1 HB HE0 HE1 HM HQ
          go_wp2
          have hab2 : ab ≠ wr.heap.size := by have : ab < wr.heap.size := block_lt_of_cell d0'; omega
          go_region_held3 (fun W => W.cell? ⟨ab, ax + i * 4, none⟩ = some (.int .i64 a) ∧ W.cell? ⟨ab, ax + i * 4 + 1, none⟩ = some (.int .i64 b)) (first | go_keep) (first | (go_at_call 13; skip))
          have hebl := lt_whole HE1i.out
          have hne2 : w.heap.size + 1 ≠ wr.heap.size := by omega
          have n0 : (wr.alloc (.cells #[.int .i64 a, .int .i64 b] 37)).drew.cell? ⟨wr.heap.size, 0, none⟩ = some (.int .i64 a) := cell_new wr _ _ 0
          have n1 : (wr.alloc (.cells #[.int .i64 a, .int .i64 b] 37)).drew.cell? ⟨wr.heap.size, 1, none⟩ = some (.int .i64 b) := cell_new wr _ _ 1
          have HK0 : Hid ((wr.alloc (.cells #[.int .i64 a, .int .i64 b] 37)).drew.heap[w.heap.size]? = some (.cells #[.int .i64 0, .int .i64 0] 37)) := Lib.hid (alloc_whole HE0i.out (.cells #[.int .i64 a, .int .i64 b] 37))
          have HK1 : Hid ((wr.alloc (.cells #[.int .i64 a, .int .i64 b] 37)).drew.heap[w.heap.size + 1]? = some (.cells #[.int .i64 x, .int .i64 y] 37)) := Lib.hid (alloc_whole HE1i.out (.cells #[.int .i64 a, .int .i64 b] 37))
          have HK2 := Lib.hid (below_drew (HBi.out.alloc HBi.out.size (.cells #[.int .i64 a, .int .i64 b] 37)))
          clear HBi HE0i HE1i d0' d1'
          generalize (wr.alloc (.cells #[.int .i64 a, .int .i64 b] 37)).drew = wq at *
          have m0 : wq.cell? ⟨w.heap.size + 1, 0, none⟩ = some (.int .i64 x) := cell_whole HK1.out 0
          have m1 : wq.cell? ⟨w.heap.size + 1, 1, none⟩ = some (.int .i64 y) := cell_whole HK1.out 1
          have f0 := frozen_whole HK1.out 0
          have f1 := frozen_whole HK1.out 1
          have HV0 : Hid (((wq.setCell ⟨w.heap.size + 1, 0, none⟩ (.int .i64 a)).setCell ⟨w.heap.size + 1, 1, none⟩ (.int .i64 b)).heap[w.heap.size]? = some (.cells #[.int .i64 0, .int .i64 0] 37)) := Lib.hid (set_other (set_other HK0.out (by omega) 0 _) (by omega) 1 _)
          have HV1 : Hid (((wq.setCell ⟨w.heap.size + 1, 0, none⟩ (.int .i64 a)).setCell ⟨w.heap.size + 1, 1, none⟩ (.int .i64 b)).heap[w.heap.size + 1]? = some (.cells #[.int .i64 a, .int .i64 b] 37)) := Lib.hid (set_whole (set_whole HK1.out 0 (.int .i64 a)) 1 (.int .i64 b))
          have HV2 := Lib.hid ((HK2.out.setCell (p := ⟨w.heap.size + 1, 0, none⟩) (by show w.heap.size ≤ w.heap.size + 1; omega) (.int .i64 a)).setCell (p := ⟨w.heap.size + 1, 1, none⟩) (by show w.heap.size ≤ w.heap.size + 1; omega) (.int .i64 b))
          have hL : (a < x ∨ a = x ∧ b < y) ∨ ¬ (a < x ∨ a = x ∧ b < y) := Decidable.em _
          have HYES : Hid (c < (m : Int) ∨ (m : Int) = c ∧ (a < x ∨ a = x ∧ b < y) → bstep (endsOf Z) ((x, y), c) (a, b) = ((a, b), (m : Int))) := Lib.hid (fun h => by
            rw [bstep_yes (by rw [better_iff, HCM.out, lt_iff]; exact h), HCM.out])
          have HNO : Hid (¬ (c < (m : Int) ∨ (m : Int) = c ∧ (a < x ∨ a = x ∧ b < y)) → bstep (endsOf Z) ((x, y), c) (a, b) = ((x, y), c)) := Lib.hid (fun h => bstep_no (by
            rw [Bool.eq_false_iff, ne_eq, better_iff, HCM.out, lt_iff]; exact h))
          clear hL
          by_cases hx1 : a < x
          · by_cases hA : c < (m : Int)
            · have HR2 := Lib.hid (HYES.out (by omega))
              clear HYES HNO
              go_wp2
              go_roundw
              case rel => exact ⟨i + 1, a, b, (m : Int), by omega, by omega, by omega, Lib.hid (by rw [HFS.out, HR2.out]), HV2, HV0, HV1, rfl, by go_num⟩
              case measure => simp [intOf]; omega
            · by_cases hD : (m : Int) < c
              · have q1 : ((m : Int) == c) = false := by simp; omega
                have q2 : decide (c < (m : Int)) = false := decide_eq_false hA
                have HR2 := Lib.hid (HNO.out (by omega))
                clear HYES HNO
                go_wp2
                go_roundw
                case rel => exact ⟨i + 1, _, _, _, by omega, by omega, by omega, Lib.hid (by rw [HFS.out, HR2.out]), HK2, HK0, HK1, rfl, by go_num⟩
                case measure => simp [intOf]; omega
              · obtain rfl : c = (m : Int) := by omega
                have HR2 := Lib.hid (HYES.out (by omega))
                clear HYES HNO
                go_wp2
                go_roundw
                case rel => exact ⟨i + 1, a, b, (m : Int), by omega, by omega, by omega, Lib.hid (by rw [HFS.out, HR2.out]), HV2, HV0, HV1, rfl, by go_num⟩
                case measure => simp [intOf]; omega
          · by_cases hx2 : a = x
            · subst hx2
              by_cases hx3 : b < y
              · by_cases hA : c < (m : Int)
                · have HR2 := Lib.hid (HYES.out (by omega))
                  clear HYES HNO
                  go_wp2
                  go_roundw
                  case rel => exact ⟨i + 1, a, b, (m : Int), by omega, by omega, by omega, Lib.hid (by rw [HFS.out, HR2.out]), HV2, HV0, HV1, rfl, by go_num⟩
                  case measure => simp [intOf]; omega
                · by_cases hD : (m : Int) < c
                  · have q1 : ((m : Int) == c) = false := by simp; omega
                    have q2 : decide (c < (m : Int)) = false := decide_eq_false hA
                    have HR2 := Lib.hid (HNO.out (by omega))
                    clear HYES HNO
                    go_wp2
                    go_roundw
                    case rel => exact ⟨i + 1, _, _, _, by omega, by omega, by omega, Lib.hid (by rw [HFS.out, HR2.out]), HK2, HK0, HK1, rfl, by go_num⟩
                    case measure => simp [intOf]; omega
                  · obtain rfl : c = (m : Int) := by omega
                    have HR2 := Lib.hid (HYES.out (by omega))
                    clear HYES HNO
                    go_wp2
                    go_roundw
                    case rel => exact ⟨i + 1, a, b, (m : Int), by omega, by omega, by omega, Lib.hid (by rw [HFS.out, HR2.out]), HV2, HV0, HV1, rfl, by go_num⟩
                    case measure => simp [intOf]; omega
              · have hx4 : decide (b < y) = false := decide_eq_false hx3
                by_cases hA : c < (m : Int)
                · have HR2 := Lib.hid (HYES.out (by omega))
                  clear HYES HNO
                  go_wp2
                  go_roundw
                  case rel => exact ⟨i + 1, a, b, (m : Int), by omega, by omega, by omega, Lib.hid (by rw [HFS.out, HR2.out]), HV2, HV0, HV1, rfl, by go_num⟩
                  case measure => simp [intOf]; omega
                · by_cases hD : (m : Int) < c
                  · have q1 : ((m : Int) == c) = false := by simp; omega
                    have q2 : decide (c < (m : Int)) = false := decide_eq_false hA
                    have HR2 := Lib.hid (HNO.out (by omega))
                    clear HYES HNO
                    go_wp2
                    go_roundw
                    case rel => exact ⟨i + 1, _, _, _, by omega, by omega, by omega, Lib.hid (by rw [HFS.out, HR2.out]), HK2, HK0, HK1, rfl, by go_num⟩
                    case measure => simp [intOf]; omega
                  · obtain rfl : c = (m : Int) := by omega
                    have HR2 := Lib.hid (HNO.out (by omega))
                    clear HYES HNO
                    go_wp2
                    go_roundw
                    case rel => exact ⟨i + 1, _, _, _, by omega, by omega, by omega, Lib.hid (by rw [HFS.out, HR2.out]), HK2, HK0, HK1, rfl, by go_num⟩
                    case measure => simp [intOf]; omega
            · have hx4 : decide (a < x) = false := decide_eq_false hx1
              have hx5 : (a == x) = false := by simpa using hx2
              by_cases hA : c < (m : Int)
              · have HR2 := Lib.hid (HYES.out (by omega))
                clear HYES HNO
                go_wp2
                go_roundw
                case rel => exact ⟨i + 1, a, b, (m : Int), by omega, by omega, by omega, Lib.hid (by rw [HFS.out, HR2.out]), HV2, HV0, HV1, rfl, by go_num⟩
                case measure => simp [intOf]; omega
              · by_cases hD : (m : Int) < c
                · have q1 : ((m : Int) == c) = false := by simp; omega
                  have q2 : decide (c < (m : Int)) = false := decide_eq_false hA
                  have HR2 := Lib.hid (HNO.out (by omega))
                  clear HYES HNO
                  go_wp2
                  go_roundw
                  case rel => exact ⟨i + 1, _, _, _, by omega, by omega, by omega, Lib.hid (by rw [HFS.out, HR2.out]), HK2, HK0, HK1, rfl, by go_num⟩
                  case measure => simp [intOf]; omega
                · obtain rfl : c = (m : Int) := by omega
                  have HR2 := Lib.hid (HNO.out (by omega))
                  clear HYES HNO
                  go_wp2
                  go_roundw
                  case rel => exact ⟨i + 1, _, _, _, by omega, by omega, by omega, Lib.hid (by rw [HFS.out, HR2.out]), HK2, HK0, HK1, rfl, by go_num⟩
                  case measure => simp [intOf]; omega
    · obtain rfl : i = Z.length := by omega
      have hf := HF.out
      rw [List.take_of_length_le (by rw [HKL.out]; omega), HRF.out] at hf
      subst hf
      have r0 : wo.cell? ⟨w.heap.size, 0, none⟩ = some (.int .i64 0) := cell_whole HE0.out 0
      have r1 : wo.cell? ⟨w.heap.size, 1, none⟩ = some (.int .i64 0) := cell_whole HE0.out 1
      have f0 := frozen_whole HE0.out 0
      have f1 := frozen_whole HE0.out 1
      have m0 : wo.cell? ⟨w.heap.size + 1, 0, none⟩ = some (.int .i64 x) := cell_whole HE1.out 0
      have m1 : wo.cell? ⟨w.heap.size + 1, 1, none⟩ = some (.int .i64 y) := cell_whole HE1.out 1
      go_wp2
      have q := set_whole (set_whole HE0.out 0 (.int .i64 x)) 1 (.int .i64 y)
      have q0 := cell_whole q 0
      have q1 := cell_whole q 1
      simp only [setArr20, setArr21] at q0 q1
      have hb4 := (HB.out.setCell (p := ⟨w.heap.size, 0, none⟩) (Nat.le_refl _) (.int .i64 x)).setCell (p := ⟨w.heap.size, 1, none⟩) (Nat.le_refl _) (.int .i64 y)
      clear q m0 m1 f0 f1 r0 r1
      generalize (wo.setCell ⟨w.heap.size, 0, none⟩ (.int .i64 x)).setCell ⟨w.heap.size, 1, none⟩ (.int .i64 y) = w3 at *
      exact bodyPost_ret (v := .tuple #[.agg #[.int .i64 x, .int .i64 y], .int .i64 c]) (by simp [results, Try.results23, go_sem, q0, q1]) rfl ⟨rfl, hb4⟩
theorem rbusy_nil (ao : Option Addr) (cap : Nat) (w : World) : Calls Try.prog 23 #[.slice ao 0 cap] w fun e w' => e = busyE ((0, 0), 0) ∧ Below w.heap.size w w' := by
  go_enter Try.func23, Try.ntmps23
  go_wp2
  refine wp_loop_rounds 1 ?_
  rw [rounds_succ]
  go_wp2
  exact bodyPost_ret (v := .tuple #[.agg #[.int .i64 0, .int .i64 0], .int .i64 0]) (by simp [results, Try.results23, go_sem]) rfl ⟨rfl, ((Below.refl _ w).alloc (Nat.le_refl _) _).alloc (by simp) _⟩
theorem rbusy_any (ao : Option Addr) (cap : Nat) (Z : List ArcT) (w : World) (h : Row encA 4 w ao Z) (hn : Z.length ≤ 200) : Calls Try.prog 23 #[.slice ao Z.length cap] w fun e w' => e = busyE (busyR (endsOf Z)) ∧ Below w.heap.size w w' := by
  cases Z with
  | nil => exact rbusy_nil ao cap w
  | cons z Z =>
    obtain ⟨b, o, rfl, _⟩ := h 0 (by simp)
    exact rbusy_some _ cap _ w h hn
set_option maxRecDepth 100000 in
set_option maxHeartbeats 2000000 in
theorem busys_law (w : World) (ao : Option Addr) (len cap : Nat) (Z : List ArcT) (hl : Z.length = len) (hm : len ≤ maxLen) (hr : Row encA 4 w ao Z) (hk : OkA Z) :
    Calls Try.prog 6 #[.slice ao len cap] w fun e w' => e = .returned (.bool true) ∧ Below w.heap.size w w' := by
  unfold maxLen at hm
  subst hl
  have HR := Lib.hid hr
  have HK := Lib.hid hk
  clear hr hk
  by_cases h : 200 < Z.length
  · go_enter Try.func6, Try.ntmps6
    go_wp2_with (go_at_call 13; refine (awake_any _).mono ?_; rintro e w1 ⟨rfl, hb1⟩)
    go_ret
    exact ⟨rfl, hb1⟩
  · have hs : Z.length ≤ 200 := by omega
    obtain ⟨⟨⟨p, q⟩, r⟩, hR⟩ : ∃ R, busyR (endsOf Z) = R := ⟨_, rfl⟩
    have HE := Lib.hid hR
    clear hR
    have eqa := fun W => eq_arr p q p q W
    have g1 : (p == p && q == q) = true := by simp
    have g2 : (r == r) = true := by simp
    go_enter Try.func6, Try.ntmps6
    go_wp2_with fail
    refine (busy_any ao cap Z _ HR.out HK.out hs).mono ?_
    rintro e w1 ⟨he, hb1⟩
    rw [HE.out] at he
    unfold busyE at he
    subst he
    simp only
    have HR1 := Lib.hid (row_alloc (HR.out.below' hb1) (.cells #[.int .i64 p, .int .i64 q] 37))
    have HB1 := Lib.hid (hb1.alloc hb1.size (.cells #[.int .i64 p, .int .i64 q] 37))
    have HX1 := Lib.hid (heap_alloc_new w1 (.cells #[.int .i64 p, .int .i64 q] 37))
    clear hb1
    go_wp2_with fail
    generalize w1.alloc (.cells #[.int .i64 p, .int .i64 q] 37) = w2 at HR1 HB1 HX1 ⊢
    refine (rbusy_any ao cap Z _ HR1.out hs).mono ?_
    rintro e w3 ⟨he, hb3⟩
    rw [HE.out] at he
    unfold busyE at he
    subst he
    simp only
    have hx3 := (hb3.block _ (lt_whole HX1.out)).trans HX1.out
    have HX3 := Lib.hid (alloc_whole hx3 (.cells #[.int .i64 p, .int .i64 q] 37))
    have HY3 := Lib.hid (heap_alloc_new w3 (.cells #[.int .i64 p, .int .i64 q] 37))
    have hb3' := HB1.out.trans (hb3.mono HB1.out.size)
    have HB3 := Lib.hid (hb3'.alloc hb3'.size (.cells #[.int .i64 p, .int .i64 q] 37))
    clear hb3 hb3' hx3
    go_wp2_with fail
    generalize w3.alloc (.cells #[.int .i64 p, .int .i64 q] 37) = w4 at HX3 HY3 HB3 ⊢
    refine (awake_any _).mono ?_
    rintro e w5 ⟨rfl, hb5⟩
    have hx5 := (hb5.block _ (lt_whole HX3.out)).trans HX3.out
    have hy5 := (hb5.block _ (lt_whole HY3.out)).trans HY3.out
    have u0 : w5.cell? ⟨w1.heap.size, 0, none⟩ = some (.int .i64 p) := cell_whole hx5 0
    have u1 : w5.cell? ⟨w1.heap.size, 1, none⟩ = some (.int .i64 q) := cell_whole hx5 1
    have v0 : w5.cell? ⟨w3.heap.size, 0, none⟩ = some (.int .i64 p) := cell_whole hy5 0
    have v1 : w5.cell? ⟨w3.heap.size, 1, none⟩ = some (.int .i64 q) := cell_whole hy5 1
    have HB5 := Lib.hid (HB3.out.trans (hb5.mono HB3.out.size))
    clear hb5 hx5 hy5
    go_wp2
    go_ret
    exact ⟨by simp, HB5.out⟩
end Go.Proofs.Ytieomjkiabfhcaa
