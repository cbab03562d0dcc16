/- Whether stocks are those of a plan: package plan's isPlan. -/
import Derived.Test.YtbkmfjegbmjknaaHStk
namespace Go.Proofs.Ytbkmfjegbmjknaa
open Go.RowKit
set_option linter.unusedVariables false

/-- A whole array is written into a block that is known whole. -/
theorem wpList_store_counts {w : World} {ops : Array Oper} {rest : List Oper} {o : Oper} {a : Act} {Q : Exit → Act → World → Prop} (hgd : o.guard = none) (x y : Operand) (ho : o.op = .store 140 x y)
    (g : Nat) (c : Array Value) (l : List Value) (hx : a.eval x = .pointer (some ⟨g, 0, none⟩)) (hy : a.eval y = .agg l.toArray) (hg : w.heap[g]? = some (.cells c 140 (0, 0))) (hc : c.size = 50) (hl : l.length = 50) (h1 : ∀ v ∈ l, v.oneCell' = true)
    (h : ∀ w', w'.heap[g]? = some (.cells l.toArray 140 (0, 0)) → Kept (fun i => i = g) w w' → wpList Try.prog ops Q rest (a.put o.dst undef) w') : wpList Try.prog ops Q (o :: rest) a w := by
  refine wpList_plain hgd fun K hK => ?_
  have hs : l.toArray.size = 50 := by rw [List.size_toArray, hl]
  have hrun := run_storeVar_row (P := Try.prog) w g 140 140 c l.toArray hg (by rw [hs]; exact sizeCounts) (by rw [hc, hs]) (all_oneCell_toArray h1)
  unfold Oper.wp execOp
  simp only [ho, hx, hy, Instr.storeAt, Instr.sureAddr, Sem.run_bind, Sem.run_pure, Result.andThen_ok, hrun]
  refine hK _ _ (h _ (setRow_heap w g c _ 140 _ hg) ⟨rfl, rfl, rfl, by simp, fun k _ hk => setRow_other w g k _ (fun e => hk e)⟩)
theorem cellsG_one (G : Nat → Nat → Int) (a : Nat) : ∀ v ∈ cellsG G a, v.oneCell' = true := by
  intro v hv
  obtain ⟨j, _, rfl⟩ := List.mem_map.1 hv
  rfl
theorem range_whole {w : World} {g : Nat} {l : List Value} {t : TypeId} (h : w.heap[g]? = some (.cells l.toArray t (0, 0))) : w.rangeAt g 0 l := by
  intro j v hv
  rw [Nat.zero_add, cell_whole h, List.getElem?_toArray]
  exact hv
section
variable (n : Int) (b : Bool) (ao : Option Addr) (nl cap : Nat) (bm : Nat)
set_option maxRecDepth 100000 in
set_option maxHeartbeats 8000000 in
theorem nisplan_any (s t H g : Nat) (hold : Bool) (S : Nat → Nat → Int) (w : World) (hg : GridW w g (H + 1) S) (hH : H ≤ 1024) :
    Calls Try.prog 94 #[crsV n b ao nl cap (s : Int) (t : Int) (H : Int) bm, .slice (some ⟨g, 0, none⟩) (H + 1) (H + 1), .bool hold] w fun e w' => e = .returned (.bool (planG S 50 s t H hold)) ∧ Below w.heap.size w w' := by
  unfold crsV
  have hb00 := ((Below.refl _ w).alloc (Nat.le_refl _) (.cells #[.int .i64 n, .bool b, .slice ao nl cap, .int .i64 (s : Int), .int .i64 (t : Int), .int .i64 (H : Int), .map (some bm)] 134))
  have hx00 := heap_alloc_new w (.cells #[.int .i64 n, .bool b, .slice ao nl cap, .int .i64 (s : Int), .int .i64 (t : Int), .int .i64 (H : Int), .map (some bm)] 134)
  have HB := Lib.hid hb00
  have HX := Lib.hid hx00
  have HG := Lib.hid (hg.below hb00)
  obtain ⟨n1, hn1⟩ : ∃ n1, n1 = H + 1 := ⟨_, rfl⟩
  have HN1 := Lib.hid hn1
  rw [← hn1] at HG ⊢
  obtain ⟨r, hr⟩ : ∃ r, planG S 50 s t H hold = r := ⟨_, rfl⟩
  obtain ⟨MK, HMK⟩ : ∃ MK : Nat → Prop, Hid (∀ u, MK u ↔ (hold = true ∧ u < H)) := ⟨_, Lib.hid (fun u => Iff.rfl)⟩
  have HYES : Hid ((∀ u, u ≤ H → ∀ v, v < 50 → v ≠ s → v ≠ t → 0 ≤ S u v ∧ (S u v = 0 ∨ MK u)) → r = true) := Lib.hid (fun h => by
    rw [← hr]
    exact planG_is.2 (fun u hu v hv hs ht => ⟨(h u hu v hv hs ht).1, (h u hu v hv hs ht).2.imp id (HMK.out u).1⟩))
  have HNO : Hid (∀ u, u ≤ H → ∀ v, v < 50 → v ≠ s → v ≠ t → ¬ (0 ≤ S u v ∧ (S u v = 0 ∨ MK u)) → r = false) := Lib.hid (fun u hu v hv hs ht hn => by
    rw [← hr]
    cases hq : planG S 50 s t H hold with
    | false => rfl
    | true => exact absurd (planG_is.1 hq u hu v hv hs ht) (fun e => hn ⟨e.1, e.2.imp id (HMK.out u).2⟩))
  rw [hr]
  have hgw : g < w.heap.size := hg.lt
  obtain ⟨P, HP⟩ : ∃ P : Nat → Prop, Hid (∀ a, P a ↔ ∀ v, v < 50 → v ≠ s → v ≠ t → 0 ≤ S a v ∧ (S a v = 0 ∨ MK a)) := ⟨_, Lib.hid (fun a => Iff.rfl)⟩
  clear hg hb00 hx00 hn1 hr
  cases hold
  all_goals
    go_enter Try.func94, Try.ntmps94
    go_wp2_with fail
    obtain ⟨g0, hg0⟩ : ∃ g0, w.heap.size = g0 := ⟨_, rfl⟩
    have HZ0 := Lib.hid hg0
    rw [hg0] at HX hgw ⊢
    clear hg0
    generalize w.alloc (.cells #[.int .i64 n, .bool b, .slice ao nl cap, .int .i64 (s : Int), .int .i64 (t : Int), .int .i64 (H : Int), .map (some bm)] 134) = w1 at *
    go_loopw [14] (fun iv wr => ∃ u : Nat, u ≤ H + 1 ∧ iv = .int .i64 (u : Int) ∧ Hid (∀ a, a < u → P a) ∧ Hid (Below w1.heap.size w1 wr)) (fun iv _ => H + 1 - (intOf iv).toNat)
    case atStart => exact ⟨0, Nat.zero_le _, rfl, Lib.hid (fun a h => absurd h (by omega)), Lib.hid (Below.refl _ _)⟩
    case round =>
      obtain ⟨u, hu, rfl, HOK, HW⟩ := hrel
      have hbx := kept_box HX.out HW.out
      have HGW := Lib.hid (HG.out.below HW.out)
      by_cases hlt : u < n1
      · have hli : (u : Int) < (n1 : Int) := by omega
        have huH : u ≤ H := by have := HN1.out; omega
        have HRG := Lib.hid (HGW.out.range hlt)
        have HSZ : Hid ((Try.prog.info? 140).map (·.size) = some (cellsG S u).length) := Lib.hid (by rw [cellsG_len]; exact sizeCounts)
        have hgr : g0 < wr.heap.size := lt_whole hbx
        have HGR := Lib.hid hgr
        have HBW := Lib.hid hbx
        clear hbx
        go_wp2_with (first
          | ((with_reducible show wpList _ _ _ (Oper.mk (some 18) (Op.load 140 _) _ _ _ _ :: _) _ _); refine wpList_load_mid rfl 140 _ rfl g (u * 50) rfl (cellsG S u) _ HRG.out Try.underlying140 rfl HSZ.out ?_)
          | ((with_reducible show wpList _ _ _ (Oper.mk none (Op.store 140 _ _) _ _ _ _ :: _) _ _); refine wpList_store_counts rfl _ _ rfl _ _ (cellsG S u) rfl rfl (heap_alloc_new _ _) rfl (cellsG_len S u) (cellsG_one S u) ?_; intro w3 hg3 hk3; have HG3 := Lib.hid hg3; have hb3 := hk3.old (alloc_whole HBW.out _) (show ¬ g0 = wr.heap.size by have := HGR.out; omega); have HB3 := Lib.hid hb3; have c5 := cell_whole hb3 5; have HK3 : Hid (Below wr.heap.size wr w3) := Lib.hid (((Below.refl _ wr).alloc (Nat.le_refl _) _).trans (hk3.below (by simp) (fun i e => Nat.le_of_eq (Eq.symm e)))); clear hg3 hk3 hb3)
          | ((with_reducible show wpList _ _ _ (Oper.mk (some 26) (Op.load 140 _) _ _ _ _ :: _) _ _); refine wpList_load_mid rfl 140 _ rfl _ 0 rfl (cellsG S u) _ (range_whole HG3.out) Try.underlying140 rfl HSZ.out ?_))
        all_goals
          obtain ⟨gr, hgr2⟩ : ∃ gr, wr.heap.size = gr := ⟨_, rfl⟩
          have HGS := Lib.hid hgr2
          have HA := Lib.hid (fun k (hk : k < 50) => cellsG_get S u hk)
          clear HG3 HRG HSZ c5
          generalize (cellsG S u).toArray = A at *
          go_loopw [27] (fun iv wz => ∃ k : Nat, k ≤ 50 ∧ iv = .int .i64 (k : Int) ∧ Hid (∀ v, v < k → v ≠ s → v ≠ t → 0 ≤ S u v ∧ (S u v = 0 ∨ MK u)) ∧ wz = w3) (fun iv _ => 50 - (intOf iv).toNat)
          case atStart => exact ⟨0, Nat.zero_le _, rfl, Lib.hid (fun v h => absurd h (by omega)), rfl⟩
          case round =>
            obtain ⟨k, hk, rfl, HOI, rfl⟩ := hrel
            by_cases hlk : k < 50
            · have hlk2 : (k : Int) < 50 := by omega
              have hix := run_index_counts A k _ hlk (HA.out k hlk)
              have c3 := cell_whole HB3.out 3
              have c4 := cell_whole HB3.out 4
              have HNK : Hid (k ≠ s → k ≠ t → ¬ (0 ≤ S u k ∧ (S u k = 0 ∨ MK u)) → r = false) := Lib.hid (HNO.out u huH k hlk)
              have HOI2 : Hid ((k ≠ s → k ≠ t → 0 ≤ S u k ∧ (S u k = 0 ∨ MK u)) → ∀ v, v < k + 1 → v ≠ s → v ≠ t → 0 ≤ S u v ∧ (S u v = 0 ∨ MK u)) := Lib.hid (fun h v hv hs ht => by
                by_cases e : v = k
                · subst e; exact h hs ht
                · exact HOI.out v (by omega) hs ht)
              clear HOI
              generalize S u k = x at *
              by_cases hks : k = s
              · have q1 : ((k : Int) == (s : Int)) = true := by rw [beq_iff_eq, hks]
                have HQ := Lib.hid (HOI2.out (fun h => absurd hks h))
                clear HOI2 HNK hks
                go_wp2
                go_roundw
                case rel => exact ⟨k + 1, by omega, by go_num, HQ, by first | rfl | trivial⟩
                case measure => simp [intOf]; omega
              · have q1 : ((k : Int) == (s : Int)) = false := by rw [beq_eq_false_iff_ne]; omega
                by_cases hkt : k = t
                · have q2 : ((k : Int) == (t : Int)) = true := by rw [beq_iff_eq, hkt]
                  have HQ := Lib.hid (HOI2.out (fun _ h => absurd hkt h))
                  clear HOI2 HNK hkt hks
                  go_wp2
                  go_roundw
                  case rel => exact ⟨k + 1, by omega, by go_num, HQ, by first | rfl | trivial⟩
                  case measure => simp [intOf]; omega
                · have q2 : ((k : Int) == (t : Int)) = false := by rw [beq_eq_false_iff_ne]; omega
                  have HKS := Lib.hid hks
                  have HKT := Lib.hid hkt
                  clear hks hkt
                  rcases Int.lt_trichotomy x 0 with hx | hx | hx
                  · have HR : Hid (r = false) := Lib.hid (HNK.out HKS.out HKT.out (fun e => by omega))
                    clear HOI2 HNK
                    go_wp2
                    go_ret
                    exact ⟨ret_bool HR.out.symm, (HB.out.trans (HW.out.mono HB.out.size)).trans (HK3.out.mono ((HB.out.trans (HW.out.mono HB.out.size)).size))⟩
                  · have HQ := Lib.hid (HOI2.out (fun _ _ => ⟨by omega, .inl hx⟩))
                    subst hx
                    clear HOI2 HNK
                    go_wp2
                    go_roundw
                    case rel => exact ⟨k + 1, by omega, by go_num, HQ, by first | rfl | trivial⟩
                    case measure => simp [intOf]; omega
                  · have hx2 : ¬ x < 0 := by omega
                    by_cases hm : MK u
                    · have HQ := Lib.hid (HOI2.out (fun _ _ => ⟨by omega, .inr hm⟩))
                      have hm2 := ((HMK.out u).1 hm).2
                      have hm3 := ((HMK.out u).1 hm).1
                      clear HOI2 HNK hm
                      first
                        | exact False.elim hm3
                        | exact absurd hm3 (by decide)
                        | (have hmd : decide (u < H) = true := decide_eq_true hm2
                           go_wp2
                           go_roundw
                           case rel => exact ⟨k + 1, by omega, by go_num, HQ, by first | rfl | trivial⟩
                           case measure => simp [intOf]; omega)
                    · have HR : Hid (r = false) := Lib.hid (HNK.out HKS.out HKT.out (fun e => e.2.elim (fun e2 => by omega) hm))
                      have hmd := fun e => decide_eq_false (fun e2 : u < H => hm ((HMK.out u).2 ⟨e, e2⟩))
                      clear HOI2 HNK hm
                      (first | (have hmd3 := hmd trivial) | (have hmd3 := hmd rfl) | skip)
                      clear hmd
                      go_wp2
                      go_ret
                      exact ⟨ret_bool HR.out.symm, (HB.out.trans (HW.out.mono HB.out.size)).trans (HK3.out.mono ((HB.out.trans (HW.out.mono HB.out.size)).size))⟩
            · have hlk2 : ¬ (k : Int) < 50 := by omega
              obtain rfl : k = 50 := by omega
              have HOK2 : Hid (∀ a, a < u + 1 → P a) := Lib.hid (fun a ha => by
                by_cases e : a = u
                · subst e; exact (HP.out a).2 HOI.out
                · exact HOK.out a (by omega))
              have HWW := Lib.hid (HW.out.trans (HK3.out.mono HW.out.size))
              go_wp2
              go_roundw
              case rel => exact ⟨u + 1, by omega, by go_num, HOK2, HWW⟩
              case measure => simp [intOf]; omega
      · have hli : ¬ (u : Int) < (n1 : Int) := by omega
        have HR : Hid (r = true) := Lib.hid (HYES.out (fun a ha => (HP.out a).1 (HOK.out a (by have := HN1.out; omega))))
        go_wp2
        go_ret
        exact ⟨ret_bool HR.out.symm, HB.out.trans (HW.out.mono HB.out.size)⟩
end
end Go.Proofs.Ytbkmfjegbmjknaa
