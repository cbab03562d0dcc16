/- Push of the document. -/
import Derived.Test.YtbolpjahmmjllaaSPus
namespace Go.Proofs.Ytbolpjahmmjllaa
open Go.RowKit
set_option linter.unusedVariables false

/-- All numbers of a list are appended to nothing. -/
theorem wpList_append_all {w : World} {ops : Array Oper} {rest : List Oper} {o : Oper} {a : Act} {Q : Exit → Act → World → Prop} (hgd : o.guard = none) (s y : Operand)
    (ho : o.op = .call { callee := .builtin .append, args := #[s, y], argTypes := #[25, 25] }) (fo : Option Addr) (fc : Nat) (F : List Int) (hs : a.eval s = .slice none 0 0) (hx : a.eval y = .slice fo F.length fc)
    (hf : Lst encI w fo F) (hnil : fo = none → fc = 0) (hl : F.length ≤ 200000)
    (hK : ∀ v w', OwnL encI w' w.heap.size 3 v F → Below w.heap.size w w' → wpList Try.prog ops Q rest (a.put o.dst v) w') : wpList Try.prog ops Q (o :: rest) a w := by
  obtain ⟨i0, hi, hz0, hz1, hz2⟩ := info_parts infoInt
  cases fo with
  | none =>
    have h0 : F = [] := by
      cases F with
      | nil => rfl
      | cons x r => obtain ⟨_, _, e, _⟩ := hf 0 (by simp); cases e
    subst h0
    have hc := hnil rfl
    subst hc
    exact wpList_append_own_none hgd s y 25 ho w.heap.size 3 i0 1 Try.underlying25 hi (.slice none 0 0) 0 [] hs (World.ownsRow_nil _ _ _ _) hx (hK _ _ (OwnL.nil _ _ _) (Below.refl _ _))
  | some ad =>
    refine wpList_append_own_at w hgd s y 25 ho w.heap.size 3 i0 (.int .i64 0) 1 8 Try.underlying25 hi hz0 hz1 hz2 rfl (by decide) _ 0 [] hs (World.ownsRow_nil _ _ _ _) ad F.length fc (F.map encI) hx (by simp) ?_ (encI_ones rfl) (by unfold maxLen; omega) (by omega) (Nat.le_refl _) ?_
    · intro j u hj
      have hp : 0 < (F.map encI).length := by
        have := (List.getElem?_eq_some_iff.1 hj).1
        omega
      obtain ⟨ad', e, h1⟩ := lst_src hf rfl hp
      cases e
      exact h1 j u hj
    · intro v' w' h1 h2 h3 _
      rw [List.nil_append, Nat.zero_add] at h1
      exact hK v' w' h1 ((Below.refl _ w).grown h2 (Nat.le_refl _) (fun j hj => by simp [Value.ownBlock] at hj))
/-- A row of the call's own, and what lies below it. -/
structure RW (w1 wr : World) (v : Value) (F : List Int) : Prop where
  below : Below w1.heap.size w1 wr
  own : OwnL encI wr w1.heap.size 3 v F
section
variable {w1 wr w3 : World} {v : Value} {F : List Int}
theorem RW.next (h : RW w1 wr v F) (hb : Below wr.heap.size wr w3) : RW w1 w3 v F := ⟨h.below.trans (hb.mono h.below.size), h.own.below hb⟩
theorem RW.drew (h : RW w1 wr v F) : RW w1 wr.drew v F := h.next (below_drew (Below.refl _ _))
theorem RW.drewN (h : RW w1 wr v F) (n : Nat) : RW w1 (wr.drewN n) v F := h.next (below_drewN (Below.refl _ _) n)
theorem RW.alloc (h : RW w1 wr v F) (o : Obj) : RW w1 (wr.alloc o) v F := h.next ((Below.refl _ wr).alloc (Nat.le_refl _) o)
theorem RW.put {g N c : Nat} (h : RW w1 wr (.slice (some ⟨g, 0, none⟩) N c) F) (j : Nat) (z : Int) : RW w1 (wr.setCell ⟨g, j, none⟩ (.int .i64 z)) (.slice (some ⟨g, 0, none⟩) N c) (F.set j z) := ⟨below_set h.below (own_lt2 h.own rfl).1 _, h.own.put j z⟩
end
section
variable (n : Int) (b : Bool) (ao fo lo : Option Addr) (cap fc lc : Nat) (Z : List ArcT) (F : List Int) (L : List StepT)
set_option maxRecDepth 100000 in
set_option maxHeartbeats 4000000 in
theorem rpush_ok (k : Int) (w : World) (h : Row encA 4 w ao Z) (hf : Lst encI w fo F) (hl : Row encS 2 w lo L) (hnil : fo = none → fc = 0) (hll : L.length ≤ 1000) (he : flowE n Z F = 0) (hk : ¬ k < 0) :
    Calls Try.prog 21 #[.agg #[.int .i64 n, .bool b, .slice ao Z.length cap], .slice fo F.length fc, .slice lo L.length lc, .int .i64 k] w (ListsV (pushL Z k F L).2 (pushL Z k F L).1 w) := by
  obtain ⟨hR, hF, hzl, hfl, hn1, hn2⟩ := flow_facts (b := b) he
  have hfl2 : F.length ≤ 200 := by omega
  have hb00 := (Below.refl _ w).alloc (Nat.le_refl _) (.cells #[.int .i64 n, .bool b, .slice ao Z.length cap] 24)
  have HB0 := Lib.hid hb00
  have HN := Lib.hid (heap_alloc_new w (.cells #[.int .i64 n, .bool b, .slice ao Z.length cap] 24))
  have HR := Lib.hid (h.below' hb00)
  have HF := Lib.hid (hf.below hb00)
  have HS := Lib.hid (hl.below' hb00)
  have HE := Lib.hid he
  have HRT := Lib.hid hR
  have HFL := Lib.hid hF
  have HL := Lib.hid hfl
  have HNL := Lib.hid hnil
  have HZ : Hid (Z.length ≤ maxLen) := Lib.hid (by unfold maxLen; omega)
  have HFM : Hid (F.length ≤ maxLen) := Lib.hid (by unfold maxLen; omega)
  clear h hf hl hb00 he hR hF hfl hnil
  go_enter Try.func21, Try.ntmps21
  go_wp2_with (first
    | (go_at_call 25; refine (rasked_is n b ao fo cap fc Z F 0 _ HR.out HF.out HZ.out HFM.out HE.out).mono ?_; rintro e w1 ⟨rfl, hb1⟩; have hn1 := kept_box HN.out hb1; have HR1 := Lib.hid (HR.out.below' hb1); have HF1 := Lib.hid (HF.out.below hb1); have HS1 := Lib.hid (HS.out.below' hb1); have HB1 := Lib.hid (HB0.out.trans (hb1.mono HB0.out.size)); have x1 := cell_whole hn1 0; have y1 := cell_whole hn1 1; have z1 := cell_whole hn1 2; clear hb1 hn1)
    | (at_builtin; refine wpList_append_all rfl _ _ rfl fo fc F rfl rfl HF1.out HNL.out (by omega) ?_; intro v w2 ho2 hb2; have HW2 := Lib.hid (RW.mk hb2 ho2); clear ho2 hb2))
  have hxl := block_lt_of_cell x1
  simp only at hxl
  obtain ⟨fa, ca, hv, _⟩ := HW2.out.own.lst
  subst hv
  go_loopw [12] (fun i wr => ∃ (m : Nat) (F' : List Int), m ≤ L.length ∧ i = .int .i64 (m : Int) ∧ Hid (RW w1 wr (.slice fa F.length ca) F') ∧ Hid (Flow Z F') ∧ Hid (pushL Z k F' (L.drop m) = pushL Z k F L)) (fun i _ => L.length - (intOf i).toNat)
  case atStart => exact ⟨0, F, Nat.zero_le _, rfl, HW2, HFL, Lib.hid rfl⟩
  case round =>
    clear HW2
    obtain ⟨m, F', hm, rfl, HP, HFF, HA⟩ := hrel
    have HFN : Hid (F'.length = F.length) := Lib.hid (by rw [HFF.out.1, HL.out])
    by_cases hlt : m < L.length
    · have hli : (m : Int) < (L.length : Int) := by omega
      obtain ⟨lb, lx, e, hlb, s0, s1⟩ := step_at (HS1.out.below' HP.out.below) (List.getElem?_eq_getElem hlt)
      cases e
      by_cases hx : isArc Z L[m]
      · have e0 := cell_below' HP.out.below x1 hxl
        have e1 := cell_below' HP.out.below y1 hxl
        have e2 := cell_below' HP.out.below z1 hxl
        obtain ⟨j, hjj, hj⟩ := isArc_nat (i := L[m].1) (k := L[m].2) hx
        have ha : Z[j]? = some Z[j] := List.getElem?_eq_getElem hj
        obtain ⟨q0, q1, q2, q3, _, _⟩ := flow_bd HRT.out HFF.out ha
        have q4 : atI F' j ≤ 1048576 := by omega
        have hj2 : j < F.length := by rw [HL.out]; exact hj
        have hji : (j : Int) < (F.length : Int) := by omega
        have hjn : ¬ (F.length : Int) ≤ (j : Int) := by omega
        have hjm : ¬ F.length ≤ j := by omega
        have hX := atI_get (d := F') (v := j) (by rw [HFN.out]; exact hj2)
        have HX := Lib.hid hX
        have HC : Hid (0 ≤ atI F' j ∧ atI F' j ≤ 1048576 ∧ 0 ≤ Z[j].2.2.1 ∧ Z[j].2.2.1 ≤ 1048576) := Lib.hid ⟨q0, q4, q2, q3⟩
        have HAR := Lib.hid ha
        obtain ⟨g, cg, e, hgb, hgl⟩ := HP.out.own.some (by rw [HFN.out]; omega)
        injection e with e3 e4 e5
        subst e3
        subst e5
        clear e4
        have HFF2 := HFF
        by_cases hr : leftS Z F' L[m] < k
        · have HD : Hid (pushL Z k F L = (71, [])) := Lib.hid (by rw [← HA.out]; exact pushL_full hlt hx hr)
          generalize L[m] = x at *
          obtain ⟨i, q⟩ := x
          simp only at s0 s1 hjj
          subst hjj
          rw [left_room ha] at hr
          generalize Z[j] = a at *
          generalize atI F' j = y at *
          obtain ⟨rm, hrm⟩ : ∃ rm, roomI a y q = rm := ⟨_, rfl⟩
          rw [hrm] at hr
          have HRM := Lib.hid hrm
          clear hx ha hX q1 q2 q3 hrm
          go_wp2_with fail
          go_region_held3 (fun W => W.cell? ⟨w.heap.size, 0, none⟩ = some (.int .i64 n) ∧ W.cell? ⟨w.heap.size, 1, none⟩ = some (.bool b) ∧ W.cell? ⟨w.heap.size, 2, none⟩ = some (.slice ao Z.length cap) ∧ W.cell? ⟨lb, lx + m * 2, none⟩ = some (.int .i64 (j : Int)) ∧ W.cell? ⟨lb, lx + m * 2 + 1, none⟩ = some (.bool q)) (first | exact ⟨e0, e1, e2, s0, s1⟩ | exact ⟨z0, z1, z2, z3, z4⟩ | go_keep)
            (first | (go_at_call 32; refine (show Calls Try.prog 32 #[.agg #[.int .i64 n, .bool b, .slice ao Z.length cap], .slice (some ⟨g, 0, none⟩) F.length ca, .agg #[.int .i64 (j : Int), .bool q]] wr.drew _ from (by rw [← HFN.out]; exact rleft_at n b ao cap Z (some ⟨g, 0, none⟩) ca F' j q a y wr.drew (HR1.out.below' HP.out.drew.below) HP.out.drew.own.lstK HAR.out HX.out (by omega) (by rw [HFN.out]; omega) HC.out.1 (by have := HC.out.2.1; omega) HC.out.2.2.1 (by have := HC.out.2.2.2; omega))).mono ?_; rintro e w6 ⟨rfl, b6⟩; rw [HRM.out]; have z0 := cell_below (w := wr.drew) b6 e0; have z1 := cell_below (w := wr.drew) b6 e1; have z2 := cell_below (w := wr.drew) b6 e2; have z3 := cell_below (w := wr.drew) b6 s0; have z4 := cell_below (w := wr.drew) b6 s1; have HP6 := Lib.hid (HP.out.drew.next b6); clear b6))
          all_goals
            go_wp2
            go_ret2
            rw [HD.out]
            exact ⟨none, 0, rfl, Lst.nil _ _, HB1.out.trans (HP6.out.below.mono HB1.out.size)⟩
        · have HD : Hid (pushL Z k (stepTo k F' L[m]) (L.drop (m + 1)) = pushL Z k F L) := Lib.hid (by rw [← HA.out]; exact (pushL_step hlt hx hr).symm)
          have HFS := Lib.hid (stepTo_flow HFF.out (by omega) hx hr)
          generalize L[m] = x at *
          obtain ⟨i, q⟩ := x
          simp only at s0 s1 hjj
          subst hjj
          rw [left_room ha] at hr
          have HST : Hid (stepTo k F' ((j : Int), q) = F'.set j (if q then atI F' j - k else atI F' j + k)) := Lib.hid (by unfold stepTo; simp)
          have hkr : k ≤ 1048576 := by
            unfold capN at q1 q2 q3
            cases q <;> simp only [roomI] at hr <;> omega
          generalize Z[j] = a at *
          generalize atI F' j = y at *
          obtain ⟨rm, hrm⟩ : ∃ rm, roomI a y q = rm := ⟨_, rfl⟩
          rw [hrm] at hr
          have HRM := Lib.hid hrm
          clear hx ha hX q1 q2 q3 hrm
          cases q
          all_goals
            go_wp2_with fail
            go_region_held3 (fun W => W.cell? ⟨w.heap.size, 0, none⟩ = some (.int .i64 n) ∧ W.cell? ⟨w.heap.size, 1, none⟩ = some (.bool b) ∧ W.cell? ⟨w.heap.size, 2, none⟩ = some (.slice ao Z.length cap) ∧ W.cell? ⟨lb, lx + m * 2, none⟩ = some (.int .i64 (j : Int)) ∧ W.cell? ⟨lb, lx + m * 2 + 1, none⟩ = wr.cell? ⟨lb, lx + m * 2 + 1, none⟩) (first | exact ⟨e0, e1, e2, s0, rfl⟩ | exact ⟨z0, z1, z2, z3, z4.trans s1.symm⟩ | go_keep)
              (first | (go_at_call 32; refine (show Calls Try.prog 32 #[.agg #[.int .i64 n, .bool b, .slice ao Z.length cap], .slice (some ⟨g, 0, none⟩) F.length ca, .agg #[.int .i64 (j : Int), .bool _]] wr.drew _ from (by rw [← HFN.out]; exact rleft_at n b ao cap Z (some ⟨g, 0, none⟩) ca F' j _ a y wr.drew (HR1.out.below' HP.out.drew.below) HP.out.drew.own.lstK HAR.out HX.out (by omega) (by rw [HFN.out]; omega) HC.out.1 (by have := HC.out.2.1; omega) HC.out.2.2.1 (by have := HC.out.2.2.2; omega))).mono ?_; rintro e w6 ⟨rfl, b6⟩; rw [HRM.out]; have z0 := cell_below (w := wr.drew) b6 e0; have z1 := cell_below (w := wr.drew) b6 e1; have z2 := cell_below (w := wr.drew) b6 e2; have z3 := cell_below (w := wr.drew) b6 s0; have z4 := cell_below (w := wr.drew) b6 s1; have hP6 := HP.out.drew.next b6; obtain ⟨cy, fy⟩ := hP6.own.cell HX.out; unfold encI at cy; have HP6 := Lib.hid hP6; clear b6 hP6))
            all_goals
              go_wp2
              go_region
              go_wp2
              go_roundw
              case rel => exact ⟨m + 1, _, by omega, by go_num, Lib.hid (by rw [HST.out]; exact (HP6.out.put j _).drew), HFS, HD⟩
              case measure => simp [intOf]; omega
      · have HD : Hid (pushL Z k F L = (1, [])) := Lib.hid (by rw [← HA.out]; exact pushL_arg hlt hx)
        generalize L[m] = x at *
        obtain ⟨i, q⟩ := x
        simp only at s0 s1
        have hna : ¬ (0 ≤ i ∧ i < (Z.length : Int)) := hx
        rw [← HL.out] at hna
        by_cases hi : i < 0
        · clear hx hna
          go_wp2
          go_ret2
          rw [HD.out]
          exact ⟨none, 0, rfl, Lst.nil _ _, HB1.out.trans (HP.out.below.mono HB1.out.size)⟩
        · have hi2 : (F.length : Int) ≤ i := by omega
          clear hx hna
          go_wp2
          go_ret2
          rw [HD.out]
          exact ⟨none, 0, rfl, Lst.nil _ _, HB1.out.trans (HP.out.below.mono HB1.out.size)⟩
    · have hli : ¬ (m : Int) < (L.length : Int) := by omega
      obtain rfl : m = L.length := by omega
      have HD : Hid (pushL Z k F L = (0, F')) := Lib.hid (by rw [← HA.out, List.drop_eq_nil_of_le (Nat.le_refl _)]; rfl)
      go_wp2
      go_ret2
      rw [HD.out]
      exact ⟨fa, ca, by rw [HFN.out]; rfl, HP.out.own.lstK, HB1.out.trans (HP.out.below.mono HB1.out.size)⟩
theorem rpush_no (k : Int) (e0 : Int) (w : World) (h : Row encA 4 w ao Z) (hf : Lst encI w fo F) (hz : Z.length ≤ maxLen) (hfl : F.length ≤ maxLen) (he : flowE n Z F = e0) (h0 : e0 ≠ 0) :
    Calls Try.prog 21 #[.agg #[.int .i64 n, .bool b, .slice ao Z.length cap], .slice fo F.length fc, .slice lo L.length lc, .int .i64 k] w fun e w' => e = .returned (.tuple #[.slice none 0 0, .int .i64 e0]) ∧ Below w.heap.size w w' := by
  have hb00 := (Below.refl _ w).alloc (Nat.le_refl _) (.cells #[.int .i64 n, .bool b, .slice ao Z.length cap] 24)
  have HB0 := Lib.hid hb00
  have HR := Lib.hid (h.below' hb00)
  have HF := Lib.hid (hf.below hb00)
  have HZ := Lib.hid hz
  have HFM := Lib.hid hfl
  have HE := Lib.hid he
  have hf2 : (e0 != 0) = true := by simpa using h0
  have hf1 : (e0 == 0) = false := by simpa using h0
  clear h hf hz hfl he h0 hb00
  go_enter Try.func21, Try.ntmps21
  go_wp2_with (go_at_call 25; refine (rasked_is n b ao fo cap fc Z F e0 _ HR.out HF.out HZ.out HFM.out HE.out).mono ?_; rintro e w1 ⟨rfl, hb1⟩; have HB1 := Lib.hid (HB0.out.trans (hb1.mono HB0.out.size)); clear hb1)
  go_ret2
  exact ⟨rfl, HB1.out⟩
theorem rpush_neg (k : Int) (w : World) (h : Row encA 4 w ao Z) (hf : Lst encI w fo F) (hz : Z.length ≤ maxLen) (hfl : F.length ≤ maxLen) (he : flowE n Z F = 0) (hk : k < 0) :
    Calls Try.prog 21 #[.agg #[.int .i64 n, .bool b, .slice ao Z.length cap], .slice fo F.length fc, .slice lo L.length lc, .int .i64 k] w fun e w' => e = .returned (.tuple #[.slice none 0 0, .int .i64 1]) ∧ Below w.heap.size w w' := by
  have hb00 := (Below.refl _ w).alloc (Nat.le_refl _) (.cells #[.int .i64 n, .bool b, .slice ao Z.length cap] 24)
  have HB0 := Lib.hid hb00
  have HR := Lib.hid (h.below' hb00)
  have HF := Lib.hid (hf.below hb00)
  have HZ := Lib.hid hz
  have HFM := Lib.hid hfl
  have HE := Lib.hid he
  clear h hf hz hfl he hb00
  go_enter Try.func21, Try.ntmps21
  go_wp2_with (go_at_call 25; refine (rasked_is n b ao fo cap fc Z F 0 _ HR.out HF.out HZ.out HFM.out HE.out).mono ?_; rintro e w1 ⟨rfl, hb1⟩; have HB1 := Lib.hid (HB0.out.trans (hb1.mono HB0.out.size)); clear hb1)
  go_ret2
  exact ⟨rfl, HB1.out⟩
theorem rpush_any (k : Int) (w : World) (h : Row encA 4 w ao Z) (hf : Lst encI w fo F) (hl : Row encS 2 w lo L) (hnil : fo = none → fc = 0) (hz : Z.length ≤ maxLen) (hfl : F.length ≤ maxLen) (hll : L.length ≤ 1000) :
    Calls Try.prog 21 #[.agg #[.int .i64 n, .bool b, .slice ao Z.length cap], .slice fo F.length fc, .slice lo L.length lc, .int .i64 k] w (ListsV (pushR n Z F L k).2 (pushR n Z F L k).1 w) := by
  by_cases h0 : flowE n Z F = 0
  · by_cases hk : k < 0
    · rw [pushR_neg h0 hk]
      refine (rpush_neg n b ao fo lo cap fc lc Z F L k w h hf hz hfl h0 hk).mono ?_
      rintro e w' ⟨rfl, hb⟩
      exact ⟨none, 0, rfl, Lst.nil _ _, hb⟩
    · rw [pushR_yes h0 hk]
      exact rpush_ok n b ao fo lo cap fc lc Z F L k w h hf hl hnil hll h0 hk
  · rw [pushR_flow h0]
    refine (rpush_no n b ao fo lo cap fc lc Z F L k _ w h hf hz hfl rfl h0).mono ?_
    rintro e w' ⟨rfl, hb⟩
    exact ⟨none, 0, rfl, Lst.nil _ _, hb⟩
end
end Go.Proofs.Ytbolpjahmmjllaa
