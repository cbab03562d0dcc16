/- Lemmas of the layers below, several texts in one. -/
import Derived.Test.YtlkbohpnlbfopaaGreatBI
import Derived.Test.YtlkbohpnlbfopaaGreatBD
import Derived.Test.YtlkbohpnlbfopaaGreatBG
namespace Go.Proofs.YtlkbohpnlbfopaaGreat
open Go.RowKit
set_option linter.unusedVariables false
theorem madeI (w : World) (B M : Nat) (hB : B ≤ w.heap.size) (hM : M ≤ 200000) : OwnL encI (w.alloc (.cells (madeCells #[.int .i64 0] M) 3)) B 3 (.slice (some ⟨w.heap.size, 0, none⟩) M M) (List.replicate M 0) := by
  refine ⟨by simp, .inr ⟨w.heap.size, M, _, by rw [List.length_replicate], hB, heap_alloc_new _ _, by simp, by unfold maxLen; omega, by simp [madeCells], ?_⟩⟩
  have h := made_one (.int .i64 0) rfl M
  rw [Nat.mul_one] at h
  rw [show (madeCells #[Value.int .i64 0] M) = madeCells (Value.int .i64 0).cells M from rfl, h]
  simp [encI]
theorem madeB (w : World) (B M : Nat) (hB : B ≤ w.heap.size) (hM : M ≤ 200000) : OwnL encB (w.alloc (.cells (madeCells #[.bool false] M) 4)) B 4 (.slice (some ⟨w.heap.size, 0, none⟩) M M) (List.replicate M false) := by
  refine ⟨by simp, .inr ⟨w.heap.size, M, _, by rw [List.length_replicate], hB, heap_alloc_new _ _, by simp, by unfold maxLen; omega, by simp [madeCells], ?_⟩⟩
  have h := made_one (.bool false) rfl M
  rw [Nat.mul_one] at h
  rw [show (madeCells #[Value.bool false] M) = madeCells (Value.bool false).cells M from rfl, h]
  simp [encB]
theorem atI0 {W : World} {B g N : Nat} (hg : W.heap.size = g) (hB : B ≤ g) (hN : N ≤ 1000) : OwnL encI (W.alloc (.cells (madeCells #[.int .i64 0] N) 3)) B 3 (.slice (some ⟨g, 0, none⟩) N N) (valsO (List.replicate N none)) := by
  subst hg
  rw [show valsO (List.replicate N none) = List.replicate N 0 by unfold valsO; rw [List.map_replicate]; rfl]
  exact madeI W B N hB (by omega)
theorem atB0 {W : World} {B g N : Nat} (hg : W.heap.size = g) (hB : B ≤ g) (hN : N ≤ 1000) : OwnL encB (W.alloc (.cells (madeCells #[.bool false] N) 4)) B 4 (.slice (some ⟨g, 0, none⟩) N N) (isO (List.replicate N none)) := by
  subst hg
  rw [show isO (List.replicate N none) = List.replicate N false by unfold isO; rw [List.map_replicate]; rfl]
  exact madeB W B N hB (by omega)
theorem atV0 {W : World} {g : Nat} {cs : Array Value} (hg : W.heap.size = g) : (W.alloc (.cells cs 96)).heap[g]? = some (.cells cs 96 (0, 0)) := by
  subst hg; exact heap_alloc_new _ _
theorem belowThree (w : World) (x y z : Obj) : Below w.heap.size w (((w.alloc x).alloc y).alloc z) := (((Below.refl _ w).alloc (Nat.le_refl _) x).alloc (by simp) y).alloc (by simp; omega) z
theorem reach_LBV (w1 : World) (N : Nat) (hN : N ≤ 1000) : RX w1 (((w1.alloc (.cells (madeCells #[.int .i64 0] N) 3)).alloc (.cells (madeCells #[.bool false] N) 4)).alloc (.cells #[.slice (some ⟨w1.heap.size, 0, none⟩) N N, .slice (some ⟨w1.heap.size + 1, 0, none⟩) N N, .bool false] 96)).drew (w1.heap.size) (w1.heap.size + 1) (w1.heap.size + 1 + 1) N false (List.replicate N none) none [] :=
  RX.next ⟨belowThree _ _ _ _, by simp, (((atI0 (W := w1) (by simp) (by omega) hN).alloc _).alloc _), ((atB0 (W := (w1.alloc (.cells (madeCells #[.int .i64 0] N) 3))) (by simp) (by omega) hN).alloc _), (atV0 (W := ((w1.alloc (.cells (madeCells #[.int .i64 0] N) 3)).alloc (.cells (madeCells #[.bool false] N) 4))) (by simp)), by omega, by omega, Row.nil _ _, fun _ e _ => by cases e⟩ (below_drew (Below.refl _ _))
theorem reach_LVB (w1 : World) (N : Nat) (hN : N ≤ 1000) : RX w1 (((w1.alloc (.cells (madeCells #[.int .i64 0] N) 3)).alloc (.cells #[.slice (some ⟨w1.heap.size, 0, none⟩) N N, .slice (some ⟨w1.heap.size + 1 + 1, 0, none⟩) N N, .bool false] 96)).alloc (.cells (madeCells #[.bool false] N) 4)).drew (w1.heap.size) (w1.heap.size + 1 + 1) (w1.heap.size + 1) N false (List.replicate N none) none [] :=
  RX.next ⟨belowThree _ _ _ _, by simp, (((atI0 (W := w1) (by simp) (by omega) hN).alloc _).alloc _), (atB0 (W := ((w1.alloc (.cells (madeCells #[.int .i64 0] N) 3)).alloc (.cells #[.slice (some ⟨w1.heap.size, 0, none⟩) N N, .slice (some ⟨w1.heap.size + 1 + 1, 0, none⟩) N N, .bool false] 96))) (by simp) (by omega) hN), (alloc_whole (atV0 (W := (w1.alloc (.cells (madeCells #[.int .i64 0] N) 3))) (by simp)) _), by omega, by omega, Row.nil _ _, fun _ e _ => by cases e⟩ (below_drew (Below.refl _ _))
theorem reach_BLV (w1 : World) (N : Nat) (hN : N ≤ 1000) : RX w1 (((w1.alloc (.cells (madeCells #[.bool false] N) 4)).alloc (.cells (madeCells #[.int .i64 0] N) 3)).alloc (.cells #[.slice (some ⟨w1.heap.size + 1, 0, none⟩) N N, .slice (some ⟨w1.heap.size, 0, none⟩) N N, .bool false] 96)).drew (w1.heap.size + 1) (w1.heap.size) (w1.heap.size + 1 + 1) N false (List.replicate N none) none [] :=
  RX.next ⟨belowThree _ _ _ _, by simp, ((atI0 (W := (w1.alloc (.cells (madeCells #[.bool false] N) 4))) (by simp) (by omega) hN).alloc _), (((atB0 (W := w1) (by simp) (by omega) hN).alloc _).alloc _), (atV0 (W := ((w1.alloc (.cells (madeCells #[.bool false] N) 4)).alloc (.cells (madeCells #[.int .i64 0] N) 3))) (by simp)), by omega, by omega, Row.nil _ _, fun _ e _ => by cases e⟩ (below_drew (Below.refl _ _))
theorem reach_BVL (w1 : World) (N : Nat) (hN : N ≤ 1000) : RX w1 (((w1.alloc (.cells (madeCells #[.bool false] N) 4)).alloc (.cells #[.slice (some ⟨w1.heap.size + 1 + 1, 0, none⟩) N N, .slice (some ⟨w1.heap.size, 0, none⟩) N N, .bool false] 96)).alloc (.cells (madeCells #[.int .i64 0] N) 3)).drew (w1.heap.size + 1 + 1) (w1.heap.size) (w1.heap.size + 1) N false (List.replicate N none) none [] :=
  RX.next ⟨belowThree _ _ _ _, by simp, (atI0 (W := ((w1.alloc (.cells (madeCells #[.bool false] N) 4)).alloc (.cells #[.slice (some ⟨w1.heap.size + 1 + 1, 0, none⟩) N N, .slice (some ⟨w1.heap.size, 0, none⟩) N N, .bool false] 96))) (by simp) (by omega) hN), (((atB0 (W := w1) (by simp) (by omega) hN).alloc _).alloc _), (alloc_whole (atV0 (W := (w1.alloc (.cells (madeCells #[.bool false] N) 4))) (by simp)) _), by omega, by omega, Row.nil _ _, fun _ e _ => by cases e⟩ (below_drew (Below.refl _ _))
theorem reach_VLB (w1 : World) (N : Nat) (hN : N ≤ 1000) : RX w1 (((w1.alloc (.cells #[.slice (some ⟨w1.heap.size + 1, 0, none⟩) N N, .slice (some ⟨w1.heap.size + 1 + 1, 0, none⟩) N N, .bool false] 96)).alloc (.cells (madeCells #[.int .i64 0] N) 3)).alloc (.cells (madeCells #[.bool false] N) 4)).drew (w1.heap.size + 1) (w1.heap.size + 1 + 1) (w1.heap.size) N false (List.replicate N none) none [] :=
  RX.next ⟨belowThree _ _ _ _, by simp, ((atI0 (W := (w1.alloc (.cells #[.slice (some ⟨w1.heap.size + 1, 0, none⟩) N N, .slice (some ⟨w1.heap.size + 1 + 1, 0, none⟩) N N, .bool false] 96))) (by simp) (by omega) hN).alloc _), (atB0 (W := ((w1.alloc (.cells #[.slice (some ⟨w1.heap.size + 1, 0, none⟩) N N, .slice (some ⟨w1.heap.size + 1 + 1, 0, none⟩) N N, .bool false] 96)).alloc (.cells (madeCells #[.int .i64 0] N) 3))) (by simp) (by omega) hN), (alloc_whole (alloc_whole (atV0 (W := w1) (by simp)) _) _), by omega, by omega, Row.nil _ _, fun _ e _ => by cases e⟩ (below_drew (Below.refl _ _))
theorem reach_VBL (w1 : World) (N : Nat) (hN : N ≤ 1000) : RX w1 (((w1.alloc (.cells #[.slice (some ⟨w1.heap.size + 1 + 1, 0, none⟩) N N, .slice (some ⟨w1.heap.size + 1, 0, none⟩) N N, .bool false] 96)).alloc (.cells (madeCells #[.bool false] N) 4)).alloc (.cells (madeCells #[.int .i64 0] N) 3)).drew (w1.heap.size + 1 + 1) (w1.heap.size + 1) (w1.heap.size) N false (List.replicate N none) none [] :=
  RX.next ⟨belowThree _ _ _ _, by simp, (atI0 (W := ((w1.alloc (.cells #[.slice (some ⟨w1.heap.size + 1 + 1, 0, none⟩) N N, .slice (some ⟨w1.heap.size + 1, 0, none⟩) N N, .bool false] 96)).alloc (.cells (madeCells #[.bool false] N) 4))) (by simp) (by omega) hN), ((atB0 (W := (w1.alloc (.cells #[.slice (some ⟨w1.heap.size + 1 + 1, 0, none⟩) N N, .slice (some ⟨w1.heap.size + 1, 0, none⟩) N N, .bool false] 96))) (by simp) (by omega) hN).alloc _), (alloc_whole (alloc_whole (atV0 (W := w1) (by simp)) _) _), by omega, by omega, Row.nil _ _, fun _ e _ => by cases e⟩ (below_drew (Below.refl _ _))
structure TimeNet (Z : List ArcT) (N : Nat) : Prop where
  ends : ∀ a ∈ Z, a.1 = (frN a : Int) ∧ a.2.1 = (toN a : Int)
  lt : ∀ a ∈ Z, frN a < N ∧ toN a < N
  len : Z.length ≤ 1000
  nodes : N ≤ 1000
  times : ∀ a ∈ Z, -1073741824 ≤ tm a ∧ tm a ≤ 1073741824
def ReachRes (Z : List ArcT) (F : List Int) (N s : Nat) (w : World) (e : Ending) (w' : World) : Prop :=
  ∃ gd gi, e = .returned (.agg #[.slice (some ⟨gd, 0, none⟩) N N, .slice (some ⟨gi, 0, none⟩) N N, .bool (calmN Z F N s)]) ∧ Lst encI w' (some ⟨gd, 0, none⟩) (valsO (dN Z F N s (N + 1))) ∧ Lst encB w' (some ⟨gi, 0, none⟩) (isO (dN Z F N s (N + 1))) ∧ Below w.heap.size w w'
theorem timeI_tmS {Z : List ArcT} {j : Nat} {a : ArcT} (ha : Z[j]? = some a) (q : Bool) : timeI a q = tmS Z ((j : Int), q) := by
  unfold timeI tmS
  rw [arcOf_nat q ha]
  rfl
theorem tmS_bd {a : ArcT} {q : Bool} {Z : List ArcT} {j : Nat} (ha : Z[j]? = some a) (h : -1073741824 ≤ tm a ∧ tm a ≤ 1073741824) : -1073741824 ≤ tmS Z ((j : Int), q) ∧ tmS Z ((j : Int), q) ≤ 1073741824 := by
  unfold tmS
  rw [arcOf_nat q ha]
  split <;> omega
theorem rows_take {Z : List ArcT} {F : List Int} {i : Nat} {z : StepT} (h : (stepsK Z F Z.length)[i]? = some z) : (rowsR Z F).take (i + 1) = (rowsR Z F).take i ++ [rowS Z z] := by
  unfold rowsR
  obtain ⟨hi, e⟩ := List.getElem?_eq_some_iff.1 h
  rw [List.take_succ_eq_append_getElem (by simpa using hi), List.getElem_map, e]
theorem r3Set {w : World} {g : Nat} {a b c : Value} {t : TypeId} (h : w.heap[g]? = some (.cells #[a, b, c] t (0, 0))) (x y z : Value) :
    (((w.setCell ⟨g, 0, none⟩ x).setCell ⟨g, 1, none⟩ y).setCell ⟨g, 2, none⟩ z).heap[g]? = some (.cells #[x, y, z] t (0, 0)) ∧ Kept (fun i => i = g) w (((w.setCell ⟨g, 0, none⟩ x).setCell ⟨g, 1, none⟩ y).setCell ⟨g, 2, none⟩ z) :=
  ⟨set_whole (set_whole (set_whole h 0 x) 1 y) 2 z, (((Kept.refl (fun i => i = g) w).set (.inl rfl) x).set (.inl rfl) y).set (.inl rfl) z⟩
section
variable (b : Bool) (ao fo : Option Addr) (cap fc : Nat) (Z : List ArcT) (F : List Int)
set_option maxRecDepth 100000 in
set_option maxHeartbeats 8000000 in
theorem rreach_any (N s : Nat) (w : World) (h : Row encA 4 w ao Z) (hf : Lst encI w fo F) (hfl : F.length = Z.length) (hT : TimeNet Z N) (hs : s < N) :
    Calls Tryz.prog 46 #[.agg #[.int .i64 (N : Int), .bool b, .slice ao Z.length cap], .slice fo F.length fc, .int .i64 (s : Int)] w (ReachRes Z F N s w) := by
  have hb00 := ((Below.refl _ w).alloc (Nat.le_refl _) (.cells #[.int .i64 (N : Int), .bool b, .slice ao Z.length cap] 27)).alloc (by simp) (.cells #[.slice none 0 0, .slice none 0 0, .bool false] 96)
  have HB0 := Lib.hid hb00
  have hn1 := alloc_whole (heap_alloc_new w (.cells #[.int .i64 (N : Int), .bool b, .slice ao Z.length cap] 27)) (.cells #[.slice none 0 0, .slice none 0 0, .bool false] 96)
  have HV := Lib.hid (new_whole1 w (.cells #[.int .i64 (N : Int), .bool b, .slice ao Z.length cap] 27) (.cells #[.slice none 0 0, .slice none 0 0, .bool false] 96))
  have k0 := cell_whole hn1 0
  have k1 := cell_whole hn1 1
  have k2 := cell_whole hn1 2
  have HR := Lib.hid (h.below' hb00)
  have HF := Lib.hid (hf.below hb00)
  have HFL := Lib.hid hfl
  have HTN := Lib.hid hT
  have hzl := hT.len
  have hN := hT.nodes
  have hmk := fun W => run_make_row' (P := Tryz.prog) 51 3 (.int .i64 0) 8 Tryz.underlying51 infoInt rfl .i64 .i64 N (by omega) (by omega) W
  have hmk2 := fun W => run_make_row' (P := Tryz.prog) 71 4 (.bool false) 1 Tryz.underlying71 infoBool rfl .i64 .i64 N (by omega) (by omega) W
  have hxl : w.heap.size < ((w.alloc (.cells #[.int .i64 (N : Int), .bool b, .slice ao Z.length cap] 27)).alloc (.cells #[.slice none 0 0, .slice none 0 0, .bool false] 96)).heap.size := by simp; omega
  clear hn1 hb00 h hf hfl hT
  go_enter Tryz.func46, Tryz.ntmps46
  go_wp2
  generalize (w.alloc (.cells #[.int .i64 (N : Int), .bool b, .slice ao Z.length cap] 27)).alloc (.cells #[.slice none 0 0, .slice none 0 0, .bool false] 96) = w1 at *
  have hq : ∀ (v : Value) (i : Nat), w1.cell? ⟨w.heap.size, i, none⟩ = some v → (∀ A, (w1.alloc A).cell? ⟨w.heap.size, i, none⟩ = some v) ∧ (∀ A B, ((w1.alloc A).alloc B).cell? ⟨w.heap.size, i, none⟩ = some v) ∧ (∀ A B C, (((w1.alloc A).alloc B).alloc C).cell? ⟨w.heap.size, i, none⟩ = some v) :=
    fun v i h => ⟨fun A => cell_alloc h A, fun A B => cell_alloc (cell_alloc h A) B, fun A B C => cell_alloc (cell_alloc (cell_alloc h A) B) C⟩
  obtain ⟨a0, b0, q0⟩ := hq _ _ k0
  clear hq
  go_cut [7] (fun v7 wc => ∃ gt gd gi, v7 = .pointer (some ⟨gt, 0, none⟩) ∧ Hid (RX w1 wc gd gi gt N false (List.replicate N none) none []))
  case first =>
    go_region_held3 (fun W => W.cell? ⟨w.heap.size, 0, none⟩ = some (.int .i64 (N : Int))) (first | exact k0 | go_keep) (fail)
    all_goals
      go_wp2
      go_meet
      first
        | exact ⟨_, _, _, rfl, Lib.hid (reach_LBV _ _ hN)⟩
        | exact ⟨_, _, _, rfl, Lib.hid (reach_LVB _ _ hN)⟩
        | exact ⟨_, _, _, rfl, Lib.hid (reach_BLV _ _ hN)⟩
        | exact ⟨_, _, _, rfl, Lib.hid (reach_BVL _ _ hN)⟩
        | exact ⟨_, _, _, rfl, Lib.hid (reach_VLB _ _ hN)⟩
        | exact ⟨_, _, _, rfl, Lib.hid (reach_VBL _ _ hN)⟩
  case rest =>
    obtain ⟨gt, gd, gi, rfl, HX⟩ := hcut
    clear a0 b0 q0 hmk hmk2
    obtain ⟨⟨_, c1, _⟩, _⟩ := HX.out.cells
    obtain ⟨hc3, hf3⟩ := HX.out.has hs
    have hsi : (s : Int) < (N : Int) := by omega
    have HX1 := Lib.hid (HX.out.first s)
    have y0 := cell_below' HX1.out.below k0 hxl
    have y1 := cell_below' HX1.out.below k1 hxl
    have y2 := cell_below' HX1.out.below k2 hxl
    have HR1 := Lib.hid (HR.out.below' HX1.out.below)
    have HF1 := Lib.hid (HF.out.below HX1.out.below)
    go_wp2_with (first
      | (go_at_call 35; refine (rsteps_any (N : Int) b ao fo cap fc Z F _ HR1.out HF1.out HFL.out (by omega)).mono ?_; rintro e w3 ⟨la, lc, rfl, hl3, hb3⟩; have HX3 := Lib.hid ((HX1.out.next hb3).steps hl3); clear hb3 hl3 y0 y1 y2 hc3 hf3 c1))
    have hLl : (stepsK Z F Z.length).length ≤ 2000 := by have := stepsK_len Z F Z.length; omega
    have HMEM : Hid (∀ z ∈ stepsK Z F Z.length, isArc Z z) := Lib.hid (fun z hz => ((stepsK_mem (Nat.le_refl _)).1 hz).1)
    have HTK := Lib.hid (fun i z h => rows_take (Z := Z) (F := F) (i := i) (z := z) h)
    have HRF : Hid ((rowsR Z F).take (stepsK Z F Z.length).length = rowsR Z F) := Lib.hid (List.take_of_length_le (by rw [rowsR_len]; exact Nat.le_refl _))
    generalize stepsK Z F Z.length = L at *
    go_loopw [9] (fun kv wr => ∃ (k : Nat) (ok : Bool), k ≤ N + 1 ∧ kv = .int .i64 (k : Int) ∧ Hid (k = N + 1 → ok = calmN Z F N s) ∧ Hid (RX w1 wr gd gi gt N ok (dN Z F N s k) la L) ∧ Hid (BdO (dN Z F N s k) (k * L.length))) (fun kv _ => N + 1 - (intOf kv).toNat)
    case atStart => exact ⟨0, false, by omega, rfl, Lib.hid (fun e => by omega), HX3, Lib.hid (by rw [Nat.zero_mul]; exact BdO.start N s)⟩
    case round =>
      clear HX HX1 HX3 HR1 HF1
      obtain ⟨k, ok, hk, rfl, HOK, HX, HBD⟩ := hrel
      have y0 := cell_below' HX.out.below k0 hxl
      by_cases hkN : k ≤ N
      · have hki : (k : Int) ≤ (N : Int) := by omega
        obtain ⟨⟨_, _, c2⟩, f2⟩ := HX.out.cells
        have HX0 := Lib.hid (HX.out.mark true)
        have HBD0 : Hid (BdO (relaxAllO tm ((rowsR Z F).take 0) (dN Z F N s k)) (k * L.length + 0)) := Lib.hid (by rw [List.take_zero]; exact HBD.out)
        have HKL : Hid (k * L.length ≤ 2000000) := Lib.hid (Nat.mul_le_mul (by omega : k ≤ 1000) hLl)
        have HDK : Hid (dN Z F N s (k + 1) = relaxAllO tm (rowsR Z F) (dN Z F N s k)) := Lib.hid rfl
        have HCK : Hid (k = N → okO tm (rowsR Z F) (dN Z F N s k) = calmN Z F N s) := Lib.hid (fun e => by subst e; rfl)
        go_wp2
        generalize wr.setCell ⟨gt, 2, none⟩ (.bool true) = wz at *
        clear c2 f2 y0 HX HBD HOK
        generalize dN Z F N s k = d0 at *
        go_loopw [10] (fun iv wi => ∃ i : Nat, i ≤ L.length ∧ iv = .int .i64 (i : Int) ∧ Hid (RX w1 wi gd gi gt N (okO tm ((rowsR Z F).take i) d0) (relaxAllO tm ((rowsR Z F).take i) d0) la L) ∧ Hid (BdO (relaxAllO tm ((rowsR Z F).take i) d0) (k * L.length + i))) (fun iv _ => L.length - (intOf iv).toNat)
        case atStart => exact ⟨0, Nat.zero_le _, rfl, HX0, HBD0⟩
        case round =>
          clear HX0 HBD0
          obtain ⟨i, hi, rfl, HX, HBD⟩ := hrel
          by_cases hiL : i < L.length
          · have hii : (i : Int) < (L.length : Int) := by omega
            have hz := List.getElem?_eq_getElem hiL
            obtain ⟨lb, lx, e, hlb, s0, s1⟩ := step_at HX.out.row hz
            cases e
            have HTI := Lib.hid (HTK.out i _ hz)
            have hA := HMEM.out _ (List.getElem_mem hiL)
            generalize L[i] = z at *
            obtain ⟨zi, q⟩ := z
            obtain ⟨p, hp, hpl⟩ := isArc_nat hA
            subst hp
            simp only at s0 s1
            have ha : Z[p]? = some Z[p] := List.getElem?_eq_getElem hpl
            have hmem := List.mem_of_getElem? ha
            obtain ⟨hE1, hE2⟩ := begI_fromE ha (HTN.out.ends _ hmem) q
            have hlt := rowsR_to (F := F) HTN.out.lt
            have hxy : fromS Z ((p : Int), q) < N ∧ toS Z ((p : Int), q) < N := by
              have hm := HTN.out.lt _ hmem
              unfold fromS toS
              rw [arcOf_nat q ha]
              split <;> exact ⟨by omega, by omega⟩
            have htb := tmS_bd (q := q) ha (HTN.out.times _ hmem)
            have hti := timeI_tmS ha q
            have HA := Lib.hid ha
            have hta : -4398046511104 ≤ Z[p].2.2.2 ∧ Z[p].2.2.2 ≤ 4398046511104 := by
              have := HTN.out.times _ hmem
              unfold tm at this
              omega
            have HTA := Lib.hid hta
            have hfr := rowS_fr Z ((p : Int), q)
            have hto := rowS_to Z ((p : Int), q)
            have htm := rowS_tm Z ((p : Int), q)
            generalize Z[p] = a at *
            have hbx := HBD.out.val (fromS Z ((p : Int), q))
            have hby := HBD.out.val (toS Z ((p : Int), q))
            have hkl := HKL.out
            have HRX := Lib.hid (HBD.out.relax (c := tm) (a := rowS Z ((p : Int), q)) (by rw [htm]; exact htb) (by rw [hto, HX.out.len]; exact hxy.2))
            have hge := gives_eq (c := tm) (d := relaxAllO tm ((rowsR Z F).take i) d0) (a := rowS Z ((p : Int), q))
            have hry := relaxO_yes (c := tm) (d := relaxAllO tm ((rowsR Z F).take i) d0) (a := rowS Z ((p : Int), q))
            rw [hfr, hto, htm] at hge
            rw [hfr, hto, htm] at hry
            have HS1 : Hid (relaxAllO tm ((rowsR Z F).take (i + 1)) d0 = relaxO tm (relaxAllO tm ((rowsR Z F).take i) d0) (rowS Z ((p : Int), q))) := Lib.hid (by rw [HTI.out, relaxAllO_snoc])
            have HS2 : Hid (okO tm ((rowsR Z F).take (i + 1)) d0 = (okO tm ((rowsR Z F).take i) d0 && !gives tm (relaxAllO tm ((rowsR Z F).take i) d0) (rowS Z ((p : Int), q)))) := Lib.hid (by rw [HTI.out, okO_snoc])
            obtain ⟨⟨c0, c1, c2⟩, f2⟩ := HX.out.cells
            obtain ⟨tx, _⟩ := HX.out.time hxy.1
            obtain ⟨ty, fy⟩ := HX.out.time hxy.2
            obtain ⟨mx, _⟩ := HX.out.has hxy.1
            obtain ⟨my, gy⟩ := HX.out.has hxy.2
            generalize relaxAllO tm ((rowsR Z F).take i) d0 = d at *
            generalize okO tm ((rowsR Z F).take i) d0 = ok1 at *
            generalize rowS Z ((p : Int), q) = r at *
            generalize tmS Z ((p : Int), q) = t at *
            generalize toS Z ((p : Int), q) = y at *
            generalize fromS Z ((p : Int), q) = x at *
            obtain ⟨u, hu⟩ : ∃ u, k * L.length + i = u := ⟨_, rfl⟩
            have hub : u ≤ 2002000 := by omega
            rw [hu] at hbx hby
            obtain ⟨fu, hfu⟩ : ∃ fu, valO (getO d x) = fu := ⟨_, rfl⟩
            obtain ⟨fv, hfv⟩ : ∃ fv, valO (getO d y) = fv := ⟨_, rfl⟩
            obtain ⟨bu, hbu⟩ : ∃ bu, (getO d x).isSome = bu := ⟨_, rfl⟩
            obtain ⟨bv, hbv⟩ : ∃ bv, (getO d y).isSome = bv := ⟨_, rfl⟩
            rw [hfu] at hbx hge hry
            rw [hfv] at hby hge
            rw [hbu, hbv] at hge
            have hfu1 : -2149631131648000 ≤ fu ∧ fu ≤ 2149631131648000 := by omega
            have hwr : IntKind.i64.wrap (fu + t) = fu + t := IntWalk.i64_in _ (by omega)
            have HWR := Lib.hid hwr
            clear hwr
            have HGE := Lib.hid hge
            have HFU := Lib.hid hfu
            have HFV := Lib.hid hfv
            have HBU := Lib.hid hbu
            have HBV := Lib.hid hbv
            have HZI := Lib.hid hz
            have HBE := Lib.hid hE1
            have HEN := Lib.hid hE2
            have HTI2 := Lib.hid hti
            have HNO : Hid (gives tm d r = false → okO tm ((rowsR Z F).take (i + 1)) d0 = ok1 ∧ relaxAllO tm ((rowsR Z F).take (i + 1)) d0 = d) := Lib.hid (fun e => ⟨by rw [HS2.out, e]; simp, by rw [HS1.out, relaxO_same e]⟩)
            have HYES : Hid (gives tm d r = true → okO tm ((rowsR Z F).take (i + 1)) d0 = false ∧ relaxAllO tm ((rowsR Z F).take (i + 1)) d0 = d.set y (some (fu + t))) := Lib.hid (fun e => ⟨by rw [HS2.out, e]; simp, by rw [HS1.out, hry e]⟩)
            have HBN : Hid (BdO (relaxAllO tm ((rowsR Z F).take (i + 1)) d0) (k * L.length + (i + 1))) := Lib.hid (by rw [HS1.out, ← Nat.add_assoc]; exact HRX.out)
            obtain ⟨hxN, hyN⟩ := hxy
            have hxi : (x : Int) < (N : Int) := by omega
            have hyi : (y : Int) < (N : Int) := by omega
            clear hge hry hfu hfv hbu hbv hz hE1 hE2 hti hfr hto htm hlt hA ha hmem hta hbx hby hu hub hkl HS1 HS2 HTI HRX HBD tx ty fy mx my gy c0 c1 c2 f2
            have v0 := cell_below' HX.out.below k0 hxl
            have v1 := cell_below' HX.out.below k1 hxl
            have v2 := cell_below' HX.out.below k2 hxl
            have v3 := (stepC HX.out.row HZI.out).1
            have v4 := (stepC HX.out.row HZI.out).2
            have z0 : wr.drew.cell? ⟨w.heap.size, 0, none⟩ = some (.int .i64 (N : Int)) := v0
            have z1 : wr.drew.cell? ⟨w.heap.size, 1, none⟩ = some (.bool b) := v1
            have z2 : wr.drew.cell? ⟨w.heap.size, 2, none⟩ = some (.slice ao Z.length cap) := v2
            have z3 : wr.drew.cell? ⟨lb, lx + i * 2, none⟩ = some (.int .i64 (p : Int)) := v3
            have z4 : wr.drew.cell? ⟨lb, lx + i * 2 + 1, none⟩ = some (.bool q) := v4
            have HXx : Hid (RX w1 wr.drew gd gi gt N ok1 d (some ⟨lb, lx, none⟩) L) := Lib.hid (HX.out.next (below_drew (Below.refl wr.heap.size wr)))
            have HRx : Hid (Row encA 4 wr.drew ao Z) := Lib.hid (HR.out.below' HXx.out.below)
            go_wp2_with fail
            go_cut [11, 12] (fun p1 p2 wc => p1 = .int .i64 (x : Int) ∧ p2 = .int .i64 (y : Int) ∧ Hid (RX w1 wc gd gi gt N ok1 d (some ⟨lb, lx, none⟩) L))
            case first =>
              go_region_held3 (fun W => W.cell? ⟨w.heap.size, 0, none⟩ = some (.int .i64 (N : Int)) ∧ W.cell? ⟨w.heap.size, 1, none⟩ = some (.bool b) ∧ W.cell? ⟨w.heap.size, 2, none⟩ = some (.slice ao Z.length cap) ∧ W.cell? ⟨lb, lx + i * 2, none⟩ = some (.int .i64 (p : Int)) ∧ W.cell? ⟨lb, lx + i * 2 + 1, none⟩ = some (.bool q)) (first | exact ⟨v0, v1, v2, v3, v4⟩ | exact ⟨z0, z1, z2, z3, z4⟩ | go_keep)
                (first
                  | (go_at_call 57; refine (rfrom_at (N : Int) b ao cap Z p q a _ HRx.out HA.out (by omega)).mono ?_; rintro e w7 ⟨rfl, b6⟩; rw [HBE.out]; have z0 := cell_below b6 z0; have z1 := cell_below b6 z1; have z2 := cell_below b6 z2; have z3 := cell_below b6 z3; have z4 := cell_below b6 z4; have HRx := Lib.hid (HRx.out.below' b6); have HXx := Lib.hid (HXx.out.next b6); clear b6)
                  | (go_at_call 66; refine (rto_at (N : Int) b ao cap Z p q a _ HRx.out HA.out (by omega)).mono ?_; rintro e w7 ⟨rfl, b6⟩; rw [HEN.out]; have z0 := cell_below b6 z0; have z1 := cell_below b6 z1; have z2 := cell_below b6 z2; have z3 := cell_below b6 z3; have z4 := cell_below b6 z4; have HRx := Lib.hid (HRx.out.below' b6); have HXx := Lib.hid (HXx.out.next b6); clear b6))
              all_goals
                go_wp2
                go_meet
                exact ⟨rfl, rfl, HXx⟩
            case rest =>
              obtain ⟨rfl, rfl, HY⟩ := hcut
              clear v0 v1 v2 v3 v4 z0 z1 z2 z3 z4 HXx HRx HX
              have v0 := cell_below' HY.out.below k0 hxl
              have v1 := cell_below' HY.out.below k1 hxl
              have v2 := cell_below' HY.out.below k2 hxl
              have v3 := (stepC HY.out.row HZI.out).1
              have v4 := (stepC HY.out.row HZI.out).2
              have v5 := HY.out.cells.1.1
              have v6 : wc.cell? ⟨gd, x, none⟩ = some (.int .i64 fu) := by have := (HY.out.time hxN).1; rw [HFU.out] at this; exact this
              have z0 : wc.drew.cell? ⟨w.heap.size, 0, none⟩ = some (.int .i64 (N : Int)) := v0
              have z1 : wc.drew.cell? ⟨w.heap.size, 1, none⟩ = some (.bool b) := v1
              have z2 : wc.drew.cell? ⟨w.heap.size, 2, none⟩ = some (.slice ao Z.length cap) := v2
              have z3 : wc.drew.cell? ⟨lb, lx + i * 2, none⟩ = some (.int .i64 (p : Int)) := v3
              have z4 : wc.drew.cell? ⟨lb, lx + i * 2 + 1, none⟩ = some (.bool q) := v4
              have z5 : wc.drew.cell? ⟨gt, 0, none⟩ = some (.slice (some ⟨gd, 0, none⟩) N N) := v5
              have z6 : wc.drew.cell? ⟨gd, x, none⟩ = some (.int .i64 fu) := v6
              have HYx : Hid (RX w1 wc.drew gd gi gt N ok1 d (some ⟨lb, lx, none⟩) L) := Lib.hid (HY.out.next (below_drew (Below.refl wc.heap.size wc)))
              have HRx : Hid (Row encA 4 wc.drew ao Z) := Lib.hid (HR.out.below' HYx.out.below)
              go_wp2_with fail
              go_cut [13] (fun p3 w8 => p3 = .int .i64 (fu + t) ∧ Hid (RX w1 w8 gd gi gt N ok1 d (some ⟨lb, lx, none⟩) L))
              case first =>
                go_region_held3 (fun W => W.cell? ⟨w.heap.size, 0, none⟩ = some (.int .i64 (N : Int)) ∧ W.cell? ⟨w.heap.size, 1, none⟩ = some (.bool b) ∧ W.cell? ⟨w.heap.size, 2, none⟩ = some (.slice ao Z.length cap) ∧ W.cell? ⟨lb, lx + i * 2, none⟩ = some (.int .i64 (p : Int)) ∧ W.cell? ⟨lb, lx + i * 2 + 1, none⟩ = some (.bool q) ∧ W.cell? ⟨gt, 0, none⟩ = some (.slice (some ⟨gd, 0, none⟩) N N) ∧ W.cell? ⟨gd, x, none⟩ = some (.int .i64 fu)) (first | exact ⟨v0, v1, v2, v3, v4, v5, v6⟩ | exact ⟨z0, z1, z2, z3, z4, z5, z6⟩ | go_keep)
                  (first | (go_at_call 67; refine (rtime_at (N : Int) b ao cap Z p q a _ HRx.out HA.out (by omega) HTA.out).mono ?_; rintro e w7 ⟨rfl, b6⟩; rw [HTI2.out]; have z0 := cell_below b6 z0; have z1 := cell_below b6 z1; have z2 := cell_below b6 z2; have z3 := cell_below b6 z3; have z4 := cell_below b6 z4; have z5 := cell_below b6 z5; have z6 := cell_below b6 z6; have HYx := Lib.hid (HYx.out.next b6); clear b6))
                all_goals
                  go_wp2
                  go_meet
                  exact ⟨by rw [HWR.out], HYx⟩
              case rest =>
                obtain ⟨rfl, HX⟩ := hcut
                clear v0 v1 v2 v3 v4 v5 v6 z0 z1 z2 z3 z4 z5 z6 HYx HRx HY
                obtain ⟨⟨c0, c1, c2⟩, f2⟩ := HX.out.cells
                have hne1 : gd ≠ gi := HX.out.ne.1
                have hne2 : gi ≠ gd := fun e => hne1 e.symm
                have hne3 : gt ≠ gd := HX.out.ne.2.1
                have hne4 : gd ≠ gt := fun e => hne3 e.symm
                have hne5 : gt ≠ gi := HX.out.ne.2.2
                have hne6 : gi ≠ gt := fun e => hne5 e.symm
                obtain ⟨ty, fy⟩ := HX.out.time hyN
                obtain ⟨mx, _⟩ := HX.out.has hxN
                obtain ⟨my, gy⟩ := HX.out.has hyN
                rw [HFV.out] at ty
                rw [HBU.out] at mx
                rw [HBV.out] at my
                cases bu
                · obtain ⟨e1, e2⟩ := HNO.out (by rw [HGE.out]; simp)
                  have HQ := Lib.hid (show RX w1 _ gd gi gt N (okO tm ((rowsR Z F).take (i + 1)) d0) (relaxAllO tm ((rowsR Z F).take (i + 1)) d0) (some ⟨lb, lx, none⟩) L by rw [e1, e2]; exact HX.out)
                  clear e1 e2
                  go_wp2
                  go_roundw
                  case rel => exact ⟨i + 1, by omega, by go_num, HQ, HBN⟩
                  case measure => simp [intOf]; omega
                · cases bv
                  · obtain ⟨e1, e2⟩ := HYES.out (by rw [HGE.out]; simp)
                    have HE1 := Lib.hid e1
                    have HE2 := Lib.hid e2
                    clear e1 e2
                    go_wp2_with fail
                    go_cut [] (fun w9 => Hid (RX w1 w9 gd gi gt N ok1 (d.set y (some (fu + t))) (some ⟨lb, lx, none⟩) L))
                    case first =>
                      go_region
                      all_goals
                        go_wp2
                        go_meet
                        first
                          | exact Lib.hid ((HX.out.updDI y (fu + t)).next (below_drew (Below.refl _ _)))
                          | exact Lib.hid ((HX.out.updID y (fu + t)).next (below_drew (Below.refl _ _)))
                    case rest =>
                      clear c0 c1 c2 f2 ty fy mx my gy
                      obtain ⟨⟨_, _, c2⟩, f2⟩ := hcut.out.cells
                      have HQ := Lib.hid (show RX w1 _ gd gi gt N (okO tm ((rowsR Z F).take (i + 1)) d0) (relaxAllO tm ((rowsR Z F).take (i + 1)) d0) (some ⟨lb, lx, none⟩) L by rw [HE1.out, HE2.out]; exact hcut.out.mark false)
                      go_wp2
                      go_roundw
                      case rel => exact ⟨i + 1, by omega, by go_num, HQ, HBN⟩
                      case measure => simp [intOf]; omega
                  · by_cases hlt : fu + t < fv
                    · have hdc : decide (fu + t < fv) = true := decide_eq_true hlt
                      obtain ⟨e1, e2⟩ := HYES.out (by rw [HGE.out]; simp [hlt])
                      have HE1 := Lib.hid e1
                      have HE2 := Lib.hid e2
                      clear e1 e2
                      go_wp2_with fail
                      go_cut [] (fun w9 => Hid (RX w1 w9 gd gi gt N ok1 (d.set y (some (fu + t))) (some ⟨lb, lx, none⟩) L))
                      case first =>
                        go_region
                        all_goals
                          go_wp2
                          go_meet
                          first
                            | exact Lib.hid ((HX.out.updDI y (fu + t)).next (below_drew (Below.refl _ _)))
                            | exact Lib.hid ((HX.out.updID y (fu + t)).next (below_drew (Below.refl _ _)))
                      case rest =>
                        clear c0 c1 c2 f2 ty fy mx my gy
                        obtain ⟨⟨_, _, c2⟩, f2⟩ := hcut.out.cells
                        have HQ := Lib.hid (show RX w1 _ gd gi gt N (okO tm ((rowsR Z F).take (i + 1)) d0) (relaxAllO tm ((rowsR Z F).take (i + 1)) d0) (some ⟨lb, lx, none⟩) L by rw [HE1.out, HE2.out]; exact hcut.out.mark false)
                        go_wp2
                        go_roundw
                        case rel => exact ⟨i + 1, by omega, by go_num, HQ, HBN⟩
                        case measure => simp [intOf]; omega
                    · have hdc : decide (fu + t < fv) = false := decide_eq_false hlt
                      obtain ⟨e1, e2⟩ := HNO.out (by rw [HGE.out]; simp; omega)
                      have HQ := Lib.hid (show RX w1 _ gd gi gt N (okO tm ((rowsR Z F).take (i + 1)) d0) (relaxAllO tm ((rowsR Z F).take (i + 1)) d0) (some ⟨lb, lx, none⟩) L by rw [e1, e2]; exact HX.out)
                      clear e1 e2
                      go_wp2
                      go_roundw
                      case rel => exact ⟨i + 1, by omega, by go_num, HQ, HBN⟩
                      case measure => simp [intOf]; omega
          · have hii : ¬ (i : Int) < (L.length : Int) := by omega
            obtain rfl : i = L.length := by omega
            have HX4 := HX.out
            have HB4 := HBD.out
            rw [HRF.out] at HX4 HB4
            have HX5 := Lib.hid HX4
            have HB5 : Hid (BdO (relaxAllO tm (rowsR Z F) d0) ((k + 1) * L.length)) := Lib.hid (by rw [Nat.succ_mul]; exact HB4)
            clear HX4 HB4 HX HBD
            go_wp2
            go_roundw
            case rel => exact ⟨k + 1, _, by omega, by go_num, Lib.hid (fun e => HCK.out (by omega)), Lib.hid (by rw [HDK.out]; exact HX5.out), Lib.hid (by rw [HDK.out]; exact HB5.out)⟩
            case measure => simp [intOf]; omega
      · have hki : ¬ (k : Int) ≤ (N : Int) := by omega
        obtain rfl : k = N + 1 := by omega
        have hok := HOK.out rfl
        subst hok
        have hvl := lt_whole HV.out
        have hv2 := kept_box HV.out HX.out.below
        obtain ⟨⟨c0, c1, c2⟩, _⟩ := HX.out.cells
        have m0 := cell_whole hv2 0
        have m1 := cell_whole hv2 1
        have m2 := cell_whole hv2 2
        have f0 := frozen_whole hv2 0
        have f1 := frozen_whole hv2 1
        have f2 := frozen_whole hv2 2
        have HV2 := Lib.hid hv2
        clear hv2 HOK HBD
        go_wp2
        obtain ⟨hs1, hk1⟩ := r3Set HV2.out (.slice (some ⟨gd, 0, none⟩) N N) (.slice (some ⟨gi, 0, none⟩) N N) (.bool (calmN Z F N s))
        have hl := HX.out.lt
        have HD := Lib.hid (ownL_kept HX.out.dd hk1 (fun g e => by simp [Value.ownBlock] at e; subst e; show gd ≠ w.heap.size + 1; omega)).lstK
        have HI := Lib.hid (ownL_kept HX.out.ii hk1 (fun g e => by simp [Value.ownBlock] at e; subst e; show gi ≠ w.heap.size + 1; omega)).lstK
        have HBW := Lib.hid (hk1.below (HB0.out.trans (HX.out.below.mono HB0.out.size)).size (fun i e => by have e2 : i = w.heap.size + 1 := e; omega))
        have HB9 := Lib.hid (HB0.out.trans (HX.out.below.mono HB0.out.size))
        clear m0 m1 m2 f0 f1 f2 c0 c1 c2 hk1 HX HV2
        generalize World.setCell (World.setCell (World.setCell _ _ _) _ _) _ _ = W at *
        have k0 := cell_whole hs1 0
        have k1 := cell_whole hs1 1
        have k2 := cell_whole hs1 2
        exact bodyPost_ret (v := .agg #[.slice (some ⟨gd, 0, none⟩) N N, .slice (some ⟨gi, 0, none⟩) N N, .bool (calmN Z F N s)]) (by simp [results, Tryz.results46, go_sem, k0, k1, k2]) rfl ⟨gd, gi, rfl, HD.out, HI.out, HB9.out.trans (HBW.out.mono (Nat.le_refl _))⟩
end
end Go.Proofs.YtlkbohpnlbfopaaGreat
namespace Go.Proofs.YtlkbohpnlbfopaaGreat
open Go.RowKit
set_option linter.unusedVariables false
section
variable (n : Int) (b : Bool) (ao fo : Option Addr) (cap fc : Nat) (Z : List ArcT) (F : List Int)
end
end Go.Proofs.YtlkbohpnlbfopaaGreat
namespace Go.Proofs.YtlkbohpnlbfopaaGreat
open Go.RowKit
set_option linter.unusedVariables false
section
variable (n : Int) (b : Bool) (ao fo po : Option Addr) (cap fc pc : Nat) (Z : List ArcT) (F P : List Int)
end
end Go.Proofs.YtlkbohpnlbfopaaGreat
namespace Go.Proofs.YtlkbohpnlbfopaaGreat
set_option linter.unusedVariables false
def relI (P : List Int) (a : ArcT) : List Int := P.set (toN a) (min (atI P (toN a)) (atI P (frN a) + tm a))
def relAllI (P : List Int) (Y : List ArcT) : List Int := Y.foldl relI P
def tightA (P : List Int) (a : ArcT) : Bool := decide (atI P (toN a) ≤ atI P (frN a) + tm a)
def itI (R : List ArcT) (P : List Int) : Nat → List Int
  | 0 => P
  | k + 1 => relAllI (itI R P k) R
theorem relI_len (P : List Int) (a : ArcT) : (relI P a).length = P.length := by unfold relI; simp
theorem relAllI_len : ∀ (Y : List ArcT) (P : List Int), (relAllI P Y).length = P.length
  | [], P => rfl
  | a :: r, P => by
    show (relAllI (relI P a) r).length = _
    rw [relAllI_len r, relI_len]
theorem itI_len (R : List ArcT) (P : List Int) : ∀ k, (itI R P k).length = P.length
  | 0 => rfl
  | k + 1 => by
    show (relAllI (itI R P k) R).length = _
    rw [relAllI_len, itI_len R P k]
theorem relI_at {P : List Int} {a : ArcT} (h : toN a < P.length) (v : Nat) : atI (relI P a) v = if v = toN a then min (atI P (toN a)) (atI P (frN a) + tm a) else atI P v := by
  unfold relI
  exact atI_set h
def SetIs (R : List ArcT) (P : List Int) (b : Bool) (Q : List Int) : Prop :=
  ∃ k, k ≤ P.length ∧ Q = itI R P k ∧ (b = true → ∀ a ∈ R, tightA Q a = true) ∧ (b = false → ∀ j, j < P.length → ∃ a ∈ R, tightA (itI R P j) a = false)
theorem SetIs.len {R : List ArcT} {P Q : List Int} {b : Bool} (h : SetIs R P b Q) : Q.length = P.length := by
  obtain ⟨k, _, e, _⟩ := h
  rw [e, itI_len]
theorem zeros_at (N v : Nat) : atI (List.replicate N 0) v = 0 := by
  unfold atI
  rw [List.getD_eq_getElem?_getD, List.getElem?_replicate]
  split <;> rfl
theorem walk_rows {Z : List ArcT} {p : List StepT} {u v : Nat} : Walk (fromS Z) (toS Z) u p v ↔ Chain u (p.map (rowS Z)) v := by
  induction p generalizing u with
  | nil => simp [Walk, Chain]
  | cons a r ih => simp only [Walk, List.map_cons, Chain, rowS_fr, rowS_to, ih]
theorem rows_lift {Z : List ArcT} {F : List Int} : ∀ (q : List ArcT), (∀ a ∈ q, a ∈ rowsR Z F) → ∃ p : List StepT, (∀ s ∈ p, s ∈ stepsK Z F Z.length) ∧ p.map (rowS Z) = q
  | [], _ => ⟨[], by simp, rfl⟩
  | a :: r, h => by
    obtain ⟨p, h1, h2⟩ := rows_lift r (fun b hb => h b (by simp [hb]))
    have ha := h a (by simp)
    unfold rowsR at ha
    obtain ⟨s, hs, e⟩ := List.mem_map.1 ha
    refine ⟨s :: p, fun x hx => ?_, by rw [List.map_cons, h2, e]⟩
    rcases List.mem_cons.1 hx with rfl | hx
    · exact hs
    · exact h1 x hx
def BdI (P : List Int) (u : Nat) : Prop := ∀ v, -(u * 1073741824 : Int) ≤ atI P v ∧ atI P v ≤ u * 1073741824
theorem BdI.rel {P : List Int} {u : Nat} {a : ArcT} (h : BdI P u) (hc : -1073741824 ≤ tm a ∧ tm a ≤ 1073741824) (hto : toN a < P.length) : BdI (relI P a) (u + 1) := by
  intro v
  rw [relI_at hto]
  have h1 := h (frN a)
  have h2 := h (toN a)
  have h3 := h v
  generalize atI P (frN a) = x at *
  generalize atI P (toN a) = y at *
  generalize atI P v = z at *
  generalize tm a = t at *
  split <;> omega
theorem BdI.relAll : ∀ (Y : List ArcT) (P : List Int) (u : Nat), BdI P u → (∀ a ∈ Y, (-1073741824 ≤ tm a ∧ tm a ≤ 1073741824) ∧ toN a < P.length) → BdI (relAllI P Y) (u + Y.length) := by
  intro Y
  induction Y with
  | nil => intro P u h _; exact h
  | cons a r ih =>
    intro P u h hY
    obtain ⟨h1, h2⟩ := hY a (by simp)
    have := ih (relI P a) (u + 1) (h.rel h1 h2) (fun b hb => by rw [relI_len]; exact hY b (by simp [hb]))
    rw [List.length_cons, show u + (r.length + 1) = u + 1 + r.length by omega]
    exact this
theorem BdI.it {R : List ArcT} {P : List Int} {u : Nat} (h : BdI P u) (hR : ∀ a ∈ R, (-1073741824 ≤ tm a ∧ tm a ≤ 1073741824) ∧ toN a < P.length) : ∀ k, BdI (itI R P k) (u + k * R.length)
  | 0 => by rw [Nat.zero_mul]; exact h
  | k + 1 => by
    have := BdI.relAll R _ _ (BdI.it h hR k) (fun a ha => by rw [itI_len]; exact hR a ha)
    rw [Nat.succ_mul, ← Nat.add_assoc]
    exact this
theorem BdO.relaxAll : ∀ (Y : List ArcT) (d : List (Option Int)) (u : Nat), BdO d u → (∀ a ∈ Y, (-1073741824 ≤ tm a ∧ tm a ≤ 1073741824) ∧ toN a < d.length) → BdO (relaxAllO tm Y d) (u + Y.length) := by
  intro Y
  induction Y with
  | nil => intro d u h _; exact h
  | cons a r ih =>
    intro d u h hY
    obtain ⟨h1, h2⟩ := hY a (by simp)
    have := ih (relaxO tm d a) (u + 1) (h.relax (c := tm) h1 h2) (fun b hb => by rw [relaxO_len]; exact hY b (by simp [hb]))
    rw [List.length_cons, show u + (r.length + 1) = u + 1 + r.length by omega]
    exact this
theorem BdO.bell {R : List ArcT} {N s : Nat} (hR : ∀ a ∈ R, (-1073741824 ≤ tm a ∧ tm a ≤ 1073741824) ∧ toN a < N) : ∀ k, BdO (bellK tm R N s k) (k * R.length)
  | 0 => by rw [Nat.zero_mul]; exact BdO.start N s
  | k + 1 => by
    have := BdO.relaxAll R _ _ (BdO.bell (s := s) hR k) (fun a ha => by rw [bellK_len]; exact hR a ha)
    rw [Nat.succ_mul]
    exact this
end Go.Proofs.YtlkbohpnlbfopaaGreat
