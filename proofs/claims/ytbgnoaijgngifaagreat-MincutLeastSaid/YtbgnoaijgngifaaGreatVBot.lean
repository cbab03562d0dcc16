/- Bottle of package ebbtideref08: the least room of steps. -/
import Derived.Test.YtbgnoaijgngifaaGreatVHas
import Derived.Deep.RegionHeld3
namespace Go.Proofs.YtbgnoaijgngifaaGreat
open Go.RowKit
set_option linter.unusedVariables false

/-- A step whose room can be reckoned. -/
def StepOk (Z : List ArcT) (F : List Int) (y : StepT) : Prop := ∃ (p : Nat) (a : ArcT) (q : Bool), y = ((p : Int), q) ∧ Z[p]? = some a ∧ F[p]? = some (atI F p) ∧ 0 ≤ atI F p ∧ atI F p ≤ 4398046511104 ∧ 0 ≤ a.2.2.1 ∧ a.2.2.1 ≤ 4398046511104
theorem StepOk.left {Z : List ArcT} {F : List Int} {y : StepT} (h : StepOk Z F y) : -4398046511104 ≤ leftS Z F y ∧ leftS Z F y ≤ 4398046511104 := by
  obtain ⟨p, a, q, rfl, ha, _, h1, h2, h3, h4⟩ := h
  obtain ⟨l0, l1⟩ := left_at (F := F) ha
  cases q
  · rw [l0]; unfold capN; omega
  · rw [l1]; omega
section
variable (n : Int) (b : Bool) (ao fo lo : Option Addr) (cap fc lc : Nat) (Z : List ArcT) (F : List Int) (L : List StepT)
set_option maxRecDepth 100000 in
set_option maxHeartbeats 4000000 in
theorem rbottle_any (w : World) (h : Row encA 4 w ao Z) (hf : Lst encI w fo F) (hl : Row encS 2 w lo L) (hL : L ≠ []) (hll : L.length ≤ 200000) (hz : Z.length ≤ 200000) (hfl : F.length ≤ 200000) (hok : ∀ y ∈ L, StepOk Z F y) :
    Calls Tryz.prog 30 #[.agg #[.int .i64 n, .bool b, .slice ao Z.length cap], .slice fo F.length fc, .slice lo L.length lc] w fun e w' => e = .returned (.int .i64 (botK Z F L)) ∧ Below w.heap.size w w' := by
  have hb00 := (Below.refl _ w).alloc (Nat.le_refl _) (.cells #[.int .i64 n, .bool b, .slice ao Z.length cap] 24)
  have HB0 := Lib.hid hb00
  have c0 := cell_new w #[.int .i64 n, .bool b, .slice ao Z.length cap] 24 0
  have c1 := cell_new w #[.int .i64 n, .bool b, .slice ao Z.length cap] 24 1
  have c2 := cell_new w #[.int .i64 n, .bool b, .slice ao Z.length cap] 24 2
  have HR := Lib.hid (h.below' hb00)
  have HF := Lib.hid (hf.below hb00)
  have HLR := Lib.hid (hl.below' hb00)
  have HOK := Lib.hid hok
  have h0l : 0 < L.length := List.length_pos_iff.2 hL
  have hli0 : (0 : Int) < (L.length : Int) := by omega
  obtain ⟨y0, r, hLe⟩ : ∃ y0 r, L = y0 :: r := by cases L with | nil => exact absurd rfl hL | cons a l => exact ⟨a, l, rfl⟩
  have HLE : Hid (∀ k, 0 < k → botA Z F (leftS Z F y0) ((L.take k).drop 1) = botK Z F (L.take k)) := Lib.hid (fun k hk => by rw [hLe]; obtain ⟨m, rfl⟩ : ∃ m, k = m + 1 := ⟨k - 1, by omega⟩; simp [botK])
  obtain ⟨lb, lx, rfl, hlb, s0, s1⟩ := step_at HLR.out (i := 0) (x := y0) (by rw [hLe]; rfl)
  obtain ⟨p, a, q, hy, ha, hx, b1, b2, b3, b4⟩ := hok y0 (by rw [hLe]; simp)
  have HRM : Hid (roomI a (atI F p) q = leftS Z F y0) := Lib.hid (by rw [hy, left_room ha])
  have HA := Lib.hid ha
  have HXX := Lib.hid hx
  subst hy
  simp only at s0 s1
  have hlt1 : lb < (w.alloc (.cells #[.int .i64 n, .bool b, .slice ao Z.length cap] 24)).heap.size := hlb
  clear h hf hl hok hb00 ha hx hL hLe
  rw [Nat.zero_mul, Nat.add_zero] at s0 s1
  go_enter Tryz.func30, Tryz.ntmps30
  go_wp2
  generalize w.alloc (.cells #[.int .i64 n, .bool b, .slice ao Z.length cap] 24) = w1 at *
  go_region_held3 (fun W => W.cell? ⟨w.heap.size, 0, none⟩ = some (.int .i64 n) ∧ W.cell? ⟨w.heap.size, 1, none⟩ = some (.bool b) ∧ W.cell? ⟨w.heap.size, 2, none⟩ = some (.slice ao Z.length cap) ∧ W.cell? ⟨lb, lx, none⟩ = some (.int .i64 (p : Int)) ∧ W.cell? ⟨lb, lx + 1, none⟩ = some (.bool q)) (first | exact ⟨c0, c1, c2, s0, s1⟩ | exact ⟨z0, z1, z2, z3, z4⟩ | go_keep)
    (first | (go_at_call 47; refine (rleft_at n b ao cap Z fo fc F p q a (atI F p) w1.drew (HR.out.below' (below_drew (Below.refl w1.heap.size w1))) (HF.out.below (below_drew (Below.refl w1.heap.size w1))) HA.out HXX.out hz hfl b1 b2 b3 b4).mono ?_; rintro e w6 ⟨rfl, b6⟩; rw [HRM.out]; have z0 := cell_below (w := w1.drew) b6 c0; have z1 := cell_below (w := w1.drew) b6 c1; have z2 := cell_below (w := w1.drew) b6 c2; have z3 := cell_below (w := w1.drew) b6 s0; have z4 := cell_below (w := w1.drew) b6 s1; have HB6 := Lib.hid ((below_drew (Below.refl w1.heap.size w1)).trans b6); clear b6))
  all_goals
    have HL6 := Lib.hid (HLR.out.below' HB6.out)
    go_wp2
    go_loopw [7, 8] (fun kv iv wr => ∃ j : Nat, 0 < j ∧ j ≤ L.length ∧ iv = .int .i64 (j : Int) ∧ kv = .int .i64 (botK Z F (L.take j)) ∧ Hid (Below w1.heap.size w1 wr)) (fun _ iv _ => L.length - (intOf iv).toNat)
    case atStart => exact ⟨1, by omega, by omega, rfl, by rw [← HLE.out 1 (by omega)]; simp [botA], HB6⟩
    case round =>
      clear HB6 HL6
      obtain ⟨j, hj0, hj, rfl, rfl, HB⟩ := hrel
      by_cases hlt : j < L.length
      · have hli : (j : Int) < (L.length : Int) := by omega
        have HBK : Hid (min (botK Z F (L.take j)) (leftS Z F L[j]) = botK Z F (L.take (j + 1))) := Lib.hid (by
          rw [← HLE.out j hj0, ← HLE.out (j + 1) (by omega), List.take_succ_eq_append_getElem hlt, List.drop_append_of_le_length (by simp; omega), botA_snoc])
        obtain ⟨lb2, lx2, e, hlb2, s2, s3⟩ := step_at (HLR.out.below' HB.out) (List.getElem?_eq_getElem hlt)
        cases e
        have hokj := HOK.out _ (List.getElem_mem hlt)
        have d0 := cell_below' HB.out c0 (block_lt_of_cell c0)
        have d1 := cell_below' HB.out c1 (block_lt_of_cell c1)
        have d2 := cell_below' HB.out c2 (block_lt_of_cell c2)
        generalize L[j] = y at *
        obtain ⟨p2, a2, q2, hy2, ha2, hx2, e1, e2, e3, e4⟩ := hokj
        have HRM2 : Hid (roomI a2 (atI F p2) q2 = leftS Z F y) := Lib.hid (by rw [hy2, left_room ha2])
        have HA2 := Lib.hid ha2
        have HX2 := Lib.hid hx2
        subst hy2
        simp only at s2 s3
        obtain ⟨kb, hkb⟩ : ∃ kb, botK Z F (L.take j) = kb := ⟨_, rfl⟩
        rw [hkb] at HBK ⊢
        obtain ⟨rm, hrm⟩ : ∃ rm, leftS Z F ((p2 : Int), q2) = rm := ⟨_, rfl⟩
        rw [hrm] at HBK HRM2
        have HRW := Lib.hid (HR.out.below' HB.out)
        have HFW := Lib.hid (HF.out.below HB.out)
        clear ha2 hx2 hkb hrm
        go_wp2_with fail
        go_region_held3 (fun W => W.cell? ⟨w.heap.size, 0, none⟩ = some (.int .i64 n) ∧ W.cell? ⟨w.heap.size, 1, none⟩ = some (.bool b) ∧ W.cell? ⟨w.heap.size, 2, none⟩ = some (.slice ao Z.length cap) ∧ W.cell? ⟨lb, lx + j * 2, none⟩ = some (.int .i64 (p2 : Int)) ∧ W.cell? ⟨lb, lx + j * 2 + 1, none⟩ = some (.bool q2)) (first | exact ⟨d0, d1, d2, s2, s3⟩ | exact ⟨z0, z1, z2, z3, z4⟩ | go_keep)
          (first | (go_at_call 47; refine (rleft_at n b ao cap Z fo fc F p2 q2 a2 (atI F p2) wr.drew (HRW.out.below' (below_drew (Below.refl wr.heap.size wr))) (HFW.out.below (below_drew (Below.refl wr.heap.size wr))) HA2.out HX2.out hz hfl e1 e2 e3 e4).mono ?_; rintro e w6 ⟨rfl, b6⟩; rw [HRM2.out]; have z0 := cell_below (w := wr.drew) b6 d0; have z1 := cell_below (w := wr.drew) b6 d1; have z2 := cell_below (w := wr.drew) b6 d2; have z3 := cell_below (w := wr.drew) b6 s2; have z4 := cell_below (w := wr.drew) b6 s3; have HB7 := Lib.hid ((below_drew HB.out).trans (b6.mono HB.out.size)); clear b6))
        all_goals
          go_wp2
          go_roundw
          case rel => exact ⟨j + 1, by omega, by omega, by go_num, by rw [← HBK.out], HB7⟩
          case measure => simp [intOf]; omega
      · have hli : ¬ (j : Int) < (L.length : Int) := by omega
        obtain rfl : j = L.length := by omega
        rw [List.take_length]
        go_wp2
        go_ret
        exact ⟨rfl, HB0.out.trans (HB.out.mono HB0.out.size)⟩
end
end Go.Proofs.YtbgnoaijgngifaaGreat
