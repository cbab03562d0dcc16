/- A network taken together with a flow: load, apart and push of the program; Within and Asked of the document. -/
import Derived.Test.YtbolpjahmmjllaaSStep
namespace Go.Proofs.Ytbolpjahmmjllaa
open Go.RowKit
set_option linter.unusedVariables false

theorem kept_box {w w' : World} {g : Nat} {o : Obj} (h : w.heap[g]? = some o) (hb : Below w.heap.size w w') : w'.heap[g]? = some o := (hb.block g (lt_whole h)).trans h
/-- The four cells of a network with a flow are written into its variable. -/
theorem ldSet {w0 w : World} {B g : Nat} {a b c d : Value} {t : TypeId} (h : w.heap[g]? = some (.cells #[a, b, c, d] t (0, 0))) (hb : Below B w0 w) (hg : B ≤ g) (x y z u : Value) :
    ((((w.setCell ⟨g, 0, none⟩ x).setCell ⟨g, 1, none⟩ y).setCell ⟨g, 2, none⟩ z).setCell ⟨g, 3, none⟩ u).heap[g]? = some (.cells #[x, y, z, u] t (0, 0)) ∧ Below B w0 ((((w.setCell ⟨g, 0, none⟩ x).setCell ⟨g, 1, none⟩ y).setCell ⟨g, 2, none⟩ z).setCell ⟨g, 3, none⟩ u) :=
  ⟨set_whole (set_whole (set_whole (set_whole h 0 x) 1 y) 2 z) 3 u, (((hb.setCell (p := ⟨g, 0, none⟩) hg x).setCell (p := ⟨g, 1, none⟩) hg y).setCell (p := ⟨g, 2, none⟩) hg z).setCell (p := ⟨g, 3, none⟩) hg u⟩
theorem ldCells {w : World} {g : Nat} {x y z u : Value} {t : TypeId} (h : w.heap[g]? = some (.cells #[x, y, z, u] t (0, 0))) :
    (w.cell? ⟨g, 0, none⟩ = some x ∧ w.cell? ⟨g, 1, none⟩ = some y ∧ w.cell? ⟨g, 2, none⟩ = some z ∧ w.cell? ⟨g, 3, none⟩ = some u) ∧ w.frozen? ⟨g, 0, none⟩ = false ∧ w.frozen? ⟨g, 1, none⟩ = false ∧ w.frozen? ⟨g, 2, none⟩ = false ∧ w.frozen? ⟨g, 3, none⟩ = false :=
  ⟨⟨cell_whole h 0, cell_whole h 1, cell_whole h 2, cell_whole h 3⟩, frozen_whole h 0, frozen_whole h 1, frozen_whole h 2, frozen_whole h 3⟩
theorem flow_facts {n : Int} {b : Bool} {Z : List ArcT} {F : List Int} (h : flowE n Z F = 0) : Right (n, b, Z) ∧ Flow Z F ∧ Z.length ≤ 200 ∧ F.length = Z.length ∧ 1 ≤ n ∧ n ≤ 50 := by
  obtain ⟨h1, h2⟩ := flowE_ok h
  have hR : Right (n, b, Z) := right_iff.1 h1
  have hn := nodesE_ok hR.1
  simp only at hn
  exact ⟨hR, flowB_flow h2, hR.2.1, flowB_len h2, hn.1, hn.2⟩
theorem flow_bd {n : Int} {b : Bool} {Z : List ArcT} {F : List Int} (hR : Right (n, b, Z)) (hf : Flow Z F) {i : Nat} {a : ArcT} (ha : Z[i]? = some a) : 0 ≤ atI F i ∧ atI F i ≤ capN a ∧ 0 ≤ capN a ∧ capN a ≤ 1048576 ∧ 0 ≤ tm a ∧ tm a ≤ 1048576 := by
  have h1 := hf.2 i a ha
  obtain ⟨h2, h3⟩ := arcE_ok (hR.2.2 a (List.mem_of_getElem? ha))
  unfold badEnds at h2
  unfold bigArc at h3
  unfold capN at *
  unfold tm
  omega
section
variable (n : Int) (b : Bool) (ao fo : Option Addr) (cap fc : Nat) (Z : List ArcT) (F : List Int)
set_option maxRecDepth 100000 in
set_option maxHeartbeats 2000000 in
theorem rwithin_any (w : World) (h : Row encA 4 w ao Z) (hf : Lst encI w fo F) (hz : Z.length ≤ maxLen) (hfl : F.length ≤ maxLen) :
    Calls Try.prog 46 #[.agg #[.int .i64 n, .bool b, .slice ao Z.length cap], .slice fo F.length fc] w fun e w' => e = .returned (.bool (flowB Z F)) ∧ Below w.heap.size w w' := by
  unfold maxLen at hz hfl
  have HB0 := Lib.hid ((Below.refl _ w).alloc (Nat.le_refl _) (.cells #[.int .i64 n, .bool b, .slice ao Z.length cap] 24))
  have cc := cell_new w #[.int .i64 n, .bool b, .slice ao Z.length cap] 24 2
  by_cases hl : F.length = Z.length
  · have HR := Lib.hid (row_alloc h (.cells #[.int .i64 n, .bool b, .slice ao Z.length cap] 24))
    have HF := Lib.hid (hf.below ((Below.refl _ w).alloc (Nat.le_refl _) (.cells #[.int .i64 n, .bool b, .slice ao Z.length cap] 24)))
    have HL := Lib.hid hl
    have hl1 : ((F.length : Int) != (Z.length : Int)) = false := by simp; omega
    have hl2 : ((F.length : Int) == (Z.length : Int)) = true := by simp; omega
    have hl3 : (F.length != Z.length) = false := by simp; omega
    clear h hf hl
    go_enter Try.func46, Try.ntmps46
    go_wp2
    generalize w.alloc (.cells #[.int .i64 n, .bool b, .slice ao Z.length cap] 24) = w1 at *
    have hcc := block_lt_of_cell cc
    simp only at hcc
    go_loopw [5] (fun i wr => ∃ k : Nat, k ≤ F.length ∧ i = .int .i64 (k : Int) ∧ Hid (Below w1.heap.size w1 wr) ∧ Hid (flowB (Z.drop k) (F.drop k) = flowB Z F)) (fun i _ => F.length - (intOf i).toNat)
    case atStart => exact ⟨0, Nat.zero_le _, rfl, Lib.hid (Below.refl _ _), Lib.hid rfl⟩
    case round =>
      obtain ⟨k, hk, rfl, HB, HA⟩ := hrel
      have HBW := Lib.hid (HB0.out.trans (HB.out.mono HB0.out.size))
      have dd := cell_below' HB.out cc hcc
      by_cases hlf : k < F.length
      · have hlfi : (k : Int) < (F.length : Int) := by omega
        have hlt : k < Z.length := by rw [← HL.out]; exact hlf
        have hli : (k : Int) < (Z.length : Int) := by omega
        obtain ⟨ab, ax, e, hab, c0, c1, c2, c3⟩ := (HR.out.below' HB.out).arc hlt
        cases e
        obtain ⟨fb, fx, e, hfb, d0⟩ := lst_cell (HF.out.below HB.out) (List.getElem?_eq_getElem hlf)
        cases e
        have HD := Lib.hid (flowB_drop hlt hlf)
        generalize Z[k] = z at *
        generalize F[k] = v at *
        obtain ⟨x, y, c, t⟩ := z
        unfold encI at d0
        simp only [capN] at c0 c1 c2 c3 HD
        by_cases hv : v < 0
        · have hd : decide (v < 0) = true := by simpa using hv
          have HFB : Hid (flowB Z F = false) := Lib.hid (by rw [← HA.out, HD.out, okB_no (by omega)]; rfl)
          go_wp2
          go_quiet (fail)
          go_wp2
          go_ret
          exact ⟨ret_bool HFB.out.symm, below_drewN HBW.out _⟩
        · have hd : decide (v < 0) = false := by simpa using hv
          by_cases hc : c < v
          · have hd2 : decide (c < v) = true := by simpa using hc
            have HFB : Hid (flowB Z F = false) := Lib.hid (by rw [← HA.out, HD.out, okB_no (by omega)]; rfl)
            go_wp2
            go_quiet (fail)
            go_wp2
            go_ret
            exact ⟨ret_bool HFB.out.symm, below_drewN HBW.out _⟩
          · have hd2 : decide (c < v) = false := by simpa using hc
            have HFB : Hid (flowB (Z.drop (k + 1)) (F.drop (k + 1)) = flowB Z F) := Lib.hid (by rw [← HA.out, HD.out, okB_yes hv hc]; rfl)
            go_wp2
            go_quiet (fail)
            go_wp2
            go_roundw
            case rel => exact ⟨k + 1, by omega, by go_num, Lib.hid (below_drewN HB.out _), HFB⟩
            case measure => simp [intOf]; omega
      · have hlfi : ¬ (k : Int) < (F.length : Int) := by omega
        obtain rfl : k = F.length := by omega
        have HFB : Hid (flowB Z F = true) := Lib.hid (by rw [← HA.out, List.drop_eq_nil_of_le (by rw [HL.out]; exact Nat.le_refl _), List.drop_eq_nil_of_le (Nat.le_refl _)]; rfl)
        go_wp2
        go_ret
        exact ⟨ret_bool HFB.out.symm, HBW.out⟩
  · rw [flowB_ne hl]
    have hl1 : ((F.length : Int) != (Z.length : Int)) = true := by simp; omega
    have hl2 : ((F.length : Int) == (Z.length : Int)) = false := by simp; omega
    have hl3 : (F.length != Z.length) = true := by simp; omega
    have hl4 : (F.length == Z.length) = false := by simp; omega
    clear h hf hl
    go_enter Try.func46, Try.ntmps46
    go_wp2
    go_ret
    exact ⟨rfl, HB0.out⟩
theorem rwithin_is (q : Bool) (w : World) (h : Row encA 4 w ao Z) (hf : Lst encI w fo F) (hz : Z.length ≤ maxLen) (hfl : F.length ≤ maxLen) (hq : flowB Z F = q) :
    Calls Try.prog 46 #[.agg #[.int .i64 n, .bool b, .slice ao Z.length cap], .slice fo F.length fc] w fun e w' => e = .returned (.bool q) ∧ Below w.heap.size w w' := by subst hq; exact rwithin_any n b ao fo cap fc Z F w h hf hz hfl
theorem isflow_is (q : Bool) (w : World) (h : Row encA 4 w ao Z) (hf : Lst encI w fo F) (hz : Z.length ≤ maxLen) (hfl : F.length ≤ maxLen) (hq : flowB Z F = q) :
    Calls Try.prog 67 #[.slice ao Z.length cap, .slice fo F.length fc] w fun e w' => e = .returned (.bool q) ∧ Below w.heap.size w w' := by subst hq; exact isflow_any ao fo cap fc Z F w h hf hz hfl
theorem ncheck_is (e0 : Int) (w : World) (h : Row encA 4 w ao Z) (hm : Z.length ≤ maxLen) (he : checkE n Z = e0) :
    Calls Try.prog 49 #[.agg #[.int .i64 n, .bool b, .slice ao Z.length cap]] w fun e w' => e = .returned (.int .i64 e0) ∧ Below w.heap.size w w' := by subst he; exact ncheck_any n b ao cap Z w h hm
theorem rcheck_is (e0 : Int) (w : World) (h : Row encA 4 w ao Z) (hm : Z.length ≤ maxLen) (he : checkE n Z = e0) :
    Calls Try.prog 45 #[.agg #[.int .i64 n, .bool b, .slice ao Z.length cap]] w fun e w' => e = .returned (.int .i64 e0) ∧ Below w.heap.size w w' := by subst he; exact rcheck_any n b ao cap Z w h hm
set_option maxHeartbeats 1000000 in
theorem rasked_any (w : World) (h : Row encA 4 w ao Z) (hf : Lst encI w fo F) (hz : Z.length ≤ maxLen) (hfl : F.length ≤ maxLen) :
    Calls Try.prog 25 #[.agg #[.int .i64 n, .bool b, .slice ao Z.length cap], .slice fo F.length fc] w fun e w' => e = .returned (.int .i64 (flowE n Z F)) ∧ Below w.heap.size w w' := by
  have HB0 := Lib.hid ((Below.refl _ w).alloc (Nat.le_refl _) (.cells #[.int .i64 n, .bool b, .slice ao Z.length cap] 24))
  have HN := Lib.hid (heap_alloc_new w (.cells #[.int .i64 n, .bool b, .slice ao Z.length cap] 24))
  have HR := Lib.hid (row_alloc h (.cells #[.int .i64 n, .bool b, .slice ao Z.length cap] 24))
  have HF := Lib.hid (hf.below ((Below.refl _ w).alloc (Nat.le_refl _) (.cells #[.int .i64 n, .bool b, .slice ao Z.length cap] 24)))
  have HZ := Lib.hid hz
  have HFL := Lib.hid hfl
  clear h hf hz hfl
  by_cases hc : checkE n Z = 0
  · have HC := Lib.hid hc
    cases hq : flowB Z F
    all_goals
      first | rw [flowE_mk hc hq] | rw [flowE_bad hc hq]
      have HQ := Lib.hid hq
      clear hc hq
      go_enter Try.func25, Try.ntmps25
      go_wp2_with (first
        | (go_at_call 45; refine (rcheck_is n b ao cap Z 0 _ HR.out HZ.out HC.out).mono ?_; rintro e w1 ⟨rfl, hb1⟩; have hn1 := kept_box HN.out hb1; have HR1 := Lib.hid (HR.out.below' hb1); have HF1 := Lib.hid (HF.out.below hb1); have HB1 := Lib.hid (HB0.out.trans (hb1.mono HB0.out.size)); have x1 := cell_whole hn1 0; have y1 := cell_whole hn1 1; have z1 := cell_whole hn1 2; clear hb1 hn1)
        | (go_at_call 46; refine (rwithin_is n b ao fo cap fc Z F _ _ HR1.out HF1.out HZ.out HFL.out HQ.out).mono ?_; rintro e w2 ⟨rfl, hb2⟩; have HB2 := Lib.hid (HB1.out.trans (hb2.mono HB1.out.size)); clear hb2))
      go_ret
      exact ⟨rfl, HB2.out⟩
  · rw [flowE_net hc]
    obtain ⟨e0, he0⟩ : ∃ e0, checkE n Z = e0 := ⟨_, rfl⟩
    rw [he0] at hc ⊢
    have HC := Lib.hid he0
    have hf2 : (e0 != 0) = true := by simpa using hc
    have hf1 : (e0 == 0) = false := by simpa using hc
    clear hc he0
    go_enter Try.func25, Try.ntmps25
    go_wp2_with (go_at_call 45; refine (rcheck_is n b ao cap Z e0 _ HR.out HZ.out HC.out).mono ?_; rintro e w1 ⟨rfl, hb1⟩; have HB1 := Lib.hid (HB0.out.trans (hb1.mono HB0.out.size)); clear hb1)
    go_ret
    exact ⟨rfl, HB1.out⟩
theorem rasked_is (e0 : Int) (w : World) (h : Row encA 4 w ao Z) (hf : Lst encI w fo F) (hz : Z.length ≤ maxLen) (hfl : F.length ≤ maxLen) (he : flowE n Z F = e0) :
    Calls Try.prog 25 #[.agg #[.int .i64 n, .bool b, .slice ao Z.length cap], .slice fo F.length fc] w fun e w' => e = .returned (.int .i64 e0) ∧ Below w.heap.size w w' := by subst he; exact rasked_any n b ao fo cap fc Z F w h hf hz hfl
set_option maxRecDepth 100000 in
set_option maxHeartbeats 2000000 in
theorem load_ok (w : World) (h : Row encA 4 w ao Z) (hf : Lst encI w fo F) (hz : Z.length ≤ maxLen) (hfl : F.length ≤ maxLen) (he : flowE n Z F = 0) :
    Calls Try.prog 53 #[.agg #[.int .i64 n, .bool b, .slice ao Z.length cap], .slice fo F.length fc] w fun e w' => e = .returned (.tuple #[.agg #[.int .i64 n, .bool b, .slice ao Z.length cap, .slice fo F.length fc], .int .i64 0]) ∧ Below w.heap.size w w' := by
  obtain ⟨hc, hq⟩ := flowE_ok he
  have HC := Lib.hid hc
  have HQ := Lib.hid hq
  have hb00 := ((Below.refl _ w).alloc (Nat.le_refl _) (.cells #[.int .i64 n, .bool b, .slice ao Z.length cap] 24)).alloc (by simp) (.cells #[.int .i64 0, .bool false, .slice none 0 0, .slice none 0 0] 88)
  have HB0 := Lib.hid hb00
  have HN := Lib.hid (alloc_whole (heap_alloc_new w (.cells #[.int .i64 n, .bool b, .slice ao Z.length cap] 24)) (.cells #[.int .i64 0, .bool false, .slice none 0 0, .slice none 0 0] 88))
  have HL := Lib.hid (new_whole1 w (.cells #[.int .i64 n, .bool b, .slice ao Z.length cap] 24) (.cells #[.int .i64 0, .bool false, .slice none 0 0, .slice none 0 0] 88))
  have HR := Lib.hid (h.below' hb00)
  have HF := Lib.hid (hf.below hb00)
  have HZ := Lib.hid hz
  have HFL := Lib.hid hfl
  clear h hf hz hfl he hc hq hb00
  go_enter Try.func53, Try.ntmps53
  go_wp2_with (first
    | (go_at_call 49; refine (ncheck_is n b ao cap Z 0 _ HR.out HZ.out HC.out).mono ?_; rintro e w1 ⟨rfl, hb1⟩; have hn1 := kept_box HN.out hb1; have HN1 := Lib.hid hn1; have HL1 := Lib.hid (kept_box HL.out hb1); have HR1 := Lib.hid (HR.out.below' hb1); have HF1 := Lib.hid (HF.out.below hb1); have HB1 := Lib.hid (HB0.out.trans (hb1.mono HB0.out.size)); have z1 := cell_whole hn1 2; clear hb1 hn1)
    | (go_at_call 67; refine (isflow_is ao fo cap fc Z F true _ HR1.out HF1.out HZ.out HFL.out HQ.out).mono ?_; rintro e w2 ⟨rfl, hb2⟩; have hn2 := kept_box HN1.out hb2; have hl2 := kept_box HL1.out hb2; have HB2 := Lib.hid (HB1.out.trans (hb2.mono HB1.out.size)); have HL2 := Lib.hid hl2; obtain ⟨⟨k0, k1, k2, k3⟩, f0, f1, f2, f3⟩ := ldCells hl2; have x2 := cell_whole hn2 0; have y2 := cell_whole hn2 1; have z2 := cell_whole hn2 2; clear hb2 hn2 hl2 z1))
  obtain ⟨hs, hb⟩ := ldSet HL2.out HB2.out (by omega) (.int .i64 n) (.bool b) (.slice ao Z.length cap) (.slice fo F.length fc)
  clear k0 k1 k2 k3 f0 f1 f2 f3
  generalize World.setCell (World.setCell (World.setCell (World.setCell _ _ _) _ _) _ _) _ _ = W at *
  obtain ⟨⟨k0, k1, k2, k3⟩, _⟩ := ldCells hs
  refine bodyPost_ret (v := .tuple #[.agg #[.int .i64 n, .bool b, .slice ao Z.length cap, .slice fo F.length fc], .int .i64 0]) (by simp [results, Try.results53, go_sem, k0, k1, k2, k3]) rfl ⟨rfl, hb⟩
end
end Go.Proofs.Ytbolpjahmmjllaa
