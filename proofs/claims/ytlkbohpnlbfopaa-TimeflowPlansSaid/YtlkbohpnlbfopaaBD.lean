/- Lemmas of the layers below, several texts in one. -/
import Derived.Test.YtlkbohpnlbfopaaBA
import Derived.Test.YtlkbohpnlbfopaaBC
import Derived.Laws.CopyOwn
import Derived.Laws.AppendOwnNone
namespace Go.Proofs.Ytlkbohpnlbfopaa
open Go.RowKit
set_option linter.unusedVariables false
def okB (x c : Int) : Bool := decide (0 ≤ x ∧ x ≤ c)
theorem okB_iff {x c : Int} : okB x c = true ↔ 0 ≤ x ∧ x ≤ c := by unfold okB; simp
theorem okB_no {x c : Int} (h : x < 0 ∨ c < x) : okB x c = false := by unfold okB; exact decide_eq_false (by omega)
theorem okB_yes {x c : Int} (h : ¬ x < 0) (h2 : ¬ c < x) : okB x c = true := by rw [okB_iff]; omega
def flowB : List ArcT → List Int → Bool
  | [], [] => true
  | a :: Z, x :: F => okB x (capN a) && flowB Z F
  | _, _ => false
theorem flowB_len : ∀ {Z : List ArcT} {F : List Int}, flowB Z F = true → F.length = Z.length
  | [], [], _ => rfl
  | a :: Z, x :: F, h => by
    simp only [flowB, Bool.and_eq_true] at h
    simp [flowB_len h.2]
  | [], _ :: _, h => by cases h
  | _ :: _, [], h => by cases h
theorem flowB_ne {Z : List ArcT} {F : List Int} (h : F.length ≠ Z.length) : flowB Z F = false := by
  cases e : flowB Z F with
  | false => rfl
  | true => exact absurd (flowB_len e) h
theorem flowB_at : ∀ {Z : List ArcT} {F : List Int}, flowB Z F = true → ∀ (i : Nat) (a : ArcT), Z[i]? = some a → 0 ≤ atI F i ∧ atI F i ≤ capN a
  | [], _, _, i, a, h => by simp at h
  | a :: Z, [], h, _, _, _ => by cases h
  | a :: Z, x :: F, h, 0, b, hb => by
    simp only [flowB, Bool.and_eq_true, okB_iff] at h
    simp at hb; subst hb
    simpa [atI] using h.1
  | a :: Z, x :: F, h, i + 1, b, hb => by
    simp only [flowB, Bool.and_eq_true] at h
    have := flowB_at h.2 i b (by simpa using hb)
    simpa [atI] using this
theorem flowB_flow {Z : List ArcT} {F : List Int} (h : flowB Z F = true) : Flow Z F := ⟨flowB_len h, flowB_at h⟩
theorem flow_flowB : ∀ {Z : List ArcT} {F : List Int}, Flow Z F → flowB Z F = true
  | [], [], _ => rfl
  | [], _ :: _, h => by have := h.1; simp at this
  | _ :: _, [], h => by have := h.1; simp at this
  | a :: Z, x :: F, h => by
    simp only [flowB, Bool.and_eq_true, okB_iff]
    refine ⟨by simpa [atI] using h.2 0 a rfl, flow_flowB ⟨by simpa using h.1, fun i b hb => ?_⟩⟩
    simpa [atI] using h.2 (i + 1) b (by simpa using hb)
theorem flowB_drop {Z : List ArcT} {F : List Int} {k : Nat} (hz : k < Z.length) (hf : k < F.length) : flowB (Z.drop k) (F.drop k) = (okB F[k] (capN Z[k]) && flowB (Z.drop (k + 1)) (F.drop (k + 1))) := by
  rw [List.drop_eq_getElem_cons hz, List.drop_eq_getElem_cons hf]; rfl
def flowE (n : Int) (Z : List ArcT) (F : List Int) : Int := if checkE n Z = 0 then (if flowB Z F = true then 0 else 71) else checkE n Z
theorem flowE_ok {n : Int} {Z : List ArcT} {F : List Int} (h : flowE n Z F = 0) : checkE n Z = 0 ∧ flowB Z F = true := by
  unfold flowE at h
  split at h
  · next h1 =>
    split at h
    · next h2 => exact ⟨h1, h2⟩
    · cases h
  · next h1 => exact absurd h h1
theorem flowE_mk {n : Int} {Z : List ArcT} {F : List Int} (h : checkE n Z = 0) (h2 : flowB Z F = true) : flowE n Z F = 0 := by unfold flowE; rw [if_pos h, if_pos h2]
theorem flowE_bad {n : Int} {Z : List ArcT} {F : List Int} (h : checkE n Z = 0) (h2 : flowB Z F = false) : flowE n Z F = 71 := by unfold flowE; rw [if_pos h, if_neg (by simp [h2])]
theorem flowE_net {n : Int} {Z : List ArcT} {F : List Int} (h : checkE n Z ≠ 0) : flowE n Z F = checkE n Z := by unfold flowE; rw [if_neg h]
set_option maxRecDepth 100000 in
set_option maxHeartbeats 2000000 in
theorem isflow_any (ao fo : Option Addr) (cap fc : Nat) (Z : List ArcT) (F : List Int) (w : World) (h : Row encA 4 w ao Z) (hf : Lst encI w fo F) (hz : Z.length ≤ maxLen) (hfl : F.length ≤ maxLen) :
    Calls Try.prog 88 #[.slice ao Z.length cap, .slice fo F.length fc] w fun e w' => e = .returned (.bool (flowB Z F)) ∧ Below w.heap.size w w' := by
  unfold maxLen at hz hfl
  by_cases hl : F.length = Z.length
  · have HR := Lib.hid h
    have HF := Lib.hid hf
    have HL := Lib.hid hl
    have hl1 : ((F.length : Int) != (Z.length : Int)) = false := by simp; omega
    have hl2 : ((F.length : Int) == (Z.length : Int)) = true := by simp; omega
    have hl3 : (F.length != Z.length) = false := by simp; omega
    clear h hf hl
    go_enter Try.func88, Try.ntmps88
    go_wp2
    go_loopw [14] (fun i wr => ∃ k : Nat, k ≤ Z.length ∧ i = .int .i64 (k : Int) ∧ Hid (Below w.heap.size w wr) ∧ Hid (flowB (Z.drop k) (F.drop k) = flowB Z F)) (fun i _ => Z.length - (intOf i).toNat)
    case atStart => exact ⟨0, Nat.zero_le _, rfl, Lib.hid (Below.refl _ _), Lib.hid rfl⟩
    case round =>
      obtain ⟨k, hk, rfl, HB, HA⟩ := hrel
      by_cases hlt : k < Z.length
      · have hli : (k : Int) < (Z.length : Int) := by omega
        have hlf : k < F.length := by rw [HL.out]; exact hlt
        have hlfi : (k : Int) < (F.length : Int) := by omega
        obtain ⟨ab, ax, e, hab, c0, c1, c2, c3⟩ := (HR.out.below' HB.out).arc hlt
        cases e
        obtain ⟨fb, fx, e, hfb, d0⟩ := lst_cell (HF.out.below HB.out) (List.getElem?_eq_getElem hlf)
        cases e
        have HD := Lib.hid (flowB_drop hlt hlf)
        generalize Z[k] = z at *
        generalize F[k] = v at *
        obtain ⟨x, y, c, t⟩ := z
        unfold encI at d0
        simp only [capN] at c0 c1 c2 c3 HD
        have d1 := cell_alloc d0 (.cells #[.int .i64 x, .int .i64 y, .int .i64 c, .int .i64 t] 73)
        have HBA := Lib.hid (HB.out.alloc HB.out.size (.cells #[.int .i64 x, .int .i64 y, .int .i64 c, .int .i64 t] 73))
        have q2 := cell_new wr #[.int .i64 x, .int .i64 y, .int .i64 c, .int .i64 t] 73 2
        by_cases hv : v < 0
        · have hd : decide (v < 0) = true := by simpa using hv
          have HFB : Hid (flowB Z F = false) := Lib.hid (by rw [← HA.out, HD.out, okB_no (by omega)]; rfl)
          go_wp2
          go_quiet (fail)
          go_wp2
          go_ret
          exact ⟨ret_bool HFB.out.symm, below_drewN HBA.out _⟩
        · have hd : decide (v < 0) = false := by simpa using hv
          by_cases hc : c < v
          · have hd2 : decide (c < v) = true := by simpa using hc
            have HFB : Hid (flowB Z F = false) := Lib.hid (by rw [← HA.out, HD.out, okB_no (by omega)]; rfl)
            go_wp2
            go_quiet (fail)
            go_wp2
            go_ret
            exact ⟨ret_bool HFB.out.symm, below_drewN HBA.out _⟩
          · have hd2 : decide (c < v) = false := by simpa using hc
            have HFB : Hid (flowB (Z.drop (k + 1)) (F.drop (k + 1)) = flowB Z F) := Lib.hid (by rw [← HA.out, HD.out, okB_yes hv hc]; rfl)
            go_wp2
            go_quiet (fail)
            go_wp2
            go_roundw
            case rel => exact ⟨k + 1, by omega, by go_num, Lib.hid (below_drewN HBA.out _), HFB⟩
            case measure => simp [intOf]; omega
      · have hli : ¬ (k : Int) < (Z.length : Int) := by omega
        obtain rfl : k = Z.length := by omega
        have HFB : Hid (flowB Z F = true) := Lib.hid (by rw [← HA.out, List.drop_eq_nil_of_le (Nat.le_refl _), List.drop_eq_nil_of_le (by rw [HL.out]; exact Nat.le_refl _)]; rfl)
        go_wp2
        go_ret
        exact ⟨ret_bool HFB.out.symm, HB.out⟩
  · rw [flowB_ne hl]
    have hl1 : ((F.length : Int) != (Z.length : Int)) = true := by simp; omega
    have hl2 : ((F.length : Int) == (Z.length : Int)) = false := by simp; omega
    have hl3 : (F.length != Z.length) = true := by simp; omega
    have hl4 : (F.length == Z.length) = false := by simp; omega
    clear h hf hl
    go_enter Try.func88, Try.ntmps88
    go_wp2
    go_ret
    exact ⟨rfl, Below.refl _ _⟩
end Go.Proofs.Ytlkbohpnlbfopaa
namespace Go.Proofs.Ytlkbohpnlbfopaa
open Go.RowKit
set_option linter.unusedVariables false
def begI (a : ArcT) : Bool → Int
  | true => a.2.1
  | false => a.1
def endI (a : ArcT) : Bool → Int
  | true => a.1
  | false => a.2.1
theorem begI_not (a : ArcT) (b : Bool) : begI a (!b) = endI a b := by cases b <;> rfl
section
variable (n : Int) (b : Bool) (ao : Option Addr) (cap : Nat) (Z : List ArcT)
set_option maxHeartbeats 1000000 in
theorem begin_at (i : Nat) (k : Bool) (a : ArcT) (w : World) (h : Row encA 4 w ao Z) (ha : Z[i]? = some a) (hz : Z.length ≤ 200) :
    Calls Try.prog 86 #[.agg #[.int .i64 n, .bool b, .slice ao Z.length cap], .agg #[.int .i64 (i : Int), .bool k]] w fun e w' => e = .returned (.int .i64 (begI a k)) ∧ Below w.heap.size w w' := by
  obtain ⟨hi, rfl⟩ := List.getElem?_eq_some_iff.1 ha
  obtain ⟨ab, ax, rfl, hab, c0, c1, c2, c3⟩ := h.arc hi
  have hli : (i : Int) < (Z.length : Int) := by omega
  clear h ha c2 c3
  generalize Z[i] = a at *
  obtain ⟨x, y, c, t⟩ := a
  simp only at c0 c1
  have e0 := cell_alloc (cell_alloc c0 (.cells #[.int .i64 n, .bool b, .slice (some ⟨ab, ax, none⟩) Z.length cap] 147)) (.cells #[.int .i64 (i : Int), .bool k] 93)
  have e1 := cell_alloc (cell_alloc c1 (.cells #[.int .i64 n, .bool b, .slice (some ⟨ab, ax, none⟩) Z.length cap] 147)) (.cells #[.int .i64 (i : Int), .bool k] 93)
  have HB := Lib.hid (((Below.refl _ w).alloc (Nat.le_refl _) (.cells #[.int .i64 n, .bool b, .slice (some ⟨ab, ax, none⟩) Z.length cap] 147)).alloc (by simp) (.cells #[.int .i64 (i : Int), .bool k] 93))
  cases k
  · go_enter Try.func86, Try.ntmps86
    go_wp2
    go_ret
    exact ⟨rfl, HB.out⟩
  · go_enter Try.func86, Try.ntmps86
    go_wp2
    go_ret
    exact ⟨rfl, HB.out⟩
set_option maxHeartbeats 1000000 in
theorem endof_at (i : Nat) (k : Bool) (a : ArcT) (w : World) (h : Row encA 4 w ao Z) (ha : Z[i]? = some a) (hz : Z.length ≤ 200) :
    Calls Try.prog 87 #[.agg #[.int .i64 n, .bool b, .slice ao Z.length cap], .agg #[.int .i64 (i : Int), .bool k]] w fun e w' => e = .returned (.int .i64 (endI a k)) ∧ Below w.heap.size w w' := by
  have HB := Lib.hid (((Below.refl _ w).alloc (Nat.le_refl _) (.cells #[.int .i64 n, .bool b, .slice ao Z.length cap] 147)).alloc (by simp) (.cells #[.int .i64 (i : Int), .bool k] 93))
  have HR := Lib.hid (row_alloc (row_alloc h (.cells #[.int .i64 n, .bool b, .slice ao Z.length cap] 147)) (.cells #[.int .i64 (i : Int), .bool k] 93))
  have HA := Lib.hid ha
  rw [← begI_not]
  clear h ha
  cases k
  · go_enter Try.func87, Try.ntmps87
    go_wp2_with (go_at_call 86; refine (begin_at n b ao cap Z i true a _ HR.out HA.out hz).mono ?_; rintro e w1 ⟨rfl, hb1⟩; have HB1 := Lib.hid (HB.out.trans (hb1.mono HB.out.size)); clear hb1)
    go_ret
    exact ⟨rfl, HB1.out⟩
  · go_enter Try.func87, Try.ntmps87
    go_wp2_with (go_at_call 86; refine (begin_at n b ao cap Z i false a _ HR.out HA.out hz).mono ?_; rintro e w1 ⟨rfl, hb1⟩; have HB1 := Lib.hid (HB.out.trans (hb1.mono HB.out.size)); clear hb1)
    go_ret
    exact ⟨rfl, HB1.out⟩
theorem hasnode_any (v : Value) (s : Int) (w : World) : Calls Try.prog 85 #[.agg #[.int .i64 n, .bool b, v], .int .i64 s] w fun e w' => e = .returned (.bool (decide (0 ≤ s ∧ s < n))) ∧ Below w.heap.size w w' := by
  have HB := Lib.hid ((Below.refl _ w).alloc (Nat.le_refl _) (.cells #[.int .i64 n, .bool b, v] 147))
  have c0 := cell_new w #[.int .i64 n, .bool b, v] 147 0
  go_enter Try.func85, Try.ntmps85
  go_wp2
  all_goals
    go_ret
    refine ⟨ret_bool ?_, HB.out⟩
    first
      | (symm; rw [decide_eq_true_eq]; omega)
      | (symm; rw [decide_eq_false_iff_not]; omega)
      | (simp; omega)
theorem hasnode_is (v : Value) (s : Int) (q : Bool) (w : World) (h : decide (0 ≤ s ∧ s < n) = q) : Calls Try.prog 85 #[.agg #[.int .i64 n, .bool b, v], .int .i64 s] w fun e w' => e = .returned (.bool q) ∧ Below w.heap.size w w' := by subst h; exact hasnode_any n b v s w
end
end Go.Proofs.Ytlkbohpnlbfopaa
namespace Go.Proofs.Ytlkbohpnlbfopaa
open Go.RowKit
set_option linter.unusedVariables false
theorem kept_box {w w' : World} {g : Nat} {o : Obj} (h : w.heap[g]? = some o) (hb : Below w.heap.size w w') : w'.heap[g]? = some o := (hb.block g (lt_whole h)).trans h
theorem ldSet {w0 w : World} {B g : Nat} {a b c d : Value} {t : TypeId} (h : w.heap[g]? = some (.cells #[a, b, c, d] t (0, 0))) (hb : Below B w0 w) (hg : B ≤ g) (x y z u : Value) :
    ((((w.setCell ⟨g, 0, none⟩ x).setCell ⟨g, 1, none⟩ y).setCell ⟨g, 2, none⟩ z).setCell ⟨g, 3, none⟩ u).heap[g]? = some (.cells #[x, y, z, u] t (0, 0)) ∧ Below B w0 ((((w.setCell ⟨g, 0, none⟩ x).setCell ⟨g, 1, none⟩ y).setCell ⟨g, 2, none⟩ z).setCell ⟨g, 3, none⟩ u) :=
  ⟨set_whole (set_whole (set_whole (set_whole h 0 x) 1 y) 2 z) 3 u, (((hb.setCell (p := ⟨g, 0, none⟩) hg x).setCell (p := ⟨g, 1, none⟩) hg y).setCell (p := ⟨g, 2, none⟩) hg z).setCell (p := ⟨g, 3, none⟩) hg u⟩
theorem ldCells {w : World} {g : Nat} {x y z u : Value} {t : TypeId} (h : w.heap[g]? = some (.cells #[x, y, z, u] t (0, 0))) :
    (w.cell? ⟨g, 0, none⟩ = some x ∧ w.cell? ⟨g, 1, none⟩ = some y ∧ w.cell? ⟨g, 2, none⟩ = some z ∧ w.cell? ⟨g, 3, none⟩ = some u) ∧ w.frozen? ⟨g, 0, none⟩ = false ∧ w.frozen? ⟨g, 1, none⟩ = false ∧ w.frozen? ⟨g, 2, none⟩ = false ∧ w.frozen? ⟨g, 3, none⟩ = false :=
  ⟨⟨cell_whole h 0, cell_whole h 1, cell_whole h 2, cell_whole h 3⟩, frozen_whole h 0, frozen_whole h 1, frozen_whole h 2, frozen_whole h 3⟩
theorem flow_facts {n : Int} {b : Bool} {Z : List ArcT} {F : List Int} (h : flowE n Z F = 0) : Right (n, b, Z) ∧ Flow Z F ∧ Z.length ≤ 200 ∧ F.length = Z.length ∧ 1 ≤ n ∧ n ≤ 50 := by
  obtain ⟨h1, h2⟩ := flowE_ok h
  have hR : Right (n, b, Z) := right_iff.1 h1
  have hn := nodesE_ok hR.1
  simp only at hn
  exact ⟨hR, flowB_flow h2, hR.2.1, flowB_len h2, hn.1, hn.2⟩
theorem flow_bd {n : Int} {b : Bool} {Z : List ArcT} {F : List Int} (hR : Right (n, b, Z)) (hf : Flow Z F) {i : Nat} {a : ArcT} (ha : Z[i]? = some a) : 0 ≤ atI F i ∧ atI F i ≤ capN a ∧ 0 ≤ capN a ∧ capN a ≤ 1048576 ∧ 0 ≤ tm a ∧ tm a ≤ 1048576 := by
  have h1 := hf.2 i a ha
  obtain ⟨h2, h3⟩ := arcE_ok (hR.2.2 a (List.mem_of_getElem? ha))
  unfold badEnds at h2
  unfold bigArc at h3
  unfold capN at *
  unfold tm
  omega
section
variable (n : Int) (b : Bool) (ao fo : Option Addr) (cap fc : Nat) (Z : List ArcT) (F : List Int)
theorem isflow_is (q : Bool) (w : World) (h : Row encA 4 w ao Z) (hf : Lst encI w fo F) (hz : Z.length ≤ maxLen) (hfl : F.length ≤ maxLen) (hq : flowB Z F = q) :
    Calls Try.prog 88 #[.slice ao Z.length cap, .slice fo F.length fc] w fun e w' => e = .returned (.bool q) ∧ Below w.heap.size w w' := by subst hq; exact isflow_any ao fo cap fc Z F w h hf hz hfl
theorem ncheck_is (e0 : Int) (w : World) (h : Row encA 4 w ao Z) (hm : Z.length ≤ maxLen) (he : checkE n Z = e0) :
    Calls Try.prog 75 #[.agg #[.int .i64 n, .bool b, .slice ao Z.length cap]] w fun e w' => e = .returned (.int .i64 e0) ∧ Below w.heap.size w w' := by subst he; exact ncheck_any n b ao cap Z w h hm
theorem rcheck_is (e0 : Int) (w : World) (h : Row encA 4 w ao Z) (hm : Z.length ≤ maxLen) (he : checkE n Z = e0) :
    Calls Try.prog 31 #[.agg #[.int .i64 n, .bool b, .slice ao Z.length cap]] w fun e w' => e = .returned (.int .i64 e0) ∧ Below w.heap.size w w' := by subst he; exact rcheck_any n b ao cap Z w h hm
set_option maxRecDepth 100000 in
set_option maxHeartbeats 2000000 in
theorem load_ok (w : World) (h : Row encA 4 w ao Z) (hf : Lst encI w fo F) (hz : Z.length ≤ maxLen) (hfl : F.length ≤ maxLen) (he : flowE n Z F = 0) :
    Calls Try.prog 78 #[.agg #[.int .i64 n, .bool b, .slice ao Z.length cap], .slice fo F.length fc] w fun e w' => e = .returned (.tuple #[.agg #[.int .i64 n, .bool b, .slice ao Z.length cap, .slice fo F.length fc], .int .i64 0]) ∧ Below w.heap.size w w' := by
  obtain ⟨hc, hq⟩ := flowE_ok he
  have HC := Lib.hid hc
  have HQ := Lib.hid hq
  have hb00 := ((Below.refl _ w).alloc (Nat.le_refl _) (.cells #[.int .i64 n, .bool b, .slice ao Z.length cap] 24)).alloc (by simp) (.cells #[.int .i64 0, .bool false, .slice none 0 0, .slice none 0 0] 149)
  have HB0 := Lib.hid hb00
  have HN := Lib.hid (alloc_whole (heap_alloc_new w (.cells #[.int .i64 n, .bool b, .slice ao Z.length cap] 24)) (.cells #[.int .i64 0, .bool false, .slice none 0 0, .slice none 0 0] 149))
  have HL := Lib.hid (new_whole1 w (.cells #[.int .i64 n, .bool b, .slice ao Z.length cap] 24) (.cells #[.int .i64 0, .bool false, .slice none 0 0, .slice none 0 0] 149))
  have HR := Lib.hid (h.below' hb00)
  have HF := Lib.hid (hf.below hb00)
  have HZ := Lib.hid hz
  have HFL := Lib.hid hfl
  clear h hf hz hfl he hc hq hb00
  go_enter Try.func78, Try.ntmps78
  go_wp2_with (first
    | (go_at_call 75; refine (ncheck_is n b ao cap Z 0 _ HR.out HZ.out HC.out).mono ?_; rintro e w1 ⟨rfl, hb1⟩; have hn1 := kept_box HN.out hb1; have HN1 := Lib.hid hn1; have HL1 := Lib.hid (kept_box HL.out hb1); have HR1 := Lib.hid (HR.out.below' hb1); have HF1 := Lib.hid (HF.out.below hb1); have HB1 := Lib.hid (HB0.out.trans (hb1.mono HB0.out.size)); have z1 := cell_whole hn1 2; clear hb1 hn1)
    | (go_at_call 88; refine (isflow_is ao fo cap fc Z F true _ HR1.out HF1.out HZ.out HFL.out HQ.out).mono ?_; rintro e w2 ⟨rfl, hb2⟩; have hn2 := kept_box HN1.out hb2; have hl2 := kept_box HL1.out hb2; have HB2 := Lib.hid (HB1.out.trans (hb2.mono HB1.out.size)); have HL2 := Lib.hid hl2; obtain ⟨⟨k0, k1, k2, k3⟩, f0, f1, f2, f3⟩ := ldCells hl2; have x2 := cell_whole hn2 0; have y2 := cell_whole hn2 1; have z2 := cell_whole hn2 2; clear hb2 hn2 hl2 z1))
  obtain ⟨hs, hb⟩ := ldSet HL2.out HB2.out (by omega) (.int .i64 n) (.bool b) (.slice ao Z.length cap) (.slice fo F.length fc)
  clear k0 k1 k2 k3 f0 f1 f2 f3
  generalize World.setCell (World.setCell (World.setCell (World.setCell _ _ _) _ _) _ _) _ _ = W at *
  obtain ⟨⟨k0, k1, k2, k3⟩, _⟩ := ldCells hs
  refine bodyPost_ret (v := .tuple #[.agg #[.int .i64 n, .bool b, .slice ao Z.length cap, .slice fo F.length fc], .int .i64 0]) (by simp [results, Try.results78, go_sem, k0, k1, k2, k3]) rfl ⟨rfl, hb⟩
end
end Go.Proofs.Ytlkbohpnlbfopaa
namespace Go.Proofs.Ytlkbohpnlbfopaa
open Go.RowKit
set_option linter.unusedVariables false
section
variable (n : Int) (b : Bool) (ao fo : Option Addr) (cap fc : Nat) (Z : List ArcT) (F : List Int)
set_option maxRecDepth 100000 in
set_option maxHeartbeats 2000000 in
theorem load_no (e0 : Int) (w : World) (h : Row encA 4 w ao Z) (hf : Lst encI w fo F) (hz : Z.length ≤ maxLen) (hfl : F.length ≤ maxLen) (he : flowE n Z F = e0) (h0 : e0 ≠ 0) :
    Calls Try.prog 78 #[.agg #[.int .i64 n, .bool b, .slice ao Z.length cap], .slice fo F.length fc] w fun e w' => e = .returned (.tuple #[.agg #[.int .i64 0, .bool false, .slice none 0 0, .slice none 0 0], .int .i64 e0]) ∧ Below w.heap.size w w' := by
  have hb00 := ((Below.refl _ w).alloc (Nat.le_refl _) (.cells #[.int .i64 n, .bool b, .slice ao Z.length cap] 24)).alloc (by simp) (.cells #[.int .i64 0, .bool false, .slice none 0 0, .slice none 0 0] 149)
  have HB0 := Lib.hid hb00
  have HN := Lib.hid (alloc_whole (heap_alloc_new w (.cells #[.int .i64 n, .bool b, .slice ao Z.length cap] 24)) (.cells #[.int .i64 0, .bool false, .slice none 0 0, .slice none 0 0] 149))
  have HL := Lib.hid (new_whole1 w (.cells #[.int .i64 n, .bool b, .slice ao Z.length cap] 24) (.cells #[.int .i64 0, .bool false, .slice none 0 0, .slice none 0 0] 149))
  have HR := Lib.hid (h.below' hb00)
  have HF := Lib.hid (hf.below hb00)
  have HZ := Lib.hid hz
  have HFL := Lib.hid hfl
  clear h hf hz hfl hb00
  by_cases hc : checkE n Z = 0
  · have hq : flowB Z F = false := by
      cases hq : flowB Z F with
      | false => rfl
      | true => rw [flowE_mk hc hq] at he; exact absurd he.symm h0
    obtain rfl : e0 = 71 := by rw [← he]; exact flowE_bad hc hq
    have HC := Lib.hid hc
    have HQ := Lib.hid hq
    clear hc hq he h0
    go_enter Try.func78, Try.ntmps78
    go_wp2_with (first
      | (go_at_call 75; refine (ncheck_is n b ao cap Z 0 _ HR.out HZ.out HC.out).mono ?_; rintro e w1 ⟨rfl, hb1⟩; have hn1 := kept_box HN.out hb1; have HN1 := Lib.hid hn1; have HL1 := Lib.hid (kept_box HL.out hb1); have HR1 := Lib.hid (HR.out.below' hb1); have HF1 := Lib.hid (HF.out.below hb1); have HB1 := Lib.hid (HB0.out.trans (hb1.mono HB0.out.size)); have z1 := cell_whole hn1 2; clear hb1 hn1)
      | (go_at_call 88; refine (isflow_is ao fo cap fc Z F false _ HR1.out HF1.out HZ.out HFL.out HQ.out).mono ?_; rintro e w2 ⟨rfl, hb2⟩; have hl2 := kept_box HL1.out hb2; have HB2 := Lib.hid (HB1.out.trans (hb2.mono HB1.out.size)); have HL2 := Lib.hid hl2; obtain ⟨⟨k0, k1, k2, k3⟩, f0, f1, f2, f3⟩ := ldCells hl2; clear hb2 hl2 z1))
    obtain ⟨hs, hb⟩ := ldSet HL2.out HB2.out (by omega) (.int .i64 0) (.bool false) (.slice none 0 0) (.slice none 0 0)
    clear k0 k1 k2 k3 f0 f1 f2 f3
    generalize World.setCell (World.setCell (World.setCell (World.setCell _ _ _) _ _) _ _) _ _ = W at *
    obtain ⟨⟨k0, k1, k2, k3⟩, _⟩ := ldCells hs
    refine bodyPost_ret (v := .tuple #[.agg #[.int .i64 0, .bool false, .slice none 0 0, .slice none 0 0], .int .i64 71]) (by simp [results, Try.results78, go_sem, k0, k1, k2, k3]) rfl ⟨rfl, hb⟩
  · obtain rfl : e0 = checkE n Z := by rw [← he]; exact flowE_net hc
    obtain ⟨e0, he0⟩ : ∃ e0, checkE n Z = e0 := ⟨_, rfl⟩
    rw [he0]
    rw [he0] at h0
    have HC := Lib.hid he0
    have hf2 : (e0 != 0) = true := by simpa using h0
    have hf1 : (e0 == 0) = false := by simpa using h0
    clear hc he0 he h0
    go_enter Try.func78, Try.ntmps78
    go_wp2_with (first
      | (go_at_call 75; refine (ncheck_is n b ao cap Z e0 _ HR.out HZ.out HC.out).mono ?_; rintro e w1 ⟨rfl, hb1⟩; have hl2 := kept_box HL.out hb1; have HL2 := Lib.hid hl2; have HB2 := Lib.hid (HB0.out.trans (hb1.mono HB0.out.size)); obtain ⟨⟨k0, k1, k2, k3⟩, f0, f1, f2, f3⟩ := ldCells hl2; clear hb1 hl2))
    obtain ⟨hs, hb⟩ := ldSet HL2.out HB2.out (by omega) (.int .i64 0) (.bool false) (.slice none 0 0) (.slice none 0 0)
    clear k0 k1 k2 k3 f0 f1 f2 f3
    generalize World.setCell (World.setCell (World.setCell (World.setCell _ _ _) _ _) _ _) _ _ = W at *
    obtain ⟨⟨k0, k1, k2, k3⟩, _⟩ := ldCells hs
    refine bodyPost_ret (v := .tuple #[.agg #[.int .i64 0, .bool false, .slice none 0 0, .slice none 0 0], .int .i64 e0]) (by simp [results, Try.results78, go_sem, k0, k1, k2, k3]) rfl ⟨rfl, hb⟩
end
end Go.Proofs.Ytlkbohpnlbfopaa
namespace Go.Proofs.Ytlkbohpnlbfopaa
open Go.RowKit
set_option linter.unusedVariables false
theorem isArc_nat {Z : List ArcT} {i : Int} {k : Bool} (h : isArc Z (i, k)) : ∃ j : Nat, i = (j : Int) ∧ j < Z.length := by
  unfold isArc at h
  simp only at h
  exact ⟨i.toNat, by omega, by omega⟩
section
variable (n : Int) (b : Bool) (ao : Option Addr) (cap : Nat) (Z : List ArcT) (F : List Int)
end
end Go.Proofs.Ytlkbohpnlbfopaa
namespace Go.Proofs.Ytlkbohpnlbfopaa
open Go.RowKit
set_option linter.unusedVariables false
def encS (x : StepT) : List Value := [.int .i64 x.1, .bool x.2]
theorem encS_len (x : StepT) : (encS x).length = 2 := rfl
theorem encS_one (x : StepT) : ∀ u ∈ encS x, u.oneCell' = true := by intro u hu; simp [encS] at hu; rcases hu with rfl | rfl <;> rfl
theorem step_at {w : World} {lo : Option Addr} {L : List StepT} (h : Row encS 2 w lo L) {i : Nat} {x : StepT} (hx : L[i]? = some x) : ∃ b o, lo = some ⟨b, o, none⟩ ∧ b < w.heap.size ∧ w.cell? ⟨b, o + i * 2, none⟩ = some (.int .i64 x.1) ∧ w.cell? ⟨b, o + i * 2 + 1, none⟩ = some (.bool x.2) := by
  obtain ⟨hi, rfl⟩ := List.getElem?_eq_some_iff.1 hx
  obtain ⟨b, o, e, hb, hc⟩ := h i hi
  exact ⟨b, o, e, hb, hc 0 (by omega), hc 1 (by omega)⟩
structure PW (w1 wr : World) (g V M : Nat) (c : Array Value) (F : List Int) : Prop where
  below : Below w1.heap.size w1 wr
  own : OwnL encI wr w1.heap.size 3 (.slice (some ⟨g, 0, none⟩) M M) F
  var : wr.heap[V]? = some (.cells c 149 (0, 0))
  ne : V ≠ g
section
variable {w1 wr w3 : World} {g V M : Nat} {c : Array Value} {F F' : List Int}
theorem PW.next (h : PW w1 wr g V M c F) (hb : Below wr.heap.size wr w3) : PW w1 w3 g V M c F := ⟨h.below.trans (hb.mono h.below.size), h.own.below hb, kept_box h.var hb, h.ne⟩
theorem PW.alloc (h : PW w1 wr g V M c F) (o : Obj) : PW w1 (wr.alloc o) g V M c F := h.next ((Below.refl _ wr).alloc (Nat.le_refl _) o)
end
section
variable (n : Int) (b : Bool) (ao fo lo : Option Addr) (cap fc lc : Nat) (Z : List ArcT) (F : List Int) (L : List StepT)
end
end Go.Proofs.Ytlkbohpnlbfopaa
namespace Go.Proofs.Ytlkbohpnlbfopaa
open Go.RowKit
set_option linter.unusedVariables false
def stepOf (a : ArcT) (x : Int) (i : Nat) : List StepT := (if x < capN a then [((i : Int), false)] else []) ++ (if 0 < x then [((i : Int), true)] else [])
def stepsK (Z : List ArcT) (F : List Int) : Nat → List StepT
  | 0 => []
  | i + 1 => stepsK Z F i ++ match Z[i]? with | some a => stepOf a (atI F i) i | none => []
theorem stepsK_succ {Z : List ArcT} {F : List Int} {i : Nat} {a : ArcT} (h : Z[i]? = some a) : stepsK Z F (i + 1) = stepsK Z F i ++ stepOf a (atI F i) i := by
  show stepsK Z F i ++ _ = _
  rw [h]
theorem stepsK_mem {Z : List ArcT} {F : List Int} {x : StepT} : ∀ {i}, i ≤ Z.length → (x ∈ stepsK Z F i ↔ isArc Z x ∧ x.1 < (i : Int) ∧ 0 < leftS Z F x)
  | 0, _ => by
    constructor
    · intro h; cases h
    · rintro ⟨h1, h2, _⟩
      unfold isArc at h1
      omega
  | i + 1, hi => by
    have ha : Z[i]? = some (Z[i]'(by omega)) := List.getElem?_eq_getElem (by omega)
    rw [stepsK_succ ha, List.mem_append, stepsK_mem (by omega)]
    generalize Z[i]'(by omega) = a at *
    have hl : ∀ q, leftS Z F ((i : Int), q) = if q = true then atI F i else capN a - atI F i := by
      intro q
      unfold leftS arcOf
      simp [List.getD_eq_getElem?_getD, ha]
    constructor
    · rintro (⟨h1, h2, h3⟩ | h)
      · exact ⟨h1, by omega, h3⟩
      · unfold stepOf at h
        rw [List.mem_append] at h
        rcases h with h | h
        · split at h
          · next hc =>
            rw [List.mem_singleton] at h
            subst h
            refine ⟨⟨by simp, by simp only; omega⟩, by simp only; omega, ?_⟩
            rw [hl]; simp; omega
          · cases h
        · split at h
          · next hc =>
            rw [List.mem_singleton] at h
            subst h
            refine ⟨⟨by simp, by simp only; omega⟩, by simp only; omega, ?_⟩
            rw [hl]; simp; omega
          · cases h
    · rintro ⟨h1, h2, h3⟩
      by_cases hx : x.1 < (i : Int)
      · exact .inl ⟨h1, hx, h3⟩
      · right
        have he : x.1 = (i : Int) := by omega
        obtain ⟨y, q⟩ := x
        simp only at he
        subst he
        rw [hl] at h3
        unfold stepOf
        rw [List.mem_append]
        cases q with
        | false =>
          left
          rw [if_pos (by simp at h3; omega)]
          simp
        | true =>
          right
          rw [if_pos (by simpa using h3)]
          simp
def OwnS (w : World) (base : Nat) (v : Value) (L : List StepT) : Prop := w.ownsRow base 93 2 v L.length (L.flatMap encS)
theorem OwnS.nil (w : World) (base : Nat) : OwnS w base (.slice none 0 0) [] := World.ownsRow_nil _ _ _ _
theorem OwnS.below {w w' : World} {base : Nat} {v : Value} {L : List StepT} (h : OwnS w base v L) (hb : Below w.heap.size w w') : OwnS w' base v L := own_below h hb
theorem OwnS.alloc {w : World} {base : Nat} {v : Value} {L : List StepT} (h : OwnS w base v L) (o : Obj) : OwnS (w.alloc o) base v L := World.ownsRow.alloc h o
theorem OwnS.row {w : World} {base : Nat} {v : Value} {L : List StepT} (h : OwnS w base v L) : ∃ ao cap, v = .slice ao L.length cap ∧ Row encS 2 w ao L := own_row encS_len h
theorem infoStep : (Try.prog.info? 93).map (fun i => (i.zero, i.size, i.bytes)) = some (some (.agg #[.int .i64 0, .bool false]), 2, 16) := by kernel_rfl
theorem cells2 (w : World) (t : TypeId) (g : Nat) (hg : w.heap.size = g) (x : Int) (q : Bool) : ∀ j, j < 2 → (w.alloc (.cells #[.int .i64 x, .bool q] t)).cell? ⟨g, j, none⟩ = (encS (x, q))[j]? := by
  intro j hj
  rw [cell_new' hg]
  match j, hj with
  | 0, _ => rfl
  | 1, _ => rfl
theorem wpList_append_step {w : World} {ops : Array Oper} {rest : List Oper} {o : Oper} {a : Act} {Q : Exit → Act → World → Prop} (hgd : o.guard = none) (s y : Operand)
    (ho : o.op = .call { callee := .builtin .append, args := #[s, y], argTypes := #[94, 94] })
    (base : Nat) (v : Value) (A : List StepT) (x : StepT) (hs : a.eval s = v) (hown : OwnS w base v A) (gs : Nat) (c : Nat) (hx : a.eval y = .slice (some ⟨gs, 0, none⟩) 1 c) (hc : ∀ j, j < 2 → w.cell? ⟨gs, j, none⟩ = (encS x)[j]?)
    (hroom : A.length ≤ 200000) (hbase : base ≤ w.heap.size)
    (hK : ∀ g cap w', OwnS w' base (.slice (some ⟨g, 0, none⟩) (A.length + 1) cap) (A ++ [x]) → w.grownBy w' v.ownBlock → (v.ownBlock = some g ∨ g = w.heap.size) → base ≤ g → g < w'.heap.size → wpList Try.prog ops Q rest (a.put o.dst (.slice (some ⟨g, 0, none⟩) (A.length + 1) cap)) w') : wpList Try.prog ops Q (o :: rest) a w :=
  wpList_append_row (enc := encS) Try.underlying94 infoStep rfl (by omega) (by omega) encS_len hgd s y ho base v A x (encS_one x) hs hown gs c hx hc hroom hbase hK
section
variable (n : Int) (b : Bool) (ao fo : Option Addr) (cap fc : Nat) (Z : List ArcT) (F : List Int)
end
end Go.Proofs.Ytlkbohpnlbfopaa
namespace Go.Proofs.Ytlkbohpnlbfopaa
open Go.RowKit
set_option linter.unusedVariables false
def nodeB (n s : Int) : Bool := decide (0 ≤ s ∧ s < n)
def endsE (n : Int) (Z : List ArcT) (s t : Int) : Int := if checkE n Z = 0 then (if nodeB n s = true ∧ nodeB n t = true ∧ s ≠ t then 0 else 70) else checkE n Z
theorem endsE_net {n : Int} {Z : List ArcT} {s t : Int} (h : checkE n Z ≠ 0) : endsE n Z s t = checkE n Z := by unfold endsE; rw [if_neg h]
theorem endsE_no {n : Int} {Z : List ArcT} {s t : Int} (h : checkE n Z = 0) (h2 : nodeB n s = false ∨ nodeB n t = false ∨ s = t) : endsE n Z s t = 70 := by
  unfold endsE
  rw [if_pos h, if_neg]
  rintro ⟨h3, h4, h5⟩
  rcases h2 with h2 | h2 | h2
  · rw [h2] at h3; cases h3
  · rw [h2] at h4; cases h4
  · exact h5 h2
theorem endsE_yes {n : Int} {Z : List ArcT} {s t : Int} (h : checkE n Z = 0) (h2 : nodeB n s = true) (h3 : nodeB n t = true) (h4 : s ≠ t) : endsE n Z s t = 0 := by unfold endsE; rw [if_pos h, if_pos ⟨h2, h3, h4⟩]
theorem endsE_ok {n : Int} {Z : List ArcT} {s t : Int} (h : endsE n Z s t = 0) : checkE n Z = 0 ∧ ∃ i j : Nat, s = (i : Int) ∧ t = (j : Int) ∧ i < n.toNat ∧ j < n.toNat ∧ i ≠ j := by
  unfold endsE at h
  split at h
  · next h1 =>
    split at h
    · next h2 =>
      obtain ⟨h3, h4, h5⟩ := h2
      unfold nodeB at h3 h4
      rw [decide_eq_true_eq] at h3 h4
      exact ⟨h1, s.toNat, t.toNat, by omega, by omega, by omega, by omega, by omega⟩
    · cases h
  · next h1 => exact absurd h h1
section
variable (n : Int) (b : Bool) (ao : Option Addr) (cap : Nat) (Z : List ArcT) (s t : Int)
set_option maxRecDepth 100000 in
set_option maxHeartbeats 2000000 in
theorem ends_any (w : World) (h : Row encA 4 w ao Z) (hz : Z.length ≤ maxLen) :
    Calls Try.prog 76 #[.agg #[.int .i64 n, .bool b, .slice ao Z.length cap], .int .i64 s, .int .i64 t] w fun e w' => e = .returned (.int .i64 (endsE n Z s t)) ∧ Below w.heap.size w w' := by
  have HB0 := Lib.hid ((Below.refl _ w).alloc (Nat.le_refl _) (.cells #[.int .i64 n, .bool b, .slice ao Z.length cap] 24))
  have HN := Lib.hid (heap_alloc_new w (.cells #[.int .i64 n, .bool b, .slice ao Z.length cap] 24))
  have HR := Lib.hid (row_alloc h (.cells #[.int .i64 n, .bool b, .slice ao Z.length cap] 24))
  have HZ := Lib.hid hz
  clear h hz
  by_cases hc : checkE n Z = 0
  · have HC := Lib.hid hc
    by_cases hst : s = t
    · rw [endsE_no hc (.inr (.inr hst))]
      subst hst
      clear hc
      go_enter Try.func76, Try.ntmps76
      go_wp2_with (go_at_call 75; refine (ncheck_is n b ao cap Z 0 _ HR.out HZ.out HC.out).mono ?_; rintro e w1 ⟨rfl, hb1⟩; have hn1 := kept_box HN.out hb1; have HB1 := Lib.hid ((HB0.out.trans (hb1.mono HB0.out.size)).alloc (by have := HB0.out.size; have := hb1.size; omega) (.cells #[.int .i64 n, .bool b, .slice ao Z.length cap] 147)); have x1 := cell_whole hn1 0; have y1 := cell_whole hn1 1; have z1 := cell_whole hn1 2; clear hb1 hn1)
      go_ret
      exact ⟨rfl, HB1.out⟩
    · have hst1 : (s == t) = false := by simpa using hst
      cases hs : nodeB n s
      · rw [endsE_no hc (.inl hs)]
        have HS := Lib.hid hs
        clear hc hs hst
        go_enter Try.func76, Try.ntmps76
        go_wp2_with (first
          | (go_at_call 75; refine (ncheck_is n b ao cap Z 0 _ HR.out HZ.out HC.out).mono ?_; rintro e w1 ⟨rfl, hb1⟩; have hn1 := kept_box HN.out hb1; have HB1 := Lib.hid ((HB0.out.trans (hb1.mono HB0.out.size)).alloc (by have := HB0.out.size; have := hb1.size; omega) (.cells #[.int .i64 n, .bool b, .slice ao Z.length cap] 147)); have x1 := cell_whole hn1 0; have y1 := cell_whole hn1 1; have z1 := cell_whole hn1 2; clear hb1 hn1)
          | (go_at_call 85; refine (hasnode_is n b (.slice ao Z.length cap) s false _ HS.out).mono ?_; rintro e w2 ⟨rfl, hb2⟩; have HB2 := Lib.hid (HB1.out.trans (hb2.mono HB1.out.size)); clear hb2))
        go_ret
        exact ⟨rfl, HB2.out⟩
      · cases ht : nodeB n t
        all_goals
          first | rw [endsE_no hc (.inr (.inl ht))] | rw [endsE_yes hc hs ht hst]
          have HS := Lib.hid hs
          have HT := Lib.hid ht
          clear hc hs ht hst
          go_enter Try.func76, Try.ntmps76
          go_wp2_with (first
            | (go_at_call 75; refine (ncheck_is n b ao cap Z 0 _ HR.out HZ.out HC.out).mono ?_; rintro e w1 ⟨rfl, hb1⟩; have hn1 := kept_box HN.out hb1; have HB1 := Lib.hid ((HB0.out.trans (hb1.mono HB0.out.size)).alloc (by have := HB0.out.size; have := hb1.size; omega) (.cells #[.int .i64 n, .bool b, .slice ao Z.length cap] 147)); have x1 := cell_whole hn1 0; have y1 := cell_whole hn1 1; have z1 := cell_whole hn1 2; have HNN := Lib.hid (heap_alloc_new w1 (.cells #[.int .i64 n, .bool b, .slice ao Z.length cap] 147)); clear hb1 hn1)
            | (go_at_call 85; refine (hasnode_is n b (.slice ao Z.length cap) s true _ HS.out).mono ?_; rintro e w2 ⟨rfl, hb2⟩; have hn2 := kept_box HNN.out hb2; have HB2 := Lib.hid (HB1.out.trans (hb2.mono HB1.out.size)); have x2 := cell_whole hn2 0; have y2 := cell_whole hn2 1; have z2 := cell_whole hn2 2; clear hb2 hn2 HS)
            | (go_at_call 85; refine (hasnode_is n b (.slice ao Z.length cap) t _ _ HT.out).mono ?_; rintro e w3 ⟨rfl, hb3⟩; have HB3 := Lib.hid (HB2.out.trans (hb3.mono HB2.out.size)); clear hb3))
          go_ret
          exact ⟨rfl, HB3.out⟩
  · rw [endsE_net hc]
    obtain ⟨e0, he0⟩ : ∃ e0, checkE n Z = e0 := ⟨_, rfl⟩
    rw [he0] at hc ⊢
    have HC := Lib.hid he0
    have hf2 : (e0 != 0) = true := by simpa using hc
    have hf1 : (e0 == 0) = false := by simpa using hc
    clear hc he0
    go_enter Try.func76, Try.ntmps76
    go_wp2_with (go_at_call 75; refine (ncheck_is n b ao cap Z e0 _ HR.out HZ.out HC.out).mono ?_; rintro e w1 ⟨rfl, hb1⟩; have HB1 := Lib.hid (HB0.out.trans (hb1.mono HB0.out.size)); clear hb1)
    go_ret
    exact ⟨rfl, HB1.out⟩
set_option maxRecDepth 100000 in
set_option maxHeartbeats 2000000 in
theorem rends_any (w : World) (h : Row encA 4 w ao Z) (hz : Z.length ≤ maxLen) :
    Calls Try.prog 29 #[.agg #[.int .i64 n, .bool b, .slice ao Z.length cap], .int .i64 s, .int .i64 t] w fun e w' => e = .returned (.int .i64 (endsE n Z s t)) ∧ Below w.heap.size w w' := by
  have HB0 := Lib.hid ((Below.refl _ w).alloc (Nat.le_refl _) (.cells #[.int .i64 n, .bool b, .slice ao Z.length cap] 24))
  have HN := Lib.hid (heap_alloc_new w (.cells #[.int .i64 n, .bool b, .slice ao Z.length cap] 24))
  have HR := Lib.hid (row_alloc h (.cells #[.int .i64 n, .bool b, .slice ao Z.length cap] 24))
  have HZ := Lib.hid hz
  clear h hz
  by_cases hc : checkE n Z = 0
  · have HC := Lib.hid hc
    cases hs : nodeB n s
    · rw [endsE_no hc (.inl hs)]
      have HS := Lib.hid hs
      clear hc hs
      go_enter Try.func29, Try.ntmps29
      go_wp2_with (first
        | (go_at_call 31; refine (rcheck_is n b ao cap Z 0 _ HR.out HZ.out HC.out).mono ?_; rintro e w1 ⟨rfl, hb1⟩; have hn1 := kept_box HN.out hb1; have HB1 := Lib.hid (HB0.out.trans (hb1.mono HB0.out.size)); have x1 := cell_whole hn1 0; have y1 := cell_whole hn1 1; have z1 := cell_whole hn1 2; clear hb1 hn1)
        | (go_at_call 44; refine (rnode_is n b (.slice ao Z.length cap) s false _ HS.out).mono ?_; rintro e w2 ⟨rfl, hb2⟩; have HB2 := Lib.hid (HB1.out.trans (hb2.mono HB1.out.size)); clear hb2))
      go_ret
      exact ⟨rfl, HB2.out⟩
    · cases ht : nodeB n t
      · rw [endsE_no hc (.inr (.inl ht))]
        have HS := Lib.hid hs
        have HT := Lib.hid ht
        clear hc hs ht
        go_enter Try.func29, Try.ntmps29
        go_wp2_with (first
          | (go_at_call 31; refine (rcheck_is n b ao cap Z 0 _ HR.out HZ.out HC.out).mono ?_; rintro e w1 ⟨rfl, hb1⟩; have hn1 := kept_box HN.out hb1; have HN1 := Lib.hid hn1; have HB1 := Lib.hid (HB0.out.trans (hb1.mono HB0.out.size)); have x1 := cell_whole hn1 0; have y1 := cell_whole hn1 1; have z1 := cell_whole hn1 2; clear hb1 hn1)
          | (go_at_call 44; refine (rnode_is n b (.slice ao Z.length cap) s true _ HS.out).mono ?_; rintro e w2 ⟨rfl, hb2⟩; have hn2 := kept_box HN1.out hb2; have HB2 := Lib.hid (HB1.out.trans (hb2.mono HB1.out.size)); have x2 := cell_whole hn2 0; have y2 := cell_whole hn2 1; have z2 := cell_whole hn2 2; clear hb2 hn2 x1 y1 z1 HS)
          | (go_at_call 44; refine (rnode_is n b (.slice ao Z.length cap) t false _ HT.out).mono ?_; rintro e w3 ⟨rfl, hb3⟩; have HB3 := Lib.hid (HB2.out.trans (hb3.mono HB2.out.size)); clear hb3))
        go_ret
        exact ⟨rfl, HB3.out⟩
      · by_cases hst : s = t
        · rw [endsE_no hc (.inr (.inr hst))]
          subst hst
          have HS := Lib.hid hs
          clear hc hs ht
          go_enter Try.func29, Try.ntmps29
          go_wp2_with (first
            | (go_at_call 31; refine (rcheck_is n b ao cap Z 0 _ HR.out HZ.out HC.out).mono ?_; rintro e w1 ⟨rfl, hb1⟩; have hn1 := kept_box HN.out hb1; have HN1 := Lib.hid hn1; have HB1 := Lib.hid (HB0.out.trans (hb1.mono HB0.out.size)); have x1 := cell_whole hn1 0; have y1 := cell_whole hn1 1; have z1 := cell_whole hn1 2; clear hb1 hn1)
            | (go_at_call 44; refine (rnode_is n b (.slice ao Z.length cap) s true _ HS.out).mono ?_; rintro e w2 ⟨rfl, hb2⟩; have hn2 := kept_box HN1.out hb2; have HN1 := Lib.hid hn2; have HB1 := Lib.hid (HB1.out.trans (hb2.mono HB1.out.size)); have x2 := cell_whole hn2 0; have y2 := cell_whole hn2 1; have z2 := cell_whole hn2 2; clear hb2 hn2))
          go_ret
          exact ⟨rfl, HB1.out⟩
        · rw [endsE_yes hc hs ht hst]
          have hst1 : (s == t) = false := by simpa using hst
          have HS := Lib.hid hs
          have HT := Lib.hid ht
          clear hc hs ht hst
          go_enter Try.func29, Try.ntmps29
          go_wp2_with (first
            | (go_at_call 31; refine (rcheck_is n b ao cap Z 0 _ HR.out HZ.out HC.out).mono ?_; rintro e w1 ⟨rfl, hb1⟩; have hn1 := kept_box HN.out hb1; have HN1 := Lib.hid hn1; have HB1 := Lib.hid (HB0.out.trans (hb1.mono HB0.out.size)); have x1 := cell_whole hn1 0; have y1 := cell_whole hn1 1; have z1 := cell_whole hn1 2; clear hb1 hn1)
            | (go_at_call 44; refine (rnode_is n b (.slice ao Z.length cap) s true _ HS.out).mono ?_; rintro e w2 ⟨rfl, hb2⟩; have hn2 := kept_box HN1.out hb2; have HB2 := Lib.hid (HB1.out.trans (hb2.mono HB1.out.size)); have x2 := cell_whole hn2 0; have y2 := cell_whole hn2 1; have z2 := cell_whole hn2 2; clear hb2 hn2 x1 y1 z1 HS)
            | (go_at_call 44; refine (rnode_is n b (.slice ao Z.length cap) t true _ HT.out).mono ?_; rintro e w3 ⟨rfl, hb3⟩; have HB3 := Lib.hid (HB2.out.trans (hb3.mono HB2.out.size)); clear hb3))
          go_ret
          exact ⟨rfl, HB3.out⟩
  · rw [endsE_net hc]
    obtain ⟨e0, he0⟩ : ∃ e0, checkE n Z = e0 := ⟨_, rfl⟩
    rw [he0] at hc ⊢
    have HC := Lib.hid he0
    have hf2 : (e0 != 0) = true := by simpa using hc
    have hf1 : (e0 == 0) = false := by simpa using hc
    clear hc he0
    go_enter Try.func29, Try.ntmps29
    go_wp2_with (go_at_call 31; refine (rcheck_is n b ao cap Z e0 _ HR.out HZ.out HC.out).mono ?_; rintro e w1 ⟨rfl, hb1⟩; have HB1 := Lib.hid (HB0.out.trans (hb1.mono HB0.out.size)); clear hb1)
    go_ret
    exact ⟨rfl, HB1.out⟩
theorem ends_is (e0 : Int) (w : World) (h : Row encA 4 w ao Z) (hz : Z.length ≤ maxLen) (he : endsE n Z s t = e0) :
    Calls Try.prog 76 #[.agg #[.int .i64 n, .bool b, .slice ao Z.length cap], .int .i64 s, .int .i64 t] w fun e w' => e = .returned (.int .i64 e0) ∧ Below w.heap.size w w' := by subst he; exact ends_any n b ao cap Z s t w h hz
theorem rends_is (e0 : Int) (w : World) (h : Row encA 4 w ao Z) (hz : Z.length ≤ maxLen) (he : endsE n Z s t = e0) :
    Calls Try.prog 29 #[.agg #[.int .i64 n, .bool b, .slice ao Z.length cap], .int .i64 s, .int .i64 t] w fun e w' => e = .returned (.int .i64 e0) ∧ Below w.heap.size w w' := by subst he; exact rends_any n b ao cap Z s t w h hz
end
end Go.Proofs.Ytlkbohpnlbfopaa
namespace Go.Proofs.Ytlkbohpnlbfopaa
open Go.RowKit
set_option linter.unusedVariables false
def balsL (n : Int) (Z : List ArcT) (F : List Int) : List Int := if flowE n Z F = 0 then balL Z F n.toNat Z.length else []
theorem flow_m {n : Int} {b : Bool} {Z : List ArcT} {F : List Int} (hR : Right (n, b, Z)) (hf : Flow Z F) : ∀ i a, Z[i]? = some a → 0 ≤ atI F i ∧ atI F i ≤ 1048576 := fun i a ha => by
  have := flow_bd hR hf ha
  omega
theorem bal_bd {n : Int} {b : Bool} {Z : List ArcT} {F : List Int} (hR : Right (n, b, Z)) (hf : Flow Z F) (v : Nat) {i : Nat} (hi : i ≤ Z.length) : -209715200 ≤ balK Z F v i ∧ balK Z F v i ≤ 209715200 := by
  have h := balK_bd (M := 1048576) (by omega) (flow_m hR hf) v i
  have hz : Z.length ≤ 200 := hR.2.1
  omega
section
variable (n : Int) (b : Bool) (ao fo : Option Addr) (cap fc : Nat) (Z : List ArcT) (F : List Int)
structure BW (w2 wr : World) (g N : Nat) (L : List Int) : Prop where
  below : Below w2.heap.size w2 wr
  own : OwnL encI wr w2.heap.size 3 (.slice (some ⟨g, 0, none⟩) N N) L
section
variable {w2 wr w3 : World} {g N : Nat} {L : List Int}
theorem BW.next (h : BW w2 wr g N L) (hb : Below wr.heap.size wr w3) : BW w2 w3 g N L := ⟨h.below.trans (hb.mono h.below.size), h.own.below hb⟩
theorem BW.alloc (h : BW w2 wr g N L) (o : Obj) : BW w2 (wr.alloc o) g N L := h.next ((Below.refl _ wr).alloc (Nat.le_refl _) o)
theorem BW.put (h : BW w2 wr g N L) (j : Nat) (z : Int) : BW w2 (wr.setCell ⟨g, j, none⟩ (.int .i64 z)) g N (L.set j z) := ⟨below_set h.below (own_lt2 h.own rfl).1 _, h.own.put j z⟩
end
set_option maxRecDepth 100000 in
set_option maxHeartbeats 4000000 in
theorem balance_ok (w : World) (h : Row encA 4 w ao Z) (hf : Lst encI w fo F) (he : flowE n Z F = 0) :
    Calls Try.prog 77 #[.agg #[.int .i64 n, .bool b, .slice ao Z.length cap], .slice fo F.length fc] w (ListsV (balL Z F n.toNat Z.length) 0 w) := by
  obtain ⟨hR, hF, hz, hfl, hn1, hn2⟩ := flow_facts (b := b) he
  obtain ⟨N, rfl⟩ : ∃ N : Nat, n = (N : Int) := ⟨n.toNat, by omega⟩
  have HE := Lib.hid he
  have HRT := Lib.hid hR
  have HFL := Lib.hid hF
  have HL := Lib.hid hfl
  have hfl2 : F.length ≤ 200 := by omega
  have HZ : Hid (Z.length ≤ maxLen) := Lib.hid (by unfold maxLen; omega)
  have HFM : Hid (F.length ≤ maxLen) := Lib.hid (by unfold maxLen; omega)
  have HB0 := Lib.hid ((Below.refl _ w).alloc (Nat.le_refl _) (.cells #[.int .i64 (N : Int), .bool b, .slice ao Z.length cap] 24))
  have HN := Lib.hid (heap_alloc_new w (.cells #[.int .i64 (N : Int), .bool b, .slice ao Z.length cap] 24))
  have HR := Lib.hid (row_alloc h (.cells #[.int .i64 (N : Int), .bool b, .slice ao Z.length cap] 24))
  have HF := Lib.hid (hf.below ((Below.refl _ w).alloc (Nat.le_refl _) (.cells #[.int .i64 (N : Int), .bool b, .slice ao Z.length cap] 24)))
  clear h hf hR hF he hfl
  go_enter Try.func77, Try.ntmps77
  go_wp2_with (first
    | (go_at_call 78; refine (load_ok (N : Int) b ao fo cap fc Z F _ HR.out HF.out HZ.out HFM.out HE.out).mono ?_; rintro e w1 ⟨rfl, hb1⟩; have hn1 := kept_box HN.out hb1; have hs1 := hb1.size; have hba := (Below.refl _ w1).alloc (Nat.le_refl _) (.cells #[.int .i64 (N : Int), .bool b, .slice ao Z.length cap, .slice fo F.length fc] 149); have HR1 := Lib.hid ((HR.out.below' hb1).below' hba); have HF1 := Lib.hid ((HF.out.below hb1).below hba); have HB1 := Lib.hid ((HB0.out.trans (hb1.mono HB0.out.size)).trans (hba.mono (by simp at hs1; omega))); have x1 := cell_alloc (cell_whole hn1 0) (.cells #[.int .i64 (N : Int), .bool b, .slice ao Z.length cap, .slice fo F.length fc] 149); have HSZ1 : Hid ((w1.alloc (.cells #[.int .i64 (N : Int), .bool b, .slice ao Z.length cap, .slice fo F.length fc] 149)).heap.size = w1.heap.size + 1) := Lib.hid (by simp); have HV1 := Lib.hid (heap_alloc_new w1 (.cells #[.int .i64 (N : Int), .bool b, .slice ao Z.length cap, .slice fo F.length fc] 149)); clear hb1 hn1 hba hs1)
    | (at_make; refine wpList_make_L (enc := encI) 0 Try.underlying65 infoInt rfl (by omega) rfl _ _ rfl N rfl rfl (by omega) ?_; intro w3 ho3 hb3; have hW := BW.mk hb3 ho3; rw [HSZ1.out] at hW; have HW3 := Lib.hid hW; clear hb3 ho3 hW))
  clear x1
  obtain ⟨g, hg⟩ : ∃ g, w1.heap.size + 1 = g := ⟨_, rfl⟩
  rw [hg] at HW3 HSZ1 ⊢
  have hVg : w1.heap.size ≠ g := by omega
  have hVl : w1.heap.size < g := by omega
  clear hg
  generalize w1.alloc (.cells #[.int .i64 (N : Int), .bool b, .slice ao Z.length cap, .slice fo F.length fc] 149) = wq at *
  generalize w1.heap.size = V at *
  go_loopw [26] (fun i wr => ∃ k : Nat, k ≤ F.length ∧ i = .int .i64 (k : Int) ∧ Hid (BW wq wr g N (balL Z F N k))) (fun i _ => F.length - (intOf i).toNat)
  case atStart => exact ⟨0, Nat.zero_le _, rfl, Lib.hid (by rw [balL_zero]; exact HW3.out)⟩
  case round =>
    clear HW3
    obtain ⟨k, hk, rfl, HW⟩ := hrel
    by_cases hlf : k < F.length
    · have hlfi : (k : Int) < (F.length : Int) := by omega
      have hlt : k < Z.length := by rw [← HL.out]; exact hlf
      have ha : Z[k]? = some Z[k] := List.getElem?_eq_getElem hlt
      obtain ⟨h1, h2, h3, h4, h5, h6⟩ := right_arc HRT.out (List.mem_of_getElem? ha)
      rw [Int.toNat_natCast] at h3 h4
      obtain ⟨fb, fx, e, hfb, d0⟩ := lst_cell (HF1.out.below HW.out.below) (atI_get (d := F) (v := k) hlf)
      cases e
      unfold encI at d0
      have HBS := Lib.hid (balL_step (f := F) ha h3 h4)
      obtain ⟨q0, q1, q2, q3, _, _⟩ := flow_bd HRT.out HFL.out ha
      have q4 : atI F k ≤ 1048576 := by omega
      have hbx := bal_bd HRT.out HFL.out (frN Z[k]) (i := k) (by omega)
      have hby := bal_bd HRT.out HFL.out (toN Z[k]) (i := k) (by omega)
      have ex := balL_at Z F k h3
      have ey := balL_at Z F k h4
      have eyy := atI_set (d := balL Z F N k) (v := frN Z[k]) (u := toN Z[k]) (x := atI (balL Z F N k) (frN Z[k]) + atI F k) (by rw [balL_len]; exact h3)
      have HA := Lib.hid ha
      have HBE : Hid (begI Z[k] false = (frN Z[k] : Int)) := Lib.hid h1
      have HEN : Hid (endI Z[k] false = (toN Z[k] : Int)) := Lib.hid h2
      have hll := balL_len Z F N k
      clear h1 h2 h5 h6 ha q1 q2 q3
      generalize Z[k] = a at *
      generalize frN a = x at *
      generalize toN a = y at *
      generalize atI F k = u at *
      obtain ⟨s, hs⟩ : ∃ s, atI (balL Z F N k) x = s := ⟨_, rfl⟩
      rw [hs] at HBS ex eyy
      rw [← ex] at hbx
      obtain ⟨r, hr⟩ : ∃ r, atI ((balL Z F N k).set x (s + u)) y = r := ⟨_, rfl⟩
      rw [hr] at HBS eyy
      have hr1 : -210763776 ≤ r ∧ r ≤ 210763776 := by
        rw [eyy]
        split
        · omega
        · rw [ey]; omega
      have hr2 := hr1.1
      have hr3 := hr1.2
      have hs2 := hbx.1
      have hs3 := hbx.2
      have hL1 := atI_get (d := balL Z F N k) (v := x) (by omega)
      rw [hs] at hL1
      have hL2 := atI_get (d := (balL Z F N k).set x (s + u)) (v := y) (by rw [List.length_set]; omega)
      rw [hr] at hL2
      have HL1 := Lib.hid hL1
      have HL2 := Lib.hid hL2
      generalize balL Z F N k = L at *
      have hxi : (x : Int) < (N : Int) := by omega
      have hyi : (y : Int) < (N : Int) := by omega
      have hvv := (HW.out.below.block V (by rw [HSZ1.out]; exact hVl)).trans HV1.out
      have HVV := Lib.hid hvv
      obtain ⟨⟨y0, y1, y2, y3⟩, _⟩ := ldCells (alloc_whole hvv (.cells #[.int .i64 (k : Int), .bool false] 93))
      have HST := Lib.hid (heap_alloc_new wr (.cells #[.int .i64 (k : Int), .bool false] 93))
      have hgl := (own_lt2 HW.out.own rfl).2
      have hgw : g < wr.heap.size := hgl
      have hVw : V < wr.heap.size := by omega
      clear hbx hby ex ey eyy hs hr hr1 hL1 hL2 hll hvv hgl
      go_wp2_with (first
        | (go_at_call 86; refine (begin_at (N : Int) b ao cap Z k false a _ (HR1.out.below' (HW.out.alloc (.cells #[.int .i64 (k : Int), .bool false] 93)).below) HA.out hz).mono ?_; rintro e w4 ⟨rfl, hb4⟩; rw [HBE.out]; have hW4 := (HW.out.alloc (.cells #[.int .i64 (k : Int), .bool false] 93)).next hb4; obtain ⟨cx, fx⟩ := hW4.own.cell HL1.out; unfold encI at cx; have hv4 := kept_box (alloc_whole HVV.out (.cells #[.int .i64 (k : Int), .bool false] 93)) hb4; have hs4 := kept_box HST.out hb4; obtain ⟨⟨z0, z1, z2, z3⟩, _⟩ := ldCells (set_other hv4 hVg x (.int .i64 (s + u))); have t0 := cell_whole (set_other hs4 (by omega) x (.int .i64 (s + u)) (b := g)) 0; have t1 := cell_whole (set_other hs4 (by omega) x (.int .i64 (s + u)) (b := g)) 1; have HW5 := Lib.hid (hW4.put x (s + u)); clear hb4 hW4 hv4 hs4 y0 y1 y2 y3)
        | (go_at_call 87; refine (endof_at (N : Int) b ao cap Z k false a _ (HR1.out.below' HW5.out.below) HA.out hz).mono ?_; rintro e w6 ⟨rfl, hb6⟩; rw [HEN.out]; have hW6 := HW5.out.next hb6; obtain ⟨cy, fy⟩ := hW6.own.cell HL2.out; unfold encI at cy; have HW7 := Lib.hid (hW6.put y (r - u)); clear hb6 hW6 z0 z1 z2 z3 t0 t1))
      go_roundw
      case rel => exact ⟨k + 1, by omega, by go_num, Lib.hid (by rw [HBS.out]; exact HW7.out)⟩
      case measure => simp [intOf]; omega
    · have hlfi : ¬ (k : Int) < (F.length : Int) := by omega
      obtain rfl : k = F.length := by omega
      go_wp2
      go_ret2
      have hl := balL_len Z F N Z.length
      have ho := HW.out.own.lstK
      rw [HL.out] at ho
      exact ⟨some ⟨g, 0, none⟩, N, by rw [hl]; rfl, ho, HB1.out.trans (HW.out.below.mono HB1.out.size)⟩
theorem balance_no (e0 : Int) (w : World) (h : Row encA 4 w ao Z) (hf : Lst encI w fo F) (hz : Z.length ≤ maxLen) (hfl : F.length ≤ maxLen) (he : flowE n Z F = e0) (h0 : e0 ≠ 0) :
    Calls Try.prog 77 #[.agg #[.int .i64 n, .bool b, .slice ao Z.length cap], .slice fo F.length fc] w fun e w' => e = .returned (.tuple #[.slice none 0 0, .int .i64 e0]) ∧ Below w.heap.size w w' := by
  have HB0 := Lib.hid ((Below.refl _ w).alloc (Nat.le_refl _) (.cells #[.int .i64 n, .bool b, .slice ao Z.length cap] 24))
  have HR := Lib.hid (row_alloc h (.cells #[.int .i64 n, .bool b, .slice ao Z.length cap] 24))
  have HF := Lib.hid (hf.below ((Below.refl _ w).alloc (Nat.le_refl _) (.cells #[.int .i64 n, .bool b, .slice ao Z.length cap] 24)))
  have HZ := Lib.hid hz
  have HFM := Lib.hid hfl
  have HE := Lib.hid he
  have H0 := Lib.hid h0
  have hf2 : (e0 != 0) = true := by simpa using h0
  have hf1 : (e0 == 0) = false := by simpa using h0
  clear h hf hz hfl he h0
  go_enter Try.func77, Try.ntmps77
  go_wp2_with (go_at_call 78; refine (load_no n b ao fo cap fc Z F e0 _ HR.out HF.out HZ.out HFM.out HE.out H0.out).mono ?_; rintro e w1 ⟨rfl, hb1⟩; have hs1 := hb1.size; have HB1 := Lib.hid ((HB0.out.trans (hb1.mono HB0.out.size)).alloc (by simp at hs1; omega) (.cells #[.int .i64 0, .bool false, .slice none 0 0, .slice none 0 0] 149)); clear hb1 hs1)
  go_ret2
  exact ⟨rfl, HB1.out⟩
theorem balance_any (w : World) (h : Row encA 4 w ao Z) (hf : Lst encI w fo F) (hz : Z.length ≤ maxLen) (hfl : F.length ≤ maxLen) :
    Calls Try.prog 77 #[.agg #[.int .i64 n, .bool b, .slice ao Z.length cap], .slice fo F.length fc] w (ListsV (balsL n Z F) (flowE n Z F) w) := by
  unfold balsL
  by_cases h0 : flowE n Z F = 0
  · rw [if_pos h0, h0]
    exact balance_ok n b ao fo cap fc Z F w h hf h0
  · rw [if_neg h0]
    refine (balance_no n b ao fo cap fc Z F _ w h hf hz hfl rfl h0).mono ?_
    rintro e w' ⟨rfl, hb⟩
    exact ⟨none, 0, rfl, Lst.nil _ _, hb⟩
end
end Go.Proofs.Ytlkbohpnlbfopaa
namespace Go.Proofs.Ytlkbohpnlbfopaa
open Go.RowKit
set_option linter.unusedVariables false
def okN (s t : Int) (v : Nat) (x : Int) : Bool := decide ((v : Int) = s ∨ (v : Int) = t ∨ x = 0)
theorem okN_s {s t : Int} {v : Nat} {x : Int} (h : (v : Int) = s) : okN s t v x = true := by unfold okN; exact decide_eq_true (.inl h)
theorem okN_t {s t : Int} {v : Nat} {x : Int} (h : (v : Int) = t) : okN s t v x = true := by unfold okN; exact decide_eq_true (.inr (.inl h))
theorem okN_0 {s t : Int} {v : Nat} {x : Int} (h : x = 0) : okN s t v x = true := by unfold okN; exact decide_eq_true (.inr (.inr h))
theorem okN_no {s t : Int} {v : Nat} {x : Int} (h : (v : Int) ≠ s) (h2 : (v : Int) ≠ t) (h3 : x ≠ 0) : okN s t v x = false := by unfold okN; exact decide_eq_false (by omega)
def restB (s t : Int) : Nat → List Int → Bool
  | _, [] => true
  | v, x :: r => okN s t v x && restB s t (v + 1) r
theorem restB_drop {s t : Int} {L : List Int} {k : Nat} (h : k < L.length) : restB s t k (L.drop k) = (okN s t k L[k] && restB s t (k + 1) (L.drop (k + 1))) := by
  rw [List.drop_eq_getElem_cons h]; rfl
theorem restB_mk {s t : Int} : ∀ {L : List Int} {v : Nat}, (∀ (i : Nat) (x : Int), L[i]? = some x → ((v + i : Nat) : Int) = s ∨ ((v + i : Nat) : Int) = t ∨ x = 0) → restB s t v L = true
  | [], _, _ => rfl
  | y :: r, v, h => by
    simp only [restB, Bool.and_eq_true]
    refine ⟨?_, restB_mk (fun i x hx => ?_)⟩
    · unfold okN
      rw [decide_eq_true_eq]
      simpa using h 0 y rfl
    · have := h (i + 1) x (by simpa using hx)
      rw [show v + 1 + i = v + (i + 1) by omega]
      exact this
def valE (n : Int) (Z : List ArcT) (s t : Int) (F : List Int) : Int := if endsE n Z s t = 0 then (if flowE n Z F = 0 then (if restB s t 0 (balsL n Z F) = true then 0 else 71) else flowE n Z F) else endsE n Z s t
def valK (n : Int) (Z : List ArcT) (s t : Int) (F : List Int) : Int := if valE n Z s t F = 0 then bal Z F s.toNat else 0
theorem valE_ends {n : Int} {Z : List ArcT} {s t : Int} {F : List Int} (h : endsE n Z s t ≠ 0) : valE n Z s t F = endsE n Z s t := by unfold valE; rw [if_neg h]
theorem valE_flow {n : Int} {Z : List ArcT} {s t : Int} {F : List Int} (h : endsE n Z s t = 0) (h2 : flowE n Z F ≠ 0) : valE n Z s t F = flowE n Z F := by unfold valE; rw [if_pos h, if_neg h2]
theorem valE_bad {n : Int} {Z : List ArcT} {s t : Int} {F : List Int} (h : endsE n Z s t = 0) (h2 : flowE n Z F = 0) (h3 : restB s t 0 (balsL n Z F) = false) : valE n Z s t F = 71 := by unfold valE; rw [if_pos h, if_pos h2, if_neg (by simp [h3])]
theorem valE_yes {n : Int} {Z : List ArcT} {s t : Int} {F : List Int} (h : endsE n Z s t = 0) (h2 : flowE n Z F = 0) (h3 : restB s t 0 (balsL n Z F) = true) : valE n Z s t F = 0 := by unfold valE; rw [if_pos h, if_pos h2, if_pos h3]
theorem valE_ok {n : Int} {Z : List ArcT} {s t : Int} {F : List Int} (h : valE n Z s t F = 0) : endsE n Z s t = 0 ∧ flowE n Z F = 0 ∧ restB s t 0 (balsL n Z F) = true := by
  unfold valE at h
  split at h
  · next h1 =>
    split at h
    · next h2 =>
      split at h
      · next h3 => exact ⟨h1, h2, h3⟩
      · cases h
    · next h2 => exact absurd h h2
  · next h1 => exact absurd h h1
theorem valK_no {n : Int} {Z : List ArcT} {s t : Int} {F : List Int} (h : valE n Z s t F ≠ 0) : valK n Z s t F = 0 := by unfold valK; rw [if_neg h]
section
variable (n : Int) (b : Bool) (ao fo : Option Addr) (cap fc : Nat) (Z : List ArcT) (s t : Int) (F : List Int)
theorem balance_is (e0 : Int) (L : List Int) (w : World) (h : Row encA 4 w ao Z) (hf : Lst encI w fo F) (hz : Z.length ≤ maxLen) (hfl : F.length ≤ maxLen) (he : flowE n Z F = e0) (hL : balsL n Z F = L) :
    Calls Try.prog 77 #[.agg #[.int .i64 n, .bool b, .slice ao Z.length cap], .slice fo F.length fc] w (ListsV L e0 w) := by subst he; subst hL; exact balance_any n b ao fo cap fc Z F w h hf hz hfl
set_option maxRecDepth 100000 in
set_option maxHeartbeats 4000000 in
theorem scheck_any (w : World) (h : Row encA 4 w ao Z) (hf : Lst encI w fo F) (hz : Z.length ≤ maxLen) (hfl : F.length ≤ maxLen) :
    Calls Try.prog 65 #[.agg #[.int .i64 n, .bool b, .slice ao Z.length cap], .int .i64 s, .int .i64 t, .slice fo F.length fc] w fun e w' => e = .returned (.tuple #[.int .i64 (valK n Z s t F), .int .i64 (valE n Z s t F)]) ∧ Below w.heap.size w w' := by
  have hb00 := (Below.refl _ w).alloc (Nat.le_refl _) (.cells #[.int .i64 n, .bool b, .slice ao Z.length cap] 24)
  have HB0 := Lib.hid hb00
  have HN := Lib.hid (heap_alloc_new w (.cells #[.int .i64 n, .bool b, .slice ao Z.length cap] 24))
  have HR := Lib.hid (h.below' hb00)
  have HF := Lib.hid (hf.below hb00)
  have HZ := Lib.hid hz
  have HFM := Lib.hid hfl
  clear h hf hz hfl hb00
  by_cases h1 : endsE n Z s t = 0
  · have HE := Lib.hid h1
    obtain ⟨L, hL⟩ : ∃ L, balsL n Z F = L := ⟨_, rfl⟩
    have HL := Lib.hid hL
    by_cases h2 : flowE n Z F = 0
    · have HE2 := Lib.hid h2
      obtain ⟨_, i, j, rfl, rfl, hi, hj, hij⟩ := endsE_ok h1
      obtain ⟨hR, hF, hzl, hfl, hn1, hn2⟩ := flow_facts (b := b) h2
      obtain ⟨N, rfl⟩ : ∃ N : Nat, n = (N : Int) := ⟨n.toNat, by omega⟩
      rw [Int.toNat_natCast] at hi hj
      have hLL : L.length = N := by rw [← hL]; unfold balsL; rw [if_pos h2, balL_len, Int.toNat_natCast]
      have hLat : ∀ v, v < N → L[v]? = some (bal Z F v) := by
        intro v hv
        have e : L = balL Z F N Z.length := by rw [← hL]; unfold balsL; rw [if_pos h2, Int.toNat_natCast]
        have := atI_get (d := L) (v := v) (by omega)
        rw [e] at this ⊢
        rw [this, balL_at _ _ _ hv]; rfl
      have HLI := Lib.hid (hLat i hi)
      have HV0 : Hid (restB (i : Int) (j : Int) 0 L = true → valE (N : Int) Z (i : Int) (j : Int) F = 0 ∧ valK (N : Int) Z (i : Int) (j : Int) F = bal Z F i) := Lib.hid (fun hr => by
        have e := valE_yes h1 h2 (by rw [hL]; exact hr)
        exact ⟨e, by unfold valK; rw [if_pos e, Int.toNat_natCast]⟩)
      have HV1 : Hid (restB (i : Int) (j : Int) 0 L = false → valE (N : Int) Z (i : Int) (j : Int) F = 71 ∧ valK (N : Int) Z (i : Int) (j : Int) F = 0) := Lib.hid (fun hr => by
        have e := valE_bad h1 h2 (by rw [hL]; exact hr)
        exact ⟨e, valK_no (by rw [e]; decide)⟩)
      generalize bal Z F i = bi at *
      have hLb : L.length ≤ 50 := by omega
      have HLN := Lib.hid hLL
      clear h1 h2 hL hLat hR hF hzl hfl hLL
      go_enter Try.func65, Try.ntmps65
      go_wp2_with (first
        | (go_at_call 76; refine (ends_is (N : Int) b ao cap Z (i : Int) (j : Int) 0 _ HR.out HZ.out HE.out).mono ?_; rintro e w1 ⟨rfl, hb1⟩; have hn1 := kept_box HN.out hb1; have HR1 := Lib.hid (HR.out.below' hb1); have HF1 := Lib.hid (HF.out.below hb1); have HB1 := Lib.hid (HB0.out.trans (hb1.mono HB0.out.size)); have x1 := cell_whole hn1 0; have y1 := cell_whole hn1 1; have z1 := cell_whole hn1 2; clear hb1 hn1)
        | (go_at_call 77; refine (balance_is (N : Int) b ao fo cap fc Z F 0 L _ HR1.out HF1.out HZ.out HFM.out HE2.out HL.out).mono ?_; rintro e w2 ⟨la, lc, rfl, hl2, hb2⟩; have HLS := Lib.hid hl2; have HB2 := Lib.hid (HB1.out.trans (hb2.mono HB1.out.size)); clear hl2 hb2 x1 y1 z1))
      go_loop [33] (fun i' => ∃ k : Nat, k ≤ L.length ∧ i' = .int .i64 (k : Int) ∧ Hid (restB (i : Int) (j : Int) k (L.drop k) = restB (i : Int) (j : Int) 0 L)) (fun i' => L.length - (intOf i').toNat)
      case atStart => exact ⟨0, Nat.zero_le _, rfl, Lib.hid rfl⟩
      case round =>
        obtain ⟨k, hk, rfl, HA⟩ := hrel
        by_cases hlt : k < L.length
        · have hli : (k : Int) < (L.length : Int) := by omega
          obtain ⟨lb, lx, e, hlb, d0⟩ := lst_cell HLS.out (List.getElem?_eq_getElem hlt)
          cases e
          have HD := Lib.hid (restB_drop (s := (i : Int)) (t := (j : Int)) hlt)
          unfold encI at d0
          generalize L[k] = x at *
          by_cases e1 : k = i
          · have HA2 : Hid (restB (i : Int) (j : Int) (k + 1) (L.drop (k + 1)) = restB (i : Int) (j : Int) 0 L) := Lib.hid (by rw [← HA.out, HD.out, okN_s (by rw [e1])]; rfl)
            have b1 : ((k : Int) != (i : Int)) = false := by simp; omega
            have b2 : (k != i) = false := by simp; omega
            clear e1
            go_wp2
            go_round
            case rel => exact ⟨k + 1, by omega, by go_num, HA2⟩
            case measure => simp [intOf]; omega
          · have b1 : ((k : Int) != (i : Int)) = true := by simp; omega
            have b2 : (k != i) = true := by simp; omega
            by_cases e2 : k = j
            · have HA2 : Hid (restB (i : Int) (j : Int) (k + 1) (L.drop (k + 1)) = restB (i : Int) (j : Int) 0 L) := Lib.hid (by rw [← HA.out, HD.out, okN_t (by rw [e2])]; rfl)
              have b3 : ((k : Int) != (j : Int)) = false := by simp; omega
              have b4 : (k != j) = false := by simp; omega
              clear e1 e2
              go_wp2
              go_round
              case rel => exact ⟨k + 1, by omega, by go_num, HA2⟩
              case measure => simp [intOf]; omega
            · have b3 : ((k : Int) != (j : Int)) = true := by simp; omega
              have b4 : (k != j) = true := by simp; omega
              by_cases e3 : x = 0
              · subst e3
                have HA2 : Hid (restB (i : Int) (j : Int) (k + 1) (L.drop (k + 1)) = restB (i : Int) (j : Int) 0 L) := Lib.hid (by rw [← HA.out, HD.out, okN_0 rfl]; rfl)
                clear e1 e2
                go_wp2
                go_round
                case rel => exact ⟨k + 1, by omega, by go_num, HA2⟩
                case measure => simp [intOf]; omega
              · have b5 : (x != 0) = true := by simpa using e3
                have HX : Hid (restB (i : Int) (j : Int) 0 L = false) := Lib.hid (by rw [← HA.out, HD.out, okN_no (by omega) (by omega) e3]; rfl)
                clear e1 e2 e3
                go_wp2
                go_ret2
                obtain ⟨q1, q2⟩ := HV1.out HX.out
                exact ⟨by rw [q1, q2]; rfl, HB2.out⟩
        · have hli : ¬ (k : Int) < (L.length : Int) := by omega
          obtain rfl : k = L.length := by omega
          have HX : Hid (restB (i : Int) (j : Int) 0 L = true) := Lib.hid (by rw [← HA.out, List.drop_eq_nil_of_le (Nat.le_refl _)]; rfl)
          obtain ⟨lb, lx, e, hlb, d0⟩ := lst_cell HLS.out HLI.out
          cases e
          unfold encI at d0
          have hil : (i : Int) < (L.length : Int) := by rw [HLN.out]; omega
          have hil2 : i < L.length := by omega
          go_wp2
          go_ret2
          obtain ⟨q1, q2⟩ := HV0.out HX.out
          exact ⟨by rw [q1, q2]; rfl, HB2.out⟩
    · have hv := valE_flow h1 h2
      rw [valK_no (by rw [hv]; exact h2), hv]
      obtain ⟨e0, he0⟩ : ∃ e0, flowE n Z F = e0 := ⟨_, rfl⟩
      rw [he0] at h2 ⊢
      have HE2 := Lib.hid he0
      have hf2 : (e0 != 0) = true := by simpa using h2
      have hf1 : (e0 == 0) = false := by simpa using h2
      clear h1 h2 hv he0 hL
      go_enter Try.func65, Try.ntmps65
      go_wp2_with (first
        | (go_at_call 76; refine (ends_is n b ao cap Z s t 0 _ HR.out HZ.out HE.out).mono ?_; rintro e w1 ⟨rfl, hb1⟩; have hn1 := kept_box HN.out hb1; have HR1 := Lib.hid (HR.out.below' hb1); have HF1 := Lib.hid (HF.out.below hb1); have HB1 := Lib.hid (HB0.out.trans (hb1.mono HB0.out.size)); have x1 := cell_whole hn1 0; have y1 := cell_whole hn1 1; have z1 := cell_whole hn1 2; clear hb1 hn1)
        | (go_at_call 77; refine (balance_is n b ao fo cap fc Z F e0 L _ HR1.out HF1.out HZ.out HFM.out HE2.out HL.out).mono ?_; rintro e w2 ⟨la, lc, rfl, hl2, hb2⟩; have HB2 := Lib.hid (HB1.out.trans (hb2.mono HB1.out.size)); clear hl2 hb2 x1 y1 z1))
      go_ret2
      exact ⟨rfl, HB2.out⟩
  · have hv := valE_ends (F := F) h1
    rw [valK_no (by rw [hv]; exact h1), hv]
    obtain ⟨e0, he0⟩ : ∃ e0, endsE n Z s t = e0 := ⟨_, rfl⟩
    rw [he0] at h1 ⊢
    have HE := Lib.hid he0
    have hf2 : (e0 != 0) = true := by simpa using h1
    have hf1 : (e0 == 0) = false := by simpa using h1
    clear h1 hv he0
    go_enter Try.func65, Try.ntmps65
    go_wp2_with (go_at_call 76; refine (ends_is n b ao cap Z s t e0 _ HR.out HZ.out HE.out).mono ?_; rintro e w1 ⟨rfl, hb1⟩; have HB1 := Lib.hid (HB0.out.trans (hb1.mono HB0.out.size)); clear hb1)
    go_ret2
    exact ⟨rfl, HB1.out⟩
end
theorem bals8_at {n : Int} {Z : List ArcT} {F : List Int} {N : Nat} (h : flowE n Z F = 0) (hN : n = (N : Int)) : (balsL n Z F).length = N ∧ ∀ v, v < N → (balsL n Z F)[v]? = some (bal Z F v) := by
  have e : balsL n Z F = balL Z F N Z.length := by unfold balsL; rw [if_pos h, hN, Int.toNat_natCast]
  refine ⟨by rw [e, balL_len], fun v hv => ?_⟩
  rw [e]
  have := atI_get (d := balL Z F N Z.length) (v := v) (by rw [balL_len]; exact hv)
  rw [this, balL_at Z F Z.length hv]
  rfl
theorem of_st {N i j : Nat} {Z : List ArcT} {G : List Int} {v : Int} (he : endsE (N : Int) Z (i : Int) (j : Int) = 0) (h : FlowST Z N i j G v) : valE (N : Int) Z (i : Int) (j : Int) G = 0 ∧ valK (N : Int) Z (i : Int) (j : Int) G = v := by
  obtain ⟨hc, _⟩ := endsE_ok he
  have hfe : flowE (N : Int) Z G = 0 := by unfold flowE; rw [if_pos hc, if_pos (flow_flowB h.1)]
  obtain ⟨hl, hb⟩ := bals8_at hfe (rfl : (N : Int) = (N : Int))
  have hr : restB (i : Int) (j : Int) 0 (balsL (N : Int) Z G) = true := restB_mk (fun w x hx => by
    have hw : w < N := by rw [← hl]; exact (List.getElem?_eq_some_iff.1 hx).1
    rw [hb w hw] at hx
    cases hx
    rw [Nat.zero_add]
    by_cases h1 : w = i
    · left; omega
    · by_cases h2 : w = j
      · right; left; omega
      · right; right; exact h.2.1 w hw h1 h2)
  have hv := valE_yes he hfe hr
  refine ⟨hv, ?_⟩
  unfold valK
  rw [if_pos hv, Int.toNat_natCast]
  exact h.2.2
end Go.Proofs.Ytlkbohpnlbfopaa
namespace Go.Proofs.Ytlkbohpnlbfopaa
open Go.RowKit
set_option linter.unusedVariables false
structure RW (w1 wr : World) (v : Value) (F : List Int) : Prop where
  below : Below w1.heap.size w1 wr
  own : OwnL encI wr w1.heap.size 3 v F
section
variable {w1 wr w3 : World} {v : Value} {F : List Int}
theorem RW.next (h : RW w1 wr v F) (hb : Below wr.heap.size wr w3) : RW w1 w3 v F := ⟨h.below.trans (hb.mono h.below.size), h.own.below hb⟩
theorem RW.drew (h : RW w1 wr v F) : RW w1 wr.drew v F := h.next (below_drew (Below.refl _ _))
theorem RW.drewN (h : RW w1 wr v F) (n : Nat) : RW w1 (wr.drewN n) v F := h.next (below_drewN (Below.refl _ _) n)
theorem RW.alloc (h : RW w1 wr v F) (o : Obj) : RW w1 (wr.alloc o) v F := h.next ((Below.refl _ wr).alloc (Nat.le_refl _) o)
theorem RW.put {g N c : Nat} (h : RW w1 wr (.slice (some ⟨g, 0, none⟩) N c) F) (j : Nat) (z : Int) : RW w1 (wr.setCell ⟨g, j, none⟩ (.int .i64 z)) (.slice (some ⟨g, 0, none⟩) N c) (F.set j z) := ⟨below_set h.below (own_lt2 h.own rfl).1 _, h.own.put j z⟩
end
section
variable (n : Int) (b : Bool) (ao fo lo : Option Addr) (cap fc lc : Nat) (Z : List ArcT) (F : List Int) (L : List StepT)
end
end Go.Proofs.Ytlkbohpnlbfopaa
