/- Networks with a flow: what a flow is, and the ends and the room of steps; the program's and the document's. -/
import Derived.Test.YtbolpjahmmjllaaBA
import Derived.Test.YtbolpjahmmjllaaARhop
import Derived.Test.YtbolpjahmmjllaaASame
namespace Go.Proofs.Ytbolpjahmmjllaa
open Go.RowKit
set_option linter.unusedVariables false

/-- May so much go along an arc that takes so much? -/
def okB (x c : Int) : Bool := decide (0 ≤ x ∧ x ≤ c)
theorem okB_iff {x c : Int} : okB x c = true ↔ 0 ≤ x ∧ x ≤ c := by unfold okB; simp
theorem okB_no {x c : Int} (h : x < 0 ∨ c < x) : okB x c = false := by unfold okB; exact decide_eq_false (by omega)
theorem okB_yes {x c : Int} (h : ¬ x < 0) (h2 : ¬ c < x) : okB x c = true := by rw [okB_iff]; omega
/-- Is a list of numbers a flow? -/
def flowB : List ArcT → List Int → Bool
  | [], [] => true
  | a :: Z, x :: F => okB x (capN a) && flowB Z F
  | _, _ => false
theorem flowB_len : ∀ {Z : List ArcT} {F : List Int}, flowB Z F = true → F.length = Z.length
  | [], [], _ => rfl
  | a :: Z, x :: F, h => by
    simp only [flowB, Bool.and_eq_true] at h
    simp [flowB_len h.2]
  | [], _ :: _, h => by cases h
  | _ :: _, [], h => by cases h
theorem flowB_ne {Z : List ArcT} {F : List Int} (h : F.length ≠ Z.length) : flowB Z F = false := by
  cases e : flowB Z F with
  | false => rfl
  | true => exact absurd (flowB_len e) h
theorem flowB_at : ∀ {Z : List ArcT} {F : List Int}, flowB Z F = true → ∀ (i : Nat) (a : ArcT), Z[i]? = some a → 0 ≤ atI F i ∧ atI F i ≤ capN a
  | [], _, _, i, a, h => by simp at h
  | a :: Z, [], h, _, _, _ => by cases h
  | a :: Z, x :: F, h, 0, b, hb => by
    simp only [flowB, Bool.and_eq_true, okB_iff] at h
    simp at hb; subst hb
    simpa [atI] using h.1
  | a :: Z, x :: F, h, i + 1, b, hb => by
    simp only [flowB, Bool.and_eq_true] at h
    have := flowB_at h.2 i b (by simpa using hb)
    simpa [atI] using this
theorem flowB_flow {Z : List ArcT} {F : List Int} (h : flowB Z F = true) : Flow Z F := ⟨flowB_len h, flowB_at h⟩
theorem flow_flowB : ∀ {Z : List ArcT} {F : List Int}, Flow Z F → flowB Z F = true
  | [], [], _ => rfl
  | [], _ :: _, h => by have := h.1; simp at this
  | _ :: _, [], h => by have := h.1; simp at this
  | a :: Z, x :: F, h => by
    simp only [flowB, Bool.and_eq_true, okB_iff]
    refine ⟨by simpa [atI] using h.2 0 a rfl, flow_flowB ⟨by simpa using h.1, fun i b hb => ?_⟩⟩
    simpa [atI] using h.2 (i + 1) b (by simpa using hb)
theorem flowB_drop {Z : List ArcT} {F : List Int} {k : Nat} (hz : k < Z.length) (hf : k < F.length) : flowB (Z.drop k) (F.drop k) = (okB F[k] (capN Z[k]) && flowB (Z.drop (k + 1)) (F.drop (k + 1))) := by
  rw [List.drop_eq_getElem_cons hz, List.drop_eq_getElem_cons hf]; rfl
/-- What is wrong with a network and a flow. -/
def flowE (n : Int) (Z : List ArcT) (F : List Int) : Int := if checkE n Z = 0 then (if flowB Z F = true then 0 else 71) else checkE n Z
theorem flowE_ok {n : Int} {Z : List ArcT} {F : List Int} (h : flowE n Z F = 0) : checkE n Z = 0 ∧ flowB Z F = true := by
  unfold flowE at h
  split at h
  · next h1 =>
    split at h
    · next h2 => exact ⟨h1, h2⟩
    · cases h
  · next h1 => exact absurd h h1
theorem flowE_mk {n : Int} {Z : List ArcT} {F : List Int} (h : checkE n Z = 0) (h2 : flowB Z F = true) : flowE n Z F = 0 := by unfold flowE; rw [if_pos h, if_pos h2]
theorem flowE_bad {n : Int} {Z : List ArcT} {F : List Int} (h : checkE n Z = 0) (h2 : flowB Z F = false) : flowE n Z F = 71 := by unfold flowE; rw [if_pos h, if_neg (by simp [h2])]
theorem flowE_net {n : Int} {Z : List ArcT} {F : List Int} (h : checkE n Z ≠ 0) : flowE n Z F = checkE n Z := by unfold flowE; rw [if_neg h]
set_option maxRecDepth 100000 in
set_option maxHeartbeats 2000000 in
theorem isflow_any (ao fo : Option Addr) (cap fc : Nat) (Z : List ArcT) (F : List Int) (w : World) (h : Row encA 4 w ao Z) (hf : Lst encI w fo F) (hz : Z.length ≤ maxLen) (hfl : F.length ≤ maxLen) :
    Calls Try.prog 67 #[.slice ao Z.length cap, .slice fo F.length fc] w fun e w' => e = .returned (.bool (flowB Z F)) ∧ Below w.heap.size w w' := by
  unfold maxLen at hz hfl
  by_cases hl : F.length = Z.length
  · have HR := Lib.hid h
    have HF := Lib.hid hf
    have HL := Lib.hid hl
    have hl1 : ((F.length : Int) != (Z.length : Int)) = false := by simp; omega
    have hl2 : ((F.length : Int) == (Z.length : Int)) = true := by simp; omega
    have hl3 : (F.length != Z.length) = false := by simp; omega
    clear h hf hl
    go_enter Try.func67, Try.ntmps67
    go_wp2
    go_loopw [14] (fun i wr => ∃ k : Nat, k ≤ Z.length ∧ i = .int .i64 (k : Int) ∧ Hid (Below w.heap.size w wr) ∧ Hid (flowB (Z.drop k) (F.drop k) = flowB Z F)) (fun i _ => Z.length - (intOf i).toNat)
    case atStart => exact ⟨0, Nat.zero_le _, rfl, Lib.hid (Below.refl _ _), Lib.hid rfl⟩
    case round =>
      obtain ⟨k, hk, rfl, HB, HA⟩ := hrel
      by_cases hlt : k < Z.length
      · have hli : (k : Int) < (Z.length : Int) := by omega
        have hlf : k < F.length := by rw [HL.out]; exact hlt
        have hlfi : (k : Int) < (F.length : Int) := by omega
        obtain ⟨ab, ax, e, hab, c0, c1, c2, c3⟩ := (HR.out.below' HB.out).arc hlt
        cases e
        obtain ⟨fb, fx, e, hfb, d0⟩ := lst_cell (HF.out.below HB.out) (List.getElem?_eq_getElem hlf)
        cases e
        have HD := Lib.hid (flowB_drop hlt hlf)
        generalize Z[k] = z at *
        generalize F[k] = v at *
        obtain ⟨x, y, c, t⟩ := z
        unfold encI at d0
        simp only [capN] at c0 c1 c2 c3 HD
        have d1 := cell_alloc d0 (.cells #[.int .i64 x, .int .i64 y, .int .i64 c, .int .i64 t] 66)
        have HBA := Lib.hid (HB.out.alloc HB.out.size (.cells #[.int .i64 x, .int .i64 y, .int .i64 c, .int .i64 t] 66))
        have q2 := cell_new wr #[.int .i64 x, .int .i64 y, .int .i64 c, .int .i64 t] 66 2
        by_cases hv : v < 0
        · have hd : decide (v < 0) = true := by simpa using hv
          have HFB : Hid (flowB Z F = false) := Lib.hid (by rw [← HA.out, HD.out, okB_no (by omega)]; rfl)
          go_wp2
          go_quiet (fail)
          go_wp2
          go_ret
          exact ⟨ret_bool HFB.out.symm, below_drewN HBA.out _⟩
        · have hd : decide (v < 0) = false := by simpa using hv
          by_cases hc : c < v
          · have hd2 : decide (c < v) = true := by simpa using hc
            have HFB : Hid (flowB Z F = false) := Lib.hid (by rw [← HA.out, HD.out, okB_no (by omega)]; rfl)
            go_wp2
            go_quiet (fail)
            go_wp2
            go_ret
            exact ⟨ret_bool HFB.out.symm, below_drewN HBA.out _⟩
          · have hd2 : decide (c < v) = false := by simpa using hc
            have HFB : Hid (flowB (Z.drop (k + 1)) (F.drop (k + 1)) = flowB Z F) := Lib.hid (by rw [← HA.out, HD.out, okB_yes hv hc]; rfl)
            go_wp2
            go_quiet (fail)
            go_wp2
            go_roundw
            case rel => exact ⟨k + 1, by omega, by go_num, Lib.hid (below_drewN HBA.out _), HFB⟩
            case measure => simp [intOf]; omega
      · have hli : ¬ (k : Int) < (Z.length : Int) := by omega
        obtain rfl : k = Z.length := by omega
        have HFB : Hid (flowB Z F = true) := Lib.hid (by rw [← HA.out, List.drop_eq_nil_of_le (Nat.le_refl _), List.drop_eq_nil_of_le (by rw [HL.out]; exact Nat.le_refl _)]; rfl)
        go_wp2
        go_ret
        exact ⟨ret_bool HFB.out.symm, HB.out⟩
  · rw [flowB_ne hl]
    have hl1 : ((F.length : Int) != (Z.length : Int)) = true := by simp; omega
    have hl2 : ((F.length : Int) == (Z.length : Int)) = false := by simp; omega
    have hl3 : (F.length != Z.length) = true := by simp; omega
    have hl4 : (F.length == Z.length) = false := by simp; omega
    clear h hf hl
    go_enter Try.func67, Try.ntmps67
    go_wp2
    go_ret
    exact ⟨rfl, Below.refl _ _⟩
end Go.Proofs.Ytbolpjahmmjllaa
