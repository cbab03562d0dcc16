/- Package decomp's length and Lengths. -/
import Derived.Test.YtmflleifglefiaaDLen
import Derived.Test.YtmflleifglefiaaDCl2
namespace Go.Proofs.Ytmflleifglefiaa
open Go.RowKit
set_option linter.unusedVariables false

/-- All of these are places of arcs. -/
def inB (nz : Nat) (A : List Int) : Bool := A.all (fun x => decide (0 ≤ x ∧ x < (nz : Int)))
theorem inB_iff {nz : Nat} {A : List Int} : inB nz A = true ↔ ∀ x ∈ A, 0 ≤ x ∧ x < (nz : Int) := by
  unfold inB
  rw [List.all_eq_true]
  exact ⟨fun h x hx => by simpa using h x hx, fun h x hx => by simpa using h x hx⟩
theorem inB_no {nz : Nat} {A : List Int} {x : Int} (hx : x ∈ A) (h : ¬ (0 ≤ x ∧ x < (nz : Int))) : inB nz A = false := by
  cases e : inB nz A with
  | false => rfl
  | true => exact absurd (inB_iff.1 e x hx) h
set_option maxRecDepth 100000 in
set_option maxHeartbeats 8000000 in
theorem dlength_at (ao lo : Option Addr) (cap nz nl lc : Nat) (Z : List ArcT) (A : List Int) (q : Int) (w : World) (h : Row encA 4 w ao Z) (hl : Lst encI w lo A) (hnz : Z.length = nz) (hnl : A.length = nl) (hz : nz ≤ 200) (hm : nl ≤ maxLen) (ht : ∀ a ∈ Z, 0 ≤ tm a ∧ tm a ≤ 1048576) :
    Calls Try.prog 39 #[.slice ao nz cap, .agg #[.slice lo nl lc, .int .i64 q]] w fun e w' => ∃ x, e = .returned (.tuple #[.int .i64 x, .bool (inB nz A)]) ∧ (nl ≤ 200000 → inB nz A = true → x = lenI Z A) ∧ Below w.heap.size w w' := by
  have hb00 := (Below.refl _ w).alloc (Nat.le_refl _) (.cells #[.slice lo nl lc, .int .i64 q] 49)
  have HB0 := Lib.hid hb00
  have HN0 := Lib.hid (heap_alloc_new w (.cells #[.slice lo nl lc, .int .i64 q] 49))
  have c0 := cell_whole HN0.out 0
  have HR := Lib.hid (h.below' hb00)
  have HL := Lib.hid (hl.below hb00)
  have HT := Lib.hid ht
  have HNZ := Lib.hid hnz
  have HNL := Lib.hid hnl
  unfold maxLen at hm
  clear h hl hb00 ht hnz hnl
  go_enter Try.func39, Try.ntmps39
  go_wp2
  generalize w.alloc (.cells #[.slice lo nl lc, .int .i64 q] 49) = w1 at *
  clear c0
  go_loopw [4, 11] (fun kv iv wr => ∃ (k : Nat) (x : Int), k ≤ nl ∧ iv = .int .i64 (k : Int) ∧ kv = .int .i64 x ∧ Hid (k ≤ 200000 → x = lenI Z (A.take k)) ∧ Hid (∀ y ∈ A.take k, 0 ≤ y ∧ y < (nz : Int)) ∧ wr = w1) (fun _ iv _ => nl - (intOf iv).toNat)
  case atStart => exact ⟨0, 0, Nat.zero_le _, rfl, rfl, Lib.hid (fun _ => rfl), Lib.hid (fun y hy => by simp at hy), rfl⟩
  case round =>
    obtain ⟨k, x, hk, rfl, rfl, HX, HA, rfl⟩ := hrel
    by_cases hlt : k < nl
    · have hli : (k : Int) < (nl : Int) := by omega
      have hka : k < A.length := by rw [HNL.out]; exact hlt
      obtain ⟨lb, lx, e, _, a0⟩ := lst_cell HL.out (List.getElem?_eq_getElem hka)
      cases e
      unfold encI at a0
      have HMEM : Hid (A[k] ∈ A) := Lib.hid (List.getElem_mem hka)
      have HTK : Hid (A.take (k + 1) = A.take k ++ [A[k]]) := Lib.hid (List.take_succ_eq_append_getElem hka)
      have HLE := Lib.hid (lenI_take (Z := Z) hka)
      generalize A[k] = y at *
      by_cases h1 : y < 0
      · have HNO : Hid (inB nz A = false) := Lib.hid (inB_no HMEM.out (by omega))
        go_wp2
        go_ret2
        exact ⟨0, by rw [HNO.out]; rfl, by rw [HNO.out]; simp, HB0.out⟩
      · by_cases h2 : (nz : Int) ≤ y
        · have HNO : Hid (inB nz A = false) := Lib.hid (inB_no HMEM.out (by omega))
          have h2b : y ≥ (nz : Int) := h2
          go_wp2
          go_ret2
          exact ⟨0, by rw [HNO.out]; rfl, by rw [HNO.out]; simp, HB0.out⟩
        · obtain ⟨p, rfl⟩ : ∃ p : Nat, y = (p : Int) := ⟨y.toNat, by omega⟩
          have hpz : p < Z.length := by rw [HNZ.out]; omega
          have h2b : ¬ ((p : Int) ≥ (nz : Int)) := h2
          have hpi : (p : Int) < (nz : Int) := by omega
          obtain ⟨ab, ax, e, hab, d0, d1, d2, d3⟩ := HR.out.arc hpz
          cases e
          have HTB := Lib.hid (HT.out _ (List.getElem_mem hpz))
          have HGD : Hid (Z.getD (p : Int).toNat (0, 0, 0, 0) = Z[p]) := Lib.hid (by rw [Int.toNat_natCast, List.getD_eq_getElem?_getD, List.getElem?_eq_getElem hpz]; rfl)
          rw [HGD.out] at HLE
          have HTM : Hid (Z[p].2.2.2 = tm Z[p]) := Lib.hid rfl
          rw [HTM.out] at d3
          clear HGD HTM
          generalize tm Z[p] = u at *
          have HBD : Hid (k ≤ 200000 → 0 ≤ lenI Z (A.take k) ∧ lenI Z (A.take k) ≤ 1048576 * k) := Lib.hid (fun _ => by
            have h3 := lenI_bd (Z := Z) (A := A.take k) HT.out (fun y hy => by obtain ⟨h4, h5⟩ := HA.out y hy; exact ⟨y.toNat, by omega, by rw [HNZ.out]; omega⟩)
            rw [List.length_take] at h3
            omega)
          clear d0 d1 d2 hab hpz
          go_wp2
          go_roundw
          case rel => exact ⟨k + 1, _, by omega, by go_num, rfl, Lib.hid (fun hq => by
            have h3 := HX.out (by omega)
            have h4 := HBD.out (by omega)
            have h5 := HTB.out
            rw [HLE.out, ← h3]
            rw [← h3] at h4
            unfold wrap64
            omega), Lib.hid (fun y hy => by
            rw [HTK.out] at hy
            rcases List.mem_append.1 hy with hy | hy
            · exact HA.out y hy
            · rw [List.mem_singleton.1 hy]; omega), by first | rfl | trivial⟩
          case measure => simp [intOf]; omega
    · have hli : ¬ (k : Int) < (nl : Int) := by omega
      obtain rfl : k = nl := by omega
      have HE : Hid (A.take k = A) := Lib.hid (List.take_of_length_le (by rw [HNL.out]; exact Nat.le_refl _))
      rw [HE.out] at HX HA
      have HYES : Hid (inB nz A = true) := Lib.hid (inB_iff.2 HA.out)
      go_wp2
      go_ret2
      exact ⟨x, by rw [HYES.out]; rfl, fun hq _ => HX.out hq, HB0.out⟩
end Go.Proofs.Ytmflleifglefiaa
