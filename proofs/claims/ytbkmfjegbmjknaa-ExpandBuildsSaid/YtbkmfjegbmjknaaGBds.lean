/- How great the least times can be; what Most of layer 12 answers. -/
import Derived.Test.YtbkmfjegbmjknaaGSpec
namespace Go.Proofs.Ytbkmfjegbmjknaa
open Go.RowKit
set_option linter.unusedVariables false

theorem dN_bd {Z : List ArcT} {F : List Int} {N s : Nat} (hT : TimeNet Z N) (hN : N ≤ 50) (hz : Z.length ≤ 200) : BdO (dN Z F N s N) 2000000 := by
  have hR := rowsR_to (F := F) hT.lt
  have hb := BdO.bell (R := rowsR Z F) (N := N) (s := s) (fun a ha => ⟨by
    obtain ⟨x, ⟨h1, _⟩, rfl⟩ := rowsR_mem.1 ha
    have := hT.times _ (List.mem_of_getElem? (arcOf_at h1))
    rw [rowS_tm]
    unfold tmS
    split <;> omega, (hR a ha).2⟩) N
  have hl : (rowsR Z F).length ≤ 2 * Z.length := by rw [rowsR_len]; exact stepsK_len Z F Z.length
  have hm : N * (rowsR Z F).length ≤ 50 * 400 := Nat.mul_le_mul hN (by omega)
  intro v x hx
  have := hb v x hx
  omega
theorem dN_on {Z : List ArcT} {F : List Int} {N s : Nat} (hZ : ∀ a ∈ Z, frN a < N ∧ toN a < N) (hs : s < N) (hn : NoGainF Z F s) : ∀ y ∈ stepsK Z F Z.length, (getO (dN Z F N s N) (fromS Z y)).isSome = true → (getO (dN Z F N s N) (toS Z y)).isSome = true := by
  intro y hy h
  obtain ⟨a, ha⟩ := Option.isSome_iff_exists.1 h
  obtain ⟨b, hb, _⟩ := d_closed hZ hs hn (rowS Z y) (List.mem_map.2 ⟨y, hy, rfl⟩) a (by rw [rowS_fr]; exact ha)
  rw [rowS_to] at hb
  rw [hb]
  rfl
theorem wor_st {Z : List ArcT} {N i j : Nat} {H : Int} {F : List Int} {k : Int} (hE : askE (N : Int) Z (i : Int) (j : Int) H = 0) (h : FlowST Z N i j F k) : worE (N : Int) Z (i : Int) (j : Int) F H = 0 ∧ worV (N : Int) Z (i : Int) (j : Int) F H = worthK Z H F k := by
  obtain ⟨hv, hk⟩ := of_st (askE_ok hE).1 h
  have hw : worE (N : Int) Z (i : Int) (j : Int) F H = 0 := by unfold worE; rw [if_pos hE, hv]
  refine ⟨hw, ?_⟩
  unfold worV worthK costV
  rw [if_pos hw, hk, if_pos (valE_ok hv).2.1]
/-- What is asked is right: numbers, a network whose numbers are not too great. -/
theorem ask_net {n : Int} {Z : List ArcT} {s t H : Int} (h : askE n Z s t H = 0) : ∃ N i j : Nat, n = (N : Int) ∧ s = (i : Int) ∧ t = (j : Int) ∧ i < N ∧ j < N ∧ i ≠ j ∧ SpanNet Z N ∧ 0 ≤ H ∧ H ≤ 1024 := by
  obtain ⟨he, h1, h2⟩ := askE_ok h
  obtain ⟨hc, i, j, rfl, rfl, hi, hj, hij⟩ := endsE_ok he
  have hR : Right (n, true, Z) := right_iff.1 hc
  have hn := nodesE_ok hR.1
  simp only at hn
  obtain ⟨N, rfl⟩ : ∃ N : Nat, n = (N : Int) := ⟨n.toNat, by omega⟩
  have hW := span_of hR
  rw [Int.toNat_natCast] at hi hj hW
  exact ⟨N, i, j, rfl, rfl, rfl, hi, hj, hij, hW, h1, h2⟩
/-- The most that a flow is worth is told. -/
def MostIs (n : Int) (Z : List ArcT) (s t H m : Int) : Prop := ∃ N i j : Nat, n = (N : Int) ∧ s = (i : Int) ∧ t = (j : Int) ∧ i < N ∧ j < N ∧ i ≠ j ∧ SpanNet Z N ∧ IsBest Z N i j H m
/-- What Most answers. -/
def Most12 (n : Int) (Z : List ArcT) (s t H : Int) (w : World) (e : Ending) (w' : World) : Prop :=
  ∃ m, e = .returned (.tuple #[.int .i64 m, .int .i64 (askE n Z s t H)]) ∧ (askE n Z s t H = 0 → MostIs n Z s t H m) ∧ (askE n Z s t H ≠ 0 → m = 0) ∧ Below w.heap.size w w'
end Go.Proofs.Ytbkmfjegbmjknaa
