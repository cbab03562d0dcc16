/- LevelFars and LevelPaths: the program tells what the document tells. -/
import Derived.Test.YtbgnoaijgngifaaGreatVAwk
namespace Go.Proofs.YtbgnoaijgngifaaGreat
open Go.RowKit
set_option linter.unusedVariables false

theorem levL_bd (n : Int) (Z : List ArcT) (F : List Int) (s : Int) : (levL n Z F s).length ≤ 200000 := by
  unfold levL
  by_cases h : levE n Z F s = 0
  · rw [if_pos h, farsL_len]
    obtain ⟨_, _, _, _, hn1, hn2⟩ := flow_facts (b := false) (levE_ok h).1
    omega
  · rw [if_neg h]; simp
theorem way_len {Z : List ArcT} {F : List Int} {N s t : Nat} {p : List StepT} (hs : s < N) (hT : ∀ y ∈ stepsK Z F Z.length, toS Z y < N) (h : wayK (fromS Z) (toS Z) (stepsK Z F Z.length) N s t = some p) : p.length < N := by
  obtain ⟨c, r, r1, r2, rfl⟩ := wayK_some h
  have hsk := seek_full (fr := fromS Z) (l := stepsK Z F Z.length) hs hT
  have hl := seek_len hsk hs hT
  have hc := (List.getElem?_eq_some_iff.1 r1).1
  have := path_le hsk c c (Nat.le_refl _) hc
  omega
theorem wayF_ok {n : Int} {Z : List ArcT} {F : List Int} {s t : Int} (h : pathE n Z F s t = 0) : ∃ (N i j : Nat), n = (N : Int) ∧ s = (i : Int) ∧ t = (j : Int) ∧ i < N ∧ j < N ∧ i ≠ j ∧ N ≤ 50 ∧ flowE n Z F = 0 ∧ wayF n Z F s t = wayK (fromS Z) (toS Z) (stepsK Z F Z.length) N i j := by
  obtain ⟨h1, h2⟩ := pathE_ok h
  obtain ⟨_, i, j, hs, ht, hi, hj, hij⟩ := endsE_ok h2
  obtain ⟨_, _, _, _, hn1, hn2⟩ := flow_facts (b := false) h1
  refine ⟨n.toNat, i, j, by omega, hs, ht, hi, hj, hij, by omega, h1, ?_⟩
  unfold wayF
  rw [if_pos h, hs, ht, Int.toNat_natCast, Int.toNat_natCast]
theorem wayL_bd (n : Int) (Z : List ArcT) (F : List Int) (s t : Int) : (wayL n Z F s t).length ≤ 50 := by
  unfold wayL
  by_cases h : pathE n Z F s t = 0
  · obtain ⟨N, i, j, hn, hs, ht, hi, hj, hij, hN, hf, hw⟩ := wayF_ok h
    rw [hw]
    cases hk : wayK (fromS Z) (toS Z) (stepsK Z F Z.length) N i j with
    | none => simp
    | some p =>
      have hT := flow_to hf
      rw [hn, Int.toNat_natCast] at hT
      have := way_len hi hT hk
      simp only [Option.getD_some]
      omega
  · rw [wayF_no h]; simp
section
variable (n : Int) (b : Bool) (ao fo : Option Addr) (len cap fl fc : Nat) (Z : List ArcT) (F : List Int)
end
end Go.Proofs.YtbgnoaijgngifaaGreat
