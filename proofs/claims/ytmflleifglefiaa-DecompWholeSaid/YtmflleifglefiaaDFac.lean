/- What is clean is clean already, without cycles, and costs no more: plain facts. -/
import Derived.Test.YtmflleifglefiaaDOne
import Derived.Test.YtmflleifglefiaaSRoom
namespace Go.Proofs.Ytmflleifglefiaa
open Go.RowKit
set_option linter.unusedVariables false

theorem noCyc_cyc {Z : List ArcT} {N : Nat} {f : List Int} (h : NoCyc Z N f) : cycK Z N f = none := by
  refine cycK_end (fun i hi => ?_)
  unfold cycAt
  by_cases hp : 0 < atI f i
  · rw [if_pos hp]
    have hm : ((i : Int), false) ∈ alongL f := alongK_mem.2 ⟨rfl, by simp, by simp only; omega, by simpa using hp⟩
    obtain ⟨h1, h2⟩ := h _ hm
    rw [if_neg h1, h2]
    rfl
  · rw [if_neg hp]
theorem free_split {Z : List ArcT} {N : Nat} {f : List Int} (h : NoCyc Z N f) : cycsF Z N f = [] ∧ restF Z N f = f := by
  unfold cycsF restF
  rw [cycsK_none (noCyc_cyc h)]
  exact ⟨rfl, rfl⟩
theorem atI_ext {f g : List Int} (hl : f.length = g.length) (h : ∀ v, atI f v = atI g v) : f = g := by
  apply List.ext_getElem hl
  intro i h1 h2
  have h3 := h i
  unfold atI at h3
  rw [List.getD_eq_getElem?_getD, List.getD_eq_getElem?_getD, List.getElem?_eq_getElem h1, List.getElem?_eq_getElem h2] at h3
  exact h3
theorem costK_mono {Z : List ArcT} {f g : List Int} (ht : ∀ a ∈ Z, 0 ≤ tm a) (h : ∀ v, atI g v ≤ atI f v) : ∀ i, costK Z g i ≤ costK Z f i
  | 0 => Int.le_refl _
  | i + 1 => by
    have ih := costK_mono ht h i
    cases hz : Z[i]? with
    | none => simp only [costK, hz]; omega
    | some a =>
      rw [costK_succ hz, costK_succ hz]
      have h1 := Int.mul_le_mul_of_nonneg_right (h i) (ht a (List.mem_of_getElem? hz))
      omega
/-- What is known of what is clean. -/
theorem clean_is {n : Int} {Z : List ArcT} {s t : Int} {F : List Int} (h : splitE n Z s t F = 0) :
    valE n Z s t F = 0 ∧ valE n Z s t (cleanE n Z s t F) = 0 ∧ valK n Z s t (cleanE n Z s t F) = valK n Z s t F ∧ costV n Z (cleanE n Z s t F) ≤ costV n Z F ∧ splitE n Z s t (cleanE n Z s t F) = 0 ∧ cleanE n Z s t (cleanE n Z s t F) = cleanE n Z s t F ∧ cycsE n Z s t (cleanE n Z s t F) = [] := by
  obtain ⟨hv, hk⟩ := splitE_val h
  obtain ⟨N, i, j, rfl, rfl, rfl, hS⟩ := split_is h
  obtain ⟨hi, hj, hij⟩ := hS.ends
  have hc1 : cleanE (N : Int) Z (i : Int) (j : Int) F = sumP Z.length (chainsF Z N i j F) := by unfold cleanE chainsE; rw [if_pos h, if_pos h]; rfl
  have hsum : ∀ v, atI (sumP Z.length (chainsF Z N i j F)) v = partAt v (chainsF Z N i j F) := fun v => sumP_at v _ (fun p hp => ⟨i, j, hS.chn p hp⟩)
  have hc : cleanE (N : Int) Z (i : Int) (j : Int) F = restF Z N F := by
    rw [hc1]
    exact atI_ext (by rw [sumP_len, hS.rest.1.1]) (fun v => by rw [hsum, hS.at_])
  have hen := (valE_ok hv).1
  obtain ⟨h1, h2⟩ := of_st hen hS.rest
  have h3 : splitE (N : Int) Z (i : Int) (j : Int) (restF Z N F) = 0 := by unfold splitE; rw [if_pos h1, h2, if_neg (by omega)]
  obtain ⟨f1, f2⟩ := free_split hS.free
  rw [hc]
  refine ⟨hv, h1, h2, ?_, h3, ?_, ?_⟩
  · have hR := (right_iff (b := true)).1 hS.right
    have hg1 : flowE (N : Int) Z F = 0 := (valE_ok hv).2.1
    have hg2 : flowE (N : Int) Z (restF Z N F) = 0 := (valE_ok h1).2.1
    unfold costV
    rw [if_pos hg1, if_pos hg2]
    refine costK_mono (fun a ha => (right_arc hR ha).2.2.2.2.1) (fun v => ?_) _
    have hp := partAt_nonneg (Z := Z) v (cycsF Z N F) (fun p hp => by obtain ⟨u, hu⟩ := hS.cyc p hp; exact ⟨u, u, hu⟩)
    have := hS.sum v
    omega
  · have e1 : chainsF Z N i j (restF Z N F) = chainsF Z N i j F := by unfold chainsF; rw [f2]
    have e2 : cleanE (N : Int) Z (i : Int) (j : Int) (restF Z N F) = sumP Z.length (chainsF Z N i j F) := by
      unfold cleanE chainsE
      rw [if_pos h3, if_pos h3, Int.toNat_natCast, Int.toNat_natCast, Int.toNat_natCast, e1]
    rw [e2, ← hc1, hc]
  · unfold cycsE
    rw [if_pos h3, Int.toNat_natCast, f1]
end Go.Proofs.Ytmflleifglefiaa
