/- A flow with an arc's flow there and back more. -/
import Derived.Test.YtmflleifglefiaaDFac
import Derived.Test.YtmflleifglefiaaDPsh
namespace Go.Proofs.Ytmflleifglefiaa
open Go.RowKit
set_option linter.unusedVariables false

/-- An arc back, from where another one ends to where it begins. -/
def backA (a : ArcT) : ArcT := (a.2.1, a.1, 3, 0)
def backF (F : List Int) (p : Nat) (q : Int) : List Int := F.set p (atI F p + q) ++ [q]
theorem backF_is {Z : List ArcT} {F : List Int} {p : Nat} (hl : F.length = Z.length) (hp : p < Z.length) (q : Int) : backF F p q = stepTo q (stepTo q (F ++ [0]) ((p : Int), false)) ((Z.length : Int), false) := by
  have e1 : atI (F ++ [0]) p = atI F p := by unfold atI; rw [List.getD_eq_getElem?_getD, List.getElem?_append_left (by rw [hl]; exact hp), ← List.getD_eq_getElem?_getD]
  have e2 : stepTo q (F ++ [0]) ((p : Int), false) = F.set p (atI F p + q) ++ [0] := by
    unfold stepTo
    simp only [Int.toNat_natCast, Bool.false_eq_true, if_false]
    rw [e1, List.set_append_left _ _ (by rw [hl]; exact hp)]
  have hl2 : (F.set p (atI F p + q)).length = Z.length := by rw [List.length_set]; exact hl
  rw [e2]
  unfold backF
  generalize F.set p (atI F p + q) = G at *
  have e3 : atI (G ++ [0]) Z.length = 0 := by rw [← hl2]; exact atI_end G 0
  unfold stepTo
  simp only [Int.toNat_natCast, Bool.false_eq_true, if_false]
  rw [e3, Int.zero_add, ← hl2, List.set_append_right _ _ (Nat.le_refl _), Nat.sub_self]
  rfl
theorem toS_atD {Z : List ArcT} {j : Nat} {a : ArcT} (ha : Z[j]? = some a) : toS Z ((j : Int), false) = toN a := by
  unfold toS
  rw [arcOf_nat _ ha]
  simp
theorem back_flow {N s t p : Nat} {Z : List ArcT} {F : List Int} {v q : Int} {a : ArcT} (hp : Z[p]? = some a) (h : FlowST Z N s t F v) (h0 : 0 ≤ q) (h3 : q ≤ 3) (hc : q ≤ capN a - atI F p) : FlowST (Z ++ [backA a]) N s t (backF F p q) v := by
  have hpl := (List.getElem?_eq_some_iff.1 hp).1
  have hl := h.1.1
  have hx0 : 0 ≤ capN (backA a) := by show (0 : Int) ≤ 3; decide
  obtain ⟨⟨g1, g2⟩, g3, g4⟩ := flow_more hx0 h
  have hpZ : (Z ++ [backA a])[p]? = some a := by rw [List.getElem?_append_left hpl]; exact hp
  have hZZ : (Z ++ [backA a])[Z.length]? = some (backA a) := by rw [List.getElem?_append_right (Nat.le_refl _), Nat.sub_self]; rfl
  have hb : ∀ u, bal (Z ++ [backA a]) (backF F p q) u = bal (Z ++ [backA a]) (F ++ [0]) u := by
    intro u
    rw [backF_is hl hpl q]
    have e1 : isArc (Z ++ [backA a]) ((p : Int), false) := ⟨by simp only; omega, by simp only [List.length_append, List.length_singleton]; omega⟩
    have e2 : isArc (Z ++ [backA a]) ((Z.length : Int), false) := ⟨by simp only; omega, by simp only [List.length_append, List.length_singleton]; omega⟩
    have b1 := bal_step (k := q) g1 e1 u
    have hl2 : (stepTo q (F ++ [0]) ((p : Int), false)).length = (Z ++ [backA a]).length := by unfold stepTo; rw [List.length_set]; exact g1
    have b2 := bal_step (k := q) hl2 e2 u
    rw [b2, b1, (fromS_at hpZ).1, toS_atD hpZ, (fromS_at hZZ).1, toS_atD hZZ]
    have f1 : frN (backA a) = toN a := rfl
    have f2 : toN (backA a) = frN a := rfl
    rw [f1, f2]
    omega
  refine ⟨⟨?_, fun i b hi => ?_⟩, fun u hu h1 h2 => by rw [hb]; exact g3 u hu h1 h2, by rw [hb]; exact g4⟩
  · unfold backF
    rw [List.length_append, List.length_append, List.length_set, hl]
    rfl
  · by_cases hiz : i < Z.length
    · rw [List.getElem?_append_left hiz] at hi
      have e : atI (backF F p q) i = atI (F.set p (atI F p + q)) i := by unfold atI backF; rw [List.getD_eq_getElem?_getD, List.getElem?_append_left (by rw [List.length_set, hl]; exact hiz), ← List.getD_eq_getElem?_getD]; rfl
      have h1 := h.1.2 i b hi
      rw [e, atI_set (by rw [hl]; exact hpl)]
      by_cases he : i = p
      · subst he
        rw [hp] at hi
        cases hi
        rw [if_pos rfl]
        omega
      · rw [if_neg he]
        exact h1
    · have hi2 : i = Z.length := by
        have := (List.getElem?_eq_some_iff.1 hi).1
        rw [List.length_append, List.length_singleton] at this
        omega
      subst hi2
      rw [hZZ] at hi
      cases hi
      have e : atI (backF F p q) Z.length = q := by
        have h1 := atI_end (F.set p (atI F p + q)) q
        rw [List.length_set, hl] at h1
        exact h1
      rw [e]
      exact ⟨h0, h3⟩
theorem back_ends {N : Nat} {s t : Int} {Z : List ArcT} {a : ArcT} (hE : endsE (N : Int) Z s t = 0) (hl : Z.length < 200) (ha : a ∈ Z) : endsE (N : Int) (Z ++ [backA a]) s t = 0 := by
  have hc := (endsE_ok hE).1
  have hR : Right ((N : Int), true, Z) := right_iff.1 hc
  have hc2 : checkE (N : Int) (Z ++ [backA a]) = 0 := by
    refine (right_iff (b := true)).2 ⟨hR.1, by simp only [List.length_append, List.length_singleton]; omega, fun x hx => ?_⟩
    rcases List.mem_append.1 hx with hx | hx
    · exact hR.2.2 x hx
    · rw [List.mem_singleton.1 hx]
      obtain ⟨h1, h2⟩ := arcE_ok (hR.2.2 a ha)
      unfold badEnds at h1
      unfold arcE
      rw [if_neg, if_neg]
      · unfold bigArc backA; simp
      · unfold badEnds backA
        simp only at h1 ⊢
        omega
  unfold endsE at hE ⊢
  rw [if_pos hc] at hE
  rw [if_pos hc2]
  exact hE
theorem back_split {N i j p : Nat} {Z : List ArcT} {F : List Int} {v q : Int} {a : ArcT} (hE : endsE (N : Int) Z (i : Int) (j : Int) = 0) (hl : Z.length < 200) (hi : i < N) (hp : Z[p]? = some a) (h : FlowST Z N i j F v) (hm : IsMost Z N i j v) (h0 : 0 ≤ q) (h3 : q ≤ 3) (hc : q ≤ capN a - atI F p) :
    splitE (N : Int) (Z ++ [backA a]) (i : Int) (j : Int) (backF F p q) = 0 := by
  have hW := wide_of (endsE_ok hE).1
  rw [Int.toNat_natCast] at hW
  have hv := isMost_top hW.lt hi hm (zero_flow Z (fun b hb => (hW.caps b hb).1) N i j)
  obtain ⟨h1, h2⟩ := of_st (back_ends hE hl (List.mem_of_getElem? hp)) (back_flow hp h h0 h3 hc)
  unfold splitE
  rw [if_pos h1, h2, if_neg (by omega)]
end Go.Proofs.Ytmflleifglefiaa
