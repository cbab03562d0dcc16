/- Best of package ebbtideref09: a flow of the greatest value; of any network whose ends are in range. -/
import Derived.Test.YtbgnoaijgngifaaXPush
import Derived.Test.YtbgnoaijgngifaaXAll
import Derived.Test.YtbgnoaijgngifaaVRef
namespace Go.Proofs.Ytbgnoaijgngifaa
open Go.RowKit
set_option linter.unusedVariables false

/-- A network whose arcs' ends are nodes, and whose numbers are not too great. -/
structure WideNet (Z : List ArcT) (N : Nat) : Prop where
  ends : ∀ a ∈ Z, a.1 = (frN a : Int) ∧ a.2.1 = (toN a : Int)
  lt : ∀ a ∈ Z, frN a < N ∧ toN a < N
  caps : ∀ a ∈ Z, 0 ≤ capN a ∧ capN a ≤ 4398046511104
  len : Z.length ≤ 50000
  nodes : N ≤ 100000
theorem wide_of {n : Int} {Z : List ArcT} (h : checkE n Z = 0) : WideNet Z n.toNat := by
  have hR : Right (n, true, Z) := right_iff.1 h
  have hn := nodesE_ok hR.1
  simp only at hn
  refine ⟨fun a ha => ?_, fun a ha => ?_, fun a ha => ?_, Nat.le_trans hR.2.1 (by omega), by omega⟩
  · exact ⟨(right_arc hR ha).1, (right_arc hR ha).2.1⟩
  · obtain ⟨_, _, h1, h2, _, _⟩ := right_arc hR ha
    exact ⟨h1, h2⟩
  · obtain ⟨h1, h2⟩ := arcE_ok (hR.2.2 a ha)
    unfold badEnds at h1
    unfold bigArc at h2
    unfold capN
    omega
/-- What is found of a step that has room. -/
theorem wide_step {Z : List ArcT} {N : Nat} {F : List Int} (hW : WideNet Z N) (hF : Flow Z F) {y : StepT} (hy : y ∈ stepsK Z F Z.length) : (toS Z y < N ∧ fromS Z y < N) ∧ isArc Z y ∧ 0 < leftS Z F y ∧ StepOk Z F y := by
  obtain ⟨h1, _, h3⟩ := (stepsK_mem (Nat.le_refl _)).1 hy
  obtain ⟨p, a, q, ha, rfl⟩ := stepsK_arc hy
  have hm := List.mem_of_getElem? ha
  have hpl : p < F.length := by rw [hF.1]; exact (List.getElem?_eq_some_iff.1 ha).1
  have hl := hW.lt a hm
  have hc := hW.caps a hm
  have hf := hF.2 p a ha
  refine ⟨?_, h1, h3, p, a, q, rfl, ha, atI_get hpl, hf.1, by omega, hc.1, hc.2⟩
  unfold toS fromS
  rw [arcOf_nat q ha]
  cases q <;> simp [hl]
theorem seek_facts {Z : List ArcT} {N s : Nat} {F : List Int} (hW : WideNet Z N) (hF : Flow Z F) (hs : s < N) : SK (fromS Z) (toS Z) (stepsK Z F Z.length) s (seekN Z F N s) (seekN Z F N s).length [] := seek_full hs (fun y hy => (wide_step hW hF hy).1.1)
/-- No way: the value is the greatest. -/
theorem wide_none {Z : List ArcT} {N s t : Nat} {F : List Int} {k : Int} (hW : WideNet Z N) (hs : s < N) (h : FlowST Z N s t F k) (hw : wayK (fromS Z) (toS Z) (stepsK Z F Z.length) N s t = none) : IsMost Z N s t k ∧ t ∉ keysX (seekN Z F N s) := by
  have hn : t ∉ keysX (seekN Z F N s) := wayK_none hw
  exact ⟨(best_side hW.lt hs (fun y => by
    rw [stepsK_mem (Nat.le_refl _)]
    constructor
    · rintro ⟨h1, _, h3⟩; exact ⟨h1, h3⟩
    · rintro ⟨h1, h3⟩; exact ⟨h1, h1.2, h3⟩) h (seek_facts hW h.1 hs) hn).2.2.1, hn⟩
/-- A way: it is pushed full. -/
theorem wide_some {Z : List ArcT} {N s t : Nat} {F : List Int} {k : Int} {P : List StepT} (hW : WideNet Z N) (hs : s < N) (hne : s ≠ t) (h : FlowST Z N s t F k) (hw : wayK (fromS Z) (toS Z) (stepsK Z F Z.length) N s t = some P) :
    P ≠ [] ∧ P.length ≤ 100000 ∧ (∀ y ∈ P, StepOk Z F y) ∧ (0 < botK Z F P ∧ botK Z F P ≤ 4398046511104) ∧ FlowST Z N s t (pushedL (botK Z F P) F P) (k + botK Z F P) ∧ (∀ y ∈ P, ∃ (p : Nat) (q : Bool), y = ((p : Int), q) ∧ p < F.length) ∧
    ∀ m, m ≤ P.length → ∀ p, p < F.length → -8796093022208 ≤ atI (pushedL (botK Z F P) F (P.take m)) p ∧ atI (pushedL (botK Z F P) F (P.take m)) p ≤ 8796093022208 := by
  have hT : ∀ y ∈ stepsK Z F Z.length, toS Z y < N := fun y hy => (wide_step hW h.1 hy).1.1
  obtain ⟨w1, w2, w3, w4⟩ := way_props hs hT hw
  have hst := fun y hy => wide_step hW h.1 (w2 y hy)
  obtain ⟨g1, g2, g3⟩ := augment hne h w1 w3 w4 (fun y hy => ⟨(hst y hy).2.1, (hst y hy).2.2.1⟩)
  have hP : P ≠ [] := by
    rintro rfl
    exact hne w1
  refine ⟨hP, ?_, fun y hy => (hst y hy).2.2.2, ⟨g1, ?_⟩, g3, fun y hy => ?_, fun m hm p hp => ?_⟩
  · obtain ⟨b, q, q1, q2, rfl⟩ := wayK_some hw
    have hsk := seek_full (fr := fromS Z) hs hT
    have hb := (List.getElem?_eq_some_iff.1 q1).1
    have hl := seek_len hsk hs hT
    have hN := hW.nodes
    have hle : ∀ (n j : Nat), j ≤ n → j < (seekK (fromS Z) (toS Z) (stepsK Z F Z.length) s N).length → (pathX (seekK (fromS Z) (toS Z) (stepsK Z F Z.length) s N) j).length ≤ j := by
      intro n
      induction n with
      | zero => intro j hj _; obtain rfl : j = 0 := by omega
                simp [pathX_zero]
      | succ n ih =>
        intro j hj hjl
        by_cases h0 : j = 0
        · subst h0; simp [pathX_zero]
        · have he := List.getElem?_eq_getElem hjl
          rw [pathX_succ hsk he (by omega), List.length_append]
          have h3 := (hsk.par j _ he (by omega)).2.2.1
          have := ih _ (by omega) (by omega : (seekK (fromS Z) (toS Z) (stepsK Z F Z.length) s N)[j].2.2 < (seekK (fromS Z) (toS Z) (stepsK Z F Z.length) s N).length)
          simp only [List.length_singleton]
          omega
    have := hle b b (Nat.le_refl _) hb
    omega
  · cases P with
    | nil => exact absurd rfl hP
    | cons y r =>
      have h1 := botK_le (Z := Z) (f := F) (y :: r) y (by simp)
      have h2 := (hst y (by simp)).2.2.2.left
      omega
  · obtain ⟨p, a, q, e, ha, _⟩ := (hst y hy).2.2.2
    exact ⟨p, q, e, by rw [h.1.1]; exact (List.getElem?_eq_some_iff.1 ha).1⟩
  · have hf := pushed_flow (by omega) h.1 g2 m
    have hp2 : p < Z.length := by rw [← h.1.1]; exact hp
    have h1 := hf.2 p _ (List.getElem?_eq_getElem hp2)
    have h2 := hW.caps _ (List.getElem_mem hp2)
    omega
section
variable (n : Int) (b : Bool) (ao : Option Addr) (cap : Nat) (Z : List ArcT) (N : Nat)
end
end Go.Proofs.Ytbgnoaijgngifaa
