/- What package maxflow does, in plain lists: ways that descend level by level, steps that were tried in vain, and that each way makes the value greater. -/
import Derived.Test.YtbkmfjegbmjknaaSuq
import Derived.Test.YtbkmfjegbmjknaaBG
namespace Go.Proofs.Ytbkmfjegbmjknaa
set_option linter.unusedVariables false
theorem stepsU_arc {Z : List ArcT} {u : Nat} {y : StepT} (h : y ∈ stepsU Z u) : isArc Z y ∧ fromS Z y = u := by
  obtain ⟨j, a, q, h1, h2, rfl, h3⟩ := stepsU_mem h
  exact ⟨⟨by simp, by simp only; omega⟩, h3⟩
section
variable {Z : List ArcT} {F L : List Int} {N s t : Nat}
def descB (Z : List ArcT) (F L : List Int) (y : StepT) : Bool := decide (0 < leftS Z F y ∧ atI L (toS Z y) = atI L (fromS Z y) + 1)
theorem descB_iff {y : StepT} : descB Z F L y = true ↔ 0 < leftS Z F y ∧ atI L (toS Z y) = atI L (fromS Z y) + 1 := by unfold descB; rw [decide_eq_true_eq]
theorem walk_lev : ∀ (P : List StepT) (s v : Nat), Walk (fromS Z) (toS Z) s P v → (∀ y ∈ P, descB Z F L y = true) →
    atI L v = atI L s + P.length ∧ (∀ y ∈ P, atI L s ≤ atI L (fromS Z y) ∧ atI L (fromS Z y) < atI L v ∧ atI L s < atI L (toS Z y)) ∧ (P.map (toS Z)).Nodup
  | [], s, v, h, _ => by
    obtain rfl : s = v := h
    simp
  | x :: r, s, v, h, hd => by
    obtain ⟨h1, h2⟩ := h
    obtain ⟨i1, i2, i3⟩ := walk_lev r _ _ h2 (fun y hy => hd y (by simp [hy]))
    have hx := (descB_iff.1 (hd x (by simp))).2
    rw [h1] at hx
    refine ⟨by rw [i1, hx]; simp only [List.length_cons]; omega, fun y hy => ?_, ?_⟩
    · rcases List.mem_cons.1 hy with rfl | hy
      · rw [h1]; omega
      · have := i2 y hy
        omega
    · rw [List.map_cons, List.nodup_cons]
      refine ⟨fun hm => ?_, i3⟩
      obtain ⟨y, hy, e⟩ := List.mem_map.1 hm
      have := (i2 y hy).2.2
      rw [e] at this
      omega
structure TI (Z : List ArcT) (N : Nat) (T : List Int) : Prop where
  len : T.length = N
  bd : ∀ v, v < N → 0 ≤ atI T v ∧ atI T v ≤ ((stepsU Z v).length : Int)
structure DP (Z : List ArcT) (F L T : List Int) (s : Nat) (P : List StepT) (v : Nat) : Prop where
  walk : Walk (fromS Z) (toS Z) s P v
  all : ∀ y ∈ P, isArc Z y ∧ descB Z F L y = true
  att : ∀ y ∈ P, (stepsU Z (fromS Z y))[(atI T (fromS Z y)).toNat]? = some y
theorem DP.start (T : List Int) : DP Z F L T s [] s := ⟨rfl, fun y h => absurd h (by simp), fun y h => absurd h (by simp)⟩
theorem DP.lev {T : List Int} {P : List StepT} {v : Nat} (h : DP Z F L T s P v) : atI L v = atI L s + P.length ∧ (∀ y ∈ P, atI L s ≤ atI L (fromS Z y) ∧ atI L (fromS Z y) < atI L v ∧ atI L s < atI L (toS Z y)) ∧ (P.map (toS Z)).Nodup := walk_lev P s v h.walk (fun y hy => (h.all y hy).2)
theorem DP.push {T : List Int} {P : List StepT} {v : Nat} {y : StepT} (h : DP Z F L T s P v) (hy : (stepsU Z v)[(atI T v).toNat]? = some y) (hd : descB Z F L y = true) : DP Z F L T s (P ++ [y]) (toS Z y) := by
  obtain ⟨h1, h2⟩ := stepsU_arc (List.mem_of_getElem? hy)
  refine ⟨walk_app.2 ⟨v, h.walk, h2, rfl⟩, fun x hx => ?_, fun x hx => ?_⟩
  · rcases List.mem_append.1 hx with hx | hx
    · exact h.all x hx
    · rw [List.mem_singleton] at hx; subst hx; exact ⟨h1, hd⟩
  · rcases List.mem_append.1 hx with hx | hx
    · exact h.att x hx
    · rw [List.mem_singleton] at hx; subst hx; rw [h2]; exact hy
theorem TI.start (Z : List ArcT) (N : Nat) : TI Z N (List.replicate N 0) := by
  refine ⟨by simp, fun v hv => ?_⟩
  have : atI (List.replicate N 0) v = 0 := by unfold atI; rw [List.getD_eq_getElem?_getD, List.getElem?_replicate, if_pos hv]; rfl
  omega
def Dead (Z : List ArcT) (F L : List Int) (t : Nat) (y : StepT) : Prop := ∀ p, (∀ x ∈ y :: p, isArc Z x ∧ descB Z F L x = true) → ¬ Walk (fromS Z) (toS Z) (toS Z y) p t
def DT (Z : List ArcT) (F L : List Int) (N t : Nat) (T : List Int) : Prop := ∀ v, v < N → ∀ (j : Nat) (y : StepT), (j : Int) < atI T v → (stepsU Z v)[j]? = some y → Dead Z F L t y
theorem DT.start : DT Z F L N t (List.replicate N 0) := by
  intro v hv j y hj
  have : atI (List.replicate N 0) v = 0 := by unfold atI; rw [List.getD_eq_getElem?_getD, List.getElem?_replicate, if_pos hv]; rfl
  omega
end
end Go.Proofs.Ytbkmfjegbmjknaa
