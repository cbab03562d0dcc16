/- What is left of a flow, as the Caps of a network: level's ways along it; arc by arc the same cycles as one after the other. Plain lists. -/
import Derived.Test.YtmflleifglefiaaDSpl
import Derived.Test.YtmflleifglefiaaBH
namespace Go.Proofs.Ytmflleifglefiaa
open Go.RowKit
set_option linter.unusedVariables false

/-- The arcs, with these numbers as their Caps. -/
def restZ (Z : List ArcT) (f : List Int) : List ArcT := List.zipWith (fun a x => (a.1, a.2.1, x, a.2.2.2)) Z f
def zerosK (n : Nat) : List Int := List.replicate n 0
theorem zerosK_at (n i : Nat) : atI (zerosK n) i = 0 := by
  unfold atI zerosK
  rw [List.getD_eq_getElem?_getD, List.getElem?_replicate]
  split <;> rfl
theorem zerosK_len (n : Nat) : (zerosK n).length = n := by simp [zerosK]
theorem restZ_len {Z : List ArcT} {f : List Int} (h : f.length = Z.length) : (restZ Z f).length = Z.length := by unfold restZ; rw [List.length_zipWith]; omega
theorem restZ_get {Z : List ArcT} {f : List Int} {i : Nat} {a : ArcT} {x : Int} (ha : Z[i]? = some a) (hx : f[i]? = some x) : (restZ Z f)[i]? = some (a.1, a.2.1, x, a.2.2.2) := by
  unfold restZ
  rw [List.getElem?_zipWith, ha, hx]
theorem restZ_set : ∀ (Z : List ArcT) (f : List Int) (i : Nat) (a : ArcT) (x : Int), Z[i]? = some a → (restZ Z f).set i (a.1, a.2.1, x, a.2.2.2) = restZ Z (f.set i x)
  | [], f, i, a, x, h => by simp at h
  | b :: Z, [], i, a, x, h => rfl
  | b :: Z, y :: f, 0, a, x, h => by
    simp only [List.getElem?_cons_zero, Option.some.injEq] at h
    subst h
    rfl
  | b :: Z, y :: f, i + 1, a, x, h => by
    simp only [List.getElem?_cons_succ] at h
    have ih := restZ_set Z f i a x h
    show _ :: (restZ Z f).set i _ = _ :: restZ Z (f.set i x)
    rw [ih]
theorem restZ_caps : ∀ Z : List ArcT, restZ Z (Z.map capN) = Z
  | [] => rfl
  | a :: Z => by
    have ih := restZ_caps Z
    show _ :: restZ Z (Z.map capN) = _
    rw [ih]
    rfl
theorem restZ_arc {Z : List ArcT} {f : List Int} (h : f.length = Z.length) (y : StepT) : frN (arcOf (restZ Z f) y) = frN (arcOf Z y) ∧ toN (arcOf (restZ Z f) y) = toN (arcOf Z y) := by
  unfold arcOf
  rw [List.getD_eq_getElem?_getD, List.getD_eq_getElem?_getD]
  by_cases hl : y.1.toNat < Z.length
  · rw [restZ_get (List.getElem?_eq_getElem hl) (List.getElem?_eq_getElem (show y.1.toNat < f.length by omega)), List.getElem?_eq_getElem hl]
    exact ⟨rfl, rfl⟩
  · rw [List.getElem?_eq_none (by rw [restZ_len h]; omega), List.getElem?_eq_none (by omega)]
    exact ⟨rfl, rfl⟩
theorem restZ_from {Z : List ArcT} {f : List Int} (h : f.length = Z.length) : fromS (restZ Z f) = fromS Z ∧ toS (restZ Z f) = toS Z := by
  constructor <;> funext y <;> obtain ⟨h1, h2⟩ := restZ_arc h y
  · unfold fromS; rw [h1, h2]
  · unfold toS; rw [h1, h2]
theorem restZ_steps {Z : List ArcT} {f : List Int} (h : Flow Z f) : ∀ i, i ≤ Z.length → stepsK (restZ Z f) (zerosK Z.length) i = alongK f i
  | 0, _ => rfl
  | i + 1, hi => by
    have hl : i < Z.length := hi
    have hf : i < f.length := by rw [h.1]; exact hl
    rw [stepsK_succ (restZ_get (List.getElem?_eq_getElem hl) (List.getElem?_eq_getElem hf)), restZ_steps h i (by omega)]
    show _ = alongK f i ++ _
    have e : f[i] = atI f i := by unfold atI; rw [List.getD_eq_getElem?_getD, List.getElem?_eq_getElem hf]; rfl
    unfold stepOf capN
    rw [zerosK_at, e]
    simp
theorem restZ_check {n : Int} {Z : List ArcT} {f : List Int} (hc : checkE n Z = 0) (h : Flow Z f) : checkE n (restZ Z f) = 0 := by
  have hR : Right (n, true, Z) := right_iff.1 hc
  refine right_iff.2 (show Right (n, true, restZ Z f) from ⟨hR.1, by show (restZ Z f).length ≤ 200; rw [restZ_len h.1]; exact hR.2.1, fun a ha => ?_⟩)
  obtain ⟨i, hi, e⟩ := List.getElem_of_mem (show a ∈ restZ Z f from ha)
  have hl : i < Z.length := by rw [restZ_len h.1] at hi; exact hi
  have hf : i < f.length := by rw [h.1]; exact hl
  have e1 := restZ_get (List.getElem?_eq_getElem hl) (List.getElem?_eq_getElem hf)
  rw [List.getElem?_eq_getElem hi, e, Option.some.injEq] at e1
  have e2 : f[i] = atI f i := by unfold atI; rw [List.getD_eq_getElem?_getD, List.getElem?_eq_getElem hf]; rfl
  obtain ⟨h1, h2⟩ := arcE_ok (hR.2.2 _ (List.getElem_mem hl))
  have h3 := h.2 i _ (List.getElem?_eq_getElem hl)
  rw [← e2] at h3
  unfold capN at h3
  show arcE n a = 0
  unfold badEnds at h1
  unfold bigArc at h2
  unfold arcE
  rw [if_neg (by unfold badEnds; rw [e1]; simp only; omega), if_neg (by unfold bigArc; rw [e1]; simp only; omega)]
theorem restZ_flow {n : Int} {Z : List ArcT} {f : List Int} (hc : checkE n Z = 0) (h : Flow Z f) : flowE n (restZ Z f) (zerosK Z.length) = 0 := by
  refine flowE_mk (restZ_check hc h) (flow_flowB ⟨by rw [zerosK_len, restZ_len h.1], fun i a hi => ?_⟩)
  rw [zerosK_at]
  have hi2 := (List.getElem?_eq_some_iff.1 hi).1
  have hl : i < Z.length := by rw [restZ_len h.1] at hi2; exact hi2
  have hf : i < f.length := by rw [h.1]; exact hl
  rw [restZ_get (List.getElem?_eq_getElem hl) (List.getElem?_eq_getElem hf)] at hi
  cases hi
  have h3 := h.2 i _ (List.getElem?_eq_getElem hl)
  have e2 : f[i] = atI f i := by unfold atI; rw [List.getD_eq_getElem?_getD, List.getElem?_eq_getElem hf]; rfl
  unfold capN
  simp only
  omega
/-- Level's way along the rest is the document's. -/
theorem restZ_way {N : Nat} {Z : List ArcT} {f : List Int} {i j : Nat} (hc : checkE (N : Int) Z = 0) (h : Flow Z f) (hi : i < N) (hj : j < N) (hij : i ≠ j) : pathE (N : Int) (restZ Z f) (zerosK Z.length) (i : Int) (j : Int) = 0 ∧ wayF (N : Int) (restZ Z f) (zerosK Z.length) (i : Int) (j : Int) = wayK (fromS Z) (toS Z) (alongL f) N i j := by
  have hp : pathE (N : Int) (restZ Z f) (zerosK Z.length) (i : Int) (j : Int) = 0 := by
    unfold pathE
    rw [if_pos (restZ_flow hc h)]
    exact endsE_yes (restZ_check hc h) (by unfold nodeB; simp; omega) (by unfold nodeB; simp; omega) (by omega)
  refine ⟨hp, ?_⟩
  unfold wayF
  rw [if_pos hp, restZ_len h.1, restZ_steps h _ (Nat.le_refl _), (restZ_from h.1).1, (restZ_from h.1).2, Int.toNat_natCast, Int.toNat_natCast, Int.toNat_natCast]
  unfold alongL
  rw [h.1]
/-! Arc by arc -/
theorem way_less {Z : List ArcT} {N u v : Nat} {f g : List Int} (hZ : ∀ a ∈ Z, frN a < N ∧ toN a < N) (hf : f.length = Z.length) (hg : g.length = Z.length) (h : ∀ i, 0 < atI g i → 0 < atI f i) (hu : u < N) (hw : wayK (fromS Z) (toS Z) (alongL f) N u v = none) : wayK (fromS Z) (toS Z) (alongL g) N u v = none := by
  have sub : ∀ x ∈ alongL g, x ∈ alongL f := fun x hx => by
    obtain ⟨h1, h2, h3⟩ := along_arc hg hx
    exact along_mk hf h1 h2 (h _ h3)
  cases hw2 : wayK (fromS Z) (toS Z) (alongL g) N u v with
  | none => rfl
  | some p =>
    exfalso
    obtain ⟨w1, w2, _, _⟩ := way_props hu (fun y hy => (along_to hZ hg y hy).1) hw2
    have hS := seek_full (fr := fromS Z) (l := alongL f) hu (fun y hy => (along_to hZ hf y hy).1)
    have hm := walk_side (S := foundB (seekK (fromS Z) (toS Z) (alongL f) u N)) (l := alongL f) (fun y hy h3 => found_closed hS y hy h3) (fun y hy => sub y (w2 y hy)) w1 (found_first hS)
    rw [foundB_iff] at hm
    exact wayK_none hw hm
/-- An arc that is on no cycle is on none when less is left. -/
theorem cyc_less {Z : List ArcT} {N i : Nat} {f g : List Int} (hZ : ∀ a ∈ Z, frN a < N ∧ toN a < N) (hf : f.length = Z.length) (hg : g.length = Z.length) (h : ∀ i, 0 < atI g i → 0 < atI f i) (hc : cycAt Z N f i = none) : cycAt Z N g i = none := by
  unfold cycAt at hc ⊢
  by_cases hp : 0 < atI g i
  · rw [if_pos hp]
    rw [if_pos (h i hp)] at hc
    by_cases he : toS Z ((i : Int), false) = fromS Z ((i : Int), false)
    · rw [if_pos he] at hc; cases hc
    · rw [if_neg he] at hc ⊢
      rw [Option.map_eq_none_iff] at hc ⊢
      have hm : ((i : Int), false) ∈ alongL g := by
        refine alongK_mem.2 ⟨rfl, by simp, ?_, by simpa using hp⟩
        refine Classical.byContradiction fun hn => ?_
        simp only at hn
        unfold atI at hp
        rw [List.getD_eq_getElem?_getD, List.getElem?_eq_none (by omega)] at hp
        simp at hp
      exact way_less hZ hf hg h (along_to hZ hg _ hm).1 hc
  · rw [if_neg hp]
theorem cycFrom_pass {Z : List ArcT} {N : Nat} {f : List Int} : ∀ (k i m : Nat), (∀ j, i ≤ j → j < i + k → cycAt Z N f j = none) → cycFrom Z N f i (k + m) = cycFrom Z N f (i + k) m
  | 0, i, m, _ => by rw [Nat.zero_add, Nat.add_zero]
  | k + 1, i, m, h => by
    rw [show k + 1 + m = (k + m) + 1 by omega, cycFrom_skip (h i (Nat.le_refl _) (by omega)), cycFrom_pass k (i + 1) m (fun j h1 h2 => h j (by omega) (by omega)), show i + 1 + k = i + (k + 1) by omega]
theorem cycK_hit {Z : List ArcT} {N p : Nat} {f : List Int} {l : List StepT} (h : ∀ j, j < p → cycAt Z N f j = none) (hp : p < f.length) (hc : cycAt Z N f p = some l) : cycK Z N f = some l := by
  obtain ⟨m, hm⟩ : ∃ m, f.length = p + (m + 1) := ⟨f.length - p - 1, by omega⟩
  unfold cycK
  rw [hm, cycFrom_pass p 0 (m + 1) (fun j _ h2 => h j (by omega)), Nat.zero_add, cycFrom_hit hc]
theorem cycK_end {Z : List ArcT} {N : Nat} {f : List Int} (h : ∀ j, j < f.length → cycAt Z N f j = none) : cycK Z N f = none := by
  unfold cycK
  have := cycFrom_pass f.length 0 0 (Z := Z) (N := N) (f := f) (fun j _ h2 => h j (by omega))
  rw [Nat.add_zero] at this
  rw [this]
  rfl
/-- The least, from above. -/
theorem leastA_top {F : List Int} {l : List StepT} (h0 : l ≠ []) (h : ∀ x ∈ l, atI F x.1.toNat ≤ 1048576) : leastA F 1048576 l = leastK F l := by
  cases l with
  | nil => exact absurd rfl h0
  | cons x r =>
    have h1 := h x (by simp)
    show leastA F (min 1048576 (atI F x.1.toNat)) r = leastA F (atI F x.1.toNat) r
    rw [show min 1048576 (atI F x.1.toNat) = atI F x.1.toNat by omega]
end Go.Proofs.Ytmflleifglefiaa
