/- The document's Order, of any network. -/
import Derived.Test.YtbkmfjegbmjknaaBC
namespace Go.Proofs.Ytbkmfjegbmjknaa
open Go.RowKit
set_option linter.unusedVariables false

def encB (b : Bool) : Value := .bool b
theorem infoBool : (Try.prog.info? 4).map (fun i => (i.zero, i.size, i.bytes)) = some (some (.bool false), 1, 1) := by kernel_rfl
/-- Which nodes stand already. -/
def doneL (out : List Nat) (N : Nat) : List Bool := (List.range N).map fun v => out.contains v
theorem doneL_at (out : List Nat) {N v : Nat} (h : v < N) : (doneL out N)[v]? = some (out.contains v) := by simp [doneL, h]
theorem doneL_nil (N : Nat) : doneL [] N = List.replicate N false := by
  apply List.ext_getElem
  · simp [doneL]
  · intro i h1 h2; simp [doneL]
theorem doneL_set (out : List Nat) {N x : Nat} (h : x < N) : (doneL out N).set x true = doneL (out ++ [x]) N := by
  apply List.ext_getElem
  · simp [doneL]
  · intro i h1 h2
    rw [List.getElem_set]
    simp only [doneL, List.getElem_map, List.getElem_range]
    by_cases e : x = i
    · subst e; simp
    · rw [if_neg e]
      have e2 : i ≠ x := fun q => e q.symm
      simp [e2]
theorem freeN_zero (Z : List ArcT) (out : List Nat) (v : Nat) : freeN (Z.take 0) out v = !out.contains v := by simp [freeN]
theorem freeN_succ {Z : List ArcT} {i : Nat} {a : ArcT} (ha : Z[i]? = some a) (out : List Nat) (v : Nat) : freeN (Z.take (i + 1)) out v = (freeN (Z.take i) out v && (!(toN a == v) || out.contains (frN a))) := by
  obtain ⟨hi, e⟩ := List.getElem?_eq_some_iff.1 ha
  subst e
  rw [List.take_succ_eq_append_getElem hi]
  unfold freeN
  rw [List.all_append, List.all_cons, List.all_nil, Bool.and_true, Bool.and_assoc]
/-- The first free node from m on. -/
def NextIs (Z : List ArcT) (N : Nat) (out : List Nat) (m : Nat) (nx : Int) : Prop :=
  (nx = -1 ∧ ∀ u, m ≤ u → u < N → freeN Z out u = false) ∨ (∃ x : Nat, nx = (x : Int) ∧ m ≤ x ∧ x < N ∧ freeN Z out x = true ∧ ∀ u, m ≤ u → u < x → freeN Z out u = false)
theorem NextIs.start (Z : List ArcT) (N : Nat) (out : List Nat) : NextIs Z N out N (-1) := .inl ⟨rfl, fun u h1 h2 => by omega⟩
theorem NextIs.yes {Z : List ArcT} {N : Nat} {out : List Nat} {v : Nat} {nx : Int} (h : NextIs Z N out (v + 1) nx) (hv : v < N) (hf : freeN Z out v = true) : NextIs Z N out v (v : Int) :=
  .inr ⟨v, rfl, Nat.le_refl _, hv, hf, fun u h1 h2 => by omega⟩
theorem NextIs.no {Z : List ArcT} {N : Nat} {out : List Nat} {v : Nat} {nx : Int} (h : NextIs Z N out (v + 1) nx) (hf : freeN Z out v = false) : NextIs Z N out v nx := by
  rcases h with ⟨h1, h2⟩ | ⟨x, h1, h2, h3, h4, h5⟩
  · refine .inl ⟨h1, fun u g1 g2 => ?_⟩
    by_cases e : u = v
    · subst e; exact hf
    · exact h2 u (by omega) g2
  · refine .inr ⟨x, h1, by omega, h3, h4, fun u g1 g2 => ?_⟩
    by_cases e : u = v
    · subst e; exact hf
    · exact h5 u (by omega) g2
theorem NextIs.none {Z : List ArcT} {N : Nat} {out : List Nat} {nx : Int} (h : NextIs Z N out 0 nx) (h0 : nx < 0) : nextN Z N out = Option.none := by
  rcases h with ⟨h1, h2⟩ | ⟨x, h1, _⟩
  · unfold nextN
    rw [List.find?_eq_none]
    intro u hu
    rw [h2 u (Nat.zero_le _) (by simpa using hu)]
    simp
  · omega
theorem NextIs.some {Z : List ArcT} {N : Nat} {out : List Nat} {nx : Int} (h : NextIs Z N out 0 nx) (h0 : ¬ nx < 0) : ∃ x : Nat, nx = (x : Int) ∧ x < N ∧ nextN Z N out = Option.some x := by
  rcases h with ⟨h1, h2⟩ | ⟨x, h1, h2, h3, h4, h5⟩
  · omega
  · refine ⟨x, h1, h3, ?_⟩
    unfold nextN
    rw [List.find?_range_eq_some]
    exact ⟨h4, by simpa using h3, fun u hu => by rw [h5 u (Nat.zero_le _) hu]; rfl⟩
theorem orderK_next {Z : List ArcT} {N k : Nat} {out : List Nat} {x : Nat} (h : orderK Z N k = some out) (hx : nextN Z N out = some x) : orderK Z N (k + 1) = some (out ++ [x]) := by
  unfold orderK; rw [h]; simp only; rw [hx]
theorem orderK_stop {Z : List ArcT} {N k : Nat} {out : List Nat} (h : orderK Z N k = some out) (hx : nextN Z N out = none) (hk : k < N) : orderK Z N N = none := by
  have h1 : orderK Z N (k + 1) = none := by unfold orderK; rw [h]; simp only; rw [hx]
  have := orderK_none h1 (N - (k + 1))
  rwa [show k + 1 + (N - (k + 1)) = N by omega] at this
end Go.Proofs.Ytbkmfjegbmjknaa
