/- The stocks that changes add up to are those of the movements. Plain lists. -/
import Derived.Test.YtbkmfjegbmjknaaHFol
namespace Go.Proofs.Ytbkmfjegbmjknaa
set_option linter.unusedVariables false

section
variable {Z : List ArcT}
theorem chgF_add (f g : Int × Int → Int) (j c a v : Nat) : chgF Z (fun p => f p + g p) j c a v = chgF Z f j c a v + chgF Z g j c a v := by
  unfold chgF
  simp only []
  split <;> split <;> omega
/-- All changes up to a point of time. -/
def allC (Z : List ArcT) (f : Int × Int → Int) (H a v : Nat) : Int := sumTo (fun b => chgK Z f H Z.length 0 b v) (a + 1)
theorem chgK_all (f : Int × Int → Int) (H a v : Nat) : chgK Z f H Z.length 0 a v = sumTo (fun j => sumTo (fun b => chgF Z f j b a v) (cntT Z H j)) Z.length := by
  unfold chgK
  simp only [sumTo]
  omega
theorem allC_add (f g : Int × Int → Int) (H a v : Nat) : allC Z (fun p => f p + g p) H a v = allC Z f H a v + allC Z g H a v := by
  unfold allC
  rw [← sumTo_add]
  refine sumTo_congr (fun b _ => ?_)
  rw [chgK_all, chgK_all, chgK_all, ← sumTo_add]
  refine sumTo_congr (fun j _ => ?_)
  rw [← sumTo_add]
  exact sumTo_congr (fun c _ => chgF_add f g j c b v)
theorem allC_zero (H a v : Nat) : allC Z (fun _ => 0) H a v = 0 := by
  unfold allC
  refine (sumTo_congr (h := fun _ => 0) (fun b _ => ?_)).trans (sumTo_zero _)
  rw [chgK_all]
  refine (sumTo_congr (h := fun _ => 0) (fun j _ => ?_)).trans (sumTo_zero _)
  refine (sumTo_congr (h := fun _ => 0) (fun c _ => ?_)).trans (sumTo_zero _)
  unfold chgF
  split <;> split <;> rfl
theorem smT_at {P : Prop} [Decidable P] (c : Nat) (k : Int) (n : Nat) : sumTo (fun b => if b = c ∧ P then k else 0) n = if c < n ∧ P then k else 0 := by
  by_cases hP : P
  · rw [sumTo_congr (h := fun b => if b = c then k else 0) (fun b _ => by simp [hP]), smT_pick (fun _ => k)]
    simp [hP]
  · rw [sumTo_congr (h := fun _ => 0) (fun b _ => by simp [hP]), sumTo_zero]
    simp [hP]
/-- One movement alone. -/
theorem allC_one {N H i u : Nat} {k : Int} (hW : SpanNet Z N) (hi : i < Z.length) (hu : u + tmJ Z i ≤ H) (a v : Nat) :
    allC Z (fun p => if ((u : Int), (i : Int)) = p then k else 0) H a v = k * wgt Z (v : Int) (a : Int) ((u : Int), (i : Int)) := by
  have hm := List.getElem_mem hi
  obtain ⟨e1, e2⟩ := hW.ends _ hm
  have e3 := (hW.times _ hm).1
  have hF : ∀ j c b, chgF Z (fun p => if ((u : Int), (i : Int)) = p then k else 0) j c b v = if c = u then (if j = i then ((if b = u + tmJ Z i ∧ v = toJ Z i then k else 0) - (if b = u ∧ v = frJ Z i then k else 0)) else 0) else 0 := by
    intro j c b
    unfold chgF
    simp only []
    by_cases h1 : c = u
    · by_cases h2 : j = i
      · subst h1; subst h2
        rw [if_pos (show ((c : Int), (j : Int)) = ((c : Int), (j : Int)) from rfl), if_pos (show c = c from rfl), if_pos (show j = j from rfl)]
      · rw [if_pos h1, if_neg h2]
        have h3 : ¬ ((u : Int), (i : Int)) = ((c : Int), (j : Int)) := fun e => h2 (by have := congrArg Prod.snd e; simp only at this; omega)
        rw [if_neg h3]
        split <;> split <;> rfl
    · rw [if_neg h1]
      have h3 : ¬ ((u : Int), (i : Int)) = ((c : Int), (j : Int)) := fun e => h1 (by have := congrArg Prod.fst e; simp only at this; omega)
      rw [if_neg h3]
      split <;> split <;> rfl
  have hK : ∀ b, chgK Z (fun p => if ((u : Int), (i : Int)) = p then k else 0) H Z.length 0 b v = (if b = u + tmJ Z i ∧ v = toJ Z i then k else 0) - (if b = u ∧ v = frJ Z i then k else 0) := by
    intro b
    rw [chgK_all]
    have h1 : ∀ j, j < Z.length → sumTo (fun c => chgF Z (fun p => if ((u : Int), (i : Int)) = p then k else 0) j c b v) (cntT Z H j) = if j = i then (if u < cntT Z H j then ((if b = u + tmJ Z i ∧ v = toJ Z i then k else 0) - (if b = u ∧ v = frJ Z i then k else 0)) else 0) else 0 := by
      intro j _
      rw [sumTo_congr (fun c _ => hF j c b), smT_pick (fun _ => if j = i then ((if b = u + tmJ Z i ∧ v = toJ Z i then k else 0) - (if b = u ∧ v = frJ Z i then k else 0)) else 0)]
      by_cases h2 : j = i
      · rw [if_pos h2, if_pos h2]
      · rw [if_neg h2, if_neg h2]; split <;> rfl
    rw [sumTo_congr h1, smT_pick (fun j => if u < cntT Z H j then ((if b = u + tmJ Z i ∧ v = toJ Z i then k else 0) - (if b = u ∧ v = frJ Z i then k else 0)) else 0), if_pos hi, if_pos (by unfold cntT; omega)]
  unfold allC
  rw [sumTo_congr (fun b _ => hK b), smT_sub, smT_at, smT_at]
  unfold wgt
  have ht : tmJ Z i = Z[i].2.2.2.toNat := by unfold tmJ; rw [arcI_at hi]
  have h4 : toJ Z i = toN Z[i] := by unfold toJ toN; rw [arcI_at hi]
  have h5 : frJ Z i = frN Z[i] := by unfold frJ frN; rw [arcI_at hi]
  unfold tm at e3
  simp only
  rw [arcI_at hi, e1, e2, h4, h5]
  have q1 : (u + tmJ Z i < a + 1 ∧ v = toN Z[i]) ↔ ((toN Z[i] : Int) = (v : Int) ∧ (u : Int) + Z[i].2.2.2 ≤ (a : Int)) := by omega
  have q2 : (u < a + 1 ∧ v = frN Z[i]) ↔ ((frN Z[i] : Int) = (v : Int) ∧ (u : Int) ≤ (a : Int)) := by omega
  by_cases p1 : u + tmJ Z i < a + 1 ∧ v = toN Z[i]
  · by_cases p2 : u < a + 1 ∧ v = frN Z[i]
    · rw [if_pos p1, if_pos p2, if_pos (q1.1 p1), if_pos (q2.1 p2)]; omega
    · rw [if_pos p1, if_neg p2, if_pos (q1.1 p1), if_neg (fun e => p2 (q2.2 e))]; omega
  · by_cases p2 : u < a + 1 ∧ v = frN Z[i]
    · rw [if_neg p1, if_pos p2, if_neg (fun e => p1 (q1.2 e)), if_pos (q2.1 p2)]; omega
    · rw [if_neg p1, if_neg p2, if_neg (fun e => p1 (q1.2 e)), if_neg (fun e => p2 (q2.2 e))]; omega
theorem allC_stk {N H : Nat} {s t : Int} (hW : SpanNet Z N) (a v : Nat) : ∀ {M : List MoveT}, (∀ x ∈ M, okM Z s t (H : Int) x = true) → allC Z (nOf M) H a v = stk Z M (v : Int) (a : Int)
  | [], _ => allC_zero H a v
  | x :: M, h => by
    have ih := allC_stk hW a v (M := M) (fun y hy => h y (List.mem_cons_of_mem _ hy))
    obtain ⟨h1, h2, h3, h4, _⟩ := okM_yes.1 (h x List.mem_cons_self)
    obtain ⟨i, u, k⟩ := x
    simp only at h1 h2 h3 h4
    obtain ⟨i, rfl⟩ : ∃ p : Nat, i = (p : Int) := ⟨i.toNat, by omega⟩
    obtain ⟨u, rfl⟩ : ∃ p : Nat, u = (p : Int) := ⟨u.toNat, by omega⟩
    have hi : i < Z.length := by omega
    have e3 := (hW.times _ (List.getElem_mem hi)).1
    unfold tm at e3
    rw [arcI_at hi] at h4
    have hu : u + tmJ Z i ≤ H := by unfold tmJ; rw [arcI_at hi]; omega
    have e : nOf (((i : Int), (u : Int), k) :: M) = fun p => (if ((u : Int), (i : Int)) = p then k else 0) + nOf M p := funext fun p => nOf_cons _ M p
    rw [e, allC_add, allC_one hW hi hu, ih, stk_cons]
/-- Nodes beyond the network's have nothing. -/
theorem stk_out {N H : Nat} {s t : Int} (hW : SpanNet Z N) {v : Nat} (hv : N ≤ v) (u : Int) : ∀ {M : List MoveT}, (∀ x ∈ M, okM Z s t (H : Int) x = true) → stk Z M (v : Int) u = 0
  | [], _ => rfl
  | x :: M, h => by
    rw [stk_cons, stk_out hW hv u (M := M) (fun y hy => h y (List.mem_cons_of_mem _ hy))]
    obtain ⟨h1, h2, _⟩ := okM_yes.1 (h x List.mem_cons_self)
    obtain ⟨i, u2, k⟩ := x
    simp only at h1 h2 ⊢
    obtain ⟨i, rfl⟩ : ∃ p : Nat, i = (p : Int) := ⟨i.toNat, by omega⟩
    have hi : i < Z.length := by omega
    obtain ⟨e1, e2⟩ := hW.ends _ (List.getElem_mem hi)
    obtain ⟨e3, e4⟩ := hW.lt _ (List.getElem_mem hi)
    unfold wgt
    simp only
    rw [arcI_at hi, e1, e2, if_neg (by omega), if_neg (by omega)]
    omega
theorem plan_same {N s t H : Nat} {hold : Bool} {S : Nat → Nat → Int} {L M : List MoveT} (hW : SpanNet Z N) (hM : ∀ x ∈ M, okM Z (s : Int) (t : Int) (H : Int) x = true) (hS : ∀ a v, a ≤ H → S a v = stk Z M (v : Int) (a : Int)) (hL : ∀ v u, stk Z M v u = stk Z L v u) :
    planG S 50 s t H hold = planB Z L N s t H hold := by
  have hn := hW.nodes
  have h1 : planG S 50 s t H hold = true ↔ planB Z L N s t H hold = true := by
    unfold planB
    rw [planG_is, planG_is]
    constructor
    · intro h u hu v hv hs ht
      have := h u hu v (by omega) hs ht
      rw [hS u v hu, hL] at this
      exact this
    · intro h u hu v hv hs ht
      rw [hS u v hu]
      by_cases hv2 : v < N
      · have := h u hu v hv2 hs ht
        rw [hL]
        exact this
      · rw [stk_out hW (by omega) _ hM]
        exact ⟨Int.le_refl _, .inl rfl⟩
  cases h2 : planG S 50 s t H hold with
  | true => rw [h1.1 h2]
  | false =>
    cases h3 : planB Z L N s t H hold with
    | true => rw [h1.2 h3] at h2; cases h2
    | false => rfl
end
end Go.Proofs.Ytbkmfjegbmjknaa
