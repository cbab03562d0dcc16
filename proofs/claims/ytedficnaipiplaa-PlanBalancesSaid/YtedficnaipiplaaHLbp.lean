/- At each point of time all stocks together, and what is on its way, are nothing. Plain lists. -/
import Derived.Test.YtedficnaipiplaaHLri
namespace Go.Proofs.Ytedficnaipiplaa
open Go.RowKit
set_option linter.unusedVariables false

/-- Is it on its way? -/
def onWay (Z : List ArcT) (u : Int) (x : MoveT) : Prop := x.2.1 ≤ u ∧ u < x.2.1 + (arcI Z x.1).2.2.2
instance (Z : List ArcT) (u : Int) (x : MoveT) : Decidable (onWay Z u x) := by unfold onWay; infer_instance
/-- What is on its way. -/
def trL (Z : List ArcT) (M : List MoveT) (u : Int) : Int := (M.map fun x => if onWay Z u x then x.2.2 else 0).sum
theorem trL_take {Z : List ArcT} {M : List MoveT} {k : Nat} {x : MoveT} (u : Int) (h : M[k]? = some x) : trL Z (M.take (k + 1)) u = trL Z (M.take k) u + if onWay Z u x then x.2.2 else 0 := by
  obtain ⟨hk, rfl⟩ := List.getElem?_eq_some_iff.1 h
  unfold trL
  rw [List.take_succ_eq_append_getElem hk, List.map_append, List.sum_append]
  simp
theorem trL_bd {Z : List ArcT} {c : Int} (u : Int) (hc : 0 ≤ c) : ∀ {M : List MoveT}, (∀ x ∈ M, 0 ≤ x.2.2 ∧ x.2.2 ≤ c) → 0 ≤ trL Z M u ∧ trL Z M u ≤ c * M.length
  | [], _ => by simp [trL]
  | x :: M, h => by
    have h1 := trL_bd (Z := Z) u hc (M := M) (fun y hy => h y (List.mem_cons_of_mem _ hy))
    have h2 := h x List.mem_cons_self
    unfold trL at h1 ⊢
    rw [List.map_cons, List.sum_cons, List.length_cons, Int.natCast_add, Int.mul_add]
    split <;> omega
/-- Its arc is there, and right. -/
def ArcOk (Z : List ArcT) (N : Nat) (x : MoveT) : Prop := (0 ≤ (arcI Z x.1).1 ∧ (arcI Z x.1).1 < (N : Int)) ∧ (0 ≤ (arcI Z x.1).2.1 ∧ (arcI Z x.1).2.1 < (N : Int)) ∧ 0 ≤ (arcI Z x.1).2.2.2
theorem one_sum {N : Nat} {e : Int} (h : 0 ≤ e ∧ e < (N : Int)) (c : Prop) [Decidable c] : sumTo (fun v => if e = (v : Int) ∧ c then (1 : Int) else 0) N = if c then 1 else 0 := by
  have h1 : ∀ v : Nat, v < N → (if e = (v : Int) ∧ c then (1 : Int) else 0) = if v = e.toNat then (if c then 1 else 0) else 0 := by
    intro v _
    by_cases hv : v = e.toNat
    · have h2 : e = (v : Int) := by omega
      rw [if_pos hv]
      by_cases hc : c
      · rw [if_pos hc, if_pos ⟨h2, hc⟩]
      · rw [if_neg hc, if_neg (fun q => hc q.2)]
    · rw [if_neg hv, if_neg (fun q => hv (by omega))]
  rw [sumTo_congr (h := fun v => if v = e.toNat then (if c then 1 else 0) else 0) h1, smT_pick (fun _ => if c then 1 else 0), if_pos (by omega)]
theorem wgt_sum {Z : List ArcT} {N : Nat} {x : MoveT} (h : ArcOk Z N x) (u : Int) : sumTo (fun v => wgt Z (v : Int) u (x.2.1, x.1)) N = -(if onWay Z u x then 1 else 0) := by
  unfold wgt
  simp only
  rw [smT_sub, one_sum h.2.1, one_sum h.1]
  have ht := h.2.2
  by_cases h1 : x.2.1 + (arcI Z x.1).2.2.2 ≤ u
  · rw [if_pos h1, if_pos (show x.2.1 ≤ u by omega), if_neg (fun q : onWay Z u x => absurd q.2 (by omega))]; rfl
  · rw [if_neg h1]
    by_cases h2 : x.2.1 ≤ u
    · rw [if_pos h2, if_pos (show onWay Z u x from ⟨h2, by omega⟩)]; rfl
    · rw [if_neg h2, if_neg (fun q : onWay Z u x => h2 q.1)]; rfl
theorem stk_sum {Z : List ArcT} {N : Nat} (u : Int) : ∀ {M : List MoveT}, (∀ x ∈ M, ArcOk Z N x) → sumTo (fun v => stk Z M (v : Int) u) N = -trL Z M u
  | [], _ => by
    show sumTo (fun _ => (0 : Int)) N = -0
    rw [sumTo_zero]; rfl
  | x :: M, h => by
    have h1 : sumTo (fun v => stk Z (x :: M) (v : Int) u) N = sumTo (fun v => wgt Z (v : Int) u (x.2.1, x.1) * x.2.2 + stk Z M (v : Int) u) N := sumTo_congr fun v _ => by rw [stk_cons, Int.mul_comm]
    rw [h1, sumTo_add, smT_mul, wgt_sum (h x List.mem_cons_self), stk_sum u (fun y hy => h y (List.mem_cons_of_mem _ hy))]
    unfold trL
    rw [List.map_cons, List.sum_cons]
    split <;> omega
theorem arcI_mem {Z : List ArcT} {i : Int} (h : 0 ≤ i ∧ i < (Z.length : Int)) : arcI Z i ∈ Z := by
  have hk : i.toNat < Z.length := by omega
  unfold arcI
  rw [List.getD_eq_getElem?_getD, List.getElem?_eq_getElem hk]
  exact List.getElem_mem hk
theorem sum_twoL {S : Nat → Int} {N i j : Nat} (hi : i < N) (hj : j < N) (hij : i ≠ j) (h : ∀ v, v < N → v ≠ i → v ≠ j → S v = 0) : sumTo S N = S i + S j := by
  have h1 : sumTo S N = sumTo (fun v => (if v = i then S v else 0) + (if v = j then S v else 0)) N := sumTo_congr fun v hv => by
    by_cases h2 : v = i
    · rw [if_pos h2, if_neg (by omega)]; omega
    · rw [if_neg h2]
      by_cases h3 : v = j
      · rw [if_pos h3]; omega
      · rw [if_neg h3, h v hv h2 h3]; rfl
  rw [h1, sumTo_add, smT_pick S i, smT_pick S j, if_pos hi, if_pos hj]
section
variable {N i j H : Nat} {Z : List ArcT} {L : List MoveT}
theorem CaseF.arcOk (hF : CaseF N i j H Z L) {x : MoveT} (h : 0 ≤ x.1 ∧ x.1 < (Z.length : Int)) : ArcOk Z N x := by
  obtain ⟨h1, h2, _, h4, _⟩ := hF.small _ (arcI_mem h)
  exact ⟨h1, h2, h4⟩
/-- All stocks together, and what is on its way. -/
theorem case_bal (hF : CaseF N i j H Z L) (u : Nat) : trL Z L (u : Int) + sumTo (stkN Z L u) N = 0 := by
  have h := stk_sum (Z := Z) (N := N) (u : Int) (M := L) (fun x hx => hF.arcOk (hF.mem x hx).1)
  have h2 : sumTo (stkN Z L u) N = sumTo (fun v => stk Z L (v : Int) (u : Int)) N := rfl
  omega
/-- As much leaves the source as the value is. -/
theorem case_leaves (hF : CaseF N i j H Z L) {b : Bool} (h : plnE (N : Int) Z (i : Int) (j : Int) (H : Int) b L = 0) : stkN Z L H i = -plnV (N : Int) Z (i : Int) (j : Int) (H : Int) b L := by
  obtain ⟨hm, hp⟩ := pln_is h
  have hv := (mvE_ok.1 hm).2.2
  have h1 := stk_sum (Z := Z) (N := N) (H : Int) (M := mvs L) (fun x hx => by have := okM_out (hv x hx); exact hF.arcOk ⟨this.1, this.2.1⟩)
  have h2 : trL Z (mvs L) (H : Int) = 0 := sum_zeroL (fun x hx => by
    have := okM_out (hv x hx)
    rw [if_neg (fun q : onWay Z (H : Int) x => absurd q.2 (by omega))])
  have h3 : sumTo (fun v => stk Z (mvs L) (v : Int) (H : Int)) N = sumTo (stkN Z L H) N := sumTo_congr fun v _ => stk_merged Z L _ _
  have h4 : sumTo (stkN Z L H) N = stkN Z L H i + stkN Z L H j := sum_twoL hF.src hF.snk hF.ne (fun v hv1 hv2 hv3 => by
    obtain ⟨_, h5⟩ := planG_is.1 hp H (Nat.le_refl _) v hv1 hv2 hv3
    exact h5.resolve_right (fun e => absurd e.2 (Nat.lt_irrefl _)))
  have h6 : plnV (N : Int) Z (i : Int) (j : Int) (H : Int) b L = stkN Z L H j := by
    unfold plnV
    rw [if_pos h]
    rfl
  omega
theorem case_stk_bd (hF : CaseF N i j H Z L) (u v : Nat) : -90 ≤ stkN Z L u v ∧ stkN Z L u v ≤ 90 := by
  have h1 := stk_bd (Z := Z) (c := 3) (v : Int) (u : Int) (M := L) (fun x hx => (hF.mem x hx).2.2)
  have h2 := hF.len
  unfold stkN
  omega
theorem case_tr_bd (hF : CaseF N i j H Z L) (u : Int) (k : Nat) : 0 ≤ trL Z (L.take k) u ∧ trL Z (L.take k) u ≤ 90 := by
  have h1 := trL_bd (Z := Z) (c := 3) u (by omega) (M := L.take k) (fun x hx => (hF.mem x (List.mem_of_mem_take hx)).2.2)
  have h2 := hF.len
  have h3 : (L.take k).length ≤ L.length := by rw [List.length_take]; omega
  omega
/-- The stocks as they are told. -/
theorem case_rows (hm : mvE (N : Int) Z (i : Int) (j : Int) (H : Int) L = 0) : (stoV (N : Int) Z (i : Int) (j : Int) (H : Int) L).length = H + 1 ∧ ∀ u, u ≤ H → ∃ g, (stoV (N : Int) Z (i : Int) (j : Int) (H : Int) L)[u]? = some g ∧ g.length = N ∧ ∀ v, v < N → g[v]? = some (stkN Z L u v) := by
  rw [stoV_good hm]
  refine ⟨by simp, fun u hu => ⟨rowT Z L N u, ?_, rowT_len _ _ _ _, fun v hv => ?_⟩⟩
  · rw [List.getElem?_map, List.getElem?_range (by omega)]; rfl
  · unfold rowT
    rw [List.getElem?_map, List.getElem?_range hv]; rfl
end
end Go.Proofs.Ytedficnaipiplaa
