/- Lemmas of the layers below, several texts in one. -/
import Derived.Test.YtlkbohpnlbfopaaBS
import Derived.Test.YtlkbohpnlbfopaaCI
import Derived.Deep.MidRow
import Derived.Test.YtlkbohpnlbfopaaBQ
import Derived.Maps.OwnOps
import Derived.Test.YtlkbohpnlbfopaaCH
import Derived.BigQuiet
namespace Go.Proofs.Ytlkbohpnlbfopaa
set_option linter.unusedVariables false
def arcI (Z : List ArcT) (i : Int) : ArcT := Z.getD i.toNat (0, 0, 0, 0)
def okM (Z : List ArcT) (s t H : Int) (x : MoveT) : Bool := decide (0 ≤ x.1 ∧ x.1 < (Z.length : Int) ∧ 0 ≤ x.2.1 ∧ x.2.1 + (arcI Z x.1).2.2.2 ≤ H ∧ 0 ≤ x.2.2 ∧ x.2.2 ≤ (arcI Z x.1).2.2.1 ∧ (arcI Z x.1).2.1 ≠ s ∧ (arcI Z x.1).1 ≠ t)
def wgt (Z : List ArcT) (v u : Int) (p : Int × Int) : Int := (if (arcI Z p.2).2.1 = v ∧ p.1 + (arcI Z p.2).2.2.2 ≤ u then 1 else 0) - (if (arcI Z p.2).1 = v ∧ p.1 ≤ u then 1 else 0)
def stk (Z : List ArcT) (M : List MoveT) (v u : Int) : Int := (M.map fun x => x.2.2 * wgt Z v u (x.2.1, x.1)).sum
theorem sum_addL {α : Type} (f g : α → Int) : ∀ K : List α, (K.map fun p => f p + g p).sum = (K.map f).sum + (K.map g).sum
  | [] => rfl
  | x :: r => by simp only [List.map_cons, List.sum_cons, sum_addL f g r]; omega
theorem sum_zeroL {α : Type} {f : α → Int} : ∀ {K : List α}, (∀ x ∈ K, f x = 0) → (K.map f).sum = 0
  | [], _ => rfl
  | x :: r, h => by
    simp only [List.map_cons, List.sum_cons, sum_zeroL (f := f) (K := r) (fun y hy => h y (List.mem_cons_of_mem _ hy)), h x List.mem_cons_self]
    rfl
theorem nOf_cons (x : MoveT) (L : List MoveT) (p : Int × Int) : nOf (x :: L) p = (if (x.2.1, x.1) = p then x.2.2 else 0) + nOf L p := by
  unfold nOf
  by_cases h : (x.2.1, x.1) = p
  · rw [List.filter_cons_of_pos (by simpa using h), if_pos h]; rfl
  · rw [List.filter_cons_of_neg (by simpa using h), if_neg h]; omega
theorem pick_sum (h : Int × Int → Int) (q : Int × Int) (c : Int) : ∀ K : List (Int × Int), K.Nodup → (K.map fun p => (if q = p then c else 0) * h p).sum = if q ∈ K then c * h q else 0
  | [], _ => by simp
  | p :: K, hn => by
    rw [List.nodup_cons] at hn
    rw [List.map_cons, List.sum_cons, pick_sum h q c K hn.2]
    by_cases hq : q = p
    · subst hq
      rw [if_pos rfl, if_neg hn.1, if_pos List.mem_cons_self]; omega
    · rw [if_neg hq, Int.zero_mul, Int.zero_add]
      by_cases hk : q ∈ K
      · rw [if_pos hk, if_pos (List.mem_cons_of_mem _ hk)]
      · rw [if_neg hk, if_neg (fun hm => (List.mem_cons.1 hm).elim hq hk)]
theorem keyed_sum (h : Int × Int → Int) : ∀ (L : List MoveT) (K : List (Int × Int)), K.Nodup → (∀ x ∈ L, (x.2.1, x.1) ∈ K) → (K.map fun p => nOf L p * h p).sum = (L.map fun x => x.2.2 * h (x.2.1, x.1)).sum
  | [], K, _, _ => sum_zeroL (fun p _ => by show nOf [] p * h p = 0; rw [show nOf [] p = 0 from rfl, Int.zero_mul])
  | x :: L, K, hn, hk => by
    have e : (K.map fun p => nOf (x :: L) p * h p) = K.map fun p => (if (x.2.1, x.1) = p then x.2.2 else 0) * h p + nOf L p * h p := by
      apply List.map_congr_left
      intro p _
      rw [nOf_cons, Int.add_mul]
    rw [e, sum_addL, keyed_sum h L K hn (fun y hy => hk y (List.mem_cons_of_mem _ hy)), pick_sum h _ _ K hn, if_pos (hk x List.mem_cons_self)]
    rfl
theorem filt_sum {g : MoveT → Int} (h : ∀ x, notNil x = false → g x = 0) : ∀ A : List MoveT, ((A.filter notNil).map g).sum = (A.map g).sum
  | [] => rfl
  | x :: r => by
    cases hx : notNil x with
    | true => rw [List.filter_cons_of_pos hx, List.map_cons, List.map_cons, List.sum_cons, List.sum_cons, filt_sum h r]
    | false => rw [List.filter_cons_of_neg (by rw [hx]; simp), filt_sum h r, List.map_cons, List.sum_cons, h x hx]; omega
theorem merged_sum (h : Int × Int → Int) (L : List MoveT) : ((mvs L).map fun x => x.2.2 * h (x.2.1, x.1)).sum = (L.map fun x => x.2.2 * h (x.2.1, x.1)).sum := by
  unfold mvs
  rw [filt_sum (fun x hx => by
    have : x.2.2 = 0 := by simpa [notNil] using hx
    rw [this, Int.zero_mul]), List.map_map]
  rw [← keyed_sum h L (firsts (pairsOf L)) (nodup_firsts _) (fun x hx => mem_firsts.2 (List.mem_map.2 ⟨x, hx, rfl⟩))]
  congr 1
  apply List.map_congr_left
  intro p _
  show (mkMove L p).2.2 * h ((mkMove L p).2.1, (mkMove L p).1) = _
  unfold mkMove
  rw [nSum_eq]
theorem stk_merged (Z : List ArcT) (L : List MoveT) (v u : Int) : stk Z (mvs L) v u = stk Z L v u := merged_sum (wgt Z v u) L
theorem stk_perm (Z : List ArcT) {A B : List MoveT} (h : A.Perm B) (v u : Int) : stk Z A v u = stk Z B v u := sum_perm (h.map _)
theorem stk_of {Z : List ArcT} {L M : List MoveT} (h : M.Perm (mvs L)) (v u : Int) : stk Z M v u = stk Z L v u := (stk_perm Z h v u).trans (stk_merged Z L v u)
theorem stk_snoc (Z : List ArcT) (M : List MoveT) (x : MoveT) (v u : Int) : stk Z (M ++ [x]) v u = stk Z M v u + x.2.2 * wgt Z v u (x.2.1, x.1) := by unfold stk; rw [List.map_append, List.sum_append]; simp
theorem stk_cons (Z : List ArcT) (M : List MoveT) (x : MoveT) (v u : Int) : stk Z (x :: M) v u = x.2.2 * wgt Z v u (x.2.1, x.1) + stk Z M v u := by unfold stk; rw [List.map_cons, List.sum_cons]
theorem wgt_bd (Z : List ArcT) (v u : Int) (p : Int × Int) : wgt Z v u p = -1 ∨ wgt Z v u p = 0 ∨ wgt Z v u p = 1 := by
  unfold wgt
  split <;> split <;> simp
theorem stk_bd {Z : List ArcT} {c : Int} (v u : Int) : ∀ {M : List MoveT}, (∀ x ∈ M, 0 ≤ x.2.2 ∧ x.2.2 ≤ c) → -(c * M.length) ≤ stk Z M v u ∧ stk Z M v u ≤ c * M.length
  | [], _ => by simp [stk]
  | x :: M, h => by
    have h1 := stk_bd (Z := Z) (c := c) v u (M := M) (fun y hy => h y (List.mem_cons_of_mem _ hy))
    have h2 := h x List.mem_cons_self
    rw [stk_cons, List.length_cons, Int.natCast_add, Int.mul_add]
    rcases wgt_bd Z v u (x.2.1, x.1) with e | e | e <;> rw [e] <;> omega
def allInB (S : List Int) : Bool := S.all fitB
theorem allInB_iff {S : List Int} : allInB S = true ↔ AllIn S := by
  unfold allInB AllIn
  rw [List.all_eq_true]
  refine forall_congr' fun s => forall_congr' fun _ => ?_
  unfold fitB
  rw [decide_eq_true_eq]
  exact Iff.rfl
def mvE (n : Int) (Z : List ArcT) (s t H : Int) (L : List MoveT) : Int :=
  if askE n Z s t H = 0 then (if allInB (mvS L) = true then (if (mvs L).all (okM Z s t H) = true then 0 else 140) else 10) else askE n Z s t H
theorem mvE_ok {n : Int} {Z : List ArcT} {s t H : Int} {L : List MoveT} : mvE n Z s t H L = 0 ↔ askE n Z s t H = 0 ∧ AllIn (mvS L) ∧ ∀ x ∈ mvs L, okM Z s t H x = true := by
  unfold mvE
  split
  · next h1 =>
    split
    · next h2 =>
      split
      · next h3 => exact ⟨fun _ => ⟨h1, allInB_iff.1 h2, List.all_eq_true.1 h3⟩, fun _ => rfl⟩
      · next h3 => exact ⟨fun h => by simp at h, fun h => absurd (List.all_eq_true.2 h.2.2) h3⟩
    · next h2 => exact ⟨fun h => by simp at h, fun h => absurd (allInB_iff.2 h.2.1) h2⟩
  · next h1 => exact ⟨fun h => absurd h h1, fun h => absurd h.1 h1⟩
theorem mvE_ask {n : Int} {Z : List ArcT} {s t H : Int} {L : List MoveT} (h : askE n Z s t H ≠ 0) : mvE n Z s t H L = askE n Z s t H := by unfold mvE; rw [if_neg h]
theorem mvE_over {n : Int} {Z : List ArcT} {s t H : Int} {L : List MoveT} (h : askE n Z s t H = 0) (h2 : ¬ AllIn (mvS L)) : mvE n Z s t H L = 10 := by unfold mvE; rw [if_pos h, if_neg (fun e => h2 (allInB_iff.1 e))]
theorem mvE_move {n : Int} {Z : List ArcT} {s t H : Int} {L : List MoveT} (h : askE n Z s t H = 0) (h2 : AllIn (mvS L)) {x : MoveT} (hx : x ∈ mvs L) (h3 : okM Z s t H x = false) : mvE n Z s t H L = 140 := by
  unfold mvE
  rw [if_pos h, if_pos (allInB_iff.2 h2), if_neg]
  intro e
  have := List.all_eq_true.1 e x hx
  rw [h3] at this
  cases this
def stB (hold : Bool) (H u : Nat) (x : Int) : Bool := decide (0 ≤ x) && (decide (x = 0) || (hold && decide (u < H)))
theorem stB_is {hold : Bool} {H u : Nat} {x : Int} : stB hold H u x = true ↔ 0 ≤ x ∧ (x = 0 ∨ (hold = true ∧ u < H)) := by
  unfold stB
  rw [Bool.and_eq_true, Bool.or_eq_true, Bool.and_eq_true, decide_eq_true_eq, decide_eq_true_eq, decide_eq_true_eq]
def planG (S : Nat → Nat → Int) (K s t H : Nat) (hold : Bool) : Bool := (List.range (H + 1)).all fun u => (List.range K).all fun v => decide (v = s) || (decide (v = t) || stB hold H u (S u v))
theorem planG_is {S : Nat → Nat → Int} {K s t H : Nat} {hold : Bool} : planG S K s t H hold = true ↔ ∀ u, u ≤ H → ∀ v, v < K → v ≠ s → v ≠ t → 0 ≤ S u v ∧ (S u v = 0 ∨ (hold = true ∧ u < H)) := by
  unfold planG
  rw [List.all_eq_true]
  constructor
  · intro h u hu v hv hs ht
    have h1 := List.all_eq_true.1 (h u (List.mem_range.2 (by omega))) v (List.mem_range.2 hv)
    rw [Bool.or_eq_true, Bool.or_eq_true, decide_eq_true_eq, decide_eq_true_eq] at h1
    rcases h1 with h1 | h1 | h1
    · exact absurd h1 hs
    · exact absurd h1 ht
    · exact stB_is.1 h1
  · intro h u hu
    rw [List.all_eq_true]
    intro v hv
    rw [Bool.or_eq_true, Bool.or_eq_true, decide_eq_true_eq, decide_eq_true_eq]
    by_cases hs : v = s
    · exact .inl hs
    · by_cases ht : v = t
      · exact .inr (.inl ht)
      · exact .inr (.inr (stB_is.2 (h u (by have := List.mem_range.1 hu; omega) v (List.mem_range.1 hv) hs ht)))
def stkN (Z : List ArcT) (L : List MoveT) (u v : Nat) : Int := stk Z L (v : Int) (u : Int)
def planB (Z : List ArcT) (L : List MoveT) (N s t H : Nat) (hold : Bool) : Bool := planG (stkN Z L) N s t H hold
def plnE (n : Int) (Z : List ArcT) (s t H : Int) (hold : Bool) (L : List MoveT) : Int := if mvE n Z s t H L = 0 then (if planB Z L n.toNat s.toNat t.toNat H.toNat hold = true then 0 else 141) else mvE n Z s t H L
def plnV (n : Int) (Z : List ArcT) (s t H : Int) (hold : Bool) (L : List MoveT) : Int := if plnE n Z s t H hold L = 0 then stk Z L t H else 0
end Go.Proofs.Ytlkbohpnlbfopaa
namespace Go.Proofs.Ytlkbohpnlbfopaa
open Go.RowKit
set_option linter.unusedVariables false
section
variable {w w' : World} {g n : Nat} {G : Nat → Nat → Int}
end
end Go.Proofs.Ytlkbohpnlbfopaa
namespace Go.Proofs.Ytlkbohpnlbfopaa
open Go.RowKit
set_option linter.unusedVariables false
theorem okM_no {Z : List ArcT} {s t H : Int} {x : MoveT} (h : ¬ (0 ≤ x.1 ∧ x.1 < (Z.length : Int) ∧ 0 ≤ x.2.1 ∧ x.2.1 + (arcI Z x.1).2.2.2 ≤ H ∧ 0 ≤ x.2.2 ∧ x.2.2 ≤ (arcI Z x.1).2.2.1 ∧ (arcI Z x.1).2.1 ≠ s ∧ (arcI Z x.1).1 ≠ t)) : okM Z s t H x = false := by
  unfold okM
  rw [decide_eq_false_iff_not]; exact h
theorem okM_yes {Z : List ArcT} {s t H : Int} {x : MoveT} : okM Z s t H x = true ↔ 0 ≤ x.1 ∧ x.1 < (Z.length : Int) ∧ 0 ≤ x.2.1 ∧ x.2.1 + (arcI Z x.1).2.2.2 ≤ H ∧ 0 ≤ x.2.2 ∧ x.2.2 ≤ (arcI Z x.1).2.2.1 ∧ (arcI Z x.1).2.1 ≠ s ∧ (arcI Z x.1).1 ≠ t := by
  unfold okM
  rw [decide_eq_true_eq]
theorem arcI_at {Z : List ArcT} {p : Nat} (h : p < Z.length) : arcI Z (p : Int) = Z[p] := by
  unfold arcI
  rw [Int.toNat_natCast, List.getD_eq_getElem?_getD, List.getElem?_eq_getElem h]; rfl
section
variable (n : Int) (b : Bool) (ao : Option Addr) (nl cap : Nat) (Z : List ArcT) (s t H : Int) (bm : Nat)
end
end Go.Proofs.Ytlkbohpnlbfopaa
namespace Go.Proofs.Ytlkbohpnlbfopaa
open Go.RowKit
set_option linter.unusedVariables false
section
variable {Z : List ArcT} {f : Int × Int → Int} {H : Nat}
end
section
variable (n : Int) (b : Bool) (ao : Option Addr) (nl cap : Nat) (Z : List ArcT) (s t : Int) (bm : Nat)
end
end Go.Proofs.Ytlkbohpnlbfopaa
namespace Go.Proofs.Ytlkbohpnlbfopaa
open Go.RowKit
set_option linter.unusedVariables false
section
variable (n : Int) (b : Bool) (ao : Option Addr) (nl cap : Nat) (Z : List ArcT) (s t : Int) (bm : Nat)
end
end Go.Proofs.Ytlkbohpnlbfopaa
namespace Go.Proofs.Ytlkbohpnlbfopaa
open Go.RowKit
set_option linter.unusedVariables false
section
variable (n : Int) (b : Bool) (ao : Option Addr) (nl cap : Nat) (bm : Nat)
end
end Go.Proofs.Ytlkbohpnlbfopaa
