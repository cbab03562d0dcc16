/- Lemmas of the layers below, several texts in one. -/
import Derived.Test.YtlkbohpnlbfopaaQLaid
import Derived.Test.YtlkbohpnlbfopaaBR
import Derived.Shelf.SlSortFuncK.ComposeK
import Derived.Test.YtlkbohpnlbfopaaBQ
import Derived.LoopTactic
import Derived.Carry
import Derived.OwnWalk
import Derived.Maps.AppendAt
namespace Go.Proofs.Ytlkbohpnlbfopaa
open Go.RowKit Go.Sort Go.Shelf
set_option linter.unusedVariables false
section
variable {α : Type} [Inhabited α] {enc : α → List Value} {k : Nat}
def Sorted (key : α → Int × Int × Int) (l : List α) : Prop := l.Pairwise fun x y => ltK (key y) (key x) = false
end
end Go.Proofs.Ytlkbohpnlbfopaa
namespace Go.Proofs.Ytlkbohpnlbfopaa
open Go.RowKit
set_option linter.unusedVariables false
end Go.Proofs.Ytlkbohpnlbfopaa
namespace Go.Proofs.Ytlkbohpnlbfopaa
open Go.RowKit Go.Sort Go.Shelf
set_option linter.unusedVariables false
abbrev MoveT := Int × Int × Int
def pairsOf (Z : List MoveT) : List (Int × Int) := Z.map fun m => (m.2.1, m.1)
def nAt (Z : List MoveT) (i : Nat) : Int := (Z.getD i (0, 0, 0)).2.2
def nSum (Z : List MoveT) (p : Int × Int) : Int := ((placesQ (pairsOf Z) p).map (nAt Z)).sum
def mkMove (Z : List MoveT) (p : Int × Int) : MoveT := (p.2, p.1, nSum Z p)
def notNil (m : MoveT) : Bool := m.2.2 != 0
def mvs (Z : List MoveT) : List MoveT := ((firsts (pairsOf Z)).map (mkMove Z)).filter notNil
def mvS (Z : List MoveT) : List Int := tots (nAt Z) (grps (pairsOf Z))
theorem mvS_eq (Z : List MoveT) : mvS Z = (firsts (pairsOf Z)).map (nSum Z) := by
  unfold mvS tots grps; rw [List.map_map]; rfl
theorem nAt_eq {Z : List MoveT} {i : Nat} (hi : i < Z.length) : nAt Z i = Z[i].2.2 := by unfold nAt; rw [getD_of_lt hi]
def mvTo (Z : List MoveT) (i : Nat) : List MoveT := (((firsts (pairsOf Z)).take i).map (mkMove Z)).filter notNil
theorem mvTo_len (Z : List MoveT) (i : Nat) : (mvTo Z i).length ≤ (firsts (pairsOf Z)).length := by
  unfold mvTo
  refine Nat.le_trans (List.length_filter_le _ _) ?_
  simp; omega
theorem mvTo_all (Z : List MoveT) : mvTo Z (firsts (pairsOf Z)).length = mvs Z := by unfold mvTo mvs; rw [List.take_length]
def MovesRes (Z : List MoveT) (w : World) (e : Ending) (w' : World) : Prop :=
  Below w.heap.size w w' ∧ ((AllIn (mvS Z) ∧ ∃ ao cap M, e = .returned (.tuple #[.slice ao M.length cap, .int .i64 0]) ∧ Row encK 3 w' ao M ∧ M.Perm (mvs Z) ∧ Sorted kM M) ∨ (¬ AllIn (mvS Z) ∧ e = .returned (.tuple #[.slice none 0 0, .int .i64 10])))
end Go.Proofs.Ytlkbohpnlbfopaa
namespace Go.Proofs.Ytlkbohpnlbfopaa
open Go.RowKit
set_option linter.unusedVariables false
def nOf (Z : List MoveT) (p : Int × Int) : Int := ((Z.filter fun m => decide ((m.2.1, m.1) = p)).map fun m => m.2.2).sum
theorem nAt_append {Z : List MoveT} {m : MoveT} {i : Nat} (hi : i < Z.length) : nAt (Z ++ [m]) i = nAt Z i := by
  unfold nAt; rw [getD_append_left hi]
theorem nSum_eq (Z : List MoveT) (p : Int × Int) : nSum Z p = nOf Z p := by
  induction Z using snoc_induct with
  | h0 => rfl
  | h1 Z m ih =>
    have hl : (pairsOf Z).length = Z.length := by simp [pairsOf]
    have e1 : pairsOf (Z ++ [m]) = pairsOf Z ++ [(m.2.1, m.1)] := by simp [pairsOf]
    have e2 : (placesQ (pairsOf Z) p).map (nAt (Z ++ [m])) = (placesQ (pairsOf Z) p).map (nAt Z) := by
      apply List.map_congr_left
      intro i hi
      exact nAt_append (by rw [← hl]; exact (List.getElem?_eq_some_iff.1 (mem_places.1 hi)).1)
    have e3 : nAt (Z ++ [m]) Z.length = m.2.2 := by unfold nAt; rw [getD_end Z m _ rfl]
    unfold nSum nOf at *
    rw [e1, places_snocQ, List.map_append, e2, List.sum_append, ih, List.filter_append, List.map_append, List.sum_append, hl]
    congr 1
    by_cases h : (m.2.1, m.1) = p
    · simp [h, e3]
    · simp [h]
theorem sum_perm {a b : List Int} (h : a.Perm b) : a.sum = b.sum := by
  induction h with
  | nil => rfl
  | cons x _ ih => simp [ih]
  | swap x y l => simp; omega
  | trans _ _ i1 i2 => rw [i1, i2]
theorem mvs_len (Z : List MoveT) : (mvs Z).length ≤ Z.length := by
  rw [← mvTo_all]
  refine Nat.le_trans (mvTo_len Z _) ?_
  have := firsts_len (pairsOf Z)
  simpa [pairsOf] using this
theorem filter_one_of {α β : Type} [DecidableEq β] {f : α → β} {l : List α} {m : α} (hm : m ∈ l) (hn : (l.map f).Nodup) : l.filter (fun x => decide (f x = f m)) = [m] := by
  induction l with
  | nil => cases hm
  | cons a l ih =>
    rw [List.map_cons, List.nodup_cons] at hn
    rcases List.mem_cons.1 hm with rfl | h
    · rw [List.filter_cons_of_pos (by simp)]
      congr 1
      apply List.filter_eq_nil_iff.2
      intro x hx e
      apply hn.1
      have e' : f x = f m := of_decide_eq_true e
      rw [← e']; exact List.mem_map.2 ⟨x, hx, rfl⟩
    · have hne : f a ≠ f m := fun e => hn.1 (by rw [e]; exact List.mem_map.2 ⟨m, h, rfl⟩)
      rw [List.filter_cons_of_neg (by simpa using hne)]
      exact ih h hn.2
theorem mvs_nodup (Z : List MoveT) : ((mvs Z).map fun m => (m.2.1, m.1)).Nodup := by
  unfold mvs
  have h0 : (((firsts (pairsOf Z)).map (mkMove Z)).map fun m => (m.2.1, m.1)) = firsts (pairsOf Z) := by
    rw [List.map_map]
    conv => rhs; rw [← List.map_id (firsts (pairsOf Z))]
    apply List.map_congr_left
    intro x _; rfl
  have h1 : (((firsts (pairsOf Z)).map (mkMove Z)).map fun m => (m.2.1, m.1)).Nodup := by rw [h0]; exact nodup_firsts _
  exact List.Nodup.sublist (List.Sublist.map _ List.filter_sublist) h1
end Go.Proofs.Ytlkbohpnlbfopaa
