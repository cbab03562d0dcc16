/- Push of the program. -/
import Derived.Test.YtbolpjahmmjllaaSPsh
namespace Go.Proofs.Ytbolpjahmmjllaa
open Go.RowKit
set_option linter.unusedVariables false

def encS (x : StepT) : List Value := [.int .i64 x.1, .bool x.2]
theorem encS_len (x : StepT) : (encS x).length = 2 := rfl
theorem encS_one (x : StepT) : ∀ u ∈ encS x, u.oneCell' = true := by intro u hu; simp [encS] at hu; rcases hu with rfl | rfl <;> rfl
theorem step_at {w : World} {lo : Option Addr} {L : List StepT} (h : Row encS 2 w lo L) {i : Nat} {x : StepT} (hx : L[i]? = some x) : ∃ b o, lo = some ⟨b, o, none⟩ ∧ b < w.heap.size ∧ w.cell? ⟨b, o + i * 2, none⟩ = some (.int .i64 x.1) ∧ w.cell? ⟨b, o + i * 2 + 1, none⟩ = some (.bool x.2) := by
  obtain ⟨hi, rfl⟩ := List.getElem?_eq_some_iff.1 hx
  obtain ⟨b, o, e, hb, hc⟩ := h i hi
  exact ⟨b, o, e, hb, hc 0 (by omega), hc 1 (by omega)⟩
/-- What steps make of a flow of a network, or what is wrong. -/
def pushR (n : Int) (Z : List ArcT) (F : List Int) (L : List StepT) (k : Int) : Int × List Int := if flowE n Z F = 0 then (if k < 0 then (1, []) else pushL Z k F L) else (flowE n Z F, [])
theorem pushR_flow {n : Int} {Z : List ArcT} {F : List Int} {L : List StepT} {k : Int} (h : flowE n Z F ≠ 0) : pushR n Z F L k = (flowE n Z F, []) := by unfold pushR; rw [if_neg h]
theorem pushR_neg {n : Int} {Z : List ArcT} {F : List Int} {L : List StepT} {k : Int} (h : flowE n Z F = 0) (h2 : k < 0) : pushR n Z F L k = (1, []) := by unfold pushR; rw [if_pos h, if_pos h2]
theorem pushR_yes {n : Int} {Z : List ArcT} {F : List Int} {L : List StepT} {k : Int} (h : flowE n Z F = 0) (h2 : ¬ k < 0) : pushR n Z F L k = pushL Z k F L := by unfold pushR; rw [if_pos h, if_neg h2]
theorem pushL_arg {Z : List ArcT} {k : Int} {F : List Int} {L : List StepT} {m : Nat} (hm : m < L.length) (h : ¬ isArc Z L[m]) : pushL Z k F (L.drop m) = (1, []) := by
  rw [List.drop_eq_getElem_cons hm]; show (if _ then _ else _) = _; rw [if_neg h]
theorem pushL_full {Z : List ArcT} {k : Int} {F : List Int} {L : List StepT} {m : Nat} (hm : m < L.length) (h : isArc Z L[m]) (h2 : leftS Z F L[m] < k) : pushL Z k F (L.drop m) = (71, []) := by
  rw [List.drop_eq_getElem_cons hm]; show (if _ then _ else _) = _; rw [if_pos h, if_pos h2]
theorem pushL_step {Z : List ArcT} {k : Int} {F : List Int} {L : List StepT} {m : Nat} (hm : m < L.length) (h : isArc Z L[m]) (h2 : ¬ leftS Z F L[m] < k) : pushL Z k F (L.drop m) = pushL Z k (stepTo k F L[m]) (L.drop (m + 1)) := by
  rw [List.drop_eq_getElem_cons hm]; show (if _ then _ else _) = _; rw [if_pos h, if_neg h2]
/-- A flow of the call's own, and the variable that names it. -/
structure PW (w1 wr : World) (g V M : Nat) (c : Array Value) (F : List Int) : Prop where
  below : Below w1.heap.size w1 wr
  own : OwnL encI wr w1.heap.size 3 (.slice (some ⟨g, 0, none⟩) M M) F
  var : wr.heap[V]? = some (.cells c 88 (0, 0))
  ne : V ≠ g
section
variable {w1 wr w3 : World} {g V M : Nat} {c : Array Value} {F F' : List Int}
theorem PW.next (h : PW w1 wr g V M c F) (hb : Below wr.heap.size wr w3) : PW w1 w3 g V M c F := ⟨h.below.trans (hb.mono h.below.size), h.own.below hb, kept_box h.var hb, h.ne⟩
theorem PW.alloc (h : PW w1 wr g V M c F) (o : Obj) : PW w1 (wr.alloc o) g V M c F := h.next ((Below.refl _ wr).alloc (Nat.le_refl _) o)
theorem PW.turn (h : PW w1 wr g V M c F) (hk : Kept (fun i => i = g) wr w3) (ho : OwnL encI w3 w1.heap.size 3 (.slice (some ⟨g, 0, none⟩) M M) F') : PW w1 w3 g V M c F' :=
  ⟨h.below.trans (hk.below h.below.size (fun i e => by subst e; exact (own_lt2 h.own rfl).1)), ho, hk.old h.var h.ne, h.ne⟩
end
section
variable (n : Int) (b : Bool) (ao fo lo : Option Addr) (cap fc lc : Nat) (Z : List ArcT) (F : List Int) (L : List StepT)
end
end Go.Proofs.Ytbolpjahmmjllaa
