/- Lemmas of the layers below, several texts in one. -/
import Derived.Test.YtlkbohpnlbfopaaCE
import Derived.Test.YtlkbohpnlbfopaaCD
import Derived.Test.YtlkbohpnlbfopaaCC
import Derived.Deep.RegionHeld3
import Derived.Deep.RegionLaw
namespace Go.Proofs.Ytlkbohpnlbfopaa
open Go.RowKit Go.Maps
set_option linter.unusedVariables false
end Go.Proofs.Ytlkbohpnlbfopaa
namespace Go.Proofs.Ytlkbohpnlbfopaa
open Go.RowKit Go.Maps
set_option linter.unusedVariables false
end Go.Proofs.Ytlkbohpnlbfopaa
namespace Go.Proofs.Ytlkbohpnlbfopaa
open Go.RowKit Go.Maps
set_option linter.unusedVariables false
theorem plan_mvE {n : Int} {Z : List ArcT} {s t H : Int} {b : Bool} {L : List MoveT} (h : plnE n Z s t H b L = 0) : mvE n Z s t H L = 0 := by
  by_cases e : mvE n Z s t H L = 0
  · exact e
  · rw [plnE_bad e] at h; exact absurd h e
theorem plan_ok {n : Int} {Z : List ArcT} {s t H : Int} {L : List MoveT} (h : mvE n Z s t H L = 0) : AllIn (mvS L) ∧ ∀ x ∈ mvs L, okM Z s t H x = true := (mvE_ok.1 h).2
theorem stk_small {Z : List ArcT} {N : Nat} {s t H : Int} {L M : List MoveT} (hW : SpanNet Z N) (hn : L.length ≤ 200) (h : ∀ x ∈ mvs L, okM Z s t H x = true) (hp : M.Perm (mvs L)) (v u : Int) : -1099511627776 ≤ stk Z M v u ∧ stk Z M v u ≤ 1099511627776 := by
  have h1 := stk_bd (Z := Z) (c := 1048576) v u (M := M) (fun x hx => by
    obtain ⟨g1, g2, _, _, g5, g6, _⟩ := okM_yes.1 (h x (hp.mem_iff.1 hx))
    refine ⟨g5, Int.le_trans g6 ?_⟩
    obtain ⟨p, hp⟩ : ∃ p : Nat, x.1 = (p : Int) := ⟨x.1.toNat, by omega⟩
    have hpl : p < Z.length := by omega
    rw [hp, arcI_at hpl]
    exact (hW.caps _ (List.getElem_mem hpl)).2)
  have h2 : M.length ≤ 200 := by rw [hp.length_eq]; exact Nat.le_trans (mvs_len L) hn
  have h3 : (1048576 : Int) * (M.length : Int) ≤ 1048576 * 200 := Int.mul_le_mul_of_nonneg_left (by omega) (by omega)
  omega
section
variable (n : Int) (b : Bool) (ao lo : Option Addr) (nl cap ll lc : Nat) (Z : List ArcT) (s t H : Int) (L : List MoveT)
end
section
variable (b : Bool) (ao lo : Option Addr) (nl cap ll lc : Nat) (Z : List ArcT) (N i j K : Nat) (L : List MoveT)
end
end Go.Proofs.Ytlkbohpnlbfopaa
