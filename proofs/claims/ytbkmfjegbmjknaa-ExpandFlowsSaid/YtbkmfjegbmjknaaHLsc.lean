/- What a case is read as: its numbers. Plain lists. -/
import Derived.Test.YtbkmfjegbmjknaaHRd
import Derived.Test.YtbkmfjegbmjknaaHLws
namespace Go.Proofs.Ytbkmfjegbmjknaa
open Go.RowKit
set_option linter.unusedVariables false
structure CaseF (N i j H : Nat) (Z : List ArcT) (L : List MoveT) : Prop where
  nodes : 2 ≤ N ∧ N ≤ 5
  src : i < N
  snk : j < N
  ne : i ≠ j
  hor : H ≤ 7
  arcs : Z.length ≤ 8
  small : ∀ a ∈ Z, SmallA N a
  len : L.length ≤ 30
  mem : ∀ x ∈ L, (0 ≤ x.1 ∧ x.1 < (Z.length : Int)) ∧ (0 ≤ x.2.1 ∧ x.2.1 ≤ (H : Int)) ∧ 0 ≤ x.2.2 ∧ x.2.2 ≤ 3
theorem CaseF.okK {N i j H : Nat} {Z : List ArcT} {L : List MoveT} (h : CaseF N i j H Z L) : ∀ x ∈ L, okK x := by
  intro x hx
  obtain ⟨h1, h2, h3⟩ := h.mem x hx
  have h4 := h.arcs
  have h5 := h.hor
  unfold Go.Proofs.Ytbkmfjegbmjknaa.okK in64
  omega
theorem CaseF.check {N i j H : Nat} {Z : List ArcT} {L : List MoveT} (h : CaseF N i j H Z L) : checkE (N : Int) Z = 0 := small_check h.nodes (by have := h.arcs; omega) h.small
theorem CaseF.ends {N i j H : Nat} {Z : List ArcT} {L : List MoveT} (h : CaseF N i j H Z L) : endsE (N : Int) Z (i : Int) (j : Int) = 0 := small_ends h.check h.src h.snk h.ne
theorem CaseF.ask {N i j H : Nat} {Z : List ArcT} {L : List MoveT} (h : CaseF N i j H Z L) : askE (N : Int) Z (i : Int) (j : Int) (H : Int) = 0 := small_ask h.ends (by omega) (by have := h.hor; omega)
theorem case_facts (nn s t sp : Int) (B : List BitT) (K : List ByT) : ∃ N i j H Z L, nodeN nn = N ∧ srcN nn s = i ∧ snkN nn s t = j ∧ horN sp = H ∧ readZ (nodeN nn) 8 B = Z ∧ readK Z.length H K = L ∧ CaseF N i j H Z L :=
  ⟨_, _, _, _, _, _, rfl, rfl, rfl, rfl, rfl, rfl, node_bd nn, src_lt nn s, (snk_lt nn s t).1, (snk_lt nn s t).2, hor_bd sp, by rw [readZ_len]; omega, read_arcs (node_bd nn).1, readK_len _ _ _, readK_mem⟩
end Go.Proofs.Ytbkmfjegbmjknaa
