/- Lemmas of the layers below, several texts in one. -/
import Derived.Test.YtlkbohpnlbfopaaCE
import Derived.Test.YtlkbohpnlbfopaaCG
import Derived.Test.YtlkbohpnlbfopaaCD
import Derived.Test.YtlkbohpnlbfopaaBY
import Derived.Test.YtlkbohpnlbfopaaCC
import Derived.Test.YtlkbohpnlbfopaaXBest
namespace Go.Proofs.Ytlkbohpnlbfopaa
open Go.RowKit
set_option linter.unusedVariables false
structure SmF (A N i j H : Nat) (Z : List ArcT) : Prop where
  nodes : 2 ≤ N ∧ N ≤ 5
  src : i < N
  snk : j < N
  ne : i ≠ j
  hor : H ≤ 7
  arcs : Z.length ≤ A
  small : ∀ a ∈ Z, SmallA N a
theorem sm_facts (A : Nat) (nn s t sp : Int) (B : List BitT) : ∃ N i j H Z, nodeN nn = N ∧ srcN nn s = i ∧ snkN nn s t = j ∧ horN sp = H ∧ readZ (nodeN nn) A B = Z ∧ SmF A N i j H Z :=
  ⟨_, _, _, _, _, rfl, rfl, rfl, rfl, rfl, node_bd nn, src_lt nn s, (snk_lt nn s t).1, (snk_lt nn s t).2, hor_bd sp, by rw [readZ_len]; omega, read_arcs (node_bd nn).1⟩
section
variable {A N i j H : Nat} {Z : List ArcT}
theorem SmF.kinds (h : SmF A N i j H Z) (hA : A ≤ 8) (b : Bool) : (⟨Z, N, i, j, H, b⟩ : Exp).kinds.length ≤ 200 := by
  have h1 := kinds_len (⟨Z, N, i, j, H, b⟩ : Exp)
  simp only at h1
  have h2 : (H + 1) * Z.length ≤ 8 * 8 := Nat.mul_le_mul (by have := h.hor; omega) (by have := h.arcs; omega)
  have h3 : (H + 1) * N ≤ 8 * 5 := Nat.mul_le_mul (by have := h.hor; omega) (by have := h.nodes; omega)
  have := h.hor
  omega
end
section
variable (b : Bool) (ao fo : Option Addr) (nl cap fl fc : Nat) (Z : List ArcT) (N i j H : Nat) (F : List Int)
end
end Go.Proofs.Ytlkbohpnlbfopaa
namespace Go.Proofs.Ytlkbohpnlbfopaa
open Go.RowKit
set_option linter.unusedVariables false
theorem wide_exp {E : Exp} (hG : E.Good) (hW : SpanNet E.Z E.N) (hl : E.kinds.length ≤ 50000) (hn : E.last + 1 ≤ 100000) : WideNet E.net (E.last + 1) where
  ends := fun a ha => by
    unfold Exp.net at ha
    obtain ⟨k, hk, rfl⟩ := List.mem_map.1 ha
    rcases Exp.kinds_cases hk with ⟨i, u, rfl, ho⟩ | ⟨v, u, _, rfl, _⟩ | ⟨u, _, rfl⟩ | ⟨u, _, rfl⟩
    · obtain ⟨a, ha, _⟩ := E.ok_arc ho
      have e4 : E.arcKd (Kd.mv i u) = ((E.slot (frN a) u : Int), (E.slot (toN a) (u + tmN a) : Int), capN a, 0) := by simp only [Exp.arcKd, ha]
      rw [e4]
      exact ⟨rfl, rfl⟩
    · exact ⟨rfl, rfl⟩
    · exact ⟨rfl, rfl⟩
    · exact ⟨rfl, rfl⟩
  lt := Exp.net_ends hG
  caps := fun a ha => by
    unfold Exp.net at ha
    obtain ⟨k, hk, rfl⟩ := List.mem_map.1 ha
    rcases Exp.kinds_cases hk with ⟨i, u, rfl, ho⟩ | ⟨v, u, _, rfl, _⟩ | ⟨u, _, rfl⟩ | ⟨u, _, rfl⟩
    · obtain ⟨a, ha, _⟩ := E.ok_arc ho
      have e4 : E.arcKd (Kd.mv i u) = ((E.slot (frN a) u : Int), (E.slot (toN a) (u + tmN a) : Int), capN a, 0) := by simp only [Exp.arcKd, ha]
      rw [e4]
      have := hW.caps a (List.mem_of_getElem? ha)
      show 0 ≤ capN a ∧ capN a ≤ _
      omega
    · exact (show (0 : Int) ≤ 1099511627776 ∧ (1099511627776 : Int) ≤ 4398046511104 from ⟨by decide, by decide⟩)
    · exact (show (0 : Int) ≤ 1099511627776 ∧ (1099511627776 : Int) ≤ 4398046511104 from ⟨by decide, by decide⟩)
    · exact (show (0 : Int) ≤ 1099511627776 ∧ (1099511627776 : Int) ≤ 4398046511104 from ⟨by decide, by decide⟩)
  len := by unfold Exp.net; rw [List.length_map]; exact hl
  nodes := hn
theorem not_first {E : Exp} (hG : E.Good) : ∀ a ∈ E.net, toN a ≠ E.first := by
  intro a ha
  have hf := Exp.first_lt (E := E)
  unfold Exp.net at ha
  obtain ⟨k, hk, rfl⟩ := List.mem_map.1 ha
  rcases Exp.kinds_cases hk with ⟨i, u, rfl, h⟩ | ⟨v, u, hv, rfl, h⟩ | ⟨u, h1, rfl⟩ | ⟨u, h1, rfl⟩
  · have := Exp.mv_ends hG h; omega
  · have := Exp.wt_ends hv h; omega
  · have := Exp.so_ends hG (u := u) h1; omega
  · have := Exp.si_ends hG (u := u) h1; omega
end Go.Proofs.Ytlkbohpnlbfopaa
