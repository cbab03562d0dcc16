/- Lemmas of the layers below, several texts in one. -/
import Derived.Test.YtlkbohpnlbfopaaXSpec
import Derived.Test.YtlkbohpnlbfopaaBG
import Derived.Test.YtlkbohpnlbfopaaCL
namespace Go.Proofs.Ytlkbohpnlbfopaa
open Go.RowKit
set_option linter.unusedVariables false
def Off (ao : Option Addr) (n p tb : Nat) : Prop := ∀ ad, ao = some ad → 0 < n → ad.block ≠ p ∧ ad.block ≠ tb
theorem Row.off {α : Type} {enc : α → List Value} {k : Nat} {S : Nat → Prop} {w w' : World} {ao : Option Addr} {A : List α} (h : Row enc k w ao A) (hk : Kept S w w') (hn : ∀ ad, ao = some ad → 0 < A.length → ¬ S ad.block) : Row enc k w' ao A := by
  intro i hi
  obtain ⟨b, o, e, hb, hc⟩ := h i hi
  exact ⟨b, o, e, Nat.lt_of_lt_of_le hb hk.size, fun j hj => (cell_of_block (hk.block b hb (hn _ e (by omega)))).trans (hc j hj)⟩
theorem Lst.off {α : Type} {enc : α → Value} {S : Nat → Prop} {w w' : World} {ao : Option Addr} {A : List α} (h : Lst enc w ao A) (hk : Kept S w w') (hn : ∀ ad, ao = some ad → 0 < A.length → ¬ S ad.block) : Lst enc w' ao A := by
  intro i hi
  obtain ⟨b, o, e, hb, hc⟩ := h i hi
  exact ⟨b, o, e, Nat.lt_of_lt_of_le hb hk.size, (cell_of_block (hk.block b hb (hn _ e (by omega)))).trans hc⟩
def StepRow (w : World) (p tb sg : Nat) (G : List (List StepT)) : Prop := ∀ i (hi : i < G.length), ∃ ao cap, w.cell? ⟨sg, i, none⟩ = some (.slice ao G[i].length cap) ∧ Row encS 2 w ao G[i] ∧ Off ao G[i].length p tb
def rowsU (Z : List ArcT) (N : Nat) : List (List StepT) := (List.range N).map (stepsU Z)
theorem rowsU_len (Z : List ArcT) (N : Nat) : (rowsU Z N).length = N := by simp [rowsU]
theorem StepRow.at {w : World} {p tb sg N : Nat} {Z : List ArcT} (h : StepRow w p tb sg (rowsU Z N)) {v : Nat} (hv : v < N) : ∃ ao cap, w.cell? ⟨sg, v, none⟩ = some (.slice ao (stepsU Z v).length cap) ∧ Row encS 2 w ao (stepsU Z v) ∧ Off ao (stepsU Z v).length p tb := by
  have := h v (by rw [rowsU_len]; exact hv)
  simpa [rowsU] using this
section
variable {w w2 : World} {p tb sg N : Nat} {b : Bool} {ao : Option Addr} {cap : Nat} {Z : List ArcT} {sc tc : Nat} {fo : Option Addr} {fc : Nat} {F : List Int} {lo : Option Addr} {lc : Nat} {L T T' : List Int}
theorem StepRow.kept {S : Nat → Prop} {G : List (List StepT)} (h : StepRow w p tb sg G) (hk : Kept S w w2) (hS : ∀ i, S i → i = p ∨ i = tb) (hsg : sg ≠ p ∧ sg ≠ tb ∧ sg < w.heap.size) : StepRow w2 p tb sg G := by
  intro i hi
  obtain ⟨a, c, h1, h2, h3⟩ := h i hi
  refine ⟨a, c, (cell_of_block (hk.block sg hsg.2.2 (fun e => by have := hS _ e; omega))).trans h1, h2.off hk (fun ad e h0 q => by have := hS _ q; have := h3 ad e h0; omega), h3⟩
end
theorem setCells_own {α : Type} {enc : α → Value} {e : TypeId} {B n cap : Nat} (z : α) (g : Nat) : ∀ (m k : Nat) (w : World) (T : List α), OwnL enc w B e (.slice (some ⟨g, 0, none⟩) n cap) T →
    OwnL enc (w.setCells g k (List.replicate m (enc z))) B e (.slice (some ⟨g, 0, none⟩) n cap) (T.take k ++ List.replicate (min m (T.length - k)) z ++ T.drop (k + m)) ∧ Kept (fun i => i = g) w (w.setCells g k (List.replicate m (enc z)))
  | 0, k, w, T, h => by
    refine ⟨?_, Kept.refl _ _⟩
    have : T.take k ++ List.replicate (min 0 (T.length - k)) z ++ T.drop (k + 0) = T := by simp
    rw [this]
    exact h
  | m + 1, k, w, T, h => by
    obtain ⟨h1, h2⟩ := setCells_own z g m (k + 1) (w.setCell ⟨g, k, none⟩ (enc z)) (T.set k z) (h.put k z)
    have e1 : w.setCells g k (List.replicate (m + 1) (enc z)) = (w.setCell ⟨g, k, none⟩ (enc z)).setCells g (k + 1) (List.replicate m (enc z)) := rfl
    rw [e1]
    refine ⟨?_, ((Kept.refl (fun i => i = g) w).set (.inl rfl) _).trans' h2⟩
    have e2 : (T.set k z).take (k + 1) ++ List.replicate (min m ((T.set k z).length - (k + 1))) z ++ (T.set k z).drop (k + 1 + m) = T.take k ++ List.replicate (min (m + 1) (T.length - k)) z ++ T.drop (k + (m + 1)) := by
      rw [List.length_set]
      by_cases hk : k < T.length
      · rw [List.drop_set_of_lt (by omega), List.take_succ_eq_append_getElem (by rw [List.length_set]; exact hk), List.getElem_set_self, List.take_set_of_le (Nat.le_refl _)]
        rw [show k + 1 + m = k + (m + 1) by omega, show min (m + 1) (T.length - k) = min m (T.length - (k + 1)) + 1 by omega, List.replicate_succ]
        simp
      · rw [List.set_eq_of_length_le (by omega), List.drop_of_length_le (by omega), List.drop_of_length_le (by omega), List.take_of_length_le (by omega), List.take_of_length_le (by omega), show T.length - (k + 1) = 0 by omega, show T.length - k = 0 by omega]
        simp
    rw [e2] at h1
    exact h1
theorem setCells_zero {e : TypeId} {B cap g N : Nat} {w : World} {T : List Int} (h : OwnL encI w B e (.slice (some ⟨g, 0, none⟩) N cap) T) (hT : T.length = N) :
    OwnL encI (w.setCells g 0 (List.replicate N (.int .i64 0))) B e (.slice (some ⟨g, 0, none⟩) N cap) (List.replicate N 0) ∧ Kept (fun i => i = g) w (w.setCells g 0 (List.replicate N (.int .i64 0))) := by
  obtain ⟨h1, h2⟩ := setCells_own (enc := encI) (0 : Int) g N 0 w T h
  refine ⟨?_, h2⟩
  have : T.take 0 ++ List.replicate (min N (T.length - 0)) (0 : Int) ++ T.drop (0 + N) = List.replicate N 0 := by
    rw [hT]; simp [hT]
  rw [this] at h1
  exact h1
end Go.Proofs.Ytlkbohpnlbfopaa
