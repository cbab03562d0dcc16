/- Lemmas of the layers below, several texts in one. -/
import Derived.Test.YtlkbohpnlbfopaaBA
import Derived.Sort.LotA
import Derived.LoopTactic
import Derived.Deep.QuietTactic
import Derived.BigQuiet
import Derived.BigRegion
import Derived.Deep.RegionHeld3
import Derived.ChangeAlike
import Derived.IntWalk
import Derived.Test.YtlkbohpnlbfopaaBB
import Derived.Deep.AppendLies
import Derived.Deep.RegionLaw
namespace Go.Proofs.Ytlkbohpnlbfopaa
open Go.RowKit Go.Sort
set_option linter.unusedVariables false
end Go.Proofs.Ytlkbohpnlbfopaa
namespace Go.Proofs.Ytlkbohpnlbfopaa
open Go.RowKit Go.Sort
set_option linter.unusedVariables false
end Go.Proofs.Ytlkbohpnlbfopaa
namespace Go.Proofs.Ytlkbohpnlbfopaa
open Go.RowKit Go.Sort
set_option linter.unusedVariables false
theorem Heap.push {d : Array (Int × Int)} (h : Heap d) (x : Int × Int) : Up (d.push x) d.size := by
  have get : ∀ t, t < d.size → (d.push x)[t]! = d[t]! := fun t ht => by
    rw [getElem!_pos (d.push x) t (by simp; omega), getElem!_pos d t ht, Array.getElem_push_lt]
  refine ⟨fun t h1 h2 hn => ?_, fun t h1 h2 he _ => ?_⟩
  · have h2' : t < d.size := by simp at h2; omega
    have hp : par t < t := by unfold par; omega
    rw [get t h2', get _ (by omega)]
    exact h t h1 h2'
  · have hp : par t < t := by unfold par; omega
    simp at h2
    omega
end Go.Proofs.Ytlkbohpnlbfopaa
namespace Go.Proofs.Ytlkbohpnlbfopaa
open Go.RowKit Go.Sort
set_option linter.unusedVariables false
end Go.Proofs.Ytlkbohpnlbfopaa
namespace Go.Proofs.Ytlkbohpnlbfopaa
open Go.RowKit
set_option linter.unusedVariables false
section
variable {w1 wr w2 : World} {gd pb most N : Nat} {G G' : Option Nat} {d : List Int} {L L' : List (Int × Int)}
structure Aside2 (wr : World) (gd pb nb : Nat) (G : Option Nat) (o : Obj) : Prop where
  at_ : wr.heap[nb]? = some o
  ne : nb ≠ gd ∧ nb ≠ pb ∧ G ≠ some nb
theorem Aside2.step {nb : Nat} {o : Obj} (h : Aside2 wr gd pb nb G o) (hb : Below wr.heap.size wr w2) : Aside2 w2 gd pb nb G o := ⟨(hb.block nb (lt_whole h.at_)).trans h.at_, h.ne⟩
theorem Aside2.set {nb : Nat} {o : Obj} (h : Aside2 wr gd pb nb G o) (j : Nat) (u : Value) : Aside2 (wr.setCell ⟨gd, j, none⟩ u) gd pb nb G o := ⟨set_other h.at_ h.ne.1 _ _, h.ne⟩
end
end Go.Proofs.Ytlkbohpnlbfopaa
namespace Go.Proofs.Ytlkbohpnlbfopaa
open Go.RowKit
set_option linter.unusedVariables false
theorem prl_len {L : List (Int × Int)} {t : Nat} (hnd : L.Nodup) (h : ∀ x ∈ L, ∃ v, v < t ∧ x = prN v) : L.length ≤ t := by
  have hn : (L.map fun x => x.1.toNat).Nodup := by
    rw [List.nodup_iff_pairwise_ne, List.pairwise_map]
    refine (List.nodup_iff_pairwise_ne.1 hnd).imp_of_mem ?_
    intro x y hx hy hne e
    obtain ⟨u, _, rfl⟩ := h x hx
    obtain ⟨v, _, rfl⟩ := h y hy
    simp only [prN, Int.toNat_natCast] at e
    exact hne (by rw [e])
  have := nodup_le (N := t) hn (by
    intro x hx
    obtain ⟨y, hy, rfl⟩ := List.mem_map.1 hx
    obtain ⟨v, hv, rfl⟩ := h y hy
    simpa [prN] using hv)
  simpa using this
def Ready (pend : List Int) (t : Nat) (L : List (Int × Int)) : Prop := (∀ x, x ∈ L ↔ ∃ v, v < t ∧ x = prN v ∧ atI pend v = 0) ∧ L.Nodup
theorem Ready.len {pend : List Int} {t : Nat} {L : List (Int × Int)} (h : Ready pend t L) : L.length ≤ t := prl_len h.2 (fun x hx => by obtain ⟨v, h1, h2, _⟩ := (h.1 x).1 hx; exact ⟨v, h1, h2⟩)
theorem Ready.skip {pend : List Int} {t : Nat} {L : List (Int × Int)} (h : Ready pend t L) (h0 : atI pend t ≠ 0) : Ready pend (t + 1) L := by
  refine ⟨fun x => ?_, h.2⟩
  rw [h.1]
  constructor
  · rintro ⟨v, h1, h2, h3⟩; exact ⟨v, by omega, h2, h3⟩
  · rintro ⟨v, h1, h2, h3⟩
    have : v ≠ t := by rintro rfl; exact h0 h3
    exact ⟨v, by omega, h2, h3⟩
theorem Ready.push {pend : List Int} {t : Nat} {L : List (Int × Int)} (h : Ready pend t L) (h0 : atI pend t = 0) : Ready pend (t + 1) (insP ((t : Int), (t : Int)) L) := by
  have hnew : prN t ∉ L := fun hm => by
    obtain ⟨v, h1, h2, _⟩ := (h.1 _).1 hm
    have := prN_inj h2
    omega
  refine ⟨fun x => ?_, ((insP_perm _ L).nodup_iff).2 (List.nodup_cons.2 ⟨hnew, h.2⟩)⟩
  rw [(insP_perm _ L).mem_iff, List.mem_cons, h.1]
  constructor
  · rintro (rfl | ⟨v, h1, h2, h3⟩)
    · exact ⟨t, by omega, rfl, h0⟩
    · exact ⟨v, by omega, h2, h3⟩
  · rintro ⟨v, h1, h2, h3⟩
    by_cases e : v = t
    · subst e; exact .inl h2
    · exact .inr ⟨v, by omega, h2, h3⟩
section
variable {w1 wr w2 : World} {gd pb N : Nat} {G G' : Option Nat} {d : List Int} {L L' : List (Int × Int)} {lv : Value} {l : List Nat}
end
end Go.Proofs.Ytlkbohpnlbfopaa
namespace Go.Proofs.Ytlkbohpnlbfopaa
open Go.RowKit
set_option linter.unusedVariables false
def ListsV (d : List Int) (e0 : Int) (w : World) (e : Ending) (w' : World) : Prop :=
  ∃ a c, e = .returned (.tuple #[.slice a d.length c, .int .i64 e0]) ∧ Lst encI w' a d ∧ Below w.heap.size w w'
end Go.Proofs.Ytlkbohpnlbfopaa
namespace Go.Proofs.Ytlkbohpnlbfopaa
open Go.RowKit
set_option linter.unusedVariables false
theorem rnode_any (n : Int) (b : Bool) (v : Value) (s : Int) (w : World) : Calls Try.prog 44 #[.agg #[.int .i64 n, .bool b, v], .int .i64 s] w fun e w' => e = .returned (.bool (decide (0 ≤ s ∧ s < n))) ∧ Below w.heap.size w w' := by
  go_enter Try.func44, Try.ntmps44
  go_wp2
  all_goals
    go_ret
    refine ⟨ret_bool ?_, (Below.refl _ w).alloc (Nat.le_refl _) _⟩
    first
      | (symm; rw [decide_eq_true_eq]; omega)
      | (symm; rw [decide_eq_false_iff_not]; omega)
      | (simp; omega)
theorem rnode_is (n : Int) (b : Bool) (v : Value) (s : Int) (q : Bool) (w : World) (h : decide (0 ≤ s ∧ s < n) = q) : Calls Try.prog 44 #[.agg #[.int .i64 n, .bool b, v], .int .i64 s] w fun e w' => e = .returned (.bool q) ∧ Below w.heap.size w w' := by subst h; exact rnode_any n b v s w
end Go.Proofs.Ytlkbohpnlbfopaa
namespace Go.Proofs.Ytlkbohpnlbfopaa
open Go.RowKit
set_option linter.unusedVariables false
end Go.Proofs.Ytlkbohpnlbfopaa
