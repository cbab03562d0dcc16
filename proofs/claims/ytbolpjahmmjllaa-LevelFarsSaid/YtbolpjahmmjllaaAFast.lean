/- Fastest of package adj, of any network. -/
import Derived.Test.YtbolpjahmmjllaaBB
import Derived.Test.YtbolpjahmmjllaaPPop
namespace Go.Proofs.Ytbolpjahmmjllaa
open Go.RowKit
set_option linter.unusedVariables false

theorem DI.ul {Z : List ArcT} {N s : Nat} {d : List Int} {L : List (Int × Int)} {D used T : List Nat} {K : Int} (h : DI Z N s d L D used K T) : used.length ≤ Z.length :=
  nodup_le h.und (fun p hp => by obtain ⟨a, h1, _⟩ := h.us p hp; exact (List.getElem?_eq_some_iff.1 h1).1)
section
variable {w1 wr w2 : World} {gd pb most N : Nat} {G G' : Option Nat} {d : List Int} {L L' : List (Int × Int)}
/-- A block beside them stays what it is. -/
structure Aside2 (wr : World) (gd pb nb : Nat) (G : Option Nat) (o : Obj) : Prop where
  at_ : wr.heap[nb]? = some o
  ne : nb ≠ gd ∧ nb ≠ pb ∧ G ≠ some nb
theorem Aside2.step {nb : Nat} {o : Obj} (h : Aside2 wr gd pb nb G o) (hb : Below wr.heap.size wr w2) : Aside2 w2 gd pb nb G o := ⟨(hb.block nb (lt_whole h.at_)).trans h.at_, h.ne⟩
theorem Aside2.set {nb : Nat} {o : Obj} (h : Aside2 wr gd pb nb G o) (j : Nat) (u : Value) : Aside2 (wr.setCell ⟨gd, j, none⟩ u) gd pb nb G o := ⟨set_other h.at_ h.ne.1 _ _, h.ne⟩
theorem Aside2.pushed {nb : Nat} {o : Obj} (h : Aside2 wr gd pb nb G o) (hk : Kept (fun i => i = pb ∨ some i = G) wr w2) (hg : G' = G ∨ ∃ k, G' = some k ∧ wr.heap.size ≤ k) : Aside2 w2 gd pb nb G' o := by
  have hl := lt_whole h.at_
  refine ⟨hk.old h.at_ ?_, h.ne.1, h.ne.2.1, ?_⟩
  · rintro (e | e)
    · exact h.ne.2.1 e
    · exact h.ne.2.2 e.symm
  · rcases hg with hg | ⟨k, hg, hk⟩
    · rw [hg]; exact h.ne.2.2
    · rw [hg]; intro e; have := Option.some.inj e; omega
end
end Go.Proofs.Ytbolpjahmmjllaa
