/- Order of package adj, of any network. -/
import Derived.Test.YtbolpjahmmjllaaAFast
namespace Go.Proofs.Ytbolpjahmmjllaa
open Go.RowKit
set_option linter.unusedVariables false

theorem prl_len {L : List (Int × Int)} {t : Nat} (hnd : L.Nodup) (h : ∀ x ∈ L, ∃ v, v < t ∧ x = prN v) : L.length ≤ t := by
  have hn : (L.map fun x => x.1.toNat).Nodup := by
    rw [List.nodup_iff_pairwise_ne, List.pairwise_map]
    refine (List.nodup_iff_pairwise_ne.1 hnd).imp_of_mem ?_
    intro x y hx hy hne e
    obtain ⟨u, _, rfl⟩ := h x hx
    obtain ⟨v, _, rfl⟩ := h y hy
    simp only [prN, Int.toNat_natCast] at e
    exact hne (by rw [e])
  have := nodup_le (N := t) hn (by
    intro x hx
    obtain ⟨y, hy, rfl⟩ := List.mem_map.1 hx
    obtain ⟨v, hv, rfl⟩ := h y hy
    simpa [prN] using hv)
  simpa using this
/-- The ready ones among the first t nodes. -/
def Ready (pend : List Int) (t : Nat) (L : List (Int × Int)) : Prop := (∀ x, x ∈ L ↔ ∃ v, v < t ∧ x = prN v ∧ atI pend v = 0) ∧ L.Nodup
theorem Ready.len {pend : List Int} {t : Nat} {L : List (Int × Int)} (h : Ready pend t L) : L.length ≤ t := prl_len h.2 (fun x hx => by obtain ⟨v, h1, h2, _⟩ := (h.1 x).1 hx; exact ⟨v, h1, h2⟩)
theorem Ready.skip {pend : List Int} {t : Nat} {L : List (Int × Int)} (h : Ready pend t L) (h0 : atI pend t ≠ 0) : Ready pend (t + 1) L := by
  refine ⟨fun x => ?_, h.2⟩
  rw [h.1]
  constructor
  · rintro ⟨v, h1, h2, h3⟩; exact ⟨v, by omega, h2, h3⟩
  · rintro ⟨v, h1, h2, h3⟩
    have : v ≠ t := by rintro rfl; exact h0 h3
    exact ⟨v, by omega, h2, h3⟩
theorem Ready.push {pend : List Int} {t : Nat} {L : List (Int × Int)} (h : Ready pend t L) (h0 : atI pend t = 0) : Ready pend (t + 1) (insP ((t : Int), (t : Int)) L) := by
  have hnew : prN t ∉ L := fun hm => by
    obtain ⟨v, h1, h2, _⟩ := (h.1 _).1 hm
    have := prN_inj h2
    omega
  refine ⟨fun x => ?_, ((insP_perm _ L).nodup_iff).2 (List.nodup_cons.2 ⟨hnew, h.2⟩)⟩
  rw [(insP_perm _ L).mem_iff, List.mem_cons, h.1]
  constructor
  · rintro (rfl | ⟨v, h1, h2, h3⟩)
    · exact ⟨t, by omega, rfl, h0⟩
    · exact ⟨v, by omega, h2, h3⟩
  · rintro ⟨v, h1, h2, h3⟩
    by_cases e : v = t
    · subst e; exact .inl h2
    · exact .inr ⟨v, by omega, h2, h3⟩
/-- How many arcs of the first k come to each node. -/
def pendK (Z : List ArcT) (N k : Nat) : List Int := (List.range N).map fun v => (cntP Z (List.range k) v : Int)
theorem pendK_len (Z : List ArcT) (N k : Nat) : (pendK Z N k).length = N := by simp [pendK]
theorem pendK_at (Z : List ArcT) {N v : Nat} (k : Nat) (h : v < N) : atI (pendK Z N k) v = (cntP Z (List.range k) v : Int) := by
  unfold atI; rw [List.getD_eq_getElem?_getD, List.getElem?_eq_getElem (by rw [pendK_len]; exact h)]; simp [pendK]
theorem pendK_zero (Z : List ArcT) (N : Nat) : pendK Z N 0 = List.replicate N 0 := by
  apply List.ext_getElem
  · simp [pendK]
  · intro i h1 h2; simp [pendK, cntP]
theorem pendK_succ {Z : List ArcT} {N k : Nat} {a : ArcT} (ha : Z[k]? = some a) (ht : toN a < N) : pendK Z N (k + 1) = (pendK Z N k).set (toN a) (atI (pendK Z N k) (toN a) + 1) := by
  rw [pendK_at Z k ht]
  apply List.ext_getElem
  · simp [pendK]
  · intro i h1 h2
    rw [List.getElem_set]
    simp only [pendK, List.getElem_map, List.getElem_range]
    rw [cntP_range_succ Z k i ha]
    by_cases e : toN a = i
    · subst e; simp
    · simp [e]
theorem cntP_range_le (Z : List ArcT) (k v : Nat) : cntP Z (List.range k) v ≤ k := by have := cntP_le Z (List.range k) v; simpa using this
section
variable {w1 wr w2 : World} {gd pb N : Nat} {G G' : Option Nat} {d : List Int} {L L' : List (Int × Int)} {lv : Value} {l : List Nat}
end
/-- An order that a call tells, or that there is none. -/
def OrdRes (o : Option (List Nat)) (w : World) (e : Ending) (w' : World) : Prop :=
  ∃ a c, e = .returned (.tuple #[.slice a (o.getD []).length c, .bool o.isSome, .int .i64 0]) ∧ Lst encI w' a (natI (o.getD [])) ∧ Below w.heap.size w w'
end Go.Proofs.Ytbolpjahmmjllaa
