/- The document's Clean of layer 13: a flow without its cycles. -/
import Derived.Test.YtmflleifglefiaaDSpw
import Derived.Test.YtmflleifglefiaaDSam
namespace Go.Proofs.Ytmflleifglefiaa
open Go.RowKit
set_option linter.unusedVariables false

theorem take_add_at {Z : List ArcT} {u v : Nat} {p : Part} (hp : PartIs Z u v p) {f : List Int} (hf : f.length = Z.length) (i : Nat) : atI (takeK (-p.2) f p.1) i = atI f i + (if i ∈ p.1.map (fun x => x.1.toNat) then p.2 else 0) := by
  have ha := trail_isArc hp.1
  have hlen : ∀ x ∈ p.1, x.1.toNat < f.length := fun x hx => by rw [hf]; exact (List.getElem?_eq_some_iff.1 (arcOf_at (ha x hx))).1
  by_cases he : i ∈ p.1.map (fun x => x.1.toNat)
  · obtain ⟨x, hx, rfl⟩ := List.mem_map.1 he
    rw [if_pos he, takeK_at p.1 _ hlen (toNat_nodup ha (part_once hp)) x hx]
    omega
  · rw [if_neg he, takeK_other p.1 _ (fun x hx => ⟨hlen x hx, fun e => he (List.mem_map.2 ⟨x, hx, e⟩)⟩)]
    omega
theorem sumP_snoc {Z : List ArcT} {l : List Part} {p : Part} (h : Parts Z (l ++ [p])) : sumP Z.length (l ++ [p]) = takeK (-p.2) (sumP Z.length l) p.1 := by
  obtain ⟨u, v, hp⟩ := h p (by simp)
  apply ext_at
  · rw [sumP_len, takeK_len, sumP_len]
  · intro i hi
    rw [sumP_at i _ h, partAt_app, take_add_at hp (sumP_len _ _), sumP_at i _ (fun q hq => h q (by simp [hq]))]
    simp only [partAt]
    omega
theorem partAt_take {Z : List ArcT} (i : Nat) {l : List Part} (h : Parts Z l) (k : Nat) : 0 ≤ partAt i (l.take k) ∧ partAt i (l.take k) ≤ partAt i l := by
  have h1 := partAt_nonneg i (l.take k) (fun q hq => h q (List.mem_of_mem_take hq))
  have h2 := partAt_nonneg i (l.drop k) (fun q hq => h q (List.mem_of_mem_drop hq))
  have h3 := partAt_app i (l.take k) (l.drop k)
  rw [List.take_append_drop] at h3
  omega
theorem part_le {Z : List ArcT} {l : List Part} (h : Parts Z l) {p : Part} (hp : p ∈ l) {M : Int} (hM : ∀ i, partAt i l ≤ M) : 1 ≤ p.2 ∧ p.2 ≤ M := by
  obtain ⟨u, v, hpi⟩ := h p hp
  obtain ⟨x, hx⟩ := List.exists_mem_of_ne_nil _ hpi.2.1
  refine ⟨hpi.2.2.2.2.2, ?_⟩
  obtain ⟨a, c, rfl⟩ := List.append_of_mem hp
  have h1 := hM x.1.toNat
  rw [partAt_app] at h1
  have h2 := partAt_nonneg x.1.toNat a (fun q hq => h q (by simp [hq]))
  have h3 := partAt_nonneg x.1.toNat c (fun q hq => h q (by simp [hq]))
  have h4 : partAt x.1.toNat (p :: c) = p.2 + partAt x.1.toNat c := by
    simp only [partAt]
    rw [if_pos (List.mem_map.2 ⟨x, hx, rfl⟩)]
  omega
/-- While a chain's amount is laid along its arcs, no number grows too great. -/
theorem clean_bd {Z : List ArcT} {C : List Part} {M : Int} (h : Parts Z C) (hM : ∀ i, partAt i C ≤ M) {k : Nat} (hk : k < C.length) (m : Nat) (hm : m ≤ C[k].1.length) (i : Nat) (hi : i < Z.length) :
    0 ≤ atI (takeK (-C[k].2) (sumP Z.length (C.take k)) (C[k].1.take m)) i ∧ atI (takeK (-C[k].2) (sumP Z.length (C.take k)) (C[k].1.take m)) i ≤ M + M := by
  obtain ⟨u, v, hp⟩ := h _ (List.getElem_mem hk)
  have ha := trail_isArc hp.1
  have hlen : ∀ x ∈ C[k].1, x.1.toNat < (sumP Z.length (C.take k)).length := fun x hx => by rw [sumP_len]; exact (List.getElem?_eq_some_iff.1 (arcOf_at (ha x hx))).1
  have h1 := sumP_at i (C.take k) (fun q hq => h q (List.mem_of_mem_take hq))
  have h2 := partAt_take i h k
  have h3 := hM i
  have h4 := part_le h (List.getElem_mem hk) hM
  have hn := toNat_nodup ha (part_once hp)
  by_cases he : ∃ x ∈ C[k].1.take m, x.1.toNat = i
  · obtain ⟨x, hx, rfl⟩ := he
    rw [takeK_at (C[k].1.take m) _ (fun y hy => hlen y (List.mem_of_mem_take hy)) (by rw [List.map_take]; exact List.Nodup.sublist (List.take_sublist _ _) hn) x hx]
    omega
  · rw [takeK_other (C[k].1.take m) _ (fun x hx => ⟨hlen x (List.mem_of_mem_take hx), fun e => he ⟨x, hx, e⟩⟩)]
    omega
/-- What is known of a flow's chains. -/
theorem chains_facts {N i j : Nat} {Z : List ArcT} {F : List Int} (h : splitE (N : Int) Z (i : Int) (j : Int) F = 0) : Parts Z (chainsF Z N i j F) ∧ (∀ v, partAt v (chainsF Z N i j F) ≤ 1048576) ∧ F.length = Z.length ∧ Z.length ≤ 200 ∧ (chainsF Z N i j F).length ≤ 200 ∧ ∀ p ∈ chainsF Z N i j F, PartIs Z i j p := by
  have hv : valE (N : Int) Z (i : Int) (j : Int) F = 0 := by
    unfold splitE at h
    split at h
    · next h1 => exact h1
    · next h1 => exact absurd h h1
  have hk : ¬ valK (N : Int) Z (i : Int) (j : Int) F < 0 := fun hk => by unfold splitE at h; rw [if_pos hv, if_pos hk] at h; cases h
  obtain ⟨N', i', j', e1, e2, e3, hi, hj, hij, hst⟩ := st_of hv
  obtain rfl : N = N' := by omega
  obtain rfl : i = i' := by omega
  obtain rfl : j = j' := by omega
  have hck := (endsE_ok (valE_ok hv).1).1
  obtain ⟨hE1, hZ1, hC1, hzl, hN50⟩ := netD (b := true) (right_iff.1 hck)
  rw [Int.toNat_natCast] at hZ1 hN50
  have hpl : posK F F.length ≤ Z.length := by have := posK_le F F.length; rw [← hst.1.1]; exact this
  obtain ⟨i1, i2, i3, i4, i5, i6, i7⟩ := cycs_props hZ1 Z.length F hst.1 hpl
  have hg : FlowST Z N i j (restF Z N F) (valK (N : Int) Z (i : Int) (j : Int) F) := ⟨i1, fun v hv h1 h2 => by show bal Z (cycsK Z N Z.length F).2 v = 0; rw [i2]; exact hst.2.1 v hv h1 h2, by show bal Z (cycsK Z N Z.length F).2 i = _; rw [i2]; exact hst.2.2⟩
  have hpr : posK (restF Z N F) (restF Z N F).length ≤ Z.length := by have := posK_le (restF Z N F) (restF Z N F).length; rw [hg.1.1] at this ⊢; exact this
  obtain ⟨j1, j2, j3, j4, j5⟩ := chains_props hZ1 hi hj hij Z.length _ _ hg i3 (by omega) hpr
  refine ⟨fun p hp => ⟨i, j, j5 p hp⟩, fun v => ?_, hst.1.1, hzl, by have h1 := j3; have h2 : (chainsF Z N i j F).length ≤ posK (restF Z N F) (restF Z N F).length := h1; omega, j5⟩
  have h1 : atI (restF Z N F) v = partAt v (chainsF Z N i j F) := j4 v
  rw [← h1]
  by_cases hv : v < Z.length
  · have h2 := hg.1.2 v _ (List.getElem?_eq_getElem hv)
    have h3 := hC1 _ (List.getElem_mem hv)
    omega
  · unfold atI
    rw [List.getD_eq_getElem?_getD, List.getElem?_eq_none (by rw [hg.1.1]; omega)]
    decide
end Go.Proofs.Ytmflleifglefiaa
