/- Lemmas of the layers below, several texts in one. -/
import Derived.Test.YtlkbohpnlbfopaaGreatBV
import Derived.Test.YtlkbohpnlbfopaaGreatBS
import Derived.Test.YtlkbohpnlbfopaaGreatCA
import Derived.Test.YtlkbohpnlbfopaaGreatCB
namespace Go.Proofs.YtlkbohpnlbfopaaGreat
open Go.RowKit
set_option linter.unusedVariables false
def mvKd (k : Kd) (x : Int) : List MoveT := if k.1 = 0 ∧ 0 < x then [((k.2.1 : Int), (k.2.2 : Int), x)] else []
def mvsL : List Kd → List Int → List MoveT
  | [], _ => []
  | _ :: _, [] => []
  | k :: K, x :: F => mvKd k x ++ mvsL K F
theorem mvKd_len (k : Kd) (x : Int) : (mvKd k x).length ≤ 1 := by unfold mvKd; split <;> simp
theorem mvsL_len : ∀ (K : List Kd) (F : List Int), (mvsL K F).length ≤ K.length
  | [], _ => Nat.le_refl _
  | _ :: _, [] => Nat.zero_le _
  | k :: K, x :: F => by
    show (mvKd k x ++ mvsL K F).length ≤ _
    have h1 := mvKd_len k x
    have h2 := mvsL_len K F
    rw [List.length_append, List.length_cons]
    omega
theorem mvsL_mem {m : MoveT} : ∀ {K : List Kd} {F : List Int}, m ∈ mvsL K F ↔ ∃ (j : Nat) (k : Kd) (x : Int), K[j]? = some k ∧ F[j]? = some x ∧ k.1 = 0 ∧ 0 < x ∧ m = ((k.2.1 : Int), (k.2.2 : Int), x)
  | [], F => ⟨fun h => (List.not_mem_nil h).elim, fun ⟨j, k, x, h, _⟩ => by simp at h⟩
  | k :: K, [] => ⟨fun h => (List.not_mem_nil h).elim, fun ⟨j, k, x, _, h, _⟩ => by simp at h⟩
  | k :: K, x :: F => by
    show m ∈ mvKd k x ++ mvsL K F ↔ _
    rw [List.mem_append, mvsL_mem (K := K) (F := F)]
    constructor
    · rintro (h | ⟨j, k', x', h1, h2, h3⟩)
      · unfold mvKd at h
        by_cases hc : k.1 = 0 ∧ 0 < x
        · rw [if_pos hc] at h
          exact ⟨0, k, x, rfl, rfl, hc.1, hc.2, List.mem_singleton.1 h⟩
        · rw [if_neg hc] at h; exact (List.not_mem_nil h).elim
      · exact ⟨j + 1, k', x', h1, h2, h3⟩
    · rintro ⟨j, k', x', h1, h2, h3, h4, h5⟩
      cases j with
      | zero =>
        cases h1; cases h2
        refine .inl ?_
        unfold mvKd
        rw [if_pos ⟨h3, h4⟩, h5]
        exact List.mem_singleton.2 rfl
      | succ j => exact .inr ⟨j, k', x', h1, h2, h3, h4, h5⟩
def kdLt (a b : Kd) : Prop := a.1 = 0 → b.1 = 0 → a.2.2 < b.2.2 ∨ a.2.2 = b.2.2 ∧ a.2.1 < b.2.1
end Go.Proofs.YtlkbohpnlbfopaaGreat
namespace Go.Proofs.YtlkbohpnlbfopaaGreat
set_option linter.unusedVariables false
def pmvAt (F : List Int) (u : Int) (c : Int × Int) : Option MoveT := if 0 < F.getD c.2.toNat 0 then some (c.1, u, F.getD c.2.toNat 0) else none
def pmv (F : List Int) (u : Int) (C : List (Int × Int)) : List MoveT := C.filterMap (pmvAt F u)
theorem crsSorted {E : Exp} {K : List Kd} (h : K.Pairwise kdLt) (p : Int × Int) : (crossF E K p).Pairwise (fun a b => a.1 < b.1) := by
  have h1 : K.zipIdx.Pairwise (fun x y => kdLt x.1 y.1) := List.pairwise_map.1 (by rw [List.zipIdx_map_fst]; exact h)
  refine List.Pairwise.filterMap _ (fun a a' hab b hb b' hb' => ?_) h1
  obtain ⟨⟨a1, a2, a3⟩, a4⟩ := a
  obtain ⟨⟨b1, b2, b3⟩, b4⟩ := a'
  match a1, b1 with
  | 0, 0 =>
    have e1 : (if ((E.frA a2 : Nat) : Int) = p.1 ∧ ((a3 : Nat) : Int) = p.2 then some ((a2 : Int), (a4 : Int)) else none) = some b := hb
    have e2 : (if ((E.frA b2 : Nat) : Int) = p.1 ∧ ((b3 : Nat) : Int) = p.2 then some ((b2 : Int), (b4 : Int)) else none) = some b' := hb'
    split at e1
    · next c1 =>
      split at e2
      · next c2 =>
        cases e1; cases e2
        rcases hab rfl rfl with h | ⟨h1, h2⟩
        · have h : a3 < b3 := h
          omega
        · have h2 : a2 < b2 := h2
          show (a2 : Int) < (b2 : Int)
          omega
      · cases e2
    · cases e1
  | n + 1, _ => cases hb
  | 0, n + 1 => cases hb'
theorem pmv_sorted {F : List Int} {u : Int} {C : List (Int × Int)} (h : C.Pairwise (fun a b => a.1 < b.1)) : (pmv F u C).Pairwise (fun a b => a.1 < b.1) := by
  refine List.Pairwise.filterMap _ (fun a a' hab b hb b' hb' => ?_) h
  unfold pmvAt at hb hb'
  split at hb
  · split at hb'
    · cases hb; cases hb'; exact hab
    · cases hb'
  · cases hb
theorem pmv_mem {E : Exp} {K : List Kd} {F : List Int} (hl : F.length = K.length) {p : Int × Int} {m : MoveT} : m ∈ pmv F p.2 (crossF E K p) ↔ ∃ (j i u : Nat) (x : Int), K[j]? = some (Kd.mv i u) ∧ F[j]? = some x ∧ 0 < x ∧ m = ((i : Int), (u : Int), x) ∧ p = (((E.frA i : Nat) : Int), (u : Int)) := by
  unfold pmv
  rw [List.mem_filterMap]
  constructor
  · rintro ⟨c, hc, hm⟩
    obtain ⟨i, u, j, rfl, hk, rfl⟩ := cross_at hc
    have hj : j < F.length := by rw [hl]; exact (List.getElem?_eq_some_iff.1 hk).1
    have e : F.getD (j : Int).toNat 0 = F[j] := by rw [List.getD_eq_getElem?_getD, Int.toNat_natCast, List.getElem?_eq_getElem hj]; rfl
    unfold pmvAt at hm
    simp only [e] at hm
    split at hm
    · next h => cases hm; exact ⟨j, i, u, F[j], hk, List.getElem?_eq_getElem hj, h, rfl, rfl⟩
    · cases hm
  · rintro ⟨j, i, u, x, hk, hx, h0, rfl, rfl⟩
    refine ⟨((i : Int), (j : Int)), at_cross hk, ?_⟩
    have e : F.getD (j : Int).toNat 0 = x := by rw [List.getD_eq_getElem?_getD, Int.toNat_natCast, hx]; rfl
    unfold pmvAt
    simp only [e, if_pos h0]
structure GatU (E : Exp) (K : List Kd) (F : List Int) (left : Int × Int → Bool) (M : List MoveT) : Prop where
  nd : M.Nodup
  mem : ∀ m, m ∈ M ↔ ∃ (j i u : Nat) (x : Int), K[j]? = some (Kd.mv i u) ∧ F[j]? = some x ∧ 0 < x ∧ m = ((i : Int), (u : Int), x) ∧ left (((E.frA i : Nat) : Int), (u : Int)) = false
theorem GatU.start {E : Exp} {K : List Kd} {F : List Int} {left : Int × Int → Bool} (h : ∀ p, left p = false → crossF E K p = []) : GatU E K F left [] := by
  refine ⟨List.nodup_nil, fun m => ⟨fun hm => (List.not_mem_nil hm).elim, ?_⟩⟩
  rintro ⟨j, i, u, x, hk, _, _, _, hp⟩
  have := at_cross (E := E) hk
  rw [h _ hp] at this
  cases this
theorem GatU.step {E : Exp} {K : List Kd} {F : List Int} {left : Int × Int → Bool} {M : List MoveT} (h : GatU E K F left M) (hl : F.length = K.length) (hs : K.Pairwise kdLt) {p : Int × Int} (hp : left p = true) :
    GatU E K F (fun q => left q && !decide (q = p)) (M ++ pmv F p.2 (crossF E K p)) := by
  have hk : ∀ {j j' i u : Nat}, K[j]? = some (Kd.mv i u) → K[j']? = some (Kd.mv i u) → j = j' := by
    intro j j' i u h1 h2
    obtain ⟨g1, e1⟩ := List.getElem?_eq_some_iff.1 h1
    obtain ⟨g2, e2⟩ := List.getElem?_eq_some_iff.1 h2
    have hp := List.pairwise_iff_getElem.1 hs
    rcases Nat.lt_trichotomy j j' with h | h | h
    · have := hp j j' g1 g2 h
      rw [e1, e2] at this
      have := this rfl rfl
      simp only at this
      omega
    · exact h
    · have := hp j' j g2 g1 h
      rw [e1, e2] at this
      have := this rfl rfl
      simp only at this
      omega
  refine ⟨List.nodup_append.2 ⟨h.nd, (pmv_sorted (crsSorted hs p)).imp (fun {a b} hab e => by rw [e] at hab; omega), ?_⟩, fun m => ?_⟩
  · rintro a ha b hb rfl
    obtain ⟨j, i, u, x, h1, h2, h3, rfl, h5⟩ := (h.mem _).1 ha
    obtain ⟨j', i', u', x', g1, g2, g3, g4, rfl⟩ := (pmv_mem hl).1 hb
    obtain ⟨q1, q2⟩ := Prod.mk.inj g4
    obtain ⟨q2, q3⟩ := Prod.mk.inj q2
    obtain rfl : i = i' := by omega
    obtain rfl : u = u' := by omega
    rw [hp] at h5
    cases h5
  · rw [List.mem_append, h.mem, pmv_mem hl]
    constructor
    · rintro (⟨j, i, u, x, h1, h2, h3, h4, h5⟩ | ⟨j, i, u, x, h1, h2, h3, h4, h5⟩)
      · exact ⟨j, i, u, x, h1, h2, h3, h4, by simp [h5]⟩
      · exact ⟨j, i, u, x, h1, h2, h3, h4, by simp [h5]⟩
    · rintro ⟨j, i, u, x, h1, h2, h3, h4, h5⟩
      by_cases e : left (((E.frA i : Nat) : Int), (u : Int)) = false
      · exact .inl ⟨j, i, u, x, h1, h2, h3, h4, e⟩
      · refine .inr ⟨j, i, u, x, h1, h2, h3, h4, ?_⟩
        rw [Bool.and_eq_false_iff] at h5
        rcases h5 with h5 | h5
        · exact absurd h5 e
        · exact (show (((E.frA i : Nat) : Int), (u : Int)) = p by simpa using h5).symm
theorem GatU.len {E : Exp} {K : List Kd} {F : List Int} {left : Int × Int → Bool} {M : List MoveT} (h : GatU E K F left M) : M.length ≤ K.length := by
  refine Nat.le_trans (List.Nodup.length_le_of_subset (l₂ := mvsL K F) h.nd (fun m hm => ?_)) (mvsL_len K F)
  obtain ⟨j, i, u, x, h1, h2, h3, h4, _⟩ := (h.mem m).1 hm
  exact mvsL_mem.2 ⟨j, Kd.mv i u, x, h1, h2, rfl, h3, h4⟩
end Go.Proofs.YtlkbohpnlbfopaaGreat
namespace Go.Proofs.YtlkbohpnlbfopaaGreat
set_option linter.unusedVariables false
namespace Exp
variable {E : Exp}
end Exp
end Go.Proofs.YtlkbohpnlbfopaaGreat
namespace Go.Proofs.YtlkbohpnlbfopaaGreat
set_option linter.unusedVariables false
end Go.Proofs.YtlkbohpnlbfopaaGreat
namespace Go.Proofs.YtlkbohpnlbfopaaGreat
set_option linter.unusedVariables false
namespace Exp
variable {E : Exp}
theorem good_of (hW : SpanNet E.Z E.N) (hs : E.s < E.N) (ht : E.t < E.N) (hne : E.s ≠ E.t) : E.Good := ⟨hW.lt, hs, ht, hne, fun a ha => (hW.caps a ha).1⟩
end Exp
section
variable {E : Exp}
end
end Go.Proofs.YtlkbohpnlbfopaaGreat
