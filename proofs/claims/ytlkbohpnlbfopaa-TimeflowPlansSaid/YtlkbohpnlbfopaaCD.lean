/- Lemmas of the layers below, several texts in one. -/
import Derived.Test.YtlkbohpnlbfopaaBV
import Derived.Test.YtlkbohpnlbfopaaBS
import Derived.Test.YtlkbohpnlbfopaaCA
import Derived.Test.YtlkbohpnlbfopaaCB
namespace Go.Proofs.Ytlkbohpnlbfopaa
open Go.RowKit
set_option linter.unusedVariables false
def mvKd (k : Kd) (x : Int) : List MoveT := if k.1 = 0 ∧ 0 < x then [((k.2.1 : Int), (k.2.2 : Int), x)] else []
def mvsL : List Kd → List Int → List MoveT
  | [], _ => []
  | _ :: _, [] => []
  | k :: K, x :: F => mvKd k x ++ mvsL K F
theorem mvKd_len (k : Kd) (x : Int) : (mvKd k x).length ≤ 1 := by unfold mvKd; split <;> simp
theorem mvsL_len : ∀ (K : List Kd) (F : List Int), (mvsL K F).length ≤ K.length
  | [], _ => Nat.le_refl _
  | _ :: _, [] => Nat.zero_le _
  | k :: K, x :: F => by
    show (mvKd k x ++ mvsL K F).length ≤ _
    have h1 := mvKd_len k x
    have h2 := mvsL_len K F
    rw [List.length_append, List.length_cons]
    omega
theorem mvsL_mem {m : MoveT} : ∀ {K : List Kd} {F : List Int}, m ∈ mvsL K F ↔ ∃ (j : Nat) (k : Kd) (x : Int), K[j]? = some k ∧ F[j]? = some x ∧ k.1 = 0 ∧ 0 < x ∧ m = ((k.2.1 : Int), (k.2.2 : Int), x)
  | [], F => ⟨fun h => (List.not_mem_nil h).elim, fun ⟨j, k, x, h, _⟩ => by simp at h⟩
  | k :: K, [] => ⟨fun h => (List.not_mem_nil h).elim, fun ⟨j, k, x, _, h, _⟩ => by simp at h⟩
  | k :: K, x :: F => by
    show m ∈ mvKd k x ++ mvsL K F ↔ _
    rw [List.mem_append, mvsL_mem (K := K) (F := F)]
    constructor
    · rintro (h | ⟨j, k', x', h1, h2, h3⟩)
      · unfold mvKd at h
        by_cases hc : k.1 = 0 ∧ 0 < x
        · rw [if_pos hc] at h
          exact ⟨0, k, x, rfl, rfl, hc.1, hc.2, List.mem_singleton.1 h⟩
        · rw [if_neg hc] at h; exact (List.not_mem_nil h).elim
      · exact ⟨j + 1, k', x', h1, h2, h3⟩
    · rintro ⟨j, k', x', h1, h2, h3, h4, h5⟩
      cases j with
      | zero =>
        cases h1; cases h2
        refine .inl ?_
        unfold mvKd
        rw [if_pos ⟨h3, h4⟩, h5]
        exact List.mem_singleton.2 rfl
      | succ j => exact .inr ⟨j, k', x', h1, h2, h3, h4, h5⟩
def mvLt (a b : MoveT) : Prop := a.2.1 < b.2.1 ∨ a.2.1 = b.2.1 ∧ a.1 < b.1
def kdLt (a b : Kd) : Prop := a.1 = 0 → b.1 = 0 → a.2.2 < b.2.2 ∨ a.2.2 = b.2.2 ∧ a.2.1 < b.2.1
theorem mvsL_sorted : ∀ {K : List Kd} {F : List Int}, K.Pairwise kdLt → (mvsL K F).Pairwise mvLt
  | [], F, _ => List.Pairwise.nil
  | k :: K, [], _ => List.Pairwise.nil
  | k :: K, x :: F, h => by
    show (mvKd k x ++ mvsL K F).Pairwise mvLt
    obtain ⟨h1, h2⟩ := List.pairwise_cons.1 h
    refine List.pairwise_append.2 ⟨?_, mvsL_sorted h2, fun a ha b hb => ?_⟩
    · unfold mvKd; split
      · exact List.pairwise_singleton _ _
      · exact List.Pairwise.nil
    · unfold mvKd at ha
      by_cases hc : k.1 = 0 ∧ 0 < x
      · rw [if_pos hc] at ha
        obtain rfl := List.mem_singleton.1 ha
        obtain ⟨j, k', x', hk, _, h3, _, rfl⟩ := mvsL_mem.1 hb
        have := h1 k' (List.mem_of_getElem? hk) hc.1 h3
        unfold mvLt
        simp only
        omega
      · rw [if_neg hc] at ha; exact (List.not_mem_nil ha).elim
theorem mvK_mem {E : Exp} {u : Nat} {k : Kd} : ∀ {n}, k ∈ E.mvK u n → k.1 = 0 ∧ k.2.2 = u ∧ k.2.1 < n
  | 0, h => (List.not_mem_nil h).elim
  | n + 1, h => by
    rcases List.mem_append.1 (show k ∈ E.mvK u n ++ (if E.ok n u then [Kd.mv n u] else []) from h) with h | h
    · have := mvK_mem h; exact ⟨this.1, this.2.1, by omega⟩
    · by_cases hc : E.ok n u = true
      · rw [if_pos hc] at h
        obtain rfl := List.mem_singleton.1 h
        exact ⟨rfl, rfl, Nat.lt_succ_self _⟩
      · rw [if_neg hc] at h; exact (List.not_mem_nil h).elim
theorem wtK_mem {E : Exp} {u : Nat} {k : Kd} : ∀ {n}, k ∈ E.wtK u n → k.1 = 1 ∧ k.2.2 = u
  | 0, h => (List.not_mem_nil h).elim
  | n + 1, h => by
    rcases List.mem_append.1 (show k ∈ E.wtK u n ++ (if E.wok n u then [Kd.wt n u] else []) from h) with h | h
    · exact wtK_mem h
    · by_cases hc : E.wok n u = true
      · rw [if_pos hc] at h
        obtain rfl := List.mem_singleton.1 h
        exact ⟨rfl, rfl⟩
      · rw [if_neg hc] at h; exact (List.not_mem_nil h).elim
theorem mvK_sorted (E : Exp) (u : Nat) : ∀ n, (E.mvK u n).Pairwise kdLt
  | 0 => List.Pairwise.nil
  | n + 1 => by
    show (E.mvK u n ++ (if E.ok n u then [Kd.mv n u] else [])).Pairwise kdLt
    refine List.pairwise_append.2 ⟨mvK_sorted E u n, ?_, fun a ha b hb => ?_⟩
    · split
      · exact List.pairwise_singleton _ _
      · exact List.Pairwise.nil
    · by_cases hc : E.ok n u = true
      · rw [if_pos hc] at hb
        obtain rfl := List.mem_singleton.1 hb
        have := mvK_mem ha
        exact fun _ _ => .inr ⟨this.2.1, this.2.2⟩
      · rw [if_neg hc] at hb; exact (List.not_mem_nil hb).elim
theorem not_zero {a b : Kd} (h : a.1 ≠ 0 ∨ b.1 ≠ 0) : kdLt a b := fun h1 h2 => by rcases h with h | h <;> contradiction
theorem timeK_mem {E : Exp} {k : Kd} : ∀ {n}, k ∈ E.timeK n → k.2.2 < n
  | 0, h => (List.not_mem_nil h).elim
  | n + 1, h => by
    rcases List.mem_append.1 (show k ∈ E.timeK n ++ (E.mvK n E.Z.length ++ E.wtK n E.N) from h) with h | h
    · have := timeK_mem h; omega
    · rcases List.mem_append.1 h with h | h
      · have := mvK_mem h; omega
      · have := wtK_mem h; omega
theorem others_sorted {l : List Kd} (h : ∀ k ∈ l, k.1 ≠ 0) : l.Pairwise kdLt := by
  induction l with
  | nil => exact List.Pairwise.nil
  | cons a l ih => exact List.pairwise_cons.2 ⟨fun b _ => not_zero (.inl (h a (by simp))), ih (fun k hk => h k (by simp [hk]))⟩
theorem timeK_sorted (E : Exp) : ∀ n, (E.timeK n).Pairwise kdLt
  | 0 => List.Pairwise.nil
  | n + 1 => by
    show (E.timeK n ++ (E.mvK n E.Z.length ++ E.wtK n E.N)).Pairwise kdLt
    refine List.pairwise_append.2 ⟨timeK_sorted E n, List.pairwise_append.2 ⟨mvK_sorted E n _, others_sorted (fun k hk => by have := wtK_mem hk; omega), fun a _ b hb => not_zero (.inr (by have := wtK_mem hb; omega))⟩, fun a ha b hb => ?_⟩
    have h1 := timeK_mem ha
    rcases List.mem_append.1 hb with h | h
    · have h2 := mvK_mem h
      exact fun _ _ => .inl (by omega)
    · exact not_zero (.inr (by have := wtK_mem h; omega))
theorem soK_mem {k : Kd} : ∀ {n}, k ∈ Exp.soK n → k.1 = 2
  | 0, h => (List.not_mem_nil h).elim
  | n + 1, h => by
    rcases List.mem_append.1 (show k ∈ Exp.soK n ++ [Kd.so n] from h) with h | h
    · exact soK_mem h
    · obtain rfl := List.mem_singleton.1 h; rfl
theorem siK_mem {k : Kd} : ∀ {n}, k ∈ Exp.siK n → k.1 = 3
  | 0, h => (List.not_mem_nil h).elim
  | n + 1, h => by
    rcases List.mem_append.1 (show k ∈ Exp.siK n ++ [Kd.si n] from h) with h | h
    · exact siK_mem h
    · obtain rfl := List.mem_singleton.1 h; rfl
theorem kinds_sorted (E : Exp) : E.kinds.Pairwise kdLt := by
  have h0 : ∀ k ∈ Exp.soK (E.H + 1) ++ Exp.siK (E.H + 1), k.1 ≠ 0 := fun k hk => by
    rcases List.mem_append.1 hk with h | h
    · have := soK_mem h; omega
    · have := siK_mem h; omega
  exact List.pairwise_append.2 ⟨timeK_sorted E _, others_sorted h0, fun a _ b hb => not_zero (.inr (h0 b hb))⟩
theorem mvLt_sorted {D : List MoveT} (h : D.Pairwise mvLt) : Sorted kM D := by
  refine h.imp (fun {a b} hab => ?_)
  unfold mvLt at hab
  unfold ltK kM
  exact decide_eq_false (by simp only; omega)
theorem mvLt_pairs {D : List MoveT} (h : D.Pairwise mvLt) : (pairsOf D).Nodup := by
  unfold pairsOf
  rw [List.Nodup, List.pairwise_map]
  refine h.imp (fun {a b} hab e => ?_)
  unfold mvLt at hab
  obtain ⟨h1, h2⟩ := Prod.mk.inj e
  omega
theorem merged_is {M D R : List MoveT} (hp : M.Perm D) (hD : D.Pairwise mvLt) (hz : ∀ m ∈ D, m.2.2 ≠ 0) (hR : R.Perm (mvs M)) (hS : Sorted kM R) : R = D := by
  have hn : (pairsOf M).Nodup := (hp.map (fun m : MoveT => (m.2.1, m.1))).nodup_iff.2 (mvLt_pairs hD)
  have hz2 : ∀ m ∈ M, m.2.2 ≠ 0 := fun m hm => hz m (hp.mem_iff.1 hm)
  have he := (mvs_again hn hz2).1
  refine sorted_uniqueQ hS (mvLt_sorted hD) (hR.trans (by rw [he]; exact hp)) (fun x hx y hy e => ?_)
  exact mvs_inj (hR.mem_iff.1 hx) (hR.mem_iff.1 hy) e
end Go.Proofs.Ytlkbohpnlbfopaa
namespace Go.Proofs.Ytlkbohpnlbfopaa
set_option linter.unusedVariables false
theorem Exp.ok2_lt {E : Exp} {i u : Nat} (h : E.ok i u = true) : i < E.Z.length ∧ u ≤ E.H := by
  obtain ⟨a, ha, h1, _⟩ := E.ok_arc h
  exact ⟨(List.getElem?_eq_some_iff.1 ha).1, by omega⟩
def pmvAt (F : List Int) (u : Int) (c : Int × Int) : Option MoveT := if 0 < F.getD c.2.toNat 0 then some (c.1, u, F.getD c.2.toNat 0) else none
def pmv (F : List Int) (u : Int) (C : List (Int × Int)) : List MoveT := C.filterMap (pmvAt F u)
theorem pmv_snoc {F : List Int} {u : Int} {C : List (Int × Int)} {i : Nat} {c : Int × Int} {x : Int} (hc : C[i]? = some c) (hx : F[c.2.toNat]? = some x) : pmv F u (C.take (i + 1)) = pmv F u (C.take i) ++ if 0 < x then [(c.1, u, x)] else [] := by
  obtain ⟨h1, rfl⟩ := List.getElem?_eq_some_iff.1 hc
  unfold pmv
  rw [List.take_succ_eq_append_getElem h1, List.filterMap_append]
  congr 1
  have e : F.getD (C[i]).2.toNat 0 = x := by rw [List.getD_eq_getElem?_getD, hx]; rfl
  have e2 : pmvAt F u C[i] = if 0 < x then some ((C[i]).1, u, x) else none := by unfold pmvAt; rw [e]
  by_cases h : 0 < x
  · rw [if_pos h] at e2 ⊢; simp [List.filterMap, e2]
  · rw [if_neg h] at e2 ⊢; simp [List.filterMap, e2]
theorem pmv_len (F : List Int) (u : Int) (C : List (Int × Int)) : (pmv F u C).length ≤ C.length := List.length_filterMap_le _ _
theorem crsSorted {E : Exp} {K : List Kd} (h : K.Pairwise kdLt) (p : Int × Int) : (crossF E K p).Pairwise (fun a b => a.1 < b.1) := by
  have h1 : K.zipIdx.Pairwise (fun x y => kdLt x.1 y.1) := List.pairwise_map.1 (by rw [List.zipIdx_map_fst]; exact h)
  refine List.Pairwise.filterMap _ (fun a a' hab b hb b' hb' => ?_) h1
  obtain ⟨⟨a1, a2, a3⟩, a4⟩ := a
  obtain ⟨⟨b1, b2, b3⟩, b4⟩ := a'
  match a1, b1 with
  | 0, 0 =>
    have e1 : (if ((E.frA a2 : Nat) : Int) = p.1 ∧ ((a3 : Nat) : Int) = p.2 then some ((a2 : Int), (a4 : Int)) else none) = some b := hb
    have e2 : (if ((E.frA b2 : Nat) : Int) = p.1 ∧ ((b3 : Nat) : Int) = p.2 then some ((b2 : Int), (b4 : Int)) else none) = some b' := hb'
    split at e1
    · next c1 =>
      split at e2
      · next c2 =>
        cases e1; cases e2
        rcases hab rfl rfl with h | ⟨h1, h2⟩
        · have h : a3 < b3 := h
          omega
        · have h2 : a2 < b2 := h2
          show (a2 : Int) < (b2 : Int)
          omega
      · cases e2
    · cases e1
  | n + 1, _ => cases hb
  | 0, n + 1 => cases hb'
theorem pmv_sorted {F : List Int} {u : Int} {C : List (Int × Int)} (h : C.Pairwise (fun a b => a.1 < b.1)) : (pmv F u C).Pairwise (fun a b => a.1 < b.1) := by
  refine List.Pairwise.filterMap _ (fun a a' hab b hb b' hb' => ?_) h
  unfold pmvAt at hb hb'
  split at hb
  · split at hb'
    · cases hb; cases hb'; exact hab
    · cases hb'
  · cases hb
theorem pmv_mem {E : Exp} {K : List Kd} {F : List Int} (hl : F.length = K.length) {p : Int × Int} {m : MoveT} : m ∈ pmv F p.2 (crossF E K p) ↔ ∃ (j i u : Nat) (x : Int), K[j]? = some (Kd.mv i u) ∧ F[j]? = some x ∧ 0 < x ∧ m = ((i : Int), (u : Int), x) ∧ p = (((E.frA i : Nat) : Int), (u : Int)) := by
  unfold pmv
  rw [List.mem_filterMap]
  constructor
  · rintro ⟨c, hc, hm⟩
    obtain ⟨i, u, j, rfl, hk, rfl⟩ := cross_at hc
    have hj : j < F.length := by rw [hl]; exact (List.getElem?_eq_some_iff.1 hk).1
    have e : F.getD (j : Int).toNat 0 = F[j] := by rw [List.getD_eq_getElem?_getD, Int.toNat_natCast, List.getElem?_eq_getElem hj]; rfl
    unfold pmvAt at hm
    simp only [e] at hm
    split at hm
    · next h => cases hm; exact ⟨j, i, u, F[j], hk, List.getElem?_eq_getElem hj, h, rfl, rfl⟩
    · cases hm
  · rintro ⟨j, i, u, x, hk, hx, h0, rfl, rfl⟩
    refine ⟨((i : Int), (j : Int)), at_cross hk, ?_⟩
    have e : F.getD (j : Int).toNat 0 = x := by rw [List.getD_eq_getElem?_getD, Int.toNat_natCast, hx]; rfl
    unfold pmvAt
    simp only [e, if_pos h0]
structure GatU (E : Exp) (K : List Kd) (F : List Int) (left : Int × Int → Bool) (M : List MoveT) : Prop where
  nd : M.Nodup
  mem : ∀ m, m ∈ M ↔ ∃ (j i u : Nat) (x : Int), K[j]? = some (Kd.mv i u) ∧ F[j]? = some x ∧ 0 < x ∧ m = ((i : Int), (u : Int), x) ∧ left (((E.frA i : Nat) : Int), (u : Int)) = false
theorem GatU.start {E : Exp} {K : List Kd} {F : List Int} {left : Int × Int → Bool} (h : ∀ p, left p = false → crossF E K p = []) : GatU E K F left [] := by
  refine ⟨List.nodup_nil, fun m => ⟨fun hm => (List.not_mem_nil hm).elim, ?_⟩⟩
  rintro ⟨j, i, u, x, hk, _, _, _, hp⟩
  have := at_cross (E := E) hk
  rw [h _ hp] at this
  cases this
theorem GatU.step {E : Exp} {K : List Kd} {F : List Int} {left : Int × Int → Bool} {M : List MoveT} (h : GatU E K F left M) (hl : F.length = K.length) (hs : K.Pairwise kdLt) {p : Int × Int} (hp : left p = true) :
    GatU E K F (fun q => left q && !decide (q = p)) (M ++ pmv F p.2 (crossF E K p)) := by
  have hk : ∀ {j j' i u : Nat}, K[j]? = some (Kd.mv i u) → K[j']? = some (Kd.mv i u) → j = j' := by
    intro j j' i u h1 h2
    obtain ⟨g1, e1⟩ := List.getElem?_eq_some_iff.1 h1
    obtain ⟨g2, e2⟩ := List.getElem?_eq_some_iff.1 h2
    have hp := List.pairwise_iff_getElem.1 hs
    rcases Nat.lt_trichotomy j j' with h | h | h
    · have := hp j j' g1 g2 h
      rw [e1, e2] at this
      have := this rfl rfl
      simp only at this
      omega
    · exact h
    · have := hp j' j g2 g1 h
      rw [e1, e2] at this
      have := this rfl rfl
      simp only at this
      omega
  refine ⟨List.nodup_append.2 ⟨h.nd, (pmv_sorted (crsSorted hs p)).imp (fun {a b} hab e => by rw [e] at hab; omega), ?_⟩, fun m => ?_⟩
  · rintro a ha b hb rfl
    obtain ⟨j, i, u, x, h1, h2, h3, rfl, h5⟩ := (h.mem _).1 ha
    obtain ⟨j', i', u', x', g1, g2, g3, g4, rfl⟩ := (pmv_mem hl).1 hb
    obtain ⟨q1, q2⟩ := Prod.mk.inj g4
    obtain ⟨q2, q3⟩ := Prod.mk.inj q2
    obtain rfl : i = i' := by omega
    obtain rfl : u = u' := by omega
    rw [hp] at h5
    cases h5
  · rw [List.mem_append, h.mem, pmv_mem hl]
    constructor
    · rintro (⟨j, i, u, x, h1, h2, h3, h4, h5⟩ | ⟨j, i, u, x, h1, h2, h3, h4, h5⟩)
      · exact ⟨j, i, u, x, h1, h2, h3, h4, by simp [h5]⟩
      · exact ⟨j, i, u, x, h1, h2, h3, h4, by simp [h5]⟩
    · rintro ⟨j, i, u, x, h1, h2, h3, h4, h5⟩
      by_cases e : left (((E.frA i : Nat) : Int), (u : Int)) = false
      · exact .inl ⟨j, i, u, x, h1, h2, h3, h4, e⟩
      · refine .inr ⟨j, i, u, x, h1, h2, h3, h4, ?_⟩
        rw [Bool.and_eq_false_iff] at h5
        rcases h5 with h5 | h5
        · exact absurd h5 e
        · exact (show (((E.frA i : Nat) : Int), (u : Int)) = p by simpa using h5).symm
theorem GatU.perm {E : Exp} {K : List Kd} {F : List Int} {left : Int × Int → Bool} {M : List MoveT} (h : GatU E K F left M) (hs : K.Pairwise kdLt) (h0 : ∀ (j i u : Nat), K[j]? = some (Kd.mv i u) → left (((E.frA i : Nat) : Int), (u : Int)) = false) : M.Perm (mvsL K F) := by
  refine (List.perm_ext_iff_of_nodup h.nd ((mvsL_sorted hs).imp (fun {a b} hab e => ?_))).2 (fun m => ?_)
  · subst e; unfold mvLt at hab; omega
  · rw [h.mem, mvsL_mem]
    constructor
    · rintro ⟨j, i, u, x, h1, h2, h3, h4, h5⟩
      exact ⟨j, Kd.mv i u, x, h1, h2, rfl, h3, h4⟩
    · rintro ⟨j, ⟨a, i, u⟩, x, h1, h2, h3, h4, h5⟩
      have h3 : a = 0 := h3
      subst h3
      exact ⟨j, i, u, x, h1, h2, h4, h5, h0 j i u h1⟩
theorem GatU.len {E : Exp} {K : List Kd} {F : List Int} {left : Int × Int → Bool} {M : List MoveT} (h : GatU E K F left M) : M.length ≤ K.length := by
  refine Nat.le_trans (List.Nodup.length_le_of_subset (l₂ := mvsL K F) h.nd (fun m hm => ?_)) (mvsL_len K F)
  obtain ⟨j, i, u, x, h1, h2, h3, h4, _⟩ := (h.mem m).1 hm
  exact mvsL_mem.2 ⟨j, Kd.mv i u, x, h1, h2, rfl, h3, h4⟩
end Go.Proofs.Ytlkbohpnlbfopaa
namespace Go.Proofs.Ytlkbohpnlbfopaa
set_option linter.unusedVariables false
def amtK (M : List MoveT) : Kd → Int
  | (0, i, u) => nOf M ((u : Int), (i : Int))
  | _ => 0
namespace Exp
variable {E : Exp}
theorem dep_add (x y : Kd → Int) (v a : Nat) : E.dep (fun k => x k + y k) v a = E.dep x v a + E.dep y v a := by
  unfold dep
  rw [← sumTo_add]
  refine sumTo_congr (fun i _ => ?_)
  dsimp only
  split
  · split <;> omega
  · rfl
theorem arr_add (x y : Kd → Int) (v a : Nat) : E.arr (fun k => x k + y k) v a = E.arr x v a + E.arr y v a := by
  unfold arr
  rw [← sumTo_add]
  refine sumTo_congr (fun u _ => ?_)
  rw [← sumTo_add]
  refine sumTo_congr (fun i _ => ?_)
  dsimp only
  split
  · split <;> omega
  · rfl
theorem stock_add (x y : Kd → Int) (v a : Nat) : E.stock (fun k => x k + y k) v a = E.stock x v a + E.stock y v a := by
  unfold stock
  rw [← sumTo_add]
  refine sumTo_congr (fun u _ => ?_)
  rw [dep_add, arr_add]
  omega
theorem dep_congr {x y : Kd → Int} (h : ∀ i u, E.ok i u = true → x (Kd.mv i u) = y (Kd.mv i u)) (v a : Nat) : E.dep x v a = E.dep y v a := by
  unfold dep
  refine sumTo_congr (fun i _ => ?_)
  by_cases hk : E.ok i a = true
  · rw [if_pos hk, if_pos hk, h i a hk]
  · rw [if_neg hk, if_neg hk]
theorem arr_congr {x y : Kd → Int} (h : ∀ i u, E.ok i u = true → x (Kd.mv i u) = y (Kd.mv i u)) (v a : Nat) : E.arr x v a = E.arr y v a := by
  unfold arr
  refine sumTo_congr (fun u _ => sumTo_congr (fun i _ => ?_))
  by_cases hk : E.ok i u = true
  · rw [if_pos hk, if_pos hk, h i u hk]
  · rw [if_neg hk, if_neg hk]
theorem stock_congr {x y : Kd → Int} (h : ∀ i u, E.ok i u = true → x (Kd.mv i u) = y (Kd.mv i u)) (v a : Nat) : E.stock x v a = E.stock y v a := by
  unfold stock
  exact sumTo_congr (fun u _ => by rw [dep_congr h, arr_congr h])
theorem stock_zero {x : Kd → Int} (h : ∀ i u, x (Kd.mv i u) = 0) (v a : Nat) : E.stock x v a = 0 := by
  unfold stock
  refine (sumTo_congr (h := fun _ => 0) (fun u _ => ?_)).trans (sumTo_zero _)
  have h1 : E.dep x v u = 0 := by
    unfold dep
    refine (sumTo_congr (h := fun _ => 0) (fun i _ => ?_)).trans (sumTo_zero _)
    rw [h]; split
    · split <;> rfl
    · rfl
  have h2 : E.arr x v u = 0 := by
    unfold arr
    refine (sumTo_congr (h := fun _ => 0) (fun u _ => ?_)).trans (sumTo_zero _)
    refine (sumTo_congr (h := fun _ => 0) (fun i _ => ?_)).trans (sumTo_zero _)
    rw [h]; split
    · split <;> rfl
    · rfl
  rw [h1, h2]; rfl
theorem dep_one {x : Kd → Int} {i0 u0 : Nat} {c : Int} (ho : E.ok i0 u0 = true) (h : ∀ i u, x (Kd.mv i u) = if i = i0 ∧ u = u0 then c else 0) (v a : Nat) : E.dep x v a = if a = u0 then (if E.frA i0 = v then c else 0) else 0 := by
  unfold dep
  have e : ∀ i, (if E.ok i a then (if E.frA i = v then x (Kd.mv i a) else 0) else 0) = if i = i0 then (if a = u0 then (if E.frA i0 = v then c else 0) else 0) else 0 := by
    intro i
    rw [h]
    by_cases hi : i = i0
    · subst hi
      by_cases ha : a = u0
      · subst ha
        simp [ho]
      · simp [ha]
    · simp [hi]
  rw [sumTo_congr (fun i _ => e i), sumTo_pick (g := fun _ => (if a = u0 then (if E.frA i0 = v then c else 0) else 0)), if_pos (ok2_lt ho).1]
theorem arr_one {x : Kd → Int} {i0 u0 : Nat} {c : Int} (ho : E.ok i0 u0 = true) (h : ∀ i u, x (Kd.mv i u) = if i = i0 ∧ u = u0 then c else 0) (v a : Nat) : E.arr x v a = if a = u0 + E.tmA i0 then (if E.toA i0 = v then c else 0) else 0 := by
  unfold arr
  have e : ∀ u i, (if E.ok i u then (if E.toA i = v ∧ u + E.tmA i = a then x (Kd.mv i u) else 0) else 0) = if i = i0 then (if u = u0 then (if a = u0 + E.tmA i0 then (if E.toA i0 = v then c else 0) else 0) else 0) else 0 := by
    intro u i
    rw [h]
    by_cases hi : i = i0
    · subst hi
      by_cases hu : u = u0
      · subst hu
        by_cases h1 : E.toA i = v
        · by_cases h2 : u + E.tmA i = a
          · simp [ho, h1, h2]
          · have : ¬ a = u + E.tmA i := fun e => h2 e.symm
            simp [ho, h1, h2, this]
        · simp [h1]
      · simp [hu]
    · simp [hi]
  have e2 : ∀ u, sumTo (fun i => if E.ok i u then (if E.toA i = v ∧ u + E.tmA i = a then x (Kd.mv i u) else 0) else 0) E.Z.length = if u = u0 then (if a = u0 + E.tmA i0 then (if E.toA i0 = v then c else 0) else 0) else 0 := by
    intro u
    rw [sumTo_congr (fun i _ => e u i), sumTo_pick (g := fun _ => (if u = u0 then (if a = u0 + E.tmA i0 then (if E.toA i0 = v then c else 0) else 0) else 0)), if_pos (ok2_lt ho).1]
  rw [sumTo_congr (fun u _ => e2 u), sumTo_pick (g := fun _ => (if a = u0 + E.tmA i0 then (if E.toA i0 = v then c else 0) else 0)), if_pos (by have := (ok2_lt ho).2; omega)]
theorem stock_one {x : Kd → Int} {i0 u0 : Nat} {c : Int} (ho : E.ok i0 u0 = true) (h : ∀ i u, x (Kd.mv i u) = if i = i0 ∧ u = u0 then c else 0) (v a : Nat) : E.stock x v a = (if E.toA i0 = v ∧ u0 + E.tmA i0 ≤ a then c else 0) - (if E.frA i0 = v ∧ u0 ≤ a then c else 0) := by
  unfold stock
  have e : ∀ u, E.arr x v u - E.dep x v u = (if u = u0 + E.tmA i0 then (if E.toA i0 = v then c else 0) else 0) - (if u = u0 then (if E.frA i0 = v then c else 0) else 0) := fun u => by rw [arr_one ho h, dep_one ho h]
  rw [sumTo_congr (fun u _ => e u), sumTo_sub, sumTo_pick (g := fun _ => (if E.toA i0 = v then c else 0)), sumTo_pick (g := fun _ => (if E.frA i0 = v then c else 0))]
  have q1 : u0 + E.tmA i0 < a + 1 ↔ u0 + E.tmA i0 ≤ a := Nat.lt_succ_iff
  have q2 : u0 < a + 1 ↔ u0 ≤ a := Nat.lt_succ_iff
  simp only [q1, q2]
  congr 1
  · by_cases h1 : E.toA i0 = v <;> by_cases h2 : u0 + E.tmA i0 ≤ a <;> simp [h1, h2]
  · by_cases h1 : E.frA i0 = v <;> by_cases h2 : u0 ≤ a <;> simp [h1, h2]
end Exp
def MvIn (E : Exp) (m : MoveT) : Prop := ∃ i u : Nat, m.1 = (i : Int) ∧ m.2.1 = (u : Int) ∧ E.ok i u = true
theorem arc_parts {E : Exp} {i : Nat} (hW : SpanNet E.Z E.N) (hi : i < E.Z.length) : (arcI E.Z (i : Int)).1 = (E.frA i : Int) ∧ (arcI E.Z (i : Int)).2.1 = (E.toA i : Int) ∧ (arcI E.Z (i : Int)).2.2.2 = (E.tmA i : Int) := by
  have he := hW.ends _ (List.getElem_mem hi)
  have ht := hW.times _ (List.getElem_mem hi)
  rw [arcI_at hi]
  unfold Exp.frA Exp.toA Exp.tmA
  simp only [List.getElem?_eq_getElem hi]
  unfold frN toN tmN tm at *
  omega
theorem stk_exp {E : Exp} (hW : SpanNet E.Z E.N) (v a : Nat) : ∀ {M : List MoveT}, (∀ m ∈ M, MvIn E m) → stk E.Z M (v : Int) (a : Int) = E.stock (amtK M) v a
  | [], _ => by
    rw [Exp.stock_zero (fun i u => rfl)]; rfl
  | m :: M, h => by
    obtain ⟨i, u, h1, h2, ho⟩ := h m List.mem_cons_self
    obtain ⟨x, y, c⟩ := m
    simp only at h1 h2
    subst h1; subst h2
    have hi := (Exp.ok2_lt ho).1
    obtain ⟨p1, p2, p3⟩ := arc_parts hW hi
    have e : ∀ k : Kd, amtK ((((i : Int), (u : Int), c) : MoveT) :: M) k = (fun k => amtK [((i : Int), (u : Int), c)] k + amtK M k) k := by
      rintro ⟨q, i', u'⟩
      match q with
      | 0 =>
        show nOf _ _ = nOf _ _ + nOf _ _
        rw [nOf_cons, nOf_cons (L := [])]
        show _ = (_ + 0) + _
        omega
      | n + 1 => rfl
    rw [stk_cons, stk_exp hW v a (fun m hm => h m (List.mem_cons_of_mem _ hm)), show amtK ((((i : Int), (u : Int), c) : MoveT) :: M) = (fun k => amtK [((i : Int), (u : Int), c)] k + amtK M k) from funext e, Exp.stock_add,
      Exp.stock_one (x := amtK [(((i : Int), (u : Int), c) : MoveT)]) (i0 := i) (u0 := u) (c := c) ho (fun i' u' => ?_)]
    · congr 1
      show c * wgt E.Z (v : Int) (a : Int) ((u : Int), (i : Int)) = _
      unfold wgt
      simp only [p1, p2, p3]
      have q1 : ((E.toA i : Int) = (v : Int) ∧ (u : Int) + (E.tmA i : Int) ≤ (a : Int)) ↔ (E.toA i = v ∧ u + E.tmA i ≤ a) := by omega
      have q2 : ((E.frA i : Int) = (v : Int) ∧ (u : Int) ≤ (a : Int)) ↔ (E.frA i = v ∧ u ≤ a) := by omega
      simp only [q1, q2]
      split <;> split <;> omega
    · show nOf [((i : Int), (u : Int), c)] ((u' : Int), (i' : Int)) = _
      rw [nOf_cons]
      show (if ((u : Int), (i : Int)) = ((u' : Int), (i' : Int)) then c else 0) + 0 = _
      by_cases e : i' = i ∧ u' = u
      · obtain ⟨rfl, rfl⟩ := e
        rw [if_pos rfl, if_pos ⟨rfl, rfl⟩]; omega
      · rw [if_neg e, if_neg]
        · rfl
        · intro e2
          obtain ⟨e3, e4⟩ := Prod.mk.inj e2
          exact e ⟨by omega, by omega⟩
theorem mv_in {E : Exp} (hW : SpanNet E.Z E.N) {m : MoveT} (h : okM E.Z (E.s : Int) (E.t : Int) (E.H : Int) m = true) : MvIn E m := by
  obtain ⟨h1, h2, h3, h4, h5, h6, h7, h8⟩ := okM_yes.1 h
  obtain ⟨i, hi⟩ : ∃ i : Nat, m.1 = (i : Int) := ⟨m.1.toNat, by omega⟩
  obtain ⟨u, hu⟩ : ∃ u : Nat, m.2.1 = (u : Int) := ⟨m.2.1.toNat, by omega⟩
  have hil : i < E.Z.length := by omega
  have he := hW.ends _ (List.getElem_mem hil)
  have ht := hW.times _ (List.getElem_mem hil)
  refine ⟨i, u, hi, hu, ?_⟩
  rw [hi, arcI_at hil] at h4 h7 h8
  unfold Exp.ok
  simp only [List.getElem?_eq_getElem hil, Bool.and_eq_true, decide_eq_true_eq]
  unfold tmN tm toN frN at *
  omega
end Go.Proofs.Ytlkbohpnlbfopaa
namespace Go.Proofs.Ytlkbohpnlbfopaa
set_option linter.unusedVariables false
theorem wtK_mem2 {E : Exp} {u : Nat} {k : Kd} : ∀ {n}, k ∈ E.wtK u n → k.1 = 1 ∧ k.2.2 = u ∧ k.2.1 < n
  | 0, h => (List.not_mem_nil h).elim
  | n + 1, h => by
    rcases List.mem_append.1 (show k ∈ E.wtK u n ++ (if E.wok n u then [Kd.wt n u] else []) from h) with h | h
    · have := wtK_mem2 h; exact ⟨this.1, this.2.1, by omega⟩
    · by_cases hc : E.wok n u = true
      · rw [if_pos hc] at h
        obtain rfl := List.mem_singleton.1 h
        exact ⟨rfl, rfl, Nat.lt_succ_self _⟩
      · rw [if_neg hc] at h; exact (List.not_mem_nil h).elim
theorem mvK_nodup (E : Exp) (u : Nat) : ∀ n, (E.mvK u n).Nodup
  | 0 => List.nodup_nil
  | n + 1 => by
    show (E.mvK u n ++ (if E.ok n u then [Kd.mv n u] else [])).Nodup
    refine List.nodup_append.2 ⟨mvK_nodup E u n, (by split <;> simp), ?_⟩
    rintro a ha b hb rfl
    have h1 := mvK_mem ha
    split at hb
    · obtain rfl := List.mem_singleton.1 hb; exact absurd h1.2.2 (Nat.lt_irrefl _)
    · exact List.not_mem_nil hb
theorem wtK_nodup (E : Exp) (u : Nat) : ∀ n, (E.wtK u n).Nodup
  | 0 => List.nodup_nil
  | n + 1 => by
    show (E.wtK u n ++ (if E.wok n u then [Kd.wt n u] else [])).Nodup
    refine List.nodup_append.2 ⟨wtK_nodup E u n, (by split <;> simp), ?_⟩
    rintro a ha b hb rfl
    have h1 := wtK_mem2 ha
    split at hb
    · obtain rfl := List.mem_singleton.1 hb; exact absurd h1.2.2 (Nat.lt_irrefl _)
    · exact List.not_mem_nil hb
theorem timeK_mem2 {E : Exp} {k : Kd} : ∀ {n}, k ∈ E.timeK n → k.2.2 < n ∧ k.1 ≤ 1
  | 0, h => (List.not_mem_nil h).elim
  | n + 1, h => by
    rcases List.mem_append.1 (show k ∈ E.timeK n ++ (E.mvK n E.Z.length ++ E.wtK n E.N) from h) with h | h
    · have := timeK_mem2 h; omega
    · rcases List.mem_append.1 h with h | h
      · have := mvK_mem h; omega
      · have := wtK_mem h; omega
theorem timeK_nodup (E : Exp) : ∀ n, (E.timeK n).Nodup
  | 0 => List.nodup_nil
  | n + 1 => by
    show (E.timeK n ++ (E.mvK n E.Z.length ++ E.wtK n E.N)).Nodup
    refine List.nodup_append.2 ⟨timeK_nodup E n, List.nodup_append.2 ⟨mvK_nodup E n _, wtK_nodup E n _, ?_⟩, ?_⟩
    · rintro a ha b hb rfl
      have h1 := mvK_mem ha
      have h2 := wtK_mem hb
      omega
    · rintro a ha b hb rfl
      have h1 := timeK_mem2 ha
      rcases List.mem_append.1 hb with h | h
      · have := mvK_mem h; omega
      · have := wtK_mem h; omega
theorem soK_mem2 {k : Kd} : ∀ {n}, k ∈ Exp.soK n → ∃ u, u < n ∧ k = Kd.so u
  | 0, h => (List.not_mem_nil h).elim
  | n + 1, h => by
    rcases List.mem_append.1 (show k ∈ Exp.soK n ++ [Kd.so n] from h) with h | h
    · obtain ⟨u, h1, h2⟩ := soK_mem2 h; exact ⟨u, by omega, h2⟩
    · exact ⟨n, Nat.lt_succ_self _, List.mem_singleton.1 h⟩
theorem siK_mem2 {k : Kd} : ∀ {n}, k ∈ Exp.siK n → ∃ u, u < n ∧ k = Kd.si u
  | 0, h => (List.not_mem_nil h).elim
  | n + 1, h => by
    rcases List.mem_append.1 (show k ∈ Exp.siK n ++ [Kd.si n] from h) with h | h
    · obtain ⟨u, h1, h2⟩ := siK_mem2 h; exact ⟨u, by omega, h2⟩
    · exact ⟨n, Nat.lt_succ_self _, List.mem_singleton.1 h⟩
theorem soK_nodup : ∀ n, (Exp.soK n).Nodup
  | 0 => List.nodup_nil
  | n + 1 => by
    show (Exp.soK n ++ [Kd.so n]).Nodup
    refine List.nodup_append.2 ⟨soK_nodup n, (by simp), ?_⟩
    rintro a ha b hb rfl
    obtain ⟨u, h1, rfl⟩ := soK_mem2 ha
    have := List.mem_singleton.1 hb
    have h2 : u = n := congrArg (fun k : Kd => k.2.2) this
    omega
theorem siK_nodup : ∀ n, (Exp.siK n).Nodup
  | 0 => List.nodup_nil
  | n + 1 => by
    show (Exp.siK n ++ [Kd.si n]).Nodup
    refine List.nodup_append.2 ⟨siK_nodup n, (by simp), ?_⟩
    rintro a ha b hb rfl
    obtain ⟨u, h1, rfl⟩ := siK_mem2 ha
    have := List.mem_singleton.1 hb
    have h2 : u = n := congrArg (fun k : Kd => k.2.2) this
    omega
theorem kinds_nodup (E : Exp) : E.kinds.Nodup := by
  unfold Exp.kinds
  refine List.nodup_append.2 ⟨timeK_nodup E _, List.nodup_append.2 ⟨soK_nodup _, siK_nodup _, ?_⟩, ?_⟩
  · rintro a ha b hb rfl
    have h1 := soK_mem ha
    have h2 := siK_mem hb
    omega
  · rintro a ha b hb rfl
    have h1 := timeK_mem2 ha
    rcases List.mem_append.1 hb with h | h
    · have := soK_mem h; omega
    · have := siK_mem h; omega
end Go.Proofs.Ytlkbohpnlbfopaa
namespace Go.Proofs.Ytlkbohpnlbfopaa
set_option linter.unusedVariables false
theorem map_exists : ∀ (K : List Kd) (F : List Int), K.Nodup → F.length = K.length → ∃ x : Kd → Int, K.map x = F
  | [], [], _, _ => ⟨fun _ => 0, rfl⟩
  | [], f :: F, _, h => by simp at h
  | k :: K, [], _, h => by simp at h
  | k :: K, f :: F, hn, h => by
    obtain ⟨h1, h2⟩ := List.nodup_cons.1 hn
    obtain ⟨x, hx⟩ := map_exists K F h2 (by simpa using h)
    refine ⟨fun q => if q = k then f else x q, ?_⟩
    rw [List.map_cons, if_pos rfl]
    congr 1
    rw [← hx]
    exact List.map_congr_left (fun q hq => if_neg (fun e : q = k => h1 (e ▸ hq)))
namespace Exp
variable {E : Exp}
theorem mem_mvK {i u : Nat} (h : E.ok i u = true) : ∀ {n}, i < n → Kd.mv i u ∈ E.mvK u n
  | 0, h1 => by omega
  | n + 1, h1 => by
    refine List.mem_append.2 ?_
    by_cases e : i = n
    · subst e; right; rw [if_pos h]; exact List.mem_singleton.2 rfl
    · left; exact mem_mvK h (by omega)
theorem mem_wtK {v u : Nat} (h : E.wok v u = true) : ∀ {n}, v < n → Kd.wt v u ∈ E.wtK u n
  | 0, h1 => by omega
  | n + 1, h1 => by
    refine List.mem_append.2 ?_
    by_cases e : v = n
    · subst e; right; rw [if_pos h]; exact List.mem_singleton.2 rfl
    · left; exact mem_wtK h (by omega)
theorem mem_timeK {u : Nat} {k : Kd} (h : k ∈ E.mvK u E.Z.length ++ E.wtK u E.N) : ∀ {n}, u < n → k ∈ E.timeK n
  | 0, h1 => by omega
  | n + 1, h1 => by
    refine List.mem_append.2 ?_
    by_cases e : u = n
    · subst e; right; exact h
    · left; exact mem_timeK h (by omega)
theorem mem_mv {i u : Nat} (h : E.ok i u = true) : Kd.mv i u ∈ E.kinds :=
  List.mem_append.2 (.inl (mem_timeK (List.mem_append.2 (.inl (mem_mvK h (ok2_lt h).1))) (by have := (ok2_lt h).2; omega)))
theorem mem_wt {v u : Nat} (hv : v < E.N) (h : E.wok v u = true) : Kd.wt v u ∈ E.kinds :=
  List.mem_append.2 (.inl (mem_timeK (List.mem_append.2 (.inr (mem_wtK h hv))) (by have := (E.wok_is.1 h).2.1; omega)))
theorem good_of (hW : SpanNet E.Z E.N) (hs : E.s < E.N) (ht : E.t < E.N) (hne : E.s ≠ E.t) : E.Good := ⟨hW.lt, hs, ht, hne, fun a ha => (hW.caps a ha).1⟩
end Exp
theorem flow_at {E : Exp} {x : Kd → Int} (h : Flow E.net (E.kinds.map x)) {k : Kd} (hk : k ∈ E.kinds) : 0 ≤ x k ∧ x k ≤ capN (E.arcKd k) := by
  obtain ⟨j, hj⟩ := List.mem_iff_getElem?.1 hk
  have h1 := h.2 j (E.arcKd k) (by unfold Exp.net; rw [List.getElem?_map, hj]; rfl)
  have e : atI (E.kinds.map x) j = x k := by unfold atI; rw [List.getD_eq_getElem?_getD, List.getElem?_map, hj]; rfl
  rw [e] at h1
  exact h1
theorem okM_of {E : Exp} (hW : SpanNet E.Z E.N) {i u : Nat} {y : Int} (h : E.ok i u = true) (h0 : 0 ≤ y) (h1 : ∀ a, E.Z[i]? = some a → y ≤ capN a) : okM E.Z (E.s : Int) (E.t : Int) (E.H : Int) ((i : Int), (u : Int), y) = true := by
  obtain ⟨a, ha, g1, g2, g3⟩ := E.ok_arc h
  obtain ⟨hi, rfl⟩ := List.getElem?_eq_some_iff.1 ha
  have he := hW.ends _ (List.getElem_mem hi)
  have ht := hW.times _ (List.getElem_mem hi)
  have hc := h1 _ ha
  refine okM_yes.2 ?_
  simp only
  rw [arcI_at hi]
  unfold tmN tm toN frN capN at *
  omega
section
variable {E : Exp}
theorem flow_amt {x : Kd → Int} (h : Flow E.net (E.kinds.map x)) {i u : Nat} (ho : E.ok i u = true) : nOf (mvsL E.kinds (E.kinds.map x)) ((u : Int), (i : Int)) = x (Kd.mv i u) := by
  have hs := mvsL_sorted (F := E.kinds.map x) (kinds_sorted E)
  have hn := mvLt_pairs hs
  have hz : ∀ m ∈ mvsL E.kinds (E.kinds.map x), m.2.2 ≠ 0 := fun m hm => by
    obtain ⟨_, _, y, _, _, _, h4, rfl⟩ := mvsL_mem.1 hm
    simp only; omega
  have hm := (mvs_again hn hz).1
  have hmem : ∀ m, m ∈ mvsL E.kinds (E.kinds.map x) → m.2.2 = nOf (mvsL E.kinds (E.kinds.map x)) (m.2.1, m.1) := fun m hm2 => by
    rw [nOf, filter_one_of (f := fun m : MoveT => (m.2.1, m.1)) hm2 hn]; simp
  obtain ⟨j, hj⟩ := List.mem_iff_getElem?.1 (Exp.mem_mv ho)
  have hx : (E.kinds.map x)[j]? = some (x (Kd.mv i u)) := by rw [List.getElem?_map, hj]; rfl
  have h0 := (flow_at h (Exp.mem_mv ho)).1
  by_cases hp : 0 < x (Kd.mv i u)
  · exact (hmem _ (mvsL_mem.2 ⟨j, _, _, hj, hx, rfl, hp, rfl⟩)).symm
  · have e0 : x (Kd.mv i u) = 0 := by omega
    rw [e0]
    refine nOf_none (fun hc => ?_)
    obtain ⟨m, hm1, e1⟩ := List.mem_map.1 hc
    obtain ⟨j', ⟨a, i', u'⟩, y, h1, h2, h3, h4, rfl⟩ := mvsL_mem.1 hm1
    have h3 : a = 0 := h3
    subst h3
    obtain ⟨e2, e3⟩ := Prod.mk.inj e1
    have e2 : u' = u := by have : ((u' : Nat) : Int) = (u : Int) := e2; omega
    have e3 : i' = i := by have : ((i' : Nat) : Int) = (i : Int) := e3; omega
    subst e2; subst e3
    rw [List.getElem?_map, h1] at h2
    have : x (Kd.mv i' u') = y := Option.some.inj h2
    omega
theorem runs_plan (hW : SpanNet E.Z E.N) (hs : E.s < E.N) (ht : E.t < E.N) (hne : E.s ≠ E.t) {F : List Int} {k : Int} (h : FlowST E.net (E.last + 1) E.first E.last F k) (hask : askE (E.N : Int) E.Z (E.s : Int) (E.t : Int) (E.H : Int) = 0) :
    plnE (E.N : Int) E.Z (E.s : Int) (E.t : Int) (E.H : Int) E.hold (mvsL E.kinds F) = 0 ∧ plnV (E.N : Int) E.Z (E.s : Int) (E.t : Int) (E.H : Int) E.hold (mvsL E.kinds F) = k := by
  have hG := Exp.good_of hW hs ht hne
  obtain ⟨x, rfl⟩ := map_exists E.kinds F (kinds_nodup E) (by rw [h.1.1]; unfold Exp.net; exact List.length_map _)
  have hcap : ∀ i u, E.ok i u = true → 0 ≤ x (Kd.mv i u) ∧ ∀ a, E.Z[i]? = some a → x (Kd.mv i u) ≤ capN a := fun i u ho => by
    have h1 := flow_at h.1 (Exp.mem_mv ho)
    refine ⟨h1.1, fun a ha => ?_⟩
    have e4 : E.arcKd (Kd.mv i u) = ((E.slot (frN a) u : Int), (E.slot (toN a) (u + tmN a) : Int), capN a, 0) := by simp only [Exp.arcKd, ha]
    rw [e4] at h1
    exact h1.2
  obtain ⟨hP, hk⟩ := Exp.runs hG x h hcap (fun v u hv ho => (flow_at h.1 (Exp.mem_wt hv ho)).1)
  have hsrt := mvsL_sorted (F := E.kinds.map x) (kinds_sorted E)
  have hn := mvLt_pairs hsrt
  have hz : ∀ m ∈ mvsL E.kinds (E.kinds.map x), m.2.2 ≠ 0 := fun m hm => by
    obtain ⟨_, _, y, _, _, _, h4, rfl⟩ := mvsL_mem.1 hm
    simp only; omega
  have hin : ∀ m ∈ mvsL E.kinds (E.kinds.map x), ∃ i u : Nat, E.ok i u = true ∧ m = ((i : Int), (u : Int), x (Kd.mv i u)) := fun m hm => by
    obtain ⟨j, ⟨a, i, u⟩, y, h1, h2, h3, h4, rfl⟩ := mvsL_mem.1 hm
    have h3 : a = 0 := h3
    subst h3
    rw [List.getElem?_map, h1] at h2
    have e : x (Kd.mv i u) = y := Option.some.inj h2
    refine ⟨i, u, ?_, by rw [e]⟩
    rcases Exp.kinds_cases (List.mem_of_getElem? h1) with ⟨i', u', e, ho⟩ | ⟨v, u', _, e, _⟩ | ⟨u', _, e⟩ | ⟨u', _, e⟩
    · have e1 : i = i' := congrArg (fun k : Kd => k.2.1) e
      have e2 : u = u' := congrArg (fun k : Kd => k.2.2) e
      rw [e1, e2]; exact ho
    · exact absurd (Prod.mk.inj e).1 (by decide)
    · exact absurd (Prod.mk.inj e).1 (by decide)
    · exact absurd (Prod.mk.inj e).1 (by decide)
  have hok : ∀ m ∈ mvsL E.kinds (E.kinds.map x), okM E.Z (E.s : Int) (E.t : Int) (E.H : Int) m = true := fun m hm => by
    obtain ⟨i, u, ho, rfl⟩ := hin m hm
    exact okM_of hW ho (hcap i u ho).1 (hcap i u ho).2
  have hstk : ∀ v u : Nat, stk E.Z (mvsL E.kinds (E.kinds.map x)) (v : Int) (u : Int) = E.stock x v u := fun v u => by
    rw [stk_exp hW v u (fun m hm => mv_in hW (hok m hm))]
    exact Exp.stock_congr (fun i u ho => flow_amt h.1 ho) v u
  have hmv : mvE (E.N : Int) E.Z (E.s : Int) (E.t : Int) (E.H : Int) (mvsL E.kinds (E.kinds.map x)) = 0 := by
    refine mvE_ok.2 ⟨hask, ?_, ?_⟩
    · rw [(mvs_again hn hz).2]
      intro y hy
      obtain ⟨m, hm, rfl⟩ := List.mem_map.1 hy
      obtain ⟨i, u, ho, rfl⟩ := hin m hm
      obtain ⟨a, ha, _⟩ := E.ok_arc ho
      have h1 := (hcap i u ho).1
      have h2 := (hcap i u ho).2 a ha
      have h3 := (hW.caps a (List.mem_of_getElem? ha)).2
      unfold in64
      simp only
      omega
    · rw [(mvs_again hn hz).1]; exact hok
  have hpl : planB E.Z (mvsL E.kinds (E.kinds.map x)) E.N E.s E.t E.H E.hold = true := by
    refine planG_is.2 (fun u hu v hv h1 h2 => ?_)
    have := hP.2 v hv h1 h2 u hu
    unfold stkN
    rw [hstk]
    exact this
  have he : plnE (E.N : Int) E.Z (E.s : Int) (E.t : Int) (E.H : Int) E.hold (mvsL E.kinds (E.kinds.map x)) = 0 := by rw [plnE_good hmv, if_pos hpl]
  refine ⟨he, ?_⟩
  unfold plnV
  rw [if_pos he, hstk, hk]
end
end Go.Proofs.Ytlkbohpnlbfopaa
