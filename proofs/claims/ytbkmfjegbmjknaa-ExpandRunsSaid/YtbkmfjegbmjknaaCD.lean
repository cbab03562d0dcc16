/- Lemmas of the layers below, several texts in one. -/
import Derived.Test.YtbkmfjegbmjknaaBV
import Derived.Test.YtbkmfjegbmjknaaBS
import Derived.Test.YtbkmfjegbmjknaaCA
import Derived.Test.YtbkmfjegbmjknaaCB
namespace Go.Proofs.Ytbkmfjegbmjknaa
open Go.RowKit
set_option linter.unusedVariables false
def mvKd (k : Kd) (x : Int) : List MoveT := if k.1 = 0 ∧ 0 < x then [((k.2.1 : Int), (k.2.2 : Int), x)] else []
def mvsL : List Kd → List Int → List MoveT
  | [], _ => []
  | _ :: _, [] => []
  | k :: K, x :: F => mvKd k x ++ mvsL K F
theorem mvsL_append : ∀ (K : List Kd) (F : List Int) (K' : List Kd) (F' : List Int), K.length = F.length → mvsL (K ++ K') (F ++ F') = mvsL K F ++ mvsL K' F'
  | [], [], K', F', _ => rfl
  | [], x :: F, K', F', h => by simp at h
  | k :: K, [], K', F', h => by simp at h
  | k :: K, x :: F, K', F', h => by
    show mvKd k x ++ mvsL (K ++ K') (F ++ F') = mvKd k x ++ mvsL K F ++ mvsL K' F'
    rw [mvsL_append K F K' F' (by simpa using h), List.append_assoc]
theorem mvsL_snoc {K : List Kd} {F : List Int} {i : Nat} {k : Kd} {x : Int} (hk : K[i]? = some k) (hx : F[i]? = some x) : mvsL (K.take (i + 1)) (F.take (i + 1)) = mvsL (K.take i) (F.take i) ++ mvKd k x := by
  obtain ⟨h1, rfl⟩ := List.getElem?_eq_some_iff.1 hk
  obtain ⟨h2, rfl⟩ := List.getElem?_eq_some_iff.1 hx
  rw [List.take_succ_eq_append_getElem h1, List.take_succ_eq_append_getElem h2, mvsL_append _ _ _ _ (by rw [List.length_take, List.length_take]; omega)]
  congr 1
  show mvKd _ _ ++ mvsL [] [] = _
  rw [show mvsL [] [] = [] from rfl, List.append_nil]
theorem mvKd_len (k : Kd) (x : Int) : (mvKd k x).length ≤ 1 := by unfold mvKd; split <;> simp
theorem mvsL_len : ∀ (K : List Kd) (F : List Int), (mvsL K F).length ≤ K.length
  | [], _ => Nat.le_refl _
  | _ :: _, [] => Nat.zero_le _
  | k :: K, x :: F => by
    show (mvKd k x ++ mvsL K F).length ≤ _
    have h1 := mvKd_len k x
    have h2 := mvsL_len K F
    rw [List.length_append, List.length_cons]
    omega
theorem mvsL_mem {m : MoveT} : ∀ {K : List Kd} {F : List Int}, m ∈ mvsL K F ↔ ∃ (j : Nat) (k : Kd) (x : Int), K[j]? = some k ∧ F[j]? = some x ∧ k.1 = 0 ∧ 0 < x ∧ m = ((k.2.1 : Int), (k.2.2 : Int), x)
  | [], F => ⟨fun h => (List.not_mem_nil h).elim, fun ⟨j, k, x, h, _⟩ => by simp at h⟩
  | k :: K, [] => ⟨fun h => (List.not_mem_nil h).elim, fun ⟨j, k, x, _, h, _⟩ => by simp at h⟩
  | k :: K, x :: F => by
    show m ∈ mvKd k x ++ mvsL K F ↔ _
    rw [List.mem_append, mvsL_mem (K := K) (F := F)]
    constructor
    · rintro (h | ⟨j, k', x', h1, h2, h3⟩)
      · unfold mvKd at h
        by_cases hc : k.1 = 0 ∧ 0 < x
        · rw [if_pos hc] at h
          exact ⟨0, k, x, rfl, rfl, hc.1, hc.2, List.mem_singleton.1 h⟩
        · rw [if_neg hc] at h; exact (List.not_mem_nil h).elim
      · exact ⟨j + 1, k', x', h1, h2, h3⟩
    · rintro ⟨j, k', x', h1, h2, h3, h4, h5⟩
      cases j with
      | zero =>
        cases h1; cases h2
        refine .inl ?_
        unfold mvKd
        rw [if_pos ⟨h3, h4⟩, h5]
        exact List.mem_singleton.2 rfl
      | succ j => exact .inr ⟨j, k', x', h1, h2, h3, h4, h5⟩
def mvLt (a b : MoveT) : Prop := a.2.1 < b.2.1 ∨ a.2.1 = b.2.1 ∧ a.1 < b.1
def kdLt (a b : Kd) : Prop := a.1 = 0 → b.1 = 0 → a.2.2 < b.2.2 ∨ a.2.2 = b.2.2 ∧ a.2.1 < b.2.1
theorem mvsL_sorted : ∀ {K : List Kd} {F : List Int}, K.Pairwise kdLt → (mvsL K F).Pairwise mvLt
  | [], F, _ => List.Pairwise.nil
  | k :: K, [], _ => List.Pairwise.nil
  | k :: K, x :: F, h => by
    show (mvKd k x ++ mvsL K F).Pairwise mvLt
    obtain ⟨h1, h2⟩ := List.pairwise_cons.1 h
    refine List.pairwise_append.2 ⟨?_, mvsL_sorted h2, fun a ha b hb => ?_⟩
    · unfold mvKd; split
      · exact List.pairwise_singleton _ _
      · exact List.Pairwise.nil
    · unfold mvKd at ha
      by_cases hc : k.1 = 0 ∧ 0 < x
      · rw [if_pos hc] at ha
        obtain rfl := List.mem_singleton.1 ha
        obtain ⟨j, k', x', hk, _, h3, _, rfl⟩ := mvsL_mem.1 hb
        have := h1 k' (List.mem_of_getElem? hk) hc.1 h3
        unfold mvLt
        simp only
        omega
      · rw [if_neg hc] at ha; exact (List.not_mem_nil ha).elim
theorem mvK_mem {E : Exp} {u : Nat} {k : Kd} : ∀ {n}, k ∈ E.mvK u n → k.1 = 0 ∧ k.2.2 = u ∧ k.2.1 < n
  | 0, h => (List.not_mem_nil h).elim
  | n + 1, h => by
    rcases List.mem_append.1 (show k ∈ E.mvK u n ++ (if E.ok n u then [Kd.mv n u] else []) from h) with h | h
    · have := mvK_mem h; exact ⟨this.1, this.2.1, by omega⟩
    · by_cases hc : E.ok n u = true
      · rw [if_pos hc] at h
        obtain rfl := List.mem_singleton.1 h
        exact ⟨rfl, rfl, Nat.lt_succ_self _⟩
      · rw [if_neg hc] at h; exact (List.not_mem_nil h).elim
theorem wtK_mem {E : Exp} {u : Nat} {k : Kd} : ∀ {n}, k ∈ E.wtK u n → k.1 = 1 ∧ k.2.2 = u
  | 0, h => (List.not_mem_nil h).elim
  | n + 1, h => by
    rcases List.mem_append.1 (show k ∈ E.wtK u n ++ (if E.wok n u then [Kd.wt n u] else []) from h) with h | h
    · exact wtK_mem h
    · by_cases hc : E.wok n u = true
      · rw [if_pos hc] at h
        obtain rfl := List.mem_singleton.1 h
        exact ⟨rfl, rfl⟩
      · rw [if_neg hc] at h; exact (List.not_mem_nil h).elim
theorem mvK_sorted (E : Exp) (u : Nat) : ∀ n, (E.mvK u n).Pairwise kdLt
  | 0 => List.Pairwise.nil
  | n + 1 => by
    show (E.mvK u n ++ (if E.ok n u then [Kd.mv n u] else [])).Pairwise kdLt
    refine List.pairwise_append.2 ⟨mvK_sorted E u n, ?_, fun a ha b hb => ?_⟩
    · split
      · exact List.pairwise_singleton _ _
      · exact List.Pairwise.nil
    · by_cases hc : E.ok n u = true
      · rw [if_pos hc] at hb
        obtain rfl := List.mem_singleton.1 hb
        have := mvK_mem ha
        exact fun _ _ => .inr ⟨this.2.1, this.2.2⟩
      · rw [if_neg hc] at hb; exact (List.not_mem_nil hb).elim
theorem not_zero {a b : Kd} (h : a.1 ≠ 0 ∨ b.1 ≠ 0) : kdLt a b := fun h1 h2 => by rcases h with h | h <;> contradiction
theorem timeK_mem {E : Exp} {k : Kd} : ∀ {n}, k ∈ E.timeK n → k.2.2 < n
  | 0, h => (List.not_mem_nil h).elim
  | n + 1, h => by
    rcases List.mem_append.1 (show k ∈ E.timeK n ++ (E.mvK n E.Z.length ++ E.wtK n E.N) from h) with h | h
    · have := timeK_mem h; omega
    · rcases List.mem_append.1 h with h | h
      · have := mvK_mem h; omega
      · have := wtK_mem h; omega
theorem others_sorted {l : List Kd} (h : ∀ k ∈ l, k.1 ≠ 0) : l.Pairwise kdLt := by
  induction l with
  | nil => exact List.Pairwise.nil
  | cons a l ih => exact List.pairwise_cons.2 ⟨fun b _ => not_zero (.inl (h a (by simp))), ih (fun k hk => h k (by simp [hk]))⟩
theorem timeK_sorted (E : Exp) : ∀ n, (E.timeK n).Pairwise kdLt
  | 0 => List.Pairwise.nil
  | n + 1 => by
    show (E.timeK n ++ (E.mvK n E.Z.length ++ E.wtK n E.N)).Pairwise kdLt
    refine List.pairwise_append.2 ⟨timeK_sorted E n, List.pairwise_append.2 ⟨mvK_sorted E n _, others_sorted (fun k hk => by have := wtK_mem hk; omega), fun a _ b hb => not_zero (.inr (by have := wtK_mem hb; omega))⟩, fun a ha b hb => ?_⟩
    have h1 := timeK_mem ha
    rcases List.mem_append.1 hb with h | h
    · have h2 := mvK_mem h
      exact fun _ _ => .inl (by omega)
    · exact not_zero (.inr (by have := wtK_mem h; omega))
theorem soK_mem {k : Kd} : ∀ {n}, k ∈ Exp.soK n → k.1 = 2
  | 0, h => (List.not_mem_nil h).elim
  | n + 1, h => by
    rcases List.mem_append.1 (show k ∈ Exp.soK n ++ [Kd.so n] from h) with h | h
    · exact soK_mem h
    · obtain rfl := List.mem_singleton.1 h; rfl
theorem siK_mem {k : Kd} : ∀ {n}, k ∈ Exp.siK n → k.1 = 3
  | 0, h => (List.not_mem_nil h).elim
  | n + 1, h => by
    rcases List.mem_append.1 (show k ∈ Exp.siK n ++ [Kd.si n] from h) with h | h
    · exact siK_mem h
    · obtain rfl := List.mem_singleton.1 h; rfl
theorem kinds_sorted (E : Exp) : E.kinds.Pairwise kdLt := by
  have h0 : ∀ k ∈ Exp.soK (E.H + 1) ++ Exp.siK (E.H + 1), k.1 ≠ 0 := fun k hk => by
    rcases List.mem_append.1 hk with h | h
    · have := soK_mem h; omega
    · have := siK_mem h; omega
  exact List.pairwise_append.2 ⟨timeK_sorted E _, others_sorted h0, fun a _ b hb => not_zero (.inr (h0 b hb))⟩
theorem mvLt_sorted {D : List MoveT} (h : D.Pairwise mvLt) : Sorted kM D := by
  refine h.imp (fun {a b} hab => ?_)
  unfold mvLt at hab
  unfold ltK kM
  exact decide_eq_false (by simp only; omega)
theorem mvLt_pairs {D : List MoveT} (h : D.Pairwise mvLt) : (pairsOf D).Nodup := by
  unfold pairsOf
  rw [List.Nodup, List.pairwise_map]
  refine h.imp (fun {a b} hab e => ?_)
  unfold mvLt at hab
  obtain ⟨h1, h2⟩ := Prod.mk.inj e
  omega
theorem merged_is {M D R : List MoveT} (hp : M.Perm D) (hD : D.Pairwise mvLt) (hz : ∀ m ∈ D, m.2.2 ≠ 0) (hR : R.Perm (mvs M)) (hS : Sorted kM R) : R = D := by
  have hn : (pairsOf M).Nodup := (hp.map (fun m : MoveT => (m.2.1, m.1))).nodup_iff.2 (mvLt_pairs hD)
  have hz2 : ∀ m ∈ M, m.2.2 ≠ 0 := fun m hm => hz m (hp.mem_iff.1 hm)
  have he := (mvs_again hn hz2).1
  refine sorted_uniqueQ hS (mvLt_sorted hD) (hR.trans (by rw [he]; exact hp)) (fun x hx y hy e => ?_)
  exact mvs_inj (hR.mem_iff.1 hx) (hR.mem_iff.1 hy) e
end Go.Proofs.Ytbkmfjegbmjknaa
namespace Go.Proofs.Ytbkmfjegbmjknaa
set_option linter.unusedVariables false
theorem Exp.ok_lt {E : Exp} {i u : Nat} (h : E.ok i u = true) : i < E.Z.length ∧ u ≤ E.H := by
  obtain ⟨a, ha, h1, _⟩ := E.ok_arc h
  exact ⟨(List.getElem?_eq_some_iff.1 ha).1, by omega⟩
def pmvAt (F : List Int) (u : Int) (c : Int × Int) : Option MoveT := if 0 < F.getD c.2.toNat 0 then some (c.1, u, F.getD c.2.toNat 0) else none
def pmv (F : List Int) (u : Int) (C : List (Int × Int)) : List MoveT := C.filterMap (pmvAt F u)
theorem pmv_snoc {F : List Int} {u : Int} {C : List (Int × Int)} {i : Nat} {c : Int × Int} {x : Int} (hc : C[i]? = some c) (hx : F[c.2.toNat]? = some x) : pmv F u (C.take (i + 1)) = pmv F u (C.take i) ++ if 0 < x then [(c.1, u, x)] else [] := by
  obtain ⟨h1, rfl⟩ := List.getElem?_eq_some_iff.1 hc
  unfold pmv
  rw [List.take_succ_eq_append_getElem h1, List.filterMap_append]
  congr 1
  have e : F.getD (C[i]).2.toNat 0 = x := by rw [List.getD_eq_getElem?_getD, hx]; rfl
  have e2 : pmvAt F u C[i] = if 0 < x then some ((C[i]).1, u, x) else none := by unfold pmvAt; rw [e]
  by_cases h : 0 < x
  · rw [if_pos h] at e2 ⊢; simp [List.filterMap, e2]
  · rw [if_neg h] at e2 ⊢; simp [List.filterMap, e2]
theorem pmv_len (F : List Int) (u : Int) (C : List (Int × Int)) : (pmv F u C).length ≤ C.length := List.length_filterMap_le _ _
theorem crsSorted {E : Exp} {K : List Kd} (h : K.Pairwise kdLt) (p : Int × Int) : (crossF E K p).Pairwise (fun a b => a.1 < b.1) := by
  have h1 : K.zipIdx.Pairwise (fun x y => kdLt x.1 y.1) := List.pairwise_map.1 (by rw [List.zipIdx_map_fst]; exact h)
  refine List.Pairwise.filterMap _ (fun a a' hab b hb b' hb' => ?_) h1
  obtain ⟨⟨a1, a2, a3⟩, a4⟩ := a
  obtain ⟨⟨b1, b2, b3⟩, b4⟩ := a'
  match a1, b1 with
  | 0, 0 =>
    have e1 : (if ((E.frA a2 : Nat) : Int) = p.1 ∧ ((a3 : Nat) : Int) = p.2 then some ((a2 : Int), (a4 : Int)) else none) = some b := hb
    have e2 : (if ((E.frA b2 : Nat) : Int) = p.1 ∧ ((b3 : Nat) : Int) = p.2 then some ((b2 : Int), (b4 : Int)) else none) = some b' := hb'
    split at e1
    · next c1 =>
      split at e2
      · next c2 =>
        cases e1; cases e2
        rcases hab rfl rfl with h | ⟨h1, h2⟩
        · have h : a3 < b3 := h
          omega
        · have h2 : a2 < b2 := h2
          show (a2 : Int) < (b2 : Int)
          omega
      · cases e2
    · cases e1
  | n + 1, _ => cases hb
  | 0, n + 1 => cases hb'
theorem pmv_sorted {F : List Int} {u : Int} {C : List (Int × Int)} (h : C.Pairwise (fun a b => a.1 < b.1)) : (pmv F u C).Pairwise (fun a b => a.1 < b.1) := by
  refine List.Pairwise.filterMap _ (fun a a' hab b hb b' hb' => ?_) h
  unfold pmvAt at hb hb'
  split at hb
  · split at hb'
    · cases hb; cases hb'; exact hab
    · cases hb'
  · cases hb
theorem pmv_mem {E : Exp} {K : List Kd} {F : List Int} (hl : F.length = K.length) {p : Int × Int} {m : MoveT} : m ∈ pmv F p.2 (crossF E K p) ↔ ∃ (j i u : Nat) (x : Int), K[j]? = some (Kd.mv i u) ∧ F[j]? = some x ∧ 0 < x ∧ m = ((i : Int), (u : Int), x) ∧ p = (((E.frA i : Nat) : Int), (u : Int)) := by
  unfold pmv
  rw [List.mem_filterMap]
  constructor
  · rintro ⟨c, hc, hm⟩
    obtain ⟨i, u, j, rfl, hk, rfl⟩ := cross_at hc
    have hj : j < F.length := by rw [hl]; exact (List.getElem?_eq_some_iff.1 hk).1
    have e : F.getD (j : Int).toNat 0 = F[j] := by rw [List.getD_eq_getElem?_getD, Int.toNat_natCast, List.getElem?_eq_getElem hj]; rfl
    unfold pmvAt at hm
    simp only [e] at hm
    split at hm
    · next h => cases hm; exact ⟨j, i, u, F[j], hk, List.getElem?_eq_getElem hj, h, rfl, rfl⟩
    · cases hm
  · rintro ⟨j, i, u, x, hk, hx, h0, rfl, rfl⟩
    refine ⟨((i : Int), (j : Int)), at_cross hk, ?_⟩
    have e : F.getD (j : Int).toNat 0 = x := by rw [List.getD_eq_getElem?_getD, Int.toNat_natCast, hx]; rfl
    unfold pmvAt
    simp only [e, if_pos h0]
structure GatU (E : Exp) (K : List Kd) (F : List Int) (left : Int × Int → Bool) (M : List MoveT) : Prop where
  nd : M.Nodup
  mem : ∀ m, m ∈ M ↔ ∃ (j i u : Nat) (x : Int), K[j]? = some (Kd.mv i u) ∧ F[j]? = some x ∧ 0 < x ∧ m = ((i : Int), (u : Int), x) ∧ left (((E.frA i : Nat) : Int), (u : Int)) = false
theorem GatU.start {E : Exp} {K : List Kd} {F : List Int} {left : Int × Int → Bool} (h : ∀ p, left p = false → crossF E K p = []) : GatU E K F left [] := by
  refine ⟨List.nodup_nil, fun m => ⟨fun hm => (List.not_mem_nil hm).elim, ?_⟩⟩
  rintro ⟨j, i, u, x, hk, _, _, _, hp⟩
  have := at_cross (E := E) hk
  rw [h _ hp] at this
  cases this
theorem GatU.step {E : Exp} {K : List Kd} {F : List Int} {left : Int × Int → Bool} {M : List MoveT} (h : GatU E K F left M) (hl : F.length = K.length) (hs : K.Pairwise kdLt) {p : Int × Int} (hp : left p = true) :
    GatU E K F (fun q => left q && !decide (q = p)) (M ++ pmv F p.2 (crossF E K p)) := by
  have hk : ∀ {j j' i u : Nat}, K[j]? = some (Kd.mv i u) → K[j']? = some (Kd.mv i u) → j = j' := by
    intro j j' i u h1 h2
    obtain ⟨g1, e1⟩ := List.getElem?_eq_some_iff.1 h1
    obtain ⟨g2, e2⟩ := List.getElem?_eq_some_iff.1 h2
    have hp := List.pairwise_iff_getElem.1 hs
    rcases Nat.lt_trichotomy j j' with h | h | h
    · have := hp j j' g1 g2 h
      rw [e1, e2] at this
      have := this rfl rfl
      simp only at this
      omega
    · exact h
    · have := hp j' j g2 g1 h
      rw [e1, e2] at this
      have := this rfl rfl
      simp only at this
      omega
  refine ⟨List.nodup_append.2 ⟨h.nd, (pmv_sorted (crsSorted hs p)).imp (fun {a b} hab e => by rw [e] at hab; omega), ?_⟩, fun m => ?_⟩
  · rintro a ha b hb rfl
    obtain ⟨j, i, u, x, h1, h2, h3, rfl, h5⟩ := (h.mem _).1 ha
    obtain ⟨j', i', u', x', g1, g2, g3, g4, rfl⟩ := (pmv_mem hl).1 hb
    obtain ⟨q1, q2⟩ := Prod.mk.inj g4
    obtain ⟨q2, q3⟩ := Prod.mk.inj q2
    obtain rfl : i = i' := by omega
    obtain rfl : u = u' := by omega
    rw [hp] at h5
    cases h5
  · rw [List.mem_append, h.mem, pmv_mem hl]
    constructor
    · rintro (⟨j, i, u, x, h1, h2, h3, h4, h5⟩ | ⟨j, i, u, x, h1, h2, h3, h4, h5⟩)
      · exact ⟨j, i, u, x, h1, h2, h3, h4, by simp [h5]⟩
      · exact ⟨j, i, u, x, h1, h2, h3, h4, by simp [h5]⟩
    · rintro ⟨j, i, u, x, h1, h2, h3, h4, h5⟩
      by_cases e : left (((E.frA i : Nat) : Int), (u : Int)) = false
      · exact .inl ⟨j, i, u, x, h1, h2, h3, h4, e⟩
      · refine .inr ⟨j, i, u, x, h1, h2, h3, h4, ?_⟩
        rw [Bool.and_eq_false_iff] at h5
        rcases h5 with h5 | h5
        · exact absurd h5 e
        · exact (show (((E.frA i : Nat) : Int), (u : Int)) = p by simpa using h5).symm
theorem GatU.perm {E : Exp} {K : List Kd} {F : List Int} {left : Int × Int → Bool} {M : List MoveT} (h : GatU E K F left M) (hs : K.Pairwise kdLt) (h0 : ∀ (j i u : Nat), K[j]? = some (Kd.mv i u) → left (((E.frA i : Nat) : Int), (u : Int)) = false) : M.Perm (mvsL K F) := by
  refine (List.perm_ext_iff_of_nodup h.nd ((mvsL_sorted hs).imp (fun {a b} hab e => ?_))).2 (fun m => ?_)
  · subst e; unfold mvLt at hab; omega
  · rw [h.mem, mvsL_mem]
    constructor
    · rintro ⟨j, i, u, x, h1, h2, h3, h4, h5⟩
      exact ⟨j, Kd.mv i u, x, h1, h2, rfl, h3, h4⟩
    · rintro ⟨j, ⟨a, i, u⟩, x, h1, h2, h3, h4, h5⟩
      have h3 : a = 0 := h3
      subst h3
      exact ⟨j, i, u, x, h1, h2, h4, h5, h0 j i u h1⟩
theorem GatU.len {E : Exp} {K : List Kd} {F : List Int} {left : Int × Int → Bool} {M : List MoveT} (h : GatU E K F left M) : M.length ≤ K.length := by
  refine Nat.le_trans (List.Nodup.length_le_of_subset (l₂ := mvsL K F) h.nd (fun m hm => ?_)) (mvsL_len K F)
  obtain ⟨j, i, u, x, h1, h2, h3, h4, _⟩ := (h.mem m).1 hm
  exact mvsL_mem.2 ⟨j, Kd.mv i u, x, h1, h2, rfl, h3, h4⟩
end Go.Proofs.Ytbkmfjegbmjknaa
namespace Go.Proofs.Ytbkmfjegbmjknaa
set_option linter.unusedVariables false
def amtK (M : List MoveT) : Kd → Int
  | (0, i, u) => nOf M ((u : Int), (i : Int))
  | _ => 0
def flwK (E : Exp) (M : List MoveT) : Kd → Int
  | (0, i, u) => nOf M ((u : Int), (i : Int))
  | (1, v, u) => stk E.Z M (v : Int) (u : Int)
  | (2, _, u) => -(stk E.Z M (E.s : Int) (u : Int) - stk E.Z M (E.s : Int) ((u : Int) - 1))
  | (_ + 3, _, u) => stk E.Z M (E.t : Int) (u : Int) - stk E.Z M (E.t : Int) ((u : Int) - 1)
namespace Exp
variable {E : Exp}
theorem dep_add (x y : Kd → Int) (v a : Nat) : E.dep (fun k => x k + y k) v a = E.dep x v a + E.dep y v a := by
  unfold dep
  rw [← sumTo_add]
  refine sumTo_congr (fun i _ => ?_)
  dsimp only
  split
  · split <;> omega
  · rfl
theorem arr_add (x y : Kd → Int) (v a : Nat) : E.arr (fun k => x k + y k) v a = E.arr x v a + E.arr y v a := by
  unfold arr
  rw [← sumTo_add]
  refine sumTo_congr (fun u _ => ?_)
  rw [← sumTo_add]
  refine sumTo_congr (fun i _ => ?_)
  dsimp only
  split
  · split <;> omega
  · rfl
theorem stock_add (x y : Kd → Int) (v a : Nat) : E.stock (fun k => x k + y k) v a = E.stock x v a + E.stock y v a := by
  unfold stock
  rw [← sumTo_add]
  refine sumTo_congr (fun u _ => ?_)
  rw [dep_add, arr_add]
  omega
theorem stock_zero {x : Kd → Int} (h : ∀ i u, x (Kd.mv i u) = 0) (v a : Nat) : E.stock x v a = 0 := by
  unfold stock
  refine (sumTo_congr (h := fun _ => 0) (fun u _ => ?_)).trans (sumTo_zero _)
  have h1 : E.dep x v u = 0 := by
    unfold dep
    refine (sumTo_congr (h := fun _ => 0) (fun i _ => ?_)).trans (sumTo_zero _)
    rw [h]; split
    · split <;> rfl
    · rfl
  have h2 : E.arr x v u = 0 := by
    unfold arr
    refine (sumTo_congr (h := fun _ => 0) (fun u _ => ?_)).trans (sumTo_zero _)
    refine (sumTo_congr (h := fun _ => 0) (fun i _ => ?_)).trans (sumTo_zero _)
    rw [h]; split
    · split <;> rfl
    · rfl
  rw [h1, h2]; rfl
theorem dep_one {x : Kd → Int} {i0 u0 : Nat} {c : Int} (ho : E.ok i0 u0 = true) (h : ∀ i u, x (Kd.mv i u) = if i = i0 ∧ u = u0 then c else 0) (v a : Nat) : E.dep x v a = if a = u0 then (if E.frA i0 = v then c else 0) else 0 := by
  unfold dep
  have e : ∀ i, (if E.ok i a then (if E.frA i = v then x (Kd.mv i a) else 0) else 0) = if i = i0 then (if a = u0 then (if E.frA i0 = v then c else 0) else 0) else 0 := by
    intro i
    rw [h]
    by_cases hi : i = i0
    · subst hi
      by_cases ha : a = u0
      · subst ha
        simp [ho]
      · simp [ha]
    · simp [hi]
  rw [sumTo_congr (fun i _ => e i), sumTo_pick (g := fun _ => (if a = u0 then (if E.frA i0 = v then c else 0) else 0)), if_pos (ok_lt ho).1]
theorem arr_one {x : Kd → Int} {i0 u0 : Nat} {c : Int} (ho : E.ok i0 u0 = true) (h : ∀ i u, x (Kd.mv i u) = if i = i0 ∧ u = u0 then c else 0) (v a : Nat) : E.arr x v a = if a = u0 + E.tmA i0 then (if E.toA i0 = v then c else 0) else 0 := by
  unfold arr
  have e : ∀ u i, (if E.ok i u then (if E.toA i = v ∧ u + E.tmA i = a then x (Kd.mv i u) else 0) else 0) = if i = i0 then (if u = u0 then (if a = u0 + E.tmA i0 then (if E.toA i0 = v then c else 0) else 0) else 0) else 0 := by
    intro u i
    rw [h]
    by_cases hi : i = i0
    · subst hi
      by_cases hu : u = u0
      · subst hu
        by_cases h1 : E.toA i = v
        · by_cases h2 : u + E.tmA i = a
          · simp [ho, h1, h2]
          · have : ¬ a = u + E.tmA i := fun e => h2 e.symm
            simp [ho, h1, h2, this]
        · simp [h1]
      · simp [hu]
    · simp [hi]
  have e2 : ∀ u, sumTo (fun i => if E.ok i u then (if E.toA i = v ∧ u + E.tmA i = a then x (Kd.mv i u) else 0) else 0) E.Z.length = if u = u0 then (if a = u0 + E.tmA i0 then (if E.toA i0 = v then c else 0) else 0) else 0 := by
    intro u
    rw [sumTo_congr (fun i _ => e u i), sumTo_pick (g := fun _ => (if u = u0 then (if a = u0 + E.tmA i0 then (if E.toA i0 = v then c else 0) else 0) else 0)), if_pos (ok_lt ho).1]
  rw [sumTo_congr (fun u _ => e2 u), sumTo_pick (g := fun _ => (if a = u0 + E.tmA i0 then (if E.toA i0 = v then c else 0) else 0)), if_pos (by have := (ok_lt ho).2; omega)]
theorem stock_one {x : Kd → Int} {i0 u0 : Nat} {c : Int} (ho : E.ok i0 u0 = true) (h : ∀ i u, x (Kd.mv i u) = if i = i0 ∧ u = u0 then c else 0) (v a : Nat) : E.stock x v a = (if E.toA i0 = v ∧ u0 + E.tmA i0 ≤ a then c else 0) - (if E.frA i0 = v ∧ u0 ≤ a then c else 0) := by
  unfold stock
  have e : ∀ u, E.arr x v u - E.dep x v u = (if u = u0 + E.tmA i0 then (if E.toA i0 = v then c else 0) else 0) - (if u = u0 then (if E.frA i0 = v then c else 0) else 0) := fun u => by rw [arr_one ho h, dep_one ho h]
  rw [sumTo_congr (fun u _ => e u), sumTo_sub, sumTo_pick (g := fun _ => (if E.toA i0 = v then c else 0)), sumTo_pick (g := fun _ => (if E.frA i0 = v then c else 0))]
  have q1 : u0 + E.tmA i0 < a + 1 ↔ u0 + E.tmA i0 ≤ a := Nat.lt_succ_iff
  have q2 : u0 < a + 1 ↔ u0 ≤ a := Nat.lt_succ_iff
  simp only [q1, q2]
  congr 1
  · by_cases h1 : E.toA i0 = v <;> by_cases h2 : u0 + E.tmA i0 ≤ a <;> simp [h1, h2]
  · by_cases h1 : E.frA i0 = v <;> by_cases h2 : u0 ≤ a <;> simp [h1, h2]
end Exp
def MvIn (E : Exp) (m : MoveT) : Prop := ∃ i u : Nat, m.1 = (i : Int) ∧ m.2.1 = (u : Int) ∧ E.ok i u = true
theorem arc_parts {E : Exp} {i : Nat} (hW : SpanNet E.Z E.N) (hi : i < E.Z.length) : (arcI E.Z (i : Int)).1 = (E.frA i : Int) ∧ (arcI E.Z (i : Int)).2.1 = (E.toA i : Int) ∧ (arcI E.Z (i : Int)).2.2.2 = (E.tmA i : Int) := by
  have he := hW.ends _ (List.getElem_mem hi)
  have ht := hW.times _ (List.getElem_mem hi)
  rw [arcI_at hi]
  unfold Exp.frA Exp.toA Exp.tmA
  simp only [List.getElem?_eq_getElem hi]
  unfold frN toN tmN tm at *
  omega
theorem stk_exp {E : Exp} (hW : SpanNet E.Z E.N) (v a : Nat) : ∀ {M : List MoveT}, (∀ m ∈ M, MvIn E m) → stk E.Z M (v : Int) (a : Int) = E.stock (amtK M) v a
  | [], _ => by
    rw [Exp.stock_zero (fun i u => rfl)]; rfl
  | m :: M, h => by
    obtain ⟨i, u, h1, h2, ho⟩ := h m List.mem_cons_self
    obtain ⟨x, y, c⟩ := m
    simp only at h1 h2
    subst h1; subst h2
    have hi := (Exp.ok_lt ho).1
    obtain ⟨p1, p2, p3⟩ := arc_parts hW hi
    have e : ∀ k : Kd, amtK ((((i : Int), (u : Int), c) : MoveT) :: M) k = (fun k => amtK [((i : Int), (u : Int), c)] k + amtK M k) k := by
      rintro ⟨q, i', u'⟩
      match q with
      | 0 =>
        show nOf _ _ = nOf _ _ + nOf _ _
        rw [nOf_cons, nOf_cons (L := [])]
        show _ = (_ + 0) + _
        omega
      | n + 1 => rfl
    rw [stk_cons, stk_exp hW v a (fun m hm => h m (List.mem_cons_of_mem _ hm)), show amtK ((((i : Int), (u : Int), c) : MoveT) :: M) = (fun k => amtK [((i : Int), (u : Int), c)] k + amtK M k) from funext e, Exp.stock_add,
      Exp.stock_one (x := amtK [(((i : Int), (u : Int), c) : MoveT)]) (i0 := i) (u0 := u) (c := c) ho (fun i' u' => ?_)]
    · congr 1
      show c * wgt E.Z (v : Int) (a : Int) ((u : Int), (i : Int)) = _
      unfold wgt
      simp only [p1, p2, p3]
      have q1 : ((E.toA i : Int) = (v : Int) ∧ (u : Int) + (E.tmA i : Int) ≤ (a : Int)) ↔ (E.toA i = v ∧ u + E.tmA i ≤ a) := by omega
      have q2 : ((E.frA i : Int) = (v : Int) ∧ (u : Int) ≤ (a : Int)) ↔ (E.frA i = v ∧ u ≤ a) := by omega
      simp only [q1, q2]
      split <;> split <;> omega
    · show nOf [((i : Int), (u : Int), c)] ((u' : Int), (i' : Int)) = _
      rw [nOf_cons]
      show (if ((u : Int), (i : Int)) = ((u' : Int), (i' : Int)) then c else 0) + 0 = _
      by_cases e : i' = i ∧ u' = u
      · obtain ⟨rfl, rfl⟩ := e
        rw [if_pos rfl, if_pos ⟨rfl, rfl⟩]; omega
      · rw [if_neg e, if_neg]
        · rfl
        · intro e2
          obtain ⟨e3, e4⟩ := Prod.mk.inj e2
          exact e ⟨by omega, by omega⟩
theorem stk_before {Z : List ArcT} (hZ : ∀ a ∈ Z, 0 ≤ a.2.2.2) (v : Int) {M : List MoveT} (h : ∀ m ∈ M, 0 ≤ m.1 ∧ m.1 < (Z.length : Int) ∧ 0 ≤ m.2.1) : stk Z M v (-1) = 0 := by
  unfold stk
  refine sum_zeroL (fun m hm => ?_)
  obtain ⟨h1, h2, h3⟩ := h m hm
  obtain ⟨p, hp⟩ : ∃ p : Nat, m.1 = (p : Int) := ⟨m.1.toNat, by omega⟩
  have hpl : p < Z.length := by omega
  have := hZ _ (List.getElem_mem hpl)
  unfold wgt
  rw [hp]
  simp only
  rw [arcI_at hpl, if_neg (by omega), if_neg (by omega)]
  simp
theorem mvIn_lt {E : Exp} {M : List MoveT} (h : ∀ m ∈ M, MvIn E m) : ∀ m ∈ M, 0 ≤ m.1 ∧ m.1 < (E.Z.length : Int) ∧ 0 ≤ m.2.1 := by
  intro m hm
  obtain ⟨i, u, h1, h2, h3⟩ := h m hm
  have := (Exp.ok_lt h3).1
  omega
theorem flw_eq {E : Exp} (hW : SpanNet E.Z E.N) {M : List MoveT} (h : ∀ m ∈ M, MvIn E m) (k : Kd) : flwK E M k = E.flowX (amtK M) k := by
  have hZ : ∀ a ∈ E.Z, 0 ≤ a.2.2.2 := fun a ha => by have := (hW.times a ha).1; unfold tm at this; exact this
  obtain ⟨q, i, u⟩ := k
  match q with
  | 0 => rfl
  | 1 => exact stk_exp hW i u h
  | 2 =>
    show -(stk E.Z M (E.s : Int) (u : Int) - stk E.Z M (E.s : Int) ((u : Int) - 1)) = E.dep (amtK M) E.s u
    rw [stk_exp hW E.s u h]
    cases u with
    | zero =>
      rw [show (((0 : Nat) : Int) - 1) = -1 from rfl, stk_before hZ _ (mvIn_lt h)]
      have e : E.stock (amtK M) E.s 0 = 0 + (E.arr (amtK M) E.s 0 - E.dep (amtK M) E.s 0) := rfl
      rw [e, Exp.arr_source]; omega
    | succ u =>
      rw [show (((u + 1 : Nat) : Int) - 1) = (u : Int) by omega, stk_exp hW E.s u h]
      have e : E.stock (amtK M) E.s (u + 1) = E.stock (amtK M) E.s u + (E.arr (amtK M) E.s (u + 1) - E.dep (amtK M) E.s (u + 1)) := rfl
      rw [e, Exp.arr_source]; omega
  | n + 3 =>
    show stk E.Z M (E.t : Int) (u : Int) - stk E.Z M (E.t : Int) ((u : Int) - 1) = E.arr (amtK M) E.t u
    rw [stk_exp hW E.t u h]
    cases u with
    | zero =>
      rw [show (((0 : Nat) : Int) - 1) = -1 from rfl, stk_before hZ _ (mvIn_lt h)]
      have e : E.stock (amtK M) E.t 0 = 0 + (E.arr (amtK M) E.t 0 - E.dep (amtK M) E.t 0) := rfl
      rw [e, Exp.dep_sink]; omega
    | succ u =>
      rw [show (((u + 1 : Nat) : Int) - 1) = (u : Int) by omega, stk_exp hW E.t u h]
      have e : E.stock (amtK M) E.t (u + 1) = E.stock (amtK M) E.t u + (E.arr (amtK M) E.t (u + 1) - E.dep (amtK M) E.t (u + 1)) := rfl
      rw [e, Exp.dep_sink]; omega
theorem mv_in {E : Exp} (hW : SpanNet E.Z E.N) {m : MoveT} (h : okM E.Z (E.s : Int) (E.t : Int) (E.H : Int) m = true) : MvIn E m := by
  obtain ⟨h1, h2, h3, h4, h5, h6, h7, h8⟩ := okM_yes.1 h
  obtain ⟨i, hi⟩ : ∃ i : Nat, m.1 = (i : Int) := ⟨m.1.toNat, by omega⟩
  obtain ⟨u, hu⟩ : ∃ u : Nat, m.2.1 = (u : Int) := ⟨m.2.1.toNat, by omega⟩
  have hil : i < E.Z.length := by omega
  have he := hW.ends _ (List.getElem_mem hil)
  have ht := hW.times _ (List.getElem_mem hil)
  refine ⟨i, u, hi, hu, ?_⟩
  rw [hi, arcI_at hil] at h4 h7 h8
  unfold Exp.ok
  simp only [List.getElem?_eq_getElem hil, Bool.and_eq_true, decide_eq_true_eq]
  unfold tmN tm toN frN at *
  omega
end Go.Proofs.Ytbkmfjegbmjknaa
namespace Go.Proofs.Ytbkmfjegbmjknaa
set_option linter.unusedVariables false
theorem wtK_mem2 {E : Exp} {u : Nat} {k : Kd} : ∀ {n}, k ∈ E.wtK u n → k.1 = 1 ∧ k.2.2 = u ∧ k.2.1 < n
  | 0, h => (List.not_mem_nil h).elim
  | n + 1, h => by
    rcases List.mem_append.1 (show k ∈ E.wtK u n ++ (if E.wok n u then [Kd.wt n u] else []) from h) with h | h
    · have := wtK_mem2 h; exact ⟨this.1, this.2.1, by omega⟩
    · by_cases hc : E.wok n u = true
      · rw [if_pos hc] at h
        obtain rfl := List.mem_singleton.1 h
        exact ⟨rfl, rfl, Nat.lt_succ_self _⟩
      · rw [if_neg hc] at h; exact (List.not_mem_nil h).elim
theorem mvK_nodup (E : Exp) (u : Nat) : ∀ n, (E.mvK u n).Nodup
  | 0 => List.nodup_nil
  | n + 1 => by
    show (E.mvK u n ++ (if E.ok n u then [Kd.mv n u] else [])).Nodup
    refine List.nodup_append.2 ⟨mvK_nodup E u n, (by split <;> simp), ?_⟩
    rintro a ha b hb rfl
    have h1 := mvK_mem ha
    split at hb
    · obtain rfl := List.mem_singleton.1 hb; exact absurd h1.2.2 (Nat.lt_irrefl _)
    · exact List.not_mem_nil hb
theorem wtK_nodup (E : Exp) (u : Nat) : ∀ n, (E.wtK u n).Nodup
  | 0 => List.nodup_nil
  | n + 1 => by
    show (E.wtK u n ++ (if E.wok n u then [Kd.wt n u] else [])).Nodup
    refine List.nodup_append.2 ⟨wtK_nodup E u n, (by split <;> simp), ?_⟩
    rintro a ha b hb rfl
    have h1 := wtK_mem2 ha
    split at hb
    · obtain rfl := List.mem_singleton.1 hb; exact absurd h1.2.2 (Nat.lt_irrefl _)
    · exact List.not_mem_nil hb
theorem timeK_mem2 {E : Exp} {k : Kd} : ∀ {n}, k ∈ E.timeK n → k.2.2 < n ∧ k.1 ≤ 1
  | 0, h => (List.not_mem_nil h).elim
  | n + 1, h => by
    rcases List.mem_append.1 (show k ∈ E.timeK n ++ (E.mvK n E.Z.length ++ E.wtK n E.N) from h) with h | h
    · have := timeK_mem2 h; omega
    · rcases List.mem_append.1 h with h | h
      · have := mvK_mem h; omega
      · have := wtK_mem h; omega
theorem timeK_nodup (E : Exp) : ∀ n, (E.timeK n).Nodup
  | 0 => List.nodup_nil
  | n + 1 => by
    show (E.timeK n ++ (E.mvK n E.Z.length ++ E.wtK n E.N)).Nodup
    refine List.nodup_append.2 ⟨timeK_nodup E n, List.nodup_append.2 ⟨mvK_nodup E n _, wtK_nodup E n _, ?_⟩, ?_⟩
    · rintro a ha b hb rfl
      have h1 := mvK_mem ha
      have h2 := wtK_mem hb
      omega
    · rintro a ha b hb rfl
      have h1 := timeK_mem2 ha
      rcases List.mem_append.1 hb with h | h
      · have := mvK_mem h; omega
      · have := wtK_mem h; omega
theorem soK_mem2 {k : Kd} : ∀ {n}, k ∈ Exp.soK n → ∃ u, u < n ∧ k = Kd.so u
  | 0, h => (List.not_mem_nil h).elim
  | n + 1, h => by
    rcases List.mem_append.1 (show k ∈ Exp.soK n ++ [Kd.so n] from h) with h | h
    · obtain ⟨u, h1, h2⟩ := soK_mem2 h; exact ⟨u, by omega, h2⟩
    · exact ⟨n, Nat.lt_succ_self _, List.mem_singleton.1 h⟩
theorem siK_mem2 {k : Kd} : ∀ {n}, k ∈ Exp.siK n → ∃ u, u < n ∧ k = Kd.si u
  | 0, h => (List.not_mem_nil h).elim
  | n + 1, h => by
    rcases List.mem_append.1 (show k ∈ Exp.siK n ++ [Kd.si n] from h) with h | h
    · obtain ⟨u, h1, h2⟩ := siK_mem2 h; exact ⟨u, by omega, h2⟩
    · exact ⟨n, Nat.lt_succ_self _, List.mem_singleton.1 h⟩
theorem soK_nodup : ∀ n, (Exp.soK n).Nodup
  | 0 => List.nodup_nil
  | n + 1 => by
    show (Exp.soK n ++ [Kd.so n]).Nodup
    refine List.nodup_append.2 ⟨soK_nodup n, (by simp), ?_⟩
    rintro a ha b hb rfl
    obtain ⟨u, h1, rfl⟩ := soK_mem2 ha
    have := List.mem_singleton.1 hb
    have h2 : u = n := congrArg (fun k : Kd => k.2.2) this
    omega
theorem siK_nodup : ∀ n, (Exp.siK n).Nodup
  | 0 => List.nodup_nil
  | n + 1 => by
    show (Exp.siK n ++ [Kd.si n]).Nodup
    refine List.nodup_append.2 ⟨siK_nodup n, (by simp), ?_⟩
    rintro a ha b hb rfl
    obtain ⟨u, h1, rfl⟩ := siK_mem2 ha
    have := List.mem_singleton.1 hb
    have h2 : u = n := congrArg (fun k : Kd => k.2.2) this
    omega
theorem kinds_nodup (E : Exp) : E.kinds.Nodup := by
  unfold Exp.kinds
  refine List.nodup_append.2 ⟨timeK_nodup E _, List.nodup_append.2 ⟨soK_nodup _, siK_nodup _, ?_⟩, ?_⟩
  · rintro a ha b hb rfl
    have h1 := soK_mem ha
    have h2 := siK_mem hb
    omega
  · rintro a ha b hb rfl
    have h1 := timeK_mem2 ha
    rcases List.mem_append.1 hb with h | h
    · have := soK_mem h; omega
    · have := siK_mem h; omega
theorem map_set_kd {K : List Kd} (hn : K.Nodup) {j : Nat} {k0 : Kd} (hj : K[j]? = some k0) (f : Kd → Int) (y : Int) : (K.map f).set j y = K.map (fun k => if k = k0 then y else f k) := by
  obtain ⟨h1, e1⟩ := List.getElem?_eq_some_iff.1 hj
  refine List.ext_getElem (by simp) (fun i h2 h3 => ?_)
  rw [List.getElem_set]
  simp only [List.getElem_map]
  by_cases e : j = i
  · subst e
    rw [if_pos rfl, if_pos e1]
  · rw [if_neg e, if_neg]
    intro e2
    exact e ((List.getElem_inj hn).1 (e1.trans e2.symm))
theorem map_kd_congr {K : List Kd} {f g : Kd → Int} (h : ∀ k ∈ K, f k = g k) : K.map f = K.map g := List.map_congr_left h
def mixK (q : Kd → Option (Int × Int)) (left : Int × Int → Bool) (g base : Kd → Int) (k : Kd) : Int := match q k with
  | some p => if left p = true then base k else g k
  | none => base k
def fulK (q : Kd → Option (Int × Int)) (g base : Kd → Int) (k : Kd) : Int := if (q k).isSome then g k else base k
theorem mix_start {K : List Kd} {q : Kd → Option (Int × Int)} {g base : Kd → Int} : K.map base = K.map (mixK q (fun p => (plF q K p).isSome) g base) := by
  refine map_kd_congr (fun k hk => ?_)
  unfold mixK
  cases h : q k with
  | none => rfl
  | some p => simp only; rw [if_pos (plF_has hk h)]
theorem mix_step {K : List Kd} (hn : K.Nodup) {q : Kd → Option (Int × Int)} (hq : ∀ k ∈ K, ∀ k' ∈ K, ∀ p, q k = some p → q k' = some p → k = k') {left : Int × Int → Bool} {g base : Kd → Int} {p : Int × Int} (hp : left p = true) {j : Nat} {k : Kd} (hj : K[j]? = some k) (hk : q k = some p) :
    (K.map (mixK q left g base)).set j (g k) = K.map (mixK q (fun r => left r && !decide (r = p)) g base) := by
  rw [map_set_kd hn hj]
  refine map_kd_congr (fun k' hk' => ?_)
  have hkm := List.mem_of_getElem? hj
  by_cases e : k' = k
  · subst e
    rw [if_pos rfl]
    unfold mixK
    simp only [hk]
    simp
  · rw [if_neg e]
    unfold mixK
    cases h : q k' with
    | none => rfl
    | some r =>
      simp only
      have hr : r ≠ p := fun e2 => e (hq k' hk' k hkm r h (by rw [e2]; exact hk))
      simp [hr]
theorem mix_end {K : List Kd} {q : Kd → Option (Int × Int)} {left : Int × Int → Bool} {g base : Kd → Int} (h : ∀ k ∈ K, ∀ p, q k = some p → left p = false) : K.map (mixK q left g base) = K.map (fulK q g base) := by
  refine map_kd_congr (fun k hk => ?_)
  unfold mixK fulK
  cases e : q k with
  | none => rfl
  | some p => simp only; rw [h k hk p e]; rfl
theorem qW_inj {K : List Kd} : ∀ k ∈ K, ∀ k' ∈ K, ∀ p, qW k = some p → qW k' = some p → k = k' := by
  rintro ⟨a, b, c⟩ _ ⟨a', b', c'⟩ _ p h h'
  unfold qW at h h'
  split at h
  · next e =>
    split at h'
    · next e' =>
      cases e; cases e'
      have := Option.some.inj (h.trans h'.symm)
      obtain ⟨h1, h2⟩ := Prod.mk.inj this
      have : b = b' := by omega
      have : c = c' := by omega
      simp [*]
    · cases h'
  · cases h
theorem qE_inj {E : Exp} {s : Nat} : ∀ k ∈ E.kinds, ∀ k' ∈ E.kinds, ∀ p, qE s k = some p → qE s k' = some p → k = k' := by
  intro k hk k' hk' p h h'
  rcases Exp.kinds_cases hk with ⟨i, u, rfl, _⟩ | ⟨v, u, _, rfl, _⟩ | ⟨u, _, rfl⟩ | ⟨u, _, rfl⟩
  · cases h
  · cases h
  · rcases Exp.kinds_cases hk' with ⟨i, u', rfl, _⟩ | ⟨v, u', _, rfl, _⟩ | ⟨u', _, rfl⟩ | ⟨u', _, rfl⟩
    · cases h'
    · cases h'
    · have h1 : some ((s : Int), (u : Int)) = some p := h
      have h2 : some ((s : Int), (u' : Int)) = some p := h'
      have := Option.some.inj (h1.trans h2.symm)
      have : u = u' := by have := (Prod.mk.inj this).2; omega
      rw [this]
    · cases h'
  · cases h
theorem qX_inj {E : Exp} {t : Nat} : ∀ k ∈ E.kinds, ∀ k' ∈ E.kinds, ∀ p, qX t k = some p → qX t k' = some p → k = k' := by
  intro k hk k' hk' p h h'
  rcases Exp.kinds_cases hk with ⟨i, u, rfl, _⟩ | ⟨v, u, _, rfl, _⟩ | ⟨u, _, rfl⟩ | ⟨u, _, rfl⟩
  · cases h
  · cases h
  · cases h
  · rcases Exp.kinds_cases hk' with ⟨i, u', rfl, _⟩ | ⟨v, u', _, rfl, _⟩ | ⟨u', _, rfl⟩ | ⟨u', _, rfl⟩
    · cases h'
    · cases h'
    · cases h'
    · have h1 : some ((t : Int), (u : Int)) = some p := h
      have h2 : some ((t : Int), (u' : Int)) = some p := h'
      have := Option.some.inj (h1.trans h2.symm)
      have : u = u' := by have := (Prod.mk.inj this).2; omega
      rw [this]
theorem ful_all (E : Exp) (M : List MoveT) : E.kinds.map (fulK (qX E.t) (flwK E M) (fulK (qE E.s) (flwK E M) (fulK qW (flwK E M) (amtK M)))) = E.kinds.map (flwK E M) := by
  refine map_kd_congr (fun k hk => ?_)
  rcases Exp.kinds_cases hk with ⟨i, u, rfl, _⟩ | ⟨v, u, _, rfl, _⟩ | ⟨u, _, rfl⟩ | ⟨u, _, rfl⟩ <;> rfl
def carL (a x : Int) : List Int → List (Int × Int) → List Int
  | F, [] => F
  | F, c :: C => carL a x (if c.1 = a then F.set c.2.toNat x else F) C
theorem carL_snoc (a x : Int) : ∀ (F : List Int) (C : List (Int × Int)) (c : Int × Int), carL a x F (C ++ [c]) = if c.1 = a then (carL a x F C).set c.2.toNat x else carL a x F C
  | F, [], c => rfl
  | F, d :: C, c => by
    show carL a x _ (C ++ [c]) = _
    rw [carL_snoc a x _ C c]; rfl
theorem carL_step {a x : Int} {F : List Int} {C : List (Int × Int)} {i : Nat} {c : Int × Int} (hc : C[i]? = some c) : carL a x F (C.take (i + 1)) = if c.1 = a then (carL a x F (C.take i)).set c.2.toNat x else carL a x F (C.take i) := by
  obtain ⟨h1, rfl⟩ := List.getElem?_eq_some_iff.1 hc
  rw [List.take_succ_eq_append_getElem h1, carL_snoc]
theorem carL_len (a x : Int) : ∀ (F : List Int) (C : List (Int × Int)), (carL a x F C).length = F.length
  | F, [] => rfl
  | F, c :: C => by
    show (carL a x _ C).length = _
    rw [carL_len a x _ C]
    split <;> simp
theorem carL_map {K : List Kd} (hn : K.Nodup) (i0 u0 : Nat) (x : Int) : ∀ (C : List (Int × Int)) (f : Kd → Int), (∀ c ∈ C, ∃ (i j : Nat), c = ((i : Int), (j : Int)) ∧ K[j]? = some (Kd.mv i u0)) →
    carL (i0 : Int) x (K.map f) C = K.map (fun k => if k = Kd.mv i0 u0 ∧ C.any (fun c => c.1 == (i0 : Int)) = true then x else f k)
  | [], f, _ => by
    show K.map f = _
    refine map_kd_congr (fun k _ => ?_)
    rw [if_neg (fun e => by cases e.2)]
  | c :: C, f, h => by
    obtain ⟨i, j, rfl, hk⟩ := h c List.mem_cons_self
    have hC := fun d hd => h d (List.mem_cons_of_mem _ hd)
    show carL (i0 : Int) x (if ((i : Nat) : Int) = (i0 : Int) then (K.map f).set ((j : Int)).toNat x else K.map f) C = _
    by_cases e : i = i0
    · subst e
      rw [if_pos rfl, Int.toNat_natCast, map_set_kd hn hk, carL_map hn i u0 x C _ hC]
      refine map_kd_congr (fun k _ => ?_)
      have e3 : List.any (((i : Int), (j : Int)) :: C) (fun c => c.1 == (i : Int)) = true := by simp
      by_cases e2 : k = Kd.mv i u0
      · rw [if_pos (show k = Kd.mv i u0 ∧ _ from ⟨e2, e3⟩)]
        split
        · rfl
        · first | rfl | rw [if_pos e2]
      · rw [if_neg (fun e4 : k = Kd.mv i u0 ∧ List.any (((i : Int), (j : Int)) :: C) (fun c => c.1 == (i : Int)) = true => e2 e4.1), if_neg (fun e4 : k = Kd.mv i u0 ∧ C.any (fun c => c.1 == (i : Int)) = true => e2 e4.1), if_neg e2]
    · have e3 : List.any (((i : Int), (j : Int)) :: C) (fun c => c.1 == (i0 : Int)) = C.any (fun c => c.1 == (i0 : Int)) := by
        have : ((i : Int) == (i0 : Int)) = false := by simp; omega
        simp only [List.any_cons, this, Bool.false_or]
      rw [if_neg (fun e2 => e (by omega)), carL_map hn i0 u0 x C f hC]
      refine map_kd_congr (fun k _ => ?_)
      rw [e3]
theorem amt_step {E : Exp} {M : List MoveT} {m : MoveT} {n : Nat} (hm : M[n]? = some m) (hin : ∀ m ∈ M, MvIn E m) (hn : (M.map fun m => (m.2.1, m.1)).Nodup) :
    ∃ i u : Nat, m.1 = (i : Int) ∧ m.2.1 = (u : Int) ∧ E.ok i u = true ∧ carL m.1 m.2.2 (E.kinds.map (amtK (M.take n))) (crossF E E.kinds (((E.frA i : Nat) : Int), (u : Int))) = E.kinds.map (amtK (M.take (n + 1))) := by
  obtain ⟨h1, e1⟩ := List.getElem?_eq_some_iff.1 hm
  obtain ⟨i, u, hi, hu, ho⟩ := hin m (List.mem_of_getElem? hm)
  refine ⟨i, u, hi, hu, ho, ?_⟩
  rw [hi, carL_map (kinds_nodup E) i u m.2.2 _ _ (fun c hc => by
    obtain ⟨i', u', j, rfl, hk, hp⟩ := cross_at hc
    have : u = u' := by have := (Prod.mk.inj hp).2; omega
    subst this
    exact ⟨i', j, rfl, hk⟩)]
  refine map_kd_congr (fun k hk => ?_)
  rw [List.take_succ_eq_append_getElem h1, e1]
  by_cases e : k = Kd.mv i u
  · subst e
    obtain ⟨j, hj⟩ := List.mem_iff_getElem?.1 hk
    rw [if_pos ⟨rfl, List.any_eq_true.2 ⟨_, at_cross (E := E) hj, by simp⟩⟩]
    show m.2.2 = nOf (M.take n ++ [m]) ((u : Int), (i : Int))
    rw [nOf_snoc, if_pos (by rw [hi, hu]), nOf_none (M := M.take n)]
    · omega
    · intro hc
      obtain ⟨m', hm', e2⟩ := List.mem_map.1 hc
      obtain ⟨n', hn'⟩ := List.mem_iff_getElem?.1 hm'
      have hlt : n' < n := by have := (List.getElem?_eq_some_iff.1 hn').1; rw [List.length_take] at this; omega
      rw [List.getElem?_take_of_lt hlt] at hn'
      obtain ⟨g1, g2⟩ := List.getElem?_eq_some_iff.1 hn'
      have := (List.getElem_inj (i := n') (j := n) (h₀ := by simpa using g1) (h₁ := by simpa using h1) hn).1 (by
        simp only [List.getElem_map, g2, e1]
        rw [e2, hi, hu])
      omega
  · rw [if_neg (fun e2 => e e2.1)]
    obtain ⟨a, i', u'⟩ := k
    match a with
    | 0 =>
      show nOf (M.take n) ((u' : Int), (i' : Int)) = nOf (M.take n ++ [m]) ((u' : Int), (i' : Int))
      rw [nOf_snoc, if_neg, Int.add_zero]
      intro e2
      rw [hi, hu] at e2
      obtain ⟨e3, e4⟩ := Prod.mk.inj e2
      have h5 : u = u' := by omega
      have h6 : i = i' := by omega
      exact e (by rw [h5, h6])
    | a + 1 => rfl
end Go.Proofs.Ytbkmfjegbmjknaa
namespace Go.Proofs.Ytbkmfjegbmjknaa
set_option linter.unusedVariables false
namespace Exp
variable {E : Exp}
theorem mem_mvK {i u : Nat} (h : E.ok i u = true) : ∀ {n}, i < n → Kd.mv i u ∈ E.mvK u n
  | 0, h1 => by omega
  | n + 1, h1 => by
    refine List.mem_append.2 ?_
    by_cases e : i = n
    · subst e; right; rw [if_pos h]; exact List.mem_singleton.2 rfl
    · left; exact mem_mvK h (by omega)
theorem mem_timeK {u : Nat} {k : Kd} (h : k ∈ E.mvK u E.Z.length ++ E.wtK u E.N) : ∀ {n}, u < n → k ∈ E.timeK n
  | 0, h1 => by omega
  | n + 1, h1 => by
    refine List.mem_append.2 ?_
    by_cases e : u = n
    · subst e; right; exact h
    · left; exact mem_timeK h (by omega)
theorem mem_mv {i u : Nat} (h : E.ok i u = true) : Kd.mv i u ∈ E.kinds :=
  List.mem_append.2 (.inl (mem_timeK (List.mem_append.2 (.inl (mem_mvK h (ok_lt h).1))) (by have := (ok_lt h).2; omega)))
theorem good_of (hW : SpanNet E.Z E.N) (hs : E.s < E.N) (ht : E.t < E.N) (hne : E.s ≠ E.t) : E.Good := ⟨hW.lt, hs, ht, hne, fun a ha => (hW.caps a ha).1⟩
end Exp
section
variable {E : Exp}
end
end Go.Proofs.Ytbkmfjegbmjknaa
