/- Lemmas of the layers below, several texts in one. -/
import Derived.Test.YtlkbohpnlbfopaaGreatBV
import Derived.Test.YtlkbohpnlbfopaaGreatBS
import Derived.Test.YtlkbohpnlbfopaaGreatCA
import Derived.Test.YtlkbohpnlbfopaaGreatCB
namespace Go.Proofs.YtlkbohpnlbfopaaGreat
open Go.RowKit
set_option linter.unusedVariables false
def mvKd (k : Kd) (x : Int) : List MoveT := if k.1 = 0 ∧ 0 < x then [((k.2.1 : Int), (k.2.2 : Int), x)] else []
def mvsL : List Kd → List Int → List MoveT
  | [], _ => []
  | _ :: _, [] => []
  | k :: K, x :: F => mvKd k x ++ mvsL K F
theorem mvKd_len (k : Kd) (x : Int) : (mvKd k x).length ≤ 1 := by unfold mvKd; split <;> simp
theorem mvsL_len : ∀ (K : List Kd) (F : List Int), (mvsL K F).length ≤ K.length
  | [], _ => Nat.le_refl _
  | _ :: _, [] => Nat.zero_le _
  | k :: K, x :: F => by
    show (mvKd k x ++ mvsL K F).length ≤ _
    have h1 := mvKd_len k x
    have h2 := mvsL_len K F
    rw [List.length_append, List.length_cons]
    omega
theorem mvsL_mem {m : MoveT} : ∀ {K : List Kd} {F : List Int}, m ∈ mvsL K F ↔ ∃ (j : Nat) (k : Kd) (x : Int), K[j]? = some k ∧ F[j]? = some x ∧ k.1 = 0 ∧ 0 < x ∧ m = ((k.2.1 : Int), (k.2.2 : Int), x)
  | [], F => ⟨fun h => (List.not_mem_nil h).elim, fun ⟨j, k, x, h, _⟩ => by simp at h⟩
  | k :: K, [] => ⟨fun h => (List.not_mem_nil h).elim, fun ⟨j, k, x, _, h, _⟩ => by simp at h⟩
  | k :: K, x :: F => by
    show m ∈ mvKd k x ++ mvsL K F ↔ _
    rw [List.mem_append, mvsL_mem (K := K) (F := F)]
    constructor
    · rintro (h | ⟨j, k', x', h1, h2, h3⟩)
      · unfold mvKd at h
        by_cases hc : k.1 = 0 ∧ 0 < x
        · rw [if_pos hc] at h
          exact ⟨0, k, x, rfl, rfl, hc.1, hc.2, List.mem_singleton.1 h⟩
        · rw [if_neg hc] at h; exact (List.not_mem_nil h).elim
      · exact ⟨j + 1, k', x', h1, h2, h3⟩
    · rintro ⟨j, k', x', h1, h2, h3, h4, h5⟩
      cases j with
      | zero =>
        cases h1; cases h2
        refine .inl ?_
        unfold mvKd
        rw [if_pos ⟨h3, h4⟩, h5]
        exact List.mem_singleton.2 rfl
      | succ j => exact .inr ⟨j, k', x', h1, h2, h3, h4, h5⟩
def kdLt (a b : Kd) : Prop := a.1 = 0 → b.1 = 0 → a.2.2 < b.2.2 ∨ a.2.2 = b.2.2 ∧ a.2.1 < b.2.1
theorem mvK_mem {E : Exp} {u : Nat} {k : Kd} : ∀ {n}, k ∈ E.mvK u n → k.1 = 0 ∧ k.2.2 = u ∧ k.2.1 < n
  | 0, h => (List.not_mem_nil h).elim
  | n + 1, h => by
    rcases List.mem_append.1 (show k ∈ E.mvK u n ++ (if E.ok n u then [Kd.mv n u] else []) from h) with h | h
    · have := mvK_mem h; exact ⟨this.1, this.2.1, by omega⟩
    · by_cases hc : E.ok n u = true
      · rw [if_pos hc] at h
        obtain rfl := List.mem_singleton.1 h
        exact ⟨rfl, rfl, Nat.lt_succ_self _⟩
      · rw [if_neg hc] at h; exact (List.not_mem_nil h).elim
theorem wtK_mem {E : Exp} {u : Nat} {k : Kd} : ∀ {n}, k ∈ E.wtK u n → k.1 = 1 ∧ k.2.2 = u
  | 0, h => (List.not_mem_nil h).elim
  | n + 1, h => by
    rcases List.mem_append.1 (show k ∈ E.wtK u n ++ (if E.wok n u then [Kd.wt n u] else []) from h) with h | h
    · exact wtK_mem h
    · by_cases hc : E.wok n u = true
      · rw [if_pos hc] at h
        obtain rfl := List.mem_singleton.1 h
        exact ⟨rfl, rfl⟩
      · rw [if_neg hc] at h; exact (List.not_mem_nil h).elim
theorem soK_mem {k : Kd} : ∀ {n}, k ∈ Exp.soK n → k.1 = 2
  | 0, h => (List.not_mem_nil h).elim
  | n + 1, h => by
    rcases List.mem_append.1 (show k ∈ Exp.soK n ++ [Kd.so n] from h) with h | h
    · exact soK_mem h
    · obtain rfl := List.mem_singleton.1 h; rfl
theorem siK_mem {k : Kd} : ∀ {n}, k ∈ Exp.siK n → k.1 = 3
  | 0, h => (List.not_mem_nil h).elim
  | n + 1, h => by
    rcases List.mem_append.1 (show k ∈ Exp.siK n ++ [Kd.si n] from h) with h | h
    · exact siK_mem h
    · obtain rfl := List.mem_singleton.1 h; rfl
end Go.Proofs.YtlkbohpnlbfopaaGreat
namespace Go.Proofs.YtlkbohpnlbfopaaGreat
set_option linter.unusedVariables false
theorem Exp.ok2_lt {E : Exp} {i u : Nat} (h : E.ok i u = true) : i < E.Z.length ∧ u ≤ E.H := by
  obtain ⟨a, ha, h1, _⟩ := E.ok_arc h
  exact ⟨(List.getElem?_eq_some_iff.1 ha).1, by omega⟩
def pmvAt (F : List Int) (u : Int) (c : Int × Int) : Option MoveT := if 0 < F.getD c.2.toNat 0 then some (c.1, u, F.getD c.2.toNat 0) else none
def pmv (F : List Int) (u : Int) (C : List (Int × Int)) : List MoveT := C.filterMap (pmvAt F u)
theorem crsSorted {E : Exp} {K : List Kd} (h : K.Pairwise kdLt) (p : Int × Int) : (crossF E K p).Pairwise (fun a b => a.1 < b.1) := by
  have h1 : K.zipIdx.Pairwise (fun x y => kdLt x.1 y.1) := List.pairwise_map.1 (by rw [List.zipIdx_map_fst]; exact h)
  refine List.Pairwise.filterMap _ (fun a a' hab b hb b' hb' => ?_) h1
  obtain ⟨⟨a1, a2, a3⟩, a4⟩ := a
  obtain ⟨⟨b1, b2, b3⟩, b4⟩ := a'
  match a1, b1 with
  | 0, 0 =>
    have e1 : (if ((E.frA a2 : Nat) : Int) = p.1 ∧ ((a3 : Nat) : Int) = p.2 then some ((a2 : Int), (a4 : Int)) else none) = some b := hb
    have e2 : (if ((E.frA b2 : Nat) : Int) = p.1 ∧ ((b3 : Nat) : Int) = p.2 then some ((b2 : Int), (b4 : Int)) else none) = some b' := hb'
    split at e1
    · next c1 =>
      split at e2
      · next c2 =>
        cases e1; cases e2
        rcases hab rfl rfl with h | ⟨h1, h2⟩
        · have h : a3 < b3 := h
          omega
        · have h2 : a2 < b2 := h2
          show (a2 : Int) < (b2 : Int)
          omega
      · cases e2
    · cases e1
  | n + 1, _ => cases hb
  | 0, n + 1 => cases hb'
theorem pmv_sorted {F : List Int} {u : Int} {C : List (Int × Int)} (h : C.Pairwise (fun a b => a.1 < b.1)) : (pmv F u C).Pairwise (fun a b => a.1 < b.1) := by
  refine List.Pairwise.filterMap _ (fun a a' hab b hb b' hb' => ?_) h
  unfold pmvAt at hb hb'
  split at hb
  · split at hb'
    · cases hb; cases hb'; exact hab
    · cases hb'
  · cases hb
theorem pmv_mem {E : Exp} {K : List Kd} {F : List Int} (hl : F.length = K.length) {p : Int × Int} {m : MoveT} : m ∈ pmv F p.2 (crossF E K p) ↔ ∃ (j i u : Nat) (x : Int), K[j]? = some (Kd.mv i u) ∧ F[j]? = some x ∧ 0 < x ∧ m = ((i : Int), (u : Int), x) ∧ p = (((E.frA i : Nat) : Int), (u : Int)) := by
  unfold pmv
  rw [List.mem_filterMap]
  constructor
  · rintro ⟨c, hc, hm⟩
    obtain ⟨i, u, j, rfl, hk, rfl⟩ := cross_at hc
    have hj : j < F.length := by rw [hl]; exact (List.getElem?_eq_some_iff.1 hk).1
    have e : F.getD (j : Int).toNat 0 = F[j] := by rw [List.getD_eq_getElem?_getD, Int.toNat_natCast, List.getElem?_eq_getElem hj]; rfl
    unfold pmvAt at hm
    simp only [e] at hm
    split at hm
    · next h => cases hm; exact ⟨j, i, u, F[j], hk, List.getElem?_eq_getElem hj, h, rfl, rfl⟩
    · cases hm
  · rintro ⟨j, i, u, x, hk, hx, h0, rfl, rfl⟩
    refine ⟨((i : Int), (j : Int)), at_cross hk, ?_⟩
    have e : F.getD (j : Int).toNat 0 = x := by rw [List.getD_eq_getElem?_getD, Int.toNat_natCast, hx]; rfl
    unfold pmvAt
    simp only [e, if_pos h0]
structure GatU (E : Exp) (K : List Kd) (F : List Int) (left : Int × Int → Bool) (M : List MoveT) : Prop where
  nd : M.Nodup
  mem : ∀ m, m ∈ M ↔ ∃ (j i u : Nat) (x : Int), K[j]? = some (Kd.mv i u) ∧ F[j]? = some x ∧ 0 < x ∧ m = ((i : Int), (u : Int), x) ∧ left (((E.frA i : Nat) : Int), (u : Int)) = false
theorem GatU.start {E : Exp} {K : List Kd} {F : List Int} {left : Int × Int → Bool} (h : ∀ p, left p = false → crossF E K p = []) : GatU E K F left [] := by
  refine ⟨List.nodup_nil, fun m => ⟨fun hm => (List.not_mem_nil hm).elim, ?_⟩⟩
  rintro ⟨j, i, u, x, hk, _, _, _, hp⟩
  have := at_cross (E := E) hk
  rw [h _ hp] at this
  cases this
theorem GatU.step {E : Exp} {K : List Kd} {F : List Int} {left : Int × Int → Bool} {M : List MoveT} (h : GatU E K F left M) (hl : F.length = K.length) (hs : K.Pairwise kdLt) {p : Int × Int} (hp : left p = true) :
    GatU E K F (fun q => left q && !decide (q = p)) (M ++ pmv F p.2 (crossF E K p)) := by
  have hk : ∀ {j j' i u : Nat}, K[j]? = some (Kd.mv i u) → K[j']? = some (Kd.mv i u) → j = j' := by
    intro j j' i u h1 h2
    obtain ⟨g1, e1⟩ := List.getElem?_eq_some_iff.1 h1
    obtain ⟨g2, e2⟩ := List.getElem?_eq_some_iff.1 h2
    have hp := List.pairwise_iff_getElem.1 hs
    rcases Nat.lt_trichotomy j j' with h | h | h
    · have := hp j j' g1 g2 h
      rw [e1, e2] at this
      have := this rfl rfl
      simp only at this
      omega
    · exact h
    · have := hp j' j g2 g1 h
      rw [e1, e2] at this
      have := this rfl rfl
      simp only at this
      omega
  refine ⟨List.nodup_append.2 ⟨h.nd, (pmv_sorted (crsSorted hs p)).imp (fun {a b} hab e => by rw [e] at hab; omega), ?_⟩, fun m => ?_⟩
  · rintro a ha b hb rfl
    obtain ⟨j, i, u, x, h1, h2, h3, rfl, h5⟩ := (h.mem _).1 ha
    obtain ⟨j', i', u', x', g1, g2, g3, g4, rfl⟩ := (pmv_mem hl).1 hb
    obtain ⟨q1, q2⟩ := Prod.mk.inj g4
    obtain ⟨q2, q3⟩ := Prod.mk.inj q2
    obtain rfl : i = i' := by omega
    obtain rfl : u = u' := by omega
    rw [hp] at h5
    cases h5
  · rw [List.mem_append, h.mem, pmv_mem hl]
    constructor
    · rintro (⟨j, i, u, x, h1, h2, h3, h4, h5⟩ | ⟨j, i, u, x, h1, h2, h3, h4, h5⟩)
      · exact ⟨j, i, u, x, h1, h2, h3, h4, by simp [h5]⟩
      · exact ⟨j, i, u, x, h1, h2, h3, h4, by simp [h5]⟩
    · rintro ⟨j, i, u, x, h1, h2, h3, h4, h5⟩
      by_cases e : left (((E.frA i : Nat) : Int), (u : Int)) = false
      · exact .inl ⟨j, i, u, x, h1, h2, h3, h4, e⟩
      · refine .inr ⟨j, i, u, x, h1, h2, h3, h4, ?_⟩
        rw [Bool.and_eq_false_iff] at h5
        rcases h5 with h5 | h5
        · exact absurd h5 e
        · exact (show (((E.frA i : Nat) : Int), (u : Int)) = p by simpa using h5).symm
theorem GatU.len {E : Exp} {K : List Kd} {F : List Int} {left : Int × Int → Bool} {M : List MoveT} (h : GatU E K F left M) : M.length ≤ K.length := by
  refine Nat.le_trans (List.Nodup.length_le_of_subset (l₂ := mvsL K F) h.nd (fun m hm => ?_)) (mvsL_len K F)
  obtain ⟨j, i, u, x, h1, h2, h3, h4, _⟩ := (h.mem m).1 hm
  exact mvsL_mem.2 ⟨j, Kd.mv i u, x, h1, h2, rfl, h3, h4⟩
end Go.Proofs.YtlkbohpnlbfopaaGreat
namespace Go.Proofs.YtlkbohpnlbfopaaGreat
set_option linter.unusedVariables false
namespace Exp
variable {E : Exp}
end Exp
end Go.Proofs.YtlkbohpnlbfopaaGreat
namespace Go.Proofs.YtlkbohpnlbfopaaGreat
set_option linter.unusedVariables false
theorem wtK_mem2 {E : Exp} {u : Nat} {k : Kd} : ∀ {n}, k ∈ E.wtK u n → k.1 = 1 ∧ k.2.2 = u ∧ k.2.1 < n
  | 0, h => (List.not_mem_nil h).elim
  | n + 1, h => by
    rcases List.mem_append.1 (show k ∈ E.wtK u n ++ (if E.wok n u then [Kd.wt n u] else []) from h) with h | h
    · have := wtK_mem2 h; exact ⟨this.1, this.2.1, by omega⟩
    · by_cases hc : E.wok n u = true
      · rw [if_pos hc] at h
        obtain rfl := List.mem_singleton.1 h
        exact ⟨rfl, rfl, Nat.lt_succ_self _⟩
      · rw [if_neg hc] at h; exact (List.not_mem_nil h).elim
theorem mvK_nodup (E : Exp) (u : Nat) : ∀ n, (E.mvK u n).Nodup
  | 0 => List.nodup_nil
  | n + 1 => by
    show (E.mvK u n ++ (if E.ok n u then [Kd.mv n u] else [])).Nodup
    refine List.nodup_append.2 ⟨mvK_nodup E u n, (by split <;> simp), ?_⟩
    rintro a ha b hb rfl
    have h1 := mvK_mem ha
    split at hb
    · obtain rfl := List.mem_singleton.1 hb; exact absurd h1.2.2 (Nat.lt_irrefl _)
    · exact List.not_mem_nil hb
theorem wtK_nodup (E : Exp) (u : Nat) : ∀ n, (E.wtK u n).Nodup
  | 0 => List.nodup_nil
  | n + 1 => by
    show (E.wtK u n ++ (if E.wok n u then [Kd.wt n u] else [])).Nodup
    refine List.nodup_append.2 ⟨wtK_nodup E u n, (by split <;> simp), ?_⟩
    rintro a ha b hb rfl
    have h1 := wtK_mem2 ha
    split at hb
    · obtain rfl := List.mem_singleton.1 hb; exact absurd h1.2.2 (Nat.lt_irrefl _)
    · exact List.not_mem_nil hb
theorem timeK_mem2 {E : Exp} {k : Kd} : ∀ {n}, k ∈ E.timeK n → k.2.2 < n ∧ k.1 ≤ 1
  | 0, h => (List.not_mem_nil h).elim
  | n + 1, h => by
    rcases List.mem_append.1 (show k ∈ E.timeK n ++ (E.mvK n E.Z.length ++ E.wtK n E.N) from h) with h | h
    · have := timeK_mem2 h; omega
    · rcases List.mem_append.1 h with h | h
      · have := mvK_mem h; omega
      · have := wtK_mem h; omega
theorem timeK_nodup (E : Exp) : ∀ n, (E.timeK n).Nodup
  | 0 => List.nodup_nil
  | n + 1 => by
    show (E.timeK n ++ (E.mvK n E.Z.length ++ E.wtK n E.N)).Nodup
    refine List.nodup_append.2 ⟨timeK_nodup E n, List.nodup_append.2 ⟨mvK_nodup E n _, wtK_nodup E n _, ?_⟩, ?_⟩
    · rintro a ha b hb rfl
      have h1 := mvK_mem ha
      have h2 := wtK_mem hb
      omega
    · rintro a ha b hb rfl
      have h1 := timeK_mem2 ha
      rcases List.mem_append.1 hb with h | h
      · have := mvK_mem h; omega
      · have := wtK_mem h; omega
theorem soK_mem2 {k : Kd} : ∀ {n}, k ∈ Exp.soK n → ∃ u, u < n ∧ k = Kd.so u
  | 0, h => (List.not_mem_nil h).elim
  | n + 1, h => by
    rcases List.mem_append.1 (show k ∈ Exp.soK n ++ [Kd.so n] from h) with h | h
    · obtain ⟨u, h1, h2⟩ := soK_mem2 h; exact ⟨u, by omega, h2⟩
    · exact ⟨n, Nat.lt_succ_self _, List.mem_singleton.1 h⟩
theorem siK_mem2 {k : Kd} : ∀ {n}, k ∈ Exp.siK n → ∃ u, u < n ∧ k = Kd.si u
  | 0, h => (List.not_mem_nil h).elim
  | n + 1, h => by
    rcases List.mem_append.1 (show k ∈ Exp.siK n ++ [Kd.si n] from h) with h | h
    · obtain ⟨u, h1, h2⟩ := siK_mem2 h; exact ⟨u, by omega, h2⟩
    · exact ⟨n, Nat.lt_succ_self _, List.mem_singleton.1 h⟩
theorem soK_nodup : ∀ n, (Exp.soK n).Nodup
  | 0 => List.nodup_nil
  | n + 1 => by
    show (Exp.soK n ++ [Kd.so n]).Nodup
    refine List.nodup_append.2 ⟨soK_nodup n, (by simp), ?_⟩
    rintro a ha b hb rfl
    obtain ⟨u, h1, rfl⟩ := soK_mem2 ha
    have := List.mem_singleton.1 hb
    have h2 : u = n := congrArg (fun k : Kd => k.2.2) this
    omega
theorem siK_nodup : ∀ n, (Exp.siK n).Nodup
  | 0 => List.nodup_nil
  | n + 1 => by
    show (Exp.siK n ++ [Kd.si n]).Nodup
    refine List.nodup_append.2 ⟨siK_nodup n, (by simp), ?_⟩
    rintro a ha b hb rfl
    obtain ⟨u, h1, rfl⟩ := siK_mem2 ha
    have := List.mem_singleton.1 hb
    have h2 : u = n := congrArg (fun k : Kd => k.2.2) this
    omega
theorem kinds_nodup (E : Exp) : E.kinds.Nodup := by
  unfold Exp.kinds
  refine List.nodup_append.2 ⟨timeK_nodup E _, List.nodup_append.2 ⟨soK_nodup _, siK_nodup _, ?_⟩, ?_⟩
  · rintro a ha b hb rfl
    have h1 := soK_mem ha
    have h2 := siK_mem hb
    omega
  · rintro a ha b hb rfl
    have h1 := timeK_mem2 ha
    rcases List.mem_append.1 hb with h | h
    · have := soK_mem h; omega
    · have := siK_mem h; omega
end Go.Proofs.YtlkbohpnlbfopaaGreat
namespace Go.Proofs.YtlkbohpnlbfopaaGreat
set_option linter.unusedVariables false
theorem map_exists : ∀ (K : List Kd) (F : List Int), K.Nodup → F.length = K.length → ∃ x : Kd → Int, K.map x = F
  | [], [], _, _ => ⟨fun _ => 0, rfl⟩
  | [], f :: F, _, h => by simp at h
  | k :: K, [], _, h => by simp at h
  | k :: K, f :: F, hn, h => by
    obtain ⟨h1, h2⟩ := List.nodup_cons.1 hn
    obtain ⟨x, hx⟩ := map_exists K F h2 (by simpa using h)
    refine ⟨fun q => if q = k then f else x q, ?_⟩
    rw [List.map_cons, if_pos rfl]
    congr 1
    rw [← hx]
    exact List.map_congr_left (fun q hq => if_neg (fun e : q = k => h1 (e ▸ hq)))
namespace Exp
variable {E : Exp}
theorem mem_mvK {i u : Nat} (h : E.ok i u = true) : ∀ {n}, i < n → Kd.mv i u ∈ E.mvK u n
  | 0, h1 => by omega
  | n + 1, h1 => by
    refine List.mem_append.2 ?_
    by_cases e : i = n
    · subst e; right; rw [if_pos h]; exact List.mem_singleton.2 rfl
    · left; exact mem_mvK h (by omega)
theorem mem_wtK {v u : Nat} (h : E.wok v u = true) : ∀ {n}, v < n → Kd.wt v u ∈ E.wtK u n
  | 0, h1 => by omega
  | n + 1, h1 => by
    refine List.mem_append.2 ?_
    by_cases e : v = n
    · subst e; right; rw [if_pos h]; exact List.mem_singleton.2 rfl
    · left; exact mem_wtK h (by omega)
theorem mem_timeK {u : Nat} {k : Kd} (h : k ∈ E.mvK u E.Z.length ++ E.wtK u E.N) : ∀ {n}, u < n → k ∈ E.timeK n
  | 0, h1 => by omega
  | n + 1, h1 => by
    refine List.mem_append.2 ?_
    by_cases e : u = n
    · subst e; right; exact h
    · left; exact mem_timeK h (by omega)
theorem mem_mv {i u : Nat} (h : E.ok i u = true) : Kd.mv i u ∈ E.kinds :=
  List.mem_append.2 (.inl (mem_timeK (List.mem_append.2 (.inl (mem_mvK h (ok2_lt h).1))) (by have := (ok2_lt h).2; omega)))
theorem mem_wt {v u : Nat} (hv : v < E.N) (h : E.wok v u = true) : Kd.wt v u ∈ E.kinds :=
  List.mem_append.2 (.inl (mem_timeK (List.mem_append.2 (.inr (mem_wtK h hv))) (by have := (E.wok_is.1 h).2.1; omega)))
theorem good_of (hW : SpanNet E.Z E.N) (hs : E.s < E.N) (ht : E.t < E.N) (hne : E.s ≠ E.t) : E.Good := ⟨hW.lt, hs, ht, hne, fun a ha => (hW.caps a ha).1⟩
end Exp
theorem flow_at {E : Exp} {x : Kd → Int} (h : Flow E.net (E.kinds.map x)) {k : Kd} (hk : k ∈ E.kinds) : 0 ≤ x k ∧ x k ≤ capN (E.arcKd k) := by
  obtain ⟨j, hj⟩ := List.mem_iff_getElem?.1 hk
  have h1 := h.2 j (E.arcKd k) (by unfold Exp.net; rw [List.getElem?_map, hj]; rfl)
  have e : atI (E.kinds.map x) j = x k := by unfold atI; rw [List.getD_eq_getElem?_getD, List.getElem?_map, hj]; rfl
  rw [e] at h1
  exact h1
section
variable {E : Exp}
end
end Go.Proofs.YtlkbohpnlbfopaaGreat
