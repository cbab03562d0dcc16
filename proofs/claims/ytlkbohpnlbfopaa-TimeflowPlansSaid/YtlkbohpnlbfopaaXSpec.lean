/- What package maxflow does, in plain lists: ways that descend level by level, steps that were tried in vain, and that each way makes the value greater. -/
import Derived.Test.YtlkbohpnlbfopaaBG
namespace Go.Proofs.Ytlkbohpnlbfopaa
set_option linter.unusedVariables false
theorem stepsU_left {Z : List ArcT} {F : List Int} {u : Nat} {y : StepT} (h : isArc Z y) (hl : 0 < leftS Z F y) (hf : fromS Z y = u) : y ∈ stepsU Z u := by
  have h1 : y ∈ (stepsK Z F Z.length).filter (fun s => fromS Z s == u) := List.mem_filter.2 ⟨(stepsK_mem (Nat.le_refl _)).2 ⟨h, by unfold isArc at h; omega, hl⟩, by simp [hf]⟩
  rw [← steps_room] at h1
  exact (List.mem_filter.1 h1).1
theorem stepsU_arc {Z : List ArcT} {u : Nat} {y : StepT} (h : y ∈ stepsU Z u) : isArc Z y ∧ fromS Z y = u := by
  obtain ⟨j, a, q, h1, h2, rfl, h3⟩ := stepsU_mem h
  exact ⟨⟨by simp, by simp only; omega⟩, h3⟩
section
variable {Z : List ArcT} {F L : List Int} {N s t : Nat}
def descB (Z : List ArcT) (F L : List Int) (y : StepT) : Bool := decide (0 < leftS Z F y ∧ atI L (toS Z y) = atI L (fromS Z y) + 1)
theorem descB_iff {y : StepT} : descB Z F L y = true ↔ 0 < leftS Z F y ∧ atI L (toS Z y) = atI L (fromS Z y) + 1 := by unfold descB; rw [decide_eq_true_eq]
theorem walk_lev : ∀ (P : List StepT) (s v : Nat), Walk (fromS Z) (toS Z) s P v → (∀ y ∈ P, descB Z F L y = true) →
    atI L v = atI L s + P.length ∧ (∀ y ∈ P, atI L s ≤ atI L (fromS Z y) ∧ atI L (fromS Z y) < atI L v ∧ atI L s < atI L (toS Z y)) ∧ (P.map (toS Z)).Nodup
  | [], s, v, h, _ => by
    obtain rfl : s = v := h
    simp
  | x :: r, s, v, h, hd => by
    obtain ⟨h1, h2⟩ := h
    obtain ⟨i1, i2, i3⟩ := walk_lev r _ _ h2 (fun y hy => hd y (by simp [hy]))
    have hx := (descB_iff.1 (hd x (by simp))).2
    rw [h1] at hx
    refine ⟨by rw [i1, hx]; simp only [List.length_cons]; omega, fun y hy => ?_, ?_⟩
    · rcases List.mem_cons.1 hy with rfl | hy
      · rw [h1]; omega
      · have := i2 y hy
        omega
    · rw [List.map_cons, List.nodup_cons]
      refine ⟨fun hm => ?_, i3⟩
      obtain ⟨y, hy, e⟩ := List.mem_map.1 hm
      have := (i2 y hy).2.2
      rw [e] at this
      omega
structure TI (Z : List ArcT) (N : Nat) (T : List Int) : Prop where
  len : T.length = N
  bd : ∀ v, v < N → 0 ≤ atI T v ∧ atI T v ≤ ((stepsU Z v).length : Int)
structure DP (Z : List ArcT) (F L T : List Int) (s : Nat) (P : List StepT) (v : Nat) : Prop where
  walk : Walk (fromS Z) (toS Z) s P v
  all : ∀ y ∈ P, isArc Z y ∧ descB Z F L y = true
  att : ∀ y ∈ P, (stepsU Z (fromS Z y))[(atI T (fromS Z y)).toNat]? = some y
theorem DP.start (T : List Int) : DP Z F L T s [] s := ⟨rfl, fun y h => absurd h (by simp), fun y h => absurd h (by simp)⟩
theorem DP.lev {T : List Int} {P : List StepT} {v : Nat} (h : DP Z F L T s P v) : atI L v = atI L s + P.length ∧ (∀ y ∈ P, atI L s ≤ atI L (fromS Z y) ∧ atI L (fromS Z y) < atI L v ∧ atI L s < atI L (toS Z y)) ∧ (P.map (toS Z)).Nodup := walk_lev P s v h.walk (fun y hy => (h.all y hy).2)
theorem DP.push {T : List Int} {P : List StepT} {v : Nat} {y : StepT} (h : DP Z F L T s P v) (hy : (stepsU Z v)[(atI T v).toNat]? = some y) (hd : descB Z F L y = true) : DP Z F L T s (P ++ [y]) (toS Z y) := by
  obtain ⟨h1, h2⟩ := stepsU_arc (List.mem_of_getElem? hy)
  refine ⟨walk_app.2 ⟨v, h.walk, h2, rfl⟩, fun x hx => ?_, fun x hx => ?_⟩
  · rcases List.mem_append.1 hx with hx | hx
    · exact h.all x hx
    · rw [List.mem_singleton] at hx; subst hx; exact ⟨h1, hd⟩
  · rcases List.mem_append.1 hx with hx | hx
    · exact h.att x hx
    · rw [List.mem_singleton] at hx; subst hx; rw [h2]; exact hy
theorem DP.pop {T : List Int} {P : List StepT} {v : Nat} {y : StepT} (h : DP Z F L T s (P ++ [y]) v) : DP Z F L T s P (fromS Z y) ∧ toS Z y = v ∧ (stepsU Z (fromS Z y))[(atI T (fromS Z y)).toNat]? = some y := by
  obtain ⟨m, h1, h2, h3⟩ := walk_app.1 h.walk
  exact ⟨⟨by rw [h2]; exact h1, fun x hx => h.all x (by simp [hx]), fun x hx => h.att x (by simp [hx])⟩, h3, h.att y (by simp)⟩
theorem DP.bump {T : List Int} {P : List StepT} {v : Nat} (h : DP Z F L T s P v) (x : Int) (hv : v < T.length) : DP Z F L (T.set v x) s P v := by
  refine ⟨h.walk, h.all, fun y hy => ?_⟩
  have h1 := (h.lev.2.1 y hy).2.1
  rw [atI_set hv, if_neg (fun e => by rw [e] at h1; omega)]
  exact h.att y hy
theorem TI.bump {T : List Int} {v : Nat} (h : TI Z N T) (hv : v < N) (hl : atI T v < ((stepsU Z v).length : Int)) : TI Z N (T.set v (atI T v + 1)) := by
  refine ⟨by rw [List.length_set]; exact h.len, fun u hu => ?_⟩
  rw [atI_set (by rw [h.len]; exact hv)]
  have h1 := h.bd u hu
  have h2 := h.bd v hv
  split
  · next e => subst e; omega
  · exact h1
theorem TI.start (Z : List ArcT) (N : Nat) : TI Z N (List.replicate N 0) := by
  refine ⟨by simp, fun v hv => ?_⟩
  have : atI (List.replicate N 0) v = 0 := by unfold atI; rw [List.getD_eq_getElem?_getD, List.getElem?_replicate, if_pos hv]; rfl
  omega
def Dead (Z : List ArcT) (F L : List Int) (t : Nat) (y : StepT) : Prop := ∀ p, (∀ x ∈ y :: p, isArc Z x ∧ descB Z F L x = true) → ¬ Walk (fromS Z) (toS Z) (toS Z y) p t
def Shut (Z : List ArcT) (F L : List Int) (t v : Nat) : Prop := ∀ p, (∀ x ∈ p, isArc Z x ∧ descB Z F L x = true) → ¬ Walk (fromS Z) (toS Z) v p t
def DT (Z : List ArcT) (F L : List Int) (N t : Nat) (T : List Int) : Prop := ∀ v, v < N → ∀ (j : Nat) (y : StepT), (j : Int) < atI T v → (stepsU Z v)[j]? = some y → Dead Z F L t y
theorem DT.start : DT Z F L N t (List.replicate N 0) := by
  intro v hv j y hj
  have : atI (List.replicate N 0) v = 0 := by unfold atI; rw [List.getD_eq_getElem?_getD, List.getElem?_replicate, if_pos hv]; rfl
  omega
theorem dead_no {y : StepT} (h : descB Z F L y = false) : Dead Z F L t y := fun p hp _ => by
  have := (hp y (by simp)).2
  rw [h] at this
  cases this
theorem DT.shut {T : List Int} {v : Nat} (h : DT Z F L N t T) (hv : v < N) (hT : ¬ atI T v < ((stepsU Z v).length : Int)) (hne : v ≠ t) : Shut Z F L t v := by
  intro p hp hw
  cases p with
  | nil => exact hne hw
  | cons y r =>
    obtain ⟨h1, h2⟩ := hw
    obtain ⟨hy, hd⟩ := hp y (by simp)
    obtain ⟨j, hj⟩ := List.getElem?_of_mem (stepsU_left hy (descB_iff.1 hd).1 h1)
    have hjl := (List.getElem?_eq_some_iff.1 hj).1
    exact h v hv j y (by omega) hj r hp h2
theorem shut_dead {y : StepT} (h : Shut Z F L t (toS Z y)) : Dead Z F L t y := fun p hp hw => h p (fun x hx => hp x (by simp [hx])) hw
theorem DT.bump {T : List Int} {v : Nat} {y : StepT} (h : DT Z F L N t T) (hT : TI Z N T) (hv : v < N) (hy : (stepsU Z v)[(atI T v).toNat]? = some y) (hd : Dead Z F L t y) : DT Z F L N t (T.set v (atI T v + 1)) := by
  intro u hu j z hj hz
  rw [atI_set (by rw [hT.len]; exact hv)] at hj
  by_cases e : u = v
  · subst e
    rw [if_pos rfl] at hj
    have h0 := (hT.bd u hu).1
    by_cases hj2 : (j : Int) < atI T u
    · exact h u hu j z hj2 hz
    · have hje : j = (atI T u).toNat := by omega
      rw [hje, hy] at hz
      cases hz
      exact hd
  · rw [if_neg e] at hj
    exact h u hu j z hj hz
def remT (Z : List ArcT) (N : Nat) (T : List Int) : Int := sumTo (fun v => ((stepsU Z v).length : Int) - atI T v) N
def muT (Z : List ArcT) (N : Nat) (T : List Int) (P : List StepT) : Nat := (remT Z N T).toNat * (N + 2) + (N + 1 - P.length)
theorem sumTo_nonneg {g : Nat → Int} : ∀ {n}, (∀ v, v < n → 0 ≤ g v) → 0 ≤ sumTo g n
  | 0, _ => Int.le_refl _
  | n + 1, h => by
    have := sumTo_nonneg (fun v hv => h v (Nat.lt_succ_of_lt hv))
    have := h n (Nat.lt_succ_self n)
    simp only [sumTo]; omega
theorem remT_bump {T : List Int} {v : Nat} (h : TI Z N T) (hv : v < N) (hl : atI T v < ((stepsU Z v).length : Int)) : remT Z N (T.set v (atI T v + 1)) = remT Z N T - 1 ∧ 0 ≤ remT Z N (T.set v (atI T v + 1)) := by
  have hb := h.bump hv hl
  refine ⟨?_, sumTo_nonneg (fun u hu => by have := hb.bd u hu; omega)⟩
  unfold remT
  rw [sumTo_congr (h := fun u => (((stepsU Z u).length : Int) - atI T u) + (if v = u then -1 else 0)) (fun u hu => ?_), sumTo_add, sumTo_one, if_pos hv]
  · omega
  · rw [atI_set (by rw [h.len]; exact hv)]
    by_cases e : u = v
    · subst e; rw [if_pos rfl, if_pos rfl]; omega
    · rw [if_neg e, if_neg (fun q => e q.symm)]; omega
theorem muT_bump {T : List Int} {v : Nat} (h : TI Z N T) (hv : v < N) (hl : atI T v < ((stepsU Z v).length : Int)) (P Q : List StepT) (hQ : P.length ≤ Q.length + 1) : muT Z N (T.set v (atI T v + 1)) Q < muT Z N T P := by
  obtain ⟨h1, h2⟩ := remT_bump h hv hl
  unfold muT
  generalize hr : (remT Z N (T.set v (atI T v + 1))).toNat = r
  have e : (remT Z N T).toNat = r + 1 := by omega
  rw [e, Nat.succ_mul]
  omega
theorem muT_push {T : List Int} (P : List StepT) (y : StepT) (hP : P.length ≤ N) : muT Z N T (P ++ [y]) < muT Z N T P := by
  unfold muT
  rw [List.length_append, List.length_singleton]
  omega
theorem DP.found {T : List Int} {P : List StepT} (h : DP Z F L T s P t) : Walk (fromS Z) (toS Z) s P t ∧ (P.map (toS Z)).Nodup ∧ s ∉ P.map (toS Z) ∧ ∀ x ∈ P, isArc Z x ∧ 0 < leftS Z F x := by
  refine ⟨h.walk, h.lev.2.2, fun hm => ?_, fun x hx => ⟨(h.all x hx).1, (descB_iff.1 (h.all x hx).2).1⟩⟩
  obtain ⟨y, hy, e⟩ := List.mem_map.1 hm
  have := (h.lev.2.1 y hy).2.2
  rw [e] at this
  omega
theorem path_desc {fr to : StepT → Nat} {l : List StepT} {s0 : Nat} {x : List Ent} {i : Nat} {P : List StepT} (h : SK fr to l s0 x i P) : ∀ (n j : Nat) (e : Ent), j ≤ n → x[j]? = some e → ∀ y ∈ pathX x j, farX x (to y) = farX x (fr y) + 1
  | n, 0, e, _, _ => by rw [pathX_zero]; exact fun y hy => absurd hy (by simp)
  | 0, j + 1, e, hj, _ => by omega
  | n + 1, j + 1, e, hj, he => by
    obtain ⟨g1, g2, g3, g4, q, g5, g6⟩ := h.par (j + 1) e he (by omega)
    have hp := pathX_succ h he (by omega)
    rw [hp]
    intro y hy
    rcases List.mem_append.1 hy with hy | hy
    · exact path_desc h n e.2.2 q (by omega) g5 y hy
    · rw [List.mem_singleton] at hy
      subst hy
      rw [g2, ← g6, farX_some h he, farX_some h g5, hp]
      simp
end
end Go.Proofs.Ytlkbohpnlbfopaa
