/- Lemmas of the layers below, several texts in one. -/
import Derived.Test.YtlkbohpnlbfopaaBA
import Derived.Test.YtlkbohpnlbfopaaBD
import Derived.Test.YtlkbohpnlbfopaaBB
namespace Go.Proofs.Ytlkbohpnlbfopaa
set_option linter.unusedVariables false
def pairOf (a : ArcT) (u i : Nat) : List (Int × Int) := (if frN a = u then [((i : Int), 0)] else []) ++ (if toN a = u then [((i : Int), 1)] else [])
def pairsK (Z : List ArcT) (u : Nat) : Nat → List (Int × Int)
  | 0 => []
  | i + 1 => pairsK Z u i ++ match Z[i]? with | some a => pairOf a u i | none => []
theorem pairsK_succ {Z : List ArcT} {u i : Nat} {a : ArcT} (h : Z[i]? = some a) : pairsK Z u (i + 1) = pairsK Z u i ++ pairOf a u i := by
  show pairsK Z u i ++ _ = _
  rw [h]
theorem pairOf_fst {a : ArcT} {u i : Nat} {p : Int × Int} (h : p ∈ pairOf a u i) : p = ((i : Int), 0) ∧ frN a = u ∨ p = ((i : Int), 1) ∧ toN a = u := by
  unfold pairOf at h
  rw [List.mem_append] at h
  rcases h with h | h <;> split at h
  · next hc => exact .inl ⟨List.mem_singleton.1 h, hc⟩
  · cases h
  · next hc => exact .inr ⟨List.mem_singleton.1 h, hc⟩
  · cases h
theorem pairsK_mem {Z : List ArcT} {u : Nat} : ∀ {i : Nat} {p : Int × Int}, p ∈ pairsK Z u i → ∃ (j : Nat) (a : ArcT), j < i ∧ Z[j]? = some a ∧ (p = ((j : Int), 0) ∧ frN a = u ∨ p = ((j : Int), 1) ∧ toN a = u)
  | 0, p, h => by cases h
  | i + 1, p, h => by
    rcases List.mem_append.1 h with h | h
    · obtain ⟨j, a, h1, h2⟩ := pairsK_mem h
      exact ⟨j, a, by omega, h2⟩
    · cases hz : Z[i]? with
      | none => rw [hz] at h; cases h
      | some a =>
        rw [hz] at h
        exact ⟨i, a, by omega, hz, pairOf_fst h⟩
theorem pairsK_len (Z : List ArcT) (u : Nat) : ∀ i, (pairsK Z u i).length ≤ 2 * i
  | 0 => by simp [pairsK]
  | i + 1 => by
    have ih := pairsK_len Z u i
    show (pairsK Z u i ++ _).length ≤ _
    rw [List.length_append]
    cases hz : Z[i]? with
    | none => simp; omega
    | some a =>
      have : (pairOf a u i).length ≤ 2 := by unfold pairOf; rw [List.length_append]; split <;> split <;> simp
      simp only
      omega
def stepP (p : Int × Int) : StepT := (p.1, p.2 == 1)
def stepsU (Z : List ArcT) (u : Nat) : List StepT := (pairsK Z u Z.length).map stepP
theorem stepsU_len (Z : List ArcT) (u : Nat) : (stepsU Z u).length ≤ 2 * Z.length := by unfold stepsU; rw [List.length_map]; exact pairsK_len Z u Z.length
def roomB (Z : List ArcT) (F : List Int) (s : StepT) : Bool := decide (0 < leftS Z F s)
theorem arcOf_nat {Z : List ArcT} {j : Nat} {a : ArcT} (q : Bool) (ha : Z[j]? = some a) : arcOf Z ((j : Int), q) = a := by unfold arcOf; simp [List.getD_eq_getElem?_getD, ha]
theorem left_at {Z : List ArcT} {F : List Int} {j : Nat} {a : ArcT} (ha : Z[j]? = some a) : leftS Z F ((j : Int), false) = capN a - atI F j ∧ leftS Z F ((j : Int), true) = atI F j := by
  unfold leftS
  rw [arcOf_nat _ ha]
  simp
theorem fromS_at {Z : List ArcT} {j : Nat} {a : ArcT} (ha : Z[j]? = some a) : fromS Z ((j : Int), false) = frN a ∧ fromS Z ((j : Int), true) = toN a := by
  unfold fromS
  rw [arcOf_nat _ ha, arcOf_nat _ ha]
  simp
theorem steps_room (Z : List ArcT) (F : List Int) (u : Nat) : ∀ i, ((pairsK Z u i).map stepP).filter (roomB Z F) = (stepsK Z F i).filter (fun s => fromS Z s == u)
  | 0 => rfl
  | i + 1 => by
    have ih := steps_room Z F u i
    show ((pairsK Z u i ++ _).map stepP).filter _ = (stepsK Z F i ++ _).filter _
    rw [List.map_append, List.filter_append, List.filter_append, ih]
    congr 1
    cases hz : Z[i]? with
    | none => rfl
    | some a =>
      obtain ⟨l0, l1⟩ := left_at (F := F) hz
      obtain ⟨f0, f1⟩ := fromS_at hz
      simp only
      unfold pairOf stepOf
      rw [List.map_append, List.filter_append, List.filter_append]
      congr 1
      · by_cases h1 : frN a = u <;> by_cases h2 : atI F i < capN a
        · have : 0 < capN a - atI F i := by omega
          simp [stepP, roomB, h1, h2, l0, f0]
        · have : ¬ 0 < capN a - atI F i := by omega
          simp [stepP, roomB, h1, h2, l0]
        · simp [h1, h2, f0]
        · simp [h1, h2]
      · by_cases h1 : toN a = u <;> by_cases h2 : 0 < atI F i
        · simp [stepP, roomB, h1, h2, l1, f1]
        · simp [stepP, roomB, h1, h2, l1]
        · simp [h1, h2, f1]
        · simp [h1, h2]
theorem stepsU_mem {Z : List ArcT} {u : Nat} {s : StepT} (h : s ∈ stepsU Z u) : ∃ (j : Nat) (a : ArcT) (q : Bool), j < Z.length ∧ Z[j]? = some a ∧ s = ((j : Int), q) ∧ fromS Z s = u := by
  unfold stepsU at h
  obtain ⟨p, hp, rfl⟩ := List.mem_map.1 h
  obtain ⟨j, a, h1, h2, h3⟩ := pairsK_mem hp
  obtain ⟨f0, f1⟩ := fromS_at h2
  rcases h3 with ⟨rfl, h3⟩ | ⟨rfl, h3⟩
  · exact ⟨j, a, false, h1, h2, rfl, by show fromS Z ((j : Int), false) = u; rw [f0, h3]⟩
  · exact ⟨j, a, true, h1, h2, rfl, by show fromS Z ((j : Int), true) = u; rw [f1, h3]⟩
section
variable {fr to : StepT → Nat} {l : List StepT} {s0 : Nat}
theorem expX_filter (u p : Nat) : ∀ (m : List StepT) (x : List Ent), expX fr to (m.filter (fun s => fr s == u)) u p x = expX fr to m u p x
  | [], x => rfl
  | s :: m, x => by
    by_cases h : fr s = u
    · rw [List.filter_cons_of_pos (by simpa using h)]
      exact expX_filter u p m _
    · rw [List.filter_cons_of_neg (by simpa using h)]
      have : addX fr to u p x s = x := by unfold addX; rw [if_neg (fun hc => h hc.1)]
      show _ = expX fr to m u p (addX fr to u p x s)
      rw [this]
      exact expX_filter u p m x
theorem addX_pre (u p : Nat) (x : List Ent) (s : StepT) : ∃ r, addX fr to u p x s = x ++ r := by
  unfold addX
  split
  · exact ⟨_, rfl⟩
  · exact ⟨[], by simp⟩
theorem expX_pre (u p : Nat) : ∀ (m : List StepT) (x : List Ent), ∃ r, expX fr to m u p x = x ++ r
  | [], x => ⟨[], by simp [expX]⟩
  | s :: m, x => by
    obtain ⟨r, hr⟩ := addX_pre (fr := fr) (to := to) u p x s
    obtain ⟨r2, hr2⟩ := expX_pre u p m (addX fr to u p x s)
    exact ⟨r ++ r2, by show expX fr to m u p (addX fr to u p x s) = _; rw [hr2, hr, List.append_assoc]⟩
theorem seek_pre (i : Nat) : ∀ k, ∃ r, seekK fr to l s0 (i + k) = seekK fr to l s0 i ++ r
  | 0 => ⟨[], by simp⟩
  | k + 1 => by
    obtain ⟨r, hr⟩ := seek_pre i k
    have e : seekK fr to l s0 (i + (k + 1)) = match (seekK fr to l s0 (i + k))[i + k]? with | none => seekK fr to l s0 (i + k) | some e => expX fr to l e.1 (i + k) (seekK fr to l s0 (i + k)) := rfl
    rw [e]
    cases (seekK fr to l s0 (i + k))[i + k]? with
    | none => exact ⟨r, hr⟩
    | some e =>
      obtain ⟨r2, hr2⟩ := expX_pre (fr := fr) (to := to) e.1 (i + k) l (seekK fr to l s0 (i + k))
      exact ⟨r ++ r2, by simp only; rw [hr2, hr, List.append_assoc]⟩
theorem seek_next {i : Nat} {e : Ent} (h : (seekK fr to l s0 i)[i]? = some e) : seekK fr to l s0 (i + 1) = expX fr to l e.1 i (seekK fr to l s0 i) := by
  show (match (seekK fr to l s0 i)[i]? with | none => _ | some e => _) = _
  rw [h]
theorem seek_stop {i : Nat} (h : (seekK fr to l s0 i).length ≤ i) : ∀ k, seekK fr to l s0 (i + k) = seekK fr to l s0 i
  | 0 => rfl
  | k + 1 => by
    have ih := seek_stop h k
    show (match (seekK fr to l s0 (i + k))[i + k]? with | none => _ | some e => _) = _
    rw [ih, List.getElem?_eq_none (by omega)]
    exact ih
theorem far_add {x : List Ent} {i : Nat} {P : List StepT} {e : Ent} {s : StepT} (h : SK fr to l s0 x i P) (he : x[i]? = some e) (hs : s ∈ l) (hf : fr s = e.1) (hn : to s ∉ keysX x) (v : Nat) :
    farX (x ++ [(to s, s, i)]) v = if v = to s then farX x e.1 + 1 else farX x v := by
  have hy := h.add he hs
  have ey : addX fr to e.1 i x s = x ++ [(to s, s, i)] := by unfold addX; rw [if_pos ⟨hf, hn⟩]
  rw [ey] at hy
  have hil : i < x.length := (List.getElem?_eq_some_iff.1 he).1
  have hp : ∀ j, j < x.length → pathX (x ++ [(to s, s, i)]) j = pathX x j := fun j hj => pathN_prefix h j j hj
  have hnew : (x ++ [(to s, s, i)])[x.length]? = some (to s, s, i) := by simp
  split
  · next hv =>
    subst hv
    have h1 := farX_some hy hnew
    rw [pathX_succ hy hnew (by omega), hp i hil] at h1
    rw [farX_some h he]
    simp only [List.length_append, List.length_singleton] at h1
    rw [h1]
    omega
  · next hv =>
    by_cases hm : v ∈ keysX x
    · obtain ⟨b, q, hb, rfl⟩ := keysX_mem.1 hm
      have hbl : b < x.length := (List.getElem?_eq_some_iff.1 hb).1
      have hb2 : (x ++ [(to s, s, i)])[b]? = some q := by rw [List.getElem?_append_left hbl]; exact hb
      rw [farX_some hy hb2, farX_some h hb, hp b hbl]
    · rw [farX_none hm, farX_none]
      unfold keysX at hm ⊢
      rw [List.map_append, List.mem_append]
      rintro (h1 | h1)
      · exact hm h1
      · simp at h1
        exact hv h1
def farsL (x : List Ent) (N : Nat) : List Int := (List.range N).map (farX x)
theorem farsL_len (x : List Ent) (N : Nat) : (farsL x N).length = N := by simp [farsL]
theorem farsL_at (x : List Ent) {N v : Nat} (h : v < N) : atI (farsL x N) v = farX x v := by unfold atI farsL; rw [List.getD_eq_getElem?_getD]; simp [h]
theorem farsL_add {x : List Ent} {i N : Nat} {P : List StepT} {e : Ent} {s : StepT} (h : SK fr to l s0 x i P) (he : x[i]? = some e) (hs : s ∈ l) (hf : fr s = e.1) (hn : to s ∉ keysX x) :
    farsL (x ++ [(to s, s, i)]) N = (farsL x N).set (to s) (farX x e.1 + 1) := by
  apply List.ext_getElem
  · simp [farsL]
  · intro v h1 h2
    have hv : v < N := by simpa [farsL] using h1
    rw [List.getElem_set]
    simp only [farsL, List.getElem_map, List.getElem_range]
    rw [far_add h he hs hf hn v]
    by_cases hvt : v = to s
    · rw [if_pos hvt, if_pos hvt.symm]
    · rw [if_neg hvt, if_neg (fun e => hvt e.symm)]
def ByX (N : Nat) (x : List Ent) (B : List StepT) : Prop := B.length = N ∧ ∀ j e, x[j]? = some e → 0 < j → B[e.1]? = some e.2.1
theorem ByX.add {N : Nat} {x : List Ent} {B : List StepT} {s : StepT} {i : Nat} (h : ByX N x B) (hn : to s ∉ keysX x) (ht : to s < N) : ByX N (x ++ [(to s, s, i)]) (B.set (to s) s) := by
  refine ⟨by rw [List.length_set]; exact h.1, fun j e he h0 => ?_⟩
  by_cases hj : j < x.length
  · rw [List.getElem?_append_left hj] at he
    have hne : to s ≠ e.1 := fun q => hn (keysX_mem.2 ⟨j, e, he, q.symm⟩)
    rw [List.getElem?_set_ne hne]
    exact h.2 j e he h0
  · have hl : j < (x ++ [(to s, s, i)]).length := (List.getElem?_eq_some_iff.1 he).1
    have e1 : j = x.length := by simp at hl; omega
    subst e1
    simp at he
    subst he
    rw [List.getElem?_set_self (by rw [h.1]; exact ht)]
theorem farX_bd {x : List Ent} {i N : Nat} {P : List StepT} (h : SK fr to l s0 x i P) (hl : x.length ≤ N) (v : Nat) : -1 ≤ farX x v ∧ farX x v < (N : Int) ∨ x = [] := by
  by_cases hx : x = []
  · exact .inr hx
  · left
    by_cases hm : v ∈ keysX x
    · obtain ⟨b, q, hb, rfl⟩ := keysX_mem.1 hm
      rw [farX_some h hb]
      have hbl : b < x.length := (List.getElem?_eq_some_iff.1 hb).1
      have hle : ∀ (n j : Nat), j ≤ n → j < x.length → (pathX x j).length ≤ j := by
        intro n
        induction n with
        | zero => intro j hj _; obtain rfl : j = 0 := by omega
                  simp [pathX_zero]
        | succ n ih =>
          intro j hj hjl
          by_cases h0 : j = 0
          · subst h0; simp [pathX_zero]
          · have he := List.getElem?_eq_getElem hjl
            rw [pathX_succ h he (by omega), List.length_append]
            have h3 := (h.par j _ he (by omega)).2.2.1
            have := ih _ (by omega) (by omega : x[j].2.2 < x.length)
            simp only [List.length_singleton]
            omega
      have := hle b b (Nat.le_refl _) hbl
      omega
    · rw [farX_none hm]
      have : 0 < x.length := List.length_pos_iff.2 hx
      omega
theorem farX_zero {x : List Ent} {i : Nat} {P : List StepT} (h : SK fr to l s0 x i P) : farX x s0 = 0 := by
  have := farX_some h h.hd
  rw [pathX_zero] at this
  simpa using this
end
end Go.Proofs.Ytlkbohpnlbfopaa
namespace Go.Proofs.Ytlkbohpnlbfopaa
set_option linter.unusedVariables false
theorem stepsU_room {Z : List ArcT} {F : List Int} {u : Nat} {y : StepT} (h : y ∈ stepsU Z u) (hr : roomB Z F y = true) : y ∈ stepsK Z F Z.length := by
  have h1 : y ∈ (stepsU Z u).filter (roomB Z F) := List.mem_filter.2 ⟨h, hr⟩
  unfold stepsU at h1
  rw [steps_room] at h1
  exact (List.mem_filter.1 h1).1
theorem stepsU_from {Z : List ArcT} {u : Nat} {y : StepT} (h : y ∈ stepsU Z u) : fromS Z y = u := by
  obtain ⟨j, a, q, _, _, _, h1⟩ := stepsU_mem h
  exact h1
section
variable {fr to : StepT → Nat} {l : List StepT}
theorem far_mem {x : List Ent} {s0 i : Nat} {P : List StepT} (h : SK fr to l s0 x i P) {v : Nat} : v ∈ keysX x ↔ farX x v ≠ -1 := by
  constructor
  · intro hm
    obtain ⟨b, q, hb, rfl⟩ := keysX_mem.1 hm
    rw [farX_some h hb]
    omega
  · intro hn
    exact Classical.byContradiction fun hm => hn (farX_none hm)
theorem start_fars {N s : Nat} (hs : s < N) : farsL [(s, (0, false), 0)] N = startD N s := by
  show _ = (List.replicate N (-1)).set s 0
  apply List.ext_getElem
  · simp [farsL]
  · intro v h1 h2
    have hv : v < N := by simpa [farsL] using h1
    rw [List.getElem_set]
    simp only [farsL, List.getElem_map, List.getElem_range, List.getElem_replicate]
    by_cases e : s = v
    · subst e
      rw [if_pos rfl]
      simp [farX, pathX_zero]
    · rw [if_neg e]
      exact farX_none (by simp [keysX]; omega)
end
section
variable (Z : List ArcT) (F : List Int) (N s : Nat)
structure VO (i : Nat) (x : List Ent) (B : List StepT) (Q : List Nat) : Prop where
  eq : x = seekK (fromS Z) (toS Z) (stepsK Z F Z.length) s i
  sk : SK (fromS Z) (toS Z) (stepsK Z F Z.length) s x i []
  le : i ≤ x.length
  que : Q = (keysX x).drop i
  byy : ByX N x B
structure VI (i : Nat) (x : List Ent) (B : List StepT) (u : Nat) (Q : List Nat) (T : List StepT) : Prop where
  sk : ∃ P, SK (fromS Z) (toS Z) (stepsK Z F Z.length) s x i P
  at' : ∃ e, x[i]? = some e ∧ e.1 = u
  que : Q = (keysX x).drop (i + 1)
  byy : ByX N x B
  fut : expX (fromS Z) (toS Z) (T.filter (roomB Z F)) u i x = seekK (fromS Z) (toS Z) (stepsK Z F Z.length) s (i + 1)
  mem : ∀ y ∈ T, y ∈ stepsU Z u
structure VR (t : Int) (x : List Ent) (B : List StepT) : Prop where
  sk : ∃ i P, SK (fromS Z) (toS Z) (stepsK Z F Z.length) s x i P
  byy : ByX N x B
  pre : ∃ r, seekK (fromS Z) (toS Z) (stepsK Z F Z.length) s N = x ++ r
  all : seekK (fromS Z) (toS Z) (stepsK Z F Z.length) s N = x ∨ ∃ v : Nat, t = (v : Int) ∧ v ∈ keysX x
end
section
variable {Z : List ArcT} {F : List Int} {N s : Nat}
theorem VO.start : VO Z F N s 0 [(s, (0, false), 0)] (List.replicate N (0, false)) [s] := by
  refine ⟨rfl, SK.start, Nat.zero_le _, rfl, by simp, fun j e he h0 => ?_⟩
  have : j < 1 := (List.getElem?_eq_some_iff.1 he).1
  omega
theorem VO.len {i : Nat} {x : List Ent} {B : List StepT} {Q : List Nat} (h : VO Z F N s i x B Q) (hs : s < N) (ht : ∀ y ∈ stepsK Z F Z.length, toS Z y < N) : x.length ≤ N := seek_len h.sk hs ht
theorem VO.take {i : Nat} {x : List Ent} {B : List StepT} {u : Nat} {Q : List Nat} (h : VO Z F N s i x B (u :: Q)) (hs : s < N) (ht : ∀ y ∈ stepsK Z F Z.length, toS Z y < N) : VI Z F N s i x B u Q (stepsU Z u) ∧ u < N ∧ i < N := by
  have hil : i < x.length := by
    refine Classical.byContradiction fun hn => ?_
    have := h.que
    rw [List.drop_eq_nil_of_le (by simp [keysX]; omega)] at this
    cases this
  have hd : (keysX x).drop i = x[i].1 :: (keysX x).drop (i + 1) := by
    rw [List.drop_eq_getElem_cons (by simp [keysX]; exact hil)]
    simp [keysX]
  have hq := h.que
  rw [hd] at hq
  injection hq with h1 h2
  have hN := h.len hs ht
  have he := List.getElem?_eq_getElem hil
  refine ⟨⟨⟨_, h.sk⟩, ⟨_, he, h1.symm⟩, h2, h.byy, ?_, fun y hy => hy⟩, ?_, by omega⟩
  · have e1 : (stepsU Z u).filter (roomB Z F) = (stepsK Z F Z.length).filter (fun q => fromS Z q == u) := steps_room Z F u Z.length
    rw [e1, expX_filter]
    have he2 : (seekK (fromS Z) (toS Z) (stepsK Z F Z.length) s i)[i]? = some x[i] := by rw [← h.eq]; exact he
    rw [seek_next he2, ← h.eq, h1]
  · rw [h1]
    exact keys_lt h.sk hs ht _ (keysX_mem.2 ⟨i, _, he, rfl⟩)
theorem VO.stop {i : Nat} {x : List Ent} {B : List StepT} (h : VO Z F N s i x B []) (hs : s < N) (ht : ∀ y ∈ stepsK Z F Z.length, toS Z y < N) (t : Int) : VR Z F N s t x B := by
  have hN := h.len hs ht
  have hl : x.length ≤ i := by
    refine Classical.byContradiction fun hn => ?_
    have h1 : ((keysX x).drop i).length = 0 := by rw [← h.que]; rfl
    rw [List.length_drop] at h1
    simp [keysX] at h1
    omega
  have e : seekK (fromS Z) (toS Z) (stepsK Z F Z.length) s N = x := by
    have h1 := h.eq
    have h2 := seek_stop (fr := fromS Z) (to := toS Z) (l := stepsK Z F Z.length) (s0 := s) (i := i) (by rw [← h1]; exact hl) (N - i)
    have hle := h.le
    rw [show i + (N - i) = N by omega] at h2
    rw [h2, ← h1]
  exact ⟨⟨_, _, h.sk⟩, h.byy, ⟨[], by rw [e]; simp⟩, .inl e⟩
theorem VI.il {i : Nat} {x : List Ent} {B : List StepT} {u : Nat} {Q : List Nat} {T : List StepT} (h : VI Z F N s i x B u Q T) : i < x.length := by
  obtain ⟨e, he, _⟩ := h.at'
  exact (List.getElem?_eq_some_iff.1 he).1
theorem VI.skip {i : Nat} {x : List Ent} {B : List StepT} {u : Nat} {Q : List Nat} {y : StepT} {T : List StepT} (h : VI Z F N s i x B u Q (y :: T)) (hr : roomB Z F y = false) : VI Z F N s i x B u Q T := by
  refine ⟨h.sk, h.at', h.que, h.byy, ?_, fun z hz => h.mem z (by simp [hz])⟩
  have := h.fut
  rwa [List.filter_cons_of_neg (by simp [hr])] at this
theorem VI.old {i : Nat} {x : List Ent} {B : List StepT} {u : Nat} {Q : List Nat} {y : StepT} {T : List StepT} (h : VI Z F N s i x B u Q (y :: T)) (hr : roomB Z F y = true) (hm : farX x (toS Z y) ≠ -1) : VI Z F N s i x B u Q T := by
  obtain ⟨P, hP⟩ := h.sk
  refine ⟨h.sk, h.at', h.que, h.byy, ?_, fun z hz => h.mem z (by simp [hz])⟩
  have h1 := h.fut
  rw [List.filter_cons_of_pos hr] at h1
  have e : addX (fromS Z) (toS Z) u i x y = x := by unfold addX; rw [if_neg (fun hc => hc.2 ((far_mem hP).2 hm))]
  have : expX (fromS Z) (toS Z) (List.filter (roomB Z F) T) u i (addX (fromS Z) (toS Z) u i x y) = _ := h1
  rwa [e] at this
theorem VI.pre {i : Nat} {x : List Ent} {B : List StepT} {u : Nat} {Q : List Nat} {T : List StepT} (h : VI Z F N s i x B u Q T) (hN : i < N) : ∃ r, seekK (fromS Z) (toS Z) (stepsK Z F Z.length) s N = x ++ r := by
  obtain ⟨r1, h1⟩ := expX_pre (fr := fromS Z) (to := toS Z) u i (T.filter (roomB Z F)) x
  rw [h.fut] at h1
  obtain ⟨r2, h2⟩ := seek_pre (fr := fromS Z) (to := toS Z) (l := stepsK Z F Z.length) (s0 := s) (i + 1) (N - (i + 1))
  rw [show i + 1 + (N - (i + 1)) = N by omega, h1] at h2
  exact ⟨r1 ++ r2, by rw [h2, List.append_assoc]⟩
theorem VI.add {i : Nat} {x : List Ent} {B : List StepT} {u : Nat} {Q : List Nat} {y : StepT} {T : List StepT} (h : VI Z F N s i x B u Q (y :: T)) (hr : roomB Z F y = true) (hm : farX x (toS Z y) = -1) (hs : s < N) (ht : ∀ y ∈ stepsK Z F Z.length, toS Z y < N) :
    VI Z F N s i (x ++ [(toS Z y, y, i)]) (B.set (toS Z y) y) u (Q ++ [toS Z y]) T ∧ farsL (x ++ [(toS Z y, y, i)]) N = (farsL x N).set (toS Z y) (farX x u + 1) ∧ Q.length < N ∧ farX (x ++ [(toS Z y, y, i)]) u = farX x u ∧ toS Z y ∈ keysX (x ++ [(toS Z y, y, i)]) := by
  obtain ⟨P, hP⟩ := h.sk
  obtain ⟨e, he, rfl⟩ := h.at'
  have hil := h.il
  have hn : toS Z y ∉ keysX x := fun hc => (far_mem hP).1 hc hm
  have hyu := h.mem y (by simp)
  have hyl := stepsU_room hyu hr
  have hyf := stepsU_from hyu
  have hyN := ht y hyl
  have hsk := hP.add he hyl
  have ea : addX (fromS Z) (toS Z) e.1 i x y = x ++ [(toS Z y, y, i)] := by unfold addX; rw [if_pos ⟨hyf, hn⟩]
  rw [ea] at hsk
  have hl := seek_len hsk hs ht
  rw [List.length_append, List.length_singleton] at hl
  refine ⟨⟨⟨_, hsk⟩, ⟨e, by rw [List.getElem?_append_left hil]; exact he, rfl⟩, ?_, h.byy.add hn hyN, ?_, fun z hz => h.mem z (by simp [hz])⟩, farsL_add hP he hyl hyf hn, ?_, ?_, ?_⟩
  · rw [h.que]
    unfold keysX
    rw [List.map_append, List.drop_append_of_le_length (by simp; omega)]
    rfl
  · have h1 := h.fut
    rw [List.filter_cons_of_pos hr] at h1
    have : expX (fromS Z) (toS Z) (List.filter (roomB Z F) T) e.1 i (addX (fromS Z) (toS Z) e.1 i x y) = _ := h1
    rwa [ea] at this
  · rw [h.que, List.length_drop]
    simp [keysX]
    omega
  · rw [far_add hP he hyl hyf hn, if_neg]
    intro hc
    exact hn (by rw [← hc]; exact keysX_mem.2 ⟨i, e, he, rfl⟩)
  · simp [keysX]
theorem VI.done {i : Nat} {x : List Ent} {B : List StepT} {u : Nat} {Q : List Nat} (h : VI Z F N s i x B u Q []) : VO Z F N s (i + 1) x B Q := by
  have hil := h.il
  have he : x = seekK (fromS Z) (toS Z) (stepsK Z F Z.length) s (i + 1) := h.fut
  have hp := seek_props (fr := fromS Z) (to := toS Z) (l := stepsK Z F Z.length) (s0 := s) (i + 1)
  rw [← he, Nat.min_eq_left (by omega)] at hp
  exact ⟨he, hp, by omega, h.que, h.byy⟩
theorem VI.out {i : Nat} {x : List Ent} {B : List StepT} {u : Nat} {Q : List Nat} {T : List StepT} (h : VI Z F N s i x B u Q T) (hN : i < N) {t : Int} {v : Nat} (e : t = (v : Int)) (hv : v ∈ keysX x) : VR Z F N s t x B := by
  obtain ⟨P, hP⟩ := h.sk
  exact ⟨⟨_, _, hP⟩, h.byy, h.pre hN, .inr ⟨v, e, hv⟩⟩
theorem VI.far {i : Nat} {x : List Ent} {B : List StepT} {u : Nat} {Q : List Nat} {T : List StepT} (h : VI Z F N s i x B u Q T) (hs : s < N) (ht : ∀ y ∈ stepsK Z F Z.length, toS Z y < N) : 0 ≤ farX x u ∧ farX x u < (N : Int) ∧ ∀ v, -1 ≤ farX x v ∧ farX x v < (N : Int) := by
  obtain ⟨P, hP⟩ := h.sk
  obtain ⟨e, he, rfl⟩ := h.at'
  have hl := seek_len hP hs ht
  have hb := fun v => (farX_bd hP hl v).resolve_right (fun hc => by rw [hc] at he; simp at he)
  have h1 := farX_some hP he
  exact ⟨by omega, (hb e.1).2, hb⟩
end
end Go.Proofs.Ytlkbohpnlbfopaa
namespace Go.Proofs.Ytlkbohpnlbfopaa
open Go.RowKit
set_option linter.unusedVariables false
theorem begI_fromE {Z : List ArcT} {j : Nat} {a : ArcT} (ha : Z[j]? = some a) (hE : a.1 = (frN a : Int) ∧ a.2.1 = (toN a : Int)) (q : Bool) : begI a q = (fromS Z ((j : Int), q) : Int) ∧ endI a q = (toS Z ((j : Int), q) : Int) := by
  have e := arcOf_nat q ha
  unfold fromS toS
  rw [e]
  cases q <;> simp [begI, endI, hE.1, hE.2]
structure LD (w : World) (ao fo : Option Addr) (Z : List ArcT) (F : List Int) (g1 g2 N : Nat) : Prop where
  arcs : Row encA 4 w ao Z
  flow : Lst encI w fo F
  outs : GRow w (some ⟨g1, 0, none⟩) (lists frN Z N)
  ins : GRow w (some ⟨g2, 0, none⟩) (lists toN Z N)
theorem LD.below {w w' : World} {ao fo : Option Addr} {Z : List ArcT} {F : List Int} {g1 g2 N : Nat} (h : LD w ao fo Z F g1 g2 N) (hb : Below w.heap.size w w') : LD w' ao fo Z F g1 g2 N :=
  ⟨h.arcs.below' hb, h.flow.below hb, h.outs.below hb, h.ins.below hb⟩
section
variable (n : Int) (b : Bool) (ao : Option Addr) (cap : Nat) (Z : List ArcT)
end
end Go.Proofs.Ytlkbohpnlbfopaa
