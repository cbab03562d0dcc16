/- The search of package level as it runs, in plain lists: what has been found, what is still to be looked at. -/
import Derived.Test.YtfklkcnopngpgaaVSpec
namespace Go.Proofs.Ytfklkcnopngpgaa
set_option linter.unusedVariables false

theorem stepsU_room {Z : List ArcT} {F : List Int} {u : Nat} {y : StepT} (h : y ∈ stepsU Z u) (hr : roomB Z F y = true) : y ∈ stepsK Z F Z.length := by
  have h1 : y ∈ (stepsU Z u).filter (roomB Z F) := List.mem_filter.2 ⟨h, hr⟩
  unfold stepsU at h1
  rw [steps_room] at h1
  exact (List.mem_filter.1 h1).1
theorem stepsU_from {Z : List ArcT} {u : Nat} {y : StepT} (h : y ∈ stepsU Z u) : fromS Z y = u := by
  obtain ⟨j, a, q, _, _, _, h1⟩ := stepsU_mem h
  exact h1
section
variable {fr to : StepT → Nat} {l : List StepT}
theorem far_mem {x : List Ent} {s0 i : Nat} {P : List StepT} (h : SK fr to l s0 x i P) {v : Nat} : v ∈ keysX x ↔ farX x v ≠ -1 := by
  constructor
  · intro hm
    obtain ⟨b, q, hb, rfl⟩ := keysX_mem.1 hm
    rw [farX_some h hb]
    omega
  · intro hn
    exact Classical.byContradiction fun hm => hn (farX_none hm)
theorem far_app {x r : List Ent} {s0 i i2 : Nat} {P P2 : List StepT} (h : SK fr to l s0 x i P) (h2 : SK fr to l s0 (x ++ r) i2 P2) {v : Nat} (hm : v ∈ keysX x) : farX (x ++ r) v = farX x v := by
  obtain ⟨b, q, hb, rfl⟩ := keysX_mem.1 hm
  have hbl : b < x.length := (List.getElem?_eq_some_iff.1 hb).1
  have hb2 : (x ++ r)[b]? = some q := by rw [List.getElem?_append_left hbl]; exact hb
  rw [farX_some h hb, farX_some h2 hb2]
  have : pathX (x ++ r) b = pathX x b := pathN_prefix h b b hbl
  rw [this]
theorem seek_last {s i N : Nat} (h : (seekK fr to l s i).length ≤ i) (hi : i ≤ N) : seekK fr to l s N = seekK fr to l s i := by
  have h2 := seek_stop (fr := fr) (to := to) (l := l) (s0 := s) (i := i) h (N - i)
  rwa [show i + (N - i) = N by omega] at h2
theorem start_fars {N s : Nat} (hs : s < N) : farsL [(s, (0, false), 0)] N = startD N s := by
  show _ = (List.replicate N (-1)).set s 0
  apply List.ext_getElem
  · simp [farsL]
  · intro v h1 h2
    have hv : v < N := by simpa [farsL] using h1
    rw [List.getElem_set]
    simp only [farsL, List.getElem_map, List.getElem_range, List.getElem_replicate]
    by_cases e : s = v
    · subst e
      rw [if_pos rfl]
      simp [farX, pathX_zero]
    · rw [if_neg e]
      exact farX_none (by simp [keysX]; omega)
end
section
variable (Z : List ArcT) (F : List Int) (N s : Nat)
/-- All nodes ahead of place i are looked at. -/
structure VO (i : Nat) (x : List Ent) (B : List StepT) (Q : List Nat) : Prop where
  eq : x = seekK (fromS Z) (toS Z) (stepsK Z F Z.length) s i
  sk : SK (fromS Z) (toS Z) (stepsK Z F Z.length) s x i []
  le : i ≤ x.length
  que : Q = (keysX x).drop i
  byy : ByX N x B
/-- Of place i the steps T are still to be looked at. -/
structure VI (i : Nat) (x : List Ent) (B : List StepT) (u : Nat) (Q : List Nat) (T : List StepT) : Prop where
  sk : ∃ P, SK (fromS Z) (toS Z) (stepsK Z F Z.length) s x i P
  at' : ∃ e, x[i]? = some e ∧ e.1 = u
  que : Q = (keysX x).drop (i + 1)
  byy : ByX N x B
  fut : expX (fromS Z) (toS Z) (T.filter (roomB Z F)) u i x = seekK (fromS Z) (toS Z) (stepsK Z F Z.length) s (i + 1)
  mem : ∀ y ∈ T, y ∈ stepsU Z u
/-- What the search tells. -/
structure VR (t : Int) (x : List Ent) (B : List StepT) : Prop where
  sk : ∃ i P, SK (fromS Z) (toS Z) (stepsK Z F Z.length) s x i P
  byy : ByX N x B
  pre : ∃ r, seekK (fromS Z) (toS Z) (stepsK Z F Z.length) s N = x ++ r
  all : seekK (fromS Z) (toS Z) (stepsK Z F Z.length) s N = x ∨ ∃ v : Nat, t = (v : Int) ∧ v ∈ keysX x
end
section
variable {Z : List ArcT} {F : List Int} {N s : Nat}
theorem VO.start : VO Z F N s 0 [(s, (0, false), 0)] (List.replicate N (0, false)) [s] := by
  refine ⟨rfl, SK.start, Nat.zero_le _, rfl, by simp, fun j e he h0 => ?_⟩
  have : j < 1 := (List.getElem?_eq_some_iff.1 he).1
  omega
theorem VO.len {i : Nat} {x : List Ent} {B : List StepT} {Q : List Nat} (h : VO Z F N s i x B Q) (hs : s < N) (ht : ∀ y ∈ stepsK Z F Z.length, toS Z y < N) : x.length ≤ N := seek_len h.sk hs ht
theorem VO.take {i : Nat} {x : List Ent} {B : List StepT} {u : Nat} {Q : List Nat} (h : VO Z F N s i x B (u :: Q)) (hs : s < N) (ht : ∀ y ∈ stepsK Z F Z.length, toS Z y < N) : VI Z F N s i x B u Q (stepsU Z u) ∧ u < N ∧ i < N := by
  have hil : i < x.length := by
    refine Classical.byContradiction fun hn => ?_
    have := h.que
    rw [List.drop_eq_nil_of_le (by simp [keysX]; omega)] at this
    cases this
  have hd : (keysX x).drop i = x[i].1 :: (keysX x).drop (i + 1) := by
    rw [List.drop_eq_getElem_cons (by simp [keysX]; exact hil)]
    simp [keysX]
  have hq := h.que
  rw [hd] at hq
  injection hq with h1 h2
  have hN := h.len hs ht
  have he := List.getElem?_eq_getElem hil
  refine ⟨⟨⟨_, h.sk⟩, ⟨_, he, h1.symm⟩, h2, h.byy, ?_, fun y hy => hy⟩, ?_, by omega⟩
  · have e1 : (stepsU Z u).filter (roomB Z F) = (stepsK Z F Z.length).filter (fun q => fromS Z q == u) := steps_room Z F u Z.length
    rw [e1, expX_filter]
    have he2 : (seekK (fromS Z) (toS Z) (stepsK Z F Z.length) s i)[i]? = some x[i] := by rw [← h.eq]; exact he
    rw [seek_next he2, ← h.eq, h1]
  · rw [h1]
    exact keys_lt h.sk hs ht _ (keysX_mem.2 ⟨i, _, he, rfl⟩)
theorem VO.stop {i : Nat} {x : List Ent} {B : List StepT} (h : VO Z F N s i x B []) (hs : s < N) (ht : ∀ y ∈ stepsK Z F Z.length, toS Z y < N) (t : Int) : VR Z F N s t x B := by
  have hN := h.len hs ht
  have hl : x.length ≤ i := by
    refine Classical.byContradiction fun hn => ?_
    have h1 : ((keysX x).drop i).length = 0 := by rw [← h.que]; rfl
    rw [List.length_drop] at h1
    simp [keysX] at h1
    omega
  have e : seekK (fromS Z) (toS Z) (stepsK Z F Z.length) s N = x := by
    have h1 := h.eq
    have h2 := seek_stop (fr := fromS Z) (to := toS Z) (l := stepsK Z F Z.length) (s0 := s) (i := i) (by rw [← h1]; exact hl) (N - i)
    have hle := h.le
    rw [show i + (N - i) = N by omega] at h2
    rw [h2, ← h1]
  exact ⟨⟨_, _, h.sk⟩, h.byy, ⟨[], by rw [e]; simp⟩, .inl e⟩
theorem VI.il {i : Nat} {x : List Ent} {B : List StepT} {u : Nat} {Q : List Nat} {T : List StepT} (h : VI Z F N s i x B u Q T) : i < x.length := by
  obtain ⟨e, he, _⟩ := h.at'
  exact (List.getElem?_eq_some_iff.1 he).1
theorem VI.skip {i : Nat} {x : List Ent} {B : List StepT} {u : Nat} {Q : List Nat} {y : StepT} {T : List StepT} (h : VI Z F N s i x B u Q (y :: T)) (hr : roomB Z F y = false) : VI Z F N s i x B u Q T := by
  refine ⟨h.sk, h.at', h.que, h.byy, ?_, fun z hz => h.mem z (by simp [hz])⟩
  have := h.fut
  rwa [List.filter_cons_of_neg (by simp [hr])] at this
theorem VI.old {i : Nat} {x : List Ent} {B : List StepT} {u : Nat} {Q : List Nat} {y : StepT} {T : List StepT} (h : VI Z F N s i x B u Q (y :: T)) (hr : roomB Z F y = true) (hm : farX x (toS Z y) ≠ -1) : VI Z F N s i x B u Q T := by
  obtain ⟨P, hP⟩ := h.sk
  refine ⟨h.sk, h.at', h.que, h.byy, ?_, fun z hz => h.mem z (by simp [hz])⟩
  have h1 := h.fut
  rw [List.filter_cons_of_pos hr] at h1
  have e : addX (fromS Z) (toS Z) u i x y = x := by unfold addX; rw [if_neg (fun hc => hc.2 ((far_mem hP).2 hm))]
  have : expX (fromS Z) (toS Z) (List.filter (roomB Z F) T) u i (addX (fromS Z) (toS Z) u i x y) = _ := h1
  rwa [e] at this
theorem VI.pre {i : Nat} {x : List Ent} {B : List StepT} {u : Nat} {Q : List Nat} {T : List StepT} (h : VI Z F N s i x B u Q T) (hN : i < N) : ∃ r, seekK (fromS Z) (toS Z) (stepsK Z F Z.length) s N = x ++ r := by
  obtain ⟨r1, h1⟩ := expX_pre (fr := fromS Z) (to := toS Z) u i (T.filter (roomB Z F)) x
  rw [h.fut] at h1
  obtain ⟨r2, h2⟩ := seek_pre (fr := fromS Z) (to := toS Z) (l := stepsK Z F Z.length) (s0 := s) (i + 1) (N - (i + 1))
  rw [show i + 1 + (N - (i + 1)) = N by omega, h1] at h2
  exact ⟨r1 ++ r2, by rw [h2, List.append_assoc]⟩
theorem VI.add {i : Nat} {x : List Ent} {B : List StepT} {u : Nat} {Q : List Nat} {y : StepT} {T : List StepT} (h : VI Z F N s i x B u Q (y :: T)) (hr : roomB Z F y = true) (hm : farX x (toS Z y) = -1) (hs : s < N) (ht : ∀ y ∈ stepsK Z F Z.length, toS Z y < N) :
    VI Z F N s i (x ++ [(toS Z y, y, i)]) (B.set (toS Z y) y) u (Q ++ [toS Z y]) T ∧ farsL (x ++ [(toS Z y, y, i)]) N = (farsL x N).set (toS Z y) (farX x u + 1) ∧ Q.length < N ∧ farX (x ++ [(toS Z y, y, i)]) u = farX x u ∧ toS Z y ∈ keysX (x ++ [(toS Z y, y, i)]) := by
  obtain ⟨P, hP⟩ := h.sk
  obtain ⟨e, he, rfl⟩ := h.at'
  have hil := h.il
  have hn : toS Z y ∉ keysX x := fun hc => (far_mem hP).1 hc hm
  have hyu := h.mem y (by simp)
  have hyl := stepsU_room hyu hr
  have hyf := stepsU_from hyu
  have hyN := ht y hyl
  have hsk := hP.add he hyl
  have ea : addX (fromS Z) (toS Z) e.1 i x y = x ++ [(toS Z y, y, i)] := by unfold addX; rw [if_pos ⟨hyf, hn⟩]
  rw [ea] at hsk
  have hl := seek_len hsk hs ht
  rw [List.length_append, List.length_singleton] at hl
  refine ⟨⟨⟨_, hsk⟩, ⟨e, by rw [List.getElem?_append_left hil]; exact he, rfl⟩, ?_, h.byy.add hn hyN, ?_, fun z hz => h.mem z (by simp [hz])⟩, farsL_add hP he hyl hyf hn, ?_, ?_, ?_⟩
  · rw [h.que]
    unfold keysX
    rw [List.map_append, List.drop_append_of_le_length (by simp; omega)]
    rfl
  · have h1 := h.fut
    rw [List.filter_cons_of_pos hr] at h1
    have : expX (fromS Z) (toS Z) (List.filter (roomB Z F) T) e.1 i (addX (fromS Z) (toS Z) e.1 i x y) = _ := h1
    rwa [ea] at this
  · rw [h.que, List.length_drop]
    simp [keysX]
    omega
  · rw [far_add hP he hyl hyf hn, if_neg]
    intro hc
    exact hn (by rw [← hc]; exact keysX_mem.2 ⟨i, e, he, rfl⟩)
  · simp [keysX]
theorem VI.done {i : Nat} {x : List Ent} {B : List StepT} {u : Nat} {Q : List Nat} (h : VI Z F N s i x B u Q []) : VO Z F N s (i + 1) x B Q := by
  have hil := h.il
  have he : x = seekK (fromS Z) (toS Z) (stepsK Z F Z.length) s (i + 1) := h.fut
  have hp := seek_props (fr := fromS Z) (to := toS Z) (l := stepsK Z F Z.length) (s0 := s) (i + 1)
  rw [← he, Nat.min_eq_left (by omega)] at hp
  exact ⟨he, hp, by omega, h.que, h.byy⟩
theorem VI.out {i : Nat} {x : List Ent} {B : List StepT} {u : Nat} {Q : List Nat} {T : List StepT} (h : VI Z F N s i x B u Q T) (hN : i < N) {t : Int} {v : Nat} (e : t = (v : Int)) (hv : v ∈ keysX x) : VR Z F N s t x B := by
  obtain ⟨P, hP⟩ := h.sk
  exact ⟨⟨_, _, hP⟩, h.byy, h.pre hN, .inr ⟨v, e, hv⟩⟩
theorem VI.far {i : Nat} {x : List Ent} {B : List StepT} {u : Nat} {Q : List Nat} {T : List StepT} (h : VI Z F N s i x B u Q T) (hs : s < N) (ht : ∀ y ∈ stepsK Z F Z.length, toS Z y < N) : 0 ≤ farX x u ∧ farX x u < (N : Int) ∧ ∀ v, -1 ≤ farX x v ∧ farX x v < (N : Int) := by
  obtain ⟨P, hP⟩ := h.sk
  obtain ⟨e, he, rfl⟩ := h.at'
  have hl := seek_len hP hs ht
  have hb := fun v => (farX_bd hP hl v).resolve_right (fun hc => by rw [hc] at he; simp at he)
  have h1 := farX_some hP he
  exact ⟨by omega, (hb e.1).2, hb⟩
end
end Go.Proofs.Ytfklkcnopngpgaa
