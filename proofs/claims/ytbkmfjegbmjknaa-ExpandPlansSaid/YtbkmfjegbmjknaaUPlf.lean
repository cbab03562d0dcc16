/- The flow of a small plan: what is known of it. Plain lists. -/
import Derived.Test.YtbkmfjegbmjknaaUCas
import Derived.Test.YtbkmfjegbmjknaaUPln
namespace Go.Proofs.Ytbkmfjegbmjknaa
open Go.RowKit
set_option linter.unusedVariables false
theorem net_casts {E : Exp} (hG : E.Good) {nb : Nat} (hnb : E.last + 1 = nb) : ∀ a ∈ E.net, a.1 = (frN a : Int) ∧ a.2.1 = (toN a : Int) ∧ frN a < nb ∧ toN a < nb := by
  intro a ha
  have h0 := Exp.net_ends hG a ha
  rw [hnb] at h0
  have h1 : a.1 = (frN a : Int) ∧ a.2.1 = (toN a : Int) := by
    unfold Exp.net at ha
    obtain ⟨k, hk, rfl⟩ := List.mem_map.1 ha
    rcases Exp.kinds_cases hk with ⟨i, u, rfl, ho⟩ | ⟨v, u, _, rfl, _⟩ | ⟨u, _, rfl⟩ | ⟨u, _, rfl⟩
    · obtain ⟨a, ha, _⟩ := E.ok_arc ho
      have e4 : E.arcKd (Kd.mv i u) = ((E.slot (frN a) u : Int), (E.slot (toN a) (u + tmN a) : Int), capN a, 0) := by simp only [Exp.arcKd, ha]
      rw [e4]
      exact ⟨rfl, rfl⟩
    · exact ⟨rfl, rfl⟩
    · exact ⟨rfl, rfl⟩
    · exact ⟨rfl, rfl⟩
  exact ⟨h1.1, h1.2, h0⟩
def blcL (A : List ArcT) (F : List Int) (nb p : Nat) : List Int := (List.range nb).map fun v => balK A F v p
theorem blcL_len (A : List ArcT) (F : List Int) (nb p : Nat) : (blcL A F nb p).length = nb := by simp [blcL]
theorem blcL_at {A : List ArcT} {F : List Int} {nb p v : Nat} (hv : v < nb) : (blcL A F nb p)[v]? = some (balK A F v p) := by
  unfold blcL; rw [List.getElem?_map, List.getElem?_range hv]; rfl
theorem blcL_zero (A : List ArcT) (F : List Int) (nb : Nat) : List.replicate nb 0 = blcL A F nb 0 := by
  refine (List.eq_replicate_iff.2 ⟨blcL_len _ _ _ _, fun b hb => ?_⟩).symm
  unfold blcL at hb
  obtain ⟨v, _, rfl⟩ := List.mem_map.1 hb
  rfl
theorem blcL_step {A : List ArcT} {F : List Int} {nb p : Nat} {a : ArcT} {x : Int} (ha : A[p]? = some a) (hx : F[p]? = some x) (h1 : frN a < nb) (h2 : toN a < nb) :
    ∃ y2, ((blcL A F nb p).set (frN a) (balK A F (frN a) p + x))[toN a]? = some y2 ∧ y2 = balK A F (toN a) p + (if frN a = toN a then x else 0) ∧ ((blcL A F nb p).set (frN a) (balK A F (frN a) p + x)).set (toN a) (y2 - x) = blcL A F nb (p + 1) := by
  have hat : atI F p = x := by unfold atI; rw [List.getD_eq_getElem?_getD, hx]; rfl
  refine ⟨_, ?_, rfl, ?_⟩
  · rw [List.getElem?_set]
    by_cases e : frN a = toN a
    · rw [if_pos e, if_pos (by rw [blcL_len]; exact h1), if_pos e, e]
    · rw [if_neg e, blcL_at h2, if_neg e, Int.add_zero]
  · refine List.ext_getElem? (fun v => ?_)
    rw [List.getElem?_set, List.getElem?_set]
    by_cases hv : v < nb
    · rw [blcL_at hv, blcL_at hv, balK_succ ha, hat]
      unfold share
      rw [List.length_set, blcL_len]
      by_cases e1 : toN a = v
      · rw [if_pos e1, if_pos h2, if_pos e1]
        by_cases e2 : frN a = toN a
        · rw [if_pos e2, if_pos (by omega), e1]; congr 1; omega
        · rw [if_neg e2, if_neg (by omega), e1]; congr 1; omega
      · rw [if_neg e1, if_neg e1]
        by_cases e2 : frN a = v
        · rw [if_pos e2, if_pos h1, if_pos e2, e2]; congr 1; omega
        · rw [if_neg e2, if_neg e2]; congr 1; omega
    · have e1 : ¬ toN a = v := by omega
      have e2 : ¬ frN a = v := by omega
      rw [if_neg e1, if_neg e2, List.getElem?_eq_none (by rw [blcL_len]; omega), List.getElem?_eq_none (by rw [blcL_len]; omega)]
structure PlnF (Z : List ArcT) (N i j H : Nat) (b : Bool) (L : List MoveT) (A : List ArcT) (V : List Int) (q : Nat) (k : Int) : Prop where
  casts : ∀ a ∈ A, a.1 = (frN a : Int) ∧ a.2.1 = (toN a : Int) ∧ frN a < q + 2 ∧ toN a < q + 2
  flow : ∀ (p : Nat) (a : ArcT) (x : Int), A[p]? = some a → V[p]? = some x → 0 ≤ x ∧ x ≤ a.2.2.1 ∧ x ≤ 1099511627776
  len : V.length = A.length ∧ A.length ≤ 200
  zero : ∀ v, v < q → balK A V v A.length = 0
  first : balK A V q A.length = k
  last : balK A V (q + 1) A.length = -k
  all : AllIn (mvS L)
  bd : ∀ v p, p ≤ 200 → -219902325555200 ≤ balK A V v p ∧ balK A V v p ≤ 219902325555200
  mov : movE (N : Int) Z (i : Int) (j : Int) (H : Int) b V = 0 ∧ ∀ M, M.Perm (mvs L) → Sorted kM M → movV (N : Int) Z (i : Int) (j : Int) (H : Int) b V = M
theorem pln_facts {N i j H : Nat} {Z : List ArcT} {L : List MoveT} (hF : CaseF N i j H Z L) (b : Bool) {q : Nat} (hq : (H + 1) * N = q) (he : plnE (N : Int) Z (i : Int) (j : Int) (H : Int) b L = 0) :
    PlnF Z N i j H b L (⟨Z, N, i, j, H, b⟩ : Exp).net (floV (N : Int) Z (i : Int) (j : Int) (H : Int) b L) q (plnV (N : Int) Z (i : Int) (j : Int) (H : Int) b L) := by
  have hx := hF.sm.xpe (by omega)
  obtain ⟨N', i', j', K', e1, e2, e3, e4, hi, hj, hij, hW, hK, hm1, hm2⟩ := xpE_nat hx
  obtain rfl : N = N' := by omega
  obtain rfl : i = i' := by omega
  obtain rfl : j = j' := by omega
  obtain rfl : H = K' := by omega
  have hG : (⟨Z, N, i, j, H, b⟩ : Exp).Good := Exp.good_of hW hi hj hij
  have hf : (⟨Z, N, i, j, H, b⟩ : Exp).first = q := hq
  have hl : (⟨Z, N, i, j, H, b⟩ : Exp).last = q + 1 := by show (H + 1) * N + 1 = q + 1; rw [hq]
  have hmv := plan_mvE he
  have hpo := plan_ok hmv
  have hn : L.length ≤ 200 := by have := hF.len; omega
  have hpl : planB Z L N i j H b = true := by
    have h1 := he
    rw [plnE_good hmv] at h1
    by_cases c : planB Z L N i j H b = true
    · exact c
    · rw [if_neg c] at h1; cases h1
  have hfl0 : floV (N : Int) Z (i : Int) (j : Int) (H : Int) b L = (⟨Z, N, i, j, H, b⟩ : Exp).kinds.map (flwK ⟨Z, N, i, j, H, b⟩ (mvs L)) := by
    unfold floV floE
    rw [if_pos hx, he, if_pos rfl, expOf_nat]
  have hfst := plan_flow (E := ⟨Z, N, i, j, H, b⟩) hW hn hpo.2 hi hj hij hpl
  have hk : plnV (N : Int) Z (i : Int) (j : Int) (H : Int) b L = stk Z L (j : Int) (H : Int) := by unfold plnV; rw [if_pos he]
  rw [← hfl0, hf, hl] at hfst
  have hb : isfB (⟨Z, N, i, j, H, b⟩ : Exp).net (floV (N : Int) Z (i : Int) (j : Int) (H : Int) b L) = true := isfB_is.2 ⟨hfst.1.1, fun p a x ha hx => by
    have h1 := hfst.1.2 p a ha
    have e : atI (floV (N : Int) Z (i : Int) (j : Int) (H : Int) b L) p = x := by unfold atI; rw [List.getD_eq_getElem?_getD, hx]; rfl
    rw [e] at h1
    exact h1⟩
  have e0 : bldA (N : Int) Z (i : Int) (j : Int) (H : Int) b = (⟨Z, N, i, j, H, b⟩ : Exp).net := by unfold bldA; rw [if_pos hx]; rfl
  have hsum := flow_sink (fun a ha => by have := Exp.net_ends hG a ha; rw [hl] at this; exact this) (show q < q + 1 + 1 by omega) (show q + 1 < q + 1 + 1 by omega) (show q ≠ q + 1 by omega) hfst
  refine ⟨fun a ha => by have := net_casts hG (nb := q + 2) (by rw [hl]) a ha; exact this, ?_, ?_, ?_, ?_, ?_, hpo.1, ?_, ?_⟩
  · intro p a x ha hx'
    have h1 := (isfB_is.1 hb).2 p a x ha hx'
    have h2 := arc_caps (E := ⟨Z, N, i, j, H, b⟩) hW a (List.mem_of_getElem? ha)
    omega
  · refine ⟨hfst.1.1, ?_⟩
    unfold Exp.net; rw [List.length_map]; exact hF.sm.kinds (by omega) b
  · intro v hv
    exact hfst.2.1 v (by omega) (by omega) (by omega)
  · rw [hk]; exact hfst.2.2
  · rw [hk]; exact hsum
  · intro v p hp
    have h1 := balK_bd (Z := (⟨Z, N, i, j, H, b⟩ : Exp).net) (f := floV (N : Int) Z (i : Int) (j : Int) (H : Int) b L) (M := 1099511627776) (by omega) (fun p a ha => by
      have h1 := hfst.1.2 p a ha
      have h2 := arc_caps (E := ⟨Z, N, i, j, H, b⟩) hW a (List.mem_of_getElem? ha)
      unfold capN at h1
      omega) v p
    omega
  · refine ⟨by unfold movE; rw [if_pos hx, e0, if_pos hb], fun M hp hS => ?_⟩
    unfold movV
    rw [e0, if_pos ⟨hx, hb⟩, hfl0, expOf_nat]
    exact plan_moves (E := ⟨Z, N, i, j, H, b⟩) hW hpo.2 hp hS
end Go.Proofs.Ytbkmfjegbmjknaa
