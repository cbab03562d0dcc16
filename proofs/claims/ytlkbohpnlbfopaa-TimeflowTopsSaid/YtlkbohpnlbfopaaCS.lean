/- Lemmas of the layers below, several texts in one. -/
import Derived.Test.YtlkbohpnlbfopaaCK
import Derived.Test.YtlkbohpnlbfopaaCQ
import Derived.Test.YtlkbohpnlbfopaaURst
import Derived.Test.YtlkbohpnlbfopaaCP
import Derived.Test.YtlkbohpnlbfopaaCD
import Derived.Test.YtlkbohpnlbfopaaCO
namespace Go.Proofs.Ytlkbohpnlbfopaa
open Go.RowKit
set_option linter.unusedVariables false
theorem CaseF.sm {N i j H : Nat} {Z : List ArcT} {L : List MoveT} (h : CaseF N i j H Z L) : SmF 8 N i j H Z := ⟨h.nodes, h.src, h.snk, h.ne, h.hor, h.arcs, h.small⟩
section
variable (b : Bool) (ao lo : Option Addr) (nl cap ll lc : Nat) (Z : List ArcT) (N i j H : Nat) (L : List MoveT)
end
end Go.Proofs.Ytlkbohpnlbfopaa
namespace Go.Proofs.Ytlkbohpnlbfopaa
set_option linter.unusedVariables false
namespace Exp
variable {E : Exp}
theorem amt_bds {c : Int} (hc : 0 ≤ c) (v u : Nat) : ∀ {M : List MoveT}, (∀ m ∈ M, MvIn E m ∧ 0 ≤ m.2.2 ∧ m.2.2 ≤ c) → E.dep (amtK M) v u ≤ c * M.length ∧ E.arr (amtK M) v u ≤ c * M.length
  | [], _ => by
    have h1 : E.dep (amtK []) v u = 0 := by
      unfold dep
      refine (sumTo_congr (h := fun _ => 0) (fun i _ => ?_)).trans (sumTo_zero _)
      split
      · split <;> rfl
      · rfl
    have h2 : E.arr (amtK []) v u = 0 := by
      unfold arr
      refine (sumTo_congr (h := fun _ => 0) (fun u _ => ?_)).trans (sumTo_zero _)
      refine (sumTo_congr (h := fun _ => 0) (fun i _ => ?_)).trans (sumTo_zero _)
      split
      · split <;> rfl
      · rfl
    rw [h1, h2]; simp
  | m :: M, h => by
    obtain ⟨⟨i, t, h1, h2, ho⟩, h3, h4⟩ := h m List.mem_cons_self
    obtain ⟨x, y, d⟩ := m
    simp only at h1 h2 h3 h4
    subst h1; subst h2
    have ih := amt_bds hc v u (M := M) (fun m hm => h m (List.mem_cons_of_mem _ hm))
    have e : ∀ k : Kd, amtK ((((i : Int), (t : Int), d) : MoveT) :: M) k = (fun k => amtK [(((i : Int), (t : Int), d) : MoveT)] k + amtK M k) k := by
      rintro ⟨q, i', u'⟩
      match q with
      | 0 =>
        show nOf _ _ = nOf _ _ + nOf _ _
        rw [nOf_cons, nOf_cons (L := [])]
        show _ = (_ + 0) + _
        omega
      | n + 1 => rfl
    have hone : ∀ i' u' : Nat, amtK [(((i : Int), (t : Int), d) : MoveT)] (Kd.mv i' u') = if i' = i ∧ u' = t then d else 0 := fun i' u' => by
      show nOf [(((i : Int), (t : Int), d) : MoveT)] ((u' : Int), (i' : Int)) = _
      rw [nOf_cons]
      show (if ((t : Int), (i : Int)) = ((u' : Int), (i' : Int)) then d else 0) + 0 = _
      by_cases e : i' = i ∧ u' = t
      · obtain ⟨rfl, rfl⟩ := e
        rw [if_pos rfl, if_pos ⟨rfl, rfl⟩]; omega
      · rw [if_neg e, if_neg]
        · rfl
        · intro e2
          obtain ⟨e3, e4⟩ := Prod.mk.inj e2
          exact e ⟨by omega, by omega⟩
    rw [show amtK ((((i : Int), (t : Int), d) : MoveT) :: M) = (fun k => amtK [(((i : Int), (t : Int), d) : MoveT)] k + amtK M k) from funext e, dep_add, arr_add, dep_one ho hone, arr_one ho hone, List.length_cons, Int.natCast_add, Int.mul_add]
    constructor
    · split
      · split <;> omega
      · omega
    · split
      · split <;> omega
      · omega
end Exp
section
variable {E : Exp} {L : List MoveT}
theorem mv_caps (hW : SpanNet E.Z E.N) (hok : ∀ x ∈ mvs L, okM E.Z (E.s : Int) (E.t : Int) (E.H : Int) x = true) : ∀ m ∈ mvs L, MvIn E m ∧ 0 ≤ m.2.2 ∧ m.2.2 ≤ 1048576 := fun m hm => by
  obtain ⟨g1, g2, _, _, g5, g6, _⟩ := okM_yes.1 (hok m hm)
  refine ⟨mv_in hW (hok m hm), g5, Int.le_trans g6 ?_⟩
  obtain ⟨p, hp⟩ : ∃ p : Nat, m.1 = (p : Int) := ⟨m.1.toNat, by omega⟩
  have hpl : p < E.Z.length := by omega
  rw [hp, arcI_at hpl]
  exact (hW.caps _ (List.getElem_mem hpl)).2
theorem amt_mem {i u : Nat} (h : nOf (mvs L) ((u : Int), (i : Int)) ≠ 0) : ((i : Int), (u : Int), nOf (mvs L) ((u : Int), (i : Int))) ∈ mvs L := by
  by_cases hm : ((u : Int), (i : Int)) ∈ (mvs L).map fun m => (m.2.1, m.1)
  · obtain ⟨m, hm1, e⟩ := List.mem_map.1 hm
    have h1 : m.2.2 = nOf (mvs L) (m.2.1, m.1) := by
      rw [nOf, filter_one_of (f := fun m : MoveT => (m.2.1, m.1)) hm1 (mvs_nodup L)]; simp
    rw [e] at h1
    obtain ⟨a, b, c⟩ := m
    obtain ⟨e1, e2⟩ := Prod.mk.inj e
    simp only at e1 e2 h1
    rw [← h1, ← e1, ← e2]; exact hm1
  · exact absurd (nOf_none hm) h
theorem plan_flow (hW : SpanNet E.Z E.N) (hn : L.length ≤ 200) (hok : ∀ x ∈ mvs L, okM E.Z (E.s : Int) (E.t : Int) (E.H : Int) x = true) (hs : E.s < E.N) (ht : E.t < E.N) (hne : E.s ≠ E.t) (hpl : planB E.Z L E.N E.s E.t E.H E.hold = true) :
    FlowST E.net (E.last + 1) E.first E.last (E.kinds.map (flwK E (mvs L))) (stk E.Z L (E.t : Int) (E.H : Int)) := by
  have hG := Exp.good_of hW hs ht hne
  have hin : ∀ m ∈ mvs L, MvIn E m := fun m hm => (mv_caps hW hok m hm).1
  have hml : ((mvs L).length : Int) ≤ 200 := by have := Nat.le_trans (mvs_len L) hn; omega
  have hst : ∀ v u : Nat, E.stock (amtK (mvs L)) v u = stk E.Z L (v : Int) (u : Int) := fun v u => by rw [← stk_exp hW v u hin]; exact stk_merged E.Z L _ _
  have hP : E.Plan (amtK (mvs L)) := by
    refine ⟨fun i u ho => ?_, fun v hv h1 h2 u hu => ?_⟩
    · show 0 ≤ nOf (mvs L) ((u : Int), (i : Int)) ∧ ∀ a, E.Z[i]? = some a → nOf (mvs L) ((u : Int), (i : Int)) ≤ capN a
      by_cases h0 : nOf (mvs L) ((u : Int), (i : Int)) = 0
      · rw [h0]
        exact ⟨Int.le_refl _, fun a ha => (hW.caps a (List.mem_of_getElem? ha)).1⟩
      · have hm := amt_mem h0
        obtain ⟨_, _, _, _, g5, g6, _⟩ := okM_yes.1 (hok _ hm)
        refine ⟨g5, fun a ha => ?_⟩
        obtain ⟨hi, rfl⟩ := List.getElem?_eq_some_iff.1 ha
        simp only at g6
        rw [arcI_at hi] at g6
        exact g6
    · rw [hst]
      exact planG_is.1 hpl u hu v hv h1 h2
  have h := Exp.flows hG hP (fun v u hv hu => by
    have h1 := Exp.amt_bds (E := E) (c := 1048576) (by omega) v u (M := mvs L) (mv_caps hW hok)
    have h2 := (stk_small hW hn hok (List.Perm.refl (mvs L)) (v : Int) (u : Int)).2
    have h3 : (1048576 : Int) * ((mvs L).length : Int) ≤ 1048576 * 200 := Int.mul_le_mul_of_nonneg_left hml (by omega)
    rw [hst, ← stk_merged]
    unfold Exp.big
    omega)
  rw [hst] at h
  rw [show E.kinds.map (flwK E (mvs L)) = E.kinds.map (E.flowX (amtK (mvs L))) from map_kd_congr (fun k _ => flw_eq hW hin k)]
  exact h
end
end Go.Proofs.Ytlkbohpnlbfopaa
namespace Go.Proofs.Ytlkbohpnlbfopaa
open Go.RowKit
set_option linter.unusedVariables false
end Go.Proofs.Ytlkbohpnlbfopaa
namespace Go.Proofs.Ytlkbohpnlbfopaa
set_option linter.unusedVariables false
section
variable {N i j H : Nat} {Z : List ArcT} {L : List MoveT}
theorem case_flow (hF : CaseF N i j H Z L) (b : Bool) (he : plnE (N : Int) Z (i : Int) (j : Int) (H : Int) b L = 0) :
    ∃ F, FlowST (⟨Z, N, i, j, H, b⟩ : Exp).net ((H + 1) * N + 2) ((H + 1) * N) ((H + 1) * N + 1) F (plnV (N : Int) Z (i : Int) (j : Int) (H : Int) b L) := by
  have hx := hF.sm.xpe (by omega)
  obtain ⟨N', i', j', K', e1, e2, e3, e4, hi, hj, hij, hW, hK, hm1, hm2⟩ := xpE_nat hx
  obtain rfl : N = N' := by omega
  obtain rfl : i = i' := by omega
  obtain rfl : j = j' := by omega
  obtain rfl : H = K' := by omega
  have hmv := plan_mvE he
  have hpo := plan_ok hmv
  have hn : L.length ≤ 200 := by have := hF.len; omega
  have hpl : planB Z L N i j H b = true := by
    have h1 := he
    rw [plnE_good hmv] at h1
    by_cases c : planB Z L N i j H b = true
    · exact c
    · rw [if_neg c] at h1; cases h1
  have hfst := plan_flow (E := ⟨Z, N, i, j, H, b⟩) hW hn hpo.2 hi hj hij hpl
  have hk : plnV (N : Int) Z (i : Int) (j : Int) (H : Int) b L = stk Z L (j : Int) (H : Int) := by unfold plnV; rw [if_pos he]
  rw [hk]
  exact ⟨_, hfst⟩
end
end Go.Proofs.Ytlkbohpnlbfopaa
