/- LevelMore: along the way as much can be pushed as it has room, and the value grows by it. -/
import Derived.Test.YtbgnoaijgngifaaGreatVLaws
import Derived.Test.YtbgnoaijgngifaaGreatBD
import Derived.IntWalk
import Derived.BigQuiet
import Derived.Deep.QuietTactic
namespace Go.Proofs.YtbgnoaijgngifaaGreat
open Go.RowKit
set_option linter.unusedVariables false

theorem bals8_at {n : Int} {Z : List ArcT} {F : List Int} {N : Nat} (h : flowE n Z F = 0) (hN : n = (N : Int)) : (balsL n Z F).length = N ∧ ∀ v, v < N → (balsL n Z F)[v]? = some (bal Z F v) := by
  have e : balsL n Z F = balL Z F N Z.length := by unfold balsL; rw [if_pos h, hN, Int.toNat_natCast]
  refine ⟨by rw [e, balL_len], fun v hv => ?_⟩
  rw [e]
  have := atI_get (d := balL Z F N Z.length) (v := v) (by rw [balL_len]; exact hv)
  rw [this, balL_at Z F Z.length hv]
  rfl
theorem st_of {n : Int} {Z : List ArcT} {F : List Int} {s t : Int} (h : valE n Z s t F = 0) : ∃ N i j : Nat, n = (N : Int) ∧ s = (i : Int) ∧ t = (j : Int) ∧ i < N ∧ j < N ∧ i ≠ j ∧ FlowST Z N i j F (valK n Z s t F) := by
  obtain ⟨h1, h2, h3⟩ := valE_ok h
  obtain ⟨_, i, j, rfl, rfl, hi, hj, hij⟩ := endsE_ok h1
  obtain ⟨_, hF, _, _, hn1, hn2⟩ := flow_facts (b := false) h2
  obtain ⟨N, rfl⟩ : ∃ N : Nat, n = (N : Int) := ⟨n.toNat, by omega⟩
  rw [Int.toNat_natCast] at hi hj
  obtain ⟨hl, hb⟩ := bals8_at h2 (rfl : (N : Int) = (N : Int))
  refine ⟨N, i, j, rfl, rfl, rfl, hi, hj, hij, hF, fun v hv h4 h5 => ?_, ?_⟩
  · have := restB_at h3 v _ (hb v hv)
    rw [Nat.zero_add] at this
    omega
  · unfold valK
    rw [if_pos h, Int.toNat_natCast]
theorem of_st {N i j : Nat} {Z : List ArcT} {G : List Int} {v : Int} (he : endsE (N : Int) Z (i : Int) (j : Int) = 0) (h : FlowST Z N i j G v) : valE (N : Int) Z (i : Int) (j : Int) G = 0 ∧ valK (N : Int) Z (i : Int) (j : Int) G = v := by
  obtain ⟨hc, _⟩ := endsE_ok he
  have hfe : flowE (N : Int) Z G = 0 := by unfold flowE; rw [if_pos hc, if_pos (flow_flowB h.1)]
  obtain ⟨hl, hb⟩ := bals8_at hfe (rfl : (N : Int) = (N : Int))
  have hr : restB (i : Int) (j : Int) 0 (balsL (N : Int) Z G) = true := restB_mk (fun w x hx => by
    have hw : w < N := by rw [← hl]; exact (List.getElem?_eq_some_iff.1 hx).1
    rw [hb w hw] at hx
    cases hx
    rw [Nat.zero_add]
    by_cases h1 : w = i
    · left; omega
    · by_cases h2 : w = j
      · right; left; omega
      · right; right; exact h.2.1 w hw h1 h2)
  have hv := valE_yes he hfe hr
  refine ⟨hv, ?_⟩
  unfold valK
  rw [if_pos hv, Int.toNat_natCast]
  exact h.2.2
theorem step_okK {n : Int} {Z : List ArcT} {F : List Int} (h : flowE n Z F = 0) {y : StepT} (hy : y ∈ stepsK Z F Z.length) : StepOk Z F y ∧ isArc Z y ∧ 0 < leftS Z F y := by
  obtain ⟨hR, hF, hz, hfl, _, _⟩ := flow_facts (b := false) h
  obtain ⟨h1, _, h3⟩ := (stepsK_mem (Nat.le_refl _)).1 hy
  obtain ⟨p, a, q, ha, e⟩ := stepsK_arc hy
  have hb := flow_bd hR hF ha
  have hp : p < F.length := by rw [hfl]; exact (List.getElem?_eq_some_iff.1 ha).1
  unfold capN at hb
  exact ⟨⟨p, a, q, e, ha, atI_get hp, by omega, by omega, by omega, by omega⟩, h1, h3⟩
/-- What LevelMore says, in plain lists. -/
theorem more_plain {n : Int} {Z : List ArcT} {F : List Int} {s t : Int} (hp : pathE n Z F s t = 0) (hv : valE n Z s t F = 0) (hb : wayB n Z F s t = true) :
    wayL n Z F s t ≠ [] ∧ (wayL n Z F s t).length ≤ 50 ∧ (∀ y ∈ wayL n Z F s t, StepOk Z F y ∧ isArc Z y) ∧ 0 < botK Z F (wayL n Z F s t) ∧
    (pushR n Z F (wayL n Z F s t) (botK Z F (wayL n Z F s t))).1 = 0 ∧ valE n Z s t (pushR n Z F (wayL n Z F s t) (botK Z F (wayL n Z F s t))).2 = 0 ∧
    valK n Z s t (pushR n Z F (wayL n Z F s t) (botK Z F (wayL n Z F s t))).2 = valK n Z s t F + botK Z F (wayL n Z F s t) ∧ -209715200 ≤ valK n Z s t F ∧ valK n Z s t F ≤ 209715200 ∧ botK Z F (wayL n Z F s t) ≤ 4398046511104 := by
  have hbd := wayL_bd n Z F s t
  obtain ⟨N, i, j, rfl, rfl, rfl, hi, hj, hij, hN, hf, hw⟩ := wayF_ok hp
  obtain ⟨N', i', j', e1, e2, e3, _, _, _, hst⟩ := st_of hv
  obtain rfl : N = N' := by omega
  obtain rfl : i = i' := by omega
  obtain rfl : j = j' := by omega
  have hT := flow_to hf
  rw [Int.toNat_natCast] at hT
  obtain ⟨hR, hF, _, _, _, _⟩ := flow_facts (b := false) hf
  have hwl : wayL (N : Int) Z F (i : Int) (j : Int) = (wayK (fromS Z) (toS Z) (stepsK Z F Z.length) N i j).getD [] := by unfold wayL; rw [hw]
  have hwb : (wayK (fromS Z) (toS Z) (stepsK Z F Z.length) N i j).isSome = true := by rw [← hw]; exact hb
  obtain ⟨p, hk⟩ := Option.isSome_iff_exists.1 hwb
  rw [hk, Option.getD_some] at hwl
  rw [hwl] at hbd ⊢
  obtain ⟨w1, w2, w3, w4⟩ := way_props hi hT hk
  have hne : p ≠ [] := by
    rintro rfl
    exact hij w1
  obtain ⟨a1, a2, a3⟩ := augment hij hst w1 w3 w4 (fun x hx => (step_okK hf (w2 x hx)).2)
  have hpr : pushR (N : Int) Z F p (botK Z F p) = pushL Z (botK Z F p) F p := pushR_yes hf (by omega)
  have he := (valE_ok hv).1
  have hpl := pushed_of p F a2
  obtain ⟨o1, o2⟩ := of_st he a3
  rw [hpr, hpl]
  have hvb : valK (N : Int) Z (i : Int) (j : Int) F = bal Z F i := by unfold valK; rw [if_pos hv, Int.toNat_natCast]
  have hbb := bal_bd hR hF i (Nat.le_refl Z.length)
  have hbl : botK Z F p ≤ 4398046511104 := by
    obtain ⟨y, hy⟩ := List.exists_mem_of_ne_nil p hne
    have h1 := botK_le (Z := Z) (f := F) p y hy
    have h2 := (step_okK hf (w2 y hy)).1.left
    omega
  unfold bal at hvb
  exact ⟨hne, hbd, fun y hy => ⟨(step_okK hf (w2 y hy)).1, (step_okK hf (w2 y hy)).2.1⟩, a1, rfl, o1, o2, by omega, by omega, hbl⟩
section
variable (n : Int) (b : Bool) (ao fo : Option Addr) (len cap fl fc : Nat) (Z : List ArcT) (F : List Int)
end
end Go.Proofs.YtbgnoaijgngifaaGreat
