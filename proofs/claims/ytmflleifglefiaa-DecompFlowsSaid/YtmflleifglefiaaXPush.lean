import Derived.Test.YtmflleifglefiaaVSght
namespace Go.Proofs.Ytmflleifglefiaa
open Go.RowKit
set_option linter.unusedVariables false

theorem pushedL_len (k : Int) : ∀ (L : List StepT) (F : List Int), (pushedL k F L).length = F.length
  | [], F => rfl
  | x :: r, F => by
    show (pushedL k (stepTo k F x) r).length = _
    rw [pushedL_len k r, stepTo_len]
theorem pushedL_take {k : Int} {F : List Int} {L : List StepT} {m : Nat} (hm : m < L.length) : pushedL k F (L.take (m + 1)) = stepTo k (pushedL k F (L.take m)) L[m] := by
  rw [List.take_succ_eq_append_getElem hm]
  unfold pushedL
  rw [List.foldl_append]
  rfl
/-- Where all steps have room, the numbers on the way are a flow's. -/
theorem pushL_take {Z : List ArcT} {k : Int} : ∀ (L : List StepT) (F : List Int) (m : Nat), (pushL Z k F L).1 = 0 → (pushL Z k F (L.take m)).1 = 0
  | [], F, m, _ => by simp [pushL]
  | x :: r, F, 0, _ => rfl
  | x :: r, F, m + 1, h => by
    have hx : isArc Z x := Classical.byContradiction fun hx => by unfold pushL at h; rw [if_neg hx] at h; cases h
    have hl : ¬ leftS Z F x < k := fun hl => by unfold pushL at h; rw [if_pos hx, if_pos hl] at h; cases h
    have e : ∀ l, pushL Z k F (x :: l) = pushL Z k (stepTo k F x) l := fun l => by show (if _ then _ else _) = _; rw [if_pos hx, if_neg hl]
    rw [e] at h
    rw [List.take_succ_cons, e]
    exact pushL_take r _ m h
theorem pushed_flow {Z : List ArcT} {k : Int} {F : List Int} {L : List StepT} (hk : 0 ≤ k) (hF : Flow Z F) (h : (pushL Z k F L).1 = 0) (m : Nat) : Flow Z (pushedL k F (L.take m)) := by
  have h1 := pushL_take L F m h
  have h2 := pushL_flow hk _ F hF h1
  rw [pushed_of _ F h1] at h2
  exact h2
section
variable (fo lo : Option Addr) (fc lc : Nat) (F : List Int) (L : List StepT)
set_option maxRecDepth 100000 in
set_option maxHeartbeats 4000000 in
theorem rpushed_any (k : Int) (w : World) (hf : Lst encI w fo F) (hl : Row encS 2 w lo L) (hnil : fo = none → fc = 0) (hll : L.length ≤ 200000) (hfl : F.length ≤ 200000) (hk0 : -8796093022208 ≤ k) (hk1 : k ≤ 8796093022208) (hL : ∀ y ∈ L, ∃ (p : Nat) (q : Bool), y = ((p : Int), q) ∧ p < F.length)
    (hb : ∀ m, m ≤ L.length → ∀ p, p < F.length → -8796093022208 ≤ atI (pushedL k F (L.take m)) p ∧ atI (pushedL k F (L.take m)) p ≤ 8796093022208) :
    Calls Try.prog 36 #[.slice fo F.length fc, .slice lo L.length lc, .int .i64 k] w fun e w' => ∃ fo' fc', e = .returned (.slice fo' F.length fc') ∧ Lst encI w' fo' (pushedL k F L) ∧ (fo' = none → fc' = 0) ∧ Below w.heap.size w w' := by
  have HF := Lib.hid hf
  have HS := Lib.hid hl
  have HNL := Lib.hid hnil
  have HLO := Lib.hid hL
  have HBD := Lib.hid hb
  clear hf hl hnil hL hb
  go_enter Try.func36, Try.ntmps36
  go_wp2_with (first
    | (at_builtin; refine wpList_append_all rfl _ _ rfl fo fc F rfl rfl HF.out HNL.out hfl ?_; intro v w2 ho2 hb2; have HW2 := Lib.hid (RW.mk hb2 ho2); clear ho2 hb2))
  obtain ⟨fa, ca, hv, _⟩ := HW2.out.own.lst
  subst hv
  go_loopw [8] (fun i wr => ∃ m : Nat, m ≤ L.length ∧ i = .int .i64 (m : Int) ∧ Hid (RW w wr (.slice fa F.length ca) (pushedL k F (L.take m)))) (fun i _ => L.length - (intOf i).toNat)
  case atStart => exact ⟨0, Nat.zero_le _, rfl, HW2⟩
  case round =>
    clear HW2
    obtain ⟨m, hm, rfl, HP⟩ := hrel
    have HFN := Lib.hid (pushedL_len k (L.take m) F)
    by_cases hlt : m < L.length
    · have hli : (m : Int) < (L.length : Int) := by omega
      obtain ⟨lb, lx, e, hlb, s0, s1⟩ := step_at (HS.out.below' HP.out.below) (List.getElem?_eq_getElem hlt)
      cases e
      have HTK := Lib.hid (pushedL_take (k := k) (F := F) hlt)
      obtain ⟨p, q, hpq, hp⟩ := HLO.out _ (List.getElem_mem hlt)
      obtain ⟨b0, b1⟩ := HBD.out m hm p hp
      obtain ⟨b2, b3⟩ := HBD.out (m + 1) hlt p hp
      generalize L[m] = y at *
      subst hpq
      have hST : stepTo k (pushedL k F (L.take m)) ((p : Int), q) = (pushedL k F (L.take m)).set p (if q then atI (pushedL k F (L.take m)) p - k else atI (pushedL k F (L.take m)) p + k) := by unfold stepTo; simp
      rw [HTK.out, hST, atI_set (by rw [HFN.out]; exact hp), if_pos rfl] at b2 b3
      have HST := Lib.hid hST
      have hpi : (p : Int) < (F.length : Int) := by omega
      have hX := atI_get (d := pushedL k F (L.take m)) (v := p) (by rw [HFN.out]; exact hp)
      obtain ⟨g, cg, e, hgb, hgl⟩ := HP.out.own.some (by rw [HFN.out]; omega)
      injection e with e3 e4 e5
      subst e3
      subst e5
      clear e4
      obtain ⟨cy, fy⟩ := HP.out.own.cell hX
      unfold encI at cy
      simp only at s0 s1
      clear hST hX
      generalize pushedL k F (L.take m) = G at *
      generalize atI G p = x at *
      cases q
      all_goals
        simp only [Bool.false_eq_true, if_false, if_true] at b2 b3
        go_wp2_with fail
        go_region
        go_wp2
        go_roundw
        case rel => exact ⟨m + 1, by omega, by go_num, Lib.hid (by rw [HTK.out, HST.out]; exact (HP.out.put p _).drew)⟩
        case measure => simp [intOf]; omega
    · have hli : ¬ (m : Int) < (L.length : Int) := by omega
      obtain rfl : m = L.length := by omega
      rw [List.take_length] at HP HFN
      go_wp2
      go_ret
      refine ⟨fa, ca, rfl, HP.out.own.lstK, ?_, HP.out.below⟩
      intro e
      subst e
      rcases HP.out.own.2 with ⟨h0, _⟩ | ⟨g', cap', cur, e1, _⟩
      · injection h0
      · cases e1
end
end Go.Proofs.Ytmflleifglefiaa
