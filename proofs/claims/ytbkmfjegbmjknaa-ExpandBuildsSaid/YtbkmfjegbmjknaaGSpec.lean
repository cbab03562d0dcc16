/- Fastest ways that have room, filled one behind the other; what a flow is worth: plain lists. -/
import Derived.Test.YtbkmfjegbmjknaaBJ
import Derived.Test.YtbkmfjegbmjknaaBF
import Derived.Test.YtbkmfjegbmjknaaBA
import Derived.Test.YtbkmfjegbmjknaaBG
import Derived.Test.YtbkmfjegbmjknaaBD
import Derived.Test.YtbkmfjegbmjknaaBB
import Derived.Deep.DeepCutAuto
import Derived.Deep.RegionHeld3
import Derived.Test.YtbkmfjegbmjknaaBE
import Derived.Shelf.SlSortFuncK.ComposeK
import Derived.Laws.StructEq
import Derived.BigQuiet
import Derived.Deep.QuietTactic
import Derived.Deep.RegionLaw
import Derived.Deep.AppendLies
import Derived.Test.YtbkmfjegbmjknaaSRoom
namespace Go.Proofs.Ytbkmfjegbmjknaa
set_option linter.unusedVariables false

theorem tight_rows {Z : List ArcT} {F : List Int} {p : Nat → Int} : TightF Z F p ↔ TightP (rowsR Z F) tm p := by
  constructor
  · intro h a ha
    obtain ⟨x, ⟨h1, h2⟩, rfl⟩ := rowsR_mem.1 ha
    rw [rowS_fr, rowS_to, rowS_tm]
    exact h x h1 h2
  · intro h x h1 h2
    have := h (rowS Z x) (rowsR_mem.2 ⟨x, ⟨h1, h2⟩, rfl⟩)
    rwa [rowS_fr, rowS_to, rowS_tm] at this
theorem tight_calm {Z : List ArcT} {F : List Int} {p : Nat → Int} (h : TightF Z F p) (s : Nat) : NoGainF Z F s := tight_noGain (tight_rows.1 h) s
/-- Steps that take just so long as the times say. -/
def evenB (Z : List ArcT) (d : List (Option Int)) (y : StepT) : Bool := ((getO d (fromS Z y)).isSome && (getO d (toS Z y)).isSome) && decide (valO (getO d (toS Z y)) = valO (getO d (fromS Z y)) + tmS Z y)
def evenL (Z : List ArcT) (F : List Int) (d : List (Option Int)) : List StepT := (stepsK Z F Z.length).filter (evenB Z d)
theorem evenL_mem {Z : List ArcT} {F : List Int} {d : List (Option Int)} {y : StepT} : y ∈ evenL Z F d ↔ y ∈ stepsK Z F Z.length ∧ evenB Z d y = true := by unfold evenL; rw [List.mem_filter]
theorem even_yes {Z : List ArcT} {d : List (Option Int)} {y : StepT} : evenB Z d y = true ↔ ∃ a b, getO d (fromS Z y) = some a ∧ getO d (toS Z y) = some b ∧ b = a + tmS Z y := by
  unfold evenB
  constructor
  · intro h
    rw [Bool.and_eq_true, Bool.and_eq_true, decide_eq_true_eq] at h
    obtain ⟨⟨h1, h2⟩, h3⟩ := h
    obtain ⟨a, ha⟩ := Option.isSome_iff_exists.1 h1
    obtain ⟨b, hb⟩ := Option.isSome_iff_exists.1 h2
    rw [ha, hb] at h3
    exact ⟨a, b, ha, hb, h3⟩
  · rintro ⟨a, b, ha, hb, h⟩
    rw [ha, hb]
    simp [valO, h]
section
variable {Z : List ArcT} {F : List Int} {N s t : Nat}
theorem d_closed (hZ : ∀ a ∈ Z, frN a < N ∧ toN a < N) (hs : s < N) (hn : NoGainF Z F s) : ClosedO (rowsR Z F) tm (dN Z F N s N) := noGain_closed hs (fun a ha => (rowsR_to (F := F) hZ a ha).2) hn
theorem d_far (hZ : ∀ a ∈ Z, frN a < N ∧ toN a < N) (hs : s < N) (hn : NoGainF Z F s) : IsFarO (rowsR Z F) tm s N (dN Z F N s N) := bell_isFar hs (fun a ha => (rowsR_to (F := F) hZ a ha).2) hn
theorem d_start (hZ : ∀ a ∈ Z, frN a < N ∧ toN a < N) (hs : s < N) (hn : NoGainF Z F s) : getO (dN Z F N s N) s = some 0 := by
  rcases (d_far hZ hs hn).at_ s hs with ⟨_, h2⟩ | ⟨x, g1, ⟨p, p1, p2, p3⟩, g3⟩
  · exact absurd (reach_self _ _ _) (h2 0)
  · have h1 := g3 0 (reach_self _ _ _)
    have h2 := hn [] p s (by simp) rfl p1 p2
    rw [g1]
    congr 1
    omega
/-- On a way that takes the least time each step takes just so long as the times say. -/
theorem even_chain {d : List (Option Int)} (hc : ClosedO (rowsR Z F) tm d) : ∀ (p : List StepT) (u v : Nat) (a b : Int), (∀ y ∈ p, y ∈ stepsK Z F Z.length) → Walk (fromS Z) (toS Z) u p v → getO d u = some a → getO d v = some b → b = a + costP tm (p.map (rowS Z)) → ∀ y ∈ p, evenB Z d y = true
  | [], _, _, _, _, _, _, _, _, _ => by simp
  | x :: r, u, v, a, b, hp, hw, ha, hb, e => by
    obtain ⟨w1, w2⟩ := hw
    subst w1
    have hm : ∀ z ∈ (x :: r), rowS Z z ∈ rowsR Z F := fun z hz => List.mem_map.2 ⟨z, hp z hz, rfl⟩
    obtain ⟨c, h1, h2⟩ := hc _ (hm x (by simp)) a (by rw [rowS_fr]; exact ha)
    rw [rowS_to] at h1
    rw [rowS_tm] at h2
    obtain ⟨b2, h3, h4⟩ := closed_chain hc (r.map (rowS Z)) (toS Z x) v c (fun z hz => by
      obtain ⟨y, hy, rfl⟩ := List.mem_map.1 hz
      exact hm y (by simp [hy])) (walk_rows.1 w2) h1
    rw [hb] at h3
    cases h3
    have e2 : costP tm ((x :: r).map (rowS Z)) = tmS Z x + costP tm (r.map (rowS Z)) := by simp [costP, rowS_tm]
    rw [e2] at e
    have ih := even_chain hc r (toS Z x) v c b (fun y hy => hp y (by simp [hy])) w2 h1 hb (by omega)
    intro y hy
    rcases List.mem_cons.1 hy with rfl | hy
    · exact even_yes.2 ⟨a, c, ha, h1, by omega⟩
    · exact ih y hy
/-- Who is come to is come to by such steps. -/
theorem even_way (hZ : ∀ a ∈ Z, frN a < N ∧ toN a < N) (hs : s < N) (ht : t < N) (hn : NoGainF Z F s) {x : Int} (hx : getO (dN Z F N s N) t = some x) : ∃ P, wayK (fromS Z) (toS Z) (evenL Z F (dN Z F N s N)) N s t = some P := by
  rcases (d_far hZ hs hn).at_ t ht with ⟨h1, _⟩ | ⟨x', g1, ⟨q, q1, q2, q3⟩, _⟩
  · rw [hx] at h1; cases h1
  · rw [hx] at g1
    cases g1
    obtain ⟨p, p1, rfl⟩ := rows_lift q q1
    have hw := walk_rows.2 q2
    have hev := even_chain (d_closed hZ hs hn) p s t 0 x p1 hw (d_start hZ hs hn) hx (by omega)
    have hT : ∀ y ∈ evenL Z F (dN Z F N s N), toS Z y < N := fun y hy => by
      have := (rowsR_to (F := F) hZ (rowS Z y) (List.mem_map.2 ⟨y, (evenL_mem.1 hy).1, rfl⟩)).2
      rwa [rowS_to] at this
    cases hwk : wayK (fromS Z) (toS Z) (evenL Z F (dN Z F N s N)) N s t with
    | some P => exact ⟨P, rfl⟩
    | none =>
      have hno := wayK_none hwk
      have hsk := seek_full (fr := fromS Z) hs hT
      obtain ⟨b, r, g1, g2, _⟩ := path_least hsk p 0 _ t hsk.hd (fun y hy => evenL_mem.2 ⟨p1 y hy, hev y hy⟩) hw
      exact absurd (keysX_mem.2 ⟨b, r, g1, g2⟩) hno
end
/-- A network whose arcs' ends are nodes, and whose numbers are not too great. -/
structure SpanNet (Z : List ArcT) (N : Nat) : Prop where
  ends : ∀ a ∈ Z, a.1 = (frN a : Int) ∧ a.2.1 = (toN a : Int)
  lt : ∀ a ∈ Z, frN a < N ∧ toN a < N
  caps : ∀ a ∈ Z, 0 ≤ capN a ∧ capN a ≤ 1048576
  times : ∀ a ∈ Z, 0 ≤ tm a ∧ tm a ≤ 1048576
  len : Z.length ≤ 200
  nodes : N ≤ 50
theorem SpanNet.time {Z : List ArcT} {N : Nat} (h : SpanNet Z N) : TimeNet Z N := ⟨h.ends, h.lt, by have := h.len; omega, by have := h.nodes; omega, fun a ha => by have := h.times a ha; omega⟩
theorem span_of {n : Int} {b : Bool} {Z : List ArcT} (hR : Right (n, b, Z)) : SpanNet Z n.toNat := by
  have hn := nodesE_ok hR.1
  simp only at hn
  refine ⟨fun a ha => ?_, fun a ha => ?_, fun a ha => ?_, fun a ha => ?_, hR.2.1, by omega⟩ <;> obtain ⟨h1, h2, h3, h4, h5, h6⟩ := right_arc hR ha
  · exact ⟨h1, h2⟩
  · exact ⟨h3, h4⟩
  · obtain ⟨h7, h8⟩ := arcE_ok (hR.2.2 a ha)
    unfold badEnds at h7
    unfold bigArc at h8
    unfold capN
    omega
  · exact ⟨h5, h6⟩
/-- No flow has a greater value. -/
def mostG (Z : List ArcT) (s : Nat) : Int := capS Z (fun v => decide (v = s))
theorem le_mostG {Z : List ArcT} {N s t : Nat} {f : List Int} {k : Int} (hZ : ∀ a ∈ Z, frN a < N ∧ toN a < N) (hs : s < N) (hne : s ≠ t) (h : FlowST Z N s t f k) : k ≤ mostG Z s := weak hZ hs h ⟨by simp, by simpa using fun e => hne e.symm⟩
/-- What is kept from round to round: a flow, and tight numbers that are not too far apart. -/
structure BestI (Z : List ArcT) (N s t : Nat) (H : Int) (F : List Int) (k : Int) : Prop where
  flow : FlowST Z N s t F k
  tight : ∃ p, TightF Z F p ∧ p t - p s ≤ H + 1
section
variable {Z : List ArcT} {F : List Int} {N s t : Nat} {H k : Int}
theorem BestI.start (hW : SpanNet Z N) (hH : 0 ≤ H) : BestI Z N s t H (List.replicate Z.length 0) 0 :=
  ⟨zero_flow Z (fun a ha => (hW.caps a ha).1) N s t, fun _ => 0, tight_zero (zeros_at Z.length) (fun a ha => (hW.times a ha).1), by simp; omega⟩
theorem BestI.calm (h : BestI Z N s t H F k) (u : Nat) : NoGainF Z F u := by
  obtain ⟨p, hp, _⟩ := h.tight
  exact tight_calm hp u
/-- No fastest way is within the horizon: nothing is worth more. -/
theorem BestI.done (hW : SpanNet Z N) (hs : s < N) (ht : t < N) (hne : s ≠ t) (h : BestI Z N s t H F k) (hx : ∀ x, getO (dN Z F N s N) t = some x → H < x) : IsBest Z N s t H (worthK Z H F k) := by
  obtain ⟨p, hp, hpt⟩ := h.tight
  have hR := rowsR_to (F := F) hW.lt
  have hcalm := tight_calm hp s
  obtain ⟨q, hq1, hq2, hq3⟩ := far_tight (s := s) (N := N) hR (d_closed hW.lt hs hcalm) (tight_rows.1 hp) (H + 1)
  have hq0 := hq2 _ _ (d_start hW.lt hs hcalm)
  have hqt : H + 1 ≤ q t - q s := by
    rw [hq0]
    cases hg : getO (dN Z F N s N) t with
    | none => have := hq3 t ht hg; omega
    | some x => have := hq2 _ _ hg; have := hx x hg; omega
  refine ⟨⟨F, k, h.flow, rfl⟩, fun g m hg => ?_⟩
  have := worth_top hW.lt hs ht hne h.flow hg hp (tight_rows.2 hq1) (H := H + 1) (by omega) hqt
  unfold worthK
  exact this
end
/-! What is wrong with a horizon; what a flow is worth -/
def spanE (H : Int) : Int := if H < 0 then 1 else if H > 1024 then 2 else 0
def askE (n : Int) (Z : List ArcT) (s t H : Int) : Int := if endsE n Z s t = 0 then spanE H else endsE n Z s t
theorem spanE_ok {H : Int} : spanE H = 0 ↔ 0 ≤ H ∧ H ≤ 1024 := by
  unfold spanE
  split
  · simp; omega
  · split
    · simp; omega
    · simp; omega
theorem askE_ok {n : Int} {Z : List ArcT} {s t H : Int} (h : askE n Z s t H = 0) : endsE n Z s t = 0 ∧ 0 ≤ H ∧ H ≤ 1024 := by
  unfold askE at h
  split at h
  · next h1 => exact ⟨h1, spanE_ok.1 h⟩
  · next h1 => exact absurd h h1
def worE (n : Int) (Z : List ArcT) (s t : Int) (F : List Int) (H : Int) : Int := if askE n Z s t H = 0 then valE n Z s t F else askE n Z s t H
def worV (n : Int) (Z : List ArcT) (s t : Int) (F : List Int) (H : Int) : Int := if worE n Z s t F H = 0 then (H + 1) * valK n Z s t F - costV n Z F else 0
theorem worE_ok {n : Int} {Z : List ArcT} {s t : Int} {F : List Int} {H : Int} (h : worE n Z s t F H = 0) : askE n Z s t H = 0 ∧ valE n Z s t F = 0 := by
  unfold worE at h
  split at h
  · next h1 => exact ⟨h1, h⟩
  · next h1 => exact absurd h h1
/-- What a flow is worth is far from the greatest number. -/
theorem wor_bd {n : Int} {b : Bool} {Z : List ArcT} {s t : Int} {F : List Int} (h : valE n Z s t F = 0) : (-209715200 ≤ valK n Z s t F ∧ valK n Z s t F ≤ 209715200) ∧ 0 ≤ costV n Z F ∧ costV n Z F ≤ 219902325555200 := by
  have hf := (valE_ok h).2.1
  obtain ⟨hR, hF, hz, hfl, hn1, hn2⟩ := flow_facts (b := b) hf
  refine ⟨?_, ?_⟩
  · unfold valK
    rw [if_pos h]
    have := balK_bd (by omega) (flow_m hR hF) s.toNat Z.length
    unfold bal
    omega
  · unfold costV
    rw [if_pos hf]
    exact cost_bd hR hF (Nat.le_refl _)
end Go.Proofs.Ytbkmfjegbmjknaa
