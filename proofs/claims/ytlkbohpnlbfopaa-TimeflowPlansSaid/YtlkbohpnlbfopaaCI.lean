/- Lemmas of the layers below, several texts in one. -/
import Derived.Test.YtlkbohpnlbfopaaBJ
import Derived.Test.YtlkbohpnlbfopaaBF
import Derived.Test.YtlkbohpnlbfopaaBA
import Derived.Test.YtlkbohpnlbfopaaBH
import Derived.Test.YtlkbohpnlbfopaaSRoom
namespace Go.Proofs.Ytlkbohpnlbfopaa
set_option linter.unusedVariables false
theorem tight_rows {Z : List ArcT} {F : List Int} {p : Nat → Int} : TightF Z F p ↔ TightP (rowsR Z F) tm p := by
  constructor
  · intro h a ha
    obtain ⟨x, ⟨h1, h2⟩, rfl⟩ := rowsR_mem.1 ha
    rw [rowS_fr, rowS_to, rowS_tm]
    exact h x h1 h2
  · intro h x h1 h2
    have := h (rowS Z x) (rowsR_mem.2 ⟨x, ⟨h1, h2⟩, rfl⟩)
    rwa [rowS_fr, rowS_to, rowS_tm] at this
theorem tight_calm {Z : List ArcT} {F : List Int} {p : Nat → Int} (h : TightF Z F p) (s : Nat) : NoGainF Z F s := tight_noGain (tight_rows.1 h) s
def evenB (Z : List ArcT) (d : List (Option Int)) (y : StepT) : Bool := ((getO d (fromS Z y)).isSome && (getO d (toS Z y)).isSome) && decide (valO (getO d (toS Z y)) = valO (getO d (fromS Z y)) + tmS Z y)
def evenL (Z : List ArcT) (F : List Int) (d : List (Option Int)) : List StepT := (stepsK Z F Z.length).filter (evenB Z d)
theorem evenL_mem {Z : List ArcT} {F : List Int} {d : List (Option Int)} {y : StepT} : y ∈ evenL Z F d ↔ y ∈ stepsK Z F Z.length ∧ evenB Z d y = true := by unfold evenL; rw [List.mem_filter]
theorem even_yes {Z : List ArcT} {d : List (Option Int)} {y : StepT} : evenB Z d y = true ↔ ∃ a b, getO d (fromS Z y) = some a ∧ getO d (toS Z y) = some b ∧ b = a + tmS Z y := by
  unfold evenB
  constructor
  · intro h
    rw [Bool.and_eq_true, Bool.and_eq_true, decide_eq_true_eq] at h
    obtain ⟨⟨h1, h2⟩, h3⟩ := h
    obtain ⟨a, ha⟩ := Option.isSome_iff_exists.1 h1
    obtain ⟨b, hb⟩ := Option.isSome_iff_exists.1 h2
    rw [ha, hb] at h3
    exact ⟨a, b, ha, hb, h3⟩
  · rintro ⟨a, b, ha, hb, h⟩
    rw [ha, hb]
    simp [valO, h]
section
variable {Z : List ArcT} {F : List Int} {N s t : Nat}
theorem d_closed (hZ : ∀ a ∈ Z, frN a < N ∧ toN a < N) (hs : s < N) (hn : NoGainF Z F s) : ClosedO (rowsR Z F) tm (dN Z F N s N) := noGain_closed hs (fun a ha => (rowsR_to (F := F) hZ a ha).2) hn
theorem d_far (hZ : ∀ a ∈ Z, frN a < N ∧ toN a < N) (hs : s < N) (hn : NoGainF Z F s) : IsFarO (rowsR Z F) tm s N (dN Z F N s N) := bell_isFar hs (fun a ha => (rowsR_to (F := F) hZ a ha).2) hn
theorem d_start (hZ : ∀ a ∈ Z, frN a < N ∧ toN a < N) (hs : s < N) (hn : NoGainF Z F s) : getO (dN Z F N s N) s = some 0 := by
  rcases (d_far hZ hs hn).at_ s hs with ⟨_, h2⟩ | ⟨x, g1, ⟨p, p1, p2, p3⟩, g3⟩
  · exact absurd (reach_self _ _ _) (h2 0)
  · have h1 := g3 0 (reach_self _ _ _)
    have h2 := hn [] p s (by simp) rfl p1 p2
    rw [g1]
    congr 1
    omega
end
structure SpanNet (Z : List ArcT) (N : Nat) : Prop where
  ends : ∀ a ∈ Z, a.1 = (frN a : Int) ∧ a.2.1 = (toN a : Int)
  lt : ∀ a ∈ Z, frN a < N ∧ toN a < N
  caps : ∀ a ∈ Z, 0 ≤ capN a ∧ capN a ≤ 1048576
  times : ∀ a ∈ Z, 0 ≤ tm a ∧ tm a ≤ 1048576
  len : Z.length ≤ 200
  nodes : N ≤ 50
theorem span_of {n : Int} {b : Bool} {Z : List ArcT} (hR : Right (n, b, Z)) : SpanNet Z n.toNat := by
  have hn := nodesE_ok hR.1
  simp only at hn
  refine ⟨fun a ha => ?_, fun a ha => ?_, fun a ha => ?_, fun a ha => ?_, hR.2.1, by omega⟩ <;> obtain ⟨h1, h2, h3, h4, h5, h6⟩ := right_arc hR ha
  · exact ⟨h1, h2⟩
  · exact ⟨h3, h4⟩
  · obtain ⟨h7, h8⟩ := arcE_ok (hR.2.2 a ha)
    unfold badEnds at h7
    unfold bigArc at h8
    unfold capN
    omega
  · exact ⟨h5, h6⟩
theorem span_step {Z : List ArcT} {N : Nat} {F : List Int} (hW : SpanNet Z N) (hF : Flow Z F) {y : StepT} (hy : y ∈ stepsK Z F Z.length) : (toS Z y < N ∧ fromS Z y < N) ∧ isArc Z y ∧ 0 < leftS Z F y ∧ StepOk Z F y ∧ leftS Z F y ≤ 1048576 := by
  obtain ⟨h1, _, h3⟩ := (stepsK_mem (Nat.le_refl _)).1 hy
  have ha := arcOf_at h1
  have hm := List.mem_of_getElem? ha
  have hl := hW.lt _ hm
  have hc := hW.caps _ hm
  have hf := hF.2 _ _ ha
  have hpl : y.1.toNat < F.length := by rw [hF.1]; exact (List.getElem?_eq_some_iff.1 ha).1
  refine ⟨?_, h1, h3, ⟨y.1.toNat, arcOf Z y, y.2, ?_, ha, atI_get hpl, hf.1, by omega, hc.1, ?_⟩, ?_⟩
  · unfold toS fromS
    split <;> simp [hl]
  · obtain ⟨y1, y2⟩ := y
    unfold isArc at h1
    simp only at h1 ⊢
    rw [Int.toNat_of_nonneg h1.1]
  · have := hc.2
    unfold capN at this
    omega
  · unfold leftS
    split <;> omega
structure BestI (Z : List ArcT) (N s t : Nat) (H : Int) (F : List Int) (k : Int) : Prop where
  flow : FlowST Z N s t F k
  tight : ∃ p, TightF Z F p ∧ p t - p s ≤ H + 1
section
variable {Z : List ArcT} {F : List Int} {N s t : Nat} {H k : Int}
theorem BestI.start (hW : SpanNet Z N) (hH : 0 ≤ H) : BestI Z N s t H (List.replicate Z.length 0) 0 :=
  ⟨zero_flow Z (fun a ha => (hW.caps a ha).1) N s t, fun _ => 0, tight_zero (zeros_at Z.length) (fun a ha => (hW.times a ha).1), by simp; omega⟩
theorem BestI.next (hW : SpanNet Z N) (hs : s < N) (ht : t < N) (hne : s ≠ t) (h : BestI Z N s t H F k) {x : Int} (hx : getO (dN Z F N s N) t = some x) (hxH : x ≤ H) {P : List StepT} (hw : wayK (fromS Z) (toS Z) (evenL Z F (dN Z F N s N)) N s t = some P) :
    P ≠ [] ∧ P.length ≤ 50 ∧ (∀ y ∈ P, StepOk Z F y) ∧ (0 < botK Z F P ∧ botK Z F P ≤ 1048576) ∧ BestI Z N s t H (pushedL (botK Z F P) F P) (k + botK Z F P) ∧ (∀ y ∈ P, ∃ (p : Nat) (q : Bool), y = ((p : Int), q) ∧ p < F.length) ∧
    ∀ m, m ≤ P.length → ∀ p, p < F.length → -8796093022208 ≤ atI (pushedL (botK Z F P) F (P.take m)) p ∧ atI (pushedL (botK Z F P) F (P.take m)) p ≤ 8796093022208 := by
  have hT : ∀ y ∈ evenL Z F (dN Z F N s N), toS Z y < N := fun y hy => (span_step hW h.flow.1 (evenL_mem.1 hy).1).1.1
  obtain ⟨w1, w2, w3, w4⟩ := way_props hs hT hw
  have hst := fun y hy => span_step hW h.flow.1 (evenL_mem.1 (w2 y hy)).1
  obtain ⟨g1, g2, g3⟩ := augment hne h.flow w1 w3 w4 (fun y hy => ⟨(hst y hy).2.1, (hst y hy).2.2.1⟩)
  have hP : P ≠ [] := by
    rintro rfl
    exact hne w1
  obtain ⟨p0, hp0, _⟩ := h.tight
  have hR := rowsR_to (F := F) hW.lt
  have hcalm := tight_calm hp0 s
  obtain ⟨p, hp1, hp2, _⟩ := far_tight (s := s) (N := N) hR (d_closed hW.lt hs hcalm) (tight_rows.1 hp0) 0
  have hev : ∀ y ∈ P, EvenS Z p y := fun y hy => by
    obtain ⟨a, b, h1, h2, h3⟩ := even_yes.1 (evenL_mem.1 (w2 y hy)).2
    unfold EvenS
    rw [hp2 _ _ h1, hp2 _ _ h2]
    exact h3
  have htp := tight_push P F h.flow.1.1 (tight_rows.2 hp1) hev g2
  rw [pushed_of _ F g2] at htp
  refine ⟨hP, ?_, fun y hy => (hst y hy).2.2.2.1, ⟨g1, ?_⟩, ⟨g3, p, htp, ?_⟩, fun y hy => ?_, fun m hm i hi => ?_⟩
  · have h1 : P.length = (P.map (toS Z)).length := by simp
    rw [h1]
    have h2 := nodup_le (N := N) w3 (fun v hv => by
      obtain ⟨y, hy, rfl⟩ := List.mem_map.1 hv
      exact (hst y hy).1.1)
    have := hW.nodes
    omega
  · cases P with
    | nil => exact absurd rfl hP
    | cons y r =>
      have h1 := botK_le (Z := Z) (f := F) (y :: r) y (by simp)
      have h2 := (hst y (by simp)).2.2.2.2
      omega
  · rw [hp2 _ _ hx, hp2 _ _ (d_start hW.lt hs hcalm)]
    omega
  · obtain ⟨p, a, q, e, ha, _⟩ := (hst y hy).2.2.2.1
    exact ⟨p, q, e, by rw [h.flow.1.1]; exact (List.getElem?_eq_some_iff.1 ha).1⟩
  · have hf := pushed_flow (by omega) h.flow.1 g2 m
    have hp2 : i < Z.length := by rw [← h.flow.1.1]; exact hi
    have h1 := hf.2 i _ (List.getElem?_eq_getElem hp2)
    have h2 := hW.caps _ (List.getElem_mem hp2)
    omega
theorem BestI.done (hW : SpanNet Z N) (hs : s < N) (ht : t < N) (hne : s ≠ t) (h : BestI Z N s t H F k) (hx : ∀ x, getO (dN Z F N s N) t = some x → H < x) : IsBest Z N s t H (worthK Z H F k) := by
  obtain ⟨p, hp, hpt⟩ := h.tight
  have hR := rowsR_to (F := F) hW.lt
  have hcalm := tight_calm hp s
  obtain ⟨q, hq1, hq2, hq3⟩ := far_tight (s := s) (N := N) hR (d_closed hW.lt hs hcalm) (tight_rows.1 hp) (H + 1)
  have hq0 := hq2 _ _ (d_start hW.lt hs hcalm)
  have hqt : H + 1 ≤ q t - q s := by
    rw [hq0]
    cases hg : getO (dN Z F N s N) t with
    | none => have := hq3 t ht hg; omega
    | some x => have := hq2 _ _ hg; have := hx x hg; omega
  refine ⟨⟨F, k, h.flow, rfl⟩, fun g m hg => ?_⟩
  have := worth_top hW.lt hs ht hne h.flow hg hp (tight_rows.2 hq1) (H := H + 1) (by omega) hqt
  unfold worthK
  exact this
end
def spanE (H : Int) : Int := if H < 0 then 1 else if H > 1024 then 2 else 0
def askE (n : Int) (Z : List ArcT) (s t H : Int) : Int := if endsE n Z s t = 0 then spanE H else endsE n Z s t
theorem spanE_ok {H : Int} : spanE H = 0 ↔ 0 ≤ H ∧ H ≤ 1024 := by
  unfold spanE
  split
  · simp; omega
  · split
    · simp; omega
    · simp; omega
theorem askE_ok {n : Int} {Z : List ArcT} {s t H : Int} (h : askE n Z s t H = 0) : endsE n Z s t = 0 ∧ 0 ≤ H ∧ H ≤ 1024 := by
  unfold askE at h
  split at h
  · next h1 => exact ⟨h1, spanE_ok.1 h⟩
  · next h1 => exact absurd h h1
def worE (n : Int) (Z : List ArcT) (s t : Int) (F : List Int) (H : Int) : Int := if askE n Z s t H = 0 then valE n Z s t F else askE n Z s t H
def worV (n : Int) (Z : List ArcT) (s t : Int) (F : List Int) (H : Int) : Int := if worE n Z s t F H = 0 then (H + 1) * valK n Z s t F - costV n Z F else 0
theorem wor_bd {n : Int} {b : Bool} {Z : List ArcT} {s t : Int} {F : List Int} (h : valE n Z s t F = 0) : (-209715200 ≤ valK n Z s t F ∧ valK n Z s t F ≤ 209715200) ∧ 0 ≤ costV n Z F ∧ costV n Z F ≤ 219902325555200 := by
  have hf := (valE_ok h).2.1
  obtain ⟨hR, hF, hz, hfl, hn1, hn2⟩ := flow_facts (b := b) hf
  refine ⟨?_, ?_⟩
  · unfold valK
    rw [if_pos h]
    have := balK_bd (by omega) (flow_m hR hF) s.toNat Z.length
    unfold bal
    omega
  · unfold costV
    rw [if_pos hf]
    exact cost_bd hR hF (Nat.le_refl _)
end Go.Proofs.Ytlkbohpnlbfopaa
namespace Go.Proofs.Ytlkbohpnlbfopaa
open Go.RowKit
set_option linter.unusedVariables false
theorem rspan_any (H : Int) (w : World) : Calls Try.prog 30 #[.int .i64 H] w fun e w' => e = .returned (.int .i64 (spanE H)) ∧ Below w.heap.size w w' := by
  have HB := Lib.hid (Below.refl w.heap.size w)
  by_cases h1 : H < 0
  · have HE : Hid (spanE H = 1) := Lib.hid (by unfold spanE; rw [if_pos h1])
    go_enter Try.func30, Try.ntmps30
    go_wp2
    go_ret
    exact ⟨by rw [HE.out]; rfl, HB.out⟩
  · by_cases h2 : H > 1024
    · have HE : Hid (spanE H = 2) := Lib.hid (by unfold spanE; rw [if_neg h1, if_pos h2])
      go_enter Try.func30, Try.ntmps30
      go_wp2
      go_ret
      exact ⟨by rw [HE.out]; rfl, HB.out⟩
    · have HE : Hid (spanE H = 0) := Lib.hid (by unfold spanE; rw [if_neg h1, if_neg h2])
      go_enter Try.func30, Try.ntmps30
      go_wp2
      go_ret
      exact ⟨by rw [HE.out]; rfl, HB.out⟩
section
variable (n : Int) (b : Bool) (ao fo : Option Addr) (cap fc : Nat) (Z : List ArcT) (F : List Int)
set_option maxRecDepth 100000 in
set_option maxHeartbeats 4000000 in
theorem rasked12_any (s t H : Int) (w : World) (h : Row encA 4 w ao Z) (hz : Z.length ≤ maxLen) :
    Calls Try.prog 19 #[.agg #[.int .i64 n, .bool b, .slice ao Z.length cap], .int .i64 s, .int .i64 t, .int .i64 H] w fun e w' => e = .returned (.int .i64 (askE n Z s t H)) ∧ Below w.heap.size w w' := by
  have hb00 := (Below.refl _ w).alloc (Nat.le_refl _) (.cells #[.int .i64 n, .bool b, .slice ao Z.length cap] 24)
  have HB0 := Lib.hid hb00
  have HN0 := Lib.hid (heap_alloc_new w (.cells #[.int .i64 n, .bool b, .slice ao Z.length cap] 24))
  have c0 := cell_whole HN0.out 0
  have c1 := cell_whole HN0.out 1
  have c2 := cell_whole HN0.out 2
  have HR := Lib.hid (h.below' hb00)
  have HZ := Lib.hid hz
  clear h hz hb00
  obtain ⟨e0, he⟩ : ∃ e0, endsE n Z s t = e0 := ⟨_, rfl⟩
  have HE := Lib.hid he
  by_cases h0 : e0 = 0
  · subst h0
    obtain ⟨e1, he1⟩ : ∃ e1, spanE H = e1 := ⟨_, rfl⟩
    have HS := Lib.hid he1
    have HA : Hid (askE n Z s t H = e1) := Lib.hid (by unfold askE; rw [if_pos he, he1])
    clear he he1
    go_enter Try.func19, Try.ntmps19
    go_wp2_with (first
      | (go_at_call 29; refine (rends_is n b ao cap Z s t 0 _ HR.out HZ.out HE.out).mono ?_; rintro e w1 ⟨rfl, hb1⟩; have HB1 := Lib.hid (HB0.out.trans (hb1.mono HB0.out.size)); clear hb1)
      | (go_at_call 30; refine (rspan_any H _).mono ?_; rw [HS.out]; rintro e w2 ⟨rfl, hb2⟩; have HB2 := Lib.hid (HB1.out.trans (hb2.mono HB1.out.size)); clear hb2))
    go_ret
    exact ⟨by rw [HA.out]; rfl, HB2.out⟩
  · have hf1 : (e0 != 0) = true := by simpa using h0
    have hf2 : (e0 == 0) = false := by simpa using h0
    have HA : Hid (askE n Z s t H = e0) := Lib.hid (by unfold askE; rw [if_neg (by rw [he]; exact h0), he])
    clear he h0
    go_enter Try.func19, Try.ntmps19
    go_wp2_with (first
      | (go_at_call 29; refine (rends_is n b ao cap Z s t e0 _ HR.out HZ.out HE.out).mono ?_; rintro e w1 ⟨rfl, hb1⟩; have HB1 := Lib.hid (HB0.out.trans (hb1.mono HB0.out.size)); clear hb1))
    go_ret
    exact ⟨by rw [HA.out]; rfl, HB1.out⟩
theorem rasked12_is (e0 : Int) (s t H : Int) (w : World) (h : Row encA 4 w ao Z) (hz : Z.length ≤ maxLen) (he : askE n Z s t H = e0) :
    Calls Try.prog 19 #[.agg #[.int .i64 n, .bool b, .slice ao Z.length cap], .int .i64 s, .int .i64 t, .int .i64 H] w fun e w' => e = .returned (.int .i64 e0) ∧ Below w.heap.size w w' := by
  subst he; exact rasked12_any n b ao cap Z s t H w h hz
end
end Go.Proofs.Ytlkbohpnlbfopaa
