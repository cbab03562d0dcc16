/- Arcs that can be on fastest ways: what is filled along them keeps the times; once it is full, the fastest ways take longer. Plain lists. -/
import Derived.Test.YtekcnglkfglbfaaGSpec
namespace Go.Proofs.Ytekcnglkfglbfaa
set_option linter.unusedVariables false

/-- An arc that takes just so long as the times say stays; another takes nothing. -/
def fastA (V : List Int) (a : ArcT) : ArcT := if atI V (toN a) - atI V (frN a) = tm a then a else (a.1, a.2.1, 0, a.2.2.2)
def fastZ (V : List Int) (Z : List ArcT) : List ArcT := Z.map (fastA V)
def minF (F : List Int) (Z : List ArcT) : List Int := List.zipWith (fun x a => min x (capN a)) F Z
theorem fastA_fr (V : List Int) (a : ArcT) : frN (fastA V a) = frN a := by unfold fastA; split <;> rfl
theorem fastA_to (V : List Int) (a : ArcT) : toN (fastA V a) = toN a := by unfold fastA; split <;> rfl
theorem fastA_tm (V : List Int) (a : ArcT) : tm (fastA V a) = tm a := by unfold fastA; split <;> rfl
theorem fastA_cap (V : List Int) (a : ArcT) : capN (fastA V a) = if atI V (toN a) - atI V (frN a) = tm a then capN a else 0 := by unfold fastA; split <;> rfl
theorem fastZ_len (V : List Int) (Z : List ArcT) : (fastZ V Z).length = Z.length := by simp [fastZ]
theorem fastZ_at {V : List Int} {Z : List ArcT} {i : Nat} {a : ArcT} (h : Z[i]? = some a) : (fastZ V Z)[i]? = some (fastA V a) := by simp [fastZ, h]
theorem fast_isArc {V : List Int} {Z : List ArcT} {y : StepT} : isArc (fastZ V Z) y ↔ isArc Z y := by unfold isArc; rw [fastZ_len]
theorem fast_arcOf {V : List Int} {Z : List ArcT} {y : StepT} (h : isArc Z y) : arcOf (fastZ V Z) y = fastA V (arcOf Z y) := by
  have h1 := arcOf_at (fast_isArc (V := V).2 h)
  rw [fastZ_at (arcOf_at h)] at h1
  exact (Option.some.inj h1).symm
theorem fast_ends {V : List Int} {Z : List ArcT} {y : StepT} (h : isArc Z y) : fromS (fastZ V Z) y = fromS Z y ∧ toS (fastZ V Z) y = toS Z y := by
  unfold fromS toS
  rw [fast_arcOf h, fastA_fr, fastA_to]
  exact ⟨rfl, rfl⟩
theorem minF_at {V F : List Int} {Z : List ArcT} (hl : F.length = Z.length) {i : Nat} {a : ArcT} (h : Z[i]? = some a) : atI (minF F (fastZ V Z)) i = min (atI F i) (capN (fastA V a)) := by
  have hi : i < Z.length := (List.getElem?_eq_some_iff.1 h).1
  have h1 := atI_get (d := F) (v := i) (by omega)
  have h2 : (minF F (fastZ V Z))[i]? = some (min (atI F i) (capN (fastA V a))) := by
    unfold minF
    rw [List.getElem?_zipWith, h1, fastZ_at h]
  unfold atI at h2 ⊢
  rw [List.getD_eq_getElem?_getD, h2]
  rfl
theorem minFZ_len {V F : List Int} {Z : List ArcT} (hl : F.length = Z.length) : (minF F (fastZ V Z)).length = Z.length := by
  unfold minF
  rw [List.length_zipWith, fastZ_len]
  omega
theorem minF_flow {V F : List Int} {Z : List ArcT} (h : Flow Z F) (hc : ∀ a ∈ Z, 0 ≤ capN a) : Flow (fastZ V Z) (minF F (fastZ V Z)) := by
  refine ⟨by rw [minFZ_len h.1, fastZ_len], fun i a ha => ?_⟩
  have hi : i < Z.length := by rw [← fastZ_len V Z]; exact (List.getElem?_eq_some_iff.1 ha).1
  have hz := List.getElem?_eq_getElem hi
  have h1 := fastZ_at (V := V) hz
  rw [ha] at h1
  cases h1
  rw [minF_at h.1 hz]
  have h2 := (h.2 i _ hz).1
  have h3 : 0 ≤ capN (fastA V Z[i]) := by
    rw [fastA_cap]
    split
    · exact hc _ (List.getElem_mem hi)
    · exact Int.le_refl _
  omega
theorem fast_check {n : Int} {V : List Int} {Z : List ArcT} (h : checkE n Z = 0) : checkE n (fastZ V Z) = 0 := by
  have hR : Right (n, true, Z) := right_iff.1 h
  refine (right_iff (b := true)).2 ⟨hR.1, by rw [fastZ_len]; exact hR.2.1, fun a ha => ?_⟩
  obtain ⟨c, hc, rfl⟩ := List.mem_map.1 ha
  have h1 := hR.2.2 c hc
  unfold fastA
  split
  · exact h1
  · obtain ⟨h2, h3⟩ := arcE_ok h1
    have h4 : ¬ badEnds n (c.1, c.2.1, 0, c.2.2.2) := by
      unfold badEnds at *
      simp only at h2 ⊢
      omega
    have h5 : ¬ bigArc (c.1, c.2.1, 0, c.2.2.2) := by
      unfold bigArc at *
      simp only at h3 ⊢
      omega
    show arcE n (c.1, c.2.1, 0, c.2.2.2) = 0
    unfold arcE
    rw [if_neg h4, if_neg h5]
theorem fast_flowE {n : Int} {V F : List Int} {Z : List ArcT} (h : checkE n Z = 0) (hF : Flow Z F) (hc : ∀ a ∈ Z, 0 ≤ capN a) : flowE n (fastZ V Z) (minF F (fastZ V Z)) = 0 := by
  unfold flowE
  rw [if_pos (fast_check h), if_pos (flow_flowB (minF_flow hF hc))]
theorem fast_endsE {n s t : Int} {V : List Int} {Z : List ArcT} (h : endsE n Z s t = 0) : endsE n (fastZ V Z) s t = 0 := by
  have hc := (endsE_ok h).1
  unfold endsE at h ⊢
  rw [if_pos hc] at h
  rw [if_pos (fast_check hc)]
  exact h
/-- A step has room there just if it has room, and takes just so long as the times say. -/
theorem fast_room {V F : List Int} {Z : List ArcT} (hF : Flow Z F) {y : StepT} (hy : isArc Z y) : 0 < leftS (fastZ V Z) (minF F (fastZ V Z)) y ↔ 0 < leftS Z F y ∧ atI V (toS Z y) = atI V (fromS Z y) + tmS Z y := by
  have ha := arcOf_at hy
  have hb := hF.2 _ _ ha
  have hm := minF_at (V := V) hF.1 ha
  unfold leftS
  rw [fast_arcOf hy, hm, fastA_cap]
  unfold toS fromS tmS
  cases y.2 <;> simp only [Bool.false_eq_true, if_false, if_true] <;> split <;> constructor <;> intro h <;> omega
theorem walk_congr {fr tt fr2 tt2 : StepT → Nat} : ∀ {P : List StepT} {u v : Nat}, (∀ y ∈ P, fr y = fr2 y ∧ tt y = tt2 y) → Walk fr tt u P v → Walk fr2 tt2 u P v
  | [], _, _, _, h => h
  | y :: r, u, v, he, ⟨h1, h2⟩ => by
    have h3 := he y (by simp)
    refine ⟨by rw [← h3.1]; exact h1, ?_⟩
    rw [← h3.2]
    exact walk_congr (fun z hz => he z (by simp [hz])) h2
theorem walk_reach {fr tt : StepT → Nat} {R : Nat → Prop} : ∀ {P : List StepT} {u v : Nat}, (∀ y ∈ P, R (fr y) → R (tt y)) → R u → Walk fr tt u P v → ∀ y ∈ P, R (fr y) ∧ R (tt y)
  | [], _, _, _, _, _ => by simp
  | y :: r, u, v, hc, hu, ⟨h1, h2⟩ => by
    subst h1
    have h3 := hc y (by simp) hu
    intro z hz
    rcases List.mem_cons.1 hz with rfl | hz
    · exact ⟨hu, h3⟩
    · exact walk_reach (fun a ha => hc a (by simp [ha])) h3 h2 z hz
theorem valsO_atI (d : List (Option Int)) (v : Nat) : atI (valsO d) v = valO (getO d v) := by
  by_cases h : v < d.length
  · have h1 := valsO_at h
    unfold atI
    rw [List.getD_eq_getElem?_getD, h1]
    rfl
  · unfold atI getO
    have h1 := valsO_len d
    rw [List.getD_eq_getElem?_getD, List.getD_eq_getElem?_getD, List.getElem?_eq_none (l := valsO d) (by omega), List.getElem?_eq_none (l := d) (by omega)]
    rfl
/-- What is kept while ways of one time are filled: tight numbers that are the times, and as great as one likes where nothing was reached. -/
structure FastI (Z : List ArcT) (N s t : Nat) (d : List (Option Int)) (F : List Int) (k : Int) : Prop where
  flow : FlowST Z N s t F k
  tight : ∀ B, ∃ p, TightF Z F p ∧ (∀ v x, getO d v = some x → p v = x) ∧ ∀ v, v < N → getO d v = none → B ≤ p v
section
variable {Z : List ArcT} {F : List Int} {N s t : Nat} {H k : Int} {d : List (Option Int)}
theorem FastI.start (hW : SpanNet Z N) (hs : s < N) (h : BestI Z N s t H F k) : FastI Z N s t (dN Z F N s N) F k := by
  refine ⟨h.flow, fun B => ?_⟩
  obtain ⟨p, hp, _⟩ := h.tight
  obtain ⟨q, h1, h2, h3⟩ := far_tight (s := s) (N := N) (rowsR_to (F := F) hW.lt) (d_closed hW.lt hs (tight_calm hp s)) (tight_rows.1 hp) B
  exact ⟨q, tight_rows.2 h1, h2, h3⟩
theorem FastI.shut (hW : SpanNet Z N) (h : FastI Z N s t d F k) {y : StepT} (hy : y ∈ stepsK Z F Z.length) (hf : (getO d (fromS Z y)).isSome = true) : (getO d (toS Z y)).isSome = true := by
  obtain ⟨x, hx⟩ := Option.isSome_iff_exists.1 hf
  obtain ⟨p, h1, h2, h3⟩ := h.tight (x + tmS Z y + 1)
  obtain ⟨⟨b1, b2⟩, h5, h6, _⟩ := span_step hW h.flow.1 hy
  have h7 := h1 y h5 h6
  rw [h2 _ _ hx] at h7
  cases hg : getO d (toS Z y) with
  | some z => rfl
  | none =>
    have := h3 _ b1 hg
    omega
theorem FastI.best (h : FastI Z N s t d F k) {x : Int} (hs : getO d s = some 0) (ht : getO d t = some x) (hx : x ≤ H) : BestI Z N s t H F k := by
  obtain ⟨p, h1, h2, _⟩ := h.tight 0
  exact ⟨h.flow, p, h1, by rw [h2 _ _ hs, h2 _ _ ht]; omega⟩
theorem fast_steps (hW : SpanNet Z N) (hF : Flow Z F) (V : List Int) {y : StepT} (hy : y ∈ stepsK (fastZ V Z) (minF F (fastZ V Z)) (fastZ V Z).length) : y ∈ stepsK Z F Z.length ∧ isArc Z y ∧ atI V (toS Z y) = atI V (fromS Z y) + tmS Z y := by
  obtain ⟨h1, h2, h3⟩ := (stepsK_mem (Nat.le_refl _)).1 hy
  have h4 := fast_isArc.1 h1
  have h5 := (fast_room hF h4).1 h3
  rw [fastZ_len] at h2
  exact ⟨(stepsK_mem (Nat.le_refl _)).2 ⟨h4, h2, h5.1⟩, h4, h5.2⟩
/-- A way that is filled. -/
theorem FastI.next (hW : SpanNet Z N) (hs : s < N) (ht : t < N) (hne : s ≠ t) (h : FastI Z N s t d F k) (h0 : getO d s = some 0) {P : List StepT} (hw : wayK (fromS (fastZ (valsO d) Z)) (toS (fastZ (valsO d) Z)) (stepsK (fastZ (valsO d) Z) (minF F (fastZ (valsO d) Z)) (fastZ (valsO d) Z).length) N s t = some P) :
    P ≠ [] ∧ P.length ≤ 50 ∧ (∀ y ∈ P, isArc Z y) ∧ (0 < botK Z F P ∧ botK Z F P ≤ 1048576) ∧ (pushL Z (botK Z F P) F P).1 = 0 ∧ FastI Z N s t d (pushL Z (botK Z F P) F P).2 (k + botK Z F P) := by
  have hF := h.flow.1
  have hin := fun y hy => fast_steps hW hF (valsO d) (y := y) hy
  have hT : ∀ y ∈ stepsK (fastZ (valsO d) Z) (minF F (fastZ (valsO d) Z)) (fastZ (valsO d) Z).length, toS (fastZ (valsO d) Z) y < N := fun y hy => by
    rw [(fast_ends (hin y hy).2.1).2]
    exact (span_step hW hF (hin y hy).1).1.1
  obtain ⟨w1, w2, w3, w4⟩ := way_props hs hT hw
  have hst := fun y hy => span_step hW hF (hin y (w2 y hy)).1
  have he : ∀ y ∈ P, fromS (fastZ (valsO d) Z) y = fromS Z y ∧ toS (fastZ (valsO d) Z) y = toS Z y := fun y hy => fast_ends (hin y (w2 y hy)).2.1
  have e1 := walk_congr he w1
  have em : P.map (toS (fastZ (valsO d) Z)) = P.map (toS Z) := List.map_congr_left fun y hy => (he y hy).2
  rw [em] at w3 w4
  obtain ⟨g1, g2, g3⟩ := augment hne h.flow e1 w3 w4 (fun y hy => ⟨(hst y hy).2.1, (hst y hy).2.2.1⟩)
  have hP : P ≠ [] := by
    rintro rfl
    exact hne e1
  have hrc := walk_reach (R := fun v => (getO d v).isSome = true) (fun y hy hf => h.shut hW (hin y (w2 y hy)).1 hf) (by rw [h0]; rfl) e1
  refine ⟨hP, ?_, fun y hy => (hst y hy).2.1, ⟨g1, ?_⟩, g2, ?_, fun B => ?_⟩
  · have h1 : P.length = (P.map (toS Z)).length := by simp
    rw [h1]
    have h2 := nodup_le (N := N) w3 (fun v hv => by
      obtain ⟨y, hy, rfl⟩ := List.mem_map.1 hv
      exact (hst y hy).1.1)
    have := hW.nodes
    omega
  · cases P with
    | nil => exact absurd rfl hP
    | cons y r =>
      have h1 := botK_le (Z := Z) (f := F) (y :: r) y (by simp)
      have h2 := (hst y (by simp)).2.2.2.2
      omega
  · rw [pushed_of _ F g2]
    exact g3
  · obtain ⟨p, hp1, hp2, hp3⟩ := h.tight B
    refine ⟨p, tight_push P F hF.1 hp1 (fun y hy => ?_) g2, hp2, hp3⟩
    obtain ⟨r1, r2⟩ := hrc y hy
    obtain ⟨a, ha⟩ := Option.isSome_iff_exists.1 r1
    obtain ⟨b, hb⟩ := Option.isSome_iff_exists.1 r2
    have h3 := (hin y (w2 y hy)).2.2
    rw [valsO_atI, valsO_atI, ha, hb] at h3
    unfold EvenS
    rw [hp2 _ _ ha, hp2 _ _ hb]
    exact h3
theorem even_tight {p : Nat → Int} (hp : TightP (rowsR Z F) tm p) : ∀ (Q : List StepT) (u v : Nat), (∀ y ∈ Q, y ∈ stepsK Z F Z.length) → Walk (fromS Z) (toS Z) u Q v → p v = p u + costP tm (Q.map (rowS Z)) → ∀ y ∈ Q, EvenS Z p y
  | [], _, _, _, _, _ => by simp
  | y :: r, u, v, hq, ⟨h1, h2⟩, e => by
    subst h1
    have hm : ∀ z ∈ (y :: r), rowS Z z ∈ rowsR Z F := fun z hz => List.mem_map.2 ⟨z, hq z hz, rfl⟩
    have h3 := hp _ (hm y (by simp))
    rw [rowS_to, rowS_fr, rowS_tm] at h3
    have h4 := tight_chain hp (r.map (rowS Z)) (toS Z y) v (fun a ha => by
      obtain ⟨z, hz, rfl⟩ := List.mem_map.1 ha
      exact hm z (by simp [hz])) (walk_rows.1 h2)
    have e2 : costP tm ((y :: r).map (rowS Z)) = tmS Z y + costP tm (r.map (rowS Z)) := by simp [costP, rowS_tm]
    rw [e2] at e
    intro z hz
    rcases List.mem_cons.1 hz with rfl | hz
    · unfold EvenS; omega
    · exact even_tight hp r (toS Z y) v (fun a ha => hq a (by simp [ha])) h2 (by omega) z hz
/-- No way is left: the fastest ones take longer. -/
theorem FastI.done (hW : SpanNet Z N) (hs : s < N) (ht : t < N) (h : FastI Z N s t d F k) (h0 : getO d s = some 0) {x : Int} (hx : getO d t = some x) (hw : wayK (fromS (fastZ (valsO d) Z)) (toS (fastZ (valsO d) Z)) (stepsK (fastZ (valsO d) Z) (minF F (fastZ (valsO d) Z)) (fastZ (valsO d) Z).length) N s t = none) {z : Int} (hz : getO (dN Z F N s N) t = some z) : x < z := by
  have hF := h.flow.1
  obtain ⟨p, hp1, hp2, _⟩ := h.tight 0
  have hpr := tight_rows.1 hp1
  rcases (d_far hW.lt hs (tight_calm hp1 s)).at_ t ht with ⟨g1, _⟩ | ⟨z', g1, ⟨q, q1, q2, q3⟩, _⟩
  · rw [hz] at g1; cases g1
  · rw [hz] at g1
    cases g1
    obtain ⟨Q, r1, rfl⟩ := rows_lift q q1
    have hwk := walk_rows.2 q2
    have h1 := tight_chain hpr _ s t q1 q2
    rw [hp2 _ _ h0, hp2 _ _ hx] at h1
    refine Classical.byContradiction fun hn => ?_
    have hev := even_tight hpr Q s t r1 hwk (by rw [hp2 _ _ h0, hp2 _ _ hx]; omega)
    have hrc := walk_reach (R := fun v => (getO d v).isSome = true) (fun y hy hf => h.shut hW (r1 y hy) hf) (by rw [h0]; rfl) hwk
    have hT : ∀ y ∈ stepsK (fastZ (valsO d) Z) (minF F (fastZ (valsO d) Z)) (fastZ (valsO d) Z).length, toS (fastZ (valsO d) Z) y < N := fun y hy => by
      have h2 := fast_steps hW hF (valsO d) hy
      rw [(fast_ends h2.2.1).2]
      exact (span_step hW hF h2.1).1.1
    have hm : ∀ y ∈ Q, y ∈ stepsK (fastZ (valsO d) Z) (minF F (fastZ (valsO d) Z)) (fastZ (valsO d) Z).length := fun y hy => by
      obtain ⟨h2, h3, h4⟩ := (stepsK_mem (Nat.le_refl _)).1 (r1 y hy)
      refine (stepsK_mem (Nat.le_refl _)).2 ⟨fast_isArc.2 h2, by rw [fastZ_len]; exact h3, (fast_room hF h2).2 ⟨h4, ?_⟩⟩
      obtain ⟨r3, r4⟩ := hrc y hy
      obtain ⟨a, ha⟩ := Option.isSome_iff_exists.1 r3
      obtain ⟨b, hb⟩ := Option.isSome_iff_exists.1 r4
      have h5 := hev y hy
      unfold EvenS at h5
      rw [hp2 _ _ ha, hp2 _ _ hb] at h5
      rw [valsO_atI, valsO_atI, ha, hb]
      exact h5
    have hwk2 : Walk (fromS (fastZ (valsO d) Z)) (toS (fastZ (valsO d) Z)) s Q t := walk_congr (fun y hy => by
      have h2 := fast_ends (V := valsO d) ((stepsK_mem (Nat.le_refl _)).1 (r1 y hy)).1
      exact ⟨h2.1.symm, h2.2.symm⟩) hwk
    have hsk := seek_full (fr := fromS (fastZ (valsO d) Z)) hs hT
    obtain ⟨b, r, g1, g2, _⟩ := path_least hsk Q 0 _ t hsk.hd hm hwk2
    exact absurd (keysX_mem.2 ⟨b, r, g1, g2⟩) (wayK_none hw)
end
end Go.Proofs.Ytekcnglkfglbfaa
