/- Least times where steps may give time back: again and again the least that a step gives; where no cycle gains, there are tight numbers, and a flow with tight numbers is the cheapest: plain lists. -/
import Derived.Test.YtfklkcnopngpgaaBA
namespace Go.Proofs.Ytfklkcnopngpgaa
set_option linter.unusedVariables false

section
variable {R : List ArcT} {c : ArcT → Int} {s N : Nat}
/-- No cycle that is come to from s gains. -/
def NoGain (R : List ArcT) (c : ArcT → Int) (s : Nat) : Prop := ∀ p q u, (∀ a ∈ p, a ∈ R) → Chain s p u → (∀ a ∈ q, a ∈ R) → Chain u q u → 0 ≤ costP c q
theorem shortG (hs : s < N) (hZ : ∀ a ∈ R, toN a < N) (hc : NoGain R c s) {v : Nat} : ∀ (k : Nat) (p : List ArcT), p.length ≤ k → (∀ a ∈ p, a ∈ R) → Chain s p v →
    ∃ q, q.length < N ∧ (∀ a ∈ q, a ∈ R) ∧ Chain s q v ∧ costP c q ≤ costP c p
  | 0, p, hk, hp, h => ⟨p, by omega, hp, h, Int.le_refl _⟩
  | k + 1, p, hk, hp, h => by
    by_cases hl : p.length < N
    · exact ⟨p, hl, hp, h, Int.le_refl _⟩
    · have hb : ∀ x ∈ nodesOf s p, x < N := by
        intro x hx
        rcases List.mem_cons.1 hx with rfl | hx
        · exact hs
        · obtain ⟨a, ha, rfl⟩ := List.mem_map.1 hx
          exact hZ a (hp a ha)
      obtain ⟨i, j, m, hij, hj, h1, h2⟩ := twice hb (by rw [nodes_len]; omega)
      rw [nodes_len] at hj
      obtain ⟨m1, e1, c1, d1⟩ := chain_at h i (by omega)
      obtain ⟨m2, e2, c2, d2⟩ := chain_at h j (by omega)
      rw [h1] at e1; cases e1
      rw [h2] at e2; cases e2
      have hsub : ∀ a ∈ p.take i ++ p.drop j, a ∈ R := by
        intro a ha
        rcases List.mem_append.1 ha with ha | ha
        · exact hp a (List.mem_of_mem_take ha)
        · exact hp a (List.mem_of_mem_drop ha)
      have hlen : (p.take i ++ p.drop j).length ≤ k := by rw [List.length_append, List.length_take, List.length_drop]; omega
      obtain ⟨q, q1, q2, q3, q4⟩ := shortG hs hZ hc k (p.take i ++ p.drop j) hlen hsub (chain_app.2 ⟨m, c1, d2⟩)
      refine ⟨q, q1, q2, q3, Int.le_trans q4 ?_⟩
      have e0 : (p.drop i).take (j - i) ++ p.drop j = p.drop i := by
        have h5 := List.take_append_drop (j - i) (p.drop i)
        rw [List.drop_drop] at h5
        rw [show i + (j - i) = j by omega] at h5
        exact h5
      have e3 : p = p.take i ++ ((p.drop i).take (j - i) ++ p.drop j) := by rw [e0, List.take_append_drop]
      have hmc : Chain m ((p.drop i).take (j - i)) m := by
        have h6 : p.take j = p.take i ++ (p.drop i).take (j - i) := by
          have := List.take_add (l := p) (i := i) (j := j - i)
          rw [show i + (j - i) = j by omega] at this
          exact this
        rw [h6] at c2
        obtain ⟨m', g1, g2⟩ := chain_app.1 c2
        rw [chain_det g1 c1] at g2
        exact g2
      have hmid : 0 ≤ costP c ((p.drop i).take (j - i)) := hc (p.take i) _ m (fun a ha => hp a (List.mem_of_mem_take ha)) c1 (fun a ha => hp a (List.mem_of_mem_drop (List.mem_of_mem_take ha))) hmc
      conv => rhs; rw [e3]
      rw [cost_app, cost_app, cost_app]; omega
/-! Times, or none -/
def getO (d : List (Option Int)) (v : Nat) : Option Int := d.getD v none
theorem getO_set {d : List (Option Int)} {v u : Nat} {x : Option Int} (hv : v < d.length) : getO (d.set v x) u = if u = v then x else getO d u := by
  unfold getO
  rw [List.getD_eq_getElem?_getD, List.getElem?_set, List.getD_eq_getElem?_getD]
  by_cases h : u = v
  · subst h; simp [hv]
  · rw [if_neg (fun e => h e.symm), if_neg h]
/-- Does an arc give less than what is told? -/
def gives (c : ArcT → Int) (d : List (Option Int)) (a : ArcT) : Bool := match getO d (frN a) with
  | none => false
  | some x => match getO d (toN a) with
    | none => true
    | some y => decide (x + c a < y)
def relaxO (c : ArcT → Int) (d : List (Option Int)) (a : ArcT) : List (Option Int) := if gives c d a then d.set (toN a) (some ((getO d (frN a)).getD 0 + c a)) else d
def relaxAllO (c : ArcT → Int) (Y : List ArcT) (d : List (Option Int)) : List (Option Int) := Y.foldl (relaxO c) d
def startO (N s : Nat) : List (Option Int) := (List.replicate N none).set s (some 0)
def bellK (c : ArcT → Int) (R : List ArcT) (N s : Nat) : Nat → List (Option Int)
  | 0 => startO N s
  | k + 1 => relaxAllO c R (bellK c R N s k)
theorem relaxO_len (d : List (Option Int)) (a : ArcT) : (relaxO c d a).length = d.length := by unfold relaxO; split <;> simp
theorem relaxAllO_len (Y : List ArcT) (d : List (Option Int)) : (relaxAllO c Y d).length = d.length := by
  unfold relaxAllO
  induction Y generalizing d with
  | nil => rfl
  | cons a r ih => rw [List.foldl_cons, ih, relaxO_len]
theorem bellK_len (k : Nat) : (bellK c R N s k).length = N := by
  induction k with
  | zero => simp [bellK, startO]
  | succ k ih => unfold bellK; rw [relaxAllO_len, ih]
def SoundO (R : List ArcT) (c : ArcT → Int) (s : Nat) (d : List (Option Int)) : Prop := ∀ v x, getO d v = some x → Reach R c s v x
def SeenO (R : List ArcT) (c : ArcT → Int) (s k : Nat) (d : List (Option Int)) : Prop := ∀ p v, (∀ a ∈ p, a ∈ R) → Chain s p v → p.length ≤ k → ∃ x, getO d v = some x ∧ x ≤ costP c p
/-- No arc gives less than what is told. -/
def ClosedO (R : List ArcT) (c : ArcT → Int) (d : List (Option Int)) : Prop := ∀ a ∈ R, ∀ x, getO d (frN a) = some x → ∃ y, getO d (toN a) = some y ∧ y ≤ x + c a
theorem gives_false {d : List (Option Int)} {a : ArcT} : gives c d a = false ↔ ∀ x, getO d (frN a) = some x → ∃ y, getO d (toN a) = some y ∧ y ≤ x + c a := by
  unfold gives
  cases hf : getO d (frN a) with
  | none => simp
  | some x =>
    cases ht : getO d (toN a) with
    | none => simp
    | some y =>
      simp only [decide_eq_false_iff_not, Option.some.injEq]
      constructor
      · rintro h x' rfl; exact ⟨y, rfl, by omega⟩
      · intro h
        obtain ⟨y', e, h2⟩ := h x rfl
        cases e
        omega
theorem closed_iff {d : List (Option Int)} : ClosedO R c d ↔ ∀ a ∈ R, gives c d a = false := by
  constructor
  · intro h a ha; exact gives_false.2 (h a ha)
  · intro h a ha; exact gives_false.1 (h a ha)
theorem relaxO_sound {d : List (Option Int)} {a : ArcT} (ha : a ∈ R) (hto : toN a < d.length) (h : SoundO R c s d) : SoundO R c s (relaxO c d a) := by
  unfold relaxO
  split
  · next hg =>
    intro v x hx
    rw [getO_set hto] at hx
    split at hx
    · next e =>
      subst e
      cases hx
      cases hf : getO d (frN a) with
      | none => unfold gives at hg; rw [hf] at hg; cases hg
      | some y => exact reach_step (h _ _ hf) ha
    · exact h v x hx
  · exact h
theorem relaxO_less {d : List (Option Int)} {a : ArcT} (hto : toN a < d.length) {v : Nat} {x : Int} (h : getO d v = some x) : ∃ y, getO (relaxO c d a) v = some y ∧ y ≤ x := by
  unfold relaxO
  split
  · next hg =>
    rw [getO_set hto]
    split
    · next e =>
      subst e
      refine ⟨_, rfl, ?_⟩
      unfold gives at hg
      cases hf : getO d (frN a) with
      | none => rw [hf] at hg; cases hg
      | some z =>
        rw [hf, h] at hg
        simp only [decide_eq_true_eq] at hg
        simp only [Option.getD_some]
        omega
    · exact ⟨x, h, Int.le_refl _⟩
  · exact ⟨x, h, Int.le_refl _⟩
theorem relaxO_does {d : List (Option Int)} {a : ArcT} (hto : toN a < d.length) {x : Int} (h : getO d (frN a) = some x) : ∃ y, getO (relaxO c d a) (toN a) = some y ∧ y ≤ x + c a := by
  unfold relaxO
  split
  · next hg => rw [getO_set hto, if_pos rfl, h]; exact ⟨_, rfl, Int.le_refl _⟩
  · next hg => exact gives_false.1 (by simpa using hg) x h
theorem relaxAllO_props : ∀ (Y : List ArcT) (d : List (Option Int)), (∀ a ∈ Y, a ∈ R ∧ toN a < d.length) → SoundO R c s d →
    SoundO R c s (relaxAllO c Y d) ∧ (∀ v x, getO d v = some x → ∃ y, getO (relaxAllO c Y d) v = some y ∧ y ≤ x) ∧ (∀ a ∈ Y, ∀ x, getO d (frN a) = some x → ∃ y, getO (relaxAllO c Y d) (toN a) = some y ∧ y ≤ x + c a)
  | [], d, _, h => ⟨h, fun v x hx => ⟨x, hx, Int.le_refl _⟩, fun a ha => by cases ha⟩
  | b :: Y, d, hY, h => by
    obtain ⟨b1, b2⟩ := hY b (by simp)
    obtain ⟨i1, i2, i3⟩ := relaxAllO_props Y (relaxO c d b) (fun a ha => by rw [relaxO_len]; exact hY a (by simp [ha])) (relaxO_sound b1 b2 h)
    have e : relaxAllO c (b :: Y) d = relaxAllO c Y (relaxO c d b) := rfl
    rw [e]
    refine ⟨i1, fun v x hx => ?_, fun a ha x hx => ?_⟩
    · obtain ⟨y, h1, h2⟩ := relaxO_less (c := c) (a := b) b2 hx
      obtain ⟨z, h3, h4⟩ := i2 v y h1
      exact ⟨z, h3, by omega⟩
    · rcases List.mem_cons.1 ha with rfl | ha
      · obtain ⟨y, h1, h2⟩ := relaxO_does (c := c) b2 hx
        obtain ⟨z, h3, h4⟩ := i2 _ y h1
        exact ⟨z, h3, by omega⟩
      · obtain ⟨y, h1, h2⟩ := relaxO_less (c := c) (a := b) b2 hx
        obtain ⟨z, h3, h4⟩ := i3 a ha y h1
        exact ⟨z, h3, by omega⟩
theorem bellK_props (hs : s < N) (hZ : ∀ a ∈ R, toN a < N) (k : Nat) : SoundO R c s (bellK c R N s k) ∧ SeenO R c s k (bellK c R N s k) := by
  induction k with
  | zero =>
    have hg : ∀ v, getO (startO N s) v = if v = s then some 0 else none := by
      intro v
      unfold startO
      rw [getO_set (by simp; exact hs)]
      split
      · rfl
      · unfold getO; rw [List.getD_eq_getElem?_getD, List.getElem?_replicate]; split <;> rfl
    constructor
    · intro v x hx
      rw [show bellK c R N s 0 = startO N s from rfl, hg] at hx
      split at hx
      · next e => subst e; cases hx; exact reach_self R c v
      · cases hx
    · intro p v hp h hl
      have : p = [] := List.eq_nil_of_length_eq_zero (by omega)
      subst this
      simp only [Chain] at h
      subst h
      exact ⟨0, by rw [show bellK c R N s 0 = startO N s from rfl, hg, if_pos rfl], by simp [costP]⟩
  | succ k ih =>
    have hl := bellK_len (c := c) (R := R) (N := N) (s := s) k
    obtain ⟨r1, r2, r3⟩ := relaxAllO_props R (bellK c R N s k) (fun a ha => ⟨ha, by rw [hl]; exact hZ a ha⟩) ih.1
    refine ⟨r1, fun p v hp h hpl => ?_⟩
    show ∃ x, getO (relaxAllO c R (bellK c R N s k)) v = some x ∧ _
    by_cases hlen : p.length ≤ k
    · obtain ⟨x, h1, h2⟩ := ih.2 p v hp h hlen
      obtain ⟨y, h3, h4⟩ := r2 v x h1
      exact ⟨y, h3, by omega⟩
    · obtain ⟨q, a, rfl, h1, h2⟩ := chain_last h (by rintro rfl; simp at hlen)
      obtain ⟨x, h3, h4⟩ := ih.2 q (frN a) (fun x hx => hp x (by simp [hx])) h1 (by simp at hpl; omega)
      obtain ⟨y, h5, h6⟩ := r3 a (hp a (by simp)) x h3
      subst h2
      refine ⟨y, h5, ?_⟩
      rw [cost_app]
      have : costP c [a] = c a := by simp [costP]
      omega
/-- Along a chain what is told grows by no more than its cost. -/
theorem closed_chain {d : List (Option Int)} (h : ClosedO R c d) : ∀ (p : List ArcT) (u v : Nat) (x : Int), (∀ a ∈ p, a ∈ R) → Chain u p v → getO d u = some x → ∃ y, getO d v = some y ∧ y ≤ x + costP c p
  | [], u, v, x, _, hc, hx => by
    simp only [Chain] at hc
    subst hc
    exact ⟨x, hx, by simp [costP]⟩
  | a :: r, u, v, x, hp, hc, hx => by
    obtain ⟨e1, e2⟩ := hc
    subst e1
    obtain ⟨y, h1, h2⟩ := h a (hp a (by simp)) x hx
    obtain ⟨z, h3, h4⟩ := closed_chain h r _ v y (fun b hb => hp b (by simp [hb])) e2 h1
    refine ⟨z, h3, ?_⟩
    simp only [costP, List.map_cons, List.sum_cons] at h4 ⊢
    omega
/-- A round that changes nothing says: no cycle gains. -/
theorem closed_noGain (hs : s < N) (hZ : ∀ a ∈ R, toN a < N) {k : Nat} (h : ClosedO R c (bellK c R N s k)) : NoGain R c s := by
  intro p q u hp hc hq hcq
  obtain ⟨x, h1, _⟩ := (bellK_props (c := c) hs hZ k).2 [] s (by simp) rfl (Nat.zero_le _)
  obtain ⟨y, h2, _⟩ := closed_chain h p s u x hp hc h1
  obtain ⟨z, h3, h4⟩ := closed_chain h q u u y hq hcq h2
  rw [h2] at h3
  cases h3
  omega
/-- Where no cycle gains, so many rounds as there are nodes do. -/
theorem noGain_closed (hs : s < N) (hZ : ∀ a ∈ R, toN a < N) (h : NoGain R c s) : ClosedO R c (bellK c R N s N) := by
  intro a ha x hx
  obtain ⟨h1, h2⟩ := bellK_props (c := c) (R := R) hs hZ N
  obtain ⟨p, p1, p2, p3⟩ := reach_step (h1 _ x hx) ha
  obtain ⟨q, q1, q2, q3, q4⟩ := shortG hs hZ h p.length p (Nat.le_refl _) p1 p2
  obtain ⟨y, h3, h4⟩ := h2 q _ q2 q3 (by omega)
  exact ⟨y, h3, by omega⟩
/-- The least times, or none. -/
structure IsFarO (R : List ArcT) (c : ArcT → Int) (s N : Nat) (d : List (Option Int)) : Prop where
  len : d.length = N
  at_ : ∀ v, v < N → (getO d v = none ∧ ∀ t, ¬ Reach R c s v t) ∨ (∃ x, getO d v = some x ∧ Reach R c s v x ∧ ∀ t, Reach R c s v t → x ≤ t)
theorem isFarO_of {d : List (Option Int)} (hl : d.length = N) (h1 : SoundO R c s d) (h0 : ∃ x, getO d s = some x ∧ x ≤ 0) (h2 : ClosedO R c d) : IsFarO R c s N d := by
  obtain ⟨x0, e0, l0⟩ := h0
  have key : ∀ v t, Reach R c s v t → ∃ y, getO d v = some y ∧ y ≤ t := by
    rintro v t ⟨p, p1, p2, rfl⟩
    obtain ⟨y, g1, g2⟩ := closed_chain h2 p s v x0 p1 p2 e0
    exact ⟨y, g1, by omega⟩
  refine ⟨hl, fun v hv => ?_⟩
  cases hg : getO d v with
  | none =>
    refine .inl ⟨rfl, fun t ht => ?_⟩
    obtain ⟨y, g1, _⟩ := key v t ht
    rw [hg] at g1; cases g1
  | some x =>
    refine .inr ⟨x, rfl, h1 v x hg, fun t ht => ?_⟩
    obtain ⟨y, g1, g2⟩ := key v t ht
    rw [hg] at g1; cases g1
    exact g2
theorem isFarO_unique {d e : List (Option Int)} (h : IsFarO R c s N d) (k : IsFarO R c s N e) : d = e := by
  apply List.ext_getElem (h.len.trans k.len.symm)
  intro i h1 h2
  have hN : i < N := h.len ▸ h1
  have ed : getO d i = d[i] := by unfold getO; rw [List.getD_eq_getElem?_getD, List.getElem?_eq_getElem h1]; rfl
  have ee : getO e i = e[i] := by unfold getO; rw [List.getD_eq_getElem?_getD, List.getElem?_eq_getElem h2]; rfl
  rw [← ed, ← ee]
  rcases h.at_ i hN with ⟨h3, h4⟩ | ⟨x, h3, h4, h5⟩
  · rcases k.at_ i hN with ⟨k3, k4⟩ | ⟨y, k3, k4, k5⟩
    · rw [h3, k3]
    · exact absurd k4 (h4 _)
  · rcases k.at_ i hN with ⟨k3, k4⟩ | ⟨y, k3, k4, k5⟩
    · exact absurd h4 (k4 _)
    · rw [h3, k3, Int.le_antisymm (h5 _ k4) (k5 _ h4)]
theorem bell_isFar (hs : s < N) (hZ : ∀ a ∈ R, toN a < N) (h : NoGain R c s) : IsFarO R c s N (bellK c R N s N) := by
  obtain ⟨h1, h2⟩ := bellK_props (c := c) (R := R) hs hZ N
  obtain ⟨x, g1, g2⟩ := h2 [] s (by simp) rfl (Nat.zero_le _)
  exact isFarO_of (bellK_len N) h1 ⟨x, g1, by simpa [costP] using g2⟩ (noGain_closed hs hZ h)
/-! Tight numbers -/
def TightP (R : List ArcT) (c : ArcT → Int) (p : Nat → Int) : Prop := ∀ a ∈ R, p (toN a) ≤ p (frN a) + c a
theorem tight_chain {p : Nat → Int} (h : TightP R c p) : ∀ (q : List ArcT) (u v : Nat), (∀ a ∈ q, a ∈ R) → Chain u q v → p v ≤ p u + costP c q
  | [], u, v, _, hc => by simp only [Chain] at hc; subst hc; simp [costP]
  | a :: r, u, v, hq, hc => by
    obtain ⟨e1, e2⟩ := hc
    subst e1
    have h1 := h a (hq a (by simp))
    have h2 := tight_chain h r _ v (fun b hb => hq b (by simp [hb])) e2
    simp only [costP, List.map_cons, List.sum_cons] at h2 ⊢
    omega
theorem tight_noGain {p : Nat → Int} (h : TightP R c p) (s : Nat) : NoGain R c s := fun q r u _ _ hr hc => by
  have := tight_chain h r u u hr hc
  omega
def minL : List Int → Int → Int
  | [], m => m
  | x :: r, m => minL r (min m x)
theorem minL_le : ∀ (l : List Int) (m : Int), minL l m ≤ m ∧ ∀ x ∈ l, minL l m ≤ x
  | [], m => ⟨Int.le_refl _, by simp⟩
  | y :: r, m => by
    obtain ⟨h1, h2⟩ := minL_le r (min m y)
    refine ⟨by show minL r (min m y) ≤ m; omega, fun x hx => ?_⟩
    show minL r (min m y) ≤ x
    rcases List.mem_cons.1 hx with rfl | hx
    · omega
    · exact h2 x hx
theorem minL_is : ∀ (l : List Int) (m : Int), minL l m = m ∨ minL l m ∈ l
  | [], m => .inl rfl
  | y :: r, m => by
    rcases minL_is r (min m y) with h | h
    · by_cases e : m ≤ y
      · left; show minL r (min m y) = m; rw [h]; omega
      · right; have : minL (y :: r) m = y := by show minL r (min m y) = y; rw [h]; omega
        rw [this]; simp
    · right; exact List.mem_cons_of_mem _ h
/-- Where no cycle gains, there are tight numbers. -/
theorem tight_exists (hZ : ∀ a ∈ R, frN a < N ∧ toN a < N) (h : ∀ u, u < N → NoGain R c u) : ∃ p, TightP R c p := by
  let L : Nat → List Int := fun v => (List.range N).filterMap fun u => getO (bellK c R N u N) v
  refine ⟨fun v => minL (L v) 0, fun a ha => ?_⟩
  obtain ⟨hf, ht⟩ := hZ a ha
  have hZ' : ∀ b ∈ R, toN b < N := fun b hb => (hZ b hb).2
  have step : ∀ u, u < N → ∀ x, getO (bellK c R N u N) (frN a) = some x → minL (L (toN a)) 0 ≤ x + c a := by
    intro u hu x hx
    obtain ⟨y, h1, h2⟩ := noGain_closed hu hZ' (h u hu) a ha x hx
    have := (minL_le (L (toN a)) 0).2 y (List.mem_filterMap.2 ⟨u, by simpa using hu, h1⟩)
    omega
  show minL (L (toN a)) 0 ≤ minL (L (frN a)) 0 + c a
  rcases minL_is (L (frN a)) 0 with e | e
  · obtain ⟨x, g1, g2⟩ := (bellK_props (c := c) (R := R) hf hZ' N).2 [] (frN a) (by simp) rfl (Nat.zero_le _)
    have := step (frN a) hf x g1
    simp [costP] at g2
    omega
  · obtain ⟨u, g1, g2⟩ := List.mem_filterMap.1 e
    exact step u (by simpa using g1) _ g2
end
/-! A flow with tight numbers is the cheapest -/
/-- The steps with room, as arcs whose time is the step's. -/
def tmS (Z : List ArcT) (x : StepT) : Int := if x.2 then - tm (arcOf Z x) else tm (arcOf Z x)
def TightF (Z : List ArcT) (f : List Int) (p : Nat → Int) : Prop := ∀ x : StepT, isArc Z x → 0 < leftS Z f x → p (toS Z x) ≤ p (fromS Z x) + tmS Z x
/-- Numbers times balances. -/
def potK (Z : List ArcT) (f : List Int) (p : Nat → Int) : Nat → Int
  | 0 => 0
  | i + 1 => potK Z f p i + match Z[i]? with | some a => atI f i * (p (frN a) - p (toN a)) | none => 0
theorem potK_succ {Z : List ArcT} {f : List Int} {p : Nat → Int} {i : Nat} {a : ArcT} (h : Z[i]? = some a) : potK Z f p (i + 1) = potK Z f p i + atI f i * (p (frN a) - p (toN a)) := by
  show potK Z f p i + _ = _
  rw [h]
theorem sumTo_mul (g : Nat → Int) (k : Int) : ∀ n, sumTo (fun v => g v * k) n = sumTo g n * k
  | 0 => by simp [sumTo]
  | n + 1 => by simp only [sumTo, sumTo_mul g k n, Int.add_mul]
theorem pot_share {a : ArcT} {x : Int} {p : Nat → Int} {N : Nat} (hf : frN a < N) (ht : toN a < N) : sumTo (fun v => p v * share a x v) N = x * (p (frN a) - p (toN a)) := by
  have e : sumTo (fun v => p v * share a x v) N = sumTo (fun v => (if frN a = v then p (frN a) * x else 0) + (- (if toN a = v then p (toN a) * x else 0))) N := sumTo_congr (fun v _ => by
    unfold share
    by_cases h1 : frN a = v
    · subst h1
      by_cases h2 : toN a = frN a
      · rw [if_pos rfl, if_pos h2, if_pos rfl, if_pos h2, h2]; simp; omega
      · rw [if_pos rfl, if_neg h2, if_pos rfl, if_neg h2]; simp
    · by_cases h2 : toN a = v
      · subst h2; rw [if_neg h1, if_pos rfl, if_neg h1, if_pos rfl]; simp [Int.mul_neg]
      · rw [if_neg h1, if_neg h2, if_neg h1, if_neg h2]; simp)
  rw [e, sumTo_add, sumTo_neg, sumTo_one, sumTo_one, if_pos hf, if_pos ht, Int.mul_sub, Int.mul_comm x, Int.mul_comm x]
  omega
theorem pot_sum {Z : List ArcT} {f : List Int} {p : Nat → Int} {N : Nat} (hZ : ∀ a ∈ Z, frN a < N ∧ toN a < N) : ∀ i, sumTo (fun v => p v * balK Z f v i) N = potK Z f p i
  | 0 => by
    rw [sumTo_congr (h := fun _ => 0) (fun v _ => by simp [balK])]
    exact sumTo_zero N
  | i + 1 => by
    cases hz : Z[i]? with
    | none =>
      rw [sumTo_congr (h := fun v => p v * balK Z f v i) (fun v _ => by
        have e : balK Z f v (i + 1) = balK Z f v i := by show balK Z f v i + _ = _; rw [hz]; simp
        rw [e]), pot_sum hZ i]
      show _ = potK Z f p i + _
      rw [hz]; simp
    | some a =>
      have ha := hZ a (List.mem_of_getElem? hz)
      rw [sumTo_congr (h := fun v => p v * balK Z f v i + p v * share a (atI f i) v) (fun v _ => by rw [balK_succ hz, Int.mul_add]), sumTo_add, pot_sum hZ i, pot_share ha.1 ha.2, potK_succ hz]
/-- What another flow costs more is no less than what the numbers say of the balances. -/
theorem dual_cost {Z : List ArcT} {f g : List Int} {p : Nat → Int} (hf : Flow Z f) (hg : Flow Z g) (hp : TightF Z f p) : ∀ i, costK Z f i + potK Z f p i ≤ costK Z g i + potK Z g p i
  | 0 => Int.le_refl _
  | i + 1 => by
    have ih := dual_cost hf hg hp i
    cases hz : Z[i]? with
    | none =>
      show costK Z f i + _ + (potK Z f p i + _) ≤ costK Z g i + _ + (potK Z g p i + _)
      rw [hz]
      simpa using ih
    | some a =>
      rw [costK_succ hz, costK_succ hz, potK_succ hz, potK_succ hz]
      have hlt : i < Z.length := (List.getElem?_eq_some_iff.1 hz).1
      have h1 := hf.2 i a hz
      have h2 := hg.2 i a hz
      have ea : ∀ b : Bool, arcOf Z ((i : Int), b) = a := by
        intro b; unfold arcOf; rw [Int.toNat_natCast, List.getD_eq_getElem?_getD, hz]; rfl
      have hx : ∀ b : Bool, isArc Z ((i : Int), b) := fun b => ⟨by simp, by simp only; omega⟩
      have along : atI f i < capN a → p (toN a) ≤ p (frN a) + tm a := fun h => by
        have := hp ((i : Int), false) (hx false) (by unfold leftS; simp only [Bool.false_eq_true, if_false, Int.toNat_natCast, ea]; omega)
        unfold toS fromS tmS at this
        simpa only [Bool.false_eq_true, if_false, ea] using this
      have back : 0 < atI f i → p (frN a) ≤ p (toN a) - tm a := fun h => by
        have := hp ((i : Int), true) (hx true) (by unfold leftS; simp only [if_true, Int.toNat_natCast]; exact h)
        unfold toS fromS tmS at this
        simp only [if_true, ea] at this
        omega
      have key : 0 ≤ (atI g i - atI f i) * (tm a + (p (frN a) - p (toN a))) := by
        rcases Int.lt_trichotomy (atI g i) (atI f i) with h | h | h
        · have h3 := back (by omega)
          exact Int.mul_nonneg_of_nonpos_of_nonpos (by omega) (by omega)
        · rw [h]; simp
        · have h3 := along (by omega)
          exact Int.mul_nonneg (by omega) (by omega)
      have ex : (atI g i - atI f i) * (tm a + (p (frN a) - p (toN a))) = (atI g i * tm a + atI g i * (p (frN a) - p (toN a))) - (atI f i * tm a + atI f i * (p (frN a) - p (toN a))) := by
        rw [Int.sub_mul, Int.mul_add, Int.mul_add]
      omega
theorem cheapest {Z : List ArcT} {N : Nat} {f g : List Int} {p : Nat → Int} (hZ : ∀ a ∈ Z, frN a < N ∧ toN a < N) (hf : Flow Z f) (hg : Flow Z g) (hp : TightF Z f p) (hb : ∀ v, v < N → bal Z f v = bal Z g v) : costK Z f Z.length ≤ costK Z g Z.length := by
  have h1 := dual_cost hf hg hp Z.length
  have h2 : potK Z f p Z.length = potK Z g p Z.length := by
    rw [← pot_sum hZ Z.length, ← pot_sum hZ Z.length]
    exact sumTo_congr (fun v hv => by have := hb v hv; unfold bal at this; rw [this])
  omega
/-- The same with the value: where the sink is told so much later than the source. -/
theorem dual_value {Z : List ArcT} {N s t : Nat} {f g : List Int} {p : Nat → Int} {k m : Int} (hZ : ∀ a ∈ Z, frN a < N ∧ toN a < N) (hs : s < N) (ht : t < N) (hne : s ≠ t) (hf : FlowST Z N s t f k) (hg : FlowST Z N s t g m) (hp : TightF Z f p) : costK Z f Z.length + (p s - p t) * k ≤ costK Z g Z.length + (p s - p t) * m := by
  have h1 := dual_cost hf.1 hg.1 hp Z.length
  have val : ∀ (h : List Int) (n : Int), FlowST Z N s t h n → potK Z h p Z.length = (p s - p t) * n := by
    intro h n hh
    have h2 := bal_sum (Z := Z) (f := h) hZ
    have h3 := sum_two (g := bal Z h) hs ht hne hh.2.1
    have h4 : bal Z h t = - n := by have := hh.2.2; omega
    rw [← pot_sum hZ Z.length, sum_two (g := fun v => p v * balK Z h v Z.length) hs ht hne (fun v hv a b => by have := hh.2.1 v hv a b; unfold bal at this; rw [this]; simp)]
    show p s * bal Z h s + p t * bal Z h t = _
    rw [hh.2.2, h4, Int.sub_mul, Int.mul_neg]
    omega
  rw [val f k hf, val g m hg] at h1
  exact h1
end Go.Proofs.Ytfklkcnopngpgaa
