/- Lemmas of the layers below, several texts in one. -/
import Derived.Test.YtbkmfjegbmjknaaBA
namespace Go.Proofs.Ytbkmfjegbmjknaa
set_option linter.unusedVariables false

section
variable {R : List ArcT} {c : ArcT → Int} {s N : Nat}
/-- No cycle that is come to from s gains. -/
def NoGain (R : List ArcT) (c : ArcT → Int) (s : Nat) : Prop := ∀ p q u, (∀ a ∈ p, a ∈ R) → Chain s p u → (∀ a ∈ q, a ∈ R) → Chain u q u → 0 ≤ costP c q
theorem shortG (hs : s < N) (hZ : ∀ a ∈ R, toN a < N) (hc : NoGain R c s) {v : Nat} : ∀ (k : Nat) (p : List ArcT), p.length ≤ k → (∀ a ∈ p, a ∈ R) → Chain s p v →
    ∃ q, q.length < N ∧ (∀ a ∈ q, a ∈ R) ∧ Chain s q v ∧ costP c q ≤ costP c p
  | 0, p, hk, hp, h => ⟨p, by omega, hp, h, Int.le_refl _⟩
  | k + 1, p, hk, hp, h => by
    by_cases hl : p.length < N
    · exact ⟨p, hl, hp, h, Int.le_refl _⟩
    · have hb : ∀ x ∈ nodesOf s p, x < N := by
        intro x hx
        rcases List.mem_cons.1 hx with rfl | hx
        · exact hs
        · obtain ⟨a, ha, rfl⟩ := List.mem_map.1 hx
          exact hZ a (hp a ha)
      obtain ⟨i, j, m, hij, hj, h1, h2⟩ := twice hb (by rw [nodes_len]; omega)
      rw [nodes_len] at hj
      obtain ⟨m1, e1, c1, d1⟩ := chain_at h i (by omega)
      obtain ⟨m2, e2, c2, d2⟩ := chain_at h j (by omega)
      rw [h1] at e1; cases e1
      rw [h2] at e2; cases e2
      have hsub : ∀ a ∈ p.take i ++ p.drop j, a ∈ R := by
        intro a ha
        rcases List.mem_append.1 ha with ha | ha
        · exact hp a (List.mem_of_mem_take ha)
        · exact hp a (List.mem_of_mem_drop ha)
      have hlen : (p.take i ++ p.drop j).length ≤ k := by rw [List.length_append, List.length_take, List.length_drop]; omega
      obtain ⟨q, q1, q2, q3, q4⟩ := shortG hs hZ hc k (p.take i ++ p.drop j) hlen hsub (chain_app.2 ⟨m, c1, d2⟩)
      refine ⟨q, q1, q2, q3, Int.le_trans q4 ?_⟩
      have e0 : (p.drop i).take (j - i) ++ p.drop j = p.drop i := by
        have h5 := List.take_append_drop (j - i) (p.drop i)
        rw [List.drop_drop] at h5
        rw [show i + (j - i) = j by omega] at h5
        exact h5
      have e3 : p = p.take i ++ ((p.drop i).take (j - i) ++ p.drop j) := by rw [e0, List.take_append_drop]
      have hmc : Chain m ((p.drop i).take (j - i)) m := by
        have h6 : p.take j = p.take i ++ (p.drop i).take (j - i) := by
          have := List.take_add (l := p) (i := i) (j := j - i)
          rw [show i + (j - i) = j by omega] at this
          exact this
        rw [h6] at c2
        obtain ⟨m', g1, g2⟩ := chain_app.1 c2
        rw [chain_det g1 c1] at g2
        exact g2
      have hmid : 0 ≤ costP c ((p.drop i).take (j - i)) := hc (p.take i) _ m (fun a ha => hp a (List.mem_of_mem_take ha)) c1 (fun a ha => hp a (List.mem_of_mem_drop (List.mem_of_mem_take ha))) hmc
      conv => rhs; rw [e3]
      rw [cost_app, cost_app, cost_app]; omega
/-! Times, or none -/
def getO (d : List (Option Int)) (v : Nat) : Option Int := d.getD v none
theorem getO_set {d : List (Option Int)} {v u : Nat} {x : Option Int} (hv : v < d.length) : getO (d.set v x) u = if u = v then x else getO d u := by
  unfold getO
  rw [List.getD_eq_getElem?_getD, List.getElem?_set, List.getD_eq_getElem?_getD]
  by_cases h : u = v
  · subst h; simp [hv]
  · rw [if_neg (fun e => h e.symm), if_neg h]
/-- Does an arc give less than what is told? -/
def gives (c : ArcT → Int) (d : List (Option Int)) (a : ArcT) : Bool := match getO d (frN a) with
  | none => false
  | some x => match getO d (toN a) with
    | none => true
    | some y => decide (x + c a < y)
def relaxO (c : ArcT → Int) (d : List (Option Int)) (a : ArcT) : List (Option Int) := if gives c d a then d.set (toN a) (some ((getO d (frN a)).getD 0 + c a)) else d
def relaxAllO (c : ArcT → Int) (Y : List ArcT) (d : List (Option Int)) : List (Option Int) := Y.foldl (relaxO c) d
def startO (N s : Nat) : List (Option Int) := (List.replicate N none).set s (some 0)
def bellK (c : ArcT → Int) (R : List ArcT) (N s : Nat) : Nat → List (Option Int)
  | 0 => startO N s
  | k + 1 => relaxAllO c R (bellK c R N s k)
theorem relaxO_len (d : List (Option Int)) (a : ArcT) : (relaxO c d a).length = d.length := by unfold relaxO; split <;> simp
theorem relaxAllO_len (Y : List ArcT) (d : List (Option Int)) : (relaxAllO c Y d).length = d.length := by
  unfold relaxAllO
  induction Y generalizing d with
  | nil => rfl
  | cons a r ih => rw [List.foldl_cons, ih, relaxO_len]
theorem bellK_len (k : Nat) : (bellK c R N s k).length = N := by
  induction k with
  | zero => simp [bellK, startO]
  | succ k ih => unfold bellK; rw [relaxAllO_len, ih]
def SoundO (R : List ArcT) (c : ArcT → Int) (s : Nat) (d : List (Option Int)) : Prop := ∀ v x, getO d v = some x → Reach R c s v x
def SeenO (R : List ArcT) (c : ArcT → Int) (s k : Nat) (d : List (Option Int)) : Prop := ∀ p v, (∀ a ∈ p, a ∈ R) → Chain s p v → p.length ≤ k → ∃ x, getO d v = some x ∧ x ≤ costP c p
/-- No arc gives less than what is told. -/
def ClosedO (R : List ArcT) (c : ArcT → Int) (d : List (Option Int)) : Prop := ∀ a ∈ R, ∀ x, getO d (frN a) = some x → ∃ y, getO d (toN a) = some y ∧ y ≤ x + c a
theorem gives_false {d : List (Option Int)} {a : ArcT} : gives c d a = false ↔ ∀ x, getO d (frN a) = some x → ∃ y, getO d (toN a) = some y ∧ y ≤ x + c a := by
  unfold gives
  cases hf : getO d (frN a) with
  | none => simp
  | some x =>
    cases ht : getO d (toN a) with
    | none => simp
    | some y =>
      simp only [decide_eq_false_iff_not, Option.some.injEq]
      constructor
      · rintro h x' rfl; exact ⟨y, rfl, by omega⟩
      · intro h
        obtain ⟨y', e, h2⟩ := h x rfl
        cases e
        omega
theorem closed_iff {d : List (Option Int)} : ClosedO R c d ↔ ∀ a ∈ R, gives c d a = false := by
  constructor
  · intro h a ha; exact gives_false.2 (h a ha)
  · intro h a ha; exact gives_false.1 (h a ha)
theorem relaxO_sound {d : List (Option Int)} {a : ArcT} (ha : a ∈ R) (hto : toN a < d.length) (h : SoundO R c s d) : SoundO R c s (relaxO c d a) := by
  unfold relaxO
  split
  · next hg =>
    intro v x hx
    rw [getO_set hto] at hx
    split at hx
    · next e =>
      subst e
      cases hx
      cases hf : getO d (frN a) with
      | none => unfold gives at hg; rw [hf] at hg; cases hg
      | some y => exact reach_step (h _ _ hf) ha
    · exact h v x hx
  · exact h
theorem relaxO_less {d : List (Option Int)} {a : ArcT} (hto : toN a < d.length) {v : Nat} {x : Int} (h : getO d v = some x) : ∃ y, getO (relaxO c d a) v = some y ∧ y ≤ x := by
  unfold relaxO
  split
  · next hg =>
    rw [getO_set hto]
    split
    · next e =>
      subst e
      refine ⟨_, rfl, ?_⟩
      unfold gives at hg
      cases hf : getO d (frN a) with
      | none => rw [hf] at hg; cases hg
      | some z =>
        rw [hf, h] at hg
        simp only [decide_eq_true_eq] at hg
        simp only [Option.getD_some]
        omega
    · exact ⟨x, h, Int.le_refl _⟩
  · exact ⟨x, h, Int.le_refl _⟩
theorem relaxO_does {d : List (Option Int)} {a : ArcT} (hto : toN a < d.length) {x : Int} (h : getO d (frN a) = some x) : ∃ y, getO (relaxO c d a) (toN a) = some y ∧ y ≤ x + c a := by
  unfold relaxO
  split
  · next hg => rw [getO_set hto, if_pos rfl, h]; exact ⟨_, rfl, Int.le_refl _⟩
  · next hg => exact gives_false.1 (by simpa using hg) x h
theorem relaxAllO_props : ∀ (Y : List ArcT) (d : List (Option Int)), (∀ a ∈ Y, a ∈ R ∧ toN a < d.length) → SoundO R c s d →
    SoundO R c s (relaxAllO c Y d) ∧ (∀ v x, getO d v = some x → ∃ y, getO (relaxAllO c Y d) v = some y ∧ y ≤ x) ∧ (∀ a ∈ Y, ∀ x, getO d (frN a) = some x → ∃ y, getO (relaxAllO c Y d) (toN a) = some y ∧ y ≤ x + c a)
  | [], d, _, h => ⟨h, fun v x hx => ⟨x, hx, Int.le_refl _⟩, fun a ha => by cases ha⟩
  | b :: Y, d, hY, h => by
    obtain ⟨b1, b2⟩ := hY b (by simp)
    obtain ⟨i1, i2, i3⟩ := relaxAllO_props Y (relaxO c d b) (fun a ha => by rw [relaxO_len]; exact hY a (by simp [ha])) (relaxO_sound b1 b2 h)
    have e : relaxAllO c (b :: Y) d = relaxAllO c Y (relaxO c d b) := rfl
    rw [e]
    refine ⟨i1, fun v x hx => ?_, fun a ha x hx => ?_⟩
    · obtain ⟨y, h1, h2⟩ := relaxO_less (c := c) (a := b) b2 hx
      obtain ⟨z, h3, h4⟩ := i2 v y h1
      exact ⟨z, h3, by omega⟩
    · rcases List.mem_cons.1 ha with rfl | ha
      · obtain ⟨y, h1, h2⟩ := relaxO_does (c := c) b2 hx
        obtain ⟨z, h3, h4⟩ := i2 _ y h1
        exact ⟨z, h3, by omega⟩
      · obtain ⟨y, h1, h2⟩ := relaxO_less (c := c) (a := b) b2 hx
        obtain ⟨z, h3, h4⟩ := i3 a ha y h1
        exact ⟨z, h3, by omega⟩
theorem bellK_props (hs : s < N) (hZ : ∀ a ∈ R, toN a < N) (k : Nat) : SoundO R c s (bellK c R N s k) ∧ SeenO R c s k (bellK c R N s k) := by
  induction k with
  | zero =>
    have hg : ∀ v, getO (startO N s) v = if v = s then some 0 else none := by
      intro v
      unfold startO
      rw [getO_set (by simp; exact hs)]
      split
      · rfl
      · unfold getO; rw [List.getD_eq_getElem?_getD, List.getElem?_replicate]; split <;> rfl
    constructor
    · intro v x hx
      rw [show bellK c R N s 0 = startO N s from rfl, hg] at hx
      split at hx
      · next e => subst e; cases hx; exact reach_self R c v
      · cases hx
    · intro p v hp h hl
      have : p = [] := List.eq_nil_of_length_eq_zero (by omega)
      subst this
      simp only [Chain] at h
      subst h
      exact ⟨0, by rw [show bellK c R N s 0 = startO N s from rfl, hg, if_pos rfl], by simp [costP]⟩
  | succ k ih =>
    have hl := bellK_len (c := c) (R := R) (N := N) (s := s) k
    obtain ⟨r1, r2, r3⟩ := relaxAllO_props R (bellK c R N s k) (fun a ha => ⟨ha, by rw [hl]; exact hZ a ha⟩) ih.1
    refine ⟨r1, fun p v hp h hpl => ?_⟩
    show ∃ x, getO (relaxAllO c R (bellK c R N s k)) v = some x ∧ _
    by_cases hlen : p.length ≤ k
    · obtain ⟨x, h1, h2⟩ := ih.2 p v hp h hlen
      obtain ⟨y, h3, h4⟩ := r2 v x h1
      exact ⟨y, h3, by omega⟩
    · obtain ⟨q, a, rfl, h1, h2⟩ := chain_last h (by rintro rfl; simp at hlen)
      obtain ⟨x, h3, h4⟩ := ih.2 q (frN a) (fun x hx => hp x (by simp [hx])) h1 (by simp at hpl; omega)
      obtain ⟨y, h5, h6⟩ := r3 a (hp a (by simp)) x h3
      subst h2
      refine ⟨y, h5, ?_⟩
      rw [cost_app]
      have : costP c [a] = c a := by simp [costP]
      omega
/-- Along a chain what is told grows by no more than its cost. -/
theorem closed_chain {d : List (Option Int)} (h : ClosedO R c d) : ∀ (p : List ArcT) (u v : Nat) (x : Int), (∀ a ∈ p, a ∈ R) → Chain u p v → getO d u = some x → ∃ y, getO d v = some y ∧ y ≤ x + costP c p
  | [], u, v, x, _, hc, hx => by
    simp only [Chain] at hc
    subst hc
    exact ⟨x, hx, by simp [costP]⟩
  | a :: r, u, v, x, hp, hc, hx => by
    obtain ⟨e1, e2⟩ := hc
    subst e1
    obtain ⟨y, h1, h2⟩ := h a (hp a (by simp)) x hx
    obtain ⟨z, h3, h4⟩ := closed_chain h r _ v y (fun b hb => hp b (by simp [hb])) e2 h1
    refine ⟨z, h3, ?_⟩
    simp only [costP, List.map_cons, List.sum_cons] at h4 ⊢
    omega
/-- A round that changes nothing says: no cycle gains. -/
theorem closed_noGain (hs : s < N) (hZ : ∀ a ∈ R, toN a < N) {k : Nat} (h : ClosedO R c (bellK c R N s k)) : NoGain R c s := by
  intro p q u hp hc hq hcq
  obtain ⟨x, h1, _⟩ := (bellK_props (c := c) hs hZ k).2 [] s (by simp) rfl (Nat.zero_le _)
  obtain ⟨y, h2, _⟩ := closed_chain h p s u x hp hc h1
  obtain ⟨z, h3, h4⟩ := closed_chain h q u u y hq hcq h2
  rw [h2] at h3
  cases h3
  omega
/-- Where no cycle gains, so many rounds as there are nodes do. -/
theorem noGain_closed (hs : s < N) (hZ : ∀ a ∈ R, toN a < N) (h : NoGain R c s) : ClosedO R c (bellK c R N s N) := by
  intro a ha x hx
  obtain ⟨h1, h2⟩ := bellK_props (c := c) (R := R) hs hZ N
  obtain ⟨p, p1, p2, p3⟩ := reach_step (h1 _ x hx) ha
  obtain ⟨q, q1, q2, q3, q4⟩ := shortG hs hZ h p.length p (Nat.le_refl _) p1 p2
  obtain ⟨y, h3, h4⟩ := h2 q _ q2 q3 (by omega)
  exact ⟨y, h3, by omega⟩
/-- The least times, or none. -/
structure IsFarO (R : List ArcT) (c : ArcT → Int) (s N : Nat) (d : List (Option Int)) : Prop where
  len : d.length = N
  at_ : ∀ v, v < N → (getO d v = none ∧ ∀ t, ¬ Reach R c s v t) ∨ (∃ x, getO d v = some x ∧ Reach R c s v x ∧ ∀ t, Reach R c s v t → x ≤ t)
theorem isFarO_of {d : List (Option Int)} (hl : d.length = N) (h1 : SoundO R c s d) (h0 : ∃ x, getO d s = some x ∧ x ≤ 0) (h2 : ClosedO R c d) : IsFarO R c s N d := by
  obtain ⟨x0, e0, l0⟩ := h0
  have key : ∀ v t, Reach R c s v t → ∃ y, getO d v = some y ∧ y ≤ t := by
    rintro v t ⟨p, p1, p2, rfl⟩
    obtain ⟨y, g1, g2⟩ := closed_chain h2 p s v x0 p1 p2 e0
    exact ⟨y, g1, by omega⟩
  refine ⟨hl, fun v hv => ?_⟩
  cases hg : getO d v with
  | none =>
    refine .inl ⟨rfl, fun t ht => ?_⟩
    obtain ⟨y, g1, _⟩ := key v t ht
    rw [hg] at g1; cases g1
  | some x =>
    refine .inr ⟨x, rfl, h1 v x hg, fun t ht => ?_⟩
    obtain ⟨y, g1, g2⟩ := key v t ht
    rw [hg] at g1; cases g1
    exact g2
theorem isFarO_unique {d e : List (Option Int)} (h : IsFarO R c s N d) (k : IsFarO R c s N e) : d = e := by
  apply List.ext_getElem (h.len.trans k.len.symm)
  intro i h1 h2
  have hN : i < N := h.len ▸ h1
  have ed : getO d i = d[i] := by unfold getO; rw [List.getD_eq_getElem?_getD, List.getElem?_eq_getElem h1]; rfl
  have ee : getO e i = e[i] := by unfold getO; rw [List.getD_eq_getElem?_getD, List.getElem?_eq_getElem h2]; rfl
  rw [← ed, ← ee]
  rcases h.at_ i hN with ⟨h3, h4⟩ | ⟨x, h3, h4, h5⟩
  · rcases k.at_ i hN with ⟨k3, k4⟩ | ⟨y, k3, k4, k5⟩
    · rw [h3, k3]
    · exact absurd k4 (h4 _)
  · rcases k.at_ i hN with ⟨k3, k4⟩ | ⟨y, k3, k4, k5⟩
    · exact absurd h4 (k4 _)
    · rw [h3, k3, Int.le_antisymm (h5 _ k4) (k5 _ h4)]
theorem bell_isFar (hs : s < N) (hZ : ∀ a ∈ R, toN a < N) (h : NoGain R c s) : IsFarO R c s N (bellK c R N s N) := by
  obtain ⟨h1, h2⟩ := bellK_props (c := c) (R := R) hs hZ N
  obtain ⟨x, g1, g2⟩ := h2 [] s (by simp) rfl (Nat.zero_le _)
  exact isFarO_of (bellK_len N) h1 ⟨x, g1, by simpa [costP] using g2⟩ (noGain_closed hs hZ h)
/-! Tight numbers -/
def TightP (R : List ArcT) (c : ArcT → Int) (p : Nat → Int) : Prop := ∀ a ∈ R, p (toN a) ≤ p (frN a) + c a
theorem tight_chain {p : Nat → Int} (h : TightP R c p) : ∀ (q : List ArcT) (u v : Nat), (∀ a ∈ q, a ∈ R) → Chain u q v → p v ≤ p u + costP c q
  | [], u, v, _, hc => by simp only [Chain] at hc; subst hc; simp [costP]
  | a :: r, u, v, hq, hc => by
    obtain ⟨e1, e2⟩ := hc
    subst e1
    have h1 := h a (hq a (by simp))
    have h2 := tight_chain h r _ v (fun b hb => hq b (by simp [hb])) e2
    simp only [costP, List.map_cons, List.sum_cons] at h2 ⊢
    omega
theorem tight_noGain {p : Nat → Int} (h : TightP R c p) (s : Nat) : NoGain R c s := fun q r u _ _ hr hc => by
  have := tight_chain h r u u hr hc
  omega
def minL : List Int → Int → Int
  | [], m => m
  | x :: r, m => minL r (min m x)
theorem minL_le : ∀ (l : List Int) (m : Int), minL l m ≤ m ∧ ∀ x ∈ l, minL l m ≤ x
  | [], m => ⟨Int.le_refl _, by simp⟩
  | y :: r, m => by
    obtain ⟨h1, h2⟩ := minL_le r (min m y)
    refine ⟨by show minL r (min m y) ≤ m; omega, fun x hx => ?_⟩
    show minL r (min m y) ≤ x
    rcases List.mem_cons.1 hx with rfl | hx
    · omega
    · exact h2 x hx
theorem minL_is : ∀ (l : List Int) (m : Int), minL l m = m ∨ minL l m ∈ l
  | [], m => .inl rfl
  | y :: r, m => by
    rcases minL_is r (min m y) with h | h
    · by_cases e : m ≤ y
      · left; show minL r (min m y) = m; rw [h]; omega
      · right; have : minL (y :: r) m = y := by show minL r (min m y) = y; rw [h]; omega
        rw [this]; simp
    · right; exact List.mem_cons_of_mem _ h
/-- Where no cycle gains, there are tight numbers. -/
theorem tight_exists (hZ : ∀ a ∈ R, frN a < N ∧ toN a < N) (h : ∀ u, u < N → NoGain R c u) : ∃ p, TightP R c p := by
  let L : Nat → List Int := fun v => (List.range N).filterMap fun u => getO (bellK c R N u N) v
  refine ⟨fun v => minL (L v) 0, fun a ha => ?_⟩
  obtain ⟨hf, ht⟩ := hZ a ha
  have hZ' : ∀ b ∈ R, toN b < N := fun b hb => (hZ b hb).2
  have step : ∀ u, u < N → ∀ x, getO (bellK c R N u N) (frN a) = some x → minL (L (toN a)) 0 ≤ x + c a := by
    intro u hu x hx
    obtain ⟨y, h1, h2⟩ := noGain_closed hu hZ' (h u hu) a ha x hx
    have := (minL_le (L (toN a)) 0).2 y (List.mem_filterMap.2 ⟨u, by simpa using hu, h1⟩)
    omega
  show minL (L (toN a)) 0 ≤ minL (L (frN a)) 0 + c a
  rcases minL_is (L (frN a)) 0 with e | e
  · obtain ⟨x, g1, g2⟩ := (bellK_props (c := c) (R := R) hf hZ' N).2 [] (frN a) (by simp) rfl (Nat.zero_le _)
    have := step (frN a) hf x g1
    simp [costP] at g2
    omega
  · obtain ⟨u, g1, g2⟩ := List.mem_filterMap.1 e
    exact step u (by simpa using g1) _ g2
end
/-! A flow with tight numbers is the cheapest -/
/-- The steps with room, as arcs whose time is the step's. -/
def tmS (Z : List ArcT) (x : StepT) : Int := if x.2 then - tm (arcOf Z x) else tm (arcOf Z x)
def TightF (Z : List ArcT) (f : List Int) (p : Nat → Int) : Prop := ∀ x : StepT, isArc Z x → 0 < leftS Z f x → p (toS Z x) ≤ p (fromS Z x) + tmS Z x
/-- Numbers times balances. -/
def potK (Z : List ArcT) (f : List Int) (p : Nat → Int) : Nat → Int
  | 0 => 0
  | i + 1 => potK Z f p i + match Z[i]? with | some a => atI f i * (p (frN a) - p (toN a)) | none => 0
theorem potK_succ {Z : List ArcT} {f : List Int} {p : Nat → Int} {i : Nat} {a : ArcT} (h : Z[i]? = some a) : potK Z f p (i + 1) = potK Z f p i + atI f i * (p (frN a) - p (toN a)) := by
  show potK Z f p i + _ = _
  rw [h]
theorem sumTo_mul (g : Nat → Int) (k : Int) : ∀ n, sumTo (fun v => g v * k) n = sumTo g n * k
  | 0 => by simp [sumTo]
  | n + 1 => by simp only [sumTo, sumTo_mul g k n, Int.add_mul]
theorem pot_share {a : ArcT} {x : Int} {p : Nat → Int} {N : Nat} (hf : frN a < N) (ht : toN a < N) : sumTo (fun v => p v * share a x v) N = x * (p (frN a) - p (toN a)) := by
  have e : sumTo (fun v => p v * share a x v) N = sumTo (fun v => (if frN a = v then p (frN a) * x else 0) + (- (if toN a = v then p (toN a) * x else 0))) N := sumTo_congr (fun v _ => by
    unfold share
    by_cases h1 : frN a = v
    · subst h1
      by_cases h2 : toN a = frN a
      · rw [if_pos rfl, if_pos h2, if_pos rfl, if_pos h2, h2]; simp; omega
      · rw [if_pos rfl, if_neg h2, if_pos rfl, if_neg h2]; simp
    · by_cases h2 : toN a = v
      · subst h2; rw [if_neg h1, if_pos rfl, if_neg h1, if_pos rfl]; simp [Int.mul_neg]
      · rw [if_neg h1, if_neg h2, if_neg h1, if_neg h2]; simp)
  rw [e, sumTo_add, sumTo_neg, sumTo_one, sumTo_one, if_pos hf, if_pos ht, Int.mul_sub, Int.mul_comm x, Int.mul_comm x]
  omega
theorem pot_sum {Z : List ArcT} {f : List Int} {p : Nat → Int} {N : Nat} (hZ : ∀ a ∈ Z, frN a < N ∧ toN a < N) : ∀ i, sumTo (fun v => p v * balK Z f v i) N = potK Z f p i
  | 0 => by
    rw [sumTo_congr (h := fun _ => 0) (fun v _ => by simp [balK])]
    exact sumTo_zero N
  | i + 1 => by
    cases hz : Z[i]? with
    | none =>
      rw [sumTo_congr (h := fun v => p v * balK Z f v i) (fun v _ => by
        have e : balK Z f v (i + 1) = balK Z f v i := by show balK Z f v i + _ = _; rw [hz]; simp
        rw [e]), pot_sum hZ i]
      show _ = potK Z f p i + _
      rw [hz]; simp
    | some a =>
      have ha := hZ a (List.mem_of_getElem? hz)
      rw [sumTo_congr (h := fun v => p v * balK Z f v i + p v * share a (atI f i) v) (fun v _ => by rw [balK_succ hz, Int.mul_add]), sumTo_add, pot_sum hZ i, pot_share ha.1 ha.2, potK_succ hz]
/-- What another flow costs more is no less than what the numbers say of the balances. -/
theorem dual_cost {Z : List ArcT} {f g : List Int} {p : Nat → Int} (hf : Flow Z f) (hg : Flow Z g) (hp : TightF Z f p) : ∀ i, costK Z f i + potK Z f p i ≤ costK Z g i + potK Z g p i
  | 0 => Int.le_refl _
  | i + 1 => by
    have ih := dual_cost hf hg hp i
    cases hz : Z[i]? with
    | none =>
      show costK Z f i + _ + (potK Z f p i + _) ≤ costK Z g i + _ + (potK Z g p i + _)
      rw [hz]
      simpa using ih
    | some a =>
      rw [costK_succ hz, costK_succ hz, potK_succ hz, potK_succ hz]
      have hlt : i < Z.length := (List.getElem?_eq_some_iff.1 hz).1
      have h1 := hf.2 i a hz
      have h2 := hg.2 i a hz
      have ea : ∀ b : Bool, arcOf Z ((i : Int), b) = a := by
        intro b; unfold arcOf; rw [Int.toNat_natCast, List.getD_eq_getElem?_getD, hz]; rfl
      have hx : ∀ b : Bool, isArc Z ((i : Int), b) := fun b => ⟨by simp, by simp only; omega⟩
      have along : atI f i < capN a → p (toN a) ≤ p (frN a) + tm a := fun h => by
        have := hp ((i : Int), false) (hx false) (by unfold leftS; simp only [Bool.false_eq_true, if_false, Int.toNat_natCast, ea]; omega)
        unfold toS fromS tmS at this
        simpa only [Bool.false_eq_true, if_false, ea] using this
      have back : 0 < atI f i → p (frN a) ≤ p (toN a) - tm a := fun h => by
        have := hp ((i : Int), true) (hx true) (by unfold leftS; simp only [if_true, Int.toNat_natCast]; exact h)
        unfold toS fromS tmS at this
        simp only [if_true, ea] at this
        omega
      have key : 0 ≤ (atI g i - atI f i) * (tm a + (p (frN a) - p (toN a))) := by
        rcases Int.lt_trichotomy (atI g i) (atI f i) with h | h | h
        · have h3 := back (by omega)
          exact Int.mul_nonneg_of_nonpos_of_nonpos (by omega) (by omega)
        · rw [h]; simp
        · have h3 := along (by omega)
          exact Int.mul_nonneg (by omega) (by omega)
      have ex : (atI g i - atI f i) * (tm a + (p (frN a) - p (toN a))) = (atI g i * tm a + atI g i * (p (frN a) - p (toN a))) - (atI f i * tm a + atI f i * (p (frN a) - p (toN a))) := by
        rw [Int.sub_mul, Int.mul_add, Int.mul_add]
      omega
theorem cheapest {Z : List ArcT} {N : Nat} {f g : List Int} {p : Nat → Int} (hZ : ∀ a ∈ Z, frN a < N ∧ toN a < N) (hf : Flow Z f) (hg : Flow Z g) (hp : TightF Z f p) (hb : ∀ v, v < N → bal Z f v = bal Z g v) : costK Z f Z.length ≤ costK Z g Z.length := by
  have h1 := dual_cost hf hg hp Z.length
  have h2 : potK Z f p Z.length = potK Z g p Z.length := by
    rw [← pot_sum hZ Z.length, ← pot_sum hZ Z.length]
    exact sumTo_congr (fun v hv => by have := hb v hv; unfold bal at this; rw [this])
  omega
/-- The same with the value: where the sink is told so much later than the source. -/
theorem dual_value {Z : List ArcT} {N s t : Nat} {f g : List Int} {p : Nat → Int} {k m : Int} (hZ : ∀ a ∈ Z, frN a < N ∧ toN a < N) (hs : s < N) (ht : t < N) (hne : s ≠ t) (hf : FlowST Z N s t f k) (hg : FlowST Z N s t g m) (hp : TightF Z f p) : costK Z f Z.length + (p s - p t) * k ≤ costK Z g Z.length + (p s - p t) * m := by
  have h1 := dual_cost hf.1 hg.1 hp Z.length
  have val : ∀ (h : List Int) (n : Int), FlowST Z N s t h n → potK Z h p Z.length = (p s - p t) * n := by
    intro h n hh
    have h2 := bal_sum (Z := Z) (f := h) hZ
    have h3 := sum_two (g := bal Z h) hs ht hne hh.2.1
    have h4 : bal Z h t = - n := by have := hh.2.2; omega
    rw [← pot_sum hZ Z.length, sum_two (g := fun v => p v * balK Z h v Z.length) hs ht hne (fun v hv a b => by have := hh.2.1 v hv a b; unfold bal at this; rw [this]; simp)]
    show p s * bal Z h s + p t * bal Z h t = _
    rw [hh.2.2, h4, Int.sub_mul, Int.mul_neg]
    omega
  rw [val f k hf, val g m hg] at h1
  exact h1
end Go.Proofs.Ytbkmfjegbmjknaa

namespace Go.Proofs.Ytbkmfjegbmjknaa
set_option linter.unusedVariables false

/-- A step that takes just so long as the numbers say. -/
def EvenS (Z : List ArcT) (p : Nat → Int) (x : StepT) : Prop := p (toS Z x) = p (fromS Z x) + tmS Z x
theorem even_flip {Z : List ArcT} {p : Nat → Int} {x : StepT} (h : EvenS Z p x) : EvenS Z p (flipS x) := by
  unfold EvenS toS fromS tmS at *
  have e : arcOf Z (flipS x) = arcOf Z x := rfl
  rw [e]
  cases hb : x.2 <;> simp [flipS, hb] at h ⊢ <;> omega
theorem tight_stepTo {Z : List ArcT} {f : List Int} {p : Nat → Int} {k : Int} {x : StepT} (hl : f.length = Z.length) (h : TightF Z f p) (hx : isArc Z x) (he : EvenS Z p x) : TightF Z (stepTo k f x) p := by
  intro y hy hr
  have hlt : x.1.toNat < f.length := by unfold isArc at hx; omega
  by_cases e : y.1 = x.1
  · have : y = x ∨ y = flipS x := by
      obtain ⟨y1, y2⟩ := y
      obtain ⟨x1, x2⟩ := x
      simp only at e
      subst e
      cases y2 <;> cases x2 <;> simp [flipS]
    rcases this with rfl | rfl
    · exact Int.le_of_eq he
    · exact Int.le_of_eq (even_flip he)
  · have e2 : y.1.toNat ≠ x.1.toNat := by unfold isArc at hx hy; omega
    apply h y hy
    unfold leftS at hr ⊢
    rw [stepTo_at hlt, if_neg e2] at hr
    exact hr
theorem tight_push {Z : List ArcT} {p : Nat → Int} {k : Int} : ∀ (l : List StepT) (f : List Int), f.length = Z.length → TightF Z f p → (∀ x ∈ l, EvenS Z p x) → (pushL Z k f l).1 = 0 → TightF Z (pushL Z k f l).2 p
  | [], f, _, h, _, _ => h
  | x :: r, f, hl, h, he, h0 => by
    have hx : isArc Z x := Classical.byContradiction fun hx => by unfold pushL at h0; rw [if_neg hx] at h0; cases h0
    have hlx : ¬ leftS Z f x < k := fun hl => by unfold pushL at h0; rw [if_pos hx, if_pos hl] at h0; cases h0
    have e : pushL Z k f (x :: r) = pushL Z k (stepTo k f x) r := by show (if _ then _ else _) = _; rw [if_pos hx, if_neg hlx]
    rw [e] at h0 ⊢
    exact tight_push r _ (by rw [stepTo_len]; exact hl) (tight_stepTo hl h hx (he x (by simp))) (fun y hy => he y (by simp [hy])) h0
/-- Nothing is worth more: numbers that are tight on both sides of the horizon show it. -/
theorem worth_top {Z : List ArcT} {N s t : Nat} {f g : List Int} {p q : Nat → Int} {k m H : Int} (hZ : ∀ a ∈ Z, frN a < N ∧ toN a < N) (hs : s < N) (ht : t < N) (hne : s ≠ t) (hf : FlowST Z N s t f k) (hg : FlowST Z N s t g m)
    (hp : TightF Z f p) (hq : TightF Z f q) (h1 : p t - p s ≤ H) (h2 : H ≤ q t - q s) : H * m - costK Z g Z.length ≤ H * k - costK Z f Z.length := by
  have a1 := dual_value hZ hs ht hne hf hg hp
  have a2 := dual_value hZ hs ht hne hf hg hq
  have e1 : (p s - p t) * k - (p s - p t) * m = (p t - p s) * (m - k) := by rw [Int.mul_sub, Int.sub_mul, Int.sub_mul, Int.sub_mul, Int.sub_mul]; omega
  have e2 : (q s - q t) * k - (q s - q t) * m = (q t - q s) * (m - k) := by rw [Int.mul_sub, Int.sub_mul, Int.sub_mul, Int.sub_mul, Int.sub_mul]; omega
  have e3 : H * (m - k) = H * m - H * k := Int.mul_sub ..
  by_cases h : k ≤ m
  · have := Int.mul_le_mul_of_nonneg_right h2 (show 0 ≤ m - k by omega)
    omega
  · have := Int.mul_le_mul_of_nonpos_right h1 (show m - k ≤ 0 by omega)
    omega
/-- Of nothing at all the numbers 0 are tight. -/
theorem tight_zero {Z : List ArcT} {f : List Int} (h : ∀ i, atI f i = 0) (ht : ∀ a ∈ Z, 0 ≤ tm a) : TightF Z f (fun _ => 0) := by
  intro x hx hr
  have ha := List.mem_of_getElem? (arcOf_at hx)
  have := ht _ ha
  unfold leftS at hr
  rw [h] at hr
  unfold tmS
  cases hb : x.2 <;> simp [hb] at hr ⊢
  exact this
theorem bound_list (L : List Int) : ∃ M, ∀ x ∈ L, x ≤ M := by
  induction L with
  | nil => exact ⟨0, by simp⟩
  | cons y r ih =>
    obtain ⟨M, h⟩ := ih
    refine ⟨max M y, fun x hx => ?_⟩
    rcases List.mem_cons.1 hx with rfl | hx
    · omega
    · have := h x hx; omega
/-- Least times are tight; nodes that are not come to can be told as late as one likes. -/
theorem far_tight {R : List ArcT} {c : ArcT → Int} {s N : Nat} {d : List (Option Int)} {q : Nat → Int} (hZ : ∀ a ∈ R, frN a < N ∧ toN a < N) (hd : ClosedO R c d) (hq : TightP R c q) (B : Int) :
    ∃ p, TightP R c p ∧ (∀ v x, getO d v = some x → p v = x) ∧ ∀ v, v < N → getO d v = none → B ≤ p v := by
  obtain ⟨M1, h1⟩ := bound_list (R.map fun a => (getO d (toN a)).getD 0 - q (frN a) - c a)
  obtain ⟨M2, h2⟩ := bound_list ((List.range N).map fun v => B - q v)
  refine ⟨fun v => match getO d v with | some x => x | none => q v + max M1 M2, fun a ha => ?_, fun v x hx => by simp [hx], fun v hv hn => ?_⟩
  · simp only
    have b1 := h1 _ (List.mem_map.2 ⟨a, ha, rfl⟩)
    cases hf : getO d (frN a) with
    | some x =>
      obtain ⟨y, g1, g2⟩ := hd a ha x hf
      rw [g1]
      exact g2
    | none =>
      cases ht : getO d (toN a) with
      | some y =>
        rw [ht] at b1
        simp only [Option.getD_some] at b1 ⊢
        omega
      | none =>
        simp only
        have := hq a ha
        omega
  · have b2 := h2 _ (List.mem_map.2 ⟨v, by simpa using hv, rfl⟩)
    simp only [hn]
    omega
end Go.Proofs.Ytbkmfjegbmjknaa

namespace Go.Proofs.Ytbkmfjegbmjknaa
set_option linter.unusedVariables false

/-- The steps along arcs that have something. -/
def alongK (f : List Int) : Nat → List StepT
  | 0 => []
  | i + 1 => alongK f i ++ if 0 < atI f i then [((i : Int), false)] else []
theorem alongK_mem {f : List Int} {x : StepT} : ∀ {i}, x ∈ alongK f i ↔ x.2 = false ∧ 0 ≤ x.1 ∧ x.1 < (i : Int) ∧ 0 < atI f x.1.toNat
  | 0 => by
    constructor
    · intro h; cases h
    · rintro ⟨_, h1, h2, _⟩; omega
  | i + 1 => by
    show x ∈ alongK f i ++ _ ↔ _
    rw [List.mem_append, alongK_mem]
    constructor
    · rintro (⟨h1, h2, h3, h4⟩ | h)
      · exact ⟨h1, h2, by omega, h4⟩
      · split at h
        · next hc =>
          rw [List.mem_singleton] at h
          subst h
          exact ⟨rfl, by simp, by simp only; omega, by simpa using hc⟩
        · cases h
    · rintro ⟨h1, h2, h3, h4⟩
      by_cases hx : x.1 < (i : Int)
      · exact .inl ⟨h1, h2, hx, h4⟩
      · right
        have he : x.1 = (i : Int) := by omega
        obtain ⟨y, q⟩ := x
        simp only at he h1
        subst he
        subst h1
        rw [if_pos (by simpa using h4)]
        simp
def alongL (f : List Int) : List StepT := alongK f f.length
theorem along_arc {Z : List ArcT} {f : List Int} (hf : f.length = Z.length) {x : StepT} (h : x ∈ alongL f) : isArc Z x ∧ x.2 = false ∧ 0 < atI f x.1.toNat := by
  obtain ⟨h1, h2, h3, h4⟩ := alongK_mem.1 h
  exact ⟨⟨h2, by omega⟩, h1, h4⟩
theorem along_mk {Z : List ArcT} {f : List Int} (hf : f.length = Z.length) {x : StepT} (h : isArc Z x) (h2 : x.2 = false) (h3 : 0 < atI f x.1.toNat) : x ∈ alongL f := alongK_mem.2 ⟨h2, h.1, by have := h.2; omega, h3⟩
theorem along_to {Z : List ArcT} {f : List Int} {N : Nat} (hZ : ∀ a ∈ Z, frN a < N ∧ toN a < N) (hf : f.length = Z.length) : ∀ x ∈ alongL f, toS Z x < N ∧ fromS Z x < N := by
  intro x hx
  obtain ⟨h1, h2, _⟩ := along_arc hf hx
  have ha := hZ _ (List.mem_of_getElem? (arcOf_at h1))
  unfold toS fromS
  rw [h2]
  simp only [Bool.false_eq_true, if_false]
  exact ⟨ha.2, ha.1⟩
/-! What is taken away -/
/-- So much less along each of these arcs. -/
def takeK (k : Int) (f : List Int) (l : List StepT) : List Int := l.foldl (fun f x => f.set x.1.toNat (atI f x.1.toNat - k)) f
theorem takeK_len (k : Int) : ∀ (l : List StepT) (f : List Int), (takeK k f l).length = f.length
  | [], f => rfl
  | x :: r, f => by
    show (takeK k _ r).length = _
    rw [takeK_len k r]; simp
theorem takeK_other {k : Int} {i : Nat} : ∀ (l : List StepT) (f : List Int), (∀ x ∈ l, x.1.toNat < f.length ∧ x.1.toNat ≠ i) → atI (takeK k f l) i = atI f i
  | [], f, _ => rfl
  | x :: r, f, h => by
    obtain ⟨h1, h2⟩ := h x (by simp)
    show atI (takeK k _ r) i = _
    rw [takeK_other r _ (fun y hy => by have := h y (by simp [hy]); exact ⟨by simpa using this.1, this.2⟩), atI_set h1, if_neg (fun e => h2 e.symm)]
theorem takeK_at {k : Int} : ∀ (l : List StepT) (f : List Int), (∀ x ∈ l, x.1.toNat < f.length) → (l.map fun x => x.1.toNat).Nodup → ∀ x ∈ l, atI (takeK k f l) x.1.toNat = atI f x.1.toNat - k
  | [], f, _, _, x, hx => by cases hx
  | y :: r, f, hl, hn, x, hx => by
    rw [List.map_cons, List.nodup_cons] at hn
    show atI (takeK k (f.set _ _) r) _ = _
    rcases List.mem_cons.1 hx with rfl | hx
    · rw [takeK_other r _ (fun z hz => ⟨by have := hl z (by simp [hz]); simpa using this, fun e => hn.1 (by rw [List.mem_map]; exact ⟨z, hz, e⟩)⟩), atI_set (hl x (by simp)), if_pos rfl]
    · rw [takeK_at r _ (fun z hz => by have := hl z (by simp [hz]); simpa using this) hn.2 x hx, atI_set (hl y (by simp)), if_neg (fun e => hn.1 (by rw [List.mem_map]; exact ⟨x, hx, e⟩))]
theorem toNat_nodup {Z : List ArcT} {l : List StepT} (h : ∀ x ∈ l, isArc Z x) (hn : (l.map fun x => x.1).Nodup) : (l.map fun x => x.1.toNat).Nodup := by
  induction l with
  | nil => exact List.nodup_nil
  | cons x r ih =>
    rw [List.map_cons, List.nodup_cons] at hn ⊢
    refine ⟨fun hm => ?_, ih (fun y hy => h y (by simp [hy])) hn.2⟩
    obtain ⟨y, hy, e⟩ := List.mem_map.1 hm
    have h1 := (h x (by simp)).1
    have h2 := (h y (by simp [hy])).1
    exact hn.1 (by rw [List.mem_map]; exact ⟨y, hy, by omega⟩)
/-- The least that an arc of a way has. -/
def leastK (f : List Int) : List StepT → Int
  | [] => 0
  | x :: r => r.foldl (fun k y => min k (atI f y.1.toNat)) (atI f x.1.toNat)
theorem minF_le {f : List Int} : ∀ (l : List StepT) (k : Int), l.foldl (fun k y => min k (atI f y.1.toNat)) k ≤ k ∧ ∀ x ∈ l, l.foldl (fun k y => min k (atI f y.1.toNat)) k ≤ atI f x.1.toNat
  | [], k => ⟨Int.le_refl _, fun x hx => (by cases hx)⟩
  | y :: r, k => by
    obtain ⟨h1, h2⟩ := minF_le (f := f) r (min k (atI f y.1.toNat))
    rw [List.foldl_cons]
    refine ⟨by omega, fun x hx => ?_⟩
    rcases List.mem_cons.1 hx with rfl | hx
    · omega
    · exact h2 x hx
theorem minF_is {f : List Int} : ∀ (l : List StepT) (k : Int), l.foldl (fun k y => min k (atI f y.1.toNat)) k = k ∨ ∃ x ∈ l, l.foldl (fun k y => min k (atI f y.1.toNat)) k = atI f x.1.toNat
  | [], k => .inl rfl
  | y :: r, k => by
    rw [List.foldl_cons]
    rcases minF_is (f := f) r (min k (atI f y.1.toNat)) with h | ⟨x, hx, h⟩
    · rw [h]
      rcases Int.le_total k (atI f y.1.toNat) with h2 | h2
      · exact .inl (by omega)
      · exact .inr ⟨y, by simp, by omega⟩
    · exact .inr ⟨x, by simp [hx], h⟩
theorem least_le {f : List Int} : ∀ {l : List StepT}, ∀ x ∈ l, leastK f l ≤ atI f x.1.toNat
  | [], x, hx => by cases hx
  | y :: r, x, hx => by
    obtain ⟨h1, h2⟩ := minF_le (f := f) r (atI f y.1.toNat)
    rcases List.mem_cons.1 hx with rfl | hx
    · exact h1
    · exact h2 x hx
theorem least_is {f : List Int} : ∀ {l : List StepT}, l ≠ [] → ∃ x ∈ l, leastK f l = atI f x.1.toNat
  | [], h => absurd rfl h
  | y :: r, _ => by
    rcases minF_is (f := f) r (atI f y.1.toNat) with h | ⟨x, hx, h⟩
    · exact ⟨y, by simp, h⟩
    · exact ⟨x, by simp [hx], h⟩
/-! Balances behind it -/
theorem bal_setArc {Z : List ArcT} {f : List Int} {x : StepT} (hf : f.length = Z.length) (hx : isArc Z x) (hq : x.2 = false) (k : Int) (w : Nat) : bal Z (f.set x.1.toNat (atI f x.1.toNat - k)) w = bal Z f w - (if fromS Z x = w then k else 0) + (if toS Z x = w then k else 0) := by
  have e : f.set x.1.toNat (atI f x.1.toNat - k) = stepTo k f (flipS x) := by
    unfold stepTo flipS
    rw [hq]
    rfl
  have h1 := bal_step (k := k) (x := flipS x) hf hx w
  rw [e, h1]
  have e1 : fromS Z (flipS x) = toS Z x := by unfold fromS toS flipS arcOf; rw [hq]; rfl
  have e2 : toS Z (flipS x) = fromS Z x := by unfold fromS toS flipS arcOf; rw [hq]; rfl
  rw [e1, e2]
  omega
/-- Along a trail of arcs the ends' balances alone change. -/
theorem take_bal {Z : List ArcT} {k : Int} (w : Nat) : ∀ (l : List StepT) (f : List Int) (u v : Nat), f.length = Z.length → (∀ x ∈ l, x.2 = false) → Trail Z u l v → bal Z (takeK k f l) w = bal Z f w - (if u = w then k else 0) + (if v = w then k else 0)
  | [], f, u, v, _, _, h => by
    simp only [Trail] at h
    subst h
    show bal Z f w = _
    omega
  | x :: r, f, u, v, hf, hq, h => by
    obtain ⟨h1, h2, h3⟩ := h
    show bal Z (takeK k (f.set _ _) r) w = _
    rw [take_bal w r _ _ v (by simpa using hf) (fun y hy => hq y (by simp [hy])) h3, bal_setArc hf h2 (hq x (by simp)), h1]
    omega
theorem take_flow {Z : List ArcT} {f : List Int} {l : List StepT} {k : Int} (hf : Flow Z f) (hl : ∀ x ∈ l, isArc Z x ∧ k ≤ atI f x.1.toNat) (hn : (l.map fun x => x.1).Nodup) (hk : 0 ≤ k) : Flow Z (takeK k f l) := by
  refine ⟨by rw [takeK_len]; exact hf.1, fun i a hi => ?_⟩
  have hb := hf.2 i a hi
  have hlen : ∀ x ∈ l, x.1.toNat < f.length := fun x hx => by rw [hf.1]; exact (List.getElem?_eq_some_iff.1 (arcOf_at (hl x hx).1)).1
  by_cases hm : ∃ x ∈ l, x.1.toNat = i
  · obtain ⟨x, hx, rfl⟩ := hm
    rw [takeK_at l f hlen (toNat_nodup (fun y hy => (hl y hy).1) hn) x hx]
    have := (hl x hx).2
    omega
  · rw [takeK_other l f (fun x hx => ⟨hlen x hx, fun e => hm ⟨x, hx, e⟩⟩)]
    exact hb
/-! How many arcs have something -/
def posK (f : List Int) : Nat → Nat
  | 0 => 0
  | i + 1 => posK f i + if 0 < atI f i then 1 else 0
theorem posK_le (f : List Int) : ∀ i, posK f i ≤ i
  | 0 => Nat.le_refl _
  | i + 1 => by
    have := posK_le f i
    show posK f i + _ ≤ _
    split <;> omega
theorem posK_mono {f g : List Int} (h : ∀ i, 0 < atI g i → 0 < atI f i) : ∀ i, posK g i ≤ posK f i
  | 0 => Nat.le_refl _
  | i + 1 => by
    have ih := posK_mono h i
    show posK g i + _ ≤ posK f i + _
    by_cases h1 : 0 < atI g i
    · rw [if_pos h1, if_pos (h i h1)]; omega
    · rw [if_neg h1]; split <;> omega
theorem posK_less {f g : List Int} (h : ∀ i, 0 < atI g i → 0 < atI f i) {j : Nat} (hj : 0 < atI f j) (hg : ¬ 0 < atI g j) : ∀ i, j < i → posK g i < posK f i
  | 0, hi => by omega
  | i + 1, hi => by
    show posK g i + _ < posK f i + _
    by_cases e : j = i
    · subst e
      have := posK_mono h j
      rw [if_pos hj, if_neg hg]; omega
    · have ih := posK_less h hj hg i (by omega)
      by_cases h1 : 0 < atI g i
      · rw [if_pos h1, if_pos (h i h1)]; omega
      · rw [if_neg h1]; split <;> omega
/-- A way along which something goes, and the least of it taken away. -/
structure Takes (Z : List ArcT) (f : List Int) (u v : Nat) (l : List StepT) : Prop where
  trail : Trail Z u l v
  some : l ≠ []
  mem : ∀ x ∈ l, x ∈ alongL f
  once : (l.map fun x => x.1).Nodup
  ends : (l.map (toS Z)).Nodup
  head : u ≠ v → u ∉ l.map (toS Z)
theorem Takes.props {Z : List ArcT} {f : List Int} {u v : Nat} {l : List StepT} (h : Takes Z f u v l) (hf : Flow Z f) :
    1 ≤ leastK f l ∧ Flow Z (takeK (leastK f l) f l) ∧ (∀ w, bal Z (takeK (leastK f l) f l) w = bal Z f w - (if u = w then leastK f l else 0) + (if v = w then leastK f l else 0)) ∧ (∀ i, 0 < atI (takeK (leastK f l) f l) i → 0 < atI f i) ∧ posK (takeK (leastK f l) f l) f.length < posK f f.length := by
  have hm := fun x hx => along_arc hf.1 (h.mem x hx)
  obtain ⟨z, hz, ez⟩ := least_is (f := f) h.some
  have h1 : 1 ≤ leastK f l := by rw [ez]; have := (hm z hz).2.2; omega
  have hlen : ∀ x ∈ l, x.1.toNat < f.length := fun x hx => by rw [hf.1]; exact (List.getElem?_eq_some_iff.1 (arcOf_at (hm x hx).1)).1
  have hn := toNat_nodup (fun y hy => (hm y hy).1) h.once
  have hpos : ∀ i, 0 < atI (takeK (leastK f l) f l) i → 0 < atI f i := by
    intro i hi
    by_cases he : ∃ x ∈ l, x.1.toNat = i
    · obtain ⟨x, hx, rfl⟩ := he
      exact (hm x hx).2.2
    · rw [takeK_other l f (fun x hx => ⟨hlen x hx, fun e => he ⟨x, hx, e⟩⟩)] at hi
      exact hi
  refine ⟨h1, take_flow hf (fun x hx => ⟨(hm x hx).1, least_le x hx⟩) h.once (by omega), fun w => take_bal w l f u v hf.1 (fun x hx => (hm x hx).2.1) h.trail, hpos, ?_⟩
  refine posK_less hpos (j := z.1.toNat) (hm z hz).2.2 ?_ _ (hlen z hz)
  rw [takeK_at l f hlen hn z hz, ez]
  omega
/-- A way along the rest, as the search finds it. -/
theorem way_takes {Z : List ArcT} {f : List Int} {N s t : Nat} {l : List StepT} (hZ : ∀ a ∈ Z, frN a < N ∧ toN a < N) (hf : f.length = Z.length) (hs : s < N) (hne : s ≠ t) (h : wayK (fromS Z) (toS Z) (alongL f) N s t = some l) : Takes Z f s t l := by
  obtain ⟨w1, w2, w3, w4⟩ := way_props hs (fun y hy => (along_to hZ hf y hy).1) h
  refine ⟨walk_trail w1 (fun x hx => (along_arc hf (w2 x hx)).1), ?_, w2, arcs_nodup w1 w3 w4, w3, fun _ => w4⟩
  rintro rfl
  exact hne w1
/-- .. and with an arc ahead of it that leads back: a cycle. -/
theorem cycle_takes {Z : List ArcT} {f : List Int} {N : Nat} {x : StepT} {l : List StepT} (hZ : ∀ a ∈ Z, frN a < N ∧ toN a < N) (hf : f.length = Z.length) (hx : x ∈ alongL f) (hne : toS Z x ≠ fromS Z x) (h : wayK (fromS Z) (toS Z) (alongL f) N (toS Z x) (fromS Z x) = some l) : Takes Z f (fromS Z x) (fromS Z x) (x :: l) := by
  obtain ⟨w1, w2, w3, w4⟩ := way_props (along_to hZ hf x hx).1 (fun y hy => (along_to hZ hf y hy).1) h
  have hxa := along_arc hf hx
  refine ⟨⟨rfl, hxa.1, walk_trail w1 (fun y hy => (along_arc hf (w2 y hy)).1)⟩, by simp, ?_, ?_, by rw [List.map_cons, List.nodup_cons]; exact ⟨w4, w3⟩, fun h => absurd rfl h⟩
  · intro y hy
    rcases List.mem_cons.1 hy with rfl | hy
    · exact hx
    · exact w2 y hy
  · rw [List.map_cons, List.nodup_cons]
    refine ⟨fun hm => ?_, arcs_nodup w1 w3 w4⟩
    obtain ⟨y, hy, e⟩ := List.mem_map.1 hm
    apply w4
    rw [List.mem_map]
    refine ⟨y, hy, ?_⟩
    have hya := along_arc hf (w2 y hy)
    unfold toS
    rw [hya.2.1, hxa.2.1]
    have ea : arcOf Z y = arcOf Z x := by unfold arcOf; rw [e]
    rw [ea]
theorem loop_takes {Z : List ArcT} {f : List Int} {x : StepT} (hf : f.length = Z.length) (hx : x ∈ alongL f) (he : toS Z x = fromS Z x) : Takes Z f (fromS Z x) (fromS Z x) [x] := by
  refine ⟨⟨rfl, (along_arc hf hx).1, he⟩, by simp, ?_, by simp, by simp, fun h => absurd rfl h⟩
  intro y hy
  rw [List.mem_singleton] at hy
  subst hy
  exact hx
end Go.Proofs.Ytbkmfjegbmjknaa

namespace Go.Proofs.Ytbkmfjegbmjknaa
set_option linter.unusedVariables false

/-! When nothing is left -/
theorem cross_closed {Z : List ArcT} {f : List Int} {S : Nat → Bool} (hf : Flow Z f) (h : ∀ i a, Z[i]? = some a → outS S a = true → atI f i = 0) : ∀ n, crossK Z f S n ≤ 0 ∧ ∀ j a, j < n → Z[j]? = some a → intoS S a = true → crossK Z f S n ≤ - atI f j
  | 0 => ⟨by simp [crossK], fun j a hj => (by omega)⟩
  | n + 1 => by
    obtain ⟨ih1, ih2⟩ := cross_closed hf h n
    cases hz : Z[n]? with
    | none =>
      have e : crossK Z f S (n + 1) = crossK Z f S n := by show crossK Z f S n + _ = _; rw [hz]; simp
      rw [e]
      refine ⟨ih1, fun j a hj ha hi => ?_⟩
      have : j ≠ n := by rintro rfl; rw [hz] at ha; cases ha
      exact ih2 j a (by omega) ha hi
    | some a =>
      rw [crossK_succ hz]
      have hb := hf.2 n a hz
      have h0 : (if outS S a = true then atI f n else 0) = 0 := by
        split
        · next ho => exact h n a hz ho
        · rfl
      rw [h0]
      refine ⟨by split <;> omega, fun j c hj hc hi => ?_⟩
      by_cases e : j = n
      · subst e
        rw [hz] at hc
        cases hc
        rw [if_pos hi]
        omega
      · have := ih2 j c (by omega) hc hi
        split <;> omega
theorem two_sum {g : Nat → Int} {S : Nat → Bool} {N s t : Nat} (hs : s < N) (ht : t < N) (hne : s ≠ t) (h : ∀ v, v < N → v ≠ s → v ≠ t → g v = 0) : sumTo (fun v => if S v then g v else 0) N = (if S s then g s else 0) + (if S t then g t else 0) := by
  exact sum_two (g := fun v => if S v then g v else 0) hs ht hne (fun v hv h1 h2 => by simp only [h v hv h1 h2]; split <;> rfl)
theorem flow_sink {Z : List ArcT} {N s t : Nat} {f : List Int} {k : Int} (hZ : ∀ a ∈ Z, frN a < N ∧ toN a < N) (hs : s < N) (ht : t < N) (hne : s ≠ t) (h : FlowST Z N s t f k) : bal Z f t = - k := by
  have h1 := sum_two (g := bal Z f) hs ht hne h.2.1
  rw [bal_sum hZ, h.2.2] at h1
  omega
/-- No cycle is left along which something goes. -/
def NoCyc (Z : List ArcT) (N : Nat) (f : List Int) : Prop := ∀ x ∈ alongL f, toS Z x ≠ fromS Z x ∧ wayK (fromS Z) (toS Z) (alongL f) N (toS Z x) (fromS Z x) = none
theorem found_cross {Z : List ArcT} {N u : Nat} {f : List Int} (hZ : ∀ a ∈ Z, frN a < N ∧ toN a < N) (hf : Flow Z f) (hu : u < N) : ∀ i a, Z[i]? = some a → outS (foundB (seekK (fromS Z) (toS Z) (alongL f) u N)) a = true → atI f i = 0 := by
  intro i a hi ho
  have hS := seek_full (fr := fromS Z) hu (fun y hy => (along_to hZ hf.1 y hy).1)
  refine Classical.byContradiction fun hne => ?_
  have hb := hf.2 i a hi
  have hlt : i < Z.length := (List.getElem?_eq_some_iff.1 hi).1
  have hx : isArc Z ((i : Int), false) := ⟨by simp, by simp only; omega⟩
  have ea : arcOf Z ((i : Int), false) = a := by unfold arcOf; rw [Int.toNat_natCast, List.getD_eq_getElem?_getD, hi]; rfl
  unfold outS at ho
  simp only [Bool.and_eq_true, Bool.not_eq_true'] at ho
  have e1 : fromS Z ((i : Int), false) = frN a := by unfold fromS; simp only [Bool.false_eq_true, if_false, ea]
  have e2 : toS Z ((i : Int), false) = toN a := by unfold toS; simp only [Bool.false_eq_true, if_false, ea]
  have := found_closed hS ((i : Int), false) (along_mk hf.1 hx rfl (by simp only [Int.toNat_natCast]; omega)) (by rw [e1]; exact ho.1)
  rw [e2, ho.2] at this
  cases this
theorem rest_nothing {Z : List ArcT} {N s t : Nat} {f : List Int} {k : Int} (hZ : ∀ a ∈ Z, frN a < N ∧ toN a < N) (hs : s < N) (ht : t < N) (hne : s ≠ t) (hk : 0 ≤ k) (h : FlowST Z N s t f k) (hc : NoCyc Z N f) (hw : wayK (fromS Z) (toS Z) (alongL f) N s t = none) : ∀ i, atI f i = 0 := by
  intro i
  refine Classical.byContradiction fun hne2 => ?_
  have hf := h.1
  have hlt : i < Z.length := by
    refine Classical.byContradiction fun hge => hne2 ?_
    unfold atI
    rw [List.getD_eq_getElem?_getD, List.getElem?_eq_none (by rw [hf.1]; omega)]
    rfl
  have hi : Z[i]? = some Z[i] := List.getElem?_eq_getElem hlt
  have hb := hf.2 i _ hi
  have hpos : 0 < atI f i := by omega
  have hx : isArc Z ((i : Int), false) := ⟨by simp, by simp only; omega⟩
  have hm : ((i : Int), false) ∈ alongL f := along_mk hf.1 hx rfl (by simpa using hpos)
  have ea : arcOf Z ((i : Int), false) = Z[i] := by unfold arcOf; rw [Int.toNat_natCast, List.getD_eq_getElem?_getD, hi]; rfl
  obtain ⟨c1, c2⟩ := hc _ hm
  have hlt2 := along_to hZ hf.1 _ hm
  have hsk := flow_sink hZ hs ht hne h
  -- the nodes that are come to from the arc's end
  have hR := seek_full (fr := fromS Z) hlt2.1 (fun y hy => (along_to hZ hf.1 y hy).1)
  have r1 := found_first hR
  have r2 : foundB (seekK (fromS Z) (toS Z) (alongL f) (toS Z ((i : Int), false)) N) (fromS Z ((i : Int), false)) = false := by
    unfold foundB; exact decide_eq_false (wayK_none c2)
  obtain ⟨_, d2⟩ := cross_closed hf (found_cross hZ hf hlt2.1) Z.length
  have d3 := d2 i Z[i] hlt hi (by
    unfold intoS
    have e1 : fromS Z ((i : Int), false) = frN Z[i] := by unfold fromS; simp only [Bool.false_eq_true, if_false, ea]
    have e2 : toS Z ((i : Int), false) = toN Z[i] := by unfold toS; simp only [Bool.false_eq_true, if_false, ea]
    rw [e1] at r2
    have r1' : foundB (seekK (fromS Z) (toS Z) (alongL f) (toS Z ((i : Int), false)) N) (toN Z[i]) = true := by rw [← e2]; exact r1
    rw [r2, r1']; rfl)
  rw [← side_sum hZ Z.length] at d3
  have d4 := two_sum (g := bal Z f) (S := foundB (seekK (fromS Z) (toS Z) (alongL f) (toS Z ((i : Int), false)) N)) hs ht hne h.2.1
  unfold bal at d4 hsk
  have hv := h.2.2
  unfold bal at hv
  rw [d4, hv, hsk] at d3
  have hk0 : 0 < k := by
    refine Classical.byContradiction fun hk0 => ?_
    have : k = 0 := by omega
    rw [this] at d3
    split at d3 <;> split at d3 <;> omega
  -- the nodes that are come to from the source
  have hS := seek_full (fr := fromS Z) hs (fun y hy => (along_to hZ hf.1 y hy).1)
  obtain ⟨f1, _⟩ := cross_closed hf (found_cross hZ hf hs) Z.length
  rw [← side_sum hZ Z.length] at f1
  have f2 := two_sum (g := bal Z f) (S := foundB (seekK (fromS Z) (toS Z) (alongL f) s N)) hs ht hne h.2.1
  unfold bal at f2
  rw [f2, hv, found_first hS] at f1
  have : foundB (seekK (fromS Z) (toS Z) (alongL f) s N) t = false := by unfold foundB; exact decide_eq_false (wayK_none hw)
  rw [this] at f1
  simp only [if_true, Bool.false_eq_true, if_false] at f1
  omega
/-- Where there is no cycle, nothing comes to the source. -/
theorem no_into {Z : List ArcT} {N s t : Nat} {f : List Int} {k : Int} (hZ : ∀ a ∈ Z, frN a < N ∧ toN a < N) (hs : s < N) (ht : t < N) (hne : s ≠ t) (hk : 0 ≤ k) (h : FlowST Z N s t f k) (hc : NoCyc Z N f) : ∀ i a, Z[i]? = some a → toN a = s → atI f i = 0 := by
  intro i a hi hto
  refine Classical.byContradiction fun hne2 => ?_
  have hf := h.1
  have hb := hf.2 i a hi
  have hlt : i < Z.length := (List.getElem?_eq_some_iff.1 hi).1
  have hx : isArc Z ((i : Int), false) := ⟨by simp, by simp only; omega⟩
  have hm : ((i : Int), false) ∈ alongL f := along_mk hf.1 hx rfl (by simp only [Int.toNat_natCast]; omega)
  have ea : arcOf Z ((i : Int), false) = a := by unfold arcOf; rw [Int.toNat_natCast, List.getD_eq_getElem?_getD, hi]; rfl
  have e1 : fromS Z ((i : Int), false) = frN a := by unfold fromS; simp only [Bool.false_eq_true, if_false, ea]
  have e2 : toS Z ((i : Int), false) = s := by unfold toS; simp only [Bool.false_eq_true, if_false, ea]; exact hto
  obtain ⟨_, c2⟩ := hc _ hm
  rw [e1, e2] at c2
  have hS := seek_full (fr := fromS Z) hs (fun y hy => (along_to hZ hf.1 y hy).1)
  have r1 := found_first hS
  have r2 : foundB (seekK (fromS Z) (toS Z) (alongL f) s N) (frN a) = false := by unfold foundB; exact decide_eq_false (wayK_none c2)
  obtain ⟨_, d2⟩ := cross_closed hf (found_cross hZ hf hs) Z.length
  have d3 := d2 i a hlt hi (by unfold intoS; rw [r2, hto, r1]; rfl)
  rw [← side_sum hZ Z.length] at d3
  have d4 := two_sum (g := bal Z f) (S := foundB (seekK (fromS Z) (toS Z) (alongL f) s N)) hs ht hne h.2.1
  have hsk := flow_sink hZ hs ht hne h
  have hv := h.2.2
  unfold bal at d4 hsk hv
  rw [d4, hv, hsk, r1] at d3
  simp only [if_true] at d3
  split at d3 <;> omega
theorem bal_out {Z : List ArcT} {f : List Int} {s : Nat} (hf : Flow Z f) (h : ∀ i a, Z[i]? = some a → toN a = s → atI f i = 0) : ∀ i, 0 ≤ balK Z f s i
  | 0 => Int.le_refl _
  | i + 1 => by
    have ih := bal_out hf h i
    cases hz : Z[i]? with
    | none =>
      have e : balK Z f s (i + 1) = balK Z f s i := by show balK Z f s i + _ = _; rw [hz]; simp
      rw [e]; exact ih
    | some a =>
      rw [balK_succ hz]
      have hb := hf.2 i a hz
      unfold share
      by_cases h1 : toN a = s
      · have := h i a hz h1
        rw [this]
        simp
        exact ih
      · rw [if_neg h1]
        split <;> omega
/-! Cycles, one after the other -/
def cycAt (Z : List ArcT) (N : Nat) (f : List Int) (i : Nat) : Option (List StepT) :=
  if 0 < atI f i then (if toS Z ((i : Int), false) = fromS Z ((i : Int), false) then some [((i : Int), false)] else (wayK (fromS Z) (toS Z) (alongL f) N (toS Z ((i : Int), false)) (fromS Z ((i : Int), false))).map (fun l => ((i : Int), false) :: l)) else none
/-- The first cycle of those that begin with an arc from place i on, m places. -/
def cycFrom (Z : List ArcT) (N : Nat) (f : List Int) : Nat → Nat → Option (List StepT)
  | _, 0 => none
  | i, m + 1 => match cycAt Z N f i with
    | some l => some l
    | none => cycFrom Z N f (i + 1) m
def cycK (Z : List ArcT) (N : Nat) (f : List Int) : Option (List StepT) := cycFrom Z N f 0 f.length
theorem cycFrom_some {Z : List ArcT} {N : Nat} {f : List Int} {l : List StepT} : ∀ {m i}, cycFrom Z N f i m = some l → ∃ j, i ≤ j ∧ j < i + m ∧ cycAt Z N f j = some l
  | 0, i, h => by cases h
  | m + 1, i, h => by
    unfold cycFrom at h
    cases hc : cycAt Z N f i with
    | some l' =>
      rw [hc] at h
      exact ⟨i, Nat.le_refl _, by omega, by rw [hc]; exact h⟩
    | none =>
      rw [hc] at h
      obtain ⟨j, h1, h2, h3⟩ := cycFrom_some h
      exact ⟨j, by omega, by omega, h3⟩
theorem cycFrom_none {Z : List ArcT} {N : Nat} {f : List Int} : ∀ {m i}, cycFrom Z N f i m = none → ∀ j, i ≤ j → j < i + m → cycAt Z N f j = none
  | 0, i, _, j, h1, h2 => by omega
  | m + 1, i, h, j, h1, h2 => by
    unfold cycFrom at h
    cases hc : cycAt Z N f i with
    | some l' => rw [hc] at h; cases h
    | none =>
      rw [hc] at h
      by_cases e : j = i
      · subst e; exact hc
      · exact cycFrom_none h j (by omega) (by omega)
theorem cycK_takes {Z : List ArcT} {N : Nat} {f : List Int} {l : List StepT} (hZ : ∀ a ∈ Z, frN a < N ∧ toN a < N) (hf : f.length = Z.length) (h : cycK Z N f = some l) : ∃ u, Takes Z f u u l := by
  obtain ⟨j, _, h2, h3⟩ := cycFrom_some h
  unfold cycAt at h3
  by_cases hp : 0 < atI f j
  · rw [if_pos hp] at h3
    have hm : ((j : Int), false) ∈ alongL f := along_mk hf ⟨by simp, by simp only; omega⟩ rfl (by simpa using hp)
    by_cases he : toS Z ((j : Int), false) = fromS Z ((j : Int), false)
    · rw [if_pos he] at h3
      cases h3
      exact ⟨_, loop_takes hf hm he⟩
    · rw [if_neg he, Option.map_eq_some_iff] at h3
      obtain ⟨w, hw, rfl⟩ := h3
      exact ⟨_, cycle_takes hZ hf hm he hw⟩
  · rw [if_neg hp] at h3; cases h3
theorem cycK_none {Z : List ArcT} {N : Nat} {f : List Int} (h : cycK Z N f = none) : NoCyc Z N f := by
  intro x hx
  obtain ⟨h1, h2, h3, h4⟩ := alongK_mem.1 hx
  obtain ⟨y, q⟩ := x
  simp only at h1 h2 h3 h4
  subst h1
  obtain ⟨j, rfl⟩ : ∃ j : Nat, y = (j : Int) := ⟨y.toNat, by omega⟩
  have hc := cycFrom_none h j (by omega) (by omega)
  unfold cycAt at hc
  rw [if_pos (by simpa using h4)] at hc
  by_cases he : toS Z ((j : Int), false) = fromS Z ((j : Int), false)
  · rw [if_pos he] at hc; cases hc
  · rw [if_neg he, Option.map_eq_none_iff] at hc
    exact ⟨he, hc⟩
theorem noCyc_less {Z : List ArcT} {N : Nat} {f g : List Int} (hZ : ∀ a ∈ Z, frN a < N ∧ toN a < N) (hf : f.length = Z.length) (hg : g.length = Z.length) (h : ∀ i, 0 < atI g i → 0 < atI f i) (hc : NoCyc Z N f) : NoCyc Z N g := by
  have sub : ∀ x ∈ alongL g, x ∈ alongL f := fun x hx => by
    obtain ⟨h1, h2, h3⟩ := along_arc hg hx
    exact along_mk hf h1 h2 (h _ h3)
  intro x hx
  obtain ⟨c1, c2⟩ := hc x (sub x hx)
  refine ⟨c1, ?_⟩
  cases hw : wayK (fromS Z) (toS Z) (alongL g) N (toS Z x) (fromS Z x) with
  | none => rfl
  | some p =>
    exfalso
    have hlt := along_to hZ hg x hx
    obtain ⟨w1, w2, _, _⟩ := way_props hlt.1 (fun y hy => (along_to hZ hg y hy).1) hw
    have hS := seek_full (fr := fromS Z) (l := alongL f) hlt.1 (fun y hy => (along_to hZ hf y hy).1)
    have hm := walk_side (S := foundB (seekK (fromS Z) (toS Z) (alongL f) (toS Z x) N)) (l := alongL f) (fun y hy h3 => found_closed hS y hy h3) (fun y hy => sub y (w2 y hy)) w1 (found_first hS)
    rw [foundB_iff] at hm
    exact wayK_none c2 hm
/-! All of it -/
abbrev Part := List StepT × Int
/-- What parts bring along an arc. -/
def partAt (i : Nat) : List Part → Int
  | [] => 0
  | p :: r => (if i ∈ p.1.map (fun x => x.1.toNat) then p.2 else 0) + partAt i r
def partSum : List Part → Int
  | [] => 0
  | p :: r => p.2 + partSum r
def cycsK (Z : List ArcT) (N : Nat) : Nat → List Int → List Part × List Int
  | 0, f => ([], f)
  | n + 1, f => match cycK Z N f with
    | none => ([], f)
    | some l => ((l, leastK f l) :: (cycsK Z N n (takeK (leastK f l) f l)).1, (cycsK Z N n (takeK (leastK f l) f l)).2)
def chainsK (Z : List ArcT) (N s t : Nat) : Nat → List Int → List Part × List Int
  | 0, f => ([], f)
  | n + 1, f => match wayK (fromS Z) (toS Z) (alongL f) N s t with
    | none => ([], f)
    | some l => ((l, leastK f l) :: (chainsK Z N s t n (takeK (leastK f l) f l)).1, (chainsK Z N s t n (takeK (leastK f l) f l)).2)
theorem take_at {Z : List ArcT} {f : List Int} {u v : Nat} {l : List StepT} (h : Takes Z f u v l) (hf : Flow Z f) (k : Int) (i : Nat) : atI (takeK k f l) i = atI f i - (if i ∈ l.map (fun x => x.1.toNat) then k else 0) := by
  have hm := fun x hx => along_arc hf.1 (h.mem x hx)
  have hlen : ∀ x ∈ l, x.1.toNat < f.length := fun x hx => by rw [hf.1]; exact (List.getElem?_eq_some_iff.1 (arcOf_at (hm x hx).1)).1
  by_cases he : i ∈ l.map (fun x => x.1.toNat)
  · obtain ⟨x, hx, rfl⟩ := List.mem_map.1 he
    rw [if_pos he, takeK_at l f hlen (toNat_nodup (fun y hy => (hm y hy).1) h.once) x hx]
  · rw [if_neg he, takeK_other l f (fun x hx => ⟨hlen x hx, fun e => he (List.mem_map.2 ⟨x, hx, e⟩)⟩)]
    omega
/-- A part of a flow: arcs one behind the other from u to v, coming to no node twice, and at least 1. -/
def PartIs (Z : List ArcT) (u v : Nat) (p : Part) : Prop := Trail Z u p.1 v ∧ p.1 ≠ [] ∧ (p.1.map (toS Z)).Nodup ∧ (u ≠ v → u ∉ p.1.map (toS Z)) ∧ (∀ x ∈ p.1, x.2 = false) ∧ 1 ≤ p.2
theorem takes_part {Z : List ArcT} {f : List Int} {u v : Nat} {l : List StepT} (h : Takes Z f u v l) (hf : Flow Z f) : PartIs Z u v (l, leastK f l) :=
  ⟨h.trail, h.some, h.ends, h.head, fun x hx => (along_arc hf.1 (h.mem x hx)).2.1, (h.props hf).1⟩
theorem cycs_props {Z : List ArcT} {N : Nat} (hZ : ∀ a ∈ Z, frN a < N ∧ toN a < N) : ∀ (n : Nat) (f : List Int), Flow Z f → posK f f.length ≤ n →
    Flow Z (cycsK Z N n f).2 ∧ (∀ w, bal Z (cycsK Z N n f).2 w = bal Z f w) ∧ NoCyc Z N (cycsK Z N n f).2 ∧ (∀ i, 0 < atI (cycsK Z N n f).2 i → 0 < atI f i) ∧ (cycsK Z N n f).1.length + posK (cycsK Z N n f).2 f.length ≤ posK f f.length ∧
      (∀ i, atI f i = atI (cycsK Z N n f).2 i + partAt i (cycsK Z N n f).1) ∧ ∀ p ∈ (cycsK Z N n f).1, ∃ u, PartIs Z u u p
  | 0, f, hf, hn => by
    refine ⟨hf, fun _ => rfl, ?_, fun _ h => h, by simp [cycsK], fun i => by simp [cycsK, partAt], fun p hp => by cases hp⟩
    show NoCyc Z N f
    apply cycK_none
    cases hc : cycK Z N f with
    | none => rfl
    | some l =>
      obtain ⟨u, hT⟩ := cycK_takes hZ hf.1 hc
      have := (hT.props hf).2.2.2.2
      omega
  | n + 1, f, hf, hn => by
    unfold cycsK
    cases hc : cycK Z N f with
    | none => exact ⟨hf, fun _ => rfl, cycK_none hc, fun _ h => h, by simp, fun i => by simp [partAt], fun p hp => by cases hp⟩
    | some l =>
      obtain ⟨u, hT⟩ := cycK_takes hZ hf.1 hc
      obtain ⟨p1, p2, p3, p4, p5⟩ := hT.props hf
      have hl := takeK_len (leastK f l) l f
      obtain ⟨i1, i2, i3, i4, i5, i6, i7⟩ := cycs_props hZ n (takeK (leastK f l) f l) p2 (by rw [hl]; omega)
      rw [hl] at i5
      simp only
      refine ⟨i1, fun w => by rw [i2, p3]; omega, i3, fun i h => p4 i (i4 i h), by simp only [List.length_cons]; omega, fun i => ?_, fun p hp => ?_⟩
      · have h1 := take_at hT hf (leastK f l) i
        have h2 := i6 i
        simp only [partAt]
        omega
      · rcases List.mem_cons.1 hp with rfl | hp
        · exact ⟨u, takes_part hT hf⟩
        · exact i7 p hp
theorem chains_props {Z : List ArcT} {N s t : Nat} (hZ : ∀ a ∈ Z, frN a < N ∧ toN a < N) (hs : s < N) (ht : t < N) (hne : s ≠ t) : ∀ (n : Nat) (f : List Int) (k : Int), FlowST Z N s t f k → NoCyc Z N f → 0 ≤ k → posK f f.length ≤ n →
    (∀ i, atI (chainsK Z N s t n f).2 i = 0) ∧ partSum (chainsK Z N s t n f).1 = k ∧ (chainsK Z N s t n f).1.length ≤ posK f f.length ∧ (∀ i, atI f i = partAt i (chainsK Z N s t n f).1) ∧ ∀ p ∈ (chainsK Z N s t n f).1, PartIs Z s t p
  | n, f, k, hf, hc, hk, hn => by
    have stop : wayK (fromS Z) (toS Z) (alongL f) N s t = none → (∀ i, atI f i = 0) ∧ k = 0 := by
      intro hw
      have h0 := rest_nothing hZ hs ht hne hk hf hc hw
      refine ⟨h0, ?_⟩
      have hb : ∀ i, balK Z f s i = 0 := by
        intro i
        induction i with
        | zero => rfl
        | succ i ih =>
          show balK Z f s i + _ = 0
          rw [ih, h0]
          cases Z[i]? with
          | none => rfl
          | some a => simp [share]
      rw [← hf.2.2]
      exact hb _
    match n, hn with
    | 0, hn =>
      have hw : wayK (fromS Z) (toS Z) (alongL f) N s t = none := by
        cases hw : wayK (fromS Z) (toS Z) (alongL f) N s t with
        | none => rfl
        | some l =>
          have := ((way_takes hZ hf.1.1 hs hne hw).props hf.1).2.2.2.2
          omega
      obtain ⟨h0, hk0⟩ := stop hw
      exact ⟨h0, by rw [hk0]; rfl, by simp [chainsK], fun i => by rw [h0]; rfl, fun p hp => by cases hp⟩
    | n + 1, hn =>
      unfold chainsK
      cases hw : wayK (fromS Z) (toS Z) (alongL f) N s t with
      | none =>
        obtain ⟨h0, hk0⟩ := stop hw
        exact ⟨h0, by rw [hk0]; rfl, by simp, fun i => by rw [h0]; rfl, fun p hp => by cases hp⟩
      | some l =>
        have hT := way_takes hZ hf.1.1 hs hne hw
        obtain ⟨p1, p2, p3, p4, p5⟩ := hT.props hf.1
        have hl := takeK_len (leastK f l) l f
        have hF : FlowST Z N s t (takeK (leastK f l) f l) (k - leastK f l) := by
          refine ⟨p2, fun v hv h1 h2 => ?_, ?_⟩
          · rw [p3, hf.2.1 v hv h1 h2, if_neg (fun e => h1 e.symm), if_neg (fun e => h2 e.symm)]; rfl
          · rw [p3, hf.2.2, if_pos rfl, if_neg (fun e => hne e.symm)]; omega
        have hN := noCyc_less hZ hf.1.1 p2.1 p4 hc
        have hk2 : 0 ≤ k - leastK f l := by
          have h1 := no_into hZ hs ht hne hk hf hc
          have h2 := bal_out (s := s) p2 (fun i a hi hto => by
            have h3 := h1 i a hi hto
            have h4 := p4 i
            have h5 := p2.2 i a hi
            omega) Z.length
          have h3 := hF.2.2
          unfold bal at h3
          omega
        obtain ⟨i1, i2, i3, i4, i5⟩ := chains_props hZ hs ht hne n _ _ hF hN hk2 (by rw [hl]; omega)
        rw [hl] at i3
        simp only
        refine ⟨i1, by simp only [partSum]; omega, by simp only [List.length_cons]; omega, fun i => ?_, fun p hp => ?_⟩
        · have h1 := take_at hT hf.1 (leastK f l) i
          have h2 := i4 i
          simp only [partAt]
          omega
        · rcases List.mem_cons.1 hp with rfl | hp
          · exact takes_part hT hf.1
          · exact i5 p hp
end Go.Proofs.Ytbkmfjegbmjknaa

namespace Go.Proofs.Ytbkmfjegbmjknaa
set_option linter.unusedVariables false

theorem costK_set {Z : List ArcT} {f : List Int} {j : Nat} {y : Int} (hj : j < f.length) : ∀ i, costK Z (f.set j y) i = costK Z f i + if j < i then (match Z[j]? with | some a => (y - atI f j) * tm a | none => 0) else 0
  | 0 => by simp [costK]
  | i + 1 => by
    have ih := costK_set (Z := Z) (y := y) hj i
    show costK Z (f.set j y) i + _ = costK Z f i + _ + _
    rw [ih]
    by_cases h1 : j < i
    · rw [if_pos h1, if_pos (by omega)]
      have e : atI (f.set j y) i = atI f i := by rw [atI_set hj, if_neg (by omega)]
      rw [e]
      omega
    · rw [if_neg h1]
      by_cases h2 : j = i
      · subst h2
        rw [if_pos (by omega), atI_set hj, if_pos rfl]
        cases Z[j]? with
        | none => simp
        | some a =>
          simp only
          rw [Int.sub_mul]
          omega
      · rw [if_neg (by omega)]
        have e : atI (f.set j y) i = atI f i := by rw [atI_set hj, if_neg (by omega)]
        rw [e]
        omega
/-- How long arcs one behind the other are. -/
def lenL (Z : List ArcT) : List StepT → Int
  | [] => 0
  | x :: r => tm (arcOf Z x) + lenL Z r
theorem lenL_nonneg {Z : List ArcT} (ht : ∀ a ∈ Z, 0 ≤ tm a) : ∀ {l : List StepT}, (∀ x ∈ l, isArc Z x) → 0 ≤ lenL Z l ∧ ∀ x ∈ l, tm (arcOf Z x) ≤ lenL Z l
  | [], _ => ⟨Int.le_refl _, fun x hx => (by cases hx)⟩
  | y :: r, h => by
    obtain ⟨i1, i2⟩ := lenL_nonneg ht (l := r) (fun x hx => h x (by simp [hx]))
    have h0 := ht _ (List.mem_of_getElem? (arcOf_at (h y (by simp))))
    refine ⟨by simp only [lenL]; omega, fun x hx => ?_⟩
    simp only [lenL]
    rcases List.mem_cons.1 hx with rfl | hx
    · omega
    · have := i2 x hx; omega
theorem take_cost {Z : List ArcT} {k : Int} : ∀ (l : List StepT) (f : List Int), f.length = Z.length → (∀ x ∈ l, isArc Z x) → costK Z (takeK k f l) Z.length = costK Z f Z.length - k * lenL Z l
  | [], f, _, _ => by show costK Z f Z.length = _; simp [lenL]
  | x :: r, f, hf, h => by
    have hx := h x (by simp)
    have ha := arcOf_at hx
    have hlt : x.1.toNat < Z.length := (List.getElem?_eq_some_iff.1 ha).1
    show costK Z (takeK k (f.set _ _) r) Z.length = _
    rw [take_cost r _ (by simpa using hf) (fun y hy => h y (by simp [hy])), costK_set (by omega), if_pos hlt, ha]
    simp only [lenL]
    rw [Int.mul_add, show atI f x.1.toNat - k - atI f x.1.toNat = -k by omega, Int.neg_mul]
    omega
/-- What parts bring together. -/
def sumP (M : Nat) : List Part → List Int
  | [] => List.replicate M 0
  | p :: r => takeK (-p.2) (sumP M r) p.1
theorem sumP_len (M : Nat) : ∀ l : List Part, (sumP M l).length = M
  | [] => by simp [sumP]
  | p :: r => by
    show (takeK _ _ _).length = M
    rw [takeK_len]; exact sumP_len M r
theorem part_once {Z : List ArcT} {u v : Nat} {p : Part} (h : PartIs Z u v p) : (p.1.map fun x => x.1).Nodup := by
  obtain ⟨h1, h2, h3, h4, h5, h6⟩ := h
  by_cases hne : u = v
  · subst hne
    match hp : p.1, h1, h2 with
    | x :: r, h1, _ =>
      rw [hp] at h3 h5
      rw [List.map_cons, List.nodup_cons] at h3 ⊢
      refine ⟨fun hm => ?_, arcs_nodup (trail_walk h1.2.2) h3.2 h3.1⟩
      obtain ⟨y, hy, e⟩ := List.mem_map.1 hm
      apply h3.1
      rw [List.mem_map]
      refine ⟨y, hy, ?_⟩
      unfold toS
      rw [h5 y (by simp [hy]), h5 x (by simp)]
      have ea : arcOf Z y = arcOf Z x := by unfold arcOf; rw [e]
      rw [ea]
  · exact arcs_nodup (trail_walk h1) h3 (h4 hne)
theorem trail_isArc {Z : List ArcT} : ∀ {L : List StepT} {u v : Nat}, Trail Z u L v → ∀ x ∈ L, isArc Z x
  | [], _, _, _, x, hx => by cases hx
  | y :: r, u, v, h, x, hx => by
    rcases List.mem_cons.1 hx with rfl | hx
    · exact h.2.1
    · exact trail_isArc h.2.2 x hx
def Parts (Z : List ArcT) (l : List Part) : Prop := ∀ p ∈ l, ∃ u v, PartIs Z u v p
theorem sumP_at {Z : List ArcT} (i : Nat) : ∀ l : List Part, Parts Z l → atI (sumP Z.length l) i = partAt i l
  | [], _ => by
    show atI (List.replicate _ _) i = 0
    unfold atI
    rw [List.getD_eq_getElem?_getD, List.getElem?_replicate]
    split <;> rfl
  | p :: r, h => by
    have ih := sumP_at i r (fun q hq => h q (by simp [hq]))
    obtain ⟨u, v, hp⟩ := h p (by simp)
    have ha := trail_isArc hp.1
    have hlen : ∀ x ∈ p.1, x.1.toNat < (sumP Z.length r).length := fun x hx => by rw [sumP_len]; exact (List.getElem?_eq_some_iff.1 (arcOf_at (ha x hx))).1
    show atI (takeK _ _ _) i = (if _ then _ else _) + _
    by_cases he : i ∈ p.1.map (fun x => x.1.toNat)
    · obtain ⟨x, hx, rfl⟩ := List.mem_map.1 he
      rw [if_pos he, takeK_at p.1 _ hlen (toNat_nodup ha (part_once hp)) x hx, ih]
      omega
    · rw [if_neg he, takeK_other p.1 _ (fun x hx => ⟨hlen x hx, fun e => he (List.mem_map.2 ⟨x, hx, e⟩)⟩), ih]
      omega
theorem zero_bal (Z : List ArcT) (w : Nat) : ∀ i, balK Z (List.replicate Z.length 0) w i = 0
  | 0 => rfl
  | i + 1 => by
    show balK Z _ w i + _ = 0
    rw [zero_bal Z w i]
    have h0 : atI (List.replicate Z.length 0) i = 0 := by unfold atI; rw [List.getD_eq_getElem?_getD, List.getElem?_replicate]; split <;> rfl
    rw [h0]
    cases Z[i]? with
    | none => rfl
    | some a => simp [share]
theorem zero_cost (Z : List ArcT) : ∀ i, costK Z (List.replicate Z.length 0) i = 0
  | 0 => rfl
  | i + 1 => by
    show costK Z _ i + _ = 0
    rw [zero_cost Z i]
    have h0 : atI (List.replicate Z.length 0) i = 0 := by unfold atI; rw [List.getD_eq_getElem?_getD, List.getElem?_replicate]; split <;> rfl
    rw [h0]
    cases Z[i]? with
    | none => rfl
    | some a => simp
theorem sumP_bal {Z : List ArcT} {s t : Nat} (w : Nat) : ∀ l : List Part, (∀ p ∈ l, PartIs Z s t p) → bal Z (sumP Z.length l) w = (if s = w then partSum l else 0) - (if t = w then partSum l else 0)
  | [], _ => by
    show balK Z (List.replicate _ _) w Z.length = _
    rw [zero_bal]
    simp [partSum]
  | p :: r, h => by
    have ih := sumP_bal w r (fun q hq => h q (by simp [hq]))
    have hp := h p (by simp)
    show bal Z (takeK _ _ _) w = _
    rw [take_bal w p.1 _ s t (sumP_len _ _) hp.2.2.2.2.1 hp.1, ih]
    simp only [partSum]
    split <;> split <;> omega
def partLen (Z : List ArcT) : List Part → Int
  | [] => 0
  | p :: r => p.2 * lenL Z p.1 + partLen Z r
theorem sumP_cost {Z : List ArcT} : ∀ l : List Part, Parts Z l → costK Z (sumP Z.length l) Z.length = partLen Z l
  | [], _ => zero_cost Z _
  | p :: r, h => by
    have ih := sumP_cost r (fun q hq => h q (by simp [hq]))
    obtain ⟨u, v, hp⟩ := h p (by simp)
    show costK Z (takeK _ _ _) Z.length = _
    rw [take_cost p.1 _ (sumP_len _ _) (trail_isArc hp.1), ih, Int.neg_mul]
    simp only [partLen]
    omega
theorem partAt_nonneg {Z : List ArcT} (i : Nat) : ∀ l : List Part, Parts Z l → 0 ≤ partAt i l
  | [], _ => Int.le_refl _
  | p :: r, h => by
    have ih := partAt_nonneg i r (fun q hq => h q (by simp [hq]))
    obtain ⟨u, v, hp⟩ := h p (by simp)
    have := hp.2.2.2.2.2
    simp only [partAt]
    split <;> omega
theorem partAt_app (i : Nat) : ∀ a c : List Part, partAt i (a ++ c) = partAt i a + partAt i c
  | [], c => by simp [partAt]
  | p :: r, c => by simp only [List.cons_append, partAt, partAt_app i r c]; omega
theorem partAt_filter {Z : List ArcT} (i : Nat) (q : Part → Bool) : ∀ l : List Part, Parts Z l → partAt i (l.filter q) ≤ partAt i l
  | [], _ => Int.le_refl _
  | p :: r, h => by
    have ih := partAt_filter i q r (fun q hq => h q (by simp [hq]))
    obtain ⟨u, v, hp⟩ := h p (by simp)
    have := hp.2.2.2.2.2
    rw [List.filter_cons]
    split
    · simp only [partAt]; omega
    · simp only [partAt]; split <;> omega
/-- A flow is its chains and cycles. -/
theorem flow_parts {Z : List ArcT} {N s t : Nat} {f : List Int} {k : Int} (hZ : ∀ a ∈ Z, frN a < N ∧ toN a < N) (hs : s < N) (ht : t < N) (hne : s ≠ t) (hk : 0 ≤ k) (h : FlowST Z N s t f k) :
    ∃ (C D : List Part), (∀ p ∈ C, ∃ u, PartIs Z u u p) ∧ (∀ p ∈ D, PartIs Z s t p) ∧ partSum D = k ∧ (∀ i, atI f i = partAt i C + partAt i D) ∧ C.length + D.length ≤ Z.length ∧ f = sumP Z.length (C ++ D) := by
  obtain ⟨i1, i2, i3, i4, i5, i6, i7⟩ := cycs_props hZ (posK f f.length) f h.1 (Nat.le_refl _)
  have hg : FlowST Z N s t (cycsK Z N (posK f f.length) f).2 k := ⟨i1, fun v hv h1 h2 => by rw [i2]; exact h.2.1 v hv h1 h2, by rw [i2]; exact h.2.2⟩
  have hlg : (cycsK Z N (posK f f.length) f).2.length = f.length := by rw [i1.1, h.1.1]
  obtain ⟨j1, j2, j3, j4, j5⟩ := chains_props hZ hs ht hne (posK (cycsK Z N (posK f f.length) f).2 f.length) _ k hg i3 hk (by rw [hlg]; exact Nat.le_refl _)
  generalize cycsK Z N (posK f f.length) f = CG at *
  generalize (chainsK Z N s t (posK CG.2 f.length) CG.2).1 = D at *
  have hpl := posK_le f f.length
  rw [hlg] at j3
  have hat : ∀ i, atI f i = partAt i CG.1 + partAt i D := fun i => by rw [i6 i, j4 i]; omega
  refine ⟨CG.1, D, i7, j5, j2, hat, by rw [← h.1.1]; omega, ?_⟩
  have hP : Parts Z (CG.1 ++ D) := fun p hp => by
    rcases List.mem_append.1 hp with hp | hp
    · obtain ⟨u, hu⟩ := i7 p hp; exact ⟨u, u, hu⟩
    · exact ⟨s, t, j5 p hp⟩
  apply ext_at
  · rw [sumP_len]; exact h.1.1
  · intro v hv
    rw [sumP_at v _ hP, partAt_app, hat v]
end Go.Proofs.Ytbkmfjegbmjknaa

namespace Go.Proofs.Ytbkmfjegbmjknaa
set_option linter.unusedVariables false

/-- What a flow is worth: its value at each point of time, less its time on the way. -/
def worthK (Z : List ArcT) (H : Int) (f : List Int) (k : Int) : Int := (H + 1) * k - costK Z f Z.length
def IsBest (Z : List ArcT) (N s t : Nat) (H m : Int) : Prop := (∃ f k, FlowST Z N s t f k ∧ worthK Z H f k = m) ∧ ∀ g w, FlowST Z N s t g w → worthK Z H g w ≤ m
theorem isBest_unique {Z : List ArcT} {N s t : Nat} {H m m' : Int} (h : IsBest Z N s t H m) (g : IsBest Z N s t H m') : m = m' := by
  obtain ⟨⟨f, k, hf, e⟩, h2⟩ := h
  obtain ⟨⟨f', k', hf', e'⟩, g2⟩ := g
  have h3 := h2 _ _ hf'
  have h4 := g2 _ _ hf
  omega
section
variable {Z : List ArcT} {N s t : Nat} {H : Int}
theorem costK_nonneg (hc : ∀ a ∈ Z, 0 ≤ tm a) {f : List Int} (hf : Flow Z f) : ∀ i, 0 ≤ costK Z f i
  | 0 => Int.le_refl _
  | i + 1 => by
    have ih := costK_nonneg hc hf i
    cases hz : Z[i]? with
    | none =>
      have e : costK Z f (i + 1) = costK Z f i := by show costK Z f i + _ = _; rw [hz]; simp
      rw [e]; exact ih
    | some a =>
      rw [costK_succ hz]
      have := Int.mul_nonneg (hf.2 i a hz).1 (hc a (List.mem_of_getElem? hz))
      omega
theorem best_nonneg (hcap : ∀ a ∈ Z, 0 ≤ capN a) {m : Int} (h : IsBest Z N s t H m) : 0 ≤ m := by
  have h1 := h.2 _ _ (zero_flow Z hcap N s t)
  unfold worthK at h1
  rw [zero_cost] at h1
  omega
/-- A flow that is worth most has a value of at least 0. -/
theorem best_value (hc : ∀ a ∈ Z, 0 ≤ tm a) (hH : 0 ≤ H) {f : List Int} {k : Int} (hf : FlowST Z N s t f k) (h0 : 0 ≤ worthK Z H f k) : 0 ≤ k := by
  refine Classical.byContradiction fun hk => ?_
  have h1 := costK_nonneg hc hf.1 Z.length
  have h2 : (H + 1) * k ≤ (H + 1) * (-1) := Int.mul_le_mul_of_nonneg_left (by omega) (by omega)
  unfold worthK at h0
  omega
theorem worth_next (f : List Int) (k : Int) : worthK Z (H + 1) f k = worthK Z H f k + k := by
  unfold worthK
  rw [show (H + 1 + 1) * k = (H + 1) * k + k by rw [Int.add_mul (H + 1) 1 k]; omega]
  omega
/-- With a greater horizon the most is no smaller, and grows by no less at each point of time, by the greatest value at most. -/
theorem best_grows (hc : ∀ a ∈ Z, 0 ≤ tm a) (hcap : ∀ a ∈ Z, 0 ≤ capN a) (hZ : ∀ a ∈ Z, frN a < N ∧ toN a < N) (hs : s < N) (hH : 0 ≤ H) {a b c top : Int} (ha : IsBest Z N s t H a) (hb : IsBest Z N s t (H + 1) b) (hcc : IsBest Z N s t (H + 1 + 1) c) (htop : IsMost Z N s t top) : a ≤ b ∧ b - a ≤ c - b ∧ c - b ≤ top := by
  have a0 := best_nonneg hcap ha
  have b0 := best_nonneg hcap hb
  have c0 := best_nonneg hcap hcc
  obtain ⟨⟨fa, ka, hfa, ea⟩, ha2⟩ := ha
  obtain ⟨⟨fb, kb, hfb, eb⟩, hb2⟩ := hb
  obtain ⟨⟨fc, kc, hfc, ec⟩, hc2⟩ := hcc
  have h1 := best_value hc hH hfa (by omega)
  have h2 := hb2 _ _ hfa
  have h3 := hc2 _ _ hfb
  have h4 := ha2 _ _ hfb
  have h5 := hb2 _ _ hfc
  have h6 := isMost_top hZ hs htop hfc
  rw [worth_next] at h2 h3 ec
  have e1 := worth_next (Z := Z) (H := H) fb kb
  omega
/-- Where all arcs take no time, the most is the greatest value, as often as there are points of time. -/
theorem best_still (hc : ∀ a ∈ Z, tm a = 0) (hZ : ∀ a ∈ Z, frN a < N ∧ toN a < N) (hs : s < N) (hH : 0 ≤ H) {m top : Int} (h : IsBest Z N s t H m) (htop : IsMost Z N s t top) : m = (H + 1) * top := by
  have hz : ∀ f : List Int, ∀ i, costK Z f i = 0 := by
    intro f i
    induction i with
    | zero => rfl
    | succ i ih =>
      show costK Z f i + _ = 0
      rw [ih]
      cases hz : Z[i]? with
      | none => rfl
      | some a => simp [hc a (List.mem_of_getElem? hz)]
  obtain ⟨⟨f, k, hf, e⟩, h2⟩ := h
  have h1 := isMost_top hZ hs htop hf
  obtain ⟨⟨g, hg⟩, _⟩ := htop
  have h3 := h2 _ _ hg
  unfold worthK at e h3
  rw [hz] at e h3
  have h4 : (H + 1) * k ≤ (H + 1) * top := Int.mul_le_mul_of_nonneg_left h1 (by omega)
  omega
end
/-! Arcs that take longer than the horizon -/
/-- Numbers for the arcs that are kept, with 0 for the others. -/
def spread (q : ArcT → Bool) : List ArcT → List Int → List Int
  | [], _ => []
  | a :: Z, f => if q a then f.headD 0 :: spread q Z f.tail else 0 :: spread q Z f
def gathr (q : ArcT → Bool) : List ArcT → List Int → List Int
  | [], _ => []
  | a :: Z, f => if q a then f.headD 0 :: gathr q Z f.tail else gathr q Z f.tail
/-- Balances and times by the list itself. -/
def balC (v : Nat) : List ArcT → List Int → Int
  | [], _ => 0
  | a :: Z, f => share a (f.headD 0) v + balC v Z f.tail
def costC : List ArcT → List Int → Int
  | [], _ => 0
  | a :: Z, f => f.headD 0 * tm a + costC Z f.tail
theorem atI_cons (x : Int) (f : List Int) (i : Nat) : atI (x :: f) (i + 1) = atI f i := by simp [atI]
theorem atI_head (f : List Int) : atI f 0 = f.headD 0 := by cases f <;> simp [atI]
theorem atI_tail (f : List Int) (i : Nat) : atI f.tail i = atI f (i + 1) := by cases f <;> simp [atI]
theorem balK_cons (a : ArcT) (Z : List ArcT) (f : List Int) (v : Nat) : ∀ i, balK (a :: Z) f v (i + 1) = share a (f.headD 0) v + balK Z f.tail v i
  | 0 => by
    rw [balK_succ (a := a) rfl, atI_head]
    simp [balK]
  | i + 1 => by
    have ih := balK_cons a Z f v i
    cases hz : Z[i]? with
    | none =>
      have e1 : balK (a :: Z) f v (i + 1 + 1) = balK (a :: Z) f v (i + 1) := by show balK (a :: Z) f v (i + 1) + _ = _; rw [List.getElem?_cons_succ, hz]; simp
      have e2 : balK Z f.tail v (i + 1) = balK Z f.tail v i := by show balK Z f.tail v i + _ = _; rw [hz]; simp
      rw [e1, e2, ih]
    | some c =>
      rw [balK_succ (i := i + 1) (a := c) (by rw [List.getElem?_cons_succ]; exact hz), balK_succ hz, ih, atI_tail]
      omega
theorem costK_cons (a : ArcT) (Z : List ArcT) (f : List Int) : ∀ i, costK (a :: Z) f (i + 1) = f.headD 0 * tm a + costK Z f.tail i
  | 0 => by
    rw [costK_succ (a := a) rfl, atI_head]
    simp [costK]
  | i + 1 => by
    have ih := costK_cons a Z f i
    cases hz : Z[i]? with
    | none =>
      have e1 : costK (a :: Z) f (i + 1 + 1) = costK (a :: Z) f (i + 1) := by show costK (a :: Z) f (i + 1) + _ = _; rw [List.getElem?_cons_succ, hz]; simp
      have e2 : costK Z f.tail (i + 1) = costK Z f.tail i := by show costK Z f.tail i + _ = _; rw [hz]; simp
      rw [e1, e2, ih]
    | some c =>
      rw [costK_succ (i := i + 1) (a := c) (by rw [List.getElem?_cons_succ]; exact hz), costK_succ hz, ih, atI_tail]
      omega
theorem bal_balC (v : Nat) : ∀ (Z : List ArcT) (f : List Int), bal Z f v = balC v Z f
  | [], f => rfl
  | a :: Z, f => by
    unfold bal
    rw [List.length_cons, balK_cons]
    have := bal_balC v Z f.tail
    unfold bal at this
    rw [this]; rfl
theorem cost_costC : ∀ (Z : List ArcT) (f : List Int), costK Z f Z.length = costC Z f
  | [], f => rfl
  | a :: Z, f => by rw [List.length_cons, costK_cons, cost_costC Z f.tail]; rfl
theorem spread_bal (q : ArcT → Bool) (v : Nat) : ∀ (Z : List ArcT) (f : List Int), balC v Z (spread q Z f) = balC v (Z.filter q) f
  | [], f => rfl
  | a :: Z, f => by
    unfold spread
    rw [List.filter_cons]
    split
    · simp only [balC, List.headD_cons, List.tail_cons]; rw [spread_bal q v Z f.tail]
    · simp only [balC, List.headD_cons, List.tail_cons]; rw [spread_bal q v Z f]; simp [share]
theorem spread_cost (q : ArcT → Bool) : ∀ (Z : List ArcT) (f : List Int), costC Z (spread q Z f) = costC (Z.filter q) f
  | [], f => rfl
  | a :: Z, f => by
    unfold spread
    rw [List.filter_cons]
    split
    · simp only [costC, List.headD_cons, List.tail_cons]; rw [spread_cost q Z f.tail]
    · simp only [costC, List.headD_cons, List.tail_cons]; rw [spread_cost q Z f]; simp
/-- A flow by the list itself. -/
theorem flow_cons {a : ArcT} {Z : List ArcT} {f : List Int} : Flow (a :: Z) f ↔ ∃ x r, f = x :: r ∧ 0 ≤ x ∧ x ≤ capN a ∧ Flow Z r := by
  constructor
  · intro h
    cases f with
    | nil => have := h.1; simp at this
    | cons x r =>
      have h0 := h.2 0 a rfl
      simp only [atI, List.getD_cons_zero] at h0
      refine ⟨x, r, rfl, h0.1, h0.2, by have := h.1; simpa using this, fun i c hi => ?_⟩
      have := h.2 (i + 1) c (by rw [List.getElem?_cons_succ]; exact hi)
      rwa [atI_cons] at this
  · rintro ⟨x, r, rfl, h1, h2, h3⟩
    refine ⟨by simp [h3.1], fun i c hi => ?_⟩
    cases i with
    | zero =>
      simp at hi
      subst hi
      simp only [atI, List.getD_cons_zero]
      exact ⟨h1, h2⟩
    | succ i =>
      rw [atI_cons]
      exact h3.2 i c (by rw [List.getElem?_cons_succ] at hi; exact hi)
theorem flow_nil {f : List Int} : Flow [] f ↔ f = [] := by
  constructor
  · intro h; exact List.eq_nil_of_length_eq_zero h.1
  · rintro rfl; exact ⟨rfl, fun i a hi => by simp at hi⟩
theorem spread_flow (q : ArcT → Bool) : ∀ {Z : List ArcT} {f : List Int}, (∀ a ∈ Z, 0 ≤ capN a) → Flow (Z.filter q) f → Flow Z (spread q Z f)
  | [], f, _, h => by rw [show spread q [] f = [] from rfl]; exact flow_nil.2 rfl
  | a :: Z, f, hc, h => by
    unfold spread
    rw [List.filter_cons] at h
    by_cases hq : q a = true
    · rw [if_pos hq] at h ⊢
      obtain ⟨x, r, rfl, h1, h2, h3⟩ := flow_cons.1 h
      exact flow_cons.2 ⟨x, _, rfl, h1, h2, spread_flow q (fun b hb => hc b (by simp [hb])) h3⟩
    · rw [if_neg hq] at h ⊢
      exact flow_cons.2 ⟨0, _, rfl, Int.le_refl _, hc a (by simp), spread_flow q (fun b hb => hc b (by simp [hb])) h⟩
/-- .. and back: where the others have nothing. -/
def restIs (q : ArcT → Bool) (Z : List ArcT) (f : List Int) : Prop := ∀ i a, Z[i]? = some a → q a = false → atI f i = 0
theorem gathr_props (q : ArcT → Bool) : ∀ {Z : List ArcT} {f : List Int}, Flow Z f → restIs q Z f → Flow (Z.filter q) (gathr q Z f) ∧ (∀ v, balC v (Z.filter q) (gathr q Z f) = balC v Z f) ∧ costC (Z.filter q) (gathr q Z f) = costC Z f
  | [], f, h, _ => ⟨flow_nil.2 rfl, fun v => rfl, rfl⟩
  | a :: Z, f, h, hr => by
    obtain ⟨x, r, rfl, h1, h2, h3⟩ := flow_cons.1 h
    have hr2 : restIs q Z r := fun i c hi hq => by
      have := hr (i + 1) c (by rw [List.getElem?_cons_succ]; exact hi) hq
      rwa [atI_cons] at this
    obtain ⟨i1, i2, i3⟩ := gathr_props q h3 hr2
    unfold gathr
    rw [List.filter_cons]
    by_cases hq : q a = true
    · rw [if_pos hq, if_pos hq]
      refine ⟨flow_cons.2 ⟨x, _, rfl, h1, h2, i1⟩, fun v => ?_, ?_⟩
      · simp only [balC, List.headD_cons, List.tail_cons]; rw [i2 v]
      · simp only [costC, List.headD_cons, List.tail_cons]; rw [i3]
    · rw [if_neg hq, if_neg hq]
      have hx := hr 0 a rfl (by simpa using hq)
      simp only [atI, List.getD_cons_zero] at hx
      subst hx
      refine ⟨i1, fun v => ?_, ?_⟩
      · simp only [balC, List.headD_cons, List.tail_cons]; rw [i2 v]; simp [share]
      · simp only [costC, List.headD_cons, List.tail_cons]; rw [i3]; simp
/-- Chains that are within the horizon bring no less than all of them, cycles and all. -/
theorem worth_parts {Z : List ArcT} {H : Int} (ht : ∀ a ∈ Z, 0 ≤ tm a) (hH : 0 ≤ H) : ∀ D : List Part, Parts Z D → (H + 1) * partSum D - partLen Z D ≤ (H + 1) * partSum (D.filter fun p => decide (lenL Z p.1 ≤ H)) - partLen Z (D.filter fun p => decide (lenL Z p.1 ≤ H))
  | [], _ => Int.le_refl _
  | p :: r, h => by
    have ih := worth_parts ht hH r (fun q hq => h q (by simp [hq]))
    obtain ⟨u, v, hp⟩ := h p (by simp)
    have hp1 := hp.2.2.2.2.2
    rw [List.filter_cons]
    split
    · simp only [partSum, partLen]
      rw [Int.mul_add, Int.mul_add]
      omega
    · next hq =>
      have hq2 : H < lenL Z p.1 := by simpa using hq
      simp only [partSum, partLen]
      rw [Int.mul_add]
      have h1 : p.2 * (H + 1) ≤ p.2 * lenL Z p.1 := Int.mul_le_mul_of_nonneg_left (by omega) (by omega)
      rw [Int.mul_comm p.2 (H + 1)] at h1
      omega
theorem partLen_nonneg {Z : List ArcT} (ht : ∀ a ∈ Z, 0 ≤ tm a) : ∀ D : List Part, Parts Z D → 0 ≤ partLen Z D
  | [], _ => Int.le_refl _
  | p :: r, h => by
    have ih := partLen_nonneg ht r (fun q hq => h q (by simp [hq]))
    obtain ⟨u, v, hp⟩ := h p (by simp)
    have h1 := (lenL_nonneg ht (trail_isArc hp.1)).1
    have h2 := Int.mul_nonneg (show 0 ≤ p.2 by have := hp.2.2.2.2.2; omega) h1
    simp only [partLen]
    omega
theorem partLen_app (Z : List ArcT) : ∀ a c : List Part, partLen Z (a ++ c) = partLen Z a + partLen Z c
  | [], c => by simp [partLen]
  | p :: r, c => by simp only [List.cons_append, partLen, partLen_app Z r c]; omega
/-- To each flow there is one that is worth no less and uses no arc that takes longer than the horizon. -/
theorem within {Z : List ArcT} {N s t : Nat} {H : Int} {f : List Int} {k : Int} (hZ : ∀ a ∈ Z, frN a < N ∧ toN a < N) (ht0 : ∀ a ∈ Z, 0 ≤ tm a) (hs : s < N) (ht : t < N) (hne : s ≠ t) (hH : 0 ≤ H) (hk : 0 ≤ k) (h : FlowST Z N s t f k) :
    ∃ g m, FlowST Z N s t g m ∧ worthK Z H f k ≤ worthK Z H g m ∧ ∀ i a, Z[i]? = some a → H < tm a → atI g i = 0 := by
  obtain ⟨C, D, hC, hD, hsum, hat, _, hfe⟩ := flow_parts hZ hs ht hne hk h
  have hPC : Parts Z C := fun p hp => by obtain ⟨u, hu⟩ := hC p hp; exact ⟨u, u, hu⟩
  have hPD : Parts Z D := fun p hp => ⟨s, t, hD p hp⟩
  have hPA : Parts Z (C ++ D) := fun p hp => by
    rcases List.mem_append.1 hp with hp | hp
    · exact hPC p hp
    · exact hPD p hp
  obtain ⟨E, hE⟩ : ∃ E, (D.filter fun p => decide (lenL Z p.1 ≤ H)) = E := ⟨_, rfl⟩
  have hEm : ∀ p ∈ E, PartIs Z s t p ∧ lenL Z p.1 ≤ H := fun p hp => by
    rw [← hE, List.mem_filter] at hp
    exact ⟨hD p hp.1, by simpa using hp.2⟩
  have hPE : Parts Z E := fun p hp => ⟨s, t, (hEm p hp).1⟩
  have hwp := worth_parts ht0 hH D hPD
  rw [hE] at hwp
  refine ⟨sumP Z.length E, partSum E, ⟨⟨sumP_len _ _, fun i a hi => ?_⟩, fun v hv h1 h2 => ?_, ?_⟩, ?_, fun i a hi hl => ?_⟩
  · rw [sumP_at i E hPE]
    have h1 := partAt_nonneg i E hPE
    have h2 := partAt_filter i (fun p => decide (lenL Z p.1 ≤ H)) D hPD
    rw [hE] at h2
    have h3 := partAt_nonneg i C hPC
    have h4 := hat i
    have h5 := h.1.2 i a hi
    omega
  · rw [sumP_bal v E (fun p hp => (hEm p hp).1), if_neg (fun e => h1 e.symm), if_neg (fun e => h2 e.symm)]; rfl
  · rw [sumP_bal s E (fun p hp => (hEm p hp).1), if_pos rfl, if_neg (fun e => hne e.symm)]; omega
  · unfold worthK
    rw [sumP_cost E hPE]
    have e : costK Z f Z.length = partLen Z C + partLen Z D := by rw [← partLen_app, ← sumP_cost (C ++ D) hPA, ← hfe]
    have h1 := partLen_nonneg ht0 C hPC
    rw [e, ← hsum]
    omega
  · rw [sumP_at i E hPE]
    have hz : ∀ l : List Part, (∀ p ∈ l, PartIs Z s t p ∧ lenL Z p.1 ≤ H) → partAt i l = 0 := by
      intro l
      induction l with
      | nil => intro _; rfl
      | cons p r ih =>
        intro hl2
        obtain ⟨hp1, hp2⟩ := hl2 p (by simp)
        simp only [partAt]
        rw [ih (fun q hq => hl2 q (by simp [hq])), if_neg]
        · rfl
        · intro hm
          obtain ⟨x, hx, e⟩ := List.mem_map.1 hm
          have hxa := trail_isArc hp1.1 x hx
          have h1 := (lenL_nonneg ht0 (trail_isArc hp1.1)).2 x hx
          have h2 := arcOf_at hxa
          rw [e, hi] at h2
          cases h2
          omega
    exact hz E hEm
/-- Arcs that take longer than the horizon change nothing. -/
theorem best_short {Z : List ArcT} {N s t : Nat} {H : Int} {a b : Int} (hZ : ∀ a ∈ Z, frN a < N ∧ toN a < N) (ht0 : ∀ a ∈ Z, 0 ≤ tm a) (hcap : ∀ a ∈ Z, 0 ≤ capN a) (hs : s < N) (ht : t < N) (hne : s ≠ t) (hH : 0 ≤ H)
    (ha : IsBest Z N s t H a) (hb : IsBest (Z.filter fun a => decide (tm a ≤ H)) N s t H b) : a = b := by
  have a0 := best_nonneg hcap ha
  obtain ⟨⟨f, k, hf, ef⟩, ha2⟩ := ha
  obtain ⟨⟨g, m, hg, eg⟩, hb2⟩ := hb
  have hk := best_value ht0 hH hf (by omega)
  obtain ⟨f', k', hf', hle, hz⟩ := within hZ ht0 hs ht hne hH hk hf
  obtain ⟨p1, p2, p3⟩ := gathr_props (fun a => decide (tm a ≤ H)) hf'.1 (fun i c hi hq => hz i c hi (by simpa using hq))
  have h1 := hb2 (gathr (fun a => decide (tm a ≤ H)) Z f') k' ⟨p1, fun v hv h1 h2 => by rw [bal_balC, p2, ← bal_balC]; exact hf'.2.1 v hv h1 h2, by rw [bal_balC, p2, ← bal_balC]; exact hf'.2.2⟩
  have h2 := ha2 (spread (fun a => decide (tm a ≤ H)) Z g) m ⟨spread_flow _ hcap hg.1, fun v hv h1 h2 => by rw [bal_balC, spread_bal, ← bal_balC]; exact hg.2.1 v hv h1 h2, by rw [bal_balC, spread_bal, ← bal_balC]; exact hg.2.2⟩
  unfold worthK at h1 h2 hle ef eg
  rw [cost_costC, p3, ← cost_costC] at h1
  rw [cost_costC, spread_cost, ← cost_costC] at h2
  omega
end Go.Proofs.Ytbkmfjegbmjknaa
