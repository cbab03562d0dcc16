/- Lemmas of the layers below, several texts in one. -/
import Derived.Test.YtlkbohpnlbfopaaGreatBA
namespace Go.Proofs.YtlkbohpnlbfopaaGreat
set_option linter.unusedVariables false
section
variable {R : List ArcT} {c : ArcT → Int} {s N : Nat}
def NoGain (R : List ArcT) (c : ArcT → Int) (s : Nat) : Prop := ∀ p q u, (∀ a ∈ p, a ∈ R) → Chain s p u → (∀ a ∈ q, a ∈ R) → Chain u q u → 0 ≤ costP c q
theorem shortG (hs : s < N) (hZ : ∀ a ∈ R, toN a < N) (hc : NoGain R c s) {v : Nat} : ∀ (k : Nat) (p : List ArcT), p.length ≤ k → (∀ a ∈ p, a ∈ R) → Chain s p v →
    ∃ q, q.length < N ∧ (∀ a ∈ q, a ∈ R) ∧ Chain s q v ∧ costP c q ≤ costP c p
  | 0, p, hk, hp, h => ⟨p, by omega, hp, h, Int.le_refl _⟩
  | k + 1, p, hk, hp, h => by
    by_cases hl : p.length < N
    · exact ⟨p, hl, hp, h, Int.le_refl _⟩
    · have hb : ∀ x ∈ nodesOf s p, x < N := by
        intro x hx
        rcases List.mem_cons.1 hx with rfl | hx
        · exact hs
        · obtain ⟨a, ha, rfl⟩ := List.mem_map.1 hx
          exact hZ a (hp a ha)
      obtain ⟨i, j, m, hij, hj, h1, h2⟩ := twice hb (by rw [nodes_len]; omega)
      rw [nodes_len] at hj
      obtain ⟨m1, e1, c1, d1⟩ := chain_at h i (by omega)
      obtain ⟨m2, e2, c2, d2⟩ := chain_at h j (by omega)
      rw [h1] at e1; cases e1
      rw [h2] at e2; cases e2
      have hsub : ∀ a ∈ p.take i ++ p.drop j, a ∈ R := by
        intro a ha
        rcases List.mem_append.1 ha with ha | ha
        · exact hp a (List.mem_of_mem_take ha)
        · exact hp a (List.mem_of_mem_drop ha)
      have hlen : (p.take i ++ p.drop j).length ≤ k := by rw [List.length_append, List.length_take, List.length_drop]; omega
      obtain ⟨q, q1, q2, q3, q4⟩ := shortG hs hZ hc k (p.take i ++ p.drop j) hlen hsub (chain_app.2 ⟨m, c1, d2⟩)
      refine ⟨q, q1, q2, q3, Int.le_trans q4 ?_⟩
      have e0 : (p.drop i).take (j - i) ++ p.drop j = p.drop i := by
        have h5 := List.take_append_drop (j - i) (p.drop i)
        rw [List.drop_drop] at h5
        rw [show i + (j - i) = j by omega] at h5
        exact h5
      have e3 : p = p.take i ++ ((p.drop i).take (j - i) ++ p.drop j) := by rw [e0, List.take_append_drop]
      have hmc : Chain m ((p.drop i).take (j - i)) m := by
        have h6 : p.take j = p.take i ++ (p.drop i).take (j - i) := by
          have := List.take_add (l := p) (i := i) (j := j - i)
          rw [show i + (j - i) = j by omega] at this
          exact this
        rw [h6] at c2
        obtain ⟨m', g1, g2⟩ := chain_app.1 c2
        rw [chain_det g1 c1] at g2
        exact g2
      have hmid : 0 ≤ costP c ((p.drop i).take (j - i)) := hc (p.take i) _ m (fun a ha => hp a (List.mem_of_mem_take ha)) c1 (fun a ha => hp a (List.mem_of_mem_drop (List.mem_of_mem_take ha))) hmc
      conv => rhs; rw [e3]
      rw [cost_app, cost_app, cost_app]; omega
def getO (d : List (Option Int)) (v : Nat) : Option Int := d.getD v none
theorem getO_set {d : List (Option Int)} {v u : Nat} {x : Option Int} (hv : v < d.length) : getO (d.set v x) u = if u = v then x else getO d u := by
  unfold getO
  rw [List.getD_eq_getElem?_getD, List.getElem?_set, List.getD_eq_getElem?_getD]
  by_cases h : u = v
  · subst h; simp [hv]
  · rw [if_neg (fun e => h e.symm), if_neg h]
def gives (c : ArcT → Int) (d : List (Option Int)) (a : ArcT) : Bool := match getO d (frN a) with
  | none => false
  | some x => match getO d (toN a) with
    | none => true
    | some y => decide (x + c a < y)
def relaxO (c : ArcT → Int) (d : List (Option Int)) (a : ArcT) : List (Option Int) := if gives c d a then d.set (toN a) (some ((getO d (frN a)).getD 0 + c a)) else d
def relaxAllO (c : ArcT → Int) (Y : List ArcT) (d : List (Option Int)) : List (Option Int) := Y.foldl (relaxO c) d
def startO (N s : Nat) : List (Option Int) := (List.replicate N none).set s (some 0)
def bellK (c : ArcT → Int) (R : List ArcT) (N s : Nat) : Nat → List (Option Int)
  | 0 => startO N s
  | k + 1 => relaxAllO c R (bellK c R N s k)
theorem relaxO_len (d : List (Option Int)) (a : ArcT) : (relaxO c d a).length = d.length := by unfold relaxO; split <;> simp
theorem relaxAllO_len (Y : List ArcT) (d : List (Option Int)) : (relaxAllO c Y d).length = d.length := by
  unfold relaxAllO
  induction Y generalizing d with
  | nil => rfl
  | cons a r ih => rw [List.foldl_cons, ih, relaxO_len]
theorem bellK_len (k : Nat) : (bellK c R N s k).length = N := by
  induction k with
  | zero => simp [bellK, startO]
  | succ k ih => unfold bellK; rw [relaxAllO_len, ih]
def SoundO (R : List ArcT) (c : ArcT → Int) (s : Nat) (d : List (Option Int)) : Prop := ∀ v x, getO d v = some x → Reach R c s v x
def SeenO (R : List ArcT) (c : ArcT → Int) (s k : Nat) (d : List (Option Int)) : Prop := ∀ p v, (∀ a ∈ p, a ∈ R) → Chain s p v → p.length ≤ k → ∃ x, getO d v = some x ∧ x ≤ costP c p
def ClosedO (R : List ArcT) (c : ArcT → Int) (d : List (Option Int)) : Prop := ∀ a ∈ R, ∀ x, getO d (frN a) = some x → ∃ y, getO d (toN a) = some y ∧ y ≤ x + c a
theorem gives_false {d : List (Option Int)} {a : ArcT} : gives c d a = false ↔ ∀ x, getO d (frN a) = some x → ∃ y, getO d (toN a) = some y ∧ y ≤ x + c a := by
  unfold gives
  cases hf : getO d (frN a) with
  | none => simp
  | some x =>
    cases ht : getO d (toN a) with
    | none => simp
    | some y =>
      simp only [decide_eq_false_iff_not, Option.some.injEq]
      constructor
      · rintro h x' rfl; exact ⟨y, rfl, by omega⟩
      · intro h
        obtain ⟨y', e, h2⟩ := h x rfl
        cases e
        omega
theorem closed_iff {d : List (Option Int)} : ClosedO R c d ↔ ∀ a ∈ R, gives c d a = false := by
  constructor
  · intro h a ha; exact gives_false.2 (h a ha)
  · intro h a ha; exact gives_false.1 (h a ha)
theorem relaxO_sound {d : List (Option Int)} {a : ArcT} (ha : a ∈ R) (hto : toN a < d.length) (h : SoundO R c s d) : SoundO R c s (relaxO c d a) := by
  unfold relaxO
  split
  · next hg =>
    intro v x hx
    rw [getO_set hto] at hx
    split at hx
    · next e =>
      subst e
      cases hx
      cases hf : getO d (frN a) with
      | none => unfold gives at hg; rw [hf] at hg; cases hg
      | some y => exact reach_step (h _ _ hf) ha
    · exact h v x hx
  · exact h
theorem relaxO_less {d : List (Option Int)} {a : ArcT} (hto : toN a < d.length) {v : Nat} {x : Int} (h : getO d v = some x) : ∃ y, getO (relaxO c d a) v = some y ∧ y ≤ x := by
  unfold relaxO
  split
  · next hg =>
    rw [getO_set hto]
    split
    · next e =>
      subst e
      refine ⟨_, rfl, ?_⟩
      unfold gives at hg
      cases hf : getO d (frN a) with
      | none => rw [hf] at hg; cases hg
      | some z =>
        rw [hf, h] at hg
        simp only [decide_eq_true_eq] at hg
        simp only [Option.getD_some]
        omega
    · exact ⟨x, h, Int.le_refl _⟩
  · exact ⟨x, h, Int.le_refl _⟩
theorem relaxO_does {d : List (Option Int)} {a : ArcT} (hto : toN a < d.length) {x : Int} (h : getO d (frN a) = some x) : ∃ y, getO (relaxO c d a) (toN a) = some y ∧ y ≤ x + c a := by
  unfold relaxO
  split
  · next hg => rw [getO_set hto, if_pos rfl, h]; exact ⟨_, rfl, Int.le_refl _⟩
  · next hg => exact gives_false.1 (by simpa using hg) x h
theorem relaxAllO_props : ∀ (Y : List ArcT) (d : List (Option Int)), (∀ a ∈ Y, a ∈ R ∧ toN a < d.length) → SoundO R c s d →
    SoundO R c s (relaxAllO c Y d) ∧ (∀ v x, getO d v = some x → ∃ y, getO (relaxAllO c Y d) v = some y ∧ y ≤ x) ∧ (∀ a ∈ Y, ∀ x, getO d (frN a) = some x → ∃ y, getO (relaxAllO c Y d) (toN a) = some y ∧ y ≤ x + c a)
  | [], d, _, h => ⟨h, fun v x hx => ⟨x, hx, Int.le_refl _⟩, fun a ha => by cases ha⟩
  | b :: Y, d, hY, h => by
    obtain ⟨b1, b2⟩ := hY b (by simp)
    obtain ⟨i1, i2, i3⟩ := relaxAllO_props Y (relaxO c d b) (fun a ha => by rw [relaxO_len]; exact hY a (by simp [ha])) (relaxO_sound b1 b2 h)
    have e : relaxAllO c (b :: Y) d = relaxAllO c Y (relaxO c d b) := rfl
    rw [e]
    refine ⟨i1, fun v x hx => ?_, fun a ha x hx => ?_⟩
    · obtain ⟨y, h1, h2⟩ := relaxO_less (c := c) (a := b) b2 hx
      obtain ⟨z, h3, h4⟩ := i2 v y h1
      exact ⟨z, h3, by omega⟩
    · rcases List.mem_cons.1 ha with rfl | ha
      · obtain ⟨y, h1, h2⟩ := relaxO_does (c := c) b2 hx
        obtain ⟨z, h3, h4⟩ := i2 _ y h1
        exact ⟨z, h3, by omega⟩
      · obtain ⟨y, h1, h2⟩ := relaxO_less (c := c) (a := b) b2 hx
        obtain ⟨z, h3, h4⟩ := i3 a ha y h1
        exact ⟨z, h3, by omega⟩
theorem bellK_props (hs : s < N) (hZ : ∀ a ∈ R, toN a < N) (k : Nat) : SoundO R c s (bellK c R N s k) ∧ SeenO R c s k (bellK c R N s k) := by
  induction k with
  | zero =>
    have hg : ∀ v, getO (startO N s) v = if v = s then some 0 else none := by
      intro v
      unfold startO
      rw [getO_set (by simp; exact hs)]
      split
      · rfl
      · unfold getO; rw [List.getD_eq_getElem?_getD, List.getElem?_replicate]; split <;> rfl
    constructor
    · intro v x hx
      rw [show bellK c R N s 0 = startO N s from rfl, hg] at hx
      split at hx
      · next e => subst e; cases hx; exact reach_self R c v
      · cases hx
    · intro p v hp h hl
      have : p = [] := List.eq_nil_of_length_eq_zero (by omega)
      subst this
      simp only [Chain] at h
      subst h
      exact ⟨0, by rw [show bellK c R N s 0 = startO N s from rfl, hg, if_pos rfl], by simp [costP]⟩
  | succ k ih =>
    have hl := bellK_len (c := c) (R := R) (N := N) (s := s) k
    obtain ⟨r1, r2, r3⟩ := relaxAllO_props R (bellK c R N s k) (fun a ha => ⟨ha, by rw [hl]; exact hZ a ha⟩) ih.1
    refine ⟨r1, fun p v hp h hpl => ?_⟩
    show ∃ x, getO (relaxAllO c R (bellK c R N s k)) v = some x ∧ _
    by_cases hlen : p.length ≤ k
    · obtain ⟨x, h1, h2⟩ := ih.2 p v hp h hlen
      obtain ⟨y, h3, h4⟩ := r2 v x h1
      exact ⟨y, h3, by omega⟩
    · obtain ⟨q, a, rfl, h1, h2⟩ := chain_last h (by rintro rfl; simp at hlen)
      obtain ⟨x, h3, h4⟩ := ih.2 q (frN a) (fun x hx => hp x (by simp [hx])) h1 (by simp at hpl; omega)
      obtain ⟨y, h5, h6⟩ := r3 a (hp a (by simp)) x h3
      subst h2
      refine ⟨y, h5, ?_⟩
      rw [cost_app]
      have : costP c [a] = c a := by simp [costP]
      omega
theorem closed_chain {d : List (Option Int)} (h : ClosedO R c d) : ∀ (p : List ArcT) (u v : Nat) (x : Int), (∀ a ∈ p, a ∈ R) → Chain u p v → getO d u = some x → ∃ y, getO d v = some y ∧ y ≤ x + costP c p
  | [], u, v, x, _, hc, hx => by
    simp only [Chain] at hc
    subst hc
    exact ⟨x, hx, by simp [costP]⟩
  | a :: r, u, v, x, hp, hc, hx => by
    obtain ⟨e1, e2⟩ := hc
    subst e1
    obtain ⟨y, h1, h2⟩ := h a (hp a (by simp)) x hx
    obtain ⟨z, h3, h4⟩ := closed_chain h r _ v y (fun b hb => hp b (by simp [hb])) e2 h1
    refine ⟨z, h3, ?_⟩
    simp only [costP, List.map_cons, List.sum_cons] at h4 ⊢
    omega
theorem closed_noGain (hs : s < N) (hZ : ∀ a ∈ R, toN a < N) {k : Nat} (h : ClosedO R c (bellK c R N s k)) : NoGain R c s := by
  intro p q u hp hc hq hcq
  obtain ⟨x, h1, _⟩ := (bellK_props (c := c) hs hZ k).2 [] s (by simp) rfl (Nat.zero_le _)
  obtain ⟨y, h2, _⟩ := closed_chain h p s u x hp hc h1
  obtain ⟨z, h3, h4⟩ := closed_chain h q u u y hq hcq h2
  rw [h2] at h3
  cases h3
  omega
theorem noGain_closed (hs : s < N) (hZ : ∀ a ∈ R, toN a < N) (h : NoGain R c s) : ClosedO R c (bellK c R N s N) := by
  intro a ha x hx
  obtain ⟨h1, h2⟩ := bellK_props (c := c) (R := R) hs hZ N
  obtain ⟨p, p1, p2, p3⟩ := reach_step (h1 _ x hx) ha
  obtain ⟨q, q1, q2, q3, q4⟩ := shortG hs hZ h p.length p (Nat.le_refl _) p1 p2
  obtain ⟨y, h3, h4⟩ := h2 q _ q2 q3 (by omega)
  exact ⟨y, h3, by omega⟩
structure IsFarO (R : List ArcT) (c : ArcT → Int) (s N : Nat) (d : List (Option Int)) : Prop where
  len : d.length = N
  at_ : ∀ v, v < N → (getO d v = none ∧ ∀ t, ¬ Reach R c s v t) ∨ (∃ x, getO d v = some x ∧ Reach R c s v x ∧ ∀ t, Reach R c s v t → x ≤ t)
theorem isFarO_of {d : List (Option Int)} (hl : d.length = N) (h1 : SoundO R c s d) (h0 : ∃ x, getO d s = some x ∧ x ≤ 0) (h2 : ClosedO R c d) : IsFarO R c s N d := by
  obtain ⟨x0, e0, l0⟩ := h0
  have key : ∀ v t, Reach R c s v t → ∃ y, getO d v = some y ∧ y ≤ t := by
    rintro v t ⟨p, p1, p2, rfl⟩
    obtain ⟨y, g1, g2⟩ := closed_chain h2 p s v x0 p1 p2 e0
    exact ⟨y, g1, by omega⟩
  refine ⟨hl, fun v hv => ?_⟩
  cases hg : getO d v with
  | none =>
    refine .inl ⟨rfl, fun t ht => ?_⟩
    obtain ⟨y, g1, _⟩ := key v t ht
    rw [hg] at g1; cases g1
  | some x =>
    refine .inr ⟨x, rfl, h1 v x hg, fun t ht => ?_⟩
    obtain ⟨y, g1, g2⟩ := key v t ht
    rw [hg] at g1; cases g1
    exact g2
theorem bell_isFar (hs : s < N) (hZ : ∀ a ∈ R, toN a < N) (h : NoGain R c s) : IsFarO R c s N (bellK c R N s N) := by
  obtain ⟨h1, h2⟩ := bellK_props (c := c) (R := R) hs hZ N
  obtain ⟨x, g1, g2⟩ := h2 [] s (by simp) rfl (Nat.zero_le _)
  exact isFarO_of (bellK_len N) h1 ⟨x, g1, by simpa [costP] using g2⟩ (noGain_closed hs hZ h)
def TightP (R : List ArcT) (c : ArcT → Int) (p : Nat → Int) : Prop := ∀ a ∈ R, p (toN a) ≤ p (frN a) + c a
theorem tight_chain {p : Nat → Int} (h : TightP R c p) : ∀ (q : List ArcT) (u v : Nat), (∀ a ∈ q, a ∈ R) → Chain u q v → p v ≤ p u + costP c q
  | [], u, v, _, hc => by simp only [Chain] at hc; subst hc; simp [costP]
  | a :: r, u, v, hq, hc => by
    obtain ⟨e1, e2⟩ := hc
    subst e1
    have h1 := h a (hq a (by simp))
    have h2 := tight_chain h r _ v (fun b hb => hq b (by simp [hb])) e2
    simp only [costP, List.map_cons, List.sum_cons] at h2 ⊢
    omega
theorem tight_noGain {p : Nat → Int} (h : TightP R c p) (s : Nat) : NoGain R c s := fun q r u _ _ hr hc => by
  have := tight_chain h r u u hr hc
  omega
end
def tmS (Z : List ArcT) (x : StepT) : Int := if x.2 then - tm (arcOf Z x) else tm (arcOf Z x)
def TightF (Z : List ArcT) (f : List Int) (p : Nat → Int) : Prop := ∀ x : StepT, isArc Z x → 0 < leftS Z f x → p (toS Z x) ≤ p (fromS Z x) + tmS Z x
def potK (Z : List ArcT) (f : List Int) (p : Nat → Int) : Nat → Int
  | 0 => 0
  | i + 1 => potK Z f p i + match Z[i]? with | some a => atI f i * (p (frN a) - p (toN a)) | none => 0
theorem potK_succ {Z : List ArcT} {f : List Int} {p : Nat → Int} {i : Nat} {a : ArcT} (h : Z[i]? = some a) : potK Z f p (i + 1) = potK Z f p i + atI f i * (p (frN a) - p (toN a)) := by
  show potK Z f p i + _ = _
  rw [h]
theorem pot_share {a : ArcT} {x : Int} {p : Nat → Int} {N : Nat} (hf : frN a < N) (ht : toN a < N) : sumTo (fun v => p v * share a x v) N = x * (p (frN a) - p (toN a)) := by
  have e : sumTo (fun v => p v * share a x v) N = sumTo (fun v => (if frN a = v then p (frN a) * x else 0) + (- (if toN a = v then p (toN a) * x else 0))) N := sumTo_congr (fun v _ => by
    unfold share
    by_cases h1 : frN a = v
    · subst h1
      by_cases h2 : toN a = frN a
      · rw [if_pos rfl, if_pos h2, if_pos rfl, if_pos h2, h2]; simp; omega
      · rw [if_pos rfl, if_neg h2, if_pos rfl, if_neg h2]; simp
    · by_cases h2 : toN a = v
      · subst h2; rw [if_neg h1, if_pos rfl, if_neg h1, if_pos rfl]; simp [Int.mul_neg]
      · rw [if_neg h1, if_neg h2, if_neg h1, if_neg h2]; simp)
  rw [e, sumTo_add, sumTo_neg, sumTo_one, sumTo_one, if_pos hf, if_pos ht, Int.mul_sub, Int.mul_comm x, Int.mul_comm x]
  omega
theorem pot_sum {Z : List ArcT} {f : List Int} {p : Nat → Int} {N : Nat} (hZ : ∀ a ∈ Z, frN a < N ∧ toN a < N) : ∀ i, sumTo (fun v => p v * balK Z f v i) N = potK Z f p i
  | 0 => by
    rw [sumTo_congr (h := fun _ => 0) (fun v _ => by simp [balK])]
    exact sumTo_zero N
  | i + 1 => by
    cases hz : Z[i]? with
    | none =>
      rw [sumTo_congr (h := fun v => p v * balK Z f v i) (fun v _ => by
        have e : balK Z f v (i + 1) = balK Z f v i := by show balK Z f v i + _ = _; rw [hz]; simp
        rw [e]), pot_sum hZ i]
      show _ = potK Z f p i + _
      rw [hz]; simp
    | some a =>
      have ha := hZ a (List.mem_of_getElem? hz)
      rw [sumTo_congr (h := fun v => p v * balK Z f v i + p v * share a (atI f i) v) (fun v _ => by rw [balK_succ hz, Int.mul_add]), sumTo_add, pot_sum hZ i, pot_share ha.1 ha.2, potK_succ hz]
theorem dual_cost {Z : List ArcT} {f g : List Int} {p : Nat → Int} (hf : Flow Z f) (hg : Flow Z g) (hp : TightF Z f p) : ∀ i, costK Z f i + potK Z f p i ≤ costK Z g i + potK Z g p i
  | 0 => Int.le_refl _
  | i + 1 => by
    have ih := dual_cost hf hg hp i
    cases hz : Z[i]? with
    | none =>
      show costK Z f i + _ + (potK Z f p i + _) ≤ costK Z g i + _ + (potK Z g p i + _)
      rw [hz]
      simpa using ih
    | some a =>
      rw [costK_succ hz, costK_succ hz, potK_succ hz, potK_succ hz]
      have hlt : i < Z.length := (List.getElem?_eq_some_iff.1 hz).1
      have h1 := hf.2 i a hz
      have h2 := hg.2 i a hz
      have ea : ∀ b : Bool, arcOf Z ((i : Int), b) = a := by
        intro b; unfold arcOf; rw [Int.toNat_natCast, List.getD_eq_getElem?_getD, hz]; rfl
      have hx : ∀ b : Bool, isArc Z ((i : Int), b) := fun b => ⟨by simp, by simp only; omega⟩
      have along : atI f i < capN a → p (toN a) ≤ p (frN a) + tm a := fun h => by
        have := hp ((i : Int), false) (hx false) (by unfold leftS; simp only [Bool.false_eq_true, if_false, Int.toNat_natCast, ea]; omega)
        unfold toS fromS tmS at this
        simpa only [Bool.false_eq_true, if_false, ea] using this
      have back : 0 < atI f i → p (frN a) ≤ p (toN a) - tm a := fun h => by
        have := hp ((i : Int), true) (hx true) (by unfold leftS; simp only [if_true, Int.toNat_natCast]; exact h)
        unfold toS fromS tmS at this
        simp only [if_true, ea] at this
        omega
      have key : 0 ≤ (atI g i - atI f i) * (tm a + (p (frN a) - p (toN a))) := by
        rcases Int.lt_trichotomy (atI g i) (atI f i) with h | h | h
        · have h3 := back (by omega)
          exact Int.mul_nonneg_of_nonpos_of_nonpos (by omega) (by omega)
        · rw [h]; simp
        · have h3 := along (by omega)
          exact Int.mul_nonneg (by omega) (by omega)
      have ex : (atI g i - atI f i) * (tm a + (p (frN a) - p (toN a))) = (atI g i * tm a + atI g i * (p (frN a) - p (toN a))) - (atI f i * tm a + atI f i * (p (frN a) - p (toN a))) := by
        rw [Int.sub_mul, Int.mul_add, Int.mul_add]
      omega
theorem dual_value {Z : List ArcT} {N s t : Nat} {f g : List Int} {p : Nat → Int} {k m : Int} (hZ : ∀ a ∈ Z, frN a < N ∧ toN a < N) (hs : s < N) (ht : t < N) (hne : s ≠ t) (hf : FlowST Z N s t f k) (hg : FlowST Z N s t g m) (hp : TightF Z f p) : costK Z f Z.length + (p s - p t) * k ≤ costK Z g Z.length + (p s - p t) * m := by
  have h1 := dual_cost hf.1 hg.1 hp Z.length
  have val : ∀ (h : List Int) (n : Int), FlowST Z N s t h n → potK Z h p Z.length = (p s - p t) * n := by
    intro h n hh
    have h2 := bal_sum (Z := Z) (f := h) hZ
    have h3 := sum_two (g := bal Z h) hs ht hne hh.2.1
    have h4 : bal Z h t = - n := by have := hh.2.2; omega
    rw [← pot_sum hZ Z.length, sum_two (g := fun v => p v * balK Z h v Z.length) hs ht hne (fun v hv a b => by have := hh.2.1 v hv a b; unfold bal at this; rw [this]; simp)]
    show p s * bal Z h s + p t * bal Z h t = _
    rw [hh.2.2, h4, Int.sub_mul, Int.mul_neg]
    omega
  rw [val f k hf, val g m hg] at h1
  exact h1
end Go.Proofs.YtlkbohpnlbfopaaGreat
namespace Go.Proofs.YtlkbohpnlbfopaaGreat
set_option linter.unusedVariables false
def EvenS (Z : List ArcT) (p : Nat → Int) (x : StepT) : Prop := p (toS Z x) = p (fromS Z x) + tmS Z x
theorem even_flip {Z : List ArcT} {p : Nat → Int} {x : StepT} (h : EvenS Z p x) : EvenS Z p (flipS x) := by
  unfold EvenS toS fromS tmS at *
  have e : arcOf Z (flipS x) = arcOf Z x := rfl
  rw [e]
  cases hb : x.2 <;> simp [flipS, hb] at h ⊢ <;> omega
theorem tight_stepTo {Z : List ArcT} {f : List Int} {p : Nat → Int} {k : Int} {x : StepT} (hl : f.length = Z.length) (h : TightF Z f p) (hx : isArc Z x) (he : EvenS Z p x) : TightF Z (stepTo k f x) p := by
  intro y hy hr
  have hlt : x.1.toNat < f.length := by unfold isArc at hx; omega
  by_cases e : y.1 = x.1
  · have : y = x ∨ y = flipS x := by
      obtain ⟨y1, y2⟩ := y
      obtain ⟨x1, x2⟩ := x
      simp only at e
      subst e
      cases y2 <;> cases x2 <;> simp [flipS]
    rcases this with rfl | rfl
    · exact Int.le_of_eq he
    · exact Int.le_of_eq (even_flip he)
  · have e2 : y.1.toNat ≠ x.1.toNat := by unfold isArc at hx hy; omega
    apply h y hy
    unfold leftS at hr ⊢
    rw [stepTo_at hlt, if_neg e2] at hr
    exact hr
theorem tight_push {Z : List ArcT} {p : Nat → Int} {k : Int} : ∀ (l : List StepT) (f : List Int), f.length = Z.length → TightF Z f p → (∀ x ∈ l, EvenS Z p x) → (pushL Z k f l).1 = 0 → TightF Z (pushL Z k f l).2 p
  | [], f, _, h, _, _ => h
  | x :: r, f, hl, h, he, h0 => by
    have hx : isArc Z x := Classical.byContradiction fun hx => by unfold pushL at h0; rw [if_neg hx] at h0; cases h0
    have hlx : ¬ leftS Z f x < k := fun hl => by unfold pushL at h0; rw [if_pos hx, if_pos hl] at h0; cases h0
    have e : pushL Z k f (x :: r) = pushL Z k (stepTo k f x) r := by show (if _ then _ else _) = _; rw [if_pos hx, if_neg hlx]
    rw [e] at h0 ⊢
    exact tight_push r _ (by rw [stepTo_len]; exact hl) (tight_stepTo hl h hx (he x (by simp))) (fun y hy => he y (by simp [hy])) h0
theorem worth_top {Z : List ArcT} {N s t : Nat} {f g : List Int} {p q : Nat → Int} {k m H : Int} (hZ : ∀ a ∈ Z, frN a < N ∧ toN a < N) (hs : s < N) (ht : t < N) (hne : s ≠ t) (hf : FlowST Z N s t f k) (hg : FlowST Z N s t g m)
    (hp : TightF Z f p) (hq : TightF Z f q) (h1 : p t - p s ≤ H) (h2 : H ≤ q t - q s) : H * m - costK Z g Z.length ≤ H * k - costK Z f Z.length := by
  have a1 := dual_value hZ hs ht hne hf hg hp
  have a2 := dual_value hZ hs ht hne hf hg hq
  have e1 : (p s - p t) * k - (p s - p t) * m = (p t - p s) * (m - k) := by rw [Int.mul_sub, Int.sub_mul, Int.sub_mul, Int.sub_mul, Int.sub_mul]; omega
  have e2 : (q s - q t) * k - (q s - q t) * m = (q t - q s) * (m - k) := by rw [Int.mul_sub, Int.sub_mul, Int.sub_mul, Int.sub_mul, Int.sub_mul]; omega
  have e3 : H * (m - k) = H * m - H * k := Int.mul_sub ..
  by_cases h : k ≤ m
  · have := Int.mul_le_mul_of_nonneg_right h2 (show 0 ≤ m - k by omega)
    omega
  · have := Int.mul_le_mul_of_nonpos_right h1 (show m - k ≤ 0 by omega)
    omega
theorem tight_zero {Z : List ArcT} {f : List Int} (h : ∀ i, atI f i = 0) (ht : ∀ a ∈ Z, 0 ≤ tm a) : TightF Z f (fun _ => 0) := by
  intro x hx hr
  have ha := List.mem_of_getElem? (arcOf_at hx)
  have := ht _ ha
  unfold leftS at hr
  rw [h] at hr
  unfold tmS
  cases hb : x.2 <;> simp [hb] at hr ⊢
  exact this
theorem bound_list (L : List Int) : ∃ M, ∀ x ∈ L, x ≤ M := by
  induction L with
  | nil => exact ⟨0, by simp⟩
  | cons y r ih =>
    obtain ⟨M, h⟩ := ih
    refine ⟨max M y, fun x hx => ?_⟩
    rcases List.mem_cons.1 hx with rfl | hx
    · omega
    · have := h x hx; omega
theorem far_tight {R : List ArcT} {c : ArcT → Int} {s N : Nat} {d : List (Option Int)} {q : Nat → Int} (hZ : ∀ a ∈ R, frN a < N ∧ toN a < N) (hd : ClosedO R c d) (hq : TightP R c q) (B : Int) :
    ∃ p, TightP R c p ∧ (∀ v x, getO d v = some x → p v = x) ∧ ∀ v, v < N → getO d v = none → B ≤ p v := by
  obtain ⟨M1, h1⟩ := bound_list (R.map fun a => (getO d (toN a)).getD 0 - q (frN a) - c a)
  obtain ⟨M2, h2⟩ := bound_list ((List.range N).map fun v => B - q v)
  refine ⟨fun v => match getO d v with | some x => x | none => q v + max M1 M2, fun a ha => ?_, fun v x hx => by simp [hx], fun v hv hn => ?_⟩
  · simp only
    have b1 := h1 _ (List.mem_map.2 ⟨a, ha, rfl⟩)
    cases hf : getO d (frN a) with
    | some x =>
      obtain ⟨y, g1, g2⟩ := hd a ha x hf
      rw [g1]
      exact g2
    | none =>
      cases ht : getO d (toN a) with
      | some y =>
        rw [ht] at b1
        simp only [Option.getD_some] at b1 ⊢
        omega
      | none =>
        simp only
        have := hq a ha
        omega
  · have b2 := h2 _ (List.mem_map.2 ⟨v, by simpa using hv, rfl⟩)
    simp only [hn]
    omega
end Go.Proofs.YtlkbohpnlbfopaaGreat
namespace Go.Proofs.YtlkbohpnlbfopaaGreat
set_option linter.unusedVariables false
def alongK (f : List Int) : Nat → List StepT
  | 0 => []
  | i + 1 => alongK f i ++ if 0 < atI f i then [((i : Int), false)] else []
theorem alongK_mem {f : List Int} {x : StepT} : ∀ {i}, x ∈ alongK f i ↔ x.2 = false ∧ 0 ≤ x.1 ∧ x.1 < (i : Int) ∧ 0 < atI f x.1.toNat
  | 0 => by
    constructor
    · intro h; cases h
    · rintro ⟨_, h1, h2, _⟩; omega
  | i + 1 => by
    show x ∈ alongK f i ++ _ ↔ _
    rw [List.mem_append, alongK_mem]
    constructor
    · rintro (⟨h1, h2, h3, h4⟩ | h)
      · exact ⟨h1, h2, by omega, h4⟩
      · split at h
        · next hc =>
          rw [List.mem_singleton] at h
          subst h
          exact ⟨rfl, by simp, by simp only; omega, by simpa using hc⟩
        · cases h
    · rintro ⟨h1, h2, h3, h4⟩
      by_cases hx : x.1 < (i : Int)
      · exact .inl ⟨h1, h2, hx, h4⟩
      · right
        have he : x.1 = (i : Int) := by omega
        obtain ⟨y, q⟩ := x
        simp only at he h1
        subst he
        subst h1
        rw [if_pos (by simpa using h4)]
        simp
def alongL (f : List Int) : List StepT := alongK f f.length
theorem along_arc {Z : List ArcT} {f : List Int} (hf : f.length = Z.length) {x : StepT} (h : x ∈ alongL f) : isArc Z x ∧ x.2 = false ∧ 0 < atI f x.1.toNat := by
  obtain ⟨h1, h2, h3, h4⟩ := alongK_mem.1 h
  exact ⟨⟨h2, by omega⟩, h1, h4⟩
theorem along_mk {Z : List ArcT} {f : List Int} (hf : f.length = Z.length) {x : StepT} (h : isArc Z x) (h2 : x.2 = false) (h3 : 0 < atI f x.1.toNat) : x ∈ alongL f := alongK_mem.2 ⟨h2, h.1, by have := h.2; omega, h3⟩
theorem along_to {Z : List ArcT} {f : List Int} {N : Nat} (hZ : ∀ a ∈ Z, frN a < N ∧ toN a < N) (hf : f.length = Z.length) : ∀ x ∈ alongL f, toS Z x < N ∧ fromS Z x < N := by
  intro x hx
  obtain ⟨h1, h2, _⟩ := along_arc hf hx
  have ha := hZ _ (List.mem_of_getElem? (arcOf_at h1))
  unfold toS fromS
  rw [h2]
  simp only [Bool.false_eq_true, if_false]
  exact ⟨ha.2, ha.1⟩
def takeK (k : Int) (f : List Int) (l : List StepT) : List Int := l.foldl (fun f x => f.set x.1.toNat (atI f x.1.toNat - k)) f
theorem takeK_len (k : Int) : ∀ (l : List StepT) (f : List Int), (takeK k f l).length = f.length
  | [], f => rfl
  | x :: r, f => by
    show (takeK k _ r).length = _
    rw [takeK_len k r]; simp
theorem takeK_other {k : Int} {i : Nat} : ∀ (l : List StepT) (f : List Int), (∀ x ∈ l, x.1.toNat < f.length ∧ x.1.toNat ≠ i) → atI (takeK k f l) i = atI f i
  | [], f, _ => rfl
  | x :: r, f, h => by
    obtain ⟨h1, h2⟩ := h x (by simp)
    show atI (takeK k _ r) i = _
    rw [takeK_other r _ (fun y hy => by have := h y (by simp [hy]); exact ⟨by simpa using this.1, this.2⟩), atI_set h1, if_neg (fun e => h2 e.symm)]
theorem takeK_at {k : Int} : ∀ (l : List StepT) (f : List Int), (∀ x ∈ l, x.1.toNat < f.length) → (l.map fun x => x.1.toNat).Nodup → ∀ x ∈ l, atI (takeK k f l) x.1.toNat = atI f x.1.toNat - k
  | [], f, _, _, x, hx => by cases hx
  | y :: r, f, hl, hn, x, hx => by
    rw [List.map_cons, List.nodup_cons] at hn
    show atI (takeK k (f.set _ _) r) _ = _
    rcases List.mem_cons.1 hx with rfl | hx
    · rw [takeK_other r _ (fun z hz => ⟨by have := hl z (by simp [hz]); simpa using this, fun e => hn.1 (by rw [List.mem_map]; exact ⟨z, hz, e⟩)⟩), atI_set (hl x (by simp)), if_pos rfl]
    · rw [takeK_at r _ (fun z hz => by have := hl z (by simp [hz]); simpa using this) hn.2 x hx, atI_set (hl y (by simp)), if_neg (fun e => hn.1 (by rw [List.mem_map]; exact ⟨x, hx, e⟩))]
theorem toNat_nodup {Z : List ArcT} {l : List StepT} (h : ∀ x ∈ l, isArc Z x) (hn : (l.map fun x => x.1).Nodup) : (l.map fun x => x.1.toNat).Nodup := by
  induction l with
  | nil => exact List.nodup_nil
  | cons x r ih =>
    rw [List.map_cons, List.nodup_cons] at hn ⊢
    refine ⟨fun hm => ?_, ih (fun y hy => h y (by simp [hy])) hn.2⟩
    obtain ⟨y, hy, e⟩ := List.mem_map.1 hm
    have h1 := (h x (by simp)).1
    have h2 := (h y (by simp [hy])).1
    exact hn.1 (by rw [List.mem_map]; exact ⟨y, hy, by omega⟩)
def leastK (f : List Int) : List StepT → Int
  | [] => 0
  | x :: r => r.foldl (fun k y => min k (atI f y.1.toNat)) (atI f x.1.toNat)
theorem minF_le {f : List Int} : ∀ (l : List StepT) (k : Int), l.foldl (fun k y => min k (atI f y.1.toNat)) k ≤ k ∧ ∀ x ∈ l, l.foldl (fun k y => min k (atI f y.1.toNat)) k ≤ atI f x.1.toNat
  | [], k => ⟨Int.le_refl _, fun x hx => (by cases hx)⟩
  | y :: r, k => by
    obtain ⟨h1, h2⟩ := minF_le (f := f) r (min k (atI f y.1.toNat))
    rw [List.foldl_cons]
    refine ⟨by omega, fun x hx => ?_⟩
    rcases List.mem_cons.1 hx with rfl | hx
    · omega
    · exact h2 x hx
theorem minF_is {f : List Int} : ∀ (l : List StepT) (k : Int), l.foldl (fun k y => min k (atI f y.1.toNat)) k = k ∨ ∃ x ∈ l, l.foldl (fun k y => min k (atI f y.1.toNat)) k = atI f x.1.toNat
  | [], k => .inl rfl
  | y :: r, k => by
    rw [List.foldl_cons]
    rcases minF_is (f := f) r (min k (atI f y.1.toNat)) with h | ⟨x, hx, h⟩
    · rw [h]
      rcases Int.le_total k (atI f y.1.toNat) with h2 | h2
      · exact .inl (by omega)
      · exact .inr ⟨y, by simp, by omega⟩
    · exact .inr ⟨x, by simp [hx], h⟩
theorem least_le {f : List Int} : ∀ {l : List StepT}, ∀ x ∈ l, leastK f l ≤ atI f x.1.toNat
  | [], x, hx => by cases hx
  | y :: r, x, hx => by
    obtain ⟨h1, h2⟩ := minF_le (f := f) r (atI f y.1.toNat)
    rcases List.mem_cons.1 hx with rfl | hx
    · exact h1
    · exact h2 x hx
theorem least_is {f : List Int} : ∀ {l : List StepT}, l ≠ [] → ∃ x ∈ l, leastK f l = atI f x.1.toNat
  | [], h => absurd rfl h
  | y :: r, _ => by
    rcases minF_is (f := f) r (atI f y.1.toNat) with h | ⟨x, hx, h⟩
    · exact ⟨y, by simp, h⟩
    · exact ⟨x, by simp [hx], h⟩
theorem bal_setArc {Z : List ArcT} {f : List Int} {x : StepT} (hf : f.length = Z.length) (hx : isArc Z x) (hq : x.2 = false) (k : Int) (w : Nat) : bal Z (f.set x.1.toNat (atI f x.1.toNat - k)) w = bal Z f w - (if fromS Z x = w then k else 0) + (if toS Z x = w then k else 0) := by
  have e : f.set x.1.toNat (atI f x.1.toNat - k) = stepTo k f (flipS x) := by
    unfold stepTo flipS
    rw [hq]
    rfl
  have h1 := bal_step (k := k) (x := flipS x) hf hx w
  rw [e, h1]
  have e1 : fromS Z (flipS x) = toS Z x := by unfold fromS toS flipS arcOf; rw [hq]; rfl
  have e2 : toS Z (flipS x) = fromS Z x := by unfold fromS toS flipS arcOf; rw [hq]; rfl
  rw [e1, e2]
  omega
theorem take_bal {Z : List ArcT} {k : Int} (w : Nat) : ∀ (l : List StepT) (f : List Int) (u v : Nat), f.length = Z.length → (∀ x ∈ l, x.2 = false) → Trail Z u l v → bal Z (takeK k f l) w = bal Z f w - (if u = w then k else 0) + (if v = w then k else 0)
  | [], f, u, v, _, _, h => by
    simp only [Trail] at h
    subst h
    show bal Z f w = _
    omega
  | x :: r, f, u, v, hf, hq, h => by
    obtain ⟨h1, h2, h3⟩ := h
    show bal Z (takeK k (f.set _ _) r) w = _
    rw [take_bal w r _ _ v (by simpa using hf) (fun y hy => hq y (by simp [hy])) h3, bal_setArc hf h2 (hq x (by simp)), h1]
    omega
theorem take_flow {Z : List ArcT} {f : List Int} {l : List StepT} {k : Int} (hf : Flow Z f) (hl : ∀ x ∈ l, isArc Z x ∧ k ≤ atI f x.1.toNat) (hn : (l.map fun x => x.1).Nodup) (hk : 0 ≤ k) : Flow Z (takeK k f l) := by
  refine ⟨by rw [takeK_len]; exact hf.1, fun i a hi => ?_⟩
  have hb := hf.2 i a hi
  have hlen : ∀ x ∈ l, x.1.toNat < f.length := fun x hx => by rw [hf.1]; exact (List.getElem?_eq_some_iff.1 (arcOf_at (hl x hx).1)).1
  by_cases hm : ∃ x ∈ l, x.1.toNat = i
  · obtain ⟨x, hx, rfl⟩ := hm
    rw [takeK_at l f hlen (toNat_nodup (fun y hy => (hl y hy).1) hn) x hx]
    have := (hl x hx).2
    omega
  · rw [takeK_other l f (fun x hx => ⟨hlen x hx, fun e => hm ⟨x, hx, e⟩⟩)]
    exact hb
def posK (f : List Int) : Nat → Nat
  | 0 => 0
  | i + 1 => posK f i + if 0 < atI f i then 1 else 0
theorem posK_le (f : List Int) : ∀ i, posK f i ≤ i
  | 0 => Nat.le_refl _
  | i + 1 => by
    have := posK_le f i
    show posK f i + _ ≤ _
    split <;> omega
theorem posK_mono {f g : List Int} (h : ∀ i, 0 < atI g i → 0 < atI f i) : ∀ i, posK g i ≤ posK f i
  | 0 => Nat.le_refl _
  | i + 1 => by
    have ih := posK_mono h i
    show posK g i + _ ≤ posK f i + _
    by_cases h1 : 0 < atI g i
    · rw [if_pos h1, if_pos (h i h1)]; omega
    · rw [if_neg h1]; split <;> omega
theorem posK_less {f g : List Int} (h : ∀ i, 0 < atI g i → 0 < atI f i) {j : Nat} (hj : 0 < atI f j) (hg : ¬ 0 < atI g j) : ∀ i, j < i → posK g i < posK f i
  | 0, hi => by omega
  | i + 1, hi => by
    show posK g i + _ < posK f i + _
    by_cases e : j = i
    · subst e
      have := posK_mono h j
      rw [if_pos hj, if_neg hg]; omega
    · have ih := posK_less h hj hg i (by omega)
      by_cases h1 : 0 < atI g i
      · rw [if_pos h1, if_pos (h i h1)]; omega
      · rw [if_neg h1]; split <;> omega
structure Takes (Z : List ArcT) (f : List Int) (u v : Nat) (l : List StepT) : Prop where
  trail : Trail Z u l v
  some : l ≠ []
  mem : ∀ x ∈ l, x ∈ alongL f
  once : (l.map fun x => x.1).Nodup
  ends : (l.map (toS Z)).Nodup
  head : u ≠ v → u ∉ l.map (toS Z)
theorem Takes.props {Z : List ArcT} {f : List Int} {u v : Nat} {l : List StepT} (h : Takes Z f u v l) (hf : Flow Z f) :
    1 ≤ leastK f l ∧ Flow Z (takeK (leastK f l) f l) ∧ (∀ w, bal Z (takeK (leastK f l) f l) w = bal Z f w - (if u = w then leastK f l else 0) + (if v = w then leastK f l else 0)) ∧ (∀ i, 0 < atI (takeK (leastK f l) f l) i → 0 < atI f i) ∧ posK (takeK (leastK f l) f l) f.length < posK f f.length := by
  have hm := fun x hx => along_arc hf.1 (h.mem x hx)
  obtain ⟨z, hz, ez⟩ := least_is (f := f) h.some
  have h1 : 1 ≤ leastK f l := by rw [ez]; have := (hm z hz).2.2; omega
  have hlen : ∀ x ∈ l, x.1.toNat < f.length := fun x hx => by rw [hf.1]; exact (List.getElem?_eq_some_iff.1 (arcOf_at (hm x hx).1)).1
  have hn := toNat_nodup (fun y hy => (hm y hy).1) h.once
  have hpos : ∀ i, 0 < atI (takeK (leastK f l) f l) i → 0 < atI f i := by
    intro i hi
    by_cases he : ∃ x ∈ l, x.1.toNat = i
    · obtain ⟨x, hx, rfl⟩ := he
      exact (hm x hx).2.2
    · rw [takeK_other l f (fun x hx => ⟨hlen x hx, fun e => he ⟨x, hx, e⟩⟩)] at hi
      exact hi
  refine ⟨h1, take_flow hf (fun x hx => ⟨(hm x hx).1, least_le x hx⟩) h.once (by omega), fun w => take_bal w l f u v hf.1 (fun x hx => (hm x hx).2.1) h.trail, hpos, ?_⟩
  refine posK_less hpos (j := z.1.toNat) (hm z hz).2.2 ?_ _ (hlen z hz)
  rw [takeK_at l f hlen hn z hz, ez]
  omega
theorem way_takes {Z : List ArcT} {f : List Int} {N s t : Nat} {l : List StepT} (hZ : ∀ a ∈ Z, frN a < N ∧ toN a < N) (hf : f.length = Z.length) (hs : s < N) (hne : s ≠ t) (h : wayK (fromS Z) (toS Z) (alongL f) N s t = some l) : Takes Z f s t l := by
  obtain ⟨w1, w2, w3, w4⟩ := way_props hs (fun y hy => (along_to hZ hf y hy).1) h
  refine ⟨walk_trail w1 (fun x hx => (along_arc hf (w2 x hx)).1), ?_, w2, arcs_nodup w1 w3 w4, w3, fun _ => w4⟩
  rintro rfl
  exact hne w1
theorem cycle_takes {Z : List ArcT} {f : List Int} {N : Nat} {x : StepT} {l : List StepT} (hZ : ∀ a ∈ Z, frN a < N ∧ toN a < N) (hf : f.length = Z.length) (hx : x ∈ alongL f) (hne : toS Z x ≠ fromS Z x) (h : wayK (fromS Z) (toS Z) (alongL f) N (toS Z x) (fromS Z x) = some l) : Takes Z f (fromS Z x) (fromS Z x) (x :: l) := by
  obtain ⟨w1, w2, w3, w4⟩ := way_props (along_to hZ hf x hx).1 (fun y hy => (along_to hZ hf y hy).1) h
  have hxa := along_arc hf hx
  refine ⟨⟨rfl, hxa.1, walk_trail w1 (fun y hy => (along_arc hf (w2 y hy)).1)⟩, by simp, ?_, ?_, by rw [List.map_cons, List.nodup_cons]; exact ⟨w4, w3⟩, fun h => absurd rfl h⟩
  · intro y hy
    rcases List.mem_cons.1 hy with rfl | hy
    · exact hx
    · exact w2 y hy
  · rw [List.map_cons, List.nodup_cons]
    refine ⟨fun hm => ?_, arcs_nodup w1 w3 w4⟩
    obtain ⟨y, hy, e⟩ := List.mem_map.1 hm
    apply w4
    rw [List.mem_map]
    refine ⟨y, hy, ?_⟩
    have hya := along_arc hf (w2 y hy)
    unfold toS
    rw [hya.2.1, hxa.2.1]
    have ea : arcOf Z y = arcOf Z x := by unfold arcOf; rw [e]
    rw [ea]
theorem loop_takes {Z : List ArcT} {f : List Int} {x : StepT} (hf : f.length = Z.length) (hx : x ∈ alongL f) (he : toS Z x = fromS Z x) : Takes Z f (fromS Z x) (fromS Z x) [x] := by
  refine ⟨⟨rfl, (along_arc hf hx).1, he⟩, by simp, ?_, by simp, by simp, fun h => absurd rfl h⟩
  intro y hy
  rw [List.mem_singleton] at hy
  subst hy
  exact hx
end Go.Proofs.YtlkbohpnlbfopaaGreat
namespace Go.Proofs.YtlkbohpnlbfopaaGreat
set_option linter.unusedVariables false
theorem cross_closed {Z : List ArcT} {f : List Int} {S : Nat → Bool} (hf : Flow Z f) (h : ∀ i a, Z[i]? = some a → outS S a = true → atI f i = 0) : ∀ n, crossK Z f S n ≤ 0 ∧ ∀ j a, j < n → Z[j]? = some a → intoS S a = true → crossK Z f S n ≤ - atI f j
  | 0 => ⟨by simp [crossK], fun j a hj => (by omega)⟩
  | n + 1 => by
    obtain ⟨ih1, ih2⟩ := cross_closed hf h n
    cases hz : Z[n]? with
    | none =>
      have e : crossK Z f S (n + 1) = crossK Z f S n := by show crossK Z f S n + _ = _; rw [hz]; simp
      rw [e]
      refine ⟨ih1, fun j a hj ha hi => ?_⟩
      have : j ≠ n := by rintro rfl; rw [hz] at ha; cases ha
      exact ih2 j a (by omega) ha hi
    | some a =>
      rw [crossK_succ hz]
      have hb := hf.2 n a hz
      have h0 : (if outS S a = true then atI f n else 0) = 0 := by
        split
        · next ho => exact h n a hz ho
        · rfl
      rw [h0]
      refine ⟨by split <;> omega, fun j c hj hc hi => ?_⟩
      by_cases e : j = n
      · subst e
        rw [hz] at hc
        cases hc
        rw [if_pos hi]
        omega
      · have := ih2 j c (by omega) hc hi
        split <;> omega
theorem two_sum {g : Nat → Int} {S : Nat → Bool} {N s t : Nat} (hs : s < N) (ht : t < N) (hne : s ≠ t) (h : ∀ v, v < N → v ≠ s → v ≠ t → g v = 0) : sumTo (fun v => if S v then g v else 0) N = (if S s then g s else 0) + (if S t then g t else 0) := by
  exact sum_two (g := fun v => if S v then g v else 0) hs ht hne (fun v hv h1 h2 => by simp only [h v hv h1 h2]; split <;> rfl)
theorem flow_sink {Z : List ArcT} {N s t : Nat} {f : List Int} {k : Int} (hZ : ∀ a ∈ Z, frN a < N ∧ toN a < N) (hs : s < N) (ht : t < N) (hne : s ≠ t) (h : FlowST Z N s t f k) : bal Z f t = - k := by
  have h1 := sum_two (g := bal Z f) hs ht hne h.2.1
  rw [bal_sum hZ, h.2.2] at h1
  omega
def NoCyc (Z : List ArcT) (N : Nat) (f : List Int) : Prop := ∀ x ∈ alongL f, toS Z x ≠ fromS Z x ∧ wayK (fromS Z) (toS Z) (alongL f) N (toS Z x) (fromS Z x) = none
theorem found_cross {Z : List ArcT} {N u : Nat} {f : List Int} (hZ : ∀ a ∈ Z, frN a < N ∧ toN a < N) (hf : Flow Z f) (hu : u < N) : ∀ i a, Z[i]? = some a → outS (foundB (seekK (fromS Z) (toS Z) (alongL f) u N)) a = true → atI f i = 0 := by
  intro i a hi ho
  have hS := seek_full (fr := fromS Z) hu (fun y hy => (along_to hZ hf.1 y hy).1)
  refine Classical.byContradiction fun hne => ?_
  have hb := hf.2 i a hi
  have hlt : i < Z.length := (List.getElem?_eq_some_iff.1 hi).1
  have hx : isArc Z ((i : Int), false) := ⟨by simp, by simp only; omega⟩
  have ea : arcOf Z ((i : Int), false) = a := by unfold arcOf; rw [Int.toNat_natCast, List.getD_eq_getElem?_getD, hi]; rfl
  unfold outS at ho
  simp only [Bool.and_eq_true, Bool.not_eq_true'] at ho
  have e1 : fromS Z ((i : Int), false) = frN a := by unfold fromS; simp only [Bool.false_eq_true, if_false, ea]
  have e2 : toS Z ((i : Int), false) = toN a := by unfold toS; simp only [Bool.false_eq_true, if_false, ea]
  have := found_closed hS ((i : Int), false) (along_mk hf.1 hx rfl (by simp only [Int.toNat_natCast]; omega)) (by rw [e1]; exact ho.1)
  rw [e2, ho.2] at this
  cases this
theorem rest_nothing {Z : List ArcT} {N s t : Nat} {f : List Int} {k : Int} (hZ : ∀ a ∈ Z, frN a < N ∧ toN a < N) (hs : s < N) (ht : t < N) (hne : s ≠ t) (hk : 0 ≤ k) (h : FlowST Z N s t f k) (hc : NoCyc Z N f) (hw : wayK (fromS Z) (toS Z) (alongL f) N s t = none) : ∀ i, atI f i = 0 := by
  intro i
  refine Classical.byContradiction fun hne2 => ?_
  have hf := h.1
  have hlt : i < Z.length := by
    refine Classical.byContradiction fun hge => hne2 ?_
    unfold atI
    rw [List.getD_eq_getElem?_getD, List.getElem?_eq_none (by rw [hf.1]; omega)]
    rfl
  have hi : Z[i]? = some Z[i] := List.getElem?_eq_getElem hlt
  have hb := hf.2 i _ hi
  have hpos : 0 < atI f i := by omega
  have hx : isArc Z ((i : Int), false) := ⟨by simp, by simp only; omega⟩
  have hm : ((i : Int), false) ∈ alongL f := along_mk hf.1 hx rfl (by simpa using hpos)
  have ea : arcOf Z ((i : Int), false) = Z[i] := by unfold arcOf; rw [Int.toNat_natCast, List.getD_eq_getElem?_getD, hi]; rfl
  obtain ⟨c1, c2⟩ := hc _ hm
  have hlt2 := along_to hZ hf.1 _ hm
  have hsk := flow_sink hZ hs ht hne h
  have hR := seek_full (fr := fromS Z) hlt2.1 (fun y hy => (along_to hZ hf.1 y hy).1)
  have r1 := found_first hR
  have r2 : foundB (seekK (fromS Z) (toS Z) (alongL f) (toS Z ((i : Int), false)) N) (fromS Z ((i : Int), false)) = false := by
    unfold foundB; exact decide_eq_false (wayK_none c2)
  obtain ⟨_, d2⟩ := cross_closed hf (found_cross hZ hf hlt2.1) Z.length
  have d3 := d2 i Z[i] hlt hi (by
    unfold intoS
    have e1 : fromS Z ((i : Int), false) = frN Z[i] := by unfold fromS; simp only [Bool.false_eq_true, if_false, ea]
    have e2 : toS Z ((i : Int), false) = toN Z[i] := by unfold toS; simp only [Bool.false_eq_true, if_false, ea]
    rw [e1] at r2
    have r1' : foundB (seekK (fromS Z) (toS Z) (alongL f) (toS Z ((i : Int), false)) N) (toN Z[i]) = true := by rw [← e2]; exact r1
    rw [r2, r1']; rfl)
  rw [← side_sum hZ Z.length] at d3
  have d4 := two_sum (g := bal Z f) (S := foundB (seekK (fromS Z) (toS Z) (alongL f) (toS Z ((i : Int), false)) N)) hs ht hne h.2.1
  unfold bal at d4 hsk
  have hv := h.2.2
  unfold bal at hv
  rw [d4, hv, hsk] at d3
  have hk0 : 0 < k := by
    refine Classical.byContradiction fun hk0 => ?_
    have : k = 0 := by omega
    rw [this] at d3
    split at d3 <;> split at d3 <;> omega
  have hS := seek_full (fr := fromS Z) hs (fun y hy => (along_to hZ hf.1 y hy).1)
  obtain ⟨f1, _⟩ := cross_closed hf (found_cross hZ hf hs) Z.length
  rw [← side_sum hZ Z.length] at f1
  have f2 := two_sum (g := bal Z f) (S := foundB (seekK (fromS Z) (toS Z) (alongL f) s N)) hs ht hne h.2.1
  unfold bal at f2
  rw [f2, hv, found_first hS] at f1
  have : foundB (seekK (fromS Z) (toS Z) (alongL f) s N) t = false := by unfold foundB; exact decide_eq_false (wayK_none hw)
  rw [this] at f1
  simp only [if_true, Bool.false_eq_true, if_false] at f1
  omega
theorem no_into {Z : List ArcT} {N s t : Nat} {f : List Int} {k : Int} (hZ : ∀ a ∈ Z, frN a < N ∧ toN a < N) (hs : s < N) (ht : t < N) (hne : s ≠ t) (hk : 0 ≤ k) (h : FlowST Z N s t f k) (hc : NoCyc Z N f) : ∀ i a, Z[i]? = some a → toN a = s → atI f i = 0 := by
  intro i a hi hto
  refine Classical.byContradiction fun hne2 => ?_
  have hf := h.1
  have hb := hf.2 i a hi
  have hlt : i < Z.length := (List.getElem?_eq_some_iff.1 hi).1
  have hx : isArc Z ((i : Int), false) := ⟨by simp, by simp only; omega⟩
  have hm : ((i : Int), false) ∈ alongL f := along_mk hf.1 hx rfl (by simp only [Int.toNat_natCast]; omega)
  have ea : arcOf Z ((i : Int), false) = a := by unfold arcOf; rw [Int.toNat_natCast, List.getD_eq_getElem?_getD, hi]; rfl
  have e1 : fromS Z ((i : Int), false) = frN a := by unfold fromS; simp only [Bool.false_eq_true, if_false, ea]
  have e2 : toS Z ((i : Int), false) = s := by unfold toS; simp only [Bool.false_eq_true, if_false, ea]; exact hto
  obtain ⟨_, c2⟩ := hc _ hm
  rw [e1, e2] at c2
  have hS := seek_full (fr := fromS Z) hs (fun y hy => (along_to hZ hf.1 y hy).1)
  have r1 := found_first hS
  have r2 : foundB (seekK (fromS Z) (toS Z) (alongL f) s N) (frN a) = false := by unfold foundB; exact decide_eq_false (wayK_none c2)
  obtain ⟨_, d2⟩ := cross_closed hf (found_cross hZ hf hs) Z.length
  have d3 := d2 i a hlt hi (by unfold intoS; rw [r2, hto, r1]; rfl)
  rw [← side_sum hZ Z.length] at d3
  have d4 := two_sum (g := bal Z f) (S := foundB (seekK (fromS Z) (toS Z) (alongL f) s N)) hs ht hne h.2.1
  have hsk := flow_sink hZ hs ht hne h
  have hv := h.2.2
  unfold bal at d4 hsk hv
  rw [d4, hv, hsk, r1] at d3
  simp only [if_true] at d3
  split at d3 <;> omega
theorem bal_out {Z : List ArcT} {f : List Int} {s : Nat} (hf : Flow Z f) (h : ∀ i a, Z[i]? = some a → toN a = s → atI f i = 0) : ∀ i, 0 ≤ balK Z f s i
  | 0 => Int.le_refl _
  | i + 1 => by
    have ih := bal_out hf h i
    cases hz : Z[i]? with
    | none =>
      have e : balK Z f s (i + 1) = balK Z f s i := by show balK Z f s i + _ = _; rw [hz]; simp
      rw [e]; exact ih
    | some a =>
      rw [balK_succ hz]
      have hb := hf.2 i a hz
      unfold share
      by_cases h1 : toN a = s
      · have := h i a hz h1
        rw [this]
        simp
        exact ih
      · rw [if_neg h1]
        split <;> omega
def cycAt (Z : List ArcT) (N : Nat) (f : List Int) (i : Nat) : Option (List StepT) :=
  if 0 < atI f i then (if toS Z ((i : Int), false) = fromS Z ((i : Int), false) then some [((i : Int), false)] else (wayK (fromS Z) (toS Z) (alongL f) N (toS Z ((i : Int), false)) (fromS Z ((i : Int), false))).map (fun l => ((i : Int), false) :: l)) else none
def cycFrom (Z : List ArcT) (N : Nat) (f : List Int) : Nat → Nat → Option (List StepT)
  | _, 0 => none
  | i, m + 1 => match cycAt Z N f i with
    | some l => some l
    | none => cycFrom Z N f (i + 1) m
def cycK (Z : List ArcT) (N : Nat) (f : List Int) : Option (List StepT) := cycFrom Z N f 0 f.length
theorem cycFrom_some {Z : List ArcT} {N : Nat} {f : List Int} {l : List StepT} : ∀ {m i}, cycFrom Z N f i m = some l → ∃ j, i ≤ j ∧ j < i + m ∧ cycAt Z N f j = some l
  | 0, i, h => by cases h
  | m + 1, i, h => by
    unfold cycFrom at h
    cases hc : cycAt Z N f i with
    | some l' =>
      rw [hc] at h
      exact ⟨i, Nat.le_refl _, by omega, by rw [hc]; exact h⟩
    | none =>
      rw [hc] at h
      obtain ⟨j, h1, h2, h3⟩ := cycFrom_some h
      exact ⟨j, by omega, by omega, h3⟩
theorem cycFrom_none {Z : List ArcT} {N : Nat} {f : List Int} : ∀ {m i}, cycFrom Z N f i m = none → ∀ j, i ≤ j → j < i + m → cycAt Z N f j = none
  | 0, i, _, j, h1, h2 => by omega
  | m + 1, i, h, j, h1, h2 => by
    unfold cycFrom at h
    cases hc : cycAt Z N f i with
    | some l' => rw [hc] at h; cases h
    | none =>
      rw [hc] at h
      by_cases e : j = i
      · subst e; exact hc
      · exact cycFrom_none h j (by omega) (by omega)
theorem cycK_takes {Z : List ArcT} {N : Nat} {f : List Int} {l : List StepT} (hZ : ∀ a ∈ Z, frN a < N ∧ toN a < N) (hf : f.length = Z.length) (h : cycK Z N f = some l) : ∃ u, Takes Z f u u l := by
  obtain ⟨j, _, h2, h3⟩ := cycFrom_some h
  unfold cycAt at h3
  by_cases hp : 0 < atI f j
  · rw [if_pos hp] at h3
    have hm : ((j : Int), false) ∈ alongL f := along_mk hf ⟨by simp, by simp only; omega⟩ rfl (by simpa using hp)
    by_cases he : toS Z ((j : Int), false) = fromS Z ((j : Int), false)
    · rw [if_pos he] at h3
      cases h3
      exact ⟨_, loop_takes hf hm he⟩
    · rw [if_neg he, Option.map_eq_some_iff] at h3
      obtain ⟨w, hw, rfl⟩ := h3
      exact ⟨_, cycle_takes hZ hf hm he hw⟩
  · rw [if_neg hp] at h3; cases h3
theorem cycK_none {Z : List ArcT} {N : Nat} {f : List Int} (h : cycK Z N f = none) : NoCyc Z N f := by
  intro x hx
  obtain ⟨h1, h2, h3, h4⟩ := alongK_mem.1 hx
  obtain ⟨y, q⟩ := x
  simp only at h1 h2 h3 h4
  subst h1
  obtain ⟨j, rfl⟩ : ∃ j : Nat, y = (j : Int) := ⟨y.toNat, by omega⟩
  have hc := cycFrom_none h j (by omega) (by omega)
  unfold cycAt at hc
  rw [if_pos (by simpa using h4)] at hc
  by_cases he : toS Z ((j : Int), false) = fromS Z ((j : Int), false)
  · rw [if_pos he] at hc; cases hc
  · rw [if_neg he, Option.map_eq_none_iff] at hc
    exact ⟨he, hc⟩
theorem noCyc_less {Z : List ArcT} {N : Nat} {f g : List Int} (hZ : ∀ a ∈ Z, frN a < N ∧ toN a < N) (hf : f.length = Z.length) (hg : g.length = Z.length) (h : ∀ i, 0 < atI g i → 0 < atI f i) (hc : NoCyc Z N f) : NoCyc Z N g := by
  have sub : ∀ x ∈ alongL g, x ∈ alongL f := fun x hx => by
    obtain ⟨h1, h2, h3⟩ := along_arc hg hx
    exact along_mk hf h1 h2 (h _ h3)
  intro x hx
  obtain ⟨c1, c2⟩ := hc x (sub x hx)
  refine ⟨c1, ?_⟩
  cases hw : wayK (fromS Z) (toS Z) (alongL g) N (toS Z x) (fromS Z x) with
  | none => rfl
  | some p =>
    exfalso
    have hlt := along_to hZ hg x hx
    obtain ⟨w1, w2, _, _⟩ := way_props hlt.1 (fun y hy => (along_to hZ hg y hy).1) hw
    have hS := seek_full (fr := fromS Z) (l := alongL f) hlt.1 (fun y hy => (along_to hZ hf y hy).1)
    have hm := walk_side (S := foundB (seekK (fromS Z) (toS Z) (alongL f) (toS Z x) N)) (l := alongL f) (fun y hy h3 => found_closed hS y hy h3) (fun y hy => sub y (w2 y hy)) w1 (found_first hS)
    rw [foundB_iff] at hm
    exact wayK_none c2 hm
abbrev Part := List StepT × Int
def partAt (i : Nat) : List Part → Int
  | [] => 0
  | p :: r => (if i ∈ p.1.map (fun x => x.1.toNat) then p.2 else 0) + partAt i r
def partSum : List Part → Int
  | [] => 0
  | p :: r => p.2 + partSum r
def cycsK (Z : List ArcT) (N : Nat) : Nat → List Int → List Part × List Int
  | 0, f => ([], f)
  | n + 1, f => match cycK Z N f with
    | none => ([], f)
    | some l => ((l, leastK f l) :: (cycsK Z N n (takeK (leastK f l) f l)).1, (cycsK Z N n (takeK (leastK f l) f l)).2)
def chainsK (Z : List ArcT) (N s t : Nat) : Nat → List Int → List Part × List Int
  | 0, f => ([], f)
  | n + 1, f => match wayK (fromS Z) (toS Z) (alongL f) N s t with
    | none => ([], f)
    | some l => ((l, leastK f l) :: (chainsK Z N s t n (takeK (leastK f l) f l)).1, (chainsK Z N s t n (takeK (leastK f l) f l)).2)
theorem take_at {Z : List ArcT} {f : List Int} {u v : Nat} {l : List StepT} (h : Takes Z f u v l) (hf : Flow Z f) (k : Int) (i : Nat) : atI (takeK k f l) i = atI f i - (if i ∈ l.map (fun x => x.1.toNat) then k else 0) := by
  have hm := fun x hx => along_arc hf.1 (h.mem x hx)
  have hlen : ∀ x ∈ l, x.1.toNat < f.length := fun x hx => by rw [hf.1]; exact (List.getElem?_eq_some_iff.1 (arcOf_at (hm x hx).1)).1
  by_cases he : i ∈ l.map (fun x => x.1.toNat)
  · obtain ⟨x, hx, rfl⟩ := List.mem_map.1 he
    rw [if_pos he, takeK_at l f hlen (toNat_nodup (fun y hy => (hm y hy).1) h.once) x hx]
  · rw [if_neg he, takeK_other l f (fun x hx => ⟨hlen x hx, fun e => he (List.mem_map.2 ⟨x, hx, e⟩)⟩)]
    omega
def PartIs (Z : List ArcT) (u v : Nat) (p : Part) : Prop := Trail Z u p.1 v ∧ p.1 ≠ [] ∧ (p.1.map (toS Z)).Nodup ∧ (u ≠ v → u ∉ p.1.map (toS Z)) ∧ (∀ x ∈ p.1, x.2 = false) ∧ 1 ≤ p.2
theorem takes_part {Z : List ArcT} {f : List Int} {u v : Nat} {l : List StepT} (h : Takes Z f u v l) (hf : Flow Z f) : PartIs Z u v (l, leastK f l) :=
  ⟨h.trail, h.some, h.ends, h.head, fun x hx => (along_arc hf.1 (h.mem x hx)).2.1, (h.props hf).1⟩
theorem cycs_props {Z : List ArcT} {N : Nat} (hZ : ∀ a ∈ Z, frN a < N ∧ toN a < N) : ∀ (n : Nat) (f : List Int), Flow Z f → posK f f.length ≤ n →
    Flow Z (cycsK Z N n f).2 ∧ (∀ w, bal Z (cycsK Z N n f).2 w = bal Z f w) ∧ NoCyc Z N (cycsK Z N n f).2 ∧ (∀ i, 0 < atI (cycsK Z N n f).2 i → 0 < atI f i) ∧ (cycsK Z N n f).1.length + posK (cycsK Z N n f).2 f.length ≤ posK f f.length ∧
      (∀ i, atI f i = atI (cycsK Z N n f).2 i + partAt i (cycsK Z N n f).1) ∧ ∀ p ∈ (cycsK Z N n f).1, ∃ u, PartIs Z u u p
  | 0, f, hf, hn => by
    refine ⟨hf, fun _ => rfl, ?_, fun _ h => h, by simp [cycsK], fun i => by simp [cycsK, partAt], fun p hp => by cases hp⟩
    show NoCyc Z N f
    apply cycK_none
    cases hc : cycK Z N f with
    | none => rfl
    | some l =>
      obtain ⟨u, hT⟩ := cycK_takes hZ hf.1 hc
      have := (hT.props hf).2.2.2.2
      omega
  | n + 1, f, hf, hn => by
    unfold cycsK
    cases hc : cycK Z N f with
    | none => exact ⟨hf, fun _ => rfl, cycK_none hc, fun _ h => h, by simp, fun i => by simp [partAt], fun p hp => by cases hp⟩
    | some l =>
      obtain ⟨u, hT⟩ := cycK_takes hZ hf.1 hc
      obtain ⟨p1, p2, p3, p4, p5⟩ := hT.props hf
      have hl := takeK_len (leastK f l) l f
      obtain ⟨i1, i2, i3, i4, i5, i6, i7⟩ := cycs_props hZ n (takeK (leastK f l) f l) p2 (by rw [hl]; omega)
      rw [hl] at i5
      simp only
      refine ⟨i1, fun w => by rw [i2, p3]; omega, i3, fun i h => p4 i (i4 i h), by simp only [List.length_cons]; omega, fun i => ?_, fun p hp => ?_⟩
      · have h1 := take_at hT hf (leastK f l) i
        have h2 := i6 i
        simp only [partAt]
        omega
      · rcases List.mem_cons.1 hp with rfl | hp
        · exact ⟨u, takes_part hT hf⟩
        · exact i7 p hp
theorem chains_props {Z : List ArcT} {N s t : Nat} (hZ : ∀ a ∈ Z, frN a < N ∧ toN a < N) (hs : s < N) (ht : t < N) (hne : s ≠ t) : ∀ (n : Nat) (f : List Int) (k : Int), FlowST Z N s t f k → NoCyc Z N f → 0 ≤ k → posK f f.length ≤ n →
    (∀ i, atI (chainsK Z N s t n f).2 i = 0) ∧ partSum (chainsK Z N s t n f).1 = k ∧ (chainsK Z N s t n f).1.length ≤ posK f f.length ∧ (∀ i, atI f i = partAt i (chainsK Z N s t n f).1) ∧ ∀ p ∈ (chainsK Z N s t n f).1, PartIs Z s t p
  | n, f, k, hf, hc, hk, hn => by
    have stop : wayK (fromS Z) (toS Z) (alongL f) N s t = none → (∀ i, atI f i = 0) ∧ k = 0 := by
      intro hw
      have h0 := rest_nothing hZ hs ht hne hk hf hc hw
      refine ⟨h0, ?_⟩
      have hb : ∀ i, balK Z f s i = 0 := by
        intro i
        induction i with
        | zero => rfl
        | succ i ih =>
          show balK Z f s i + _ = 0
          rw [ih, h0]
          cases Z[i]? with
          | none => rfl
          | some a => simp [share]
      rw [← hf.2.2]
      exact hb _
    match n, hn with
    | 0, hn =>
      have hw : wayK (fromS Z) (toS Z) (alongL f) N s t = none := by
        cases hw : wayK (fromS Z) (toS Z) (alongL f) N s t with
        | none => rfl
        | some l =>
          have := ((way_takes hZ hf.1.1 hs hne hw).props hf.1).2.2.2.2
          omega
      obtain ⟨h0, hk0⟩ := stop hw
      exact ⟨h0, by rw [hk0]; rfl, by simp [chainsK], fun i => by rw [h0]; rfl, fun p hp => by cases hp⟩
    | n + 1, hn =>
      unfold chainsK
      cases hw : wayK (fromS Z) (toS Z) (alongL f) N s t with
      | none =>
        obtain ⟨h0, hk0⟩ := stop hw
        exact ⟨h0, by rw [hk0]; rfl, by simp, fun i => by rw [h0]; rfl, fun p hp => by cases hp⟩
      | some l =>
        have hT := way_takes hZ hf.1.1 hs hne hw
        obtain ⟨p1, p2, p3, p4, p5⟩ := hT.props hf.1
        have hl := takeK_len (leastK f l) l f
        have hF : FlowST Z N s t (takeK (leastK f l) f l) (k - leastK f l) := by
          refine ⟨p2, fun v hv h1 h2 => ?_, ?_⟩
          · rw [p3, hf.2.1 v hv h1 h2, if_neg (fun e => h1 e.symm), if_neg (fun e => h2 e.symm)]; rfl
          · rw [p3, hf.2.2, if_pos rfl, if_neg (fun e => hne e.symm)]; omega
        have hN := noCyc_less hZ hf.1.1 p2.1 p4 hc
        have hk2 : 0 ≤ k - leastK f l := by
          have h1 := no_into hZ hs ht hne hk hf hc
          have h2 := bal_out (s := s) p2 (fun i a hi hto => by
            have h3 := h1 i a hi hto
            have h4 := p4 i
            have h5 := p2.2 i a hi
            omega) Z.length
          have h3 := hF.2.2
          unfold bal at h3
          omega
        obtain ⟨i1, i2, i3, i4, i5⟩ := chains_props hZ hs ht hne n _ _ hF hN hk2 (by rw [hl]; omega)
        rw [hl] at i3
        simp only
        refine ⟨i1, by simp only [partSum]; omega, by simp only [List.length_cons]; omega, fun i => ?_, fun p hp => ?_⟩
        · have h1 := take_at hT hf.1 (leastK f l) i
          have h2 := i4 i
          simp only [partAt]
          omega
        · rcases List.mem_cons.1 hp with rfl | hp
          · exact takes_part hT hf.1
          · exact i5 p hp
end Go.Proofs.YtlkbohpnlbfopaaGreat
namespace Go.Proofs.YtlkbohpnlbfopaaGreat
set_option linter.unusedVariables false
theorem costK_set {Z : List ArcT} {f : List Int} {j : Nat} {y : Int} (hj : j < f.length) : ∀ i, costK Z (f.set j y) i = costK Z f i + if j < i then (match Z[j]? with | some a => (y - atI f j) * tm a | none => 0) else 0
  | 0 => by simp [costK]
  | i + 1 => by
    have ih := costK_set (Z := Z) (y := y) hj i
    show costK Z (f.set j y) i + _ = costK Z f i + _ + _
    rw [ih]
    by_cases h1 : j < i
    · rw [if_pos h1, if_pos (by omega)]
      have e : atI (f.set j y) i = atI f i := by rw [atI_set hj, if_neg (by omega)]
      rw [e]
      omega
    · rw [if_neg h1]
      by_cases h2 : j = i
      · subst h2
        rw [if_pos (by omega), atI_set hj, if_pos rfl]
        cases Z[j]? with
        | none => simp
        | some a =>
          simp only
          rw [Int.sub_mul]
          omega
      · rw [if_neg (by omega)]
        have e : atI (f.set j y) i = atI f i := by rw [atI_set hj, if_neg (by omega)]
        rw [e]
        omega
def lenL (Z : List ArcT) : List StepT → Int
  | [] => 0
  | x :: r => tm (arcOf Z x) + lenL Z r
theorem lenL_nonneg {Z : List ArcT} (ht : ∀ a ∈ Z, 0 ≤ tm a) : ∀ {l : List StepT}, (∀ x ∈ l, isArc Z x) → 0 ≤ lenL Z l ∧ ∀ x ∈ l, tm (arcOf Z x) ≤ lenL Z l
  | [], _ => ⟨Int.le_refl _, fun x hx => (by cases hx)⟩
  | y :: r, h => by
    obtain ⟨i1, i2⟩ := lenL_nonneg ht (l := r) (fun x hx => h x (by simp [hx]))
    have h0 := ht _ (List.mem_of_getElem? (arcOf_at (h y (by simp))))
    refine ⟨by simp only [lenL]; omega, fun x hx => ?_⟩
    simp only [lenL]
    rcases List.mem_cons.1 hx with rfl | hx
    · omega
    · have := i2 x hx; omega
theorem take_cost {Z : List ArcT} {k : Int} : ∀ (l : List StepT) (f : List Int), f.length = Z.length → (∀ x ∈ l, isArc Z x) → costK Z (takeK k f l) Z.length = costK Z f Z.length - k * lenL Z l
  | [], f, _, _ => by show costK Z f Z.length = _; simp [lenL]
  | x :: r, f, hf, h => by
    have hx := h x (by simp)
    have ha := arcOf_at hx
    have hlt : x.1.toNat < Z.length := (List.getElem?_eq_some_iff.1 ha).1
    show costK Z (takeK k (f.set _ _) r) Z.length = _
    rw [take_cost r _ (by simpa using hf) (fun y hy => h y (by simp [hy])), costK_set (by omega), if_pos hlt, ha]
    simp only [lenL]
    rw [Int.mul_add, show atI f x.1.toNat - k - atI f x.1.toNat = -k by omega, Int.neg_mul]
    omega
def sumP (M : Nat) : List Part → List Int
  | [] => List.replicate M 0
  | p :: r => takeK (-p.2) (sumP M r) p.1
theorem sumP_len (M : Nat) : ∀ l : List Part, (sumP M l).length = M
  | [] => by simp [sumP]
  | p :: r => by
    show (takeK _ _ _).length = M
    rw [takeK_len]; exact sumP_len M r
theorem part_once {Z : List ArcT} {u v : Nat} {p : Part} (h : PartIs Z u v p) : (p.1.map fun x => x.1).Nodup := by
  obtain ⟨h1, h2, h3, h4, h5, h6⟩ := h
  by_cases hne : u = v
  · subst hne
    match hp : p.1, h1, h2 with
    | x :: r, h1, _ =>
      rw [hp] at h3 h5
      rw [List.map_cons, List.nodup_cons] at h3 ⊢
      refine ⟨fun hm => ?_, arcs_nodup (trail_walk h1.2.2) h3.2 h3.1⟩
      obtain ⟨y, hy, e⟩ := List.mem_map.1 hm
      apply h3.1
      rw [List.mem_map]
      refine ⟨y, hy, ?_⟩
      unfold toS
      rw [h5 y (by simp [hy]), h5 x (by simp)]
      have ea : arcOf Z y = arcOf Z x := by unfold arcOf; rw [e]
      rw [ea]
  · exact arcs_nodup (trail_walk h1) h3 (h4 hne)
theorem trail_isArc {Z : List ArcT} : ∀ {L : List StepT} {u v : Nat}, Trail Z u L v → ∀ x ∈ L, isArc Z x
  | [], _, _, _, x, hx => by cases hx
  | y :: r, u, v, h, x, hx => by
    rcases List.mem_cons.1 hx with rfl | hx
    · exact h.2.1
    · exact trail_isArc h.2.2 x hx
def Parts (Z : List ArcT) (l : List Part) : Prop := ∀ p ∈ l, ∃ u v, PartIs Z u v p
theorem sumP_at {Z : List ArcT} (i : Nat) : ∀ l : List Part, Parts Z l → atI (sumP Z.length l) i = partAt i l
  | [], _ => by
    show atI (List.replicate _ _) i = 0
    unfold atI
    rw [List.getD_eq_getElem?_getD, List.getElem?_replicate]
    split <;> rfl
  | p :: r, h => by
    have ih := sumP_at i r (fun q hq => h q (by simp [hq]))
    obtain ⟨u, v, hp⟩ := h p (by simp)
    have ha := trail_isArc hp.1
    have hlen : ∀ x ∈ p.1, x.1.toNat < (sumP Z.length r).length := fun x hx => by rw [sumP_len]; exact (List.getElem?_eq_some_iff.1 (arcOf_at (ha x hx))).1
    show atI (takeK _ _ _) i = (if _ then _ else _) + _
    by_cases he : i ∈ p.1.map (fun x => x.1.toNat)
    · obtain ⟨x, hx, rfl⟩ := List.mem_map.1 he
      rw [if_pos he, takeK_at p.1 _ hlen (toNat_nodup ha (part_once hp)) x hx, ih]
      omega
    · rw [if_neg he, takeK_other p.1 _ (fun x hx => ⟨hlen x hx, fun e => he (List.mem_map.2 ⟨x, hx, e⟩)⟩), ih]
      omega
theorem zero_cost (Z : List ArcT) : ∀ i, costK Z (List.replicate Z.length 0) i = 0
  | 0 => rfl
  | i + 1 => by
    show costK Z _ i + _ = 0
    rw [zero_cost Z i]
    have h0 : atI (List.replicate Z.length 0) i = 0 := by unfold atI; rw [List.getD_eq_getElem?_getD, List.getElem?_replicate]; split <;> rfl
    rw [h0]
    cases Z[i]? with
    | none => rfl
    | some a => simp
def partLen (Z : List ArcT) : List Part → Int
  | [] => 0
  | p :: r => p.2 * lenL Z p.1 + partLen Z r
theorem sumP_cost {Z : List ArcT} : ∀ l : List Part, Parts Z l → costK Z (sumP Z.length l) Z.length = partLen Z l
  | [], _ => zero_cost Z _
  | p :: r, h => by
    have ih := sumP_cost r (fun q hq => h q (by simp [hq]))
    obtain ⟨u, v, hp⟩ := h p (by simp)
    show costK Z (takeK _ _ _) Z.length = _
    rw [take_cost p.1 _ (sumP_len _ _) (trail_isArc hp.1), ih, Int.neg_mul]
    simp only [partLen]
    omega
theorem partAt_nonneg {Z : List ArcT} (i : Nat) : ∀ l : List Part, Parts Z l → 0 ≤ partAt i l
  | [], _ => Int.le_refl _
  | p :: r, h => by
    have ih := partAt_nonneg i r (fun q hq => h q (by simp [hq]))
    obtain ⟨u, v, hp⟩ := h p (by simp)
    have := hp.2.2.2.2.2
    simp only [partAt]
    split <;> omega
theorem partAt_app (i : Nat) : ∀ a c : List Part, partAt i (a ++ c) = partAt i a + partAt i c
  | [], c => by simp [partAt]
  | p :: r, c => by simp only [List.cons_append, partAt, partAt_app i r c]; omega
theorem partAt_filter {Z : List ArcT} (i : Nat) (q : Part → Bool) : ∀ l : List Part, Parts Z l → partAt i (l.filter q) ≤ partAt i l
  | [], _ => Int.le_refl _
  | p :: r, h => by
    have ih := partAt_filter i q r (fun q hq => h q (by simp [hq]))
    obtain ⟨u, v, hp⟩ := h p (by simp)
    have := hp.2.2.2.2.2
    rw [List.filter_cons]
    split
    · simp only [partAt]; omega
    · simp only [partAt]; split <;> omega
theorem flow_parts {Z : List ArcT} {N s t : Nat} {f : List Int} {k : Int} (hZ : ∀ a ∈ Z, frN a < N ∧ toN a < N) (hs : s < N) (ht : t < N) (hne : s ≠ t) (hk : 0 ≤ k) (h : FlowST Z N s t f k) :
    ∃ (C D : List Part), (∀ p ∈ C, ∃ u, PartIs Z u u p) ∧ (∀ p ∈ D, PartIs Z s t p) ∧ partSum D = k ∧ (∀ i, atI f i = partAt i C + partAt i D) ∧ C.length + D.length ≤ Z.length ∧ f = sumP Z.length (C ++ D) := by
  obtain ⟨i1, i2, i3, i4, i5, i6, i7⟩ := cycs_props hZ (posK f f.length) f h.1 (Nat.le_refl _)
  have hg : FlowST Z N s t (cycsK Z N (posK f f.length) f).2 k := ⟨i1, fun v hv h1 h2 => by rw [i2]; exact h.2.1 v hv h1 h2, by rw [i2]; exact h.2.2⟩
  have hlg : (cycsK Z N (posK f f.length) f).2.length = f.length := by rw [i1.1, h.1.1]
  obtain ⟨j1, j2, j3, j4, j5⟩ := chains_props hZ hs ht hne (posK (cycsK Z N (posK f f.length) f).2 f.length) _ k hg i3 hk (by rw [hlg]; exact Nat.le_refl _)
  generalize cycsK Z N (posK f f.length) f = CG at *
  generalize (chainsK Z N s t (posK CG.2 f.length) CG.2).1 = D at *
  have hpl := posK_le f f.length
  rw [hlg] at j3
  have hat : ∀ i, atI f i = partAt i CG.1 + partAt i D := fun i => by rw [i6 i, j4 i]; omega
  refine ⟨CG.1, D, i7, j5, j2, hat, by rw [← h.1.1]; omega, ?_⟩
  have hP : Parts Z (CG.1 ++ D) := fun p hp => by
    rcases List.mem_append.1 hp with hp | hp
    · obtain ⟨u, hu⟩ := i7 p hp; exact ⟨u, u, hu⟩
    · exact ⟨s, t, j5 p hp⟩
  apply ext_at
  · rw [sumP_len]; exact h.1.1
  · intro v hv
    rw [sumP_at v _ hP, partAt_app, hat v]
end Go.Proofs.YtlkbohpnlbfopaaGreat
namespace Go.Proofs.YtlkbohpnlbfopaaGreat
set_option linter.unusedVariables false
def worthK (Z : List ArcT) (H : Int) (f : List Int) (k : Int) : Int := (H + 1) * k - costK Z f Z.length
def IsBest (Z : List ArcT) (N s t : Nat) (H m : Int) : Prop := (∃ f k, FlowST Z N s t f k ∧ worthK Z H f k = m) ∧ ∀ g w, FlowST Z N s t g w → worthK Z H g w ≤ m
section
variable {Z : List ArcT} {N s t : Nat} {H : Int}
theorem costK_nonneg (hc : ∀ a ∈ Z, 0 ≤ tm a) {f : List Int} (hf : Flow Z f) : ∀ i, 0 ≤ costK Z f i
  | 0 => Int.le_refl _
  | i + 1 => by
    have ih := costK_nonneg hc hf i
    cases hz : Z[i]? with
    | none =>
      have e : costK Z f (i + 1) = costK Z f i := by show costK Z f i + _ = _; rw [hz]; simp
      rw [e]; exact ih
    | some a =>
      rw [costK_succ hz]
      have := Int.mul_nonneg (hf.2 i a hz).1 (hc a (List.mem_of_getElem? hz))
      omega
theorem best_nonneg (hcap : ∀ a ∈ Z, 0 ≤ capN a) {m : Int} (h : IsBest Z N s t H m) : 0 ≤ m := by
  have h1 := h.2 _ _ (zero_flow Z hcap N s t)
  unfold worthK at h1
  rw [zero_cost] at h1
  omega
theorem best_value (hc : ∀ a ∈ Z, 0 ≤ tm a) (hH : 0 ≤ H) {f : List Int} {k : Int} (hf : FlowST Z N s t f k) (h0 : 0 ≤ worthK Z H f k) : 0 ≤ k := by
  refine Classical.byContradiction fun hk => ?_
  have h1 := costK_nonneg hc hf.1 Z.length
  have h2 : (H + 1) * k ≤ (H + 1) * (-1) := Int.mul_le_mul_of_nonneg_left (by omega) (by omega)
  unfold worthK at h0
  omega
theorem worth_next (f : List Int) (k : Int) : worthK Z (H + 1) f k = worthK Z H f k + k := by
  unfold worthK
  rw [show (H + 1 + 1) * k = (H + 1) * k + k by rw [Int.add_mul (H + 1) 1 k]; omega]
  omega
theorem best_grows (hc : ∀ a ∈ Z, 0 ≤ tm a) (hcap : ∀ a ∈ Z, 0 ≤ capN a) (hZ : ∀ a ∈ Z, frN a < N ∧ toN a < N) (hs : s < N) (hH : 0 ≤ H) {a b c top : Int} (ha : IsBest Z N s t H a) (hb : IsBest Z N s t (H + 1) b) (hcc : IsBest Z N s t (H + 1 + 1) c) (htop : IsMost Z N s t top) : a ≤ b ∧ b - a ≤ c - b ∧ c - b ≤ top := by
  have a0 := best_nonneg hcap ha
  have b0 := best_nonneg hcap hb
  have c0 := best_nonneg hcap hcc
  obtain ⟨⟨fa, ka, hfa, ea⟩, ha2⟩ := ha
  obtain ⟨⟨fb, kb, hfb, eb⟩, hb2⟩ := hb
  obtain ⟨⟨fc, kc, hfc, ec⟩, hc2⟩ := hcc
  have h1 := best_value hc hH hfa (by omega)
  have h2 := hb2 _ _ hfa
  have h3 := hc2 _ _ hfb
  have h4 := ha2 _ _ hfb
  have h5 := hb2 _ _ hfc
  have h6 := isMost_top hZ hs htop hfc
  rw [worth_next] at h2 h3 ec
  have e1 := worth_next (Z := Z) (H := H) fb kb
  omega
end
def balC (v : Nat) : List ArcT → List Int → Int
  | [], _ => 0
  | a :: Z, f => share a (f.headD 0) v + balC v Z f.tail
theorem atI_head (f : List Int) : atI f 0 = f.headD 0 := by cases f <;> simp [atI]
theorem atI_tail (f : List Int) (i : Nat) : atI f.tail i = atI f (i + 1) := by cases f <;> simp [atI]
theorem balK_cons (a : ArcT) (Z : List ArcT) (f : List Int) (v : Nat) : ∀ i, balK (a :: Z) f v (i + 1) = share a (f.headD 0) v + balK Z f.tail v i
  | 0 => by
    rw [balK_succ (a := a) rfl, atI_head]
    simp [balK]
  | i + 1 => by
    have ih := balK_cons a Z f v i
    cases hz : Z[i]? with
    | none =>
      have e1 : balK (a :: Z) f v (i + 1 + 1) = balK (a :: Z) f v (i + 1) := by show balK (a :: Z) f v (i + 1) + _ = _; rw [List.getElem?_cons_succ, hz]; simp
      have e2 : balK Z f.tail v (i + 1) = balK Z f.tail v i := by show balK Z f.tail v i + _ = _; rw [hz]; simp
      rw [e1, e2, ih]
    | some c =>
      rw [balK_succ (i := i + 1) (a := c) (by rw [List.getElem?_cons_succ]; exact hz), balK_succ hz, ih, atI_tail]
      omega
theorem bal_balC (v : Nat) : ∀ (Z : List ArcT) (f : List Int), bal Z f v = balC v Z f
  | [], f => rfl
  | a :: Z, f => by
    unfold bal
    rw [List.length_cons, balK_cons]
    have := bal_balC v Z f.tail
    unfold bal at this
    rw [this]; rfl
theorem worth_parts {Z : List ArcT} {H : Int} (ht : ∀ a ∈ Z, 0 ≤ tm a) (hH : 0 ≤ H) : ∀ D : List Part, Parts Z D → (H + 1) * partSum D - partLen Z D ≤ (H + 1) * partSum (D.filter fun p => decide (lenL Z p.1 ≤ H)) - partLen Z (D.filter fun p => decide (lenL Z p.1 ≤ H))
  | [], _ => Int.le_refl _
  | p :: r, h => by
    have ih := worth_parts ht hH r (fun q hq => h q (by simp [hq]))
    obtain ⟨u, v, hp⟩ := h p (by simp)
    have hp1 := hp.2.2.2.2.2
    rw [List.filter_cons]
    split
    · simp only [partSum, partLen]
      rw [Int.mul_add, Int.mul_add]
      omega
    · next hq =>
      have hq2 : H < lenL Z p.1 := by simpa using hq
      simp only [partSum, partLen]
      rw [Int.mul_add]
      have h1 : p.2 * (H + 1) ≤ p.2 * lenL Z p.1 := Int.mul_le_mul_of_nonneg_left (by omega) (by omega)
      rw [Int.mul_comm p.2 (H + 1)] at h1
      omega
theorem partLen_nonneg {Z : List ArcT} (ht : ∀ a ∈ Z, 0 ≤ tm a) : ∀ D : List Part, Parts Z D → 0 ≤ partLen Z D
  | [], _ => Int.le_refl _
  | p :: r, h => by
    have ih := partLen_nonneg ht r (fun q hq => h q (by simp [hq]))
    obtain ⟨u, v, hp⟩ := h p (by simp)
    have h1 := (lenL_nonneg ht (trail_isArc hp.1)).1
    have h2 := Int.mul_nonneg (show 0 ≤ p.2 by have := hp.2.2.2.2.2; omega) h1
    simp only [partLen]
    omega
theorem partLen_app (Z : List ArcT) : ∀ a c : List Part, partLen Z (a ++ c) = partLen Z a + partLen Z c
  | [], c => by simp [partLen]
  | p :: r, c => by simp only [List.cons_append, partLen, partLen_app Z r c]; omega
end Go.Proofs.YtlkbohpnlbfopaaGreat
namespace Go.Proofs.YtlkbohpnlbfopaaGreat
set_option linter.unusedVariables false
def tmN (a : ArcT) : Nat := (tm a).toNat
abbrev Kd := Nat × Nat × Nat
abbrev Kd.mv (i at_ : Nat) : Kd := (0, i, at_)
abbrev Kd.wt (v at_ : Nat) : Kd := (1, v, at_)
abbrev Kd.so (at_ : Nat) : Kd := (2, 0, at_)
abbrev Kd.si (at_ : Nat) : Kd := (3, 0, at_)
def sumI : List Int → Int
  | [] => 0
  | x :: r => x + sumI r
theorem sumI_app : ∀ a b : List Int, sumI (a ++ b) = sumI a + sumI b
  | [], b => by simp [sumI]
  | x :: r, b => by simp only [List.cons_append, sumI, sumI_app r b]; omega
structure Exp where
  Z : List ArcT
  N : Nat
  s : Nat
  t : Nat
  H : Nat
  hold : Bool
namespace Exp
variable (E : Exp)
def ok (i at_ : Nat) : Bool := match E.Z[i]? with
  | some a => decide (at_ + tmN a ≤ E.H) && (decide (toN a ≠ E.s) && decide (frN a ≠ E.t))
  | none => false
def wok (v at_ : Nat) : Bool := E.hold && (decide (at_ < E.H) && (decide (v ≠ E.s) && decide (v ≠ E.t)))
def mvK (at_ : Nat) : Nat → List Kd
  | 0 => []
  | i + 1 => mvK at_ i ++ if E.ok i at_ then [Kd.mv i at_] else []
def wtK (at_ : Nat) : Nat → List Kd
  | 0 => []
  | v + 1 => wtK at_ v ++ if E.wok v at_ then [Kd.wt v at_] else []
def timeK : Nat → List Kd
  | 0 => []
  | n + 1 => timeK n ++ (E.mvK n E.Z.length ++ E.wtK n E.N)
def soK : Nat → List Kd
  | 0 => []
  | n + 1 => soK n ++ [Kd.so n]
def siK : Nat → List Kd
  | 0 => []
  | n + 1 => siK n ++ [Kd.si n]
def kinds : List Kd := E.timeK (E.H + 1) ++ (soK (E.H + 1) ++ siK (E.H + 1))
def slot (v at_ : Nat) : Nat := at_ * E.N + v
def first : Nat := (E.H + 1) * E.N
def last : Nat := (E.H + 1) * E.N + 1
def big : Int := 1099511627776
def arcKd : Kd → ArcT
  | (0, i, at_) => match E.Z[i]? with
    | some a => ((E.slot (frN a) at_ : Int), (E.slot (toN a) (at_ + tmN a) : Int), capN a, 0)
    | none => (0, 0, 0, 0)
  | (1, v, at_) => ((E.slot v at_ : Int), (E.slot v (at_ + 1) : Int), big, 0)
  | (2, _, at_) => ((E.first : Int), (E.slot E.s at_ : Int), big, 0)
  | (_ + 3, _, at_) => ((E.slot E.t at_ : Int), (E.last : Int), big, 0)
def net : List ArcT := E.kinds.map E.arcKd
theorem mv_sum (g : Kd → Int) (at_ : Nat) : ∀ i, sumI ((E.mvK at_ i).map g) = sumTo (fun j => if E.ok j at_ then g (Kd.mv j at_) else 0) i
  | 0 => rfl
  | i + 1 => by
    show sumI ((E.mvK at_ i ++ _).map g) = sumTo _ i + _
    rw [List.map_append, sumI_app, mv_sum g at_ i]
    by_cases h : E.ok i at_ = true
    · rw [if_pos h]; simp only [List.map_cons, List.map_nil, sumI, if_pos h]; omega
    · rw [if_neg h]; simp only [List.map_nil, sumI, if_neg h]
theorem wt_sum (g : Kd → Int) (at_ : Nat) : ∀ i, sumI ((E.wtK at_ i).map g) = sumTo (fun j => if E.wok j at_ then g (Kd.wt j at_) else 0) i
  | 0 => rfl
  | i + 1 => by
    show sumI ((E.wtK at_ i ++ _).map g) = sumTo _ i + _
    rw [List.map_append, sumI_app, wt_sum g at_ i]
    by_cases h : E.wok i at_ = true
    · rw [if_pos h]; simp only [List.map_cons, List.map_nil, sumI, if_pos h]; omega
    · rw [if_neg h]; simp only [List.map_nil, sumI, if_neg h]
theorem time_sum (g : Kd → Int) : ∀ n, sumI ((E.timeK n).map g) = sumTo (fun at_ => sumTo (fun j => if E.ok j at_ then g (Kd.mv j at_) else 0) E.Z.length) n + sumTo (fun at_ => sumTo (fun j => if E.wok j at_ then g (Kd.wt j at_) else 0) E.N) n
  | 0 => rfl
  | n + 1 => by
    show sumI ((E.timeK n ++ _).map g) = _
    rw [List.map_append, sumI_app, List.map_append, sumI_app, time_sum g n, mv_sum, wt_sum]
    simp only [sumTo]
    omega
theorem so_sum (g : Kd → Int) : ∀ n, sumI ((soK n).map g) = sumTo (fun at_ => g (Kd.so at_)) n
  | 0 => rfl
  | n + 1 => by
    show sumI ((soK n ++ _).map g) = sumTo _ n + _
    rw [List.map_append, sumI_app, so_sum g n]
    simp [sumI]
theorem si_sum (g : Kd → Int) : ∀ n, sumI ((siK n).map g) = sumTo (fun at_ => g (Kd.si at_)) n
  | 0 => rfl
  | n + 1 => by
    show sumI ((siK n ++ _).map g) = sumTo _ n + _
    rw [List.map_append, sumI_app, si_sum g n]
    simp [sumI]
theorem kinds_sum (g : Kd → Int) : sumI (E.kinds.map g) = sumTo (fun at_ => sumTo (fun j => if E.ok j at_ then g (Kd.mv j at_) else 0) E.Z.length) (E.H + 1) + sumTo (fun at_ => sumTo (fun j => if E.wok j at_ then g (Kd.wt j at_) else 0) E.N) (E.H + 1) + sumTo (fun at_ => g (Kd.so at_)) (E.H + 1) + sumTo (fun at_ => g (Kd.si at_)) (E.H + 1) := by
  unfold kinds
  rw [List.map_append, sumI_app, List.map_append, sumI_app, time_sum, so_sum, si_sum]
  omega
end Exp
theorem balC_map (a : Kd → ArcT) (x : Kd → Int) (w : Nat) : ∀ K : List Kd, balC w (K.map a) (K.map x) = sumI (K.map fun k => share (a k) (x k) w)
  | [] => rfl
  | k :: r => by
    simp only [List.map_cons, balC, sumI, List.headD_cons, List.tail_cons]
    rw [balC_map a x w r]
theorem slot_inj {N a b c d : Nat} (hb : b < N) (hd : d < N) : a * N + b = c * N + d ↔ a = c ∧ b = d := by
  constructor
  · intro h
    have e : a = c := by
      rcases Nat.lt_trichotomy a c with h1 | h1 | h1
      · have := Nat.mul_le_mul_right N h1
        rw [Nat.succ_mul] at this
        omega
      · exact h1
      · have := Nat.mul_le_mul_right N h1
        rw [Nat.succ_mul] at this
        omega
    subst e
    exact ⟨rfl, by omega⟩
  · rintro ⟨rfl, rfl⟩; rfl
theorem slot_lt {N a b H : Nat} (ha : a ≤ H) (hb : b < N) : a * N + b < (H + 1) * N := by
  have := Nat.mul_le_mul_right N ha
  rw [Nat.succ_mul]
  omega
theorem sumTo_sub (g h : Nat → Int) : ∀ n, sumTo (fun v => g v - h v) n = sumTo g n - sumTo h n
  | 0 => rfl
  | n + 1 => by simp only [sumTo, sumTo_sub g h n]; omega
theorem sumTo_pick {g : Nat → Int} {u : Nat} : ∀ n, sumTo (fun v => if v = u then g v else 0) n = if u < n then g u else 0
  | 0 => by simp [sumTo]
  | n + 1 => by
    simp only [sumTo, sumTo_pick n]
    by_cases h1 : u < n
    · rw [if_pos h1, if_neg (by omega), if_pos (by omega)]; omega
    · by_cases h2 : n = u
      · subst h2; rw [if_neg h1, if_pos rfl, if_pos (by omega)]; omega
      · rw [if_neg h1, if_neg h2, if_neg (by omega)]; rfl
namespace Exp
variable (E : Exp)
structure Good : Prop where
  ends : ∀ a ∈ E.Z, frN a < E.N ∧ toN a < E.N
  s : E.s < E.N
  t : E.t < E.N
  ne : E.s ≠ E.t
  cap : ∀ a ∈ E.Z, 0 ≤ capN a
def frA (i : Nat) : Nat := match E.Z[i]? with | some a => frN a | none => 0
def toA (i : Nat) : Nat := match E.Z[i]? with | some a => toN a | none => 0
def tmA (i : Nat) : Nat := match E.Z[i]? with | some a => tmN a | none => 0
def dep (x : Kd → Int) (v at_ : Nat) : Int := sumTo (fun i => if E.ok i at_ then (if E.frA i = v then x (Kd.mv i at_) else 0) else 0) E.Z.length
def arr (x : Kd → Int) (v at_ : Nat) : Int := sumTo (fun u => sumTo (fun i => if E.ok i u then (if E.toA i = v ∧ u + E.tmA i = at_ then x (Kd.mv i u) else 0) else 0) E.Z.length) (E.H + 1)
def wait (x : Kd → Int) (v at_ : Nat) : Int := if E.wok v at_ then x (Kd.wt v at_) else 0
def waited (x : Kd → Int) (v : Nat) : Nat → Int
  | 0 => 0
  | at_ + 1 => E.wait x v at_
theorem ok_arc {i at_ : Nat} (h : E.ok i at_ = true) : ∃ a, E.Z[i]? = some a ∧ at_ + tmN a ≤ E.H ∧ toN a ≠ E.s ∧ frN a ≠ E.t := by
  unfold ok at h
  cases hz : E.Z[i]? with
  | none => rw [hz] at h; cases h
  | some a =>
    rw [hz] at h
    simp only [Bool.and_eq_true, decide_eq_true_eq] at h
    exact ⟨a, rfl, h.1, h.2.1, h.2.2⟩
theorem wok_is {v at_ : Nat} : E.wok v at_ = true ↔ E.hold = true ∧ at_ < E.H ∧ v ≠ E.s ∧ v ≠ E.t := by
  unfold wok
  simp only [Bool.and_eq_true, decide_eq_true_eq]
theorem share_wt {E : Exp} {i u v at_ : Nat} (hi : i < E.N) (hv : v < E.N) (x : Int) : share (E.arcKd (Kd.wt i u)) x (E.slot v at_) = (if u = at_ ∧ i = v then x else 0) - (if u + 1 = at_ ∧ i = v then x else 0) := by
  unfold share arcKd
  have f1 : frN ((E.slot i u : Int), (E.slot i (u + 1) : Int), big, 0) = E.slot i u := by simp [frN]
  have f2 : toN ((E.slot i u : Int), (E.slot i (u + 1) : Int), big, 0) = E.slot i (u + 1) := by simp [toN]
  simp only [f1, f2]
  unfold slot
  have g1 := slot_inj (a := u) (c := at_) hi hv
  have g2 := slot_inj (a := u + 1) (c := at_) hi hv
  congr 1
  · by_cases hc : u = at_ ∧ i = v
    · rw [if_pos hc, if_pos (g1.2 hc)]
    · rw [if_neg hc, if_neg (fun e => hc (g1.1 e))]
  · by_cases hc : u + 1 = at_ ∧ i = v
    · rw [if_pos hc, if_pos (g2.2 hc)]
    · rw [if_neg hc, if_neg (fun e => hc (g2.1 e))]
section
variable {E : Exp}
theorem share_mv (hG : E.Good) {i u v at_ : Nat} (h : E.ok i u = true) (hv : v < E.N) (x : Int) : share (E.arcKd (Kd.mv i u)) x (E.slot v at_) = (if u = at_ ∧ E.frA i = v then x else 0) - (if E.toA i = v ∧ u + E.tmA i = at_ then x else 0) := by
  obtain ⟨a, ha, _⟩ := E.ok_arc h
  have he := hG.ends a (List.mem_of_getElem? ha)
  have e1 : E.frA i = frN a := by unfold frA; rw [ha]
  have e2 : E.toA i = toN a := by unfold toA; rw [ha]
  have e3 : E.tmA i = tmN a := by unfold tmA; rw [ha]
  have e4 : E.arcKd (Kd.mv i u) = ((E.slot (frN a) u : Int), (E.slot (toN a) (u + tmN a) : Int), capN a, 0) := by simp only [arcKd, ha]
  rw [e1, e2, e3, e4]
  unfold share
  have f1 : frN ((E.slot (frN a) u : Int), (E.slot (toN a) (u + tmN a) : Int), capN a, 0) = E.slot (frN a) u := by simp [frN]
  have f2 : toN ((E.slot (frN a) u : Int), (E.slot (toN a) (u + tmN a) : Int), capN a, 0) = E.slot (toN a) (u + tmN a) := by simp [toN]
  rw [f1, f2]
  unfold slot
  have g1 := slot_inj (a := u) (c := at_) he.1 hv
  have g2 := slot_inj (a := u + tmN a) (c := at_) he.2 hv
  congr 1
  · by_cases hc : u = at_ ∧ frN a = v
    · rw [if_pos hc, if_pos (g1.2 hc)]
    · rw [if_neg hc, if_neg (fun e => hc (g1.1 e))]
  · by_cases hc : toN a = v ∧ u + tmN a = at_
    · rw [if_pos hc, if_pos (g2.2 ⟨hc.2, hc.1⟩)]
    · rw [if_neg hc, if_neg (fun e => hc ⟨(g2.1 e).2, (g2.1 e).1⟩)]
theorem share_so (hG : E.Good) {u v at_ : Nat} (hv : v < E.N) (ha : at_ ≤ E.H) (x : Int) : share (E.arcKd (Kd.so u)) x (E.slot v at_) = - (if u = at_ ∧ E.s = v then x else 0) := by
  unfold share arcKd
  have f1 : frN ((E.first : Int), (E.slot E.s u : Int), big, 0) = E.first := by simp [frN]
  have f2 : toN ((E.first : Int), (E.slot E.s u : Int), big, 0) = E.slot E.s u := by simp [toN]
  simp only [f1, f2]
  unfold slot first
  have g0 := slot_lt (N := E.N) ha hv
  have g1 := slot_inj (a := u) (c := at_) hG.s hv
  rw [if_neg (by omega)]
  by_cases hc : u = at_ ∧ E.s = v
  · rw [if_pos hc, if_pos (g1.2 hc)]; omega
  · rw [if_neg hc, if_neg (fun e => hc (g1.1 e))]; rfl
theorem share_si (hG : E.Good) {u v at_ : Nat} (hv : v < E.N) (ha : at_ ≤ E.H) (x : Int) : share (E.arcKd (Kd.si u)) x (E.slot v at_) = (if u = at_ ∧ E.t = v then x else 0) := by
  unfold share arcKd
  have f1 : frN ((E.slot E.t u : Int), (E.last : Int), big, 0) = E.slot E.t u := by simp [frN]
  have f2 : toN ((E.slot E.t u : Int), (E.last : Int), big, 0) = E.last := by simp [toN]
  simp only [f1, f2]
  unfold slot last
  have g0 := slot_lt (N := E.N) ha hv
  have g1 := slot_inj (a := u) (c := at_) hG.t hv
  rw [if_neg (show ¬ (E.H + 1) * E.N + 1 = at_ * E.N + v by omega)]
  by_cases hc : u = at_ ∧ E.t = v
  · rw [if_pos hc, if_pos (g1.2 hc)]; omega
  · rw [if_neg hc, if_neg (fun e => hc (g1.1 e))]; rfl
theorem slot_bal (hG : E.Good) (x : Kd → Int) {v at_ : Nat} (hv : v < E.N) (ha : at_ ≤ E.H) : bal E.net (E.kinds.map x) (E.slot v at_) = E.dep x v at_ - E.arr x v at_ + E.wait x v at_ - E.waited x v at_ - (if E.s = v then x (Kd.so at_) else 0) + (if E.t = v then x (Kd.si at_) else 0) := by
  unfold net
  rw [bal_balC, balC_map, kinds_sum]
  have m1 : sumTo (fun u => sumTo (fun j => if E.ok j u then share (E.arcKd (Kd.mv j u)) (x (Kd.mv j u)) (E.slot v at_) else 0) E.Z.length) (E.H + 1) = E.dep x v at_ - E.arr x v at_ := by
    rw [sumTo_congr (h := fun u => sumTo (fun j => if E.ok j u then (if u = at_ ∧ E.frA j = v then x (Kd.mv j u) else 0) else 0) E.Z.length - sumTo (fun j => if E.ok j u then (if E.toA j = v ∧ u + E.tmA j = at_ then x (Kd.mv j u) else 0) else 0) E.Z.length) (fun u _ => by
      rw [← sumTo_sub]
      exact sumTo_congr (fun j _ => by
        by_cases h : E.ok j u = true
        · rw [if_pos h, if_pos h, if_pos h, share_mv hG h hv]
        · rw [if_neg h, if_neg h, if_neg h]; rfl)), sumTo_sub]
    congr 1
    rw [sumTo_congr (h := fun u => if u = at_ then E.dep x v u else 0) (fun u _ => by
      by_cases e : u = at_
      · subst e
        rw [if_pos rfl]
        unfold dep
        exact sumTo_congr (fun j _ => by
          by_cases h : E.ok j u = true
          · rw [if_pos h, if_pos h]; simp
          · rw [if_neg h, if_neg h])
      · rw [if_neg e]
        exact (sumTo_congr (h := fun _ => 0) (fun j _ => by simp [e])).trans (sumTo_zero _)), sumTo_pick, if_pos (by omega)]
  have m2 : sumTo (fun u => sumTo (fun j => if E.wok j u then share (E.arcKd (Kd.wt j u)) (x (Kd.wt j u)) (E.slot v at_) else 0) E.N) (E.H + 1) = E.wait x v at_ - E.waited x v at_ := by
    have h1 : ∀ u, sumTo (fun j => if E.wok j u then share (E.arcKd (Kd.wt j u)) (x (Kd.wt j u)) (E.slot v at_) else 0) E.N = (if u = at_ then E.wait x v u else 0) - (if u + 1 = at_ then E.wait x v u else 0) := by
      intro u
      rw [sumTo_congr (h := fun j => if j = v then ((if u = at_ then E.wait x j u else 0) - (if u + 1 = at_ then E.wait x j u else 0)) else 0) (fun j hj => by
        by_cases h : E.wok j u = true
        · rw [if_pos h, share_wt hj hv]
          unfold wait
          rw [if_pos h]
          by_cases e : j = v
          · simp [e]
          · simp [e]
        · rw [if_neg h]
          unfold wait
          rw [if_neg h]
          by_cases e : j = v <;> simp [e]), sumTo_pick, if_pos hv]
    rw [sumTo_congr (h := fun u => (if u = at_ then E.wait x v u else 0) - (if u + 1 = at_ then E.wait x v u else 0)) (fun u _ => h1 u), sumTo_sub, sumTo_pick, if_pos (by omega)]
    congr 1
    cases at_ with
    | zero =>
      exact (sumTo_congr (h := fun _ => 0) (fun u _ => by simp)).trans (sumTo_zero _)
    | succ k =>
      rw [sumTo_congr (h := fun u => if u = k then E.wait x v u else 0) (fun u _ => by simp), sumTo_pick, if_pos (by omega)]
      rfl
  have m3 : sumTo (fun u => share (E.arcKd (Kd.so u)) (x (Kd.so u)) (E.slot v at_)) (E.H + 1) = - (if E.s = v then x (Kd.so at_) else 0) := by
    rw [sumTo_congr (h := fun u => - (if u = at_ then (if E.s = v then x (Kd.so u) else 0) else 0)) (fun u _ => by
      rw [share_so hG hv ha]
      by_cases e : u = at_ <;> simp [e]), sumTo_neg, sumTo_pick, if_pos (by omega)]
  have m4 : sumTo (fun u => share (E.arcKd (Kd.si u)) (x (Kd.si u)) (E.slot v at_)) (E.H + 1) = (if E.t = v then x (Kd.si at_) else 0) := by
    rw [sumTo_congr (h := fun u => if u = at_ then (if E.t = v then x (Kd.si u) else 0) else 0) (fun u _ => by
      rw [share_si hG hv ha]
      by_cases e : u = at_ <;> simp [e]), sumTo_pick, if_pos (by omega)]
  rw [m1, m2, m3, m4]
  omega
end
end Exp
end Go.Proofs.YtlkbohpnlbfopaaGreat
namespace Go.Proofs.YtlkbohpnlbfopaaGreat
set_option linter.unusedVariables false
namespace Exp
variable {E : Exp}
def stock (E : Exp) (x : Kd → Int) (v at_ : Nat) : Int := sumTo (fun u => E.arr x v u - E.dep x v u) (at_ + 1)
theorem waited_sum (x : Kd → Int) (v : Nat) : ∀ n, sumTo (fun u => E.wait x v u - E.waited x v u) (n + 1) = E.wait x v n
  | 0 => by simp [sumTo, waited]
  | n + 1 => by
    have ih := waited_sum x v n
    rw [sumTo, ih]
    simp only [waited]
    omega
theorem stock_wait (hG : E.Good) (x : Kd → Int) {v : Nat} (hv : v < E.N) (hs : v ≠ E.s) (ht : v ≠ E.t) (h : ∀ u, u ≤ E.H → bal E.net (E.kinds.map x) (E.slot v u) = 0) {at_ : Nat} (ha : at_ ≤ E.H) : E.stock x v at_ = E.wait x v at_ := by
  unfold stock
  rw [← waited_sum x v at_]
  refine sumTo_congr (fun u hu => ?_)
  have h1 := h u (by omega)
  rw [slot_bal hG x hv (by omega), if_neg (fun e => hs e.symm), if_neg (fun e => ht e.symm)] at h1
  omega
theorem arr_source (x : Kd → Int) (at_ : Nat) : E.arr x E.s at_ = 0 := by
  unfold arr
  refine (sumTo_congr (h := fun _ => 0) (fun u _ => ?_)).trans (sumTo_zero _)
  refine (sumTo_congr (h := fun _ => 0) (fun i _ => ?_)).trans (sumTo_zero _)
  by_cases h : E.ok i u = true
  · obtain ⟨a, ha, _, h2, _⟩ := E.ok_arc h
    rw [if_pos h, if_neg]
    rintro ⟨e, _⟩
    apply h2
    unfold toA at e
    rw [ha] at e
    exact e
  · rw [if_neg h]
theorem dep_sink (x : Kd → Int) (at_ : Nat) : E.dep x E.t at_ = 0 := by
  unfold dep
  refine (sumTo_congr (h := fun _ => 0) (fun i _ => ?_)).trans (sumTo_zero _)
  by_cases h : E.ok i at_ = true
  · obtain ⟨a, ha, _, _, h2⟩ := E.ok_arc h
    rw [if_pos h, if_neg]
    intro e
    apply h2
    unfold frA at e
    rw [ha] at e
    exact e
  · rw [if_neg h]
theorem wait_end (x : Kd → Int) (v : Nat) (hv : v = E.s ∨ v = E.t) (at_ : Nat) : E.wait x v at_ = 0 := by
  unfold wait
  rw [if_neg]
  intro h
  have := E.wok_is.1 h
  rcases hv with rfl | rfl
  · exact this.2.2.1 rfl
  · exact this.2.2.2 rfl
theorem waited_end (x : Kd → Int) (v : Nat) (hv : v = E.s ∨ v = E.t) : ∀ at_, E.waited x v at_ = 0
  | 0 => rfl
  | at_ + 1 => wait_end x v hv at_
theorem share_none {a : ArcT} {x : Int} {w : Nat} (h1 : frN a ≠ w) (h2 : toN a ≠ w) : share a x w = 0 := by unfold share; rw [if_neg h1, if_neg h2]; rfl
theorem mv_ends (hG : E.Good) {i u : Nat} (h : E.ok i u = true) : frN (E.arcKd (Kd.mv i u)) < E.first ∧ toN (E.arcKd (Kd.mv i u)) < E.first := by
  obtain ⟨a, ha, h1, _⟩ := E.ok_arc h
  have he := hG.ends a (List.mem_of_getElem? ha)
  have e4 : E.arcKd (Kd.mv i u) = ((E.slot (frN a) u : Int), (E.slot (toN a) (u + tmN a) : Int), capN a, 0) := by simp only [arcKd, ha]
  rw [e4]
  have g1 := slot_lt (N := E.N) (a := u) (H := E.H) (by omega) he.1
  have g2 := slot_lt (N := E.N) (a := u + tmN a) (H := E.H) h1 he.2
  unfold first slot at *
  constructor
  · show ((u * E.N + frN a : Nat) : Int).toNat < _
    omega
  · show (((u + tmN a) * E.N + toN a : Nat) : Int).toNat < _
    omega
theorem wt_ends {v u : Nat} (hv : v < E.N) (h : E.wok v u = true) : frN (E.arcKd (Kd.wt v u)) < E.first ∧ toN (E.arcKd (Kd.wt v u)) < E.first := by
  have h1 := (E.wok_is.1 h).2.1
  have g1 := slot_lt (N := E.N) (a := u) (H := E.H) (by omega) hv
  have g2 := slot_lt (N := E.N) (a := u + 1) (H := E.H) (by omega) hv
  unfold first
  constructor
  · show ((u * E.N + v : Nat) : Int).toNat < _
    omega
  · show (((u + 1) * E.N + v : Nat) : Int).toNat < _
    omega
theorem so_ends (hG : E.Good) {u : Nat} (hu : u ≤ E.H) : frN (E.arcKd (Kd.so u)) = E.first ∧ toN (E.arcKd (Kd.so u)) < E.first := by
  have g1 := slot_lt (N := E.N) (a := u) (H := E.H) hu hG.s
  unfold first
  constructor
  · show (((E.H + 1) * E.N : Nat) : Int).toNat = _
    omega
  · show ((u * E.N + E.s : Nat) : Int).toNat < _
    omega
theorem si_ends (hG : E.Good) {u : Nat} (hu : u ≤ E.H) : frN (E.arcKd (Kd.si u)) < E.first ∧ toN (E.arcKd (Kd.si u)) = E.last := by
  have g1 := slot_lt (N := E.N) (a := u) (H := E.H) hu hG.t
  unfold first last
  constructor
  · show ((u * E.N + E.t : Nat) : Int).toNat < _
    omega
  · show (((E.H + 1) * E.N + 1 : Nat) : Int).toNat = _
    omega
theorem first_lt : E.first < E.last := by unfold first last; omega
theorem bal_last (hG : E.Good) (x : Kd → Int) : bal E.net (E.kinds.map x) E.last = - sumTo (fun u => x (Kd.si u)) (E.H + 1) := by
  have hf := first_lt (E := E)
  unfold net
  rw [bal_balC, balC_map, kinds_sum]
  have m1 : sumTo (fun u => sumTo (fun j => if E.ok j u then share (E.arcKd (Kd.mv j u)) (x (Kd.mv j u)) E.last else 0) E.Z.length) (E.H + 1) = 0 := by
    refine (sumTo_congr (h := fun _ => 0) (fun u _ => ?_)).trans (sumTo_zero _)
    refine (sumTo_congr (h := fun _ => 0) (fun j _ => ?_)).trans (sumTo_zero _)
    by_cases h : E.ok j u = true
    · have := mv_ends hG h
      rw [if_pos h, share_none (by omega) (by omega)]
    · rw [if_neg h]
  have m2 : sumTo (fun u => sumTo (fun j => if E.wok j u then share (E.arcKd (Kd.wt j u)) (x (Kd.wt j u)) E.last else 0) E.N) (E.H + 1) = 0 := by
    refine (sumTo_congr (h := fun _ => 0) (fun u _ => ?_)).trans (sumTo_zero _)
    refine (sumTo_congr (h := fun _ => 0) (fun j hj => ?_)).trans (sumTo_zero _)
    by_cases h : E.wok j u = true
    · have := wt_ends hj h
      rw [if_pos h, share_none (by omega) (by omega)]
    · rw [if_neg h]
  have m3 : sumTo (fun u => share (E.arcKd (Kd.so u)) (x (Kd.so u)) E.last) (E.H + 1) = 0 := by
    refine (sumTo_congr (h := fun _ => 0) (fun u hu => ?_)).trans (sumTo_zero _)
    have := so_ends hG (u := u) (by omega)
    exact share_none (by omega) (by omega)
  have m4 : sumTo (fun u => share (E.arcKd (Kd.si u)) (x (Kd.si u)) E.last) (E.H + 1) = - sumTo (fun u => x (Kd.si u)) (E.H + 1) := by
    rw [← sumTo_neg]
    refine sumTo_congr (fun u hu => ?_)
    have := si_ends hG (u := u) (by omega)
    unfold share
    rw [if_neg (by omega), if_pos this.2]
    omega
  rw [m1, m2, m3, m4]
  omega
theorem kinds_cases {k : Kd} (hk : k ∈ E.kinds) : (∃ i u, k = Kd.mv i u ∧ E.ok i u = true) ∨ (∃ v u, v < E.N ∧ k = Kd.wt v u ∧ E.wok v u = true) ∨ (∃ u, u ≤ E.H ∧ k = Kd.so u) ∨ ∃ u, u ≤ E.H ∧ k = Kd.si u := by
  have hmv : ∀ at_ i, ∀ k ∈ E.mvK at_ i, ∃ j, k = Kd.mv j at_ ∧ E.ok j at_ = true := by
    intro at_ i
    induction i with
    | zero => intro k hk; cases hk
    | succ i ih =>
      intro k hk
      have hk : k ∈ E.mvK at_ i ++ if E.ok i at_ then [Kd.mv i at_] else [] := hk
      rcases List.mem_append.1 hk with hk | hk
      · exact ih k hk
      · split at hk
        · next ho => rw [List.mem_singleton] at hk; exact ⟨i, hk, ho⟩
        · cases hk
  have hwt : ∀ at_ i, ∀ k ∈ E.wtK at_ i, ∃ j, j < i ∧ k = Kd.wt j at_ ∧ E.wok j at_ = true := by
    intro at_ i
    induction i with
    | zero => intro k hk; cases hk
    | succ i ih =>
      intro k hk
      have hk : k ∈ E.wtK at_ i ++ if E.wok i at_ then [Kd.wt i at_] else [] := hk
      rcases List.mem_append.1 hk with hk | hk
      · obtain ⟨j, h1, h2, h3⟩ := ih k hk
        exact ⟨j, by omega, h2, h3⟩
      · split at hk
        · next ho => rw [List.mem_singleton] at hk; exact ⟨i, by omega, hk, ho⟩
        · cases hk
  have htm : ∀ n, ∀ k ∈ E.timeK n, (∃ i u, k = Kd.mv i u ∧ E.ok i u = true) ∨ ∃ v u, v < E.N ∧ k = Kd.wt v u ∧ E.wok v u = true := by
    intro n
    induction n with
    | zero => intro k hk; cases hk
    | succ n ih =>
      intro k hk
      have hk : k ∈ E.timeK n ++ (E.mvK n E.Z.length ++ E.wtK n E.N) := hk
      rcases List.mem_append.1 hk with hk | hk
      · exact ih k hk
      · rcases List.mem_append.1 hk with hk | hk
        · obtain ⟨j, h1, h2⟩ := hmv n _ k hk
          exact .inl ⟨j, n, h1, h2⟩
        · obtain ⟨j, h1, h2, h3⟩ := hwt n _ k hk
          exact .inr ⟨j, n, h1, h2, h3⟩
  have hso : ∀ n, ∀ k ∈ soK n, ∃ u, u < n ∧ k = Kd.so u := by
    intro n
    induction n with
    | zero => intro k hk; cases hk
    | succ n ih =>
      intro k hk
      have hk : k ∈ soK n ++ [Kd.so n] := hk
      rcases List.mem_append.1 hk with hk | hk
      · obtain ⟨u, h1, h2⟩ := ih k hk; exact ⟨u, by omega, h2⟩
      · rw [List.mem_singleton] at hk; exact ⟨n, by omega, hk⟩
  have hsi : ∀ n, ∀ k ∈ siK n, ∃ u, u < n ∧ k = Kd.si u := by
    intro n
    induction n with
    | zero => intro k hk; cases hk
    | succ n ih =>
      intro k hk
      have hk : k ∈ siK n ++ [Kd.si n] := hk
      rcases List.mem_append.1 hk with hk | hk
      · obtain ⟨u, h1, h2⟩ := ih k hk; exact ⟨u, by omega, h2⟩
      · rw [List.mem_singleton] at hk; exact ⟨n, by omega, hk⟩
  unfold kinds at hk
  rcases List.mem_append.1 hk with hk | hk
  · rcases htm _ k hk with h | h
    · exact .inl h
    · exact .inr (.inl h)
  · rcases List.mem_append.1 hk with hk | hk
    · obtain ⟨u, h1, h2⟩ := hso _ k hk
      exact .inr (.inr (.inl ⟨u, by omega, h2⟩))
    · obtain ⟨u, h1, h2⟩ := hsi _ k hk
      exact .inr (.inr (.inr ⟨u, by omega, h2⟩))
theorem net_ends (hG : E.Good) : ∀ a ∈ E.net, frN a < E.last + 1 ∧ toN a < E.last + 1 := by
  have hf := first_lt (E := E)
  intro a ha
  unfold net at ha
  obtain ⟨k, hk, rfl⟩ := List.mem_map.1 ha
  rcases kinds_cases hk with ⟨i, u, rfl, h⟩ | ⟨v, u, hv, rfl, h⟩ | ⟨u, h1, rfl⟩ | ⟨u, h1, rfl⟩
  · have := mv_ends hG h; omega
  · have := wt_ends hv h; omega
  · have := so_ends hG (u := u) h1; omega
  · have := si_ends hG (u := u) h1; omega
theorem slot_of (hG : E.Good) {w : Nat} (h : w < E.first) : ∃ v at_, v < E.N ∧ at_ ≤ E.H ∧ w = E.slot v at_ := by
  have hN : 0 < E.N := by have := hG.s; omega
  refine ⟨w % E.N, w / E.N, Nat.mod_lt _ hN, ?_, ?_⟩
  · unfold first at h
    have := (Nat.div_lt_iff_lt_mul hN).2 h
    omega
  · unfold slot
    have := Nat.div_add_mod w E.N
    rw [Nat.mul_comm] at this
    omega
def Plan (E : Exp) (x : Kd → Int) : Prop := (∀ i u, E.ok i u = true → 0 ≤ x (Kd.mv i u) ∧ ∀ a, E.Z[i]? = some a → x (Kd.mv i u) ≤ capN a) ∧ ∀ v, v < E.N → v ≠ E.s → v ≠ E.t → ∀ u, u ≤ E.H → 0 ≤ E.stock x v u ∧ (E.stock x v u = 0 ∨ (E.hold = true ∧ u < E.H))
theorem runs (hG : E.Good) (x : Kd → Int) {k : Int} (h : FlowST E.net (E.last + 1) E.first E.last (E.kinds.map x) k) (hp : ∀ i u, E.ok i u = true → 0 ≤ x (Kd.mv i u) ∧ ∀ a, E.Z[i]? = some a → x (Kd.mv i u) ≤ capN a) (hw : ∀ v u, v < E.N → E.wok v u = true → 0 ≤ x (Kd.wt v u)) :
    E.Plan x ∧ E.stock x E.t E.H = k := by
  have hf := first_lt (E := E)
  have hbal : ∀ v u, v < E.N → u ≤ E.H → bal E.net (E.kinds.map x) (E.slot v u) = 0 := fun v u hv hu => by
    have hlt : E.slot v u < E.first := slot_lt hu hv
    exact h.2.1 _ (by omega) (by omega) (by omega)
  refine ⟨⟨hp, fun v hv hs ht u hu => ?_⟩, ?_⟩
  · rw [stock_wait hG x hv hs ht (fun u hu => hbal v u hv hu) hu]
    unfold wait
    by_cases hk : E.wok v u = true
    · rw [if_pos hk]
      have := E.wok_is.1 hk
      exact ⟨hw v u hv hk, .inr ⟨this.1, this.2.1⟩⟩
    · rw [if_neg hk]; exact ⟨Int.le_refl _, .inl rfl⟩
  · have e1 : E.stock x E.t E.H = sumTo (fun u => x (Kd.si u)) (E.H + 1) := by
      unfold stock
      refine sumTo_congr (fun u hu => ?_)
      have h1 := hbal E.t u hG.t (by omega)
      rw [slot_bal hG x hG.t (by omega), wait_end x _ (.inr rfl), waited_end x _ (.inr rfl), if_neg hG.ne, if_pos rfl] at h1
      omega
    have h2 := flow_sink (net_ends hG) (by omega) (by omega) (by omega) h
    have h3 := bal_last hG x
    rw [e1]
    omega
theorem sumTo_nonneg {g : Nat → Int} : ∀ {n}, (∀ v, v < n → 0 ≤ g v) → 0 ≤ sumTo g n
  | 0, _ => Int.le_refl _
  | n + 1, h => by
    have h1 := sumTo_nonneg (g := g) (n := n) (fun v hv => h v (by omega))
    have h2 := h n (by omega)
    simp only [sumTo]
    omega
theorem dep_nonneg {x : Kd → Int} (h : ∀ i u, E.ok i u = true → 0 ≤ x (Kd.mv i u)) (v at_ : Nat) : 0 ≤ E.dep x v at_ := by
  unfold dep
  refine sumTo_nonneg (fun i _ => ?_)
  by_cases hk : E.ok i at_ = true
  · rw [if_pos hk]
    split
    · exact h i at_ hk
    · exact Int.le_refl _
  · rw [if_neg hk]; exact Int.le_refl _
theorem arr_nonneg {x : Kd → Int} (h : ∀ i u, E.ok i u = true → 0 ≤ x (Kd.mv i u)) (v at_ : Nat) : 0 ≤ E.arr x v at_ := by
  unfold arr
  refine sumTo_nonneg (fun u _ => sumTo_nonneg (fun i _ => ?_))
  by_cases hk : E.ok i u = true
  · rw [if_pos hk]
    split
    · exact h i u hk
    · exact Int.le_refl _
  · rw [if_neg hk]; exact Int.le_refl _
theorem flow_map {K : List Kd} {a : Kd → ArcT} {x : Kd → Int} (h : ∀ k ∈ K, 0 ≤ x k ∧ x k ≤ capN (a k)) : Flow (K.map a) (K.map x) := by
  refine ⟨by simp, fun i b hi => ?_⟩
  rw [List.getElem?_map] at hi
  cases hk : K[i]? with
  | none => rw [hk] at hi; cases hi
  | some k =>
    rw [hk] at hi
    cases hi
    have e : atI (K.map x) i = x k := by unfold atI; rw [List.getD_eq_getElem?_getD, List.getElem?_map, hk]; rfl
    rw [e]
    exact h k (List.mem_of_getElem? hk)
def flowX (E : Exp) (y : Kd → Int) : Kd → Int
  | (0, i, u) => y (Kd.mv i u)
  | (1, v, u) => E.stock y v u
  | (2, _, u) => E.dep y E.s u
  | (_ + 3, _, u) => E.arr y E.t u
theorem flowX_stock (y : Kd → Int) (v u : Nat) : E.stock (E.flowX y) v u = E.stock y v u ∧ E.dep (E.flowX y) v u = E.dep y v u ∧ E.arr (E.flowX y) v u = E.arr y v u := ⟨rfl, rfl, rfl⟩
theorem flows (hG : E.Good) {y : Kd → Int} (h : E.Plan y) (hb : ∀ v u, v < E.N → u ≤ E.H → E.stock y v u ≤ big ∧ E.dep y v u ≤ big ∧ E.arr y v u ≤ big) : FlowST E.net (E.last + 1) E.first E.last (E.kinds.map (E.flowX y)) (E.stock y E.t E.H) := by
  have hf := first_lt (E := E)
  have hp : ∀ i u, E.ok i u = true → 0 ≤ y (Kd.mv i u) := fun i u hk => (h.1 i u hk).1
  have hslot : ∀ v u, v < E.N → u ≤ E.H → bal E.net (E.kinds.map (E.flowX y)) (E.slot v u) = 0 := by
    intro v u hv hu
    rw [slot_bal hG _ hv hu, (flowX_stock y v u).2.1, (flowX_stock y v u).2.2]
    by_cases hs : v = E.s
    · subst hs
      rw [wait_end _ _ (.inl rfl), waited_end _ _ (.inl rfl), if_pos rfl, if_neg (fun e => hG.ne e.symm), arr_source]
      show E.dep y E.s u - 0 + 0 - 0 - E.dep y E.s u + 0 = 0
      omega
    · by_cases ht : v = E.t
      · subst ht
        rw [wait_end _ _ (.inr rfl), waited_end _ _ (.inr rfl), if_neg hG.ne, if_pos rfl, dep_sink]
        show 0 - E.arr y E.t u + 0 - 0 - 0 + E.arr y E.t u = 0
        omega
      · rw [if_neg (fun e => hs e.symm), if_neg (fun e => ht e.symm)]
        have hwait : ∀ w, w ≤ E.H → E.wait (E.flowX y) v w = E.stock y v w := by
          intro w hw
          unfold wait
          by_cases hk : E.wok v w = true
          · rw [if_pos hk]; rfl
          · rw [if_neg hk]
            rcases (h.2 v hv hs ht w hw).2 with e | ⟨e1, e2⟩
            · exact e.symm
            · exact absurd (E.wok_is.2 ⟨e1, e2, hs, ht⟩) hk
        rw [hwait u hu]
        cases u with
        | zero =>
          have e : E.stock y v 0 = 0 + (E.arr y v 0 - E.dep y v 0) := rfl
          simp only [waited]
          omega
        | succ u =>
          have e : E.stock y v (u + 1) = E.stock y v u + (E.arr y v (u + 1) - E.dep y v (u + 1)) := rfl
          simp only [waited]
          rw [hwait u (by omega)]
          omega
  have hfl : Flow E.net (E.kinds.map (E.flowX y)) := by
    refine flow_map (fun k hk => ?_)
    rcases kinds_cases hk with ⟨i, u, rfl, ho⟩ | ⟨v, u, hv, rfl, ho⟩ | ⟨u, h1, rfl⟩ | ⟨u, h1, rfl⟩
    · obtain ⟨a, ha, _⟩ := E.ok_arc ho
      have e4 : E.arcKd (Kd.mv i u) = ((E.slot (frN a) u : Int), (E.slot (toN a) (u + tmN a) : Int), capN a, 0) := by simp only [arcKd, ha]
      rw [e4]
      exact ⟨(h.1 i u ho).1, (h.1 i u ho).2 a ha⟩
    · have hw := E.wok_is.1 ho
      exact ⟨(h.2 v hv hw.2.2.1 hw.2.2.2 u (by omega)).1, (hb v u hv (by omega)).1⟩
    · exact ⟨dep_nonneg hp _ _, (hb E.s u hG.s h1).2.1⟩
    · exact ⟨arr_nonneg hp _ _, (hb E.t u hG.t h1).2.2⟩
  have hz : ∀ w, w < E.last + 1 → w ≠ E.first → w ≠ E.last → bal E.net (E.kinds.map (E.flowX y)) w = 0 := by
    intro w hw h1 h2
    have hlt : w < E.first := by unfold first last at *; omega
    obtain ⟨v, u, hv, hu, rfl⟩ := slot_of hG hlt
    exact hslot v u hv hu
  refine ⟨hfl, hz, ?_⟩
  have h1 := sum_two (g := bal E.net (E.kinds.map (E.flowX y))) (N := E.last + 1) (s := E.first) (t := E.last) (by omega) (by omega) (by omega) hz
  rw [bal_sum (net_ends hG), bal_last hG] at h1
  have e1 : E.stock y E.t E.H = sumTo (fun u => E.flowX y (Kd.si u)) (E.H + 1) := by
    unfold stock
    refine sumTo_congr (fun u _ => ?_)
    rw [dep_sink]
    show E.arr y E.t u - 0 = E.arr y E.t u
    omega
  rw [e1]
  omega
end Exp
end Go.Proofs.YtlkbohpnlbfopaaGreat
namespace Go.Proofs.YtlkbohpnlbfopaaGreat
set_option linter.unusedVariables false
namespace Exp
variable {E : Exp}
theorem dep7_add (x y : Kd → Int) (v at_ : Nat) : E.dep (fun k => x k + y k) v at_ = E.dep x v at_ + E.dep y v at_ := by
  unfold dep
  rw [← sumTo_add]
  refine sumTo_congr (fun i _ => ?_)
  by_cases h1 : E.ok i at_ = true
  · rw [if_pos h1, if_pos h1, if_pos h1]
    by_cases h2 : E.frA i = v
    · rw [if_pos h2, if_pos h2, if_pos h2]
    · rw [if_neg h2, if_neg h2, if_neg h2]; rfl
  · rw [if_neg h1, if_neg h1, if_neg h1]; rfl
theorem arr7_add (x y : Kd → Int) (v at_ : Nat) : E.arr (fun k => x k + y k) v at_ = E.arr x v at_ + E.arr y v at_ := by
  unfold arr
  rw [← sumTo_add]
  refine sumTo_congr (fun u _ => ?_)
  rw [← sumTo_add]
  refine sumTo_congr (fun i _ => ?_)
  by_cases h1 : E.ok i u = true
  · rw [if_pos h1, if_pos h1, if_pos h1]
    by_cases h2 : E.toA i = v ∧ u + E.tmA i = at_
    · rw [if_pos h2, if_pos h2, if_pos h2]
    · rw [if_neg h2, if_neg h2, if_neg h2]; rfl
  · rw [if_neg h1, if_neg h1, if_neg h1]; rfl
theorem dep7_zero (v at_ : Nat) : E.dep (fun _ => 0) v at_ = 0 := by
  unfold dep
  refine (sumTo_congr (h := fun _ => 0) (fun i _ => ?_)).trans (sumTo_zero _)
  split
  · split <;> rfl
  · rfl
theorem arr7_zero (v at_ : Nat) : E.arr (fun _ => 0) v at_ = 0 := by
  unfold arr
  refine (sumTo_congr (h := fun _ => 0) (fun u _ => ?_)).trans (sumTo_zero _)
  refine (sumTo_congr (h := fun _ => 0) (fun i _ => ?_)).trans (sumTo_zero _)
  split
  · split <;> rfl
  · rfl
theorem stock7_add (x y : Kd → Int) (v at_ : Nat) : E.stock (fun k => x k + y k) v at_ = E.stock x v at_ + E.stock y v at_ := by
  unfold stock
  rw [← sumTo_add]
  refine sumTo_congr (fun u _ => ?_)
  rw [dep7_add, arr7_add]
  omega
theorem stock7_zero (v at_ : Nat) : E.stock (fun _ => 0) v at_ = 0 := by
  unfold stock
  refine (sumTo_congr (h := fun _ => 0) (fun u _ => ?_)).trans (sumTo_zero _)
  rw [dep7_zero, arr7_zero]
  rfl
def oneX (i u : Nat) (n : Int) (k : Kd) : Int := if k = Kd.mv i u then n else 0
theorem mv_eq {i u j w : Nat} : Kd.mv j w = Kd.mv i u ↔ j = i ∧ w = u := by
  constructor
  · intro h
    injection h with h1 h2
    injection h2 with h3 h4
    exact ⟨h3, h4⟩
  · rintro ⟨rfl, rfl⟩; rfl
theorem ok_lt {i u : Nat} (h : E.ok i u = true) : i < E.Z.length ∧ u ≤ E.H := by
  obtain ⟨a, ha, h1, _⟩ := E.ok_arc h
  exact ⟨(List.getElem?_eq_some_iff.1 ha).1, by omega⟩
theorem dep7_one {i u : Nat} (h : E.ok i u = true) (n : Int) (v at_ : Nat) : E.dep (oneX i u n) v at_ = if E.frA i = v ∧ u = at_ then n else 0 := by
  unfold dep
  rw [sumTo_congr (h := fun j => if j = i then (if E.frA j = v ∧ u = at_ then n else 0) else 0) (fun j _ => by
    unfold oneX
    by_cases e : j = i
    · subst e
      rw [if_pos rfl]
      by_cases e2 : at_ = u
      · subst e2
        rw [if_pos h, if_pos rfl]
        by_cases e3 : E.frA j = v
        · rw [if_pos e3, if_pos ⟨e3, rfl⟩]
        · rw [if_neg e3, if_neg (fun q => e3 q.1)]
      · rw [if_neg (fun q : E.frA j = v ∧ u = at_ => e2 q.2.symm), if_neg (fun q => e2 (mv_eq.1 q).2)]
        split
        · split <;> rfl
        · rfl
    · rw [if_neg e, if_neg (fun q => e (mv_eq.1 q).1)]
      split
      · split <;> rfl
      · rfl), sumTo_pick, if_pos (ok_lt h).1]
theorem arr7_one {i u : Nat} (h : E.ok i u = true) (n : Int) (v at_ : Nat) : E.arr (oneX i u n) v at_ = if E.toA i = v ∧ u + E.tmA i = at_ then n else 0 := by
  unfold arr
  rw [sumTo_congr (h := fun w => if w = u then (if E.toA i = v ∧ u + E.tmA i = at_ then n else 0) else 0) (fun w _ => by
    by_cases e : w = u
    · subst e
      rw [if_pos rfl]
      rw [sumTo_congr (h := fun j => if j = i then (if E.toA j = v ∧ w + E.tmA j = at_ then n else 0) else 0) (fun j _ => by
        unfold oneX
        by_cases e : j = i
        · subst e
          rw [if_pos rfl, if_pos h, if_pos rfl]
        · rw [if_neg e, if_neg (fun q => e (mv_eq.1 q).1)]
          split
          · split <;> rfl
          · rfl), sumTo_pick, if_pos (ok_lt h).1]
    · rw [if_neg e]
      refine (sumTo_congr (h := fun _ => 0) (fun j _ => ?_)).trans (sumTo_zero _)
      unfold oneX
      rw [if_neg (fun q => e (mv_eq.1 q).2)]
      split
      · split <;> rfl
      · rfl), sumTo_pick, if_pos (by have := (ok_lt h).2; omega)]
def tripX (E : Exp) (n : Int) : List StepT → Nat → Kd → Int
  | [], _, _ => 0
  | x :: r, u, k => oneX x.1.toNat u n k + tripX E n r (u + E.tmA x.1.toNat) k
def lenE (E : Exp) : List StepT → Nat
  | [] => 0
  | x :: r => E.tmA x.1.toNat + lenE E r
def Goes (E : Exp) : List StepT → Nat → Prop
  | [], _ => True
  | x :: r, u => E.ok x.1.toNat u = true ∧ Goes E r (u + E.tmA x.1.toNat)
theorem arc_fr {x : StepT} (hx : isArc E.Z x) (hq : x.2 = false) : E.frA x.1.toNat = fromS E.Z x ∧ E.toA x.1.toNat = toS E.Z x ∧ E.tmA x.1.toNat = tmN (arcOf E.Z x) := by
  have ha := arcOf_at hx
  unfold frA toA tmA fromS toS
  rw [ha, hq]
  exact ⟨rfl, rfl, rfl⟩
theorem trip_net {n : Int} : ∀ {l : List StepT} {a b u : Nat}, Trail E.Z a l b → (∀ x ∈ l, x.2 = false) → E.Goes l u → ∀ v at_, E.arr (E.tripX n l u) v at_ - E.dep (E.tripX n l u) v at_ = (if b = v ∧ u + E.lenE l = at_ then n else 0) - (if a = v ∧ u = at_ then n else 0)
  | [], a, b, u, ht, _, _, v, at_ => by
    simp only [Trail] at ht
    subst ht
    show E.arr (fun _ => 0) v at_ - E.dep (fun _ => 0) v at_ = _
    rw [dep7_zero, arr7_zero]
    have e : u + E.lenE [] = u := rfl
    rw [e]
    omega
  | x :: r, a, b, u, ht, hq, hg, v, at_ => by
    obtain ⟨t1, t2, t3⟩ := ht
    obtain ⟨g1, g2⟩ := hg
    have ih := trip_net (n := n) t3 (fun y hy => hq y (by simp [hy])) g2 v at_
    obtain ⟨e1, e2, e3⟩ := arc_fr t2 (hq x (by simp))
    show E.arr (fun k => oneX x.1.toNat u n k + E.tripX n r (u + E.tmA x.1.toNat) k) v at_ - E.dep (fun k => oneX x.1.toNat u n k + E.tripX n r (u + E.tmA x.1.toNat) k) v at_ = _
    have e4 : u + E.lenE (x :: r) = u + E.tmA x.1.toNat + E.lenE r := by simp only [lenE]; omega
    rw [dep7_add, arr7_add, dep7_one g1, arr7_one g1, e1, e2, t1, e4]
    omega
theorem sumTo_from {g : Int} {c : Prop} [Decidable c] {w : Nat} (n : Nat) : sumTo (fun u => if c ∧ w = u then g else 0) n = if c ∧ w < n then g else 0 := by
  by_cases hc : c
  · rw [sumTo_congr (h := fun u => if w = u then g else 0) (fun u _ => by simp [hc]), sumTo_one]
    simp [hc]
  · rw [sumTo_congr (h := fun _ => 0) (fun u _ => by simp [hc]), sumTo_zero]
    simp [hc]
theorem trip_stock {n : Int} {l : List StepT} {a b u : Nat} (ht : Trail E.Z a l b) (hq : ∀ x ∈ l, x.2 = false) (hg : E.Goes l u) (v at_ : Nat) : E.stock (E.tripX n l u) v at_ = (if b = v ∧ u + E.lenE l ≤ at_ then n else 0) - (if a = v ∧ u ≤ at_ then n else 0) := by
  unfold stock
  rw [sumTo_congr (fun w _ => trip_net ht hq hg v w), sumTo_sub, sumTo_from, sumTo_from]
  congr 1
  · by_cases h : b = v ∧ u + E.lenE l ≤ at_
    · rw [if_pos h, if_pos ⟨h.1, by omega⟩]
    · rw [if_neg h, if_neg (fun q => h ⟨q.1, by omega⟩)]
  · by_cases h : a = v ∧ u ≤ at_
    · rw [if_pos h, if_pos ⟨h.1, by omega⟩]
    · rw [if_neg h, if_neg (fun q => h ⟨q.1, by omega⟩)]
def againX (E : Exp) (n : Int) (l : List StepT) : Nat → Kd → Int
  | 0, _ => 0
  | m + 1, k => againX E n l m k + E.tripX n l m k
def repX (E : Exp) : List Part → Kd → Int
  | [], _ => 0
  | p :: r, k => E.againX p.2 p.1 (E.H + 1 - E.lenE p.1) k + repX E r k
theorem again_stock {n : Int} {l : List StepT} {a b : Nat} (ht : Trail E.Z a l b) (hq : ∀ x ∈ l, x.2 = false) (v at_ : Nat) : ∀ m, (∀ u, u < m → E.Goes l u) → (a ≠ v → b ≠ v → E.stock (E.againX n l m) v at_ = 0) ∧ (b = v → a ≠ v → E.stock (E.againX n l m) v at_ = sumTo (fun u => if u + E.lenE l ≤ at_ then n else 0) m)
  | 0, _ => ⟨fun _ _ => stock7_zero v at_, fun _ _ => stock7_zero v at_⟩
  | m + 1, hg => by
    obtain ⟨i1, i2⟩ := again_stock (n := n) ht hq v at_ m (fun u hu => hg u (by omega))
    have h1 := trip_stock (n := n) ht hq (hg m (by omega)) v at_
    have e : E.stock (E.againX n l (m + 1)) v at_ = E.stock (E.againX n l m) v at_ + E.stock (E.tripX n l m) v at_ := stock7_add _ _ v at_
    refine ⟨fun ha hb => ?_, fun hb ha => ?_⟩
    · rw [e, i1 ha hb, h1, if_neg (fun q => hb q.1), if_neg (fun q => ha q.1)]; rfl
    · rw [e, i2 hb ha, h1, if_neg (fun q : a = v ∧ m ≤ at_ => ha q.1)]
      simp only [sumTo]
      by_cases h : m + E.lenE l ≤ at_
      · rw [if_pos ⟨hb, h⟩, if_pos h]; omega
      · rw [if_neg (fun q => h q.2), if_neg h]; omega
theorem trip_at {n : Int} (hn : 0 ≤ n) {i w : Nat} : ∀ {l : List StepT} {u : Nat}, 0 ≤ E.tripX n l u (Kd.mv i w) ∧ (i ∉ l.map (fun x => x.1.toNat) → E.tripX n l u (Kd.mv i w) = 0)
  | [], u => ⟨Int.le_refl _, fun _ => rfl⟩
  | x :: r, u => by
    obtain ⟨i1, i2⟩ := trip_at (n := n) hn (i := i) (w := w) (l := r) (u := u + E.tmA x.1.toNat)
    refine ⟨?_, fun hm => ?_⟩
    · show 0 ≤ oneX _ _ _ _ + _
      have : 0 ≤ oneX x.1.toNat u n (Kd.mv i w) := by unfold oneX; split <;> omega
      omega
    · rw [List.map_cons, List.mem_cons] at hm
      show oneX _ _ _ _ + _ = 0
      rw [i2 (fun h => hm (.inr h))]
      unfold oneX
      rw [if_neg (fun q => hm (.inl (mv_eq.1 q).1))]
      rfl
def offN (E : Exp) (i : Nat) : List StepT → Nat
  | [] => 0
  | x :: r => if x.1.toNat = i then 0 else E.tmA x.1.toNat + offN E i r
theorem trip_once {n : Int} {i w : Nat} : ∀ {l : List StepT} {u : Nat}, (l.map fun x => x.1.toNat).Nodup → i ∈ l.map (fun x => x.1.toNat) → E.tripX n l u (Kd.mv i w) = if u + E.offN i l = w then n else 0
  | [], u, _, hm => by cases hm
  | x :: r, u, hn, hm => by
    rw [List.map_cons, List.nodup_cons] at hn
    show oneX _ _ _ _ + E.tripX n r (u + E.tmA x.1.toNat) _ = _
    by_cases e : x.1.toNat = i
    · have hz : E.tripX n r (u + E.tmA x.1.toNat) (Kd.mv i w) = 0 := by
        have : ∀ {l : List StepT} {u : Nat}, i ∉ l.map (fun x => x.1.toNat) → E.tripX n l u (Kd.mv i w) = 0 := by
          intro l
          induction l with
          | nil => intro u _; rfl
          | cons y r ih =>
            intro u hm
            rw [List.map_cons, List.mem_cons] at hm
            show oneX _ _ _ _ + E.tripX n r _ _ = 0
            rw [ih (fun h => hm (.inr h))]
            unfold oneX
            rw [if_neg (fun q => hm (.inl (mv_eq.1 q).1))]
            rfl
        exact this (by rw [← e]; exact hn.1)
      rw [hz]
      unfold oneX offN
      rw [if_pos e]
      by_cases e2 : u = w
      · subst e2
        rw [if_pos (mv_eq.2 ⟨e.symm, rfl⟩), if_pos (by omega)]
        omega
      · rw [if_neg (fun q => e2 (mv_eq.1 q).2.symm), if_neg (by omega)]
        rfl
    · have hm2 : i ∈ r.map (fun x => x.1.toNat) := by
        rw [List.map_cons, List.mem_cons] at hm
        rcases hm with h | h
        · exact absurd h.symm e
        · exact h
      rw [trip_once hn.2 hm2]
      unfold oneX
      rw [if_neg (fun q => e (mv_eq.1 q).1.symm)]
      show 0 + _ = if u + (if x.1.toNat = i then 0 else E.tmA x.1.toNat + E.offN i r) = w then n else 0
      rw [if_neg e, show u + (E.tmA x.1.toNat + E.offN i r) = u + E.tmA x.1.toNat + E.offN i r by omega]
      omega
theorem again_at {n : Int} (hn : 0 ≤ n) {l : List StepT} (hd : (l.map fun x => x.1.toNat).Nodup) (i w : Nat) (m : Nat) : 0 ≤ E.againX n l m (Kd.mv i w) ∧ E.againX n l m (Kd.mv i w) ≤ if i ∈ l.map (fun x => x.1.toNat) then n else 0 := by
  by_cases hi : i ∈ l.map (fun x => x.1.toNat)
  · rw [if_pos hi]
    have e : E.againX n l m (Kd.mv i w) = sumTo (fun u => if u + E.offN i l = w then n else 0) m := by
      induction m with
      | zero => rfl
      | succ m ih =>
        show E.againX n l m _ + E.tripX n l m _ = _
        rw [ih, trip_once hd hi]
        rfl
    rw [e]
    by_cases hw : E.offN i l ≤ w
    · rw [sumTo_congr (h := fun u => if w - E.offN i l = u then n else 0) (fun u _ => by
        by_cases h : u + E.offN i l = w
        · rw [if_pos h, if_pos (by omega)]
        · rw [if_neg h, if_neg (by omega)]), sumTo_one]
      split <;> omega
    · rw [sumTo_congr (h := fun _ => 0) (fun u _ => by rw [if_neg (by omega)]), sumTo_zero]
      omega
  · rw [if_neg hi]
    have e : E.againX n l m (Kd.mv i w) = 0 := by
      induction m with
      | zero => rfl
      | succ m ih =>
        show E.againX n l m _ + E.tripX n l m _ = 0
        rw [ih, (trip_at hn).2 hi]
        rfl
    omega
theorem rep_at (i w : Nat) : ∀ D : List Part, (∀ p ∈ D, PartIs E.Z E.s E.t p) → 0 ≤ E.repX D (Kd.mv i w) ∧ E.repX D (Kd.mv i w) ≤ partAt i D
  | [], _ => ⟨Int.le_refl _, Int.le_refl _⟩
  | p :: r, h => by
    have hp := h p (by simp)
    obtain ⟨i1, i2⟩ := rep_at i w r (fun q hq => h q (by simp [hq]))
    have h1 := again_at (E := E) (n := p.2) (by have := hp.2.2.2.2.2; omega) (toNat_nodup (trail_isArc hp.1) (part_once hp)) i w (E.H + 1 - E.lenE p.1)
    show 0 ≤ E.againX _ _ _ _ + _ ∧ E.againX _ _ _ _ + _ ≤ (if _ then _ else _) + _
    omega
theorem trail_last {Z : List ArcT} : ∀ {l : List StepT} {a b : Nat}, Trail Z a l b → l ≠ [] → b ∈ l.map (toS Z)
  | [], _, _, _, h => absurd rfl h
  | [x], _, _, h, _ => by
    have := h.2.2
    simp only [Trail] at this
    simp [this]
  | x :: y :: r, _, _, h, _ => by
    have := trail_last h.2.2 (by simp)
    rw [List.map_cons, List.mem_cons]
    exact .inr this
theorem trail_from {Z : List ArcT} : ∀ {l : List StepT} {a b : Nat}, Trail Z a l b → (l.map (toS Z)).Nodup → a ≠ b → ∀ x ∈ l, fromS Z x ≠ b
  | [], _, _, _, _, _, x, hx => by cases hx
  | y :: r, a, b, h, hn, hne, x, hx => by
    rw [List.map_cons, List.nodup_cons] at hn
    rcases List.mem_cons.1 hx with rfl | hx
    · rw [h.1]; exact hne
    · have hr : r ≠ [] := by rintro rfl; cases hx
      have hb := trail_last h.2.2 hr
      exact trail_from h.2.2 hn.2 (fun e => hn.1 (by rw [e]; exact hb)) x hx
theorem goes_of {l : List StepT} : ∀ {u : Nat}, (∀ x ∈ l, isArc E.Z x ∧ x.2 = false ∧ toS E.Z x ≠ E.s ∧ fromS E.Z x ≠ E.t) → u + E.lenE l ≤ E.H → E.Goes l u := by
  induction l with
  | nil => intro u _ _; trivial
  | cons x r ih =>
    intro u h hl
    obtain ⟨h1, h2, h3, h4⟩ := h x (by simp)
    have e : E.lenE (x :: r) = E.tmA x.1.toNat + E.lenE r := rfl
    refine ⟨?_, ih (fun y hy => h y (by simp [hy])) (by omega)⟩
    have ha := arcOf_at h1
    obtain ⟨e1, e2, e3⟩ := arc_fr h1 h2
    unfold ok
    rw [ha]
    unfold toS at h3
    unfold fromS at h4
    rw [h2] at h3 h4
    simp only [Bool.false_eq_true, if_false] at h3 h4
    simp only [Bool.and_eq_true, decide_eq_true_eq]
    exact ⟨by omega, h3, h4⟩
theorem part_goes (hne : E.s ≠ E.t) {p : Part} (hp : PartIs E.Z E.s E.t p) {u : Nat} (hu : u + E.lenE p.1 ≤ E.H) : E.Goes p.1 u := by
  refine goes_of (fun x hx => ?_) hu
  obtain ⟨h1, h2, h3, h4, h5, h6⟩ := hp
  refine ⟨trail_isArc h1 x hx, h5 x hx, fun e => h4 hne ?_, trail_from h1 h3 hne x hx⟩
  rw [List.mem_map]
  exact ⟨x, hx, e⟩
theorem len_is (ht : ∀ a ∈ E.Z, 0 ≤ tm a) : ∀ {l : List StepT}, (∀ x ∈ l, isArc E.Z x ∧ x.2 = false) → (E.lenE l : Int) = lenL E.Z l
  | [], _ => rfl
  | x :: r, h => by
    have ih := len_is ht (l := r) (fun y hy => h y (by simp [hy]))
    obtain ⟨h1, h2⟩ := h x (by simp)
    have h0 := ht _ (List.mem_of_getElem? (arcOf_at h1))
    obtain ⟨_, _, e3⟩ := arc_fr h1 h2
    have e : E.lenE (x :: r) = E.tmA x.1.toNat + E.lenE r := rfl
    rw [e, e3]
    simp only [lenL]
    unfold tmN
    omega
theorem sumTo_const (n : Int) : ∀ m : Nat, sumTo (fun _ => n) m = n * m
  | 0 => by simp [sumTo]
  | m + 1 => by
    simp only [sumTo, sumTo_const n m]
    rw [Int.natCast_add, Int.mul_add]
    simp
theorem rep_stock (hne : E.s ≠ E.t) (ht : ∀ a ∈ E.Z, 0 ≤ tm a) (v at_ : Nat) : ∀ D : List Part, (∀ p ∈ D, PartIs E.Z E.s E.t p ∧ lenL E.Z p.1 ≤ (E.H : Int)) → (v ≠ E.s → v ≠ E.t → E.stock (E.repX D) v at_ = 0) ∧ E.stock (E.repX D) E.t E.H = ((E.H : Int) + 1) * partSum D - partLen E.Z D
  | [], _ => ⟨fun _ _ => stock7_zero v at_, by
      have := stock7_zero (E := E) E.t E.H
      show E.stock (fun _ => 0) E.t E.H = _
      rw [this]; simp [partSum, partLen]⟩
  | p :: r, h => by
    obtain ⟨i1, i2⟩ := rep_stock hne ht v at_ r (fun q hq => h q (by simp [hq]))
    obtain ⟨hp, hl⟩ := h p (by simp)
    have hlen := len_is ht (l := p.1) (fun x hx => ⟨trail_isArc hp.1 x hx, hp.2.2.2.2.1 x hx⟩)
    have hgo : ∀ u, u < E.H + 1 - E.lenE p.1 → E.Goes p.1 u := fun u hu => part_goes hne hp (by omega)
    have e : ∀ w b, E.stock (E.repX (p :: r)) w b = E.stock (E.againX p.2 p.1 (E.H + 1 - E.lenE p.1)) w b + E.stock (E.repX r) w b := fun w b => stock7_add _ _ w b
    refine ⟨fun h1 h2 => ?_, ?_⟩
    · rw [e, i1 h1 h2, (again_stock hp.1 hp.2.2.2.2.1 v at_ _ hgo).1 (fun q => h1 q.symm) (fun q => h2 q.symm)]; rfl
    · rw [e, i2, (again_stock hp.1 hp.2.2.2.2.1 E.t E.H _ hgo).2 rfl hne]
      rw [sumTo_congr (h := fun _ => p.2) (fun u hu => by rw [if_pos (by omega)]), sumTo_const]
      simp only [partSum, partLen]
      have e2 : ((E.H + 1 - E.lenE p.1 : Nat) : Int) = (E.H : Int) + 1 - lenL E.Z p.1 := by omega
      rw [e2, Int.mul_add, Int.mul_sub, Int.mul_comm p.2 ((E.H : Int) + 1)]
      omega
theorem rep_plan (hG : E.Good) (ht : ∀ a ∈ E.Z, 0 ≤ tm a) {D : List Part} (hD : ∀ p ∈ D, PartIs E.Z E.s E.t p ∧ lenL E.Z p.1 ≤ (E.H : Int)) (hc : ∀ i a, E.Z[i]? = some a → partAt i D ≤ capN a) :
    E.Plan (E.repX D) ∧ (∀ v u, v ≠ E.s → v ≠ E.t → E.stock (E.repX D) v u = 0) ∧ E.stock (E.repX D) E.t E.H = ((E.H : Int) + 1) * partSum D - partLen E.Z D := by
  have h0 : ∀ v u, v ≠ E.s → v ≠ E.t → E.stock (E.repX D) v u = 0 := fun v u h1 h2 => (rep_stock hG.ne ht v u D hD).1 h1 h2
  refine ⟨⟨fun i u hk => ?_, fun v hv h1 h2 u hu => ?_⟩, h0, (rep_stock hG.ne ht 0 0 D hD).2⟩
  · have h1 := rep_at (E := E) i u D (fun p hp => (hD p hp).1)
    exact ⟨h1.1, fun a ha => by have := hc i a ha; omega⟩
  · rw [h0 v u h1 h2]; exact ⟨Int.le_refl _, .inl rfl⟩
theorem worth_plan (hG : E.Good) (ht : ∀ a ∈ E.Z, 0 ≤ tm a) {f : List Int} {k : Int} (hk : 0 ≤ k) (h : FlowST E.Z E.N E.s E.t f k) : ∃ y, E.Plan y ∧ (∀ v u, v ≠ E.s → v ≠ E.t → E.stock y v u = 0) ∧ worthK E.Z (E.H : Int) f k ≤ E.stock y E.t E.H := by
  obtain ⟨C, D, hC, hD, hsum, hat, _, hfe⟩ := flow_parts hG.ends hG.s hG.t hG.ne hk h
  have hPC : Parts E.Z C := fun p hp => by obtain ⟨u, hu⟩ := hC p hp; exact ⟨u, u, hu⟩
  have hPD : Parts E.Z D := fun p hp => ⟨E.s, E.t, hD p hp⟩
  have hPA : Parts E.Z (C ++ D) := fun p hp => by
    rcases List.mem_append.1 hp with hp | hp
    · exact hPC p hp
    · exact hPD p hp
  obtain ⟨W, hW⟩ : ∃ W, (D.filter fun p => decide (lenL E.Z p.1 ≤ (E.H : Int))) = W := ⟨_, rfl⟩
  have hWm : ∀ p ∈ W, PartIs E.Z E.s E.t p ∧ lenL E.Z p.1 ≤ (E.H : Int) := fun p hp => by
    rw [← hW, List.mem_filter] at hp
    exact ⟨hD p hp.1, by simpa using hp.2⟩
  have hwp := worth_parts ht (H := (E.H : Int)) (by omega) D hPD
  rw [hW] at hwp
  obtain ⟨p1, p2, p3⟩ := rep_plan hG ht hWm (fun i a hi => by
    have h2 := partAt_filter i (fun p => decide (lenL E.Z p.1 ≤ (E.H : Int))) D hPD
    rw [hW] at h2
    have h3 := partAt_nonneg i C hPC
    have h4 := hat i
    have h5 := h.1.2 i a hi
    omega)
  refine ⟨_, p1, p2, ?_⟩
  rw [p3]
  unfold worthK
  have e : costK E.Z f E.Z.length = partLen E.Z C + partLen E.Z D := by rw [← partLen_app, ← sumP_cost (C ++ D) hPA, ← hfe]
  have h1 := partLen_nonneg ht C hPC
  rw [e, ← hsum]
  omega
end Exp
end Go.Proofs.YtlkbohpnlbfopaaGreat
namespace Go.Proofs.YtlkbohpnlbfopaaGreat
set_option linter.unusedVariables false
theorem tight_min {Z : List ArcT} {f : List Int} {p q : Nat → Int} (c : Int) (hp : TightF Z f p) (hq : TightF Z f q) : TightF Z f (fun v => min (p v + c) (q v)) := by
  intro x hx hl
  have h1 := hp x hx hl
  have h2 := hq x hx hl
  simp only
  omega
theorem tight_shift {Z : List ArcT} {f : List Int} {p : Nat → Int} (c : Int) (hp : TightF Z f p) : TightF Z f (fun v => p v + c) := by
  intro x hx hl
  have h1 := hp x hx hl
  simp only
  omega
theorem between {g : Nat → Int} {T : Int} (hstep : ∀ n, g (n + 1) ≤ g n + 1) (h0 : g 0 ≤ T) : ∀ n, T ≤ g n → ∃ m, g m = T
  | 0, h => ⟨0, by omega⟩
  | n + 1, h => by
    by_cases hn : T ≤ g n
    · exact between hstep h0 n hn
    · have := hstep n
      exact ⟨n + 1, by omega⟩
theorem tight_exact {Z : List ArcT} {f : List Int} {p q : Nat → Int} {s t : Nat} {T : Int} (hp : TightF Z f p) (hq : TightF Z f q) (h1 : p t - p s ≤ T) (h2 : T ≤ q t - q s) : ∃ r, TightF Z f r ∧ r s = 0 ∧ r t = T := by
  obtain ⟨c0, hc0⟩ : ∃ c0 : Int, p s + c0 ≤ q s ∧ p t + c0 ≤ q t := ⟨min (q s - p s) (q t - p t), by omega, by omega⟩
  have hg := between (g := fun n => min (p t + (c0 + (n : Int))) (q t) - min (p s + (c0 + (n : Int))) (q s)) (T := T) (fun n => by omega) (by omega) ((max (q s - p s) (q t - p t) - c0).toNat) (by omega)
  obtain ⟨n, hn⟩ := hg
  refine ⟨fun v => min (p v + (c0 + (n : Int))) (q v) + - min (p s + (c0 + (n : Int))) (q s), tight_shift _ (tight_min _ hp hq), by simp only; omega, by simp only; omega⟩
theorem tight_take {Z : List ArcT} {r : Nat → Int} {k : Int} : ∀ (l : List StepT) (f : List Int), f.length = Z.length → TightF Z f r → (∀ x ∈ l, isArc Z x ∧ x.2 = false ∧ EvenS Z r x) → TightF Z (takeK k f l) r
  | [], f, _, h, _ => h
  | x :: m, f, hf, h, he => by
    obtain ⟨h1, h2, h3⟩ := he x (by simp)
    have e : f.set x.1.toNat (atI f x.1.toNat - k) = stepTo k f (flipS x) := by
      unfold stepTo flipS
      rw [h2]
      rfl
    show TightF Z (takeK k (f.set _ _) m) r
    rw [e]
    exact tight_take m _ (by rw [stepTo_len]; exact hf) (tight_stepTo hf h h1 (even_flip h3)) (fun y hy => he y (by simp [hy]))
theorem tight_rise {Z : List ArcT} {f : List Int} {r : Nat → Int} (h : TightF Z f r) {x : StepT} (hx : isArc Z x) (hq : x.2 = false) (hp : 0 < atI f x.1.toNat) : r (fromS Z x) + tm (arcOf Z x) ≤ r (toS Z x) := by
  have h1 := h (flipS x) hx (by unfold leftS flipS; rw [hq]; exact hp)
  have e1 : fromS Z (flipS x) = toS Z x := by unfold fromS toS flipS arcOf; rw [hq]; rfl
  have e2 : toS Z (flipS x) = fromS Z x := by unfold fromS toS flipS arcOf; rw [hq]; rfl
  have e3 : tmS Z (flipS x) = - tm (arcOf Z x) := by unfold tmS flipS arcOf; rw [hq]; rfl
  rw [e1, e2, e3] at h1
  omega
theorem trail_rise {Z : List ArcT} {r : Nat → Int} : ∀ {l : List StepT} {a b : Nat}, Trail Z a l b → (∀ x ∈ l, r (fromS Z x) + tm (arcOf Z x) ≤ r (toS Z x)) → r a + lenL Z l ≤ r b
  | [], a, b, h, _ => by
    simp only [Trail] at h
    subst h
    simp [lenL]
  | x :: m, a, b, h, he => by
    have ih := trail_rise h.2.2 (fun y hy => he y (by simp [hy]))
    have h1 := he x (by simp)
    rw [h.1] at h1
    simp only [lenL]
    omega
theorem trail_even {Z : List ArcT} {r : Nat → Int} : ∀ {l : List StepT} {a b : Nat}, Trail Z a l b → (∀ x ∈ l, x.2 = false ∧ r (fromS Z x) + tm (arcOf Z x) ≤ r (toS Z x)) → r b ≤ r a + lenL Z l → ∀ x ∈ l, EvenS Z r x
  | [], _, _, _, _, _, x, hx => by cases hx
  | y :: m, a, b, h, he, hb, x, hx => by
    have h1 := he y (by simp)
    have h2 := trail_rise h.2.2 (fun z hz => (he z (by simp [hz])).2)
    have h1' := h1.2
    rw [h.1] at h1'
    simp only [lenL] at hb
    rcases List.mem_cons.1 hx with rfl | hx
    · unfold EvenS tmS
      rw [h1.1]
      simp only [Bool.false_eq_true, if_false]
      rw [h.1]
      omega
    · exact trail_even h.2.2 (fun z hz => he z (by simp [hz])) (by omega) x hx
theorem trail_within {Z : List ArcT} {r : Nat → Int} (ht : ∀ a ∈ Z, 0 ≤ tm a) : ∀ {l : List StepT} {a b : Nat}, Trail Z a l b → (∀ x ∈ l, r (fromS Z x) + tm (arcOf Z x) ≤ r (toS Z x)) → ∀ x ∈ l, r a ≤ r (fromS Z x) ∧ r (toS Z x) ≤ r b
  | [], _, _, _, _, x, hx => by cases hx
  | y :: m, a, b, h, he, x, hx => by
    have h1 := he y (by simp)
    have h0 := ht _ (List.mem_of_getElem? (arcOf_at h.2.1))
    have h2 := trail_rise h.2.2 (fun z hz => he z (by simp [hz]))
    have h3 := (lenL_nonneg ht (trail_isArc h.2.2)).1
    rw [h.1] at h1
    rcases List.mem_cons.1 hx with rfl | hx
    · rw [h.1]; omega
    · have := trail_within ht h.2.2 (fun z hz => he z (by simp [hz])) x hx
      omega
theorem cycs_tight {Z : List ArcT} {N : Nat} {r : Nat → Int} (hZ : ∀ a ∈ Z, frN a < N ∧ toN a < N) (ht : ∀ a ∈ Z, 0 ≤ tm a) : ∀ (n : Nat) (f : List Int), Flow Z f → TightF Z f r → TightF Z (cycsK Z N n f).2 r
  | 0, f, _, h => h
  | n + 1, f, hf, h => by
    unfold cycsK
    cases hc : cycK Z N f with
    | none => exact h
    | some l =>
      obtain ⟨u, hT⟩ := cycK_takes hZ hf.1 hc
      have hm := fun x hx => along_arc hf.1 (hT.mem x hx)
      have hr := fun x hx => tight_rise h (hm x hx).1 (hm x hx).2.1 (hm x hx).2.2
      have hl := (lenL_nonneg ht (trail_isArc hT.trail)).1
      have he := trail_even hT.trail (fun x hx => ⟨(hm x hx).2.1, hr x hx⟩) (by omega)
      exact cycs_tight hZ ht n _ (hT.props hf).2.1 (tight_take l f hf.1 h (fun x hx => ⟨(hm x hx).1, (hm x hx).2.1, he x hx⟩))
theorem sumTo_le {g h : Nat → Int} : ∀ {n}, (∀ v, v < n → g v ≤ h v) → sumTo g n ≤ sumTo h n
  | 0, _ => Int.le_refl _
  | n + 1, e => by
    have h1 := sumTo_le (g := g) (h := h) (n := n) (fun v hv => e v (by omega))
    have h2 := e n (by omega)
    simp only [sumTo]
    omega
theorem sumTo_comm (g : Nat → Nat → Int) (m : Nat) : ∀ n, sumTo (fun u => sumTo (fun i => g u i) m) n = sumTo (fun i => sumTo (fun u => g u i) n) m
  | 0 => by
    show (0 : Int) = _
    exact (sumTo_zero m).symm
  | n + 1 => by
    show sumTo _ n + sumTo _ m = _
    rw [sumTo_comm g m n, ← sumTo_add]
    rfl
theorem count_le (A B : Int) : ∀ n : Nat, sumTo (fun u => if A ≤ (u : Int) ∧ (u : Int) < B then 1 else 0) n ≤ max 0 (min (n : Int) B - A)
  | 0 => by
    show (0 : Int) ≤ _
    omega
  | n + 1 => by
    have ih := count_le A B n
    simp only [sumTo]
    split <;> omega
theorem sumTo_if_mul (P : Nat → Prop) [DecidablePred P] (c : Int) : ∀ n, sumTo (fun u => if P u then c else 0) n = c * sumTo (fun u => if P u then 1 else 0) n
  | 0 => by simp [sumTo]
  | n + 1 => by
    simp only [sumTo, sumTo_if_mul P c n]
    rw [Int.mul_add]
    split <;> simp
theorem capS_list (S : Nat → Bool) : ∀ (Z : List ArcT), capS Z S = sumI (Z.map fun a => if outS S a then capN a else 0)
  | [] => rfl
  | a :: Z => by
    have hcons : ∀ i, capK (a :: Z) S (i + 1) = (if outS S a then capN a else 0) + capK Z S i := by
      intro i
      induction i with
      | zero => rw [capK_succ (a := a) rfl]; simp [capK]
      | succ i ih =>
        cases hz : Z[i]? with
        | none =>
          have e1 : capK (a :: Z) S (i + 1 + 1) = capK (a :: Z) S (i + 1) := by show capK (a :: Z) S (i + 1) + _ = _; rw [List.getElem?_cons_succ, hz]; simp
          have e2 : capK Z S (i + 1) = capK Z S i := by show capK Z S i + _ = _; rw [hz]; simp
          rw [e1, e2, ih]
        | some c =>
          rw [capK_succ (i := i + 1) (a := c) (by rw [List.getElem?_cons_succ]; exact hz), capK_succ hz, ih]
          omega
    have ih := capS_list S Z
    unfold capS at ih ⊢
    rw [List.length_cons, hcons, ih]
    rfl
theorem pot_cost_le {Z : List ArcT} {f : List Int} {r : Nat → Int} (G : Nat → Int) (h : ∀ i a, Z[i]? = some a → G i ≤ atI f i * (r (toN a) - r (frN a) - tm a)) : ∀ n, n ≤ Z.length → sumTo G n ≤ - potK Z f r n - costK Z f n
  | 0, _ => by simp [sumTo, potK, costK]
  | n + 1, hn => by
    have hi : Z[n]? = some Z[n] := List.getElem?_eq_getElem (by omega)
    have h1 := h n _ hi
    have h2 := pot_cost_le G h n (by omega)
    rw [potK_succ hi, costK_succ hi]
    simp only [sumTo]
    rw [Int.mul_sub, Int.mul_sub] at h1
    rw [Int.mul_sub]
    omega
namespace Exp
variable {E : Exp}
def stairs (E : Exp) (r : Nat → Int) (w : Nat) : Bool := if w < E.first then decide (r (w % E.N) ≤ ((w / E.N : Nat) : Int)) else decide (w = E.first)
theorem stairs_slot (r : Nat → Int) {v u : Nat} (hv : v < E.N) (hu : u ≤ E.H) : E.stairs r (E.slot v u) = decide (r v ≤ (u : Int)) := by
  have hlt : E.slot v u < E.first := slot_lt hu hv
  have hN : 0 < E.N := by omega
  unfold stairs
  rw [if_pos hlt]
  have e1 : E.slot v u % E.N = v := by unfold slot; rw [Nat.mul_comm, Nat.mul_add_mod, Nat.mod_eq_of_lt hv]
  have e2 : E.slot v u / E.N = u := by
    unfold slot
    rw [Nat.mul_comm, Nat.mul_add_div hN, Nat.div_eq_of_lt hv]
    omega
  rw [e1, e2]
theorem stairs_side (r : Nat → Int) : SideST (E.stairs r) E.first E.last := by
  have := first_lt (E := E)
  unfold SideST stairs
  rw [if_neg (by omega), if_neg (by omega)]
  exact ⟨by simp, by simp; omega⟩
theorem stairs_cap (hG : E.Good) (r : Nat → Int) (hs : r E.s = 0) (ht : r E.t = (E.H : Int) + 1) : capS E.net (E.stairs r) = sumTo (fun i => sumTo (fun u => if E.ok i u then (if r (E.frA i) ≤ (u : Int) ∧ (u : Int) + (E.tmA i : Int) < r (E.toA i) then (match E.Z[i]? with | some a => capN a | none => 0) else 0) else 0) (E.H + 1)) E.Z.length := by
  unfold net
  rw [capS_list, List.map_map]
  have e : ((fun a => if outS (E.stairs r) a = true then capN a else 0) ∘ E.arcKd) = fun k => if outS (E.stairs r) (E.arcKd k) then capN (E.arcKd k) else 0 := rfl
  rw [e, kinds_sum]
  have frI : ∀ n : Nat, ∀ b c d : Int, frN (((n : Nat) : Int), b, c, d) = n := fun n b c d => by simp [frN]
  have toI : ∀ n : Nat, ∀ b c d : Int, toN (b, ((n : Nat) : Int), c, d) = n := fun n b c d => by simp [toN]
  have m1 : sumTo (fun u => sumTo (fun j => if E.ok j u then (if outS (E.stairs r) (E.arcKd (Kd.mv j u)) then capN (E.arcKd (Kd.mv j u)) else 0) else 0) E.Z.length) (E.H + 1) = sumTo (fun i => sumTo (fun u => if E.ok i u then (if r (E.frA i) ≤ (u : Int) ∧ (u : Int) + (E.tmA i : Int) < r (E.toA i) then (match E.Z[i]? with | some a => capN a | none => 0) else 0) else 0) (E.H + 1)) E.Z.length := by
    rw [sumTo_comm (fun u j => if E.ok j u then (if outS (E.stairs r) (E.arcKd (Kd.mv j u)) then capN (E.arcKd (Kd.mv j u)) else 0) else 0)]
    refine sumTo_congr (fun j _ => sumTo_congr (fun u hu => ?_))
    by_cases h : E.ok j u = true
    · rw [if_pos h, if_pos h]
      obtain ⟨a, ha, h1, _⟩ := E.ok_arc h
      have he := hG.ends a (List.mem_of_getElem? ha)
      have e4 : E.arcKd (Kd.mv j u) = ((E.slot (frN a) u : Int), (E.slot (toN a) (u + tmN a) : Int), capN a, 0) := by simp only [arcKd, ha]
      have e1 : E.frA j = frN a := by unfold frA; rw [ha]
      have e2 : E.toA j = toN a := by unfold toA; rw [ha]
      have e3 : E.tmA j = tmN a := by unfold tmA; rw [ha]
      rw [e4, e1, e2, e3, ha]
      have hc : capN ((E.slot (frN a) u : Int), (E.slot (toN a) (u + tmN a) : Int), capN a, 0) = capN a := rfl
      rw [hc]
      have ho : (outS (E.stairs r) ((E.slot (frN a) u : Int), (E.slot (toN a) (u + tmN a) : Int), capN a, 0) = true) ↔ (r (frN a) ≤ (u : Int) ∧ (u : Int) + (tmN a : Int) < r (toN a)) := by
        unfold outS
        rw [frI, toI, stairs_slot r he.1 (by omega), stairs_slot r he.2 h1]
        simp only [Bool.and_eq_true, decide_eq_true_eq, Bool.not_eq_true', decide_eq_false_iff_not]
        omega
      by_cases hq : r (frN a) ≤ (u : Int) ∧ (u : Int) + (tmN a : Int) < r (toN a)
      · rw [if_pos hq, if_pos (ho.2 hq)]
      · rw [if_neg hq, if_neg (fun q => hq (ho.1 q))]
    · rw [if_neg h, if_neg h]
  have m2 : sumTo (fun u => sumTo (fun j => if E.wok j u then (if outS (E.stairs r) (E.arcKd (Kd.wt j u)) then capN (E.arcKd (Kd.wt j u)) else 0) else 0) E.N) (E.H + 1) = 0 := by
    refine (sumTo_congr (h := fun _ => 0) (fun u _ => ?_)).trans (sumTo_zero _)
    refine (sumTo_congr (h := fun _ => 0) (fun j hj => ?_)).trans (sumTo_zero _)
    by_cases h : E.wok j u = true
    · have hw := (E.wok_is.1 h).2.1
      rw [if_pos h, if_neg]
      show ¬ outS (E.stairs r) ((E.slot j u : Int), (E.slot j (u + 1) : Int), big, 0) = true
      unfold outS
      rw [frI, toI, stairs_slot r hj (by omega), stairs_slot r hj (by omega)]
      simp only [Bool.and_eq_true, decide_eq_true_eq, Bool.not_eq_true', decide_eq_false_iff_not]
      omega
    · rw [if_neg h]
  have m3 : sumTo (fun u => if outS (E.stairs r) (E.arcKd (Kd.so u)) then capN (E.arcKd (Kd.so u)) else 0) (E.H + 1) = 0 := by
    refine (sumTo_congr (h := fun _ => 0) (fun u hu => ?_)).trans (sumTo_zero _)
    rw [if_neg]
    show ¬ outS (E.stairs r) ((E.first : Int), (E.slot E.s u : Int), big, 0) = true
    unfold outS
    rw [toI, stairs_slot r hG.s (by omega), hs]
    simp
  have m4 : sumTo (fun u => if outS (E.stairs r) (E.arcKd (Kd.si u)) then capN (E.arcKd (Kd.si u)) else 0) (E.H + 1) = 0 := by
    refine (sumTo_congr (h := fun _ => 0) (fun u hu => ?_)).trans (sumTo_zero _)
    rw [if_neg]
    show ¬ outS (E.stairs r) ((E.slot E.t u : Int), (E.last : Int), big, 0) = true
    unfold outS
    rw [frI, stairs_slot r hG.t (by omega), ht]
    simp only [Bool.and_eq_true, decide_eq_true_eq]
    omega
  rw [m1, m2, m3, m4]
  omega
theorem stairs_worth (hG : E.Good) (ht0 : ∀ a ∈ E.Z, 0 ≤ tm a) {f : List Int} {k : Int} {r : Nat → Int} (hk : 0 ≤ k) (h : FlowST E.Z E.N E.s E.t f k) (hc : NoCyc E.Z E.N f) (hr : TightF E.Z f r) (hs : r E.s = 0) (ht : r E.t = (E.H : Int) + 1) : capS E.net (E.stairs r) ≤ worthK E.Z (E.H : Int) f k := by
  obtain ⟨_, _, _, j4, j5⟩ := chains_props hG.ends hG.s hG.t hG.ne (posK f f.length) f k h hc hk (Nat.le_refl _)
  generalize (chainsK E.Z E.N E.s E.t (posK f f.length) f).1 = D at *
  have hPD : Parts E.Z D := fun p hp => ⟨E.s, E.t, j5 p hp⟩
  have hin : ∀ i a, E.Z[i]? = some a → 0 < atI f i → 0 ≤ r (frN a) ∧ r (toN a) ≤ (E.H : Int) + 1 ∧ r (frN a) + tm a ≤ r (toN a) := by
    intro i a hi hp
    have hex : ∀ l : List Part, (∀ p ∈ l, p ∈ D) → 0 < partAt i l → ∃ p ∈ l, i ∈ p.1.map (fun x => x.1.toNat) := by
      intro l
      induction l with
      | nil => intro _ h0; simp [partAt] at h0
      | cons p m ih =>
        intro hl h0
        by_cases hm : i ∈ p.1.map (fun x => x.1.toNat)
        · exact ⟨p, by simp, hm⟩
        · simp only [partAt] at h0
          rw [if_neg hm] at h0
          obtain ⟨q, hq, hq2⟩ := ih (fun q hq => hl q (by simp [hq])) (by omega)
          exact ⟨q, by simp [hq], hq2⟩
    obtain ⟨p, hpD, hm⟩ := hex D (fun p hp => hp) (by rw [← j4 i]; exact hp)
    have hp2 := j5 p hpD
    have hpos : ∀ x ∈ p.1, 0 < atI f x.1.toNat := by
      intro x hx
      rw [j4]
      have hge : ∀ l : List Part, (∀ q ∈ l, PartIs E.Z E.s E.t q) → p ∈ l → 0 < partAt x.1.toNat l := by
        intro l
        induction l with
        | nil => intro _ h0; cases h0
        | cons q m ih =>
          intro hl hpm
          have hq := (hl q (by simp)).2.2.2.2.2
          have hn := partAt_nonneg (Z := E.Z) x.1.toNat m (fun z hz => ⟨E.s, E.t, hl z (by simp [hz])⟩)
          simp only [partAt]
          rcases List.mem_cons.1 hpm with e | hpm
          · subst e
            rw [if_pos (List.mem_map.2 ⟨x, hx, rfl⟩)]
            omega
          · have := ih (fun z hz => hl z (by simp [hz])) hpm
            split <;> omega
      exact hge D j5 hpD
    have hrise := fun x hx => tight_rise hr (trail_isArc hp2.1 x hx) (hp2.2.2.2.2.1 x hx) (hpos x hx)
    obtain ⟨x, hx, e⟩ := List.mem_map.1 hm
    have hxa := trail_isArc hp2.1 x hx
    have hw := trail_within ht0 hp2.1 hrise x hx
    have h3 := hrise x hx
    have ea : arcOf E.Z x = a := by
      have := arcOf_at hxa
      rw [e, hi] at this
      cases this
      rfl
    have e1 : fromS E.Z x = frN a := by unfold fromS; rw [hp2.2.2.2.2.1 x hx, ea]; rfl
    have e2 : toS E.Z x = toN a := by unfold toS; rw [hp2.2.2.2.2.1 x hx, ea]; rfl
    rw [e1, e2, hs, ht] at hw
    rw [e1, e2, ea] at h3
    omega
  rw [stairs_cap hG r hs ht]
  have harc : ∀ i a, E.Z[i]? = some a → sumTo (fun u => if E.ok i u then (if r (E.frA i) ≤ (u : Int) ∧ (u : Int) + (E.tmA i : Int) < r (E.toA i) then (match E.Z[i]? with | some a => capN a | none => 0) else 0) else 0) (E.H + 1) ≤ atI f i * (r (toN a) - r (frN a) - tm a) := by
    intro i a hi
    have hb := h.1.2 i a hi
    have h0 := ht0 a (List.mem_of_getElem? hi)
    have e1 : E.frA i = frN a := by unfold frA; rw [hi]
    have e2 : E.toA i = toN a := by unfold toA; rw [hi]
    have e3 : (E.tmA i : Int) = tm a := by unfold tmA; rw [hi]; unfold tmN; simp only; omega
    have hlt : i < E.Z.length := (List.getElem?_eq_some_iff.1 hi).1
    have hx : isArc E.Z ((i : Int), false) := ⟨by simp, by simp only; omega⟩
    have ea : arcOf E.Z ((i : Int), false) = a := by unfold arcOf; rw [Int.toNat_natCast, List.getD_eq_getElem?_getD, hi]; rfl
    have hle : sumTo (fun u => if E.ok i u then (if r (E.frA i) ≤ (u : Int) ∧ (u : Int) + (E.tmA i : Int) < r (E.toA i) then (match E.Z[i]? with | some a => capN a | none => 0) else 0) else 0) (E.H + 1) ≤ sumTo (fun u => if r (frN a) ≤ (u : Int) ∧ (u : Int) < r (toN a) - tm a then capN a else 0) (E.H + 1) := by
      refine sumTo_le (fun u _ => ?_)
      rw [e1, e2, e3, hi]
      simp only
      by_cases hq : r (frN a) ≤ (u : Int) ∧ (u : Int) + tm a < r (toN a)
      · rw [if_pos hq, if_pos (show r (frN a) ≤ (u : Int) ∧ (u : Int) < r (toN a) - tm a by omega)]
        split <;> omega
      · rw [if_neg hq, if_neg (show ¬ (r (frN a) ≤ (u : Int) ∧ (u : Int) < r (toN a) - tm a) by omega)]
        split <;> omega
    refine Int.le_trans hle ?_
    rw [sumTo_if_mul]
    have hcnt := count_le (r (frN a)) (r (toN a) - tm a) (E.H + 1)
    have hcnt0 : 0 ≤ sumTo (fun u => if r (frN a) ≤ (u : Int) ∧ (u : Int) < r (toN a) - tm a then 1 else 0) (E.H + 1) := sumTo_nonneg (fun u _ => by split <;> omega)
    generalize sumTo (fun u => if r (frN a) ≤ (u : Int) ∧ (u : Int) < r (toN a) - tm a then 1 else 0) (E.H + 1) = c at *
    by_cases hroom : atI f i < capN a
    · -- room: it never leads out
      have h1 := hr ((i : Int), false) hx (by unfold leftS; simp only [Bool.false_eq_true, if_false, ea, Int.toNat_natCast]; omega)
      have e4 : fromS E.Z ((i : Int), false) = frN a := by unfold fromS; simp only [Bool.false_eq_true, if_false, ea]
      have e5 : toS E.Z ((i : Int), false) = toN a := by unfold toS; simp only [Bool.false_eq_true, if_false, ea]
      have e6 : tmS E.Z ((i : Int), false) = tm a := by unfold tmS; simp only [Bool.false_eq_true, if_false, ea]
      rw [e4, e5, e6] at h1
      have hc0 : c = 0 := by omega
      rw [hc0]
      by_cases hp : 0 < atI f i
      · have := hin i a hi hp
        have e7 : r (toN a) - r (frN a) - tm a = 0 := by omega
        rw [e7]; simp
      · have : atI f i = 0 := by omega
        rw [this]; simp
    · have e8 : atI f i = capN a := by omega
      rw [e8]
      by_cases hp : 0 < capN a
      · have h1 := hin i a hi (by omega)
        exact Int.mul_le_mul_of_nonneg_left (by omega) (by omega)
      · have : capN a = 0 := by omega
        rw [this]; simp
  have hfin := pot_cost_le (Z := E.Z) (f := f) (r := r) (fun i => sumTo (fun u => if E.ok i u then (if r (E.frA i) ≤ (u : Int) ∧ (u : Int) + (E.tmA i : Int) < r (E.toA i) then (match E.Z[i]? with | some a => capN a | none => 0) else 0) else 0) (E.H + 1)) harc E.Z.length (Nat.le_refl _)
  have hpot := pot_sum (f := f) (p := r) hG.ends E.Z.length
  have h2 := sum_two (g := fun v => r v * balK E.Z f v E.Z.length) hG.s hG.t hG.ne (fun v hv h1 h2 => by
    have := h.2.1 v hv h1 h2
    unfold bal at this
    rw [this]; simp)
  have h3 := flow_sink hG.ends hG.s hG.t hG.ne h
  have h4 := h.2.2
  unfold bal at h3 h4
  rw [h2] at hpot
  rw [h3, h4, hs, ht] at hpot
  unfold worthK
  rw [Int.zero_mul, Int.mul_neg] at hpot
  omega
theorem plan_top (hG : E.Good) (ht0 : ∀ a ∈ E.Z, 0 ≤ tm a) {f : List Int} {k : Int} {p q : Nat → Int} (hk : 0 ≤ k) (h : FlowST E.Z E.N E.s E.t f k) (hp : TightF E.Z f p) (hq : TightF E.Z f q) (h1 : p E.t - p E.s ≤ (E.H : Int) + 1) (h2 : (E.H : Int) + 1 ≤ q E.t - q E.s)
    {y : Kd → Int} (hy : E.Plan y) (hb : ∀ v u, v < E.N → u ≤ E.H → E.stock y v u ≤ big ∧ E.dep y v u ≤ big ∧ E.arr y v u ≤ big) : E.stock y E.t E.H ≤ worthK E.Z (E.H : Int) f k := by
  obtain ⟨r, hr, rs, rt⟩ := tight_exact hp hq h1 h2
  obtain ⟨i1, i2, i3, i4, i5, i6, i7⟩ := cycs_props hG.ends (posK f f.length) f h.1 (Nat.le_refl _)
  have hr2 := cycs_tight (N := E.N) hG.ends ht0 (posK f f.length) f h.1 hr
  generalize cycsK E.Z E.N (posK f f.length) f = CG at *
  have hg : FlowST E.Z E.N E.s E.t CG.2 k := ⟨i1, fun v hv h3 h4 => by rw [i2]; exact h.2.1 v hv h3 h4, by rw [i2]; exact h.2.2⟩
  have hcap := stairs_worth hG ht0 hk hg i3 hr2 rs rt
  have hfl := flows hG hy hb
  have hf := first_lt (E := E)
  have hw := weak (net_ends hG) (by omega) hfl (stairs_side r)
  have htop := worth_top hG.ends hG.s hG.t hG.ne h hg hr hr (H := (E.H : Int) + 1) (by omega) (by omega)
  unfold worthK at *
  omega
end Exp
end Go.Proofs.YtlkbohpnlbfopaaGreat
namespace Go.Proofs.YtlkbohpnlbfopaaGreat
set_option linter.unusedVariables false
namespace Exp
variable {E : Exp}
theorem sumTo_bound {g : Nat → Int} {C : Int} : ∀ {n}, (∀ v, v < n → g v ≤ C) → sumTo g n ≤ (n : Int) * C
  | 0, _ => by simp [sumTo]
  | n + 1, h => by
    have h1 := sumTo_bound (g := g) (C := C) (n := n) (fun v hv => h v (by omega))
    have h2 := h n (by omega)
    simp only [sumTo]
    rw [Int.natCast_add, Int.add_mul]
    omega
theorem dep_bound {y : Kd → Int} {C : Int} (hC : 0 ≤ C) (h : ∀ i u, E.ok i u = true → y (Kd.mv i u) ≤ C) (v u : Nat) : E.dep y v u ≤ (E.Z.length : Int) * C := by
  unfold dep
  refine sumTo_bound (fun i _ => ?_)
  by_cases hk : E.ok i u = true
  · rw [if_pos hk]
    split
    · exact h i u hk
    · exact hC
  · rw [if_neg hk]; exact hC
theorem arr_bound {y : Kd → Int} {C : Int} (hC : 0 ≤ C) (h : ∀ i u, E.ok i u = true → y (Kd.mv i u) ≤ C) (v u : Nat) : E.arr y v u ≤ ((E.H + 1 : Nat) : Int) * ((E.Z.length : Int) * C) := by
  unfold arr
  refine sumTo_bound (fun w _ => sumTo_bound (fun i _ => ?_))
  by_cases hk : E.ok i w = true
  · rw [if_pos hk]
    split
    · exact h i w hk
    · exact hC
  · rw [if_neg hk]; exact hC
theorem arr_all {y : Kd → Int} {C : Int} (hC : 0 ≤ C) (h : ∀ i u, E.ok i u = true → 0 ≤ y (Kd.mv i u) ∧ y (Kd.mv i u) ≤ C) (v n : Nat) : sumTo (E.arr y v) n ≤ ((E.H + 1 : Nat) : Int) * ((E.Z.length : Int) * C) := by
  unfold arr
  rw [sumTo_comm (fun w u => sumTo (fun i => if E.ok i u then (if E.toA i = v ∧ u + E.tmA i = w then y (Kd.mv i u) else 0) else 0) E.Z.length)]
  refine sumTo_bound (fun u _ => ?_)
  rw [sumTo_comm (fun w i => if E.ok i u then (if E.toA i = v ∧ u + E.tmA i = w then y (Kd.mv i u) else 0) else 0)]
  refine sumTo_bound (fun i _ => ?_)
  by_cases hk : E.ok i u = true
  · rw [sumTo_congr (h := fun w => if w = u + E.tmA i then (if E.toA i = v then y (Kd.mv i u) else 0) else 0) (fun w _ => by
      rw [if_pos hk]
      by_cases e1 : E.toA i = v <;> by_cases e2 : u + E.tmA i = w <;> simp [e1, e2]
      · intro e; exact absurd e.symm e2), sumTo_pick]
    have := h i u hk
    split
    · split <;> omega
    · omega
  · rw [sumTo_congr (h := fun _ => 0) (fun w _ => by rw [if_neg hk]), sumTo_zero]
    exact hC
theorem plan_small {y : Kd → Int} {C : Int} (hC : 0 ≤ C) (h : ∀ i u, E.ok i u = true → 0 ≤ y (Kd.mv i u) ∧ y (Kd.mv i u) ≤ C) (hB : ((E.H + 1 : Nat) : Int) * ((E.Z.length : Int) * C) ≤ big) : ∀ v u, v < E.N → u ≤ E.H → E.stock y v u ≤ big ∧ E.dep y v u ≤ big ∧ E.arr y v u ≤ big := by
  intro v u _ _
  have h0 : 0 ≤ (E.Z.length : Int) * C := Int.mul_nonneg (Int.natCast_nonneg _) hC
  have h1 := dep_bound hC (fun i u hk => (h i u hk).2) v u
  have h2 := arr_bound hC (fun i u hk => (h i u hk).2) v u
  have h3 := arr_all hC h v (u + 1)
  have h4 : sumTo (fun w => E.arr y v w - E.dep y v w) (u + 1) ≤ sumTo (E.arr y v) (u + 1) := sumTo_le (fun w _ => by
    have := dep_nonneg (fun i u hk => (h i u hk).1) (E := E) v w
    omega)
  have h5 : (E.Z.length : Int) * C ≤ ((E.H + 1 : Nat) : Int) * ((E.Z.length : Int) * C) := by
    rw [Int.natCast_add, Int.add_mul]
    have := Int.mul_nonneg (Int.natCast_nonneg E.H) h0
    omega
  refine ⟨?_, by omega, by omega⟩
  unfold stock
  omega
end Exp
end Go.Proofs.YtlkbohpnlbfopaaGreat
namespace Go.Proofs.YtlkbohpnlbfopaaGreat
set_option linter.unusedVariables false
def allSteps (q : StepT → Bool) (n : Nat) : List StepT := ((List.range n).flatMap fun (i : Nat) => [((i : Int), false), ((i : Int), true)]).filter q
theorem allSteps_mem {Z : List ArcT} {q : StepT → Bool} {x : StepT} : x ∈ allSteps q Z.length ↔ isArc Z x ∧ q x = true := by
  unfold allSteps isArc
  rw [List.mem_filter, List.mem_flatMap]
  constructor
  · rintro ⟨⟨i, hi, hx⟩, h⟩
    rw [List.mem_range] at hi
    refine ⟨?_, h⟩
    simp only [List.mem_cons, List.not_mem_nil, or_false] at hx
    rcases hx with rfl | rfl
    · exact ⟨by simp, by simpa using hi⟩
    · exact ⟨by simp, by simpa using hi⟩
  · rintro ⟨⟨h1, h2⟩, h⟩
    refine ⟨⟨x.1.toNat, by rw [List.mem_range]; omega, ?_⟩, h⟩
    obtain ⟨i, b⟩ := x
    have e : ((i.toNat : Nat) : Int) = i := Int.toNat_of_nonneg h1
    cases b <;> simp [e]
theorem step_ends {Z : List ArcT} {N : Nat} (hZ : ∀ a ∈ Z, frN a < N ∧ toN a < N) {x : StepT} (hx : isArc Z x) : fromS Z x < N ∧ toS Z x < N := by
  have := hZ _ (List.mem_of_getElem? (arcOf_at hx))
  unfold fromS toS
  cases x.2 <;> simp <;> omega
section
variable {Z : List ArcT} {N s t : Nat}
theorem most_or (hZ : ∀ a ∈ Z, frN a < N ∧ toN a < N) (hs : s < N) (hne : s ≠ t) {f : List Int} {k : Int} (h : FlowST Z N s t f k) : IsMost Z N s t k ∨ ∃ g m, k < m ∧ FlowST Z N s t g m := by
  let q : StepT → Bool := fun x => decide (0 < leftS Z f x)
  have hl : ∀ y : StepT, y ∈ allSteps q Z.length ↔ isArc Z y ∧ 0 < leftS Z f y := fun y => by
    rw [allSteps_mem]
    simp [q]
  have hto : ∀ y ∈ allSteps q Z.length, toS Z y < N := fun y hy => (step_ends hZ ((hl y).1 hy).1).2
  have hx := seek_full (fr := fromS Z) (to := toS Z) (l := allSteps q Z.length) hs hto
  cases hw : wayK (fromS Z) (toS Z) (allSteps q Z.length) N s t with
  | none => exact .inl (best_side hZ hs hl h hx (wayK_none hw)).2.2.1
  | some p =>
    obtain ⟨w1, w2, w3, w4⟩ := way_props hs hto hw
    obtain ⟨a1, a2, a3⟩ := augment hne h w1 w3 w4 (fun y hy => (hl y).1 (w2 y hy))
    exact .inr ⟨_, _, by omega, a3⟩
theorem flow_bounded (hZ : ∀ a ∈ Z, frN a < N ∧ toN a < N) (hs : s < N) (hne : s ≠ t) {f : List Int} {k : Int} (h : FlowST Z N s t f k) : k ≤ capS Z (fun v => decide (v = s)) :=
  weak hZ hs h ⟨by simp, by simp; exact fun e => hne e.symm⟩
theorem most_exists (hZ : ∀ a ∈ Z, frN a < N ∧ toN a < N) (hcap : ∀ a ∈ Z, 0 ≤ capN a) (hs : s < N) (hne : s ≠ t) : ∃ k, IsMost Z N s t k := by
  have go : ∀ (n : Nat) (f : List Int) (k : Int), FlowST Z N s t f k → (capS Z (fun v => decide (v = s)) - k).toNat ≤ n → ∃ k, IsMost Z N s t k := by
    intro n
    induction n with
    | zero =>
      intro f k h hn
      rcases most_or hZ hs hne h with h1 | ⟨g, m, h1, h2⟩
      · exact ⟨k, h1⟩
      · have := flow_bounded hZ hs hne h2
        omega
    | succ n ih =>
      intro f k h hn
      rcases most_or hZ hs hne h with h1 | ⟨g, m, h1, h2⟩
      · exact ⟨k, h1⟩
      · exact ih g m h2 (by omega)
  exact go _ _ _ (zero_flow Z hcap N s t) (Nat.le_refl _)
theorem tight_or (hZ : ∀ a ∈ Z, frN a < N ∧ toN a < N) (hs : s < N) (hne : s ≠ t) {f : List Int} {k : Int} {r : Nat → Int} (h : FlowST Z N s t f k) (hr : TightF Z f r) : (∃ r', TightF Z f r' ∧ r' t - r' s = r t - r s + 1) ∨ ∃ g m, k < m ∧ FlowST Z N s t g m ∧ TightF Z g r := by
  let q : StepT → Bool := fun x => decide (0 < leftS Z f x) && decide (r (toS Z x) = r (fromS Z x) + tmS Z x)
  have hl : ∀ y : StepT, y ∈ allSteps q Z.length ↔ isArc Z y ∧ 0 < leftS Z f y ∧ EvenS Z r y := fun y => by
    rw [allSteps_mem]
    simp [q, EvenS]
  have hto : ∀ y ∈ allSteps q Z.length, toS Z y < N := fun y hy => (step_ends hZ ((hl y).1 hy).1).2
  have hx := seek_full (fr := fromS Z) (to := toS Z) (l := allSteps q Z.length) hs hto
  cases hw : wayK (fromS Z) (toS Z) (allSteps q Z.length) N s t with
  | none =>
    have hn := wayK_none hw
    generalize seekK (fromS Z) (toS Z) (allSteps q Z.length) s N = x at *
    refine .inl ⟨fun v => if foundB x v then r v else r v + 1, ?_, ?_⟩
    · intro y hy h0
      have h1 := hr y hy h0
      show (if foundB x (toS Z y) = true then _ else _) ≤ (if foundB x (fromS Z y) = true then _ else _) + _
      by_cases h2 : foundB x (toS Z y) = true
      · rw [if_pos h2]; split <;> omega
      · rw [if_neg h2]
        by_cases h3 : foundB x (fromS Z y) = true
        · rw [if_pos h3]
          have h4 : ¬ EvenS Z r y := fun he => h2 (found_closed hx y ((hl y).2 ⟨hy, h0, he⟩) h3)
          unfold EvenS at h4
          omega
        · rw [if_neg h3]; omega
    · have e1 : foundB x s = true := found_first hx
      have e2 : ¬ foundB x t = true := by rw [foundB_iff]; exact hn
      show (if foundB x t = true then _ else _) - (if foundB x s = true then _ else _) = _
      rw [if_neg e2, if_pos e1]
      omega
  | some p =>
    obtain ⟨w1, w2, w3, w4⟩ := way_props hs hto hw
    obtain ⟨a1, a2, a3⟩ := augment hne h w1 w3 w4 (fun y hy => ⟨((hl y).1 (w2 y hy)).1, ((hl y).1 (w2 y hy)).2.1⟩)
    have a4 := tight_push p f h.1.1 hr (fun y hy => ((hl y).1 (w2 y hy)).2.2) a2
    rw [pushed_of p f a2] at a4
    exact .inr ⟨_, _, by omega, a3, a4⟩
theorem tight_next (hZ : ∀ a ∈ Z, frN a < N ∧ toN a < N) (hs : s < N) (hne : s ≠ t) {r : Nat → Int} : ∀ (n : Nat) (f : List Int) (k : Int), FlowST Z N s t f k → TightF Z f r → (capS Z (fun v => decide (v = s)) - k).toNat ≤ n → ∃ g m r', k ≤ m ∧ FlowST Z N s t g m ∧ TightF Z g r' ∧ r' t - r' s = r t - r s + 1 := by
  intro n
  induction n with
  | zero =>
    intro f k h hr hn
    rcases tight_or hZ hs hne h hr with ⟨r', h1, h2⟩ | ⟨g, m, h1, h2, h3⟩
    · exact ⟨f, k, r', Int.le_refl _, h, h1, h2⟩
    · have := flow_bounded hZ hs hne h2
      omega
  | succ n ih =>
    intro f k h hr hn
    rcases tight_or hZ hs hne h hr with ⟨r', h1, h2⟩ | ⟨g, m, h1, h2, h3⟩
    · exact ⟨f, k, r', Int.le_refl _, h, h1, h2⟩
    · obtain ⟨g', m', r', b1, b2, b3, b4⟩ := ih g m h2 h3 (by omega)
      exact ⟨g', m', r', by omega, b2, b3, b4⟩
theorem tight_flow (hZ : ∀ a ∈ Z, frN a < N ∧ toN a < N) (hcap : ∀ a ∈ Z, 0 ≤ capN a) (ht0 : ∀ a ∈ Z, 0 ≤ tm a) (hs : s < N) (hne : s ≠ t) : ∀ n : Nat, ∃ f k r, 0 ≤ k ∧ FlowST Z N s t f k ∧ TightF Z f r ∧ r t - r s = (n : Int)
  | 0 => ⟨_, 0, fun _ => 0, Int.le_refl _, zero_flow Z hcap N s t, tight_zero (fun i => by
      unfold atI
      rw [List.getD_eq_getElem?_getD, List.getElem?_replicate]
      split <;> rfl) ht0, by simp⟩
  | n + 1 => by
    obtain ⟨f, k, r, h1, h2, h3, h4⟩ := tight_flow hZ hcap ht0 hs hne n
    obtain ⟨g, m, r', b1, b2, b3, b4⟩ := tight_next hZ hs hne _ f k h2 h3 (Nat.le_refl _)
    exact ⟨g, m, r', by omega, b2, b3, by omega⟩
theorem best_exists (hZ : ∀ a ∈ Z, frN a < N ∧ toN a < N) (hcap : ∀ a ∈ Z, 0 ≤ capN a) (ht0 : ∀ a ∈ Z, 0 ≤ tm a) (hs : s < N) (ht : t < N) (hne : s ≠ t) (H : Nat) : ∃ m, IsBest Z N s t (H : Int) m := by
  obtain ⟨f, k, r, h1, h2, h3, h4⟩ := tight_flow hZ hcap ht0 hs hne (H + 1)
  refine ⟨_, ⟨f, k, h2, rfl⟩, fun g w hg => ?_⟩
  have := worth_top hZ hs ht hne h2 hg h3 h3 (H := (H : Int) + 1) (by omega) (by omega)
  unfold worthK
  exact this
end
namespace Exp
variable {E : Exp}
theorem most_best (hG : E.Good) (ht0 : ∀ a ∈ E.Z, 0 ≤ tm a) {C : Int} (hC : 0 ≤ C) (hcap : ∀ a ∈ E.Z, capN a ≤ C) (hB : ((E.H + 1 : Nat) : Int) * ((E.Z.length : Int) * C) ≤ big) {m : Int} (hm : IsBest E.Z E.N E.s E.t (E.H : Int) m) {y : Kd → Int} (hy : E.Plan y) : E.stock y E.t E.H ≤ m := by
  obtain ⟨f, k, r, h1, h2, h3, h4⟩ := tight_flow hG.ends hG.cap ht0 hG.s hG.ne (E.H + 1)
  have hb := plan_small (E := E) (y := y) hC (fun i u hk => by
    obtain ⟨a, ha, _⟩ := E.ok_arc hk
    have h5 := hy.1 i u hk
    have h6 := h5.2 a ha
    have h7 := hcap a (List.mem_of_getElem? ha)
    exact ⟨h5.1, by omega⟩) hB
  have h5 := plan_top hG ht0 h1 h2 h3 h3 (by omega) (by omega) hy hb
  have h6 := hm.2 f k h2
  omega
theorem best_plan (hG : E.Good) (ht0 : ∀ a ∈ E.Z, 0 ≤ tm a) {C : Int} (hC : 0 ≤ C) (hcap : ∀ a ∈ E.Z, capN a ≤ C) (hB : ((E.H + 1 : Nat) : Int) * ((E.Z.length : Int) * C) ≤ big) {m : Int} (hm : IsBest E.Z E.N E.s E.t (E.H : Int) m) : ∃ y, E.Plan y ∧ (∀ v u, v ≠ E.s → v ≠ E.t → E.stock y v u = 0) ∧ E.stock y E.t E.H = m := by
  have hm2 := hm
  obtain ⟨⟨f, k, h2, h3⟩, h4⟩ := hm
  have h0 := best_nonneg hG.cap hm2
  have hk := best_value (H := (E.H : Int)) ht0 (Int.natCast_nonneg _) h2 (by omega)
  obtain ⟨y, y1, y2, y3⟩ := worth_plan hG ht0 hk h2
  have := most_best hG ht0 hC hcap hB hm2 y1
  exact ⟨y, y1, y2, by omega⟩
end Exp
end Go.Proofs.YtlkbohpnlbfopaaGreat
