/- Lemmas of the layers below, several texts in one. -/
import Derived.Test.YtlkbohpnlbfopaaBA
namespace Go.Proofs.Ytlkbohpnlbfopaa
set_option linter.unusedVariables false
section
variable {R : List ArcT} {c : ArcT → Int} {s N : Nat}
def NoGain (R : List ArcT) (c : ArcT → Int) (s : Nat) : Prop := ∀ p q u, (∀ a ∈ p, a ∈ R) → Chain s p u → (∀ a ∈ q, a ∈ R) → Chain u q u → 0 ≤ costP c q
theorem shortG (hs : s < N) (hZ : ∀ a ∈ R, toN a < N) (hc : NoGain R c s) {v : Nat} : ∀ (k : Nat) (p : List ArcT), p.length ≤ k → (∀ a ∈ p, a ∈ R) → Chain s p v →
    ∃ q, q.length < N ∧ (∀ a ∈ q, a ∈ R) ∧ Chain s q v ∧ costP c q ≤ costP c p
  | 0, p, hk, hp, h => ⟨p, by omega, hp, h, Int.le_refl _⟩
  | k + 1, p, hk, hp, h => by
    by_cases hl : p.length < N
    · exact ⟨p, hl, hp, h, Int.le_refl _⟩
    · have hb : ∀ x ∈ nodesOf s p, x < N := by
        intro x hx
        rcases List.mem_cons.1 hx with rfl | hx
        · exact hs
        · obtain ⟨a, ha, rfl⟩ := List.mem_map.1 hx
          exact hZ a (hp a ha)
      obtain ⟨i, j, m, hij, hj, h1, h2⟩ := twice hb (by rw [nodes_len]; omega)
      rw [nodes_len] at hj
      obtain ⟨m1, e1, c1, d1⟩ := chain_at h i (by omega)
      obtain ⟨m2, e2, c2, d2⟩ := chain_at h j (by omega)
      rw [h1] at e1; cases e1
      rw [h2] at e2; cases e2
      have hsub : ∀ a ∈ p.take i ++ p.drop j, a ∈ R := by
        intro a ha
        rcases List.mem_append.1 ha with ha | ha
        · exact hp a (List.mem_of_mem_take ha)
        · exact hp a (List.mem_of_mem_drop ha)
      have hlen : (p.take i ++ p.drop j).length ≤ k := by rw [List.length_append, List.length_take, List.length_drop]; omega
      obtain ⟨q, q1, q2, q3, q4⟩ := shortG hs hZ hc k (p.take i ++ p.drop j) hlen hsub (chain_app.2 ⟨m, c1, d2⟩)
      refine ⟨q, q1, q2, q3, Int.le_trans q4 ?_⟩
      have e0 : (p.drop i).take (j - i) ++ p.drop j = p.drop i := by
        have h5 := List.take_append_drop (j - i) (p.drop i)
        rw [List.drop_drop] at h5
        rw [show i + (j - i) = j by omega] at h5
        exact h5
      have e3 : p = p.take i ++ ((p.drop i).take (j - i) ++ p.drop j) := by rw [e0, List.take_append_drop]
      have hmc : Chain m ((p.drop i).take (j - i)) m := by
        have h6 : p.take j = p.take i ++ (p.drop i).take (j - i) := by
          have := List.take_add (l := p) (i := i) (j := j - i)
          rw [show i + (j - i) = j by omega] at this
          exact this
        rw [h6] at c2
        obtain ⟨m', g1, g2⟩ := chain_app.1 c2
        rw [chain_det g1 c1] at g2
        exact g2
      have hmid : 0 ≤ costP c ((p.drop i).take (j - i)) := hc (p.take i) _ m (fun a ha => hp a (List.mem_of_mem_take ha)) c1 (fun a ha => hp a (List.mem_of_mem_drop (List.mem_of_mem_take ha))) hmc
      conv => rhs; rw [e3]
      rw [cost_app, cost_app, cost_app]; omega
def getO (d : List (Option Int)) (v : Nat) : Option Int := d.getD v none
theorem getO_set {d : List (Option Int)} {v u : Nat} {x : Option Int} (hv : v < d.length) : getO (d.set v x) u = if u = v then x else getO d u := by
  unfold getO
  rw [List.getD_eq_getElem?_getD, List.getElem?_set, List.getD_eq_getElem?_getD]
  by_cases h : u = v
  · subst h; simp [hv]
  · rw [if_neg (fun e => h e.symm), if_neg h]
def gives (c : ArcT → Int) (d : List (Option Int)) (a : ArcT) : Bool := match getO d (frN a) with
  | none => false
  | some x => match getO d (toN a) with
    | none => true
    | some y => decide (x + c a < y)
def relaxO (c : ArcT → Int) (d : List (Option Int)) (a : ArcT) : List (Option Int) := if gives c d a then d.set (toN a) (some ((getO d (frN a)).getD 0 + c a)) else d
def relaxAllO (c : ArcT → Int) (Y : List ArcT) (d : List (Option Int)) : List (Option Int) := Y.foldl (relaxO c) d
def startO (N s : Nat) : List (Option Int) := (List.replicate N none).set s (some 0)
def bellK (c : ArcT → Int) (R : List ArcT) (N s : Nat) : Nat → List (Option Int)
  | 0 => startO N s
  | k + 1 => relaxAllO c R (bellK c R N s k)
theorem relaxO_len (d : List (Option Int)) (a : ArcT) : (relaxO c d a).length = d.length := by unfold relaxO; split <;> simp
theorem relaxAllO_len (Y : List ArcT) (d : List (Option Int)) : (relaxAllO c Y d).length = d.length := by
  unfold relaxAllO
  induction Y generalizing d with
  | nil => rfl
  | cons a r ih => rw [List.foldl_cons, ih, relaxO_len]
theorem bellK_len (k : Nat) : (bellK c R N s k).length = N := by
  induction k with
  | zero => simp [bellK, startO]
  | succ k ih => unfold bellK; rw [relaxAllO_len, ih]
def SoundO (R : List ArcT) (c : ArcT → Int) (s : Nat) (d : List (Option Int)) : Prop := ∀ v x, getO d v = some x → Reach R c s v x
def SeenO (R : List ArcT) (c : ArcT → Int) (s k : Nat) (d : List (Option Int)) : Prop := ∀ p v, (∀ a ∈ p, a ∈ R) → Chain s p v → p.length ≤ k → ∃ x, getO d v = some x ∧ x ≤ costP c p
def ClosedO (R : List ArcT) (c : ArcT → Int) (d : List (Option Int)) : Prop := ∀ a ∈ R, ∀ x, getO d (frN a) = some x → ∃ y, getO d (toN a) = some y ∧ y ≤ x + c a
theorem gives_false {d : List (Option Int)} {a : ArcT} : gives c d a = false ↔ ∀ x, getO d (frN a) = some x → ∃ y, getO d (toN a) = some y ∧ y ≤ x + c a := by
  unfold gives
  cases hf : getO d (frN a) with
  | none => simp
  | some x =>
    cases ht : getO d (toN a) with
    | none => simp
    | some y =>
      simp only [decide_eq_false_iff_not, Option.some.injEq]
      constructor
      · rintro h x' rfl; exact ⟨y, rfl, by omega⟩
      · intro h
        obtain ⟨y', e, h2⟩ := h x rfl
        cases e
        omega
theorem relaxO_sound {d : List (Option Int)} {a : ArcT} (ha : a ∈ R) (hto : toN a < d.length) (h : SoundO R c s d) : SoundO R c s (relaxO c d a) := by
  unfold relaxO
  split
  · next hg =>
    intro v x hx
    rw [getO_set hto] at hx
    split at hx
    · next e =>
      subst e
      cases hx
      cases hf : getO d (frN a) with
      | none => unfold gives at hg; rw [hf] at hg; cases hg
      | some y => exact reach_step (h _ _ hf) ha
    · exact h v x hx
  · exact h
theorem relaxO_less {d : List (Option Int)} {a : ArcT} (hto : toN a < d.length) {v : Nat} {x : Int} (h : getO d v = some x) : ∃ y, getO (relaxO c d a) v = some y ∧ y ≤ x := by
  unfold relaxO
  split
  · next hg =>
    rw [getO_set hto]
    split
    · next e =>
      subst e
      refine ⟨_, rfl, ?_⟩
      unfold gives at hg
      cases hf : getO d (frN a) with
      | none => rw [hf] at hg; cases hg
      | some z =>
        rw [hf, h] at hg
        simp only [decide_eq_true_eq] at hg
        simp only [Option.getD_some]
        omega
    · exact ⟨x, h, Int.le_refl _⟩
  · exact ⟨x, h, Int.le_refl _⟩
theorem relaxO_does {d : List (Option Int)} {a : ArcT} (hto : toN a < d.length) {x : Int} (h : getO d (frN a) = some x) : ∃ y, getO (relaxO c d a) (toN a) = some y ∧ y ≤ x + c a := by
  unfold relaxO
  split
  · next hg => rw [getO_set hto, if_pos rfl, h]; exact ⟨_, rfl, Int.le_refl _⟩
  · next hg => exact gives_false.1 (by simpa using hg) x h
theorem relaxAllO_props : ∀ (Y : List ArcT) (d : List (Option Int)), (∀ a ∈ Y, a ∈ R ∧ toN a < d.length) → SoundO R c s d →
    SoundO R c s (relaxAllO c Y d) ∧ (∀ v x, getO d v = some x → ∃ y, getO (relaxAllO c Y d) v = some y ∧ y ≤ x) ∧ (∀ a ∈ Y, ∀ x, getO d (frN a) = some x → ∃ y, getO (relaxAllO c Y d) (toN a) = some y ∧ y ≤ x + c a)
  | [], d, _, h => ⟨h, fun v x hx => ⟨x, hx, Int.le_refl _⟩, fun a ha => by cases ha⟩
  | b :: Y, d, hY, h => by
    obtain ⟨b1, b2⟩ := hY b (by simp)
    obtain ⟨i1, i2, i3⟩ := relaxAllO_props Y (relaxO c d b) (fun a ha => by rw [relaxO_len]; exact hY a (by simp [ha])) (relaxO_sound b1 b2 h)
    have e : relaxAllO c (b :: Y) d = relaxAllO c Y (relaxO c d b) := rfl
    rw [e]
    refine ⟨i1, fun v x hx => ?_, fun a ha x hx => ?_⟩
    · obtain ⟨y, h1, h2⟩ := relaxO_less (c := c) (a := b) b2 hx
      obtain ⟨z, h3, h4⟩ := i2 v y h1
      exact ⟨z, h3, by omega⟩
    · rcases List.mem_cons.1 ha with rfl | ha
      · obtain ⟨y, h1, h2⟩ := relaxO_does (c := c) b2 hx
        obtain ⟨z, h3, h4⟩ := i2 _ y h1
        exact ⟨z, h3, by omega⟩
      · obtain ⟨y, h1, h2⟩ := relaxO_less (c := c) (a := b) b2 hx
        obtain ⟨z, h3, h4⟩ := i3 a ha y h1
        exact ⟨z, h3, by omega⟩
theorem bellK_props (hs : s < N) (hZ : ∀ a ∈ R, toN a < N) (k : Nat) : SoundO R c s (bellK c R N s k) ∧ SeenO R c s k (bellK c R N s k) := by
  induction k with
  | zero =>
    have hg : ∀ v, getO (startO N s) v = if v = s then some 0 else none := by
      intro v
      unfold startO
      rw [getO_set (by simp; exact hs)]
      split
      · rfl
      · unfold getO; rw [List.getD_eq_getElem?_getD, List.getElem?_replicate]; split <;> rfl
    constructor
    · intro v x hx
      rw [show bellK c R N s 0 = startO N s from rfl, hg] at hx
      split at hx
      · next e => subst e; cases hx; exact reach_self R c v
      · cases hx
    · intro p v hp h hl
      have : p = [] := List.eq_nil_of_length_eq_zero (by omega)
      subst this
      simp only [Chain] at h
      subst h
      exact ⟨0, by rw [show bellK c R N s 0 = startO N s from rfl, hg, if_pos rfl], by simp [costP]⟩
  | succ k ih =>
    have hl := bellK_len (c := c) (R := R) (N := N) (s := s) k
    obtain ⟨r1, r2, r3⟩ := relaxAllO_props R (bellK c R N s k) (fun a ha => ⟨ha, by rw [hl]; exact hZ a ha⟩) ih.1
    refine ⟨r1, fun p v hp h hpl => ?_⟩
    show ∃ x, getO (relaxAllO c R (bellK c R N s k)) v = some x ∧ _
    by_cases hlen : p.length ≤ k
    · obtain ⟨x, h1, h2⟩ := ih.2 p v hp h hlen
      obtain ⟨y, h3, h4⟩ := r2 v x h1
      exact ⟨y, h3, by omega⟩
    · obtain ⟨q, a, rfl, h1, h2⟩ := chain_last h (by rintro rfl; simp at hlen)
      obtain ⟨x, h3, h4⟩ := ih.2 q (frN a) (fun x hx => hp x (by simp [hx])) h1 (by simp at hpl; omega)
      obtain ⟨y, h5, h6⟩ := r3 a (hp a (by simp)) x h3
      subst h2
      refine ⟨y, h5, ?_⟩
      rw [cost_app]
      have : costP c [a] = c a := by simp [costP]
      omega
theorem closed_chain {d : List (Option Int)} (h : ClosedO R c d) : ∀ (p : List ArcT) (u v : Nat) (x : Int), (∀ a ∈ p, a ∈ R) → Chain u p v → getO d u = some x → ∃ y, getO d v = some y ∧ y ≤ x + costP c p
  | [], u, v, x, _, hc, hx => by
    simp only [Chain] at hc
    subst hc
    exact ⟨x, hx, by simp [costP]⟩
  | a :: r, u, v, x, hp, hc, hx => by
    obtain ⟨e1, e2⟩ := hc
    subst e1
    obtain ⟨y, h1, h2⟩ := h a (hp a (by simp)) x hx
    obtain ⟨z, h3, h4⟩ := closed_chain h r _ v y (fun b hb => hp b (by simp [hb])) e2 h1
    refine ⟨z, h3, ?_⟩
    simp only [costP, List.map_cons, List.sum_cons] at h4 ⊢
    omega
theorem noGain_closed (hs : s < N) (hZ : ∀ a ∈ R, toN a < N) (h : NoGain R c s) : ClosedO R c (bellK c R N s N) := by
  intro a ha x hx
  obtain ⟨h1, h2⟩ := bellK_props (c := c) (R := R) hs hZ N
  obtain ⟨p, p1, p2, p3⟩ := reach_step (h1 _ x hx) ha
  obtain ⟨q, q1, q2, q3, q4⟩ := shortG hs hZ h p.length p (Nat.le_refl _) p1 p2
  obtain ⟨y, h3, h4⟩ := h2 q _ q2 q3 (by omega)
  exact ⟨y, h3, by omega⟩
structure IsFarO (R : List ArcT) (c : ArcT → Int) (s N : Nat) (d : List (Option Int)) : Prop where
  len : d.length = N
  at_ : ∀ v, v < N → (getO d v = none ∧ ∀ t, ¬ Reach R c s v t) ∨ (∃ x, getO d v = some x ∧ Reach R c s v x ∧ ∀ t, Reach R c s v t → x ≤ t)
theorem isFarO_of {d : List (Option Int)} (hl : d.length = N) (h1 : SoundO R c s d) (h0 : ∃ x, getO d s = some x ∧ x ≤ 0) (h2 : ClosedO R c d) : IsFarO R c s N d := by
  obtain ⟨x0, e0, l0⟩ := h0
  have key : ∀ v t, Reach R c s v t → ∃ y, getO d v = some y ∧ y ≤ t := by
    rintro v t ⟨p, p1, p2, rfl⟩
    obtain ⟨y, g1, g2⟩ := closed_chain h2 p s v x0 p1 p2 e0
    exact ⟨y, g1, by omega⟩
  refine ⟨hl, fun v hv => ?_⟩
  cases hg : getO d v with
  | none =>
    refine .inl ⟨rfl, fun t ht => ?_⟩
    obtain ⟨y, g1, _⟩ := key v t ht
    rw [hg] at g1; cases g1
  | some x =>
    refine .inr ⟨x, rfl, h1 v x hg, fun t ht => ?_⟩
    obtain ⟨y, g1, g2⟩ := key v t ht
    rw [hg] at g1; cases g1
    exact g2
theorem bell_isFar (hs : s < N) (hZ : ∀ a ∈ R, toN a < N) (h : NoGain R c s) : IsFarO R c s N (bellK c R N s N) := by
  obtain ⟨h1, h2⟩ := bellK_props (c := c) (R := R) hs hZ N
  obtain ⟨x, g1, g2⟩ := h2 [] s (by simp) rfl (Nat.zero_le _)
  exact isFarO_of (bellK_len N) h1 ⟨x, g1, by simpa [costP] using g2⟩ (noGain_closed hs hZ h)
def TightP (R : List ArcT) (c : ArcT → Int) (p : Nat → Int) : Prop := ∀ a ∈ R, p (toN a) ≤ p (frN a) + c a
theorem tight_chain {p : Nat → Int} (h : TightP R c p) : ∀ (q : List ArcT) (u v : Nat), (∀ a ∈ q, a ∈ R) → Chain u q v → p v ≤ p u + costP c q
  | [], u, v, _, hc => by simp only [Chain] at hc; subst hc; simp [costP]
  | a :: r, u, v, hq, hc => by
    obtain ⟨e1, e2⟩ := hc
    subst e1
    have h1 := h a (hq a (by simp))
    have h2 := tight_chain h r _ v (fun b hb => hq b (by simp [hb])) e2
    simp only [costP, List.map_cons, List.sum_cons] at h2 ⊢
    omega
theorem tight_noGain {p : Nat → Int} (h : TightP R c p) (s : Nat) : NoGain R c s := fun q r u _ _ hr hc => by
  have := tight_chain h r u u hr hc
  omega
end
def tmS (Z : List ArcT) (x : StepT) : Int := if x.2 then - tm (arcOf Z x) else tm (arcOf Z x)
def TightF (Z : List ArcT) (f : List Int) (p : Nat → Int) : Prop := ∀ x : StepT, isArc Z x → 0 < leftS Z f x → p (toS Z x) ≤ p (fromS Z x) + tmS Z x
def potK (Z : List ArcT) (f : List Int) (p : Nat → Int) : Nat → Int
  | 0 => 0
  | i + 1 => potK Z f p i + match Z[i]? with | some a => atI f i * (p (frN a) - p (toN a)) | none => 0
theorem potK_succ {Z : List ArcT} {f : List Int} {p : Nat → Int} {i : Nat} {a : ArcT} (h : Z[i]? = some a) : potK Z f p (i + 1) = potK Z f p i + atI f i * (p (frN a) - p (toN a)) := by
  show potK Z f p i + _ = _
  rw [h]
theorem pot_share {a : ArcT} {x : Int} {p : Nat → Int} {N : Nat} (hf : frN a < N) (ht : toN a < N) : sumTo (fun v => p v * share a x v) N = x * (p (frN a) - p (toN a)) := by
  have e : sumTo (fun v => p v * share a x v) N = sumTo (fun v => (if frN a = v then p (frN a) * x else 0) + (- (if toN a = v then p (toN a) * x else 0))) N := sumTo_congr (fun v _ => by
    unfold share
    by_cases h1 : frN a = v
    · subst h1
      by_cases h2 : toN a = frN a
      · rw [if_pos rfl, if_pos h2, if_pos rfl, if_pos h2, h2]; simp; omega
      · rw [if_pos rfl, if_neg h2, if_pos rfl, if_neg h2]; simp
    · by_cases h2 : toN a = v
      · subst h2; rw [if_neg h1, if_pos rfl, if_neg h1, if_pos rfl]; simp [Int.mul_neg]
      · rw [if_neg h1, if_neg h2, if_neg h1, if_neg h2]; simp)
  rw [e, sumTo_add, sumTo_neg, sumTo_one, sumTo_one, if_pos hf, if_pos ht, Int.mul_sub, Int.mul_comm x, Int.mul_comm x]
  omega
theorem pot_sum {Z : List ArcT} {f : List Int} {p : Nat → Int} {N : Nat} (hZ : ∀ a ∈ Z, frN a < N ∧ toN a < N) : ∀ i, sumTo (fun v => p v * balK Z f v i) N = potK Z f p i
  | 0 => by
    rw [sumTo_congr (h := fun _ => 0) (fun v _ => by simp [balK])]
    exact sumTo_zero N
  | i + 1 => by
    cases hz : Z[i]? with
    | none =>
      rw [sumTo_congr (h := fun v => p v * balK Z f v i) (fun v _ => by
        have e : balK Z f v (i + 1) = balK Z f v i := by show balK Z f v i + _ = _; rw [hz]; simp
        rw [e]), pot_sum hZ i]
      show _ = potK Z f p i + _
      rw [hz]; simp
    | some a =>
      have ha := hZ a (List.mem_of_getElem? hz)
      rw [sumTo_congr (h := fun v => p v * balK Z f v i + p v * share a (atI f i) v) (fun v _ => by rw [balK_succ hz, Int.mul_add]), sumTo_add, pot_sum hZ i, pot_share ha.1 ha.2, potK_succ hz]
theorem dual_cost {Z : List ArcT} {f g : List Int} {p : Nat → Int} (hf : Flow Z f) (hg : Flow Z g) (hp : TightF Z f p) : ∀ i, costK Z f i + potK Z f p i ≤ costK Z g i + potK Z g p i
  | 0 => Int.le_refl _
  | i + 1 => by
    have ih := dual_cost hf hg hp i
    cases hz : Z[i]? with
    | none =>
      show costK Z f i + _ + (potK Z f p i + _) ≤ costK Z g i + _ + (potK Z g p i + _)
      rw [hz]
      simpa using ih
    | some a =>
      rw [costK_succ hz, costK_succ hz, potK_succ hz, potK_succ hz]
      have hlt : i < Z.length := (List.getElem?_eq_some_iff.1 hz).1
      have h1 := hf.2 i a hz
      have h2 := hg.2 i a hz
      have ea : ∀ b : Bool, arcOf Z ((i : Int), b) = a := by
        intro b; unfold arcOf; rw [Int.toNat_natCast, List.getD_eq_getElem?_getD, hz]; rfl
      have hx : ∀ b : Bool, isArc Z ((i : Int), b) := fun b => ⟨by simp, by simp only; omega⟩
      have along : atI f i < capN a → p (toN a) ≤ p (frN a) + tm a := fun h => by
        have := hp ((i : Int), false) (hx false) (by unfold leftS; simp only [Bool.false_eq_true, if_false, Int.toNat_natCast, ea]; omega)
        unfold toS fromS tmS at this
        simpa only [Bool.false_eq_true, if_false, ea] using this
      have back : 0 < atI f i → p (frN a) ≤ p (toN a) - tm a := fun h => by
        have := hp ((i : Int), true) (hx true) (by unfold leftS; simp only [if_true, Int.toNat_natCast]; exact h)
        unfold toS fromS tmS at this
        simp only [if_true, ea] at this
        omega
      have key : 0 ≤ (atI g i - atI f i) * (tm a + (p (frN a) - p (toN a))) := by
        rcases Int.lt_trichotomy (atI g i) (atI f i) with h | h | h
        · have h3 := back (by omega)
          exact Int.mul_nonneg_of_nonpos_of_nonpos (by omega) (by omega)
        · rw [h]; simp
        · have h3 := along (by omega)
          exact Int.mul_nonneg (by omega) (by omega)
      have ex : (atI g i - atI f i) * (tm a + (p (frN a) - p (toN a))) = (atI g i * tm a + atI g i * (p (frN a) - p (toN a))) - (atI f i * tm a + atI f i * (p (frN a) - p (toN a))) := by
        rw [Int.sub_mul, Int.mul_add, Int.mul_add]
      omega
theorem dual_value {Z : List ArcT} {N s t : Nat} {f g : List Int} {p : Nat → Int} {k m : Int} (hZ : ∀ a ∈ Z, frN a < N ∧ toN a < N) (hs : s < N) (ht : t < N) (hne : s ≠ t) (hf : FlowST Z N s t f k) (hg : FlowST Z N s t g m) (hp : TightF Z f p) : costK Z f Z.length + (p s - p t) * k ≤ costK Z g Z.length + (p s - p t) * m := by
  have h1 := dual_cost hf.1 hg.1 hp Z.length
  have val : ∀ (h : List Int) (n : Int), FlowST Z N s t h n → potK Z h p Z.length = (p s - p t) * n := by
    intro h n hh
    have h2 := bal_sum (Z := Z) (f := h) hZ
    have h3 := sum_two (g := bal Z h) hs ht hne hh.2.1
    have h4 : bal Z h t = - n := by have := hh.2.2; omega
    rw [← pot_sum hZ Z.length, sum_two (g := fun v => p v * balK Z h v Z.length) hs ht hne (fun v hv a b => by have := hh.2.1 v hv a b; unfold bal at this; rw [this]; simp)]
    show p s * bal Z h s + p t * bal Z h t = _
    rw [hh.2.2, h4, Int.sub_mul, Int.mul_neg]
    omega
  rw [val f k hf, val g m hg] at h1
  exact h1
end Go.Proofs.Ytlkbohpnlbfopaa
namespace Go.Proofs.Ytlkbohpnlbfopaa
set_option linter.unusedVariables false
def EvenS (Z : List ArcT) (p : Nat → Int) (x : StepT) : Prop := p (toS Z x) = p (fromS Z x) + tmS Z x
theorem even_flip {Z : List ArcT} {p : Nat → Int} {x : StepT} (h : EvenS Z p x) : EvenS Z p (flipS x) := by
  unfold EvenS toS fromS tmS at *
  have e : arcOf Z (flipS x) = arcOf Z x := rfl
  rw [e]
  cases hb : x.2 <;> simp [flipS, hb] at h ⊢ <;> omega
theorem tight_stepTo {Z : List ArcT} {f : List Int} {p : Nat → Int} {k : Int} {x : StepT} (hl : f.length = Z.length) (h : TightF Z f p) (hx : isArc Z x) (he : EvenS Z p x) : TightF Z (stepTo k f x) p := by
  intro y hy hr
  have hlt : x.1.toNat < f.length := by unfold isArc at hx; omega
  by_cases e : y.1 = x.1
  · have : y = x ∨ y = flipS x := by
      obtain ⟨y1, y2⟩ := y
      obtain ⟨x1, x2⟩ := x
      simp only at e
      subst e
      cases y2 <;> cases x2 <;> simp [flipS]
    rcases this with rfl | rfl
    · exact Int.le_of_eq he
    · exact Int.le_of_eq (even_flip he)
  · have e2 : y.1.toNat ≠ x.1.toNat := by unfold isArc at hx hy; omega
    apply h y hy
    unfold leftS at hr ⊢
    rw [stepTo_at hlt, if_neg e2] at hr
    exact hr
theorem tight_push {Z : List ArcT} {p : Nat → Int} {k : Int} : ∀ (l : List StepT) (f : List Int), f.length = Z.length → TightF Z f p → (∀ x ∈ l, EvenS Z p x) → (pushL Z k f l).1 = 0 → TightF Z (pushL Z k f l).2 p
  | [], f, _, h, _, _ => h
  | x :: r, f, hl, h, he, h0 => by
    have hx : isArc Z x := Classical.byContradiction fun hx => by unfold pushL at h0; rw [if_neg hx] at h0; cases h0
    have hlx : ¬ leftS Z f x < k := fun hl => by unfold pushL at h0; rw [if_pos hx, if_pos hl] at h0; cases h0
    have e : pushL Z k f (x :: r) = pushL Z k (stepTo k f x) r := by show (if _ then _ else _) = _; rw [if_pos hx, if_neg hlx]
    rw [e] at h0 ⊢
    exact tight_push r _ (by rw [stepTo_len]; exact hl) (tight_stepTo hl h hx (he x (by simp))) (fun y hy => he y (by simp [hy])) h0
theorem worth_top {Z : List ArcT} {N s t : Nat} {f g : List Int} {p q : Nat → Int} {k m H : Int} (hZ : ∀ a ∈ Z, frN a < N ∧ toN a < N) (hs : s < N) (ht : t < N) (hne : s ≠ t) (hf : FlowST Z N s t f k) (hg : FlowST Z N s t g m)
    (hp : TightF Z f p) (hq : TightF Z f q) (h1 : p t - p s ≤ H) (h2 : H ≤ q t - q s) : H * m - costK Z g Z.length ≤ H * k - costK Z f Z.length := by
  have a1 := dual_value hZ hs ht hne hf hg hp
  have a2 := dual_value hZ hs ht hne hf hg hq
  have e1 : (p s - p t) * k - (p s - p t) * m = (p t - p s) * (m - k) := by rw [Int.mul_sub, Int.sub_mul, Int.sub_mul, Int.sub_mul, Int.sub_mul]; omega
  have e2 : (q s - q t) * k - (q s - q t) * m = (q t - q s) * (m - k) := by rw [Int.mul_sub, Int.sub_mul, Int.sub_mul, Int.sub_mul, Int.sub_mul]; omega
  have e3 : H * (m - k) = H * m - H * k := Int.mul_sub ..
  by_cases h : k ≤ m
  · have := Int.mul_le_mul_of_nonneg_right h2 (show 0 ≤ m - k by omega)
    omega
  · have := Int.mul_le_mul_of_nonpos_right h1 (show m - k ≤ 0 by omega)
    omega
theorem tight_zero {Z : List ArcT} {f : List Int} (h : ∀ i, atI f i = 0) (ht : ∀ a ∈ Z, 0 ≤ tm a) : TightF Z f (fun _ => 0) := by
  intro x hx hr
  have ha := List.mem_of_getElem? (arcOf_at hx)
  have := ht _ ha
  unfold leftS at hr
  rw [h] at hr
  unfold tmS
  cases hb : x.2 <;> simp [hb] at hr ⊢
  exact this
theorem bound_list (L : List Int) : ∃ M, ∀ x ∈ L, x ≤ M := by
  induction L with
  | nil => exact ⟨0, by simp⟩
  | cons y r ih =>
    obtain ⟨M, h⟩ := ih
    refine ⟨max M y, fun x hx => ?_⟩
    rcases List.mem_cons.1 hx with rfl | hx
    · omega
    · have := h x hx; omega
theorem far_tight {R : List ArcT} {c : ArcT → Int} {s N : Nat} {d : List (Option Int)} {q : Nat → Int} (hZ : ∀ a ∈ R, frN a < N ∧ toN a < N) (hd : ClosedO R c d) (hq : TightP R c q) (B : Int) :
    ∃ p, TightP R c p ∧ (∀ v x, getO d v = some x → p v = x) ∧ ∀ v, v < N → getO d v = none → B ≤ p v := by
  obtain ⟨M1, h1⟩ := bound_list (R.map fun a => (getO d (toN a)).getD 0 - q (frN a) - c a)
  obtain ⟨M2, h2⟩ := bound_list ((List.range N).map fun v => B - q v)
  refine ⟨fun v => match getO d v with | some x => x | none => q v + max M1 M2, fun a ha => ?_, fun v x hx => by simp [hx], fun v hv hn => ?_⟩
  · simp only
    have b1 := h1 _ (List.mem_map.2 ⟨a, ha, rfl⟩)
    cases hf : getO d (frN a) with
    | some x =>
      obtain ⟨y, g1, g2⟩ := hd a ha x hf
      rw [g1]
      exact g2
    | none =>
      cases ht : getO d (toN a) with
      | some y =>
        rw [ht] at b1
        simp only [Option.getD_some] at b1 ⊢
        omega
      | none =>
        simp only
        have := hq a ha
        omega
  · have b2 := h2 _ (List.mem_map.2 ⟨v, by simpa using hv, rfl⟩)
    simp only [hn]
    omega
end Go.Proofs.Ytlkbohpnlbfopaa
namespace Go.Proofs.Ytlkbohpnlbfopaa
set_option linter.unusedVariables false
end Go.Proofs.Ytlkbohpnlbfopaa
namespace Go.Proofs.Ytlkbohpnlbfopaa
set_option linter.unusedVariables false
theorem flow_sink {Z : List ArcT} {N s t : Nat} {f : List Int} {k : Int} (hZ : ∀ a ∈ Z, frN a < N ∧ toN a < N) (hs : s < N) (ht : t < N) (hne : s ≠ t) (h : FlowST Z N s t f k) : bal Z f t = - k := by
  have h1 := sum_two (g := bal Z f) hs ht hne h.2.1
  rw [bal_sum hZ, h.2.2] at h1
  omega
end Go.Proofs.Ytlkbohpnlbfopaa
namespace Go.Proofs.Ytlkbohpnlbfopaa
set_option linter.unusedVariables false
end Go.Proofs.Ytlkbohpnlbfopaa
namespace Go.Proofs.Ytlkbohpnlbfopaa
set_option linter.unusedVariables false
def worthK (Z : List ArcT) (H : Int) (f : List Int) (k : Int) : Int := (H + 1) * k - costK Z f Z.length
def IsBest (Z : List ArcT) (N s t : Nat) (H m : Int) : Prop := (∃ f k, FlowST Z N s t f k ∧ worthK Z H f k = m) ∧ ∀ g w, FlowST Z N s t g w → worthK Z H g w ≤ m
section
variable {Z : List ArcT} {N s t : Nat} {H : Int}
end
def balC (v : Nat) : List ArcT → List Int → Int
  | [], _ => 0
  | a :: Z, f => share a (f.headD 0) v + balC v Z f.tail
theorem atI_head (f : List Int) : atI f 0 = f.headD 0 := by cases f <;> simp [atI]
theorem atI_tail (f : List Int) (i : Nat) : atI f.tail i = atI f (i + 1) := by cases f <;> simp [atI]
theorem balK_cons (a : ArcT) (Z : List ArcT) (f : List Int) (v : Nat) : ∀ i, balK (a :: Z) f v (i + 1) = share a (f.headD 0) v + balK Z f.tail v i
  | 0 => by
    rw [balK_succ (a := a) rfl, atI_head]
    simp [balK]
  | i + 1 => by
    have ih := balK_cons a Z f v i
    cases hz : Z[i]? with
    | none =>
      have e1 : balK (a :: Z) f v (i + 1 + 1) = balK (a :: Z) f v (i + 1) := by show balK (a :: Z) f v (i + 1) + _ = _; rw [List.getElem?_cons_succ, hz]; simp
      have e2 : balK Z f.tail v (i + 1) = balK Z f.tail v i := by show balK Z f.tail v i + _ = _; rw [hz]; simp
      rw [e1, e2, ih]
    | some c =>
      rw [balK_succ (i := i + 1) (a := c) (by rw [List.getElem?_cons_succ]; exact hz), balK_succ hz, ih, atI_tail]
      omega
theorem bal_balC (v : Nat) : ∀ (Z : List ArcT) (f : List Int), bal Z f v = balC v Z f
  | [], f => rfl
  | a :: Z, f => by
    unfold bal
    rw [List.length_cons, balK_cons]
    have := bal_balC v Z f.tail
    unfold bal at this
    rw [this]; rfl
end Go.Proofs.Ytlkbohpnlbfopaa
namespace Go.Proofs.Ytlkbohpnlbfopaa
set_option linter.unusedVariables false
def tmN (a : ArcT) : Nat := (tm a).toNat
abbrev Kd := Nat × Nat × Nat
abbrev Kd.mv (i at_ : Nat) : Kd := (0, i, at_)
abbrev Kd.wt (v at_ : Nat) : Kd := (1, v, at_)
abbrev Kd.so (at_ : Nat) : Kd := (2, 0, at_)
abbrev Kd.si (at_ : Nat) : Kd := (3, 0, at_)
def sumI : List Int → Int
  | [] => 0
  | x :: r => x + sumI r
theorem sumI_app : ∀ a b : List Int, sumI (a ++ b) = sumI a + sumI b
  | [], b => by simp [sumI]
  | x :: r, b => by simp only [List.cons_append, sumI, sumI_app r b]; omega
structure Exp where
  Z : List ArcT
  N : Nat
  s : Nat
  t : Nat
  H : Nat
  hold : Bool
namespace Exp
variable (E : Exp)
def ok (i at_ : Nat) : Bool := match E.Z[i]? with
  | some a => decide (at_ + tmN a ≤ E.H) && (decide (toN a ≠ E.s) && decide (frN a ≠ E.t))
  | none => false
def wok (v at_ : Nat) : Bool := E.hold && (decide (at_ < E.H) && (decide (v ≠ E.s) && decide (v ≠ E.t)))
def mvK (at_ : Nat) : Nat → List Kd
  | 0 => []
  | i + 1 => mvK at_ i ++ if E.ok i at_ then [Kd.mv i at_] else []
def wtK (at_ : Nat) : Nat → List Kd
  | 0 => []
  | v + 1 => wtK at_ v ++ if E.wok v at_ then [Kd.wt v at_] else []
def timeK : Nat → List Kd
  | 0 => []
  | n + 1 => timeK n ++ (E.mvK n E.Z.length ++ E.wtK n E.N)
def soK : Nat → List Kd
  | 0 => []
  | n + 1 => soK n ++ [Kd.so n]
def siK : Nat → List Kd
  | 0 => []
  | n + 1 => siK n ++ [Kd.si n]
def kinds : List Kd := E.timeK (E.H + 1) ++ (soK (E.H + 1) ++ siK (E.H + 1))
def slot (v at_ : Nat) : Nat := at_ * E.N + v
def first : Nat := (E.H + 1) * E.N
def last : Nat := (E.H + 1) * E.N + 1
def big : Int := 1099511627776
def arcKd : Kd → ArcT
  | (0, i, at_) => match E.Z[i]? with
    | some a => ((E.slot (frN a) at_ : Int), (E.slot (toN a) (at_ + tmN a) : Int), capN a, 0)
    | none => (0, 0, 0, 0)
  | (1, v, at_) => ((E.slot v at_ : Int), (E.slot v (at_ + 1) : Int), big, 0)
  | (2, _, at_) => ((E.first : Int), (E.slot E.s at_ : Int), big, 0)
  | (_ + 3, _, at_) => ((E.slot E.t at_ : Int), (E.last : Int), big, 0)
def net : List ArcT := E.kinds.map E.arcKd
theorem mv_sum (g : Kd → Int) (at_ : Nat) : ∀ i, sumI ((E.mvK at_ i).map g) = sumTo (fun j => if E.ok j at_ then g (Kd.mv j at_) else 0) i
  | 0 => rfl
  | i + 1 => by
    show sumI ((E.mvK at_ i ++ _).map g) = sumTo _ i + _
    rw [List.map_append, sumI_app, mv_sum g at_ i]
    by_cases h : E.ok i at_ = true
    · rw [if_pos h]; simp only [List.map_cons, List.map_nil, sumI, if_pos h]; omega
    · rw [if_neg h]; simp only [List.map_nil, sumI, if_neg h]
theorem wt_sum (g : Kd → Int) (at_ : Nat) : ∀ i, sumI ((E.wtK at_ i).map g) = sumTo (fun j => if E.wok j at_ then g (Kd.wt j at_) else 0) i
  | 0 => rfl
  | i + 1 => by
    show sumI ((E.wtK at_ i ++ _).map g) = sumTo _ i + _
    rw [List.map_append, sumI_app, wt_sum g at_ i]
    by_cases h : E.wok i at_ = true
    · rw [if_pos h]; simp only [List.map_cons, List.map_nil, sumI, if_pos h]; omega
    · rw [if_neg h]; simp only [List.map_nil, sumI, if_neg h]
theorem time_sum (g : Kd → Int) : ∀ n, sumI ((E.timeK n).map g) = sumTo (fun at_ => sumTo (fun j => if E.ok j at_ then g (Kd.mv j at_) else 0) E.Z.length) n + sumTo (fun at_ => sumTo (fun j => if E.wok j at_ then g (Kd.wt j at_) else 0) E.N) n
  | 0 => rfl
  | n + 1 => by
    show sumI ((E.timeK n ++ _).map g) = _
    rw [List.map_append, sumI_app, List.map_append, sumI_app, time_sum g n, mv_sum, wt_sum]
    simp only [sumTo]
    omega
theorem so_sum (g : Kd → Int) : ∀ n, sumI ((soK n).map g) = sumTo (fun at_ => g (Kd.so at_)) n
  | 0 => rfl
  | n + 1 => by
    show sumI ((soK n ++ _).map g) = sumTo _ n + _
    rw [List.map_append, sumI_app, so_sum g n]
    simp [sumI]
theorem si_sum (g : Kd → Int) : ∀ n, sumI ((siK n).map g) = sumTo (fun at_ => g (Kd.si at_)) n
  | 0 => rfl
  | n + 1 => by
    show sumI ((siK n ++ _).map g) = sumTo _ n + _
    rw [List.map_append, sumI_app, si_sum g n]
    simp [sumI]
theorem kinds_sum (g : Kd → Int) : sumI (E.kinds.map g) = sumTo (fun at_ => sumTo (fun j => if E.ok j at_ then g (Kd.mv j at_) else 0) E.Z.length) (E.H + 1) + sumTo (fun at_ => sumTo (fun j => if E.wok j at_ then g (Kd.wt j at_) else 0) E.N) (E.H + 1) + sumTo (fun at_ => g (Kd.so at_)) (E.H + 1) + sumTo (fun at_ => g (Kd.si at_)) (E.H + 1) := by
  unfold kinds
  rw [List.map_append, sumI_app, List.map_append, sumI_app, time_sum, so_sum, si_sum]
  omega
end Exp
theorem balC_map (a : Kd → ArcT) (x : Kd → Int) (w : Nat) : ∀ K : List Kd, balC w (K.map a) (K.map x) = sumI (K.map fun k => share (a k) (x k) w)
  | [] => rfl
  | k :: r => by
    simp only [List.map_cons, balC, sumI, List.headD_cons, List.tail_cons]
    rw [balC_map a x w r]
theorem slot_inj {N a b c d : Nat} (hb : b < N) (hd : d < N) : a * N + b = c * N + d ↔ a = c ∧ b = d := by
  constructor
  · intro h
    have e : a = c := by
      rcases Nat.lt_trichotomy a c with h1 | h1 | h1
      · have := Nat.mul_le_mul_right N h1
        rw [Nat.succ_mul] at this
        omega
      · exact h1
      · have := Nat.mul_le_mul_right N h1
        rw [Nat.succ_mul] at this
        omega
    subst e
    exact ⟨rfl, by omega⟩
  · rintro ⟨rfl, rfl⟩; rfl
theorem slot_lt {N a b H : Nat} (ha : a ≤ H) (hb : b < N) : a * N + b < (H + 1) * N := by
  have := Nat.mul_le_mul_right N ha
  rw [Nat.succ_mul]
  omega
theorem sumTo_sub (g h : Nat → Int) : ∀ n, sumTo (fun v => g v - h v) n = sumTo g n - sumTo h n
  | 0 => rfl
  | n + 1 => by simp only [sumTo, sumTo_sub g h n]; omega
theorem sumTo_pick {g : Nat → Int} {u : Nat} : ∀ n, sumTo (fun v => if v = u then g v else 0) n = if u < n then g u else 0
  | 0 => by simp [sumTo]
  | n + 1 => by
    simp only [sumTo, sumTo_pick n]
    by_cases h1 : u < n
    · rw [if_pos h1, if_neg (by omega), if_pos (by omega)]; omega
    · by_cases h2 : n = u
      · subst h2; rw [if_neg h1, if_pos rfl, if_pos (by omega)]; omega
      · rw [if_neg h1, if_neg h2, if_neg (by omega)]; rfl
namespace Exp
variable (E : Exp)
structure Good : Prop where
  ends : ∀ a ∈ E.Z, frN a < E.N ∧ toN a < E.N
  s : E.s < E.N
  t : E.t < E.N
  ne : E.s ≠ E.t
  cap : ∀ a ∈ E.Z, 0 ≤ capN a
def frA (i : Nat) : Nat := match E.Z[i]? with | some a => frN a | none => 0
def toA (i : Nat) : Nat := match E.Z[i]? with | some a => toN a | none => 0
def tmA (i : Nat) : Nat := match E.Z[i]? with | some a => tmN a | none => 0
def dep (x : Kd → Int) (v at_ : Nat) : Int := sumTo (fun i => if E.ok i at_ then (if E.frA i = v then x (Kd.mv i at_) else 0) else 0) E.Z.length
def arr (x : Kd → Int) (v at_ : Nat) : Int := sumTo (fun u => sumTo (fun i => if E.ok i u then (if E.toA i = v ∧ u + E.tmA i = at_ then x (Kd.mv i u) else 0) else 0) E.Z.length) (E.H + 1)
def wait (x : Kd → Int) (v at_ : Nat) : Int := if E.wok v at_ then x (Kd.wt v at_) else 0
def waited (x : Kd → Int) (v : Nat) : Nat → Int
  | 0 => 0
  | at_ + 1 => E.wait x v at_
theorem ok_arc {i at_ : Nat} (h : E.ok i at_ = true) : ∃ a, E.Z[i]? = some a ∧ at_ + tmN a ≤ E.H ∧ toN a ≠ E.s ∧ frN a ≠ E.t := by
  unfold ok at h
  cases hz : E.Z[i]? with
  | none => rw [hz] at h; cases h
  | some a =>
    rw [hz] at h
    simp only [Bool.and_eq_true, decide_eq_true_eq] at h
    exact ⟨a, rfl, h.1, h.2.1, h.2.2⟩
theorem wok_is {v at_ : Nat} : E.wok v at_ = true ↔ E.hold = true ∧ at_ < E.H ∧ v ≠ E.s ∧ v ≠ E.t := by
  unfold wok
  simp only [Bool.and_eq_true, decide_eq_true_eq]
theorem share_wt {E : Exp} {i u v at_ : Nat} (hi : i < E.N) (hv : v < E.N) (x : Int) : share (E.arcKd (Kd.wt i u)) x (E.slot v at_) = (if u = at_ ∧ i = v then x else 0) - (if u + 1 = at_ ∧ i = v then x else 0) := by
  unfold share arcKd
  have f1 : frN ((E.slot i u : Int), (E.slot i (u + 1) : Int), big, 0) = E.slot i u := by simp [frN]
  have f2 : toN ((E.slot i u : Int), (E.slot i (u + 1) : Int), big, 0) = E.slot i (u + 1) := by simp [toN]
  simp only [f1, f2]
  unfold slot
  have g1 := slot_inj (a := u) (c := at_) hi hv
  have g2 := slot_inj (a := u + 1) (c := at_) hi hv
  congr 1
  · by_cases hc : u = at_ ∧ i = v
    · rw [if_pos hc, if_pos (g1.2 hc)]
    · rw [if_neg hc, if_neg (fun e => hc (g1.1 e))]
  · by_cases hc : u + 1 = at_ ∧ i = v
    · rw [if_pos hc, if_pos (g2.2 hc)]
    · rw [if_neg hc, if_neg (fun e => hc (g2.1 e))]
section
variable {E : Exp}
theorem share_mv (hG : E.Good) {i u v at_ : Nat} (h : E.ok i u = true) (hv : v < E.N) (x : Int) : share (E.arcKd (Kd.mv i u)) x (E.slot v at_) = (if u = at_ ∧ E.frA i = v then x else 0) - (if E.toA i = v ∧ u + E.tmA i = at_ then x else 0) := by
  obtain ⟨a, ha, _⟩ := E.ok_arc h
  have he := hG.ends a (List.mem_of_getElem? ha)
  have e1 : E.frA i = frN a := by unfold frA; rw [ha]
  have e2 : E.toA i = toN a := by unfold toA; rw [ha]
  have e3 : E.tmA i = tmN a := by unfold tmA; rw [ha]
  have e4 : E.arcKd (Kd.mv i u) = ((E.slot (frN a) u : Int), (E.slot (toN a) (u + tmN a) : Int), capN a, 0) := by simp only [arcKd, ha]
  rw [e1, e2, e3, e4]
  unfold share
  have f1 : frN ((E.slot (frN a) u : Int), (E.slot (toN a) (u + tmN a) : Int), capN a, 0) = E.slot (frN a) u := by simp [frN]
  have f2 : toN ((E.slot (frN a) u : Int), (E.slot (toN a) (u + tmN a) : Int), capN a, 0) = E.slot (toN a) (u + tmN a) := by simp [toN]
  rw [f1, f2]
  unfold slot
  have g1 := slot_inj (a := u) (c := at_) he.1 hv
  have g2 := slot_inj (a := u + tmN a) (c := at_) he.2 hv
  congr 1
  · by_cases hc : u = at_ ∧ frN a = v
    · rw [if_pos hc, if_pos (g1.2 hc)]
    · rw [if_neg hc, if_neg (fun e => hc (g1.1 e))]
  · by_cases hc : toN a = v ∧ u + tmN a = at_
    · rw [if_pos hc, if_pos (g2.2 ⟨hc.2, hc.1⟩)]
    · rw [if_neg hc, if_neg (fun e => hc ⟨(g2.1 e).2, (g2.1 e).1⟩)]
theorem share_so (hG : E.Good) {u v at_ : Nat} (hv : v < E.N) (ha : at_ ≤ E.H) (x : Int) : share (E.arcKd (Kd.so u)) x (E.slot v at_) = - (if u = at_ ∧ E.s = v then x else 0) := by
  unfold share arcKd
  have f1 : frN ((E.first : Int), (E.slot E.s u : Int), big, 0) = E.first := by simp [frN]
  have f2 : toN ((E.first : Int), (E.slot E.s u : Int), big, 0) = E.slot E.s u := by simp [toN]
  simp only [f1, f2]
  unfold slot first
  have g0 := slot_lt (N := E.N) ha hv
  have g1 := slot_inj (a := u) (c := at_) hG.s hv
  rw [if_neg (by omega)]
  by_cases hc : u = at_ ∧ E.s = v
  · rw [if_pos hc, if_pos (g1.2 hc)]; omega
  · rw [if_neg hc, if_neg (fun e => hc (g1.1 e))]; rfl
theorem share_si (hG : E.Good) {u v at_ : Nat} (hv : v < E.N) (ha : at_ ≤ E.H) (x : Int) : share (E.arcKd (Kd.si u)) x (E.slot v at_) = (if u = at_ ∧ E.t = v then x else 0) := by
  unfold share arcKd
  have f1 : frN ((E.slot E.t u : Int), (E.last : Int), big, 0) = E.slot E.t u := by simp [frN]
  have f2 : toN ((E.slot E.t u : Int), (E.last : Int), big, 0) = E.last := by simp [toN]
  simp only [f1, f2]
  unfold slot last
  have g0 := slot_lt (N := E.N) ha hv
  have g1 := slot_inj (a := u) (c := at_) hG.t hv
  rw [if_neg (show ¬ (E.H + 1) * E.N + 1 = at_ * E.N + v by omega)]
  by_cases hc : u = at_ ∧ E.t = v
  · rw [if_pos hc, if_pos (g1.2 hc)]; omega
  · rw [if_neg hc, if_neg (fun e => hc (g1.1 e))]; rfl
theorem slot_bal (hG : E.Good) (x : Kd → Int) {v at_ : Nat} (hv : v < E.N) (ha : at_ ≤ E.H) : bal E.net (E.kinds.map x) (E.slot v at_) = E.dep x v at_ - E.arr x v at_ + E.wait x v at_ - E.waited x v at_ - (if E.s = v then x (Kd.so at_) else 0) + (if E.t = v then x (Kd.si at_) else 0) := by
  unfold net
  rw [bal_balC, balC_map, kinds_sum]
  have m1 : sumTo (fun u => sumTo (fun j => if E.ok j u then share (E.arcKd (Kd.mv j u)) (x (Kd.mv j u)) (E.slot v at_) else 0) E.Z.length) (E.H + 1) = E.dep x v at_ - E.arr x v at_ := by
    rw [sumTo_congr (h := fun u => sumTo (fun j => if E.ok j u then (if u = at_ ∧ E.frA j = v then x (Kd.mv j u) else 0) else 0) E.Z.length - sumTo (fun j => if E.ok j u then (if E.toA j = v ∧ u + E.tmA j = at_ then x (Kd.mv j u) else 0) else 0) E.Z.length) (fun u _ => by
      rw [← sumTo_sub]
      exact sumTo_congr (fun j _ => by
        by_cases h : E.ok j u = true
        · rw [if_pos h, if_pos h, if_pos h, share_mv hG h hv]
        · rw [if_neg h, if_neg h, if_neg h]; rfl)), sumTo_sub]
    congr 1
    rw [sumTo_congr (h := fun u => if u = at_ then E.dep x v u else 0) (fun u _ => by
      by_cases e : u = at_
      · subst e
        rw [if_pos rfl]
        unfold dep
        exact sumTo_congr (fun j _ => by
          by_cases h : E.ok j u = true
          · rw [if_pos h, if_pos h]; simp
          · rw [if_neg h, if_neg h])
      · rw [if_neg e]
        exact (sumTo_congr (h := fun _ => 0) (fun j _ => by simp [e])).trans (sumTo_zero _)), sumTo_pick, if_pos (by omega)]
  have m2 : sumTo (fun u => sumTo (fun j => if E.wok j u then share (E.arcKd (Kd.wt j u)) (x (Kd.wt j u)) (E.slot v at_) else 0) E.N) (E.H + 1) = E.wait x v at_ - E.waited x v at_ := by
    have h1 : ∀ u, sumTo (fun j => if E.wok j u then share (E.arcKd (Kd.wt j u)) (x (Kd.wt j u)) (E.slot v at_) else 0) E.N = (if u = at_ then E.wait x v u else 0) - (if u + 1 = at_ then E.wait x v u else 0) := by
      intro u
      rw [sumTo_congr (h := fun j => if j = v then ((if u = at_ then E.wait x j u else 0) - (if u + 1 = at_ then E.wait x j u else 0)) else 0) (fun j hj => by
        by_cases h : E.wok j u = true
        · rw [if_pos h, share_wt hj hv]
          unfold wait
          rw [if_pos h]
          by_cases e : j = v
          · simp [e]
          · simp [e]
        · rw [if_neg h]
          unfold wait
          rw [if_neg h]
          by_cases e : j = v <;> simp [e]), sumTo_pick, if_pos hv]
    rw [sumTo_congr (h := fun u => (if u = at_ then E.wait x v u else 0) - (if u + 1 = at_ then E.wait x v u else 0)) (fun u _ => h1 u), sumTo_sub, sumTo_pick, if_pos (by omega)]
    congr 1
    cases at_ with
    | zero =>
      exact (sumTo_congr (h := fun _ => 0) (fun u _ => by simp)).trans (sumTo_zero _)
    | succ k =>
      rw [sumTo_congr (h := fun u => if u = k then E.wait x v u else 0) (fun u _ => by simp), sumTo_pick, if_pos (by omega)]
      rfl
  have m3 : sumTo (fun u => share (E.arcKd (Kd.so u)) (x (Kd.so u)) (E.slot v at_)) (E.H + 1) = - (if E.s = v then x (Kd.so at_) else 0) := by
    rw [sumTo_congr (h := fun u => - (if u = at_ then (if E.s = v then x (Kd.so u) else 0) else 0)) (fun u _ => by
      rw [share_so hG hv ha]
      by_cases e : u = at_ <;> simp [e]), sumTo_neg, sumTo_pick, if_pos (by omega)]
  have m4 : sumTo (fun u => share (E.arcKd (Kd.si u)) (x (Kd.si u)) (E.slot v at_)) (E.H + 1) = (if E.t = v then x (Kd.si at_) else 0) := by
    rw [sumTo_congr (h := fun u => if u = at_ then (if E.t = v then x (Kd.si u) else 0) else 0) (fun u _ => by
      rw [share_si hG hv ha]
      by_cases e : u = at_ <;> simp [e]), sumTo_pick, if_pos (by omega)]
  rw [m1, m2, m3, m4]
  omega
end
end Exp
end Go.Proofs.Ytlkbohpnlbfopaa
namespace Go.Proofs.Ytlkbohpnlbfopaa
set_option linter.unusedVariables false
namespace Exp
variable {E : Exp}
def stock (E : Exp) (x : Kd → Int) (v at_ : Nat) : Int := sumTo (fun u => E.arr x v u - E.dep x v u) (at_ + 1)
theorem waited_sum (x : Kd → Int) (v : Nat) : ∀ n, sumTo (fun u => E.wait x v u - E.waited x v u) (n + 1) = E.wait x v n
  | 0 => by simp [sumTo, waited]
  | n + 1 => by
    have ih := waited_sum x v n
    rw [sumTo, ih]
    simp only [waited]
    omega
theorem stock_wait (hG : E.Good) (x : Kd → Int) {v : Nat} (hv : v < E.N) (hs : v ≠ E.s) (ht : v ≠ E.t) (h : ∀ u, u ≤ E.H → bal E.net (E.kinds.map x) (E.slot v u) = 0) {at_ : Nat} (ha : at_ ≤ E.H) : E.stock x v at_ = E.wait x v at_ := by
  unfold stock
  rw [← waited_sum x v at_]
  refine sumTo_congr (fun u hu => ?_)
  have h1 := h u (by omega)
  rw [slot_bal hG x hv (by omega), if_neg (fun e => hs e.symm), if_neg (fun e => ht e.symm)] at h1
  omega
theorem wait_end (x : Kd → Int) (v : Nat) (hv : v = E.s ∨ v = E.t) (at_ : Nat) : E.wait x v at_ = 0 := by
  unfold wait
  rw [if_neg]
  intro h
  have := E.wok_is.1 h
  rcases hv with rfl | rfl
  · exact this.2.2.1 rfl
  · exact this.2.2.2 rfl
theorem waited_end (x : Kd → Int) (v : Nat) (hv : v = E.s ∨ v = E.t) : ∀ at_, E.waited x v at_ = 0
  | 0 => rfl
  | at_ + 1 => wait_end x v hv at_
theorem share_none {a : ArcT} {x : Int} {w : Nat} (h1 : frN a ≠ w) (h2 : toN a ≠ w) : share a x w = 0 := by unfold share; rw [if_neg h1, if_neg h2]; rfl
theorem mv_ends (hG : E.Good) {i u : Nat} (h : E.ok i u = true) : frN (E.arcKd (Kd.mv i u)) < E.first ∧ toN (E.arcKd (Kd.mv i u)) < E.first := by
  obtain ⟨a, ha, h1, _⟩ := E.ok_arc h
  have he := hG.ends a (List.mem_of_getElem? ha)
  have e4 : E.arcKd (Kd.mv i u) = ((E.slot (frN a) u : Int), (E.slot (toN a) (u + tmN a) : Int), capN a, 0) := by simp only [arcKd, ha]
  rw [e4]
  have g1 := slot_lt (N := E.N) (a := u) (H := E.H) (by omega) he.1
  have g2 := slot_lt (N := E.N) (a := u + tmN a) (H := E.H) h1 he.2
  unfold first slot at *
  constructor
  · show ((u * E.N + frN a : Nat) : Int).toNat < _
    omega
  · show (((u + tmN a) * E.N + toN a : Nat) : Int).toNat < _
    omega
theorem wt_ends {v u : Nat} (hv : v < E.N) (h : E.wok v u = true) : frN (E.arcKd (Kd.wt v u)) < E.first ∧ toN (E.arcKd (Kd.wt v u)) < E.first := by
  have h1 := (E.wok_is.1 h).2.1
  have g1 := slot_lt (N := E.N) (a := u) (H := E.H) (by omega) hv
  have g2 := slot_lt (N := E.N) (a := u + 1) (H := E.H) (by omega) hv
  unfold first
  constructor
  · show ((u * E.N + v : Nat) : Int).toNat < _
    omega
  · show (((u + 1) * E.N + v : Nat) : Int).toNat < _
    omega
theorem so_ends (hG : E.Good) {u : Nat} (hu : u ≤ E.H) : frN (E.arcKd (Kd.so u)) = E.first ∧ toN (E.arcKd (Kd.so u)) < E.first := by
  have g1 := slot_lt (N := E.N) (a := u) (H := E.H) hu hG.s
  unfold first
  constructor
  · show (((E.H + 1) * E.N : Nat) : Int).toNat = _
    omega
  · show ((u * E.N + E.s : Nat) : Int).toNat < _
    omega
theorem si_ends (hG : E.Good) {u : Nat} (hu : u ≤ E.H) : frN (E.arcKd (Kd.si u)) < E.first ∧ toN (E.arcKd (Kd.si u)) = E.last := by
  have g1 := slot_lt (N := E.N) (a := u) (H := E.H) hu hG.t
  unfold first last
  constructor
  · show ((u * E.N + E.t : Nat) : Int).toNat < _
    omega
  · show (((E.H + 1) * E.N + 1 : Nat) : Int).toNat = _
    omega
theorem first_lt : E.first < E.last := by unfold first last; omega
theorem bal_last (hG : E.Good) (x : Kd → Int) : bal E.net (E.kinds.map x) E.last = - sumTo (fun u => x (Kd.si u)) (E.H + 1) := by
  have hf := first_lt (E := E)
  unfold net
  rw [bal_balC, balC_map, kinds_sum]
  have m1 : sumTo (fun u => sumTo (fun j => if E.ok j u then share (E.arcKd (Kd.mv j u)) (x (Kd.mv j u)) E.last else 0) E.Z.length) (E.H + 1) = 0 := by
    refine (sumTo_congr (h := fun _ => 0) (fun u _ => ?_)).trans (sumTo_zero _)
    refine (sumTo_congr (h := fun _ => 0) (fun j _ => ?_)).trans (sumTo_zero _)
    by_cases h : E.ok j u = true
    · have := mv_ends hG h
      rw [if_pos h, share_none (by omega) (by omega)]
    · rw [if_neg h]
  have m2 : sumTo (fun u => sumTo (fun j => if E.wok j u then share (E.arcKd (Kd.wt j u)) (x (Kd.wt j u)) E.last else 0) E.N) (E.H + 1) = 0 := by
    refine (sumTo_congr (h := fun _ => 0) (fun u _ => ?_)).trans (sumTo_zero _)
    refine (sumTo_congr (h := fun _ => 0) (fun j hj => ?_)).trans (sumTo_zero _)
    by_cases h : E.wok j u = true
    · have := wt_ends hj h
      rw [if_pos h, share_none (by omega) (by omega)]
    · rw [if_neg h]
  have m3 : sumTo (fun u => share (E.arcKd (Kd.so u)) (x (Kd.so u)) E.last) (E.H + 1) = 0 := by
    refine (sumTo_congr (h := fun _ => 0) (fun u hu => ?_)).trans (sumTo_zero _)
    have := so_ends hG (u := u) (by omega)
    exact share_none (by omega) (by omega)
  have m4 : sumTo (fun u => share (E.arcKd (Kd.si u)) (x (Kd.si u)) E.last) (E.H + 1) = - sumTo (fun u => x (Kd.si u)) (E.H + 1) := by
    rw [← sumTo_neg]
    refine sumTo_congr (fun u hu => ?_)
    have := si_ends hG (u := u) (by omega)
    unfold share
    rw [if_neg (by omega), if_pos this.2]
    omega
  rw [m1, m2, m3, m4]
  omega
theorem kinds_cases {k : Kd} (hk : k ∈ E.kinds) : (∃ i u, k = Kd.mv i u ∧ E.ok i u = true) ∨ (∃ v u, v < E.N ∧ k = Kd.wt v u ∧ E.wok v u = true) ∨ (∃ u, u ≤ E.H ∧ k = Kd.so u) ∨ ∃ u, u ≤ E.H ∧ k = Kd.si u := by
  have hmv : ∀ at_ i, ∀ k ∈ E.mvK at_ i, ∃ j, k = Kd.mv j at_ ∧ E.ok j at_ = true := by
    intro at_ i
    induction i with
    | zero => intro k hk; cases hk
    | succ i ih =>
      intro k hk
      have hk : k ∈ E.mvK at_ i ++ if E.ok i at_ then [Kd.mv i at_] else [] := hk
      rcases List.mem_append.1 hk with hk | hk
      · exact ih k hk
      · split at hk
        · next ho => rw [List.mem_singleton] at hk; exact ⟨i, hk, ho⟩
        · cases hk
  have hwt : ∀ at_ i, ∀ k ∈ E.wtK at_ i, ∃ j, j < i ∧ k = Kd.wt j at_ ∧ E.wok j at_ = true := by
    intro at_ i
    induction i with
    | zero => intro k hk; cases hk
    | succ i ih =>
      intro k hk
      have hk : k ∈ E.wtK at_ i ++ if E.wok i at_ then [Kd.wt i at_] else [] := hk
      rcases List.mem_append.1 hk with hk | hk
      · obtain ⟨j, h1, h2, h3⟩ := ih k hk
        exact ⟨j, by omega, h2, h3⟩
      · split at hk
        · next ho => rw [List.mem_singleton] at hk; exact ⟨i, by omega, hk, ho⟩
        · cases hk
  have htm : ∀ n, ∀ k ∈ E.timeK n, (∃ i u, k = Kd.mv i u ∧ E.ok i u = true) ∨ ∃ v u, v < E.N ∧ k = Kd.wt v u ∧ E.wok v u = true := by
    intro n
    induction n with
    | zero => intro k hk; cases hk
    | succ n ih =>
      intro k hk
      have hk : k ∈ E.timeK n ++ (E.mvK n E.Z.length ++ E.wtK n E.N) := hk
      rcases List.mem_append.1 hk with hk | hk
      · exact ih k hk
      · rcases List.mem_append.1 hk with hk | hk
        · obtain ⟨j, h1, h2⟩ := hmv n _ k hk
          exact .inl ⟨j, n, h1, h2⟩
        · obtain ⟨j, h1, h2, h3⟩ := hwt n _ k hk
          exact .inr ⟨j, n, h1, h2, h3⟩
  have hso : ∀ n, ∀ k ∈ soK n, ∃ u, u < n ∧ k = Kd.so u := by
    intro n
    induction n with
    | zero => intro k hk; cases hk
    | succ n ih =>
      intro k hk
      have hk : k ∈ soK n ++ [Kd.so n] := hk
      rcases List.mem_append.1 hk with hk | hk
      · obtain ⟨u, h1, h2⟩ := ih k hk; exact ⟨u, by omega, h2⟩
      · rw [List.mem_singleton] at hk; exact ⟨n, by omega, hk⟩
  have hsi : ∀ n, ∀ k ∈ siK n, ∃ u, u < n ∧ k = Kd.si u := by
    intro n
    induction n with
    | zero => intro k hk; cases hk
    | succ n ih =>
      intro k hk
      have hk : k ∈ siK n ++ [Kd.si n] := hk
      rcases List.mem_append.1 hk with hk | hk
      · obtain ⟨u, h1, h2⟩ := ih k hk; exact ⟨u, by omega, h2⟩
      · rw [List.mem_singleton] at hk; exact ⟨n, by omega, hk⟩
  unfold kinds at hk
  rcases List.mem_append.1 hk with hk | hk
  · rcases htm _ k hk with h | h
    · exact .inl h
    · exact .inr (.inl h)
  · rcases List.mem_append.1 hk with hk | hk
    · obtain ⟨u, h1, h2⟩ := hso _ k hk
      exact .inr (.inr (.inl ⟨u, by omega, h2⟩))
    · obtain ⟨u, h1, h2⟩ := hsi _ k hk
      exact .inr (.inr (.inr ⟨u, by omega, h2⟩))
theorem net_ends (hG : E.Good) : ∀ a ∈ E.net, frN a < E.last + 1 ∧ toN a < E.last + 1 := by
  have hf := first_lt (E := E)
  intro a ha
  unfold net at ha
  obtain ⟨k, hk, rfl⟩ := List.mem_map.1 ha
  rcases kinds_cases hk with ⟨i, u, rfl, h⟩ | ⟨v, u, hv, rfl, h⟩ | ⟨u, h1, rfl⟩ | ⟨u, h1, rfl⟩
  · have := mv_ends hG h; omega
  · have := wt_ends hv h; omega
  · have := so_ends hG (u := u) h1; omega
  · have := si_ends hG (u := u) h1; omega
def Plan (E : Exp) (x : Kd → Int) : Prop := (∀ i u, E.ok i u = true → 0 ≤ x (Kd.mv i u) ∧ ∀ a, E.Z[i]? = some a → x (Kd.mv i u) ≤ capN a) ∧ ∀ v, v < E.N → v ≠ E.s → v ≠ E.t → ∀ u, u ≤ E.H → 0 ≤ E.stock x v u ∧ (E.stock x v u = 0 ∨ (E.hold = true ∧ u < E.H))
theorem runs (hG : E.Good) (x : Kd → Int) {k : Int} (h : FlowST E.net (E.last + 1) E.first E.last (E.kinds.map x) k) (hp : ∀ i u, E.ok i u = true → 0 ≤ x (Kd.mv i u) ∧ ∀ a, E.Z[i]? = some a → x (Kd.mv i u) ≤ capN a) (hw : ∀ v u, v < E.N → E.wok v u = true → 0 ≤ x (Kd.wt v u)) :
    E.Plan x ∧ E.stock x E.t E.H = k := by
  have hf := first_lt (E := E)
  have hbal : ∀ v u, v < E.N → u ≤ E.H → bal E.net (E.kinds.map x) (E.slot v u) = 0 := fun v u hv hu => by
    have hlt : E.slot v u < E.first := slot_lt hu hv
    exact h.2.1 _ (by omega) (by omega) (by omega)
  refine ⟨⟨hp, fun v hv hs ht u hu => ?_⟩, ?_⟩
  · rw [stock_wait hG x hv hs ht (fun u hu => hbal v u hv hu) hu]
    unfold wait
    by_cases hk : E.wok v u = true
    · rw [if_pos hk]
      have := E.wok_is.1 hk
      exact ⟨hw v u hv hk, .inr ⟨this.1, this.2.1⟩⟩
    · rw [if_neg hk]; exact ⟨Int.le_refl _, .inl rfl⟩
  · have e1 : E.stock x E.t E.H = sumTo (fun u => x (Kd.si u)) (E.H + 1) := by
      unfold stock
      refine sumTo_congr (fun u hu => ?_)
      have h1 := hbal E.t u hG.t (by omega)
      rw [slot_bal hG x hG.t (by omega), wait_end x _ (.inr rfl), waited_end x _ (.inr rfl), if_neg hG.ne, if_pos rfl] at h1
      omega
    have h2 := flow_sink (net_ends hG) (by omega) (by omega) (by omega) h
    have h3 := bal_last hG x
    rw [e1]
    omega
theorem sumTo_nonneg {g : Nat → Int} : ∀ {n}, (∀ v, v < n → 0 ≤ g v) → 0 ≤ sumTo g n
  | 0, _ => Int.le_refl _
  | n + 1, h => by
    have h1 := sumTo_nonneg (g := g) (n := n) (fun v hv => h v (by omega))
    have h2 := h n (by omega)
    simp only [sumTo]
    omega
end Exp
end Go.Proofs.Ytlkbohpnlbfopaa
namespace Go.Proofs.Ytlkbohpnlbfopaa
set_option linter.unusedVariables false
namespace Exp
variable {E : Exp}
theorem ok_lt {i u : Nat} (h : E.ok i u = true) : i < E.Z.length ∧ u ≤ E.H := by
  obtain ⟨a, ha, h1, _⟩ := E.ok_arc h
  exact ⟨(List.getElem?_eq_some_iff.1 ha).1, by omega⟩
end Exp
end Go.Proofs.Ytlkbohpnlbfopaa
namespace Go.Proofs.Ytlkbohpnlbfopaa
set_option linter.unusedVariables false
namespace Exp
variable {E : Exp}
end Exp
end Go.Proofs.Ytlkbohpnlbfopaa
namespace Go.Proofs.Ytlkbohpnlbfopaa
set_option linter.unusedVariables false
namespace Exp
variable {E : Exp}
end Exp
end Go.Proofs.Ytlkbohpnlbfopaa
namespace Go.Proofs.Ytlkbohpnlbfopaa
set_option linter.unusedVariables false
section
variable {Z : List ArcT} {N s t : Nat}
end
namespace Exp
variable {E : Exp}
end Exp
end Go.Proofs.Ytlkbohpnlbfopaa
