/- Chains of arcs and their least costs; the order of nodes; which arcs leave a node: plain lists. -/
import Derived.Test.YtiefphkfddecbaaMNet
namespace Go.Proofs.Ytiefphkfddecbaa
set_option linter.unusedVariables false

/-! Chains of arcs -/
def toN (a : ArcT) : Nat := a.2.1.toNat
def frN (a : ArcT) : Nat := a.1.toNat
/-- The arcs p lead from s to v. -/
def Chain (s : Nat) : List ArcT → Nat → Prop
  | [], v => s = v
  | a :: r, v => frN a = s ∧ Chain (toN a) r v
def costP (c : ArcT → Int) (p : List ArcT) : Int := (p.map c).sum
theorem chain_app {s v : Nat} {p q : List ArcT} : Chain s (p ++ q) v ↔ ∃ m, Chain s p m ∧ Chain m q v := by
  induction p generalizing s with
  | nil => simp [Chain]
  | cons a r ih => simp only [List.cons_append, Chain, ih]; constructor
                   · rintro ⟨h1, m, h2, h3⟩; exact ⟨m, ⟨h1, h2⟩, h3⟩
                   · rintro ⟨m, ⟨h1, h2⟩, h3⟩; exact ⟨h1, m, h2, h3⟩
theorem chain_det {s v w : Nat} {p : List ArcT} (h : Chain s p v) (k : Chain s p w) : v = w := by
  induction p generalizing s with
  | nil => simp only [Chain] at h k; omega
  | cons a r ih => exact ih h.2 k.2
theorem chain_snoc {s v : Nat} {p : List ArcT} (h : Chain s p v) {a : ArcT} (ha : frN a = v) : Chain s (p ++ [a]) (toN a) := chain_app.2 ⟨v, h, ha, rfl⟩
theorem cost_app (c : ArcT → Int) (p q : List ArcT) : costP c (p ++ q) = costP c p + costP c q := by simp [costP]
theorem cost_nonneg {c : ArcT → Int} {p : List ArcT} (h : ∀ a ∈ p, 0 ≤ c a) : 0 ≤ costP c p := by
  induction p with
  | nil => simp [costP]
  | cons a r ih =>
    have h1 := ih (fun x hx => h x (by simp [hx]))
    have h2 := h a (by simp)
    simp only [costP, List.map_cons, List.sum_cons] at h1 ⊢; omega
/-- The nodes that are come to. -/
def nodesOf (s : Nat) (p : List ArcT) : List Nat := s :: p.map toN
theorem nodes_len (s : Nat) (p : List ArcT) : (nodesOf s p).length = p.length + 1 := by simp [nodesOf]
theorem chain_at {s v : Nat} {p : List ArcT} (h : Chain s p v) (i : Nat) (hi : i ≤ p.length) : ∃ m, (nodesOf s p)[i]? = some m ∧ Chain s (p.take i) m ∧ Chain m (p.drop i) v := by
  have h0 := h
  rw [← List.take_append_drop i p] at h0
  obtain ⟨m, h1, h2⟩ := chain_app.1 h0
  refine ⟨m, ?_, h1, h2⟩
  clear h h0 h2
  induction i generalizing s p with
  | zero => simp only [List.take_zero, Chain] at h1; subst h1; rfl
  | succ i ih =>
    cases p with
    | nil => simp at hi
    | cons a r =>
      simp only [List.take_succ_cons, Chain] at h1
      have := ih (s := toN a) (p := r) (by simpa using hi) h1.2
      simpa [nodesOf] using this
theorem pigeon : ∀ (N : Nat) (l : List Nat), (∀ x ∈ l, x < N) → N < l.length → ¬ l.Nodup
  | 0, l, h, hl, _ => by
    cases l with
    | nil => simp at hl
    | cons x r => exact absurd (h x (by simp)) (by omega)
  | N + 1, l, h, hl, hn => by
    by_cases hm : N ∈ l
    · refine pigeon N (l.erase N) (fun x hx => ?_) ?_ (hn.erase N)
      · have h1 := (hn.mem_erase_iff).1 hx
        have h2 := h x h1.2
        have h3 := h1.1
        omega
      · rw [List.length_erase_of_mem hm]; omega
    · refine pigeon N l (fun x hx => ?_) (by omega) hn
      have h2 := h x hx
      have h3 : x ≠ N := fun e => hm (e ▸ hx)
      omega
theorem twice {N : Nat} {l : List Nat} (h : ∀ x ∈ l, x < N) (hl : N < l.length) : ∃ i j m, i < j ∧ j < l.length ∧ l[i]? = some m ∧ l[j]? = some m := by
  have h1 := pigeon N l h hl
  rw [List.nodup_iff_pairwise_ne, List.pairwise_iff_getElem] at h1
  simp only [Classical.not_forall, Classical.not_not] at h1
  obtain ⟨i, j, hi, hj, hij, he⟩ := h1
  have he' : l[i] = l[j] := by simpa using he
  exact ⟨i, j, l[i], hij, hj, List.getElem?_eq_getElem hi, by rw [he', List.getElem?_eq_getElem hj]⟩
/-- A chain can be had with fewer arcs than nodes, at no more cost. -/
theorem short {Z : List ArcT} {N s v : Nat} {c : ArcT → Int} (hs : s < N) (hZ : ∀ a ∈ Z, toN a < N) (hc : ∀ a ∈ Z, 0 ≤ c a) : ∀ (k : Nat) (p : List ArcT), p.length ≤ k → (∀ a ∈ p, a ∈ Z) → Chain s p v →
    ∃ q, q.length < N ∧ (∀ a ∈ q, a ∈ Z) ∧ Chain s q v ∧ costP c q ≤ costP c p
  | 0, p, hk, hp, h => ⟨p, by omega, hp, h, Int.le_refl _⟩
  | k + 1, p, hk, hp, h => by
    by_cases hl : p.length < N
    · exact ⟨p, hl, hp, h, Int.le_refl _⟩
    · have hb : ∀ x ∈ nodesOf s p, x < N := by
        intro x hx
        rcases List.mem_cons.1 hx with rfl | hx
        · exact hs
        · obtain ⟨a, ha, rfl⟩ := List.mem_map.1 hx
          exact hZ a (hp a ha)
      obtain ⟨i, j, m, hij, hj, h1, h2⟩ := twice hb (by rw [nodes_len]; omega)
      rw [nodes_len] at hj
      obtain ⟨m1, e1, c1, d1⟩ := chain_at h i (by omega)
      obtain ⟨m2, e2, c2, d2⟩ := chain_at h j (by omega)
      rw [h1] at e1; cases e1
      rw [h2] at e2; cases e2
      have hsub : ∀ a ∈ p.take i ++ p.drop j, a ∈ Z := by
        intro a ha
        rcases List.mem_append.1 ha with ha | ha
        · exact hp a (List.mem_of_mem_take ha)
        · exact hp a (List.mem_of_mem_drop ha)
      have hlen : (p.take i ++ p.drop j).length ≤ k := by rw [List.length_append, List.length_take, List.length_drop]; omega
      obtain ⟨q, q1, q2, q3, q4⟩ := short hs hZ hc k (p.take i ++ p.drop j) hlen hsub (chain_app.2 ⟨m, c1, d2⟩)
      refine ⟨q, q1, q2, q3, Int.le_trans q4 ?_⟩
      have e3 : p = p.take i ++ ((p.drop i).take (j - i) ++ p.drop j) := by
        have : (p.drop i).take (j - i) ++ p.drop j = p.drop i := by
          have h5 := List.take_append_drop (j - i) (p.drop i)
          rw [List.drop_drop] at h5
          rw [show i + (j - i) = j by omega] at h5
          exact h5
        rw [this, List.take_append_drop]
      have hmid : 0 ≤ costP c ((p.drop i).take (j - i)) := cost_nonneg (fun a ha => hc a (hp a (List.mem_of_mem_drop (List.mem_of_mem_take ha))))
      conv => rhs; rw [e3]
      rw [cost_app, cost_app, cost_app]; omega

/-! The least cost of a chain -/
def Reach (Z : List ArcT) (c : ArcT → Int) (s v : Nat) (t : Int) : Prop := ∃ p, (∀ a ∈ p, a ∈ Z) ∧ Chain s p v ∧ costP c p = t
theorem reach_self (Z : List ArcT) (c : ArcT → Int) (s : Nat) : Reach Z c s s 0 := ⟨[], by simp, rfl, by simp [costP]⟩
theorem reach_step {Z : List ArcT} {c : ArcT → Int} {s : Nat} {t : Int} {a : ArcT} (h : Reach Z c s (frN a) t) (ha : a ∈ Z) : Reach Z c s (toN a) (t + c a) := by
  obtain ⟨p, h1, h2, h3⟩ := h
  refine ⟨p ++ [a], ?_, chain_snoc h2 rfl, by rw [cost_app, h3]; simp [costP]⟩
  intro x hx
  rcases List.mem_append.1 hx with hx | hx
  · exact h1 x hx
  · rw [List.mem_singleton] at hx; subst hx; exact ha
def atI (d : List Int) (v : Nat) : Int := d.getD v 0
/-- These are the least costs; -1: no chain. -/
structure IsDist (Z : List ArcT) (c : ArcT → Int) (s N : Nat) (d : List Int) : Prop where
  len : d.length = N
  at_ : ∀ v, v < N → (atI d v = -1 ∧ ∀ t, ¬ Reach Z c s v t) ∨ (0 ≤ atI d v ∧ Reach Z c s v (atI d v) ∧ ∀ t, Reach Z c s v t → atI d v ≤ t)
theorem isDist_unique {Z : List ArcT} {c : ArcT → Int} {s N : Nat} {d e : List Int} (h : IsDist Z c s N d) (k : IsDist Z c s N e) : d = e := by
  apply List.ext_getElem (h.len.trans k.len.symm)
  intro i h1 h2
  have hN : i < N := h.len ▸ h1
  have ed : atI d i = d[i] := by unfold atI; rw [List.getD_eq_getElem?_getD, List.getElem?_eq_getElem h1]; rfl
  have ee : atI e i = e[i] := by unfold atI; rw [List.getD_eq_getElem?_getD, List.getElem?_eq_getElem h2]; rfl
  rw [← ed, ← ee]
  rcases h.at_ i hN with ⟨h3, h4⟩ | ⟨h3, h4, h5⟩
  · rcases k.at_ i hN with ⟨k3, k4⟩ | ⟨k3, k4, k5⟩
    · rw [h3, k3]
    · exact absurd k4 (h4 _)
  · rcases k.at_ i hN with ⟨k3, k4⟩ | ⟨k3, k4, k5⟩
    · exact absurd h4 (k4 _)
    · exact Int.le_antisymm (h5 _ k4) (k5 _ h4)
/-- Chains of at most so many arcs are looked at. -/
def SeenD (Z : List ArcT) (c : ArcT → Int) (s k : Nat) (d : List Int) : Prop := ∀ p v, (∀ a ∈ p, a ∈ Z) → Chain s p v → p.length ≤ k → 0 ≤ atI d v ∧ atI d v ≤ costP c p
def SoundD (Z : List ArcT) (c : ArcT → Int) (s : Nat) (d : List Int) : Prop := ∀ v, v < d.length → atI d v = -1 ∨ (0 ≤ atI d v ∧ Reach Z c s v (atI d v))
theorem isDist_of {Z : List ArcT} {c : ArcT → Int} {s N : Nat} {d : List Int} (hd : d.length = N) (hs : s < N) (hZ : ∀ a ∈ Z, toN a < N) (hc : ∀ a ∈ Z, 0 ≤ c a) (h1 : SoundD Z c s d) (h2 : SeenD Z c s N d) : IsDist Z c s N d := by
  have h3 : ∀ v t, Reach Z c s v t → 0 ≤ atI d v ∧ atI d v ≤ t := by
    rintro v t ⟨p, p1, p2, rfl⟩
    obtain ⟨q, q1, q2, q3, q4⟩ := short hs hZ hc p.length p (Nat.le_refl _) p1 p2
    have := h2 q v q2 q3 (by omega)
    exact ⟨this.1, by omega⟩
  refine ⟨hd, fun v hv => ?_⟩
  rcases h1 v (by omega) with h | ⟨h, hr⟩
  · exact .inl ⟨h, fun t ht => by have := (h3 v t ht).1; omega⟩
  · exact .inr ⟨h, hr, fun t ht => (h3 v t ht).2⟩
/-- Where no arc is better than what is told, the least costs are told. -/
theorem isDist_cert {Z : List ArcT} {c : ArcT → Int} {s N : Nat} {d : List Int} (hd : d.length = N) (hs : s < N) (hZ : ∀ a ∈ Z, toN a < N) (h0 : atI d s = 0) (h1 : SoundD Z c s d)
    (h2 : ∀ a ∈ Z, 0 ≤ atI d (frN a) → 0 ≤ atI d (toN a) ∧ atI d (toN a) ≤ atI d (frN a) + c a) : IsDist Z c s N d := by
  have key : ∀ (p : List ArcT) (u v : Nat), (∀ a ∈ p, a ∈ Z) → Chain u p v → 0 ≤ atI d u → 0 ≤ atI d v ∧ atI d v ≤ atI d u + costP c p := by
    intro p
    induction p with
    | nil => intro u v _ h hu; simp only [Chain] at h; subst h; simp [costP]; exact hu
    | cons a r ih =>
      intro u v hp h hu
      obtain ⟨e1, e2⟩ := h
      subst e1
      have h3 := h2 a (hp a (by simp)) hu
      have h4 := ih (toN a) v (fun x hx => hp x (by simp [hx])) e2 h3.1
      refine ⟨h4.1, ?_⟩
      simp only [costP, List.map_cons, List.sum_cons] at h4 ⊢
      omega
  refine ⟨hd, fun v hv => ?_⟩
  have h3 : ∀ t, Reach Z c s v t → 0 ≤ atI d v ∧ atI d v ≤ t := by
    rintro t ⟨p, p1, p2, rfl⟩
    have := key p s v p1 p2 (by omega)
    exact ⟨this.1, by omega⟩
  rcases h1 v (by omega) with h | ⟨h, hr⟩
  · exact .inl ⟨h, fun t ht => by have := (h3 t ht).1; omega⟩
  · exact .inr ⟨h, hr, fun t ht => (h3 t ht).2⟩
theorem atI_set {d : List Int} {v u : Nat} {x : Int} (hv : v < d.length) : atI (d.set v x) u = if u = v then x else atI d u := by
  unfold atI
  rw [List.getD_eq_getElem?_getD, List.getElem?_set, List.getD_eq_getElem?_getD]
  by_cases h : u = v
  · subst h; simp [hv]
  · rw [if_neg (fun e => h e.symm), if_neg h]

/-! Again and again the least that an arc gives (the document's Fastest) -/
def better (c : ArcT → Int) (d : List Int) (a : ArcT) : Prop := 0 ≤ atI d (frN a) ∧ (atI d (toN a) < 0 ∨ atI d (frN a) + c a < atI d (toN a))
instance (c : ArcT → Int) (d : List Int) (a : ArcT) : Decidable (better c d a) := by unfold better; infer_instance
def relax (c : ArcT → Int) (d : List Int) (a : ArcT) : List Int := if better c d a then d.set (toN a) (atI d (frN a) + c a) else d
def relaxAll (c : ArcT → Int) (Z : List ArcT) (d : List Int) : List Int := Z.foldl (relax c) d
def startD (N s : Nat) : List Int := (List.replicate N (-1)).set s 0
def fastK (c : ArcT → Int) (Z : List ArcT) (N s : Nat) : Nat → List Int
  | 0 => startD N s
  | k + 1 => relaxAll c Z (fastK c Z N s k)
theorem relax_len (c : ArcT → Int) (d : List Int) (a : ArcT) : (relax c d a).length = d.length := by unfold relax; split <;> simp
theorem relaxAll_len (c : ArcT → Int) (Z : List ArcT) (d : List Int) : (relaxAll c Z d).length = d.length := by
  unfold relaxAll
  induction Z generalizing d with
  | nil => rfl
  | cons a r ih => rw [List.foldl_cons, ih, relax_len]
theorem startD_len (N s : Nat) : (startD N s).length = N := by simp [startD]
theorem fastK_len (c : ArcT → Int) (Z : List ArcT) (N s k : Nat) : (fastK c Z N s k).length = N := by
  induction k with
  | zero => exact startD_len N s
  | succ k ih => unfold fastK; rw [relaxAll_len, ih]
theorem startD_at {N s v : Nat} (hs : s < N) (hv : v < N) : atI (startD N s) v = if v = s then 0 else -1 := by
  unfold startD
  rw [atI_set (by simp; exact hs)]
  split
  · rfl
  · unfold atI; rw [List.getD_eq_getElem?_getD, List.getElem?_replicate, if_pos hv]; rfl
theorem relax_sound {Z : List ArcT} {c : ArcT → Int} {s : Nat} {d : List Int} {a : ArcT} (ha : a ∈ Z) (hfr : frN a < d.length) (hto : toN a < d.length) (hc : 0 ≤ c a) (h : SoundD Z c s d) : SoundD Z c s (relax c d a) := by
  unfold relax
  split
  · next hb =>
    intro v hv
    rw [List.length_set] at hv
    rw [atI_set hto]
    split
    · next e =>
      subst e
      right
      rcases h (frN a) hfr with h1 | ⟨h1, h2⟩
      · have := hb.1; omega
      · exact ⟨by omega, reach_step h2 ha⟩
    · exact h v hv
  · exact h
/-- What is told becomes no worse. -/
theorem relax_less {c : ArcT → Int} {d : List Int} {a : ArcT} (hto : toN a < d.length) (hc : 0 ≤ c a) (v : Nat) (h : 0 ≤ atI d v) : 0 ≤ atI (relax c d a) v ∧ atI (relax c d a) v ≤ atI d v := by
  unfold relax
  split
  · next hb =>
    rw [atI_set hto]
    split
    · next e => subst e; have := hb.1; have := hb.2; omega
    · exact ⟨h, Int.le_refl _⟩
  · exact ⟨h, Int.le_refl _⟩
theorem relax_does {c : ArcT → Int} {d : List Int} {a : ArcT} (hto : toN a < d.length) (hc : 0 ≤ c a) (h : 0 ≤ atI d (frN a)) : 0 ≤ atI (relax c d a) (toN a) ∧ atI (relax c d a) (toN a) ≤ atI d (frN a) + c a := by
  unfold relax
  split
  · next hb => rw [atI_set hto, if_pos rfl]; omega
  · next hb => unfold better at hb; omega
theorem relaxAll_props {Z : List ArcT} {c : ArcT → Int} {s : Nat} : ∀ (Y : List ArcT) (d : List Int), (∀ a ∈ Y, a ∈ Z ∧ frN a < d.length ∧ toN a < d.length ∧ 0 ≤ c a) → SoundD Z c s d →
    SoundD Z c s (relaxAll c Y d) ∧ (∀ v, 0 ≤ atI d v → 0 ≤ atI (relaxAll c Y d) v ∧ atI (relaxAll c Y d) v ≤ atI d v) ∧ (∀ a ∈ Y, 0 ≤ atI d (frN a) → 0 ≤ atI (relaxAll c Y d) (toN a) ∧ atI (relaxAll c Y d) (toN a) ≤ atI d (frN a) + c a)
  | [], d, _, h => ⟨h, fun v hv => ⟨hv, Int.le_refl _⟩, fun a ha => by cases ha⟩
  | b :: Y, d, hY, h => by
    obtain ⟨b1, b2, b3, b4⟩ := hY b (by simp)
    obtain ⟨i1, i2, i3⟩ := relaxAll_props Y (relax c d b) (fun a ha => by rw [relax_len]; exact hY a (by simp [ha])) (relax_sound b1 b2 b3 b4 h)
    have e : relaxAll c (b :: Y) d = relaxAll c Y (relax c d b) := rfl
    rw [e]
    refine ⟨i1, fun v hv => ?_, fun a ha hfa => ?_⟩
    · have h1 := relax_less b3 b4 v hv
      have h2 := i2 v h1.1
      exact ⟨h2.1, by omega⟩
    · rcases List.mem_cons.1 ha with rfl | ha
      · have h1 := relax_does b3 b4 hfa
        have h2 := i2 _ h1.1
        exact ⟨h2.1, by omega⟩
      · have h1 := relax_less b3 b4 (frN a) hfa
        have h2 := i3 a ha h1.1
        exact ⟨h2.1, by omega⟩
theorem chain_last {s v : Nat} {p : List ArcT} (h : Chain s p v) (hp : p ≠ []) : ∃ q a, p = q ++ [a] ∧ Chain s q (frN a) ∧ toN a = v := by
  have e := (List.dropLast_concat_getLast hp).symm
  rw [e] at h
  obtain ⟨m, h1, h2⟩ := chain_app.1 h
  exact ⟨_, _, e, by have := h2.1; subst this; exact h1, h2.2⟩
theorem fastK_props {Z : List ArcT} {c : ArcT → Int} {N s : Nat} (hs : s < N) (hZ : ∀ a ∈ Z, frN a < N ∧ toN a < N ∧ 0 ≤ c a) (k : Nat) : SoundD Z c s (fastK c Z N s k) ∧ SeenD Z c s k (fastK c Z N s k) := by
  induction k with
  | zero =>
    constructor
    · intro v hv
      rw [fastK_len] at hv
      show atI (startD N s) v = -1 ∨ _
      rw [show fastK c Z N s 0 = startD N s from rfl, startD_at hs hv]
      split
      · next e => subst e; exact .inr ⟨Int.le_refl _, reach_self Z c v⟩
      · exact .inl rfl
    · intro p v hp h hl
      have : p = [] := List.eq_nil_of_length_eq_zero (by omega)
      subst this
      simp only [Chain] at h; subst h
      rw [show fastK c Z N s 0 = startD N s from rfl, startD_at hs hs, if_pos rfl]
      simp [costP]
  | succ k ih =>
    have hl := fastK_len c Z N s k
    obtain ⟨r1, r2, r3⟩ := relaxAll_props (Z := Z) (c := c) (s := s) Z (fastK c Z N s k) (fun a ha => by rw [hl]; exact ⟨ha, hZ a ha⟩) ih.1
    refine ⟨r1, fun p v hp h hpl => ?_⟩
    show 0 ≤ atI (relaxAll c Z (fastK c Z N s k)) v ∧ atI (relaxAll c Z (fastK c Z N s k)) v ≤ _
    by_cases hlen : p.length ≤ k
    · have h1 := ih.2 p v hp h hlen
      have h2 := r2 v h1.1
      exact ⟨h2.1, by omega⟩
    · obtain ⟨q, a, rfl, h1, h2⟩ := chain_last h (by rintro rfl; simp at hlen)
      have h3 := ih.2 q (frN a) (fun x hx => hp x (by simp [hx])) h1 (by simp at hpl; omega)
      have h4 := r3 a (hp a (by simp)) h3.1
      subst h2
      refine ⟨h4.1, ?_⟩
      rw [cost_app]
      have : costP c [a] = c a := by simp [costP]
      omega
/-- The document's least times. -/
theorem fast_isDist {Z : List ArcT} {c : ArcT → Int} {N s : Nat} (hs : s < N) (hZ : ∀ a ∈ Z, frN a < N ∧ toN a < N ∧ 0 ≤ c a) : IsDist Z c s N (fastK c Z N s N) :=
  isDist_of (fastK_len c Z N s N) hs (fun a ha => (hZ a ha).2.1) (fun a ha => (hZ a ha).2.2) (fastK_props hs hZ N).1 (fastK_props hs hZ N).2

/-! Level by level (the document's Hops) -/
def one (_ : ArcT) : Int := 1
theorem cost_one (p : List ArcT) : costP one p = (p.length : Int) := by
  induction p with
  | nil => rfl
  | cons a r ih => simp only [costP, List.map_cons, List.sum_cons] at ih ⊢; rw [ih, List.length_cons]; simp only [one]; omega
def hopStep (k : Nat) (d : List Int) (a : ArcT) : List Int := if atI d (frN a) = (k : Int) ∧ atI d (toN a) < 0 then d.set (toN a) ((k : Int) + 1) else d
def hopAll (k : Nat) (Z : List ArcT) (d : List Int) : List Int := Z.foldl (hopStep k) d
def hopK (Z : List ArcT) (N s : Nat) : Nat → List Int
  | 0 => startD N s
  | k + 1 => hopAll k Z (hopK Z N s k)
theorem hopStep_len (k : Nat) (d : List Int) (a : ArcT) : (hopStep k d a).length = d.length := by unfold hopStep; split <;> simp
theorem hopAll_len (k : Nat) (Z : List ArcT) (d : List Int) : (hopAll k Z d).length = d.length := by
  unfold hopAll
  induction Z generalizing d with
  | nil => rfl
  | cons a r ih => rw [List.foldl_cons, ih, hopStep_len]
theorem hopK_len (Z : List ArcT) (N s k : Nat) : (hopK Z N s k).length = N := by
  induction k with
  | zero => exact startD_len N s
  | succ k ih => unfold hopK; rw [hopAll_len, ih]
theorem hopAll_props {Z : List ArcT} {s k : Nat} : ∀ (Y : List ArcT) (d : List Int), (∀ a ∈ Y, a ∈ Z ∧ frN a < d.length ∧ toN a < d.length) → SoundD Z one s d → (∀ v, v < d.length → atI d v ≤ (k : Int) + 1) →
    SoundD Z one s (hopAll k Y d) ∧ (∀ v, v < d.length → atI (hopAll k Y d) v ≤ (k : Int) + 1) ∧ (∀ v, 0 ≤ atI d v → atI (hopAll k Y d) v = atI d v) ∧ (∀ a ∈ Y, atI d (frN a) = (k : Int) → 0 ≤ atI (hopAll k Y d) (toN a))
  | [], d, _, h, hb => ⟨h, hb, fun v hv => rfl, fun a ha => by cases ha⟩
  | b :: Y, d, hY, h, hb => by
    obtain ⟨b1, b2, b3⟩ := hY b (by simp)
    have s1 : SoundD Z one s (hopStep k d b) := by
      unfold hopStep
      split
      · next hc =>
        intro v hv
        rw [List.length_set] at hv
        rw [atI_set b3]
        split
        · next e =>
          subst e
          right
          rcases h (frN b) b2 with h1 | ⟨h1, h2⟩
          · have := hc.1; omega
          · rw [hc.1] at h2; exact ⟨by omega, reach_step h2 b1⟩
        · exact h v hv
      · exact h
    have s2 : ∀ v, v < (hopStep k d b).length → atI (hopStep k d b) v ≤ (k : Int) + 1 := by
      intro v hv
      rw [hopStep_len] at hv
      unfold hopStep
      split
      · rw [atI_set b3]; split
        · exact Int.le_refl _
        · exact hb v hv
      · exact hb v hv
    have s3 : ∀ v, 0 ≤ atI d v → atI (hopStep k d b) v = atI d v := by
      intro v hv
      unfold hopStep
      split
      · next hc => rw [atI_set b3, if_neg]; rintro rfl; omega
      · rfl
    have s4 : atI d (frN b) = (k : Int) → 0 ≤ atI (hopStep k d b) (toN b) := by
      intro he
      unfold hopStep
      split
      · rw [atI_set b3, if_pos rfl]; omega
      · next hc => omega
    obtain ⟨i1, i2, i3, i4⟩ := hopAll_props Y (hopStep k d b) (fun a ha => by rw [hopStep_len]; exact hY a (by simp [ha])) s1 s2
    have e : hopAll k (b :: Y) d = hopAll k Y (hopStep k d b) := rfl
    rw [e]
    refine ⟨i1, fun v hv => i2 v (by rw [hopStep_len]; exact hv), fun v hv => ?_, fun a ha hfa => ?_⟩
    · have h1 := s3 v hv
      rw [i3 v (by omega), h1]
    · rcases List.mem_cons.1 ha with rfl | ha
      · have h1 := s4 hfa
        rw [i3 _ h1]; exact h1
      · have h1 := s3 (frN a) (by omega)
        exact i4 a ha (by omega)
theorem hopK_props {Z : List ArcT} {N s : Nat} (hs : s < N) (hZ : ∀ a ∈ Z, frN a < N ∧ toN a < N) (k : Nat) : SoundD Z one s (hopK Z N s k) ∧ SeenD Z one s k (hopK Z N s k) ∧ ∀ v, v < N → atI (hopK Z N s k) v ≤ (k : Int) := by
  induction k with
  | zero =>
    refine ⟨?_, ?_, ?_⟩
    · intro v hv
      rw [hopK_len] at hv
      show atI (startD N s) v = -1 ∨ _
      rw [show hopK Z N s 0 = startD N s from rfl, startD_at hs hv]
      split
      · next e => subst e; exact .inr ⟨Int.le_refl _, reach_self Z one v⟩
      · exact .inl rfl
    · intro p v hp h hl
      have : p = [] := List.eq_nil_of_length_eq_zero (by omega)
      subst this
      simp only [Chain] at h; subst h
      rw [show hopK Z N s 0 = startD N s from rfl, startD_at hs hs, if_pos rfl]
      simp [costP]
    · intro v hv
      rw [show hopK Z N s 0 = startD N s from rfl, startD_at hs hv]
      split <;> simp
  | succ k ih =>
    have hl := hopK_len Z N s k
    obtain ⟨r1, r2, r3, r4⟩ := hopAll_props (Z := Z) (s := s) (k := k) Z (hopK Z N s k) (fun a ha => by rw [hl]; exact ⟨ha, hZ a ha⟩) ih.1 (fun v hv => by have := ih.2.2 v (by omega); omega)
    refine ⟨r1, fun p v hp h hpl => ?_, fun v hv => by have := r2 v (by omega); push_cast; exact this⟩
    show 0 ≤ atI (hopAll k Z (hopK Z N s k)) v ∧ atI (hopAll k Z (hopK Z N s k)) v ≤ _
    by_cases hlen : p.length ≤ k
    · have h1 := ih.2.1 p v hp h hlen
      rw [r3 v h1.1]; exact h1
    · obtain ⟨q, a, rfl, h1, h2⟩ := chain_last h (by rintro rfl; simp at hlen)
      have hql : q.length = k := by simp at hpl hlen; omega
      have h3 := ih.2.1 q (frN a) (fun x hx => hp x (by simp [hx])) h1 (by omega)
      subst h2
      have hto := (hZ a (hp a (by simp))).2
      have hpos : 0 ≤ atI (hopAll k Z (hopK Z N s k)) (toN a) := by
        by_cases he : atI (hopK Z N s k) (frN a) = (k : Int)
        · exact r4 a (hp a (by simp)) he
        · rw [cost_one, hql] at h3
          rcases ih.1 (frN a) (by rw [hl]; exact (hZ a (hp a (by simp))).1) with h5 | ⟨h5, p', h6, h7, h8⟩
          · omega
          · rw [cost_one] at h8
            have h9 := ih.2.1 (p' ++ [a]) (toN a) (by
              intro x hx
              rcases List.mem_append.1 hx with hx | hx
              · exact h6 x hx
              · rw [List.mem_singleton] at hx; subst hx; exact hp _ (by simp)) (chain_snoc h7 rfl) (by simp; omega)
            rw [r3 _ h9.1]; exact h9.1
      have hup := r2 (toN a) (by omega)
      refine ⟨hpos, ?_⟩
      rw [cost_one, List.length_append, hql]
      simp only [List.length_singleton]
      omega
theorem hop_isDist {Z : List ArcT} {N s : Nat} (hs : s < N) (hZ : ∀ a ∈ Z, frN a < N ∧ toN a < N) : IsDist Z one s N (hopK Z N s N) :=
  isDist_of (hopK_len Z N s N) hs (fun a ha => (hZ a ha).2) (fun a ha => by simp [one]) (hopK_props hs hZ N).1 (hopK_props hs hZ N).2.1

/-! The order of the nodes -/
/-- Is v not taken, and are all nodes taken from which arcs lead to it? -/
def freeN (Z : List ArcT) (out : List Nat) (v : Nat) : Bool := !out.contains v && Z.all fun a => !(toN a == v) || out.contains (frN a)
def nextN (Z : List ArcT) (N : Nat) (out : List Nat) : Option Nat := (List.range N).find? (freeN Z out)
def orderK (Z : List ArcT) (N : Nat) : Nat → Option (List Nat)
  | 0 => some []
  | k + 1 => match orderK Z N k with
    | none => none
    | some out => match nextN Z N out with
      | none => none
      | some v => some (out ++ [v])
theorem freeN_iff {Z : List ArcT} {out : List Nat} {v : Nat} : freeN Z out v = true ↔ v ∉ out ∧ ∀ a ∈ Z, toN a = v → frN a ∈ out := by
  unfold freeN
  simp only [Bool.and_eq_true, Bool.not_eq_true', List.all_eq_true, Bool.or_eq_true]
  constructor
  · rintro ⟨h1, h2⟩
    refine ⟨by simpa using h1, fun a ha he => ?_⟩
    rcases h2 a ha with h3 | h3
    · simp [he] at h3
    · simpa using h3
  · rintro ⟨h1, h2⟩
    refine ⟨by simpa using h1, fun a ha => ?_⟩
    by_cases he : toN a = v
    · right; simpa using h2 a ha he
    · left; simpa using he
theorem nextN_some {Z : List ArcT} {N : Nat} {out : List Nat} {v : Nat} (h : nextN Z N out = some v) : v < N ∧ freeN Z out v = true ∧ ∀ u, u < v → freeN Z out u = false := by
  unfold nextN at h
  rw [List.find?_range_eq_some] at h
  obtain ⟨h1, h2, h3⟩ := h
  exact ⟨by simpa using h2, h1, fun u hu => by simpa using h3 u hu⟩
theorem nextN_none {Z : List ArcT} {N : Nat} {out : List Nat} (h : nextN Z N out = none) : ∀ u, u < N → freeN Z out u = false := by
  unfold nextN at h
  rw [List.find?_eq_none] at h
  intro u hu
  have := h u (by simpa using hu)
  simpa using this

theorem orderK_props {Z : List ArcT} {N : Nat} : ∀ (k : Nat) (l : List Nat), orderK Z N k = some l → l.length = k ∧ l.Nodup ∧ (∀ x ∈ l, x < N) ∧ ∀ i v, l[i]? = some v → ∀ a ∈ Z, toN a = v → frN a ∈ l.take i
  | 0, l, h => by
    cases h
    exact ⟨rfl, List.nodup_nil, by simp, by simp⟩
  | k + 1, l, h => by
    unfold orderK at h
    split at h
    · cases h
    · next out ho =>
      split at h
      · cases h
      · next v hv =>
        cases h
        obtain ⟨h1, h2, h3, h4⟩ := orderK_props k out ho
        obtain ⟨h5, h6, h7⟩ := nextN_some hv
        obtain ⟨h8, h9⟩ := freeN_iff.1 h6
        refine ⟨by simp [h1], ?_, ?_, ?_⟩
        · rw [List.nodup_append]
          refine ⟨h2, by simp, ?_⟩
          intro a ha b hb
          rw [List.mem_singleton] at hb
          subst hb
          rintro rfl
          exact h8 ha
        · intro x hx
          rcases List.mem_append.1 hx with hx | hx
          · exact h3 x hx
          · rw [List.mem_singleton] at hx; subst hx; exact h5
        · intro i u hu a ha he
          by_cases hi : i < out.length
          · rw [List.getElem?_append_left hi] at hu
            have := h4 i u hu a ha he
            rw [List.take_append_of_le_length (by omega)]
            exact this
          · have hi2 : i < (out ++ [v]).length := (List.getElem?_eq_some_iff.1 hu).1
            have hi3 : i = out.length := by simp at hi2; omega
            subst hi3
            simp at hu
            subst hu
            rw [List.take_left]
            exact h9 a ha he
/-- All nodes stand in an order. -/
theorem all_in {N : Nat} {l : List Nat} (hl : l.length = N) (hn : l.Nodup) (hb : ∀ x ∈ l, x < N) (v : Nat) (hv : v < N) : v ∈ l := by
  refine Classical.byContradiction fun h => ?_
  refine pigeon N (v :: l) ?_ (by simp; omega) (List.nodup_cons.2 ⟨h, hn⟩)
  intro x hx
  rcases List.mem_cons.1 hx with rfl | hx
  · exact hv
  · exact hb x hx
/-! Which arcs leave, and come to, a node -/
def places (f : ArcT → Nat) (Z : List ArcT) (v : Nat) : List Nat := (List.range Z.length).filter fun i => match Z[i]? with | some a => f a == v | none => false
theorem places_mem {f : ArcT → Nat} {Z : List ArcT} {v i : Nat} : i ∈ places f Z v ↔ ∃ a, Z[i]? = some a ∧ f a = v := by
  unfold places
  rw [List.mem_filter, List.mem_range]
  constructor
  · rintro ⟨h1, h2⟩
    rw [List.getElem?_eq_getElem h1] at h2 ⊢
    exact ⟨_, rfl, by simpa using h2⟩
  · rintro ⟨a, h1, h2⟩
    refine ⟨(List.getElem?_eq_some_iff.1 h1).1, ?_⟩
    rw [h1]; simpa using h2
theorem places_snoc (f : ArcT → Nat) (Z : List ArcT) (a : ArcT) (v : Nat) : places f (Z ++ [a]) v = places f Z v ++ if f a = v then [Z.length] else [] := by
  unfold places
  rw [List.length_append, List.length_singleton, List.range_succ, List.filter_append]
  congr 1
  · apply List.filter_congr
    intro i hi
    rw [List.mem_range] at hi
    rw [List.getElem?_append_left hi]
  · by_cases h : f a = v
    · simp [h]
    · simp [h]
theorem places_len (f : ArcT → Nat) (Z : List ArcT) (v : Nat) : (places f Z v).length ≤ Z.length := by
  have := List.length_filter_le (fun i => match Z[i]? with | some a => f a == v | none => false) (List.range Z.length)
  rw [List.length_range] at this
  exact this

/-! What the statements ask of least costs and of orders -/
theorem isDist_step {Z : List ArcT} {c : ArcT → Int} {s N : Nat} {d : List Int} (h : IsDist Z c s N d) {a : ArcT} (ha : a ∈ Z) (hf : frN a < N) (ht : toN a < N) (h0 : 0 ≤ atI d (frN a)) : 0 ≤ atI d (toN a) ∧ atI d (toN a) ≤ atI d (frN a) + c a := by
  rcases h.at_ _ hf with ⟨h1, _⟩ | ⟨h1, h2, h3⟩
  · omega
  · have h4 := reach_step h2 ha
    rcases h.at_ _ ht with ⟨h5, h6⟩ | ⟨h5, h6, h7⟩
    · exact absurd h4 (h6 _)
    · exact ⟨h5, h7 _ h4⟩
theorem isDist_self {Z : List ArcT} {c : ArcT → Int} {s N : Nat} {d : List Int} (h : IsDist Z c s N d) (hs : s < N) : atI d s = 0 := by
  rcases h.at_ s hs with ⟨h1, h2⟩ | ⟨h1, h2, h3⟩
  · exact absurd (reach_self Z c s) (h2 _)
  · exact Int.le_antisymm (h3 _ (reach_self Z c s)) h1
theorem isDist_pred {Z : List ArcT} {c : ArcT → Int} {s N : Nat} {d : List Int} (h : IsDist Z c s N d) (hZ : ∀ a ∈ Z, frN a < N ∧ toN a < N) {v : Nat} (hv : v < N) (hne : v ≠ s) (h0 : 0 ≤ atI d v) : ∃ a ∈ Z, toN a = v ∧ 0 ≤ atI d (frN a) ∧ atI d v = atI d (frN a) + c a := by
  rcases h.at_ v hv with ⟨h1, _⟩ | ⟨h1, ⟨p, p1, p2, p3⟩, h3⟩
  · omega
  · have hp : p ≠ [] := by rintro rfl; exact hne p2.symm
    obtain ⟨q, a, rfl, q1, q2⟩ := chain_last p2 hp
    have ha := p1 a (by simp)
    have hq : Reach Z c s (frN a) (costP c q) := ⟨q, fun x hx => p1 x (by simp [hx]), q1, rfl⟩
    rw [cost_app] at p3
    have e1 : costP c [a] = c a := by simp [costP]
    subst q2
    rcases h.at_ _ (hZ a ha).1 with ⟨h4, h5⟩ | ⟨h4, h5, h6⟩
    · exact absurd hq (h5 _)
    · refine ⟨a, ha, rfl, h4, ?_⟩
      have h7 := h6 _ hq
      have h8 := (isDist_step h ha (hZ a ha).1 (hZ a ha).2 h4).2
      omega
theorem isDist_both {Z : List ArcT} {c e : ArcT → Int} {s N : Nat} {d t : List Int} (h : IsDist Z c s N d) (k : IsDist Z e s N t) {v : Nat} (hv : v < N) : 0 ≤ atI d v ↔ 0 ≤ atI t v := by
  have one : ∀ (c e : ArcT → Int) (d t : List Int), IsDist Z c s N d → IsDist Z e s N t → 0 ≤ atI d v → 0 ≤ atI t v := by
    intro c e d t h k h0
    rcases h.at_ v hv with ⟨h1, _⟩ | ⟨h1, ⟨p, p1, p2, p3⟩, _⟩
    · omega
    · rcases k.at_ v hv with ⟨k1, k2⟩ | ⟨k1, _⟩
      · exact absurd ⟨p, p1, p2, rfl⟩ (k2 (costP e p))
      · exact k1
  exact ⟨one c e d t h k, one e c t d k h⟩
theorem isDist_neg {Z : List ArcT} {c : ArcT → Int} {s N : Nat} {d : List Int} (h : IsDist Z c s N d) {v : Nat} (hv : v < N) (h0 : atI d v < 0) : atI d v = -1 := by
  rcases h.at_ v hv with ⟨h1, _⟩ | ⟨h1, _⟩
  · exact h1
  · omega
/-- Where a node stands, from 1 on; 0: it does not. -/
def posL (l : List Nat) (x : Nat) : Nat := if x ∈ l then l.idxOf x + 1 else 0
theorem posL_take {l : List Nat} (hn : l.Nodup) {i : Nat} (hi : i < l.length) (x : Nat) : posL (l.take (i + 1)) x = if x = l[i] then i + 1 else posL (l.take i) x := by
  have e : l.take (i + 1) = l.take i ++ [l[i]] := List.take_succ_eq_append_getElem hi
  have hnot : l[i] ∉ l.take i := by
    have h2 := hn.sublist (List.take_sublist (i + 1) l)
    rw [e, List.nodup_append] at h2
    intro hm
    exact h2.2.2 _ hm _ (by simp) rfl
  have hlen : (l.take i).length = i := by rw [List.length_take]; omega
  rw [e]
  clear e
  generalize l.take i = T at *
  generalize l[i] = y at *
  unfold posL
  by_cases hx : x = y
  · subst hx
    rw [if_pos (by simp), if_pos rfl, List.idxOf_append, if_neg hnot, hlen]
    simp
  · rw [if_neg hx]
    by_cases hm : x ∈ T
    · rw [if_pos (by simp [hm]), if_pos hm, List.idxOf_append, if_pos hm]
    · rw [if_neg (by simp [hm, hx]), if_neg hm]
theorem posL_not {l : List Nat} {x : Nat} (h : x ∉ l) : posL l x = 0 := by unfold posL; rw [if_neg h]
/-- In an order arcs go forward. -/
theorem order_forward {Z : List ArcT} {N : Nat} {l : List Nat} (h : orderK Z N N = some l) {a : ArcT} (ha : a ∈ Z) (ht : toN a < N) : posL l (frN a) < posL l (toN a) := by
  obtain ⟨h1, h2, h3, h4⟩ := orderK_props N l h
  have hm := all_in h1 h2 h3 (toN a) ht
  have hi := List.idxOf_lt_length_of_mem hm
  have hv : l[l.idxOf (toN a)]? = some (toN a) := by rw [List.getElem?_eq_getElem hi]; simp
  have hf := h4 _ _ hv a ha rfl
  have hfl : frN a ∈ l := List.mem_of_mem_take hf
  unfold posL
  rw [if_pos hfl, if_pos hm]
  have : l.idxOf (frN a) < l.idxOf (toN a) := by
    have e : l = l.take (l.idxOf (toN a)) ++ l.drop (l.idxOf (toN a)) := (List.take_append_drop _ _).symm
    have h5 : l.idxOf (frN a) = (l.take (l.idxOf (toN a))).idxOf (frN a) := by
      conv => lhs; rw [e]
      rw [List.idxOf_append, if_pos hf]
    rw [h5]
    have h6 := List.idxOf_lt_length_of_mem hf
    rw [List.length_take] at h6
    omega
  omega
end Go.Proofs.Ytiefphkfddecbaa
