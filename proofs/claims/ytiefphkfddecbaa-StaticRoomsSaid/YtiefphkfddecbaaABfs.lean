/- What stands while nodes are found one behind the other (queue), and while the nearest is taken first (pile): plain lists. -/
import Derived.Test.YtiefphkfddecbaaASpec
import Derived.Test.YtiefphkfddecbaaPHeap
namespace Go.Proofs.Ytiefphkfddecbaa
set_option linter.unusedVariables false

theorem atI_get {d : List Int} {v : Nat} (h : v < d.length) : d[v]? = some (atI d v) := by
  unfold atI; rw [List.getD_eq_getElem?_getD, List.getElem?_eq_getElem h]; rfl
theorem nodup_le {N : Nat} {l : List Nat} (h : l.Nodup) (hb : ∀ x ∈ l, x < N) : l.length ≤ N := by
  refine Classical.byContradiction fun hn => pigeon N l hb (by omega) h
structure BI (Z : List ArcT) (N s : Nat) (d : List Int) (Q D : List Nat) (K : Int) (T : List Nat) : Prop where
  len : d.length = N
  zero : atI d s = 0
  sound : SoundD Z one s d
  qn : ∀ v ∈ Q, v < N ∧ 0 ≤ atI d v ∧ K ≤ atI d v ∧ v ∉ D
  qd : Q.Nodup
  qs : Q.Pairwise (fun a b => atI d a ≤ atI d b)
  up : ∀ v, v < N → atI d v ≤ K + 1
  dn : D.Nodup
  dl : ∀ v ∈ D, v < N ∧ 0 ≤ atI d v
  all : ∀ v, v < N → 0 ≤ atI d v → v ∈ D ∨ v ∈ Q
  cl : ∀ (p : Nat) (a : ArcT), Z[p]? = some a → frN a ∈ D → p ∈ T ∨ (0 ≤ atI d (toN a) ∧ atI d (toN a) ≤ atI d (frN a) + 1)
  kb : 0 ≤ K ∧ K ≤ D.length
section
variable {Z : List ArcT} {N s : Nat} {d : List Int} {Q D T : List Nat} {K : Int}
theorem startD_sound (c : ArcT → Int) (hs : s < N) : SoundD Z c s (startD N s) := by
  intro v hv
  rw [startD_len] at hv
  rw [startD_at hs hv]
  split
  · next e => subst e; exact .inr ⟨Int.le_refl _, reach_self Z c v⟩
  · exact .inl rfl
theorem BI.start (hs : s < N) : BI Z N s (startD N s) [s] [] 0 [] := by
  have h0 : atI (startD N s) s = 0 := by rw [startD_at hs hs, if_pos rfl]
  refine ⟨startD_len N s, h0, startD_sound _ hs, ?_, by simp, by simp, ?_, by simp, by simp, ?_, ?_, by simp⟩
  · intro v hv
    rw [List.mem_singleton] at hv
    subst hv
    exact ⟨hs, by omega, by omega, by simp⟩
  · intro v hv
    rw [startD_at hs hv]
    split <;> omega
  · intro v hv h
    rw [startD_at hs hv] at h
    right
    split at h
    · next e => simp [e]
    · omega
  · intro p a _ h
    cases h
theorem BI.take {u : Nat} (h : BI Z N s d (u :: Q) D K []) : BI Z N s d Q (u :: D) (atI d u) (places frN Z u) ∧ u < N ∧ D.length < N := by
  obtain ⟨hu1, hu2, hu3, hu4⟩ := h.qn u (by simp)
  have hup := h.up u hu1
  have hq := List.nodup_cons.1 h.qd
  have hs := List.pairwise_cons.1 h.qs
  have hdn : (u :: D).Nodup := List.nodup_cons.2 ⟨hu4, h.dn⟩
  have hdl : ∀ v ∈ u :: D, v < N ∧ 0 ≤ atI d v := by
    intro v hv
    rcases List.mem_cons.1 hv with rfl | hv
    · exact ⟨hu1, hu2⟩
    · exact h.dl v hv
  refine ⟨⟨h.len, h.zero, h.sound, ?_, hq.2, hs.2, ?_, hdn, hdl, ?_, ?_, ?_⟩, hu1, ?_⟩
  · intro v hv
    obtain ⟨h1, h2, h3, h4⟩ := h.qn v (by simp [hv])
    refine ⟨h1, h2, hs.1 v hv, ?_⟩
    intro hm
    rcases List.mem_cons.1 hm with rfl | hm
    · exact hq.1 hv
    · exact h4 hm
  · intro v hv
    have := h.up v hv
    omega
  · intro v hv h0
    rcases h.all v hv h0 with h1 | h1
    · exact .inl (by simp [h1])
    · rcases List.mem_cons.1 h1 with rfl | h1
      · exact .inl (by simp)
      · exact .inr h1
  · intro p a hp hf
    rcases List.mem_cons.1 hf with hf | hf
    · exact .inl (places_mem.2 ⟨a, hp, hf⟩)
    · rcases h.cl p a hp hf with h1 | h1
      · cases h1
      · exact .inr h1
  · have := h.kb
    simp only [List.length_cons]
    omega
  · have := nodup_le hdn (fun x hx => (hdl x hx).1)
    simp at this
    omega
theorem BI.skip {p : Nat} {a : ArcT} (h : BI Z N s d Q D K (p :: T)) (hp : Z[p]? = some a) (hK : atI d (frN a) = K) (ht : toN a < N) (h0 : 0 ≤ atI d (toN a)) : BI Z N s d Q D K T := by
  refine { h with cl := fun q b hq hf => ?_ }
  rcases h.cl q b hq hf with h1 | h1
  · rcases List.mem_cons.1 h1 with rfl | h1
    · rw [hp] at hq; cases hq
      exact .inr ⟨h0, by rw [hK]; exact h.up _ ht⟩
    · exact .inl h1
  · exact .inr h1
theorem BI.put {p : Nat} {a : ArcT} (h : BI Z N s d Q D K (p :: T)) (hp : Z[p]? = some a) (hK : atI d (frN a) = K) (hfd : frN a ∈ D) (ht : toN a < N) (h0 : atI d (toN a) = -1) :
    BI Z N s (d.set (toN a) (K + 1)) (Q ++ [toN a]) D K T ∧ atI (d.set (toN a) (K + 1)) (frN a) = K ∧ Q.length < N := by
  have ha : a ∈ Z := List.mem_of_getElem? hp
  have hset : ∀ v, atI (d.set (toN a) (K + 1)) v = if v = toN a then K + 1 else atI d v := fun v => atI_set (by rw [h.len]; exact ht)
  have hkeep : ∀ v, 0 ≤ atI d v → atI (d.set (toN a) (K + 1)) v = atI d v := by
    intro v hv
    rw [hset, if_neg]
    rintro rfl
    omega
  have hk := h.kb
  have hfr := h.dl _ hfd
  have hxQ : toN a ∉ Q := fun hm => by have := (h.qn _ hm).2.1; omega
  have hxD : toN a ∉ D := fun hm => by have := (h.dl _ hm).2; omega
  refine ⟨⟨by rw [List.length_set]; exact h.len, ?_, ?_, ?_, ?_, ?_, ?_, h.dn, ?_, ?_, ?_, h.kb⟩, ?_, ?_⟩
  · rw [hkeep s (by rw [h.zero]; omega)]; exact h.zero
  · intro v hv
    rw [List.length_set] at hv
    rw [hset]
    split
    · next e =>
      subst e
      right
      refine ⟨by omega, ?_⟩
      rcases h.sound (frN a) (by rw [h.len]; exact hfr.1) with h1 | ⟨h1, h2⟩
      · omega
      · rw [hK] at h2; exact reach_step h2 ha
    · exact h.sound v hv
  · intro v hv
    rcases List.mem_append.1 hv with hv | hv
    · obtain ⟨h1, h2, h3, h4⟩ := h.qn v hv
      rw [hkeep v h2]
      exact ⟨h1, h2, h3, h4⟩
    · rw [List.mem_singleton] at hv
      subst hv
      rw [hset, if_pos rfl]
      exact ⟨ht, by omega, by omega, hxD⟩
  · rw [List.nodup_append]
    refine ⟨h.qd, by simp, ?_⟩
    intro x hx y hy
    rw [List.mem_singleton] at hy
    subst hy
    rintro rfl
    exact hxQ hx
  · rw [List.pairwise_append]
    refine ⟨h.qs.imp_of_mem ?_, by simp, ?_⟩
    · intro x y hx hy hxy
      rw [hkeep x (h.qn x hx).2.1, hkeep y (h.qn y hy).2.1]; exact hxy
    · intro x hx y hy
      rw [List.mem_singleton] at hy
      subst hy
      rw [hkeep x (h.qn x hx).2.1, hset, if_pos rfl]
      exact h.up x (h.qn x hx).1
  · intro v hv
    rw [hset]
    split
    · omega
    · exact h.up v hv
  · intro v hv
    obtain ⟨h1, h2⟩ := h.dl v hv
    rw [hkeep v h2]
    exact ⟨h1, h2⟩
  · intro v hv h1
    rw [hset] at h1
    split at h1
    · next e => subst e; exact .inr (by simp)
    · rcases h.all v hv h1 with h2 | h2
      · exact .inl h2
      · exact .inr (by simp [h2])
  · intro q b hq hf
    rcases h.cl q b hq hf with h1 | h1
    · rcases List.mem_cons.1 h1 with rfl | h1
      · rw [hp] at hq; cases hq
        right
        rw [hset, if_pos rfl, hkeep _ hfr.2, hK]
        omega
      · exact .inl h1
    · right
      rw [hkeep _ h1.1, hkeep _ (h.dl _ hf).2]
      exact h1
  · rw [hkeep _ hfr.2]; exact hK
  · have := nodup_le (N := N) (l := toN a :: Q) (List.nodup_cons.2 ⟨hxQ, h.qd⟩) (fun x hx => by
      rcases List.mem_cons.1 hx with rfl | hx
      · exact ht
      · exact (h.qn x hx).1)
    simp at this
    omega
theorem BI.done (h : BI Z N s d [] D K []) (hs : s < N) (hZ : ∀ a ∈ Z, frN a < N ∧ toN a < N) : IsDist Z one s N d := by
  refine isDist_cert h.len hs (fun a ha => (hZ a ha).2) h.zero h.sound fun a ha h0 => ?_
  obtain ⟨p, hp⟩ := List.getElem?_of_mem ha
  rcases h.all _ (hZ a ha).1 h0 with h1 | h1
  · rcases h.cl p a hp h1 with h2 | h2
    · cases h2
    · exact h2
  · cases h1
end
/-! The nearest first -/
def tm (a : ArcT) : Int := a.2.2.2
structure DI (Z : List ArcT) (N s : Nat) (d : List Int) (L : List (Int × Int)) (D used : List Nat) (K : Int) (T : List Nat) : Prop where
  len : d.length = N
  zero : atI d s = 0
  sound : SoundD Z tm s d
  pr : ∀ x ∈ L, ∃ v : Nat, v < N ∧ x.2 = (v : Int) ∧ 0 ≤ atI d v ∧ atI d v ≤ x.1 ∧ K ≤ x.1 ∧ x.1 ≤ used.length * 1048576
  nd : L.Nodup
  dl : ∀ v ∈ D, v < N ∧ 0 ≤ atI d v ∧ atI d v ≤ K ∧ (atI d v, (v : Int)) ∉ L
  all : ∀ v, v < N → 0 ≤ atI d v → v ∈ D ∨ (atI d v, (v : Int)) ∈ L
  und : used.Nodup
  us : ∀ p ∈ used, ∃ a, Z[p]? = some a ∧ frN a ∈ D
  tn : T.Nodup ∧ ∀ p ∈ T, p ∉ used ∧ ∃ a, Z[p]? = some a ∧ frN a ∈ D
  cl : ∀ (p : Nat) (a : ArcT), Z[p]? = some a → frN a ∈ D → p ∈ T ∨ (p ∈ used ∧ 0 ≤ atI d (toN a) ∧ atI d (toN a) ≤ atI d (frN a) + tm a)
  cnt : L.length ≤ 1 + used.length
  bd : ∀ v, v < N → atI d v ≤ used.length * 1048576
  kb : 0 ≤ K ∧ K ≤ used.length * 1048576
section
variable {Z : List ArcT} {N s : Nat} {d : List Int} {L : List (Int × Int)} {D used T : List Nat} {K : Int}
theorem DI.start (hs : s < N) : DI Z N s (startD N s) [(0, (s : Int))] [] [] 0 [] := by
  have h0 : atI (startD N s) s = 0 := by rw [startD_at hs hs, if_pos rfl]
  refine ⟨startD_len N s, h0, startD_sound _ hs, ?_, by simp, by simp, ?_, by simp, by simp, by simp, ?_, by simp, ?_, by simp⟩
  · intro x hx
    rw [List.mem_singleton] at hx
    subst hx
    exact ⟨s, hs, rfl, by omega, by rw [h0]; exact Int.le_refl _, by simp, by simp⟩
  · intro v hv h
    rw [startD_at hs hv] at h
    right
    split at h
    · next e => subst e; rw [h0]; simp
    · omega
  · intro p a _ h
    cases h
  · intro v hv
    rw [startD_at hs hv]
    split <;> simp
theorem DI.stale {x : Int × Int} {u : Nat} (h : DI Z N s d (x :: L) D used K []) (hx : x.2 = (u : Int)) (hlt : atI d u < x.1) : DI Z N s d L D used K [] := by
  refine { h with pr := fun y hy => h.pr y (by simp [hy]), nd := (List.nodup_cons.1 h.nd).2, dl := fun v hv => ?_, all := fun v hv h0 => ?_, cnt := ?_ }
  · obtain ⟨h1, h2, h3, h4⟩ := h.dl v hv
    exact ⟨h1, h2, h3, fun hm => h4 (by simp [hm])⟩
  · rcases h.all v hv h0 with h1 | h1
    · exact .inl h1
    · rcases List.mem_cons.1 h1 with h1 | h1
      · exfalso
        subst h1
        simp only at hx hlt
        have : v = u := by omega
        subst this
        omega
      · exact .inr h1
  · have := h.cnt
    simp only [List.length_cons] at this
    omega
theorem DI.fresh {x : Int × Int} {u : Nat} (h : DI Z N s d (x :: L) D used K []) (hso : SortedP (x :: L)) (hx : x.2 = (u : Int)) (hge : x.1 ≤ atI d u) : DI Z N s d L (u :: D) used x.1 (places frN Z u) ∧ u < N ∧ atI d u = x.1 := by
  obtain ⟨v, hv1, hv2, hv3, hv4, hv5, hv6⟩ := h.pr x (by simp)
  have : v = u := by omega
  subst this
  have e : atI d v = x.1 := by omega
  have ex : x = (atI d v, (v : Int)) := Prod.ext (by simp [e]) (by simp [hx])
  have hmem : (atI d v, (v : Int)) ∈ x :: L := by rw [← ex]; simp
  have hvD : v ∉ D := fun hm => (h.dl v hm).2.2.2 hmem
  have hnd := List.nodup_cons.1 h.nd
  have hle : ∀ y ∈ L, x.1 ≤ y.1 := by
    intro y hy
    have := List.rel_of_pairwise_cons hso hy
    simp [ltP] at this
    omega
  have hkb := h.kb
  refine ⟨⟨h.len, h.zero, h.sound, ?_, hnd.2, ?_, ?_, h.und, ?_, ?_, ?_, ?_, h.bd, ?_⟩, hv1, e⟩
  · intro y hy
    obtain ⟨v', h1, h2, h3, h4, h5, h6⟩ := h.pr y (by simp [hy])
    exact ⟨v', h1, h2, h3, h4, hle y hy, h6⟩
  · intro v' hv'
    rcases List.mem_cons.1 hv' with rfl | hv'
    · exact ⟨hv1, hv3, by omega, by rw [← ex]; exact hnd.1⟩
    · obtain ⟨h1, h2, h3, h4⟩ := h.dl v' hv'
      exact ⟨h1, h2, by omega, fun hm => h4 (by simp [hm])⟩
  · intro v' hv' h0
    rcases h.all v' hv' h0 with h1 | h1
    · exact .inl (by simp [h1])
    · rcases List.mem_cons.1 h1 with h1 | h1
      · left
        rw [ex] at h1
        have := congrArg Prod.snd h1
        simp only at this
        have : v' = v := by omega
        simp [this]
      · exact .inr h1
  · intro p hp
    obtain ⟨a, h1, h2⟩ := h.us p hp
    exact ⟨a, h1, by simp [h2]⟩
  · refine ⟨List.Nodup.sublist List.filter_sublist List.nodup_range, fun p hp => ?_⟩
    obtain ⟨a, h1, h2⟩ := places_mem.1 hp
    refine ⟨fun hm => ?_, a, h1, by simp [h2]⟩
    obtain ⟨b, h3, h4⟩ := h.us p hm
    rw [h1] at h3; cases h3
    rw [h2] at h4
    exact hvD h4
  · intro p a hp hf
    rcases List.mem_cons.1 hf with hf | hf
    · exact .inl (places_mem.2 ⟨a, hp, hf⟩)
    · rcases h.cl p a hp hf with h1 | h1
      · cases h1
      · exact .inr h1
  · have := h.cnt
    simp only [List.length_cons] at this
    omega
  · exact ⟨by omega, hv6⟩
theorem DI.room {p : Nat} (h : DI Z N s d L D used K (p :: T)) : used.length + 1 ≤ Z.length := by
  have hn : (p :: used).Nodup := List.nodup_cons.2 ⟨(h.tn.2 p (by simp)).1, h.und⟩
  have := nodup_le (N := Z.length) hn (fun x hx => by
    rcases List.mem_cons.1 hx with rfl | hx
    · obtain ⟨_, a, h1, _⟩ := h.tn.2 x (by simp)
      exact (List.getElem?_eq_some_iff.1 h1).1
    · obtain ⟨a, h1, _⟩ := h.us x hx
      exact (List.getElem?_eq_some_iff.1 h1).1)
  simpa using this
theorem DI.skip {p : Nat} {a : ArcT} (h : DI Z N s d L D used K (p :: T)) (hp : Z[p]? = some a) (h0 : 0 ≤ atI d (toN a)) (h1 : atI d (toN a) ≤ atI d (frN a) + tm a) : DI Z N s d L D (used ++ [p]) K T := by
  obtain ⟨hpu, b, hb, hfd⟩ := h.tn.2 p (by simp)
  rw [hp] at hb; cases hb
  have htn := List.nodup_cons.1 h.tn.1
  have hl : (used ++ [p]).length = used.length + 1 := by simp
  have hkb := h.kb
  refine ⟨h.len, h.zero, h.sound, ?_, h.nd, h.dl, h.all, ?_, ?_, ?_, ?_, ?_, ?_, ?_⟩
  · intro x hx
    obtain ⟨v, g1, g2, g3, g4, g5, g6⟩ := h.pr x hx
    exact ⟨v, g1, g2, g3, g4, g5, by rw [hl]; omega⟩
  · rw [List.nodup_append]
    refine ⟨h.und, by simp, ?_⟩
    intro x hx y hy
    rw [List.mem_singleton] at hy
    subst hy
    rintro rfl
    exact hpu hx
  · intro q hq
    rcases List.mem_append.1 hq with hq | hq
    · exact h.us q hq
    · rw [List.mem_singleton] at hq; subst hq; exact ⟨a, hp, hfd⟩
  · refine ⟨htn.2, fun q hq => ?_⟩
    obtain ⟨g1, g2⟩ := h.tn.2 q (by simp [hq])
    refine ⟨fun hm => ?_, g2⟩
    rcases List.mem_append.1 hm with hm | hm
    · exact g1 hm
    · rw [List.mem_singleton] at hm; subst hm; exact htn.1 hq
  · intro q b hq hf
    rcases h.cl q b hq hf with g1 | ⟨g1, g2⟩
    · rcases List.mem_cons.1 g1 with rfl | g1
      · rw [hp] at hq; cases hq
        exact .inr ⟨by simp, h0, h1⟩
      · exact .inl g1
    · exact .inr ⟨by simp [g1], g2⟩
  · have := h.cnt; rw [hl]; omega
  · intro v hv
    have := h.bd v hv
    rw [hl]; omega
  · rw [hl]; omega
theorem DI.relax {p : Nat} {a : ArcT} (h : DI Z N s d L D used K (p :: T)) (hp : Z[p]? = some a) (hK : atI d (frN a) = K) (ht : toN a < N) (hc : 0 ≤ tm a ∧ tm a ≤ 1048576) (hb : atI d (toN a) = -1 ∨ K + tm a < atI d (toN a)) :
    DI Z N s (d.set (toN a) (K + tm a)) (insP (K + tm a, (toN a : Int)) L) D (used ++ [p]) K T ∧ atI (d.set (toN a) (K + tm a)) (frN a) = K ∧ L.length ≤ Z.length := by
  obtain ⟨hpu, b, hb', hfd⟩ := h.tn.2 p (by simp)
  rw [hp] at hb'; cases hb'
  have ha : a ∈ Z := List.mem_of_getElem? hp
  have hfr := h.dl _ hfd
  have hkb := h.kb
  have hl : (used ++ [p]).length = used.length + 1 := by simp
  have htn := List.nodup_cons.1 h.tn.1
  have hset : ∀ v, atI (d.set (toN a) (K + tm a)) v = if v = toN a then K + tm a else atI d v := fun v => atI_set (by rw [h.len]; exact ht)
  have hxD : toN a ∉ D := by
    intro hm
    have := h.dl _ hm
    omega
  have hD : ∀ v ∈ D, atI (d.set (toN a) (K + tm a)) v = atI d v := by
    intro v hv
    rw [hset, if_neg]
    rintro rfl
    exact hxD hv
  have hmem : ∀ y, y ∈ insP (K + tm a, (toN a : Int)) L ↔ y = (K + tm a, (toN a : Int)) ∨ y ∈ L := by
    intro y; rw [(insP_perm _ L).mem_iff, List.mem_cons]
  have hnew : (K + tm a, (toN a : Int)) ∉ L := by
    intro hm
    obtain ⟨v, g1, g2, g3, g4, _⟩ := h.pr _ hm
    simp only at g2 g4
    have : v = toN a := by omega
    subst this
    omega
  have hcnt := h.cnt
  have hroom := h.room
  refine ⟨⟨by rw [List.length_set]; exact h.len, ?_, ?_, ?_, ?_, ?_, ?_, ?_, ?_, ?_, ?_, ?_, ?_, ?_⟩, ?_, ?_⟩
  · rw [hset, if_neg]
    · exact h.zero
    · intro e; rw [← e] at hb; have := h.zero; omega
  · intro v hv
    rw [List.length_set] at hv
    rw [hset]
    split
    · next e =>
      subst e
      right
      refine ⟨by omega, ?_⟩
      rcases h.sound (frN a) (by rw [h.len]; exact hfr.1) with h1 | ⟨h1, h2⟩
      · omega
      · rw [hK] at h2; exact reach_step h2 ha
    · exact h.sound v hv
  · intro x hx
    rcases (hmem x).1 hx with rfl | hx
    · exact ⟨toN a, ht, rfl, by rw [hset, if_pos rfl]; omega, by rw [hset, if_pos rfl]; exact Int.le_refl _, by simp only; omega, by rw [hl]; simp only; omega⟩
    · obtain ⟨v, g1, g2, g3, g4, g5, g6⟩ := h.pr x hx
      refine ⟨v, g1, g2, ?_, ?_, g5, by rw [hl]; omega⟩
      · rw [hset]; split
        · omega
        · exact g3
      · rw [hset]; split
        · next e => subst e; omega
        · exact g4
  · exact ((insP_perm _ L).nodup_iff).2 (List.nodup_cons.2 ⟨hnew, h.nd⟩)
  · intro v hv
    obtain ⟨g1, g2, g3, g4⟩ := h.dl v hv
    rw [hD v hv]
    refine ⟨g1, g2, g3, fun hm => ?_⟩
    rcases (hmem _).1 hm with e | hm
    · have := congrArg Prod.snd e
      simp only at this
      have : v = toN a := by omega
      subst this
      exact hxD hv
    · exact g4 hm
  · intro v hv h0
    rw [hset] at h0 ⊢
    split
    · next e => subst e; exact .inr ((hmem _).2 (.inl rfl))
    · next e =>
      rw [if_neg e] at h0
      rcases h.all v hv h0 with g | g
      · exact .inl g
      · exact .inr ((hmem _).2 (.inr g))
  · rw [List.nodup_append]
    refine ⟨h.und, by simp, ?_⟩
    intro x hx y hy
    rw [List.mem_singleton] at hy
    subst hy
    rintro rfl
    exact hpu hx
  · intro q hq
    rcases List.mem_append.1 hq with hq | hq
    · exact h.us q hq
    · rw [List.mem_singleton] at hq; subst hq; exact ⟨a, hp, hfd⟩
  · refine ⟨htn.2, fun q hq => ?_⟩
    obtain ⟨g1, g2⟩ := h.tn.2 q (by simp [hq])
    refine ⟨fun hm => ?_, g2⟩
    rcases List.mem_append.1 hm with hm | hm
    · exact g1 hm
    · rw [List.mem_singleton] at hm; subst hm; exact htn.1 hq
  · intro q b hq hf
    rcases h.cl q b hq hf with g1 | ⟨g1, g2, g3⟩
    · rcases List.mem_cons.1 g1 with rfl | g1
      · rw [hp] at hq; cases hq
        refine .inr ⟨by simp, ?_⟩
        rw [hset, if_pos rfl, hD _ hf, hK]
        omega
      · exact .inl g1
    · refine .inr ⟨by simp [g1], ?_⟩
      rw [hD _ hf, hset]
      split
      · next e => rw [e] at g2 g3; omega
      · exact ⟨g2, g3⟩
  · rw [insP_length, hl]; omega
  · intro v hv
    rw [hset, hl]
    split
    · omega
    · have := h.bd v hv; omega
  · rw [hl]; omega
  · rw [hD _ hfd]; exact hK
  · omega
theorem DI.done (h : DI Z N s d [] D used K []) (hs : s < N) (hZ : ∀ a ∈ Z, frN a < N ∧ toN a < N) : IsDist Z tm s N d := by
  refine isDist_cert h.len hs (fun a ha => (hZ a ha).2) h.zero h.sound fun a ha h0 => ?_
  obtain ⟨p, hp⟩ := List.getElem?_of_mem ha
  rcases h.all _ (hZ a ha).1 h0 with h1 | h1
  · rcases h.cl p a hp h1 with h2 | ⟨_, h2⟩
    · cases h2
    · exact h2
  · cases h1
end
end Go.Proofs.Ytiefphkfddecbaa
