/- What stands while nodes are put in order: how many arcs are pending, which nodes are ready; plain lists. -/
import Derived.Test.YtiefphkfddecbaaABfs
namespace Go.Proofs.Ytiefphkfddecbaa
set_option linter.unusedVariables false

/-- Does the arc at this place come to v? -/
def toP (Z : List ArcT) (v p : Nat) : Bool := match Z[p]? with | some a => toN a == v | none => false
theorem toP_iff {Z : List ArcT} {v p : Nat} {a : ArcT} (h : Z[p]? = some a) : toP Z v p = true ↔ toN a = v := by unfold toP; rw [h]; simp
theorem toP_mem {Z : List ArcT} {v p : Nat} (h : toP Z v p = true) : ∃ a, Z[p]? = some a ∧ toN a = v := by
  unfold toP at h
  split at h
  · next a ha => exact ⟨a, ha, by simpa using h⟩
  · cases h
/-- How many of these places' arcs come to v. -/
def cntP (Z : List ArcT) (P : List Nat) (v : Nat) : Nat := P.countP (toP Z v)
theorem cntP_zero {Z : List ArcT} {P : List Nat} {v : Nat} : cntP Z P v = 0 ↔ ∀ p ∈ P, ∀ a, Z[p]? = some a → toN a ≠ v := by
  unfold cntP
  rw [List.countP_eq_zero]
  constructor
  · intro h p hp a ha e
    exact h p hp ((toP_iff ha).2 e)
  · intro h p hp ht
    obtain ⟨a, ha, e⟩ := toP_mem ht
    exact h p hp a ha e
theorem cntP_le (Z : List ArcT) (P : List Nat) (v : Nat) : cntP Z P v ≤ P.length := List.countP_le_length
theorem cntP_erase {Z : List ArcT} {P : List Nat} {p : Nat} {a : ArcT} (hp : p ∈ P) (ha : Z[p]? = some a) (v : Nat) : cntP Z P v = cntP Z (P.erase p) v + if toN a = v then 1 else 0 := by
  unfold cntP
  have h := (List.perm_cons_erase hp).countP_eq (toP Z v)
  rw [h, List.countP_cons]
  congr 1
  by_cases e : toN a = v
  · rw [if_pos ((toP_iff ha).2 e), if_pos e]
  · rw [if_neg (fun h => e ((toP_iff ha).1 h)), if_neg e]
theorem cntP_range_succ (Z : List ArcT) (k v : Nat) {a : ArcT} (ha : Z[k]? = some a) : cntP Z (List.range (k + 1)) v = cntP Z (List.range k) v + if toN a = v then 1 else 0 := by
  unfold cntP
  rw [List.range_succ, List.countP_append, List.countP_singleton]
  congr 1
  by_cases e : toN a = v
  · rw [if_pos ((toP_iff ha).2 e), if_pos e]
  · rw [if_neg (fun h => e ((toP_iff ha).1 h)), if_neg e]
def prN (v : Nat) : Int × Int := ((v : Int), (v : Int))
theorem prN_inj {u v : Nat} (h : prN u = prN v) : u = v := by have := congrArg Prod.fst h; simp only [prN] at this; omega
/-- l: the nodes that stand; P: the pending places; L: the pile; T: the places of the node that was taken last, still to be looked at. -/
structure OI (Z : List ArcT) (N : Nat) (pend : List Int) (P : List Nat) (L : List (Int × Int)) (l T : List Nat) : Prop where
  ord : orderK Z N l.length = some l
  len : pend.length = N
  pc : ∀ v, v < N → atI pend v = (cntP Z P v : Int)
  pn : P.Nodup
  tn : T.Nodup
  pm : ∀ p, p ∈ P ↔ ∃ a, Z[p]? = some a ∧ (frN a ∉ l ∨ p ∈ T)
  tl : ∀ p ∈ T, ∃ a, Z[p]? = some a ∧ frN a ∈ l
  ln : ∀ v ∈ l, cntP Z P v = 0
  lm : ∀ x, x ∈ L ↔ ∃ v, v < N ∧ x = prN v ∧ v ∉ l ∧ cntP Z P v = 0
  ld : L.Nodup
section
variable {Z : List ArcT} {N : Nat} {pend : List Int} {P : List Nat} {L : List (Int × Int)} {l T : List Nat}
theorem OI.start (hl : pend.length = N) (hp : ∀ v, v < N → atI pend v = (cntP Z (List.range Z.length) v : Int)) (hm : ∀ x, x ∈ L ↔ ∃ v, v < N ∧ x = prN v ∧ atI pend v = 0) (hd : L.Nodup) : OI Z N pend (List.range Z.length) L [] [] := by
  refine ⟨rfl, hl, hp, List.nodup_range, by simp, ?_, by simp, by simp, ?_, hd⟩
  · intro p
    rw [List.mem_range]
    constructor
    · intro h; exact ⟨Z[p], List.getElem?_eq_getElem h, by simp⟩
    · rintro ⟨a, ha, _⟩; exact (List.getElem?_eq_some_iff.1 ha).1
  · intro x
    rw [hm]
    constructor
    · rintro ⟨v, h1, h2, h3⟩; exact ⟨v, h1, h2, by simp, by have := hp v h1; omega⟩
    · rintro ⟨v, h1, h2, h3, h4⟩; exact ⟨v, h1, h2, by have := hp v h1; omega⟩
/-- Where all of the last node's places are looked at, the ready nodes are the free ones. -/
theorem OI.free (h : OI Z N pend P L l []) (v : Nat) (hv : v < N) : prN v ∈ L ↔ freeN Z l v = true := by
  rw [h.lm, freeN_iff]
  constructor
  · rintro ⟨u, h1, h2, h3, h4⟩
    have := prN_inj h2
    subst this
    refine ⟨h3, fun a ha he => ?_⟩
    obtain ⟨p, hp⟩ := List.getElem?_of_mem ha
    refine Classical.byContradiction fun hf => ?_
    exact cntP_zero.1 h4 p ((h.pm p).2 ⟨a, hp, .inl hf⟩) a hp he
  · rintro ⟨h1, h2⟩
    refine ⟨v, hv, rfl, h1, cntP_zero.2 fun p hp a ha he => ?_⟩
    obtain ⟨b, hb, h3⟩ := (h.pm p).1 hp
    rw [ha] at hb; cases hb
    rcases h3 with h3 | h3
    · exact h3 (h2 a (List.mem_of_getElem? ha) he)
    · cases h3
theorem OI.next {x : Int × Int} (h : OI Z N pend P (x :: L) l []) (hso : SortedP (x :: L)) : ∃ u, x = prN u ∧ u < N ∧ u ∉ l ∧ nextN Z N l = some u := by
  obtain ⟨u, h1, h2, h3, h4⟩ := (h.lm x).1 (by simp)
  refine ⟨u, h2, h1, h3, ?_⟩
  unfold nextN
  rw [List.find?_range_eq_some]
  refine ⟨(h.free u h1).1 (by rw [← h2]; simp), by simpa using h1, fun v hv => ?_⟩
  have hv' : v < N := by omega
  cases hf : freeN Z l v with
  | false => rfl
  | true =>
    exfalso
    have hm := (h.free v hv').2 hf
    rcases List.mem_cons.1 hm with e | hm
    · rw [h2] at e
      have := prN_inj e
      omega
    · have := List.rel_of_pairwise_cons hso hm
      rw [h2] at this
      simp [ltP, prN] at this
      omega
theorem OI.pop {u : Nat} (h : OI Z N pend P (prN u :: L) l []) (hso : SortedP (prN u :: L)) : OI Z N pend P L (l ++ [u]) (places frN Z u) ∧ u < N ∧ l.length < N := by
  obtain ⟨u', e, h1, h3, h4⟩ := h.next hso
  have := prN_inj e
  subst this
  have hnd := List.nodup_cons.1 h.ld
  have hc0 : cntP Z P u = 0 := by
    obtain ⟨v, g1, g2, g3, g4⟩ := (h.lm (prN u)).1 (by simp)
    have := prN_inj g2
    subst this
    exact g4
  have hord : orderK Z N (l ++ [u]).length = some (l ++ [u]) := by
    rw [List.length_append, List.length_singleton]
    unfold orderK
    rw [h.ord]
    simp only
    rw [h4]
  refine ⟨⟨hord, h.len, h.pc, h.pn, List.Nodup.sublist List.filter_sublist List.nodup_range, ?_, ?_, ?_, ?_, hnd.2⟩, h1, ?_⟩
  · intro p
    rw [h.pm]
    constructor
    · rintro ⟨a, ha, h5⟩
      refine ⟨a, ha, ?_⟩
      rcases h5 with h5 | h5
      · by_cases e : frN a = u
        · exact .inr (places_mem.2 ⟨a, ha, e⟩)
        · exact .inl (by simp [h5, e])
      · cases h5
    · rintro ⟨a, ha, h5⟩
      refine ⟨a, ha, .inl ?_⟩
      rcases h5 with h5 | h5
      · exact fun hm => h5 (by simp [hm])
      · obtain ⟨b, hb, e⟩ := places_mem.1 h5
        rw [ha] at hb; cases hb
        rw [e]; exact h3
  · intro p hp
    obtain ⟨a, ha, e⟩ := places_mem.1 hp
    exact ⟨a, ha, by simp [e]⟩
  · intro v hv
    rcases List.mem_append.1 hv with hv | hv
    · exact h.ln v hv
    · rw [List.mem_singleton] at hv; subst hv; exact hc0
  · intro x
    constructor
    · intro hx
      obtain ⟨v, g1, g2, g3, g4⟩ := (h.lm x).1 (by simp [hx])
      refine ⟨v, g1, g2, ?_, g4⟩
      intro hm
      rcases List.mem_append.1 hm with hm | hm
      · exact g3 hm
      · rw [List.mem_singleton] at hm
        subst hm
        rw [g2] at hx
        exact hnd.1 hx
    · rintro ⟨v, g1, g2, g3, g4⟩
      have hm := (h.lm x).2 ⟨v, g1, g2, fun hm => g3 (by simp [hm]), g4⟩
      rcases List.mem_cons.1 hm with e | hm
      · rw [g2] at e
        have := prN_inj e
        subst this
        exact absurd (by simp) g3
      · exact hm
  · obtain ⟨o1, o2, o3, _⟩ := orderK_props _ _ hord
    have := nodup_le o2 o3
    simp at this
    omega
/-- A place is looked at: one arc fewer is pending at its end. -/
theorem OI.mid {p : Nat} {a : ArcT} (h : OI Z N pend P L l (p :: T)) (hp : Z[p]? = some a) (ht : toN a < N) : p ∈ P ∧ toN a ∉ l ∧ atI pend (toN a) = (cntP Z (P.erase p) (toN a) : Int) + 1 ∧ prN (toN a) ∉ L := by
  have hmem : p ∈ P := (h.pm p).2 ⟨a, hp, .inr (by simp)⟩
  have hc := cntP_erase hmem hp (toN a)
  rw [if_pos rfl] at hc
  refine ⟨hmem, fun hl => by have := h.ln _ hl; omega, by rw [h.pc _ ht, hc]; push_cast; rfl, fun hm => ?_⟩
  obtain ⟨v, g1, g2, g3, g4⟩ := (h.lm _).1 hm
  have := prN_inj g2
  rw [← this] at g4
  omega
theorem OI.step {p : Nat} {a : ArcT} {L' : List (Int × Int)} (h : OI Z N pend P L l (p :: T)) (hp : Z[p]? = some a) (ht : toN a < N)
    (hL : ∀ x, x ∈ L' ↔ x ∈ L ∨ (x = prN (toN a) ∧ cntP Z (P.erase p) (toN a) = 0)) (hd : L'.Nodup) : OI Z N (pend.set (toN a) (atI pend (toN a) - 1)) (P.erase p) L' l T := by
  obtain ⟨hmem, hnl, hat, hnL⟩ := h.mid hp ht
  have htn := List.nodup_cons.1 h.tn
  have hle : ∀ v, cntP Z (P.erase p) v ≤ cntP Z P v := fun v => by rw [cntP_erase hmem hp v]; omega
  refine ⟨h.ord, by rw [List.length_set]; exact h.len, ?_, h.pn.erase p, htn.2, ?_, fun q hq => h.tl q (by simp [hq]), ?_, ?_, hd⟩
  · intro v hv
    rw [atI_set (by rw [h.len]; exact ht)]
    split
    · next e => subst e; omega
    · next e =>
      rw [h.pc v hv, cntP_erase hmem hp v, if_neg (fun e2 => e e2.symm)]
      rfl
  · intro q
    rw [h.pn.mem_erase_iff, h.pm]
    constructor
    · rintro ⟨h1, b, hb, h2⟩
      refine ⟨b, hb, ?_⟩
      rcases h2 with h2 | h2
      · exact .inl h2
      · rcases List.mem_cons.1 h2 with e | h2
        · exact absurd e h1
        · exact .inr h2
    · rintro ⟨b, hb, h2⟩
      refine ⟨?_, b, hb, ?_⟩
      · rintro rfl
        rcases h2 with h2 | h2
        · obtain ⟨c, hc, h3⟩ := h.tl q (by simp)
          rw [hb] at hc; cases hc
          exact h2 h3
        · exact htn.1 h2
      · rcases h2 with h2 | h2
        · exact .inl h2
        · exact .inr (by simp [h2])
  · intro v hv
    have := h.ln v hv
    have := hle v
    omega
  · intro x
    rw [hL, h.lm]
    constructor
    · rintro (⟨v, g1, g2, g3, g4⟩ | ⟨g1, g2⟩)
      · exact ⟨v, g1, g2, g3, by have := hle v; omega⟩
      · exact ⟨toN a, ht, g1, hnl, g2⟩
    · rintro ⟨v, g1, g2, g3, g4⟩
      by_cases e : v = toN a
      · subst e; exact .inr ⟨g2, g4⟩
      · left
        refine ⟨v, g1, g2, g3, ?_⟩
        have := cntP_erase hmem hp v
        rw [if_neg (fun e2 => e e2.symm)] at this
        omega
theorem OI.keep {p : Nat} {a : ArcT} (h : OI Z N pend P L l (p :: T)) (hp : Z[p]? = some a) (ht : toN a < N) (h0 : atI pend (toN a) ≠ 1) : OI Z N (pend.set (toN a) (atI pend (toN a) - 1)) (P.erase p) L l T := by
  obtain ⟨hmem, hnl, hat, hnL⟩ := h.mid hp ht
  exact h.step hp ht (fun x => ⟨.inl, fun hx => by
    rcases hx with hx | ⟨_, hx⟩
    · exact hx
    · omega⟩) h.ld
theorem OI.push {p : Nat} {a : ArcT} (h : OI Z N pend P L l (p :: T)) (hp : Z[p]? = some a) (ht : toN a < N) (h0 : atI pend (toN a) = 1) : OI Z N (pend.set (toN a) (atI pend (toN a) - 1)) (P.erase p) (insP (prN (toN a)) L) l T ∧ L.length < N := by
  obtain ⟨hmem, hnl, hat, hnL⟩ := h.mid hp ht
  have hnd : (prN (toN a) :: L).Nodup := List.nodup_cons.2 ⟨hnL, h.ld⟩
  refine ⟨h.step hp ht (fun x => ?_) (((insP_perm _ L).nodup_iff).2 hnd), ?_⟩
  · rw [(insP_perm _ L).mem_iff, List.mem_cons]
    constructor
    · rintro (rfl | hx)
      · exact .inr ⟨rfl, by omega⟩
      · exact .inl hx
    · rintro (hx | ⟨rfl, _⟩)
      · exact .inr hx
      · exact .inl rfl
  · have hn : ((prN (toN a) :: L).map fun x => x.1.toNat).Nodup := by
      rw [List.nodup_iff_pairwise_ne, List.pairwise_map]
      refine (List.nodup_iff_pairwise_ne.1 hnd).imp_of_mem ?_
      intro x y hx hy hne e
      have hx' : ∃ u, x = prN u := by
        rcases List.mem_cons.1 hx with rfl | hx
        · exact ⟨_, rfl⟩
        · obtain ⟨v, _, e, _⟩ := (h.lm x).1 hx; exact ⟨v, e⟩
      have hy' : ∃ u, y = prN u := by
        rcases List.mem_cons.1 hy with rfl | hy
        · exact ⟨_, rfl⟩
        · obtain ⟨v, _, e, _⟩ := (h.lm y).1 hy; exact ⟨v, e⟩
      obtain ⟨u, rfl⟩ := hx'
      obtain ⟨v, rfl⟩ := hy'
      simp only [prN, Int.toNat_natCast] at e
      exact hne (by rw [e])
    have := nodup_le (N := N) hn (by
      intro x hx
      obtain ⟨y, hy, rfl⟩ := List.mem_map.1 hx
      rcases List.mem_cons.1 hy with rfl | hy
      · simpa [prN] using ht
      · obtain ⟨v, g1, e, _⟩ := (h.lm y).1 hy
        subst e
        simpa [prN] using g1)
    simp at this
    omega
theorem orderK_none {Z : List ArcT} {N k : Nat} (h : orderK Z N k = none) : ∀ j, orderK Z N (k + j) = none
  | 0 => h
  | j + 1 => by
    rw [← Nat.add_assoc]
    unfold orderK
    rw [orderK_none h j]
theorem OI.len_le (h : OI Z N pend P L l T) : l.length ≤ N := by
  obtain ⟨o1, o2, o3, _⟩ := orderK_props _ _ h.ord
  exact nodup_le o2 o3
theorem OI.none (h : OI Z N pend P [] l []) (hl : l.length < N) : orderK Z N N = Option.none := by
  have hn : nextN Z N l = Option.none := by
    unfold nextN
    rw [List.find?_eq_none]
    intro v hv hf
    have := (h.free v (by simpa using hv)).2 hf
    cases this
  have h1 : orderK Z N (l.length + 1) = Option.none := by
    unfold orderK
    rw [h.ord]
    simp only
    rw [hn]
  have := orderK_none h1 (N - (l.length + 1))
  rwa [show l.length + 1 + (N - (l.length + 1)) = N by omega] at this
theorem OI.some (h : OI Z N pend P [] l []) (hl : ¬ l.length < N) : orderK Z N N = Option.some l := by
  have h1 := h.len_le
  have h2 : l.length = N := by omega
  have h3 := h.ord
  rwa [h2] at h3
end
end Go.Proofs.Ytiefphkfddecbaa
