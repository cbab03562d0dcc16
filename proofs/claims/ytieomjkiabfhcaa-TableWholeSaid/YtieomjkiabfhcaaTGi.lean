/- What stands while keys are gathered: a map of the keys, a row of them, and a row of rows of places; each in memory of its own. -/
import Derived.Test.YtieomjkiabfhcaaTRow
namespace Go.Proofs.Ytieomjkiabfhcaa
open Go.RowKit
set_option linter.unusedVariables false

def encV (v : Value) : List Value := [v]
theorem encV_len (v : Value) : (encV v).length = 1 := rfl
theorem encV_flat (vs : List Value) : vs.flatMap encV = vs := by induction vs with | nil => rfl | cons v vs ih => rw [List.flatMap_cons, ih]; rfl
def nilS : Value := .slice none 0 0
/-- Places, as numbers. -/
def natI (L : List Nat) : List Int := L.map fun (n : Nat) => (n : Int)
theorem natI_len (L : List Nat) : (natI L).length = L.length := by simp [natI]
theorem cell_newL {w : World} {n : Nat} (hn : w.heap.size = n) (l : List Value) (t : TypeId) (j : Nat) : (w.alloc (.cells l.toArray t)).cell? ⟨n, j, none⟩ = l[j]? := by rw [cell_new' hn]; simp
theorem natI_snoc (L : List Nat) (t : Nat) : natI (L ++ [t]) = natI L ++ [(t : Int)] := by simp [natI]
theorem grown_of_below {w w' : World} (h : Below w.heap.size w w') (row : Option Nat) : w.grownBy w' row := ⟨h.os, h.tape, h.output, h.size, fun i hi _ => h.block i hi⟩
theorem below_of_grown {w0 w w' : World} {row : Option Nat} (h : Below w0.heap.size w0 w) (hg : w.grownBy w' row) (hr : ∀ g, row = some g → w0.heap.size ≤ g) : Below w0.heap.size w0 w' :=
  h.grown hg h.size hr
section
variable {α : Type} {kt : TypeId} {enc : α → List Value} {k : Nat} {w0 w w' : World} {B : Nat} {ks gs : Value} {mk keys : List α} {G : List (List Nat)} {vs : List Value} {own : Nat → Nat}
structure GIx (kt : TypeId) (enc : α → List Value) (k : Nat) (w0 w : World) (B : Nat) (ks gs : Value) (mk keys : List α) (G : List (List Nat)) (vs : List Value) (own : Nat → Nat) : Prop where
  below : Below w0.heap.size w0 w
  bB : w0.heap.size ≤ B
  map : MapIs kt enc w B mk
  kr : w.ownsRow w0.heap.size kt k ks keys.length (keys.flatMap enc)
  gr : w.ownsRow w0.heap.size 31 1 gs vs.length (vs.flatMap encV)
  len : vs.length = G.length
  inn : ∀ i, i < G.length → w.ownsRow w0.heap.size 3 1 (vs.getD i nilS) (natI (G.getD i [])).length ((natI (G.getD i [])).flatMap encI)
  oB : own B = 0
  ok : ∀ g, ks.ownBlock = some g → own g = 1
  og : ∀ g, gs.ownBlock = some g → own g = 2
  oi : ∀ i g, i < G.length → (vs.getD i nilS).ownBlock = some g → own g = i + 3
theorem GIx.start (w : World) : ∃ vs own, GIx kt enc k w (w.alloc (.map #[] 0)) w.heap.size (.slice none 0 0) (.slice none 0 0) ([] : List α) [] [] vs own :=
  ⟨[], fun i => if i = w.heap.size then 0 else 1, (Below.refl _ w).alloc (Nat.le_refl _) _, Nat.le_refl _, MapIs.made w, World.ownsRow_nil _ _ _ _, World.ownsRow_nil _ _ _ _, rfl, (fun i hi => absurd hi (by simp)), if_pos rfl, (fun g e => by cases e), (fun g e => by cases e), (fun i g hi => absurd hi (by simp))⟩
/-- A step that turns at most one block, none of these. -/
theorem GIx.kept (h : GIx kt enc k w0 w B ks gs mk keys G vs own) {row : Option Nat} (hg : w.grownBy w' row) (hr : ∀ g, row = some g → w.heap.size ≤ g) : GIx kt enc k w0 w' B ks gs mk keys G vs own := by
  have nb : ∀ v e kk n xs, w.ownsRow w0.heap.size e kk v n xs → v.ownBlock = none ∨ v.ownBlock ≠ row := by
    intro v e kk n xs hv
    cases hb : v.ownBlock with
    | none => exact .inl rfl
    | some g =>
      right
      rintro rfl
      have := (hv.lt g hb).2
      have := hr g rfl
      omega
  refine ⟨below_of_grown h.below hg (fun g e => Nat.le_trans h.below.size (hr g e)), h.bB, h.map.kept hg ?_, h.kr.kept hg (nb _ _ _ _ _ h.kr), h.gr.kept hg (nb _ _ _ _ _ h.gr), h.len, fun i hi => (h.inn i hi).kept hg (nb _ _ _ _ _ (h.inn i hi)), h.oB, h.ok, h.og, h.oi⟩
  rintro rfl
  have := hr B rfl
  have := h.map.lt
  omega
theorem GIx.step (h : GIx kt enc k w0 w B ks gs mk keys G vs own) (hb : Below w.heap.size w w') : GIx kt enc k w0 w' B ks gs mk keys G vs own :=
  h.kept (grown_of_below hb none) (fun g e => by cases e)
theorem ne_row {own : Nat → Nat} {v : Value} {row : Option Nat} {a b : Nat} (hv : ∀ g, v.ownBlock = some g → own g = a) (hr : ∀ g, row = some g → own g = b) (hab : a ≠ b) : v.ownBlock = none ∨ v.ownBlock ≠ row := by
  cases hb : v.ownBlock with
  | none => exact .inl rfl
  | some g => right; rintro rfl; exact hab ((hv g hb).symm.trans (hr g rfl))
theorem GIx.store (h : GIx kt enc k w0 w B ks gs mk keys G vs own) {mk' : List α} (hm : MapIs kt enc w' B mk') (hg : w.grownBy w' (some B)) : GIx kt enc k w0 w' B ks gs mk' keys G vs own := by
  have hr : ∀ g, some B = some g → own g = 0 := fun g e => by cases e; exact h.oB
  exact ⟨below_of_grown h.below hg (fun g e => by cases e; exact h.bB), h.bB, hm, h.kr.kept hg (ne_row h.ok hr (by omega)), h.gr.kept hg (ne_row h.og hr (by omega)), h.len, fun i hi => (h.inn i hi).kept hg (ne_row (fun g e => h.oi i g hi e) hr (by omega)), h.oB, h.ok, h.og, h.oi⟩
/-- The owner of a new block. -/
def ownSet (own : Nat → Nat) (g r : Nat) : Nat → Nat := fun i => if i = g then r else own i
theorem ownSet_old {own : Nat → Nat} {g r i n : Nat} (h : own i = n) (hi : i ≠ g) : ownSet own g r i = n := by unfold ownSet; rw [if_neg hi]; exact h
theorem ownSet_new (own : Nat → Nat) (g r : Nat) : ownSet own g r g = r := by unfold ownSet; rw [if_pos rfl]
theorem GIx.lts (h : GIx kt enc k w0 w B ks gs mk keys G vs own) : B < w.heap.size ∧ (∀ g, ks.ownBlock = some g → g < w.heap.size) ∧ (∀ g, gs.ownBlock = some g → g < w.heap.size) ∧ ∀ i g, i < G.length → (vs.getD i nilS).ownBlock = some g → g < w.heap.size :=
  ⟨h.map.lt, fun g e => (h.kr.lt g e).2, fun g e => (h.gr.lt g e).2, fun i g hi e => ((h.inn i hi).lt g e).2⟩
theorem GIx.reown (h : GIx kt enc k w0 w B ks gs mk keys G vs own) (r : Nat) : GIx kt enc k w0 w B ks gs mk keys G vs (ownSet own w.heap.size r) := by
  obtain ⟨l0, l1, l2, l3⟩ := h.lts
  exact { h with
    oB := ownSet_old h.oB (by omega)
    ok := fun g e => ownSet_old (h.ok g e) (by have := l1 g e; omega)
    og := fun g e => ownSet_old (h.og g e) (by have := l2 g e; omega)
    oi := fun i g hi e => ownSet_old (h.oi i g hi e) (by have := l3 i g hi e; omega) }
theorem GIx.key (h : GIx kt enc k w0 w B ks gs mk keys G vs own) {g cap : Nat} {keys' : List α} {n : Nat} (hk : w'.ownsRow w0.heap.size kt k (.slice (some ⟨g, 0, none⟩) n cap) keys'.length (keys'.flatMap enc)) (hg : w.grownBy w' ks.ownBlock) (hl : ks.ownBlock = some g ∨ g = w.heap.size) (hb : w0.heap.size ≤ g) :
    ∃ own', GIx kt enc k w0 w' B (.slice (some ⟨g, 0, none⟩) n cap) gs mk keys' G vs own' := by
  have main : ∀ own', GIx kt enc k w0 w B ks gs mk keys G vs own' → own' g = 1 → GIx kt enc k w0 w' B (.slice (some ⟨g, 0, none⟩) n cap) gs mk keys' G vs own' := by
    intro own' h h1
    refine ⟨below_of_grown h.below hg (fun g e => (h.kr.lt g e).1), h.bB, h.map.kept hg ?_, hk, h.gr.kept hg (ne_row h.og h.ok (by omega)), h.len, fun i hi => (h.inn i hi).kept hg (ne_row (fun g e => h.oi i g hi e) h.ok (by omega)), h.oB, ?_, h.og, h.oi⟩
    · intro e
      have := h.ok B e.symm
      have := h.oB
      omega
    · intro g' e
      simp [Value.ownBlock] at e
      subst e; exact h1
  rcases hl with hl | rfl
  · exact ⟨own, main own h (h.ok g hl)⟩
  · exact ⟨_, main _ (h.reown 1) (ownSet_new _ _ _)⟩
theorem getD_append_left {α : Type} {l r : List α} {i : Nat} (h : i < l.length) (d : α) : (l ++ r).getD i d = l.getD i d := by
  rw [List.getD_eq_getElem?_getD, List.getElem?_append_left h, ← List.getD_eq_getElem?_getD]
theorem GIx.group (h : GIx kt enc k w0 w B ks gs mk keys G vs own) {g cap n : Nat} (hk : w'.ownsRow w0.heap.size 31 1 (.slice (some ⟨g, 0, none⟩) n cap) (vs ++ [nilS]).length ((vs ++ [nilS]).flatMap encV)) (hg : w.grownBy w' gs.ownBlock) (hl : gs.ownBlock = some g ∨ g = w.heap.size) (hb : w0.heap.size ≤ g) :
    ∃ own', GIx kt enc k w0 w' B ks (.slice (some ⟨g, 0, none⟩) n cap) mk keys (G ++ [[]]) (vs ++ [nilS]) own' := by
  have hlen := h.len
  have at_end : ∀ i, ¬ i < G.length → (vs ++ [nilS]).getD i nilS = nilS := by
    intro i hi
    rw [List.getD_eq_getElem?_getD, List.getElem?_append_right (by omega)]
    rcases Nat.eq_zero_or_pos (i - vs.length) with e | e
    · rw [e]; rfl
    · rw [List.getElem?_eq_none (by simp; omega)]; rfl
  have main : ∀ own', GIx kt enc k w0 w B ks gs mk keys G vs own' → own' g = 2 → GIx kt enc k w0 w' B ks (.slice (some ⟨g, 0, none⟩) n cap) mk keys (G ++ [[]]) (vs ++ [nilS]) own' := by
    intro own' h h1
    refine ⟨below_of_grown h.below hg (fun g e => (h.gr.lt g e).1), h.bB, h.map.kept hg ?_, h.kr.kept hg (ne_row h.ok h.og (by omega)), hk, by simp [hlen], ?_, h.oB, h.ok, ?_, ?_⟩
    · intro e
      have := h.og B e.symm
      have := h.oB
      omega
    · intro i hi
      by_cases hi' : i < G.length
      · rw [getD_append_left hi', getD_append_left (by omega)]
        exact (h.inn i hi').kept hg (ne_row (fun g e => h.oi i g hi' e) h.og (by omega))
      · rw [at_end i hi']
        have e2 : (G ++ [[]]).getD i [] = [] := by
          rw [List.getD_eq_getElem?_getD, List.getElem?_append_right (by omega)]
          rcases Nat.eq_zero_or_pos (i - G.length) with e | e
          · rw [e]; rfl
          · rw [List.getElem?_eq_none (by simp; omega)]; rfl
        rw [e2]
        exact World.ownsRow_nil _ _ _ _
    · intro g' e
      simp [Value.ownBlock] at e
      subst e; exact h1
    · intro i g' hi e
      by_cases hi' : i < G.length
      · rw [getD_append_left (by omega)] at e
        exact h.oi i g' hi' e
      · rw [at_end i hi'] at e
        cases e
  rcases hl with hl | rfl
  · exact ⟨own, main own h (h.og g hl)⟩
  · exact ⟨_, main _ (h.reown 2) (ownSet_new _ _ _)⟩
/-- Where a group's own slice lies. -/
theorem GIx.slot (h : GIx kt enc k w0 w B ks gs mk keys G vs own) {j : Nat} (hj : j < G.length) : ∃ g cap, gs = .slice (some ⟨g, 0, none⟩) G.length cap ∧ w.cell? ⟨g, j, none⟩ = some (vs.getD j nilS) ∧ w.frozen? ⟨g, j, none⟩ = false ∧ w0.heap.size ≤ g ∧ g < w.heap.size := by
  have hl := h.len
  rcases h.gr.2 with ⟨_, h0⟩ | ⟨g, cap, cur, e, hb, hg, h1, h2, h3, h4⟩
  · omega
  · refine ⟨g, cap, by rw [e, hl], ?_, frozen_whole hg j, hb, lt_whole hg⟩
    rw [cell_whole hg, ← Array.getElem?_toList]
    have e1 : (cur.toList.take (vs.length * 1))[j]? = cur.toList[j]? := List.getElem?_take_of_lt (by omega)
    rw [← e1, h4, encV_flat, List.getD_eq_getElem?_getD, List.getElem?_eq_getElem (by omega)]; rfl
theorem GIx.cell (h : GIx kt enc k w0 w B ks gs mk keys G vs own) {j g nn cap : Nat} (hj : j < G.length) (hgs : gs = .slice (some ⟨g, 0, none⟩) nn cap) : w.cell? ⟨g, j, none⟩ = some (vs.getD j nilS) ∧ w.frozen? ⟨g, j, none⟩ = false ∧ nn = G.length ∧ g < w.heap.size := by
  obtain ⟨g1, cap1, e1, h1, h2, _, h3⟩ := h.slot hj
  rw [hgs] at e1
  cases e1
  exact ⟨h1, h2, rfl, h3⟩
theorem own_set {w : World} {base g n cap j : Nat} {e : TypeId} {vs : List Value} (h : w.ownsRow base e 1 (.slice (some ⟨g, 0, none⟩) n cap) vs.length (vs.flatMap encV)) (v : Value) : (w.setCell ⟨g, j, none⟩ v).ownsRow base e 1 (.slice (some ⟨g, 0, none⟩) n cap) (vs.set j v).length ((vs.set j v).flatMap encV) := by
  rw [encV_flat] at h ⊢
  rw [List.length_set]
  refine ⟨by simp, ?_⟩
  rcases h.2 with ⟨h0, _⟩ | ⟨g', cap', cur, e1, hb, hg, h1, h2, h3, h4⟩
  · cases h0
  · cases e1
    refine .inr ⟨g, cap, _, rfl, hb, set_whole hg j v, h1, h2, by simpa using h3, ?_⟩
    rw [Array.toList_setIfInBounds, List.take_set, h4]
/-- The group's slice has been appended to, and stored back. -/
theorem getD_end {α : Type} (l : List α) (x d : α) {m : Nat} (hm : l.length = m) : (l ++ [x]).getD m d = x := by subst hm; simp
theorem set_end {α : Type} (l : List α) (x y : α) {m : Nat} (hm : l.length = m) : (l ++ [x]).set m y = l ++ [y] := by subst hm; simp
theorem GIx.add (h : GIx kt enc k w0 w B ks gs mk keys G vs own) {j : Nat} (hj : j < G.length) {g nn cap : Nat} (hgs : gs = .slice (some ⟨g, 0, none⟩) nn cap) {p n c t : Nat}
    (hk : w'.ownsRow w0.heap.size 3 1 (.slice (some ⟨p, 0, none⟩) n c) (natI (G.getD j [] ++ [t])).length ((natI (G.getD j [] ++ [t])).flatMap encI)) (hg : w.grownBy w' (vs.getD j nilS).ownBlock) (hl : (vs.getD j nilS).ownBlock = some p ∨ p = w.heap.size) (hb : w0.heap.size ≤ p) :
    w'.cell? ⟨g, j, none⟩ = some (vs.getD j nilS) ∧ w'.frozen? ⟨g, j, none⟩ = false ∧ ∃ own', GIx kt enc k w0 (w'.setCell ⟨g, j, none⟩ (.slice (some ⟨p, 0, none⟩) n c)) B ks gs mk keys (G.set j (G.getD j [] ++ [t])) (vs.set j (.slice (some ⟨p, 0, none⟩) n c)) own' := by
  obtain rfl := (h.cell hj hgs).2.2.1
  subst hgs
  have hgo : ∀ own', GIx kt enc k w0 w B ks (.slice (some ⟨g, 0, none⟩) G.length cap) mk keys G vs own' → own' g = 2 := fun own' h => h.og g rfl
  have hjo : ∀ own', GIx kt enc k w0 w B ks (.slice (some ⟨g, 0, none⟩) G.length cap) mk keys G vs own' → ∀ i, (vs.getD j nilS).ownBlock = some i → own' i = j + 3 := fun own' h i e => h.oi j i hj e
  have hgr' := h.gr.kept hg (ne_row h.og (hjo _ h) (by omega))
  have hlen := h.len
  obtain ⟨g1, cap1, e1, hc, hf, _, hlt⟩ := h.slot hj
  cases e1
  have hne : some g ≠ (vs.getD j nilS).ownBlock := by
    intro e
    have a := hjo _ h g e.symm
    have b := hgo _ h
    omega
  have hcell : w'.cell? ⟨g, j, none⟩ = some (vs.getD j nilS) := hg.cell hc hne
  have hfro : w'.frozen? ⟨g, j, none⟩ = false := by
    rw [World.frozen?_of_block (hg.block g hlt hne)]; exact hf
  refine ⟨hcell, hfro, ?_⟩
  have main : ∀ own', GIx kt enc k w0 w B ks (.slice (some ⟨g, 0, none⟩) G.length cap) mk keys G vs own' → own' p = j + 3 → GIx kt enc k w0 (w'.setCell ⟨g, j, none⟩ (.slice (some ⟨p, 0, none⟩) n c)) B ks (.slice (some ⟨g, 0, none⟩) G.length cap) mk keys (G.set j (G.getD j [] ++ [t])) (vs.set j (.slice (some ⟨p, 0, none⟩) n c)) own' := by
    intro own' h hp
    have sg : w'.grownBy (w'.setCell ⟨g, j, none⟩ (.slice (some ⟨p, 0, none⟩) n c)) (some g) := ⟨rfl, rfl, rfl, by simp [World.setCell], fun i hi hne => Below.heap_setCell w' _ _ i (fun e => hne (by rw [e]))⟩
    have o2 : ∀ i, some g = some i → own' i = 2 := fun i e => by cases e; exact hgo _ h
    refine ⟨below_of_grown (below_of_grown h.below hg (fun i e => ((h.inn j hj).lt i e).1)) sg (fun i e => by cases e; exact (h.gr.lt g rfl).1), h.bB, (h.map.kept hg ?_).kept sg ?_, (h.kr.kept hg (ne_row h.ok (hjo _ h) (by omega))).kept sg (ne_row h.ok o2 (by omega)), ?_, by simp [hlen], ?_, h.oB, h.ok, h.og, ?_⟩
    · intro e
      have a := hjo _ h B e.symm
      have b := h.oB
      omega
    · intro e
      have a := o2 B e.symm
      have b := h.oB
      omega
    · exact own_set hgr' _
    · intro i hi
      rw [List.length_set] at hi
      by_cases hij : i = j
      · subst hij
        have e1 : (G.set i (G.getD i [] ++ [t])).getD i [] = G.getD i [] ++ [t] := by rw [List.getD_eq_getElem?_getD, List.getElem?_set_self hj]; rfl
        have e2 : (vs.set i (.slice (some ⟨p, 0, none⟩) n c)).getD i nilS = .slice (some ⟨p, 0, none⟩) n c := by rw [List.getD_eq_getElem?_getD, List.getElem?_set_self (by omega)]; rfl
        rw [e1, e2]
        refine hk.kept sg (ne_row (a := i + 3) (fun i' e => ?_) o2 (by omega))
        simp [Value.ownBlock] at e
        subst e; exact hp
      · have e1 : (G.set j (G.getD j [] ++ [t])).getD i [] = G.getD i [] := by rw [List.getD_eq_getElem?_getD, List.getElem?_set_ne (fun e => hij e.symm), ← List.getD_eq_getElem?_getD]
        have e2 : (vs.set j (.slice (some ⟨p, 0, none⟩) n c)).getD i nilS = vs.getD i nilS := by rw [List.getD_eq_getElem?_getD, List.getElem?_set_ne (fun e => hij e.symm), ← List.getD_eq_getElem?_getD]
        rw [e1, e2]
        exact ((h.inn i hi).kept hg (ne_row (fun i' e => h.oi i i' hi e) (hjo _ h) (by omega))).kept sg (ne_row (fun i' e => h.oi i i' hi e) o2 (by omega))
    · intro i i' hi e
      rw [List.length_set] at hi
      by_cases hij : i = j
      · subst hij
        have e2 : (vs.set i (.slice (some ⟨p, 0, none⟩) n c)).getD i nilS = .slice (some ⟨p, 0, none⟩) n c := by rw [List.getD_eq_getElem?_getD, List.getElem?_set_self (by omega)]; rfl
        rw [e2] at e
        simp [Value.ownBlock] at e
        subst e; exact hp
      · have e2 : (vs.set j (.slice (some ⟨p, 0, none⟩) n c)).getD i nilS = vs.getD i nilS := by rw [List.getD_eq_getElem?_getD, List.getElem?_set_ne (fun e => hij e.symm), ← List.getD_eq_getElem?_getD]
        rw [e2] at e
        exact h.oi i i' hi e
  rcases hl with hl | rfl
  · exact ⟨own, main own h (h.oi j p hj hl)⟩
  · exact ⟨_, main _ (h.reown (j + 3)) (ownSet_new _ _ _)⟩
end
/-- What gather tells. -/
def Gat {α : Type} [DecidableEq α] (kt : TypeId) (enc : α → List Value) (k : Nat) (w : World) (L : List α) (e : Ending) (w' : World) : Prop :=
  ∃ ks gs vs own B, e = .returned (.tuple #[ks, gs]) ∧ GIx kt enc k w w' B ks gs (firsts L) (firsts L) (grps L) vs own
end Go.Proofs.Ytieomjkiabfhcaa
