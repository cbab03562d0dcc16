/- The lists of arcs that leave, and come to, each node, as package adj makes them. -/
import Derived.Test.YtiefphkfddecbaaASpec
import Derived.Test.YtiefphkfddecbaaAList
namespace Go.Proofs.Ytiefphkfddecbaa
open Go.RowKit
set_option linter.unusedVariables false

def nilS : Value := .slice none 0 0
theorem infoInts : (Try.prog.info? 25).map (fun i => (i.zero, i.size, i.bytes)) = some (some (.slice none 0 0), 1, 24) := by kernel_rfl
theorem getD_lt {α : Type} {l : List α} {i : Nat} (h : i < l.length) (d : α) : l.getD i d = l[i] := by rw [List.getD_eq_getElem?_getD, List.getElem?_eq_getElem h]; rfl
theorem ne_row {own : Nat → Nat} {v : Value} {row : Option Nat} {a b : Nat} (hv : ∀ g, v.ownBlock = some g → own g = a) (hr : ∀ g, row = some g → own g = b) (hab : a ≠ b) : v.ownBlock = none ∨ v.ownBlock ≠ row := by
  cases hb : v.ownBlock with
  | none => exact .inl rfl
  | some g => right; rintro rfl; exact hab ((hv g hb).symm.trans (hr g rfl))
def ownSet (own : Nat → Nat) (g r : Nat) : Nat → Nat := fun i => if i = g then r else own i
theorem ownSet_old {own : Nat → Nat} {g r i n : Nat} (h : own i = n) (hi : i ≠ g) : ownSet own g r i = n := by unfold ownSet; rw [if_neg hi]; exact h
theorem ownSet_new (own : Nat → Nat) (g r : Nat) : ownSet own g r g = r := by unfold ownSet; rw [if_pos rfl]
theorem own_lt2 {α : Type} {enc : α → Value} {w : World} {B : Nat} {e : TypeId} {v : Value} {L : List α} (h : OwnL enc w B e v L) {g : Nat} (hg : v.ownBlock = some g) : B ≤ g ∧ g < w.heap.size := ⟨own_block h hg, own_lt h hg⟩
/-- Rows of places in a row of the call's own, each in memory of its own. -/
structure IX (B : Nat) (w : World) (g cap : Nat) (vs : List Value) (G : List (List Nat)) (own : Nat → Nat) : Prop where
  gr : OwnL encV w B 25 (.slice (some ⟨g, 0, none⟩) G.length cap) vs
  len : vs.length = G.length
  inn : ∀ i, i < G.length → OwnL encI w B 3 (vs.getD i nilS) (natI (G.getD i []))
  og : own g = 0
  oi : ∀ i b, i < G.length → (vs.getD i nilS).ownBlock = some b → own b = i + 1
section
variable {B : Nat} {w w' : World} {g cap : Nat} {vs : List Value} {G : List (List Nat)} {own : Nat → Nat}
theorem IX.start {N : Nat} (h : OwnL encV w B 25 (.slice (some ⟨g, 0, none⟩) N cap) (List.replicate N nilS)) : IX B w g cap (List.replicate N nilS) (List.replicate N []) (fun _ => 0) := by
  have e : ∀ i, (List.replicate N nilS).getD i nilS = nilS := by
    intro i; rw [List.getD_eq_getElem?_getD, List.getElem?_replicate]; split <;> rfl
  have e2 : ∀ i, (List.replicate N ([] : List Nat)).getD i [] = [] := by
    intro i; rw [List.getD_eq_getElem?_getD, List.getElem?_replicate]; split <;> rfl
  refine ⟨by rw [List.length_replicate]; exact h, by simp, ?_, rfl, ?_⟩
  · intro i hi; rw [e, e2]; exact OwnL.nil _ _ _
  · intro i b hi hb; rw [e] at hb; cases hb
theorem IX.below (h : IX B w g cap vs G own) (hb : Below w.heap.size w w') : IX B w' g cap vs G own :=
  ⟨h.gr.below hb, h.len, fun i hi => (h.inn i hi).below hb, h.og, h.oi⟩
theorem IX.lt (h : IX B w g cap vs G own) : B ≤ g ∧ g < w.heap.size := own_lt2 h.gr rfl
theorem IX.cell (h : IX B w g cap vs G own) {j : Nat} (hj : j < G.length) : w.cell? ⟨g, j, none⟩ = some (vs.getD j nilS) ∧ w.frozen? ⟨g, j, none⟩ = false := by
  have hl := h.len
  have := h.gr.cell (j := j) (x := vs[j]'(by omega)) (List.getElem?_eq_getElem _)
  rw [getD_lt (by omega)]
  exact this
theorem IX.reown (h : IX B w g cap vs G own) (r : Nat) : IX B w g cap vs G (ownSet own w.heap.size r) :=
  { h with
    og := ownSet_old h.og (by have := h.lt; omega)
    oi := fun i b hi e => ownSet_old (h.oi i b hi e) (by have := (own_lt2 (h.inn i hi) e).2; omega) }
/-- A row has been appended to, and is stored back. -/
theorem IX.add (h : IX B w g cap vs G own) {j : Nat} (hj : j < G.length) {p n c t : Nat}
    (hk : OwnL encI w' B 3 (.slice (some ⟨p, 0, none⟩) n c) (natI (G.getD j [] ++ [t]))) (hg : w.grownBy w' (vs.getD j nilS).ownBlock) (hl : (vs.getD j nilS).ownBlock = some p ∨ p = w.heap.size) :
    w'.cell? ⟨g, j, none⟩ = some (vs.getD j nilS) ∧ w'.frozen? ⟨g, j, none⟩ = false ∧ ∃ vs' own', IX B (w'.setCell ⟨g, j, none⟩ (.slice (some ⟨p, 0, none⟩) n c)) g cap vs' (G.set j (G.getD j [] ++ [t])) own' := by
  have hlen := h.len
  obtain ⟨hc, hf⟩ := h.cell hj
  have hlt := h.lt
  have hjo : ∀ own', IX B w g cap vs G own' → ∀ i, (vs.getD j nilS).ownBlock = some i → own' i = j + 1 := fun own' h i e => h.oi j i hj e
  have hne : some g ≠ (vs.getD j nilS).ownBlock := by
    intro e
    have a := hjo _ h g e.symm
    have b := h.og
    omega
  have hcell : w'.cell? ⟨g, j, none⟩ = some (vs.getD j nilS) := hg.cell hc hne
  have hfro : w'.frozen? ⟨g, j, none⟩ = false := by
    rw [World.frozen?_of_block (hg.block g hlt.2 hne)]; exact hf
  have sg : w'.grownBy (w'.setCell ⟨g, j, none⟩ (.slice (some ⟨p, 0, none⟩) n c)) (some g) := ⟨rfl, rfl, rfl, by simp [World.setCell], fun i hi hne => Below.heap_setCell w' _ _ i (fun e => hne (by rw [e]))⟩
  refine ⟨hcell, hfro, ?_⟩
  have main : ∀ own', IX B w g cap vs G own' → own' p = j + 1 → IX B (w'.setCell ⟨g, j, none⟩ (.slice (some ⟨p, 0, none⟩) n c)) g cap (vs.set j (.slice (some ⟨p, 0, none⟩) n c)) (G.set j (G.getD j [] ++ [t])) own' := by
    intro own' h hp
    have o0 : ∀ i, some g = some i → own' i = 0 := fun i e => by cases e; exact h.og
    have hgr := h.gr.grown hg (ne_row (a := 0) (b := j + 1) (fun i e => by simp [Value.ownBlock] at e; subst e; exact h.og) (hjo _ h) (by omega))
    refine ⟨?_, by simp [hlen], ?_, h.og, ?_⟩
    · rw [List.length_set]
      exact hgr.put j (.slice (some ⟨p, 0, none⟩) n c)
    · intro i hi
      rw [List.length_set] at hi
      by_cases hij : i = j
      · subst hij
        have e1 : (G.set i (G.getD i [] ++ [t])).getD i [] = G.getD i [] ++ [t] := by rw [List.getD_eq_getElem?_getD, List.getElem?_set_self hj]; rfl
        have e2 : (vs.set i (.slice (some ⟨p, 0, none⟩) n c)).getD i nilS = .slice (some ⟨p, 0, none⟩) n c := by rw [List.getD_eq_getElem?_getD, List.getElem?_set_self (by omega)]; rfl
        rw [e1, e2]
        refine hk.grown sg (ne_row (a := i + 1) (fun i' e => ?_) o0 (by omega))
        simp [Value.ownBlock] at e
        subst e; exact hp
      · have e1 : (G.set j (G.getD j [] ++ [t])).getD i [] = G.getD i [] := by rw [List.getD_eq_getElem?_getD, List.getElem?_set_ne (fun e => hij e.symm), ← List.getD_eq_getElem?_getD]
        have e2 : (vs.set j (.slice (some ⟨p, 0, none⟩) n c)).getD i nilS = vs.getD i nilS := by rw [List.getD_eq_getElem?_getD, List.getElem?_set_ne (fun e => hij e.symm), ← List.getD_eq_getElem?_getD]
        rw [e1, e2]
        exact ((h.inn i hi).grown hg (ne_row (fun b e => h.oi i b hi e) (hjo _ h) (by omega))).grown sg (ne_row (fun b e => h.oi i b hi e) o0 (by omega))
    · intro i b hi e
      rw [List.length_set] at hi
      by_cases hij : i = j
      · subst hij
        have e2 : (vs.set i (.slice (some ⟨p, 0, none⟩) n c)).getD i nilS = .slice (some ⟨p, 0, none⟩) n c := by rw [List.getD_eq_getElem?_getD, List.getElem?_set_self (by omega)]; rfl
        rw [e2] at e
        simp [Value.ownBlock] at e
        subst e; exact hp
      · have e2 : (vs.set j (.slice (some ⟨p, 0, none⟩) n c)).getD i nilS = vs.getD i nilS := by rw [List.getD_eq_getElem?_getD, List.getElem?_set_ne (fun e => hij e.symm), ← List.getD_eq_getElem?_getD]
        rw [e2] at e
        exact h.oi i b hi e
  rcases hl with hl | rfl
  · exact ⟨_, own, main own h (h.oi j p hj hl)⟩
  · exact ⟨_, _, main _ (h.reown (j + 1)) (ownSet_new _ _ _)⟩
theorem IX.row (h : IX B w g cap vs G own) : GRow w (some ⟨g, 0, none⟩) G := by
  intro i hi
  obtain ⟨hc, _⟩ := h.cell hi
  obtain ⟨ao, c, e, hl⟩ := (h.inn i hi).lst
  rw [e] at hc
  rw [getD_lt hi] at hc hl
  rw [natI_len] at hc
  exact ⟨g, 0, ao, c, rfl, h.lt.2, by rw [Nat.zero_add]; exact hc, hl⟩
end
theorem below_set {B : Nat} {w w' : World} (h : Below B w w') {g j : Nat} (hg : B ≤ g) (u : Value) : Below B w (w'.setCell ⟨g, j, none⟩ u) := h.setCell (p := ⟨g, j, none⟩) hg u
theorem below_grown {B : Nat} {w0 w w' : World} {row : Option Nat} (h : Below B w0 w) (hB : B ≤ w.heap.size) (hg : w.grownBy w' row) (hr : ∀ g, row = some g → B ≤ g) : Below B w0 w' := h.grown hg hB hr
/-- All the lists. -/
def lists (f : ArcT → Nat) (Z : List ArcT) (N : Nat) : List (List Nat) := (List.range N).map (places f Z)
theorem lists_len (f : ArcT → Nat) (Z : List ArcT) (N : Nat) : (lists f Z N).length = N := by simp [lists]
theorem lists_nil (f : ArcT → Nat) (N : Nat) : lists f [] N = List.replicate N [] := by
  unfold lists
  apply List.ext_getElem
  · simp
  · intro i h1 h2; simp [places]
theorem lists_at (f : ArcT → Nat) (Z : List ArcT) {N v : Nat} (h : v < N) : (lists f Z N).getD v [] = places f Z v := by
  rw [getD_lt (by rw [lists_len]; exact h)]; simp [lists]
theorem lists_snoc (f : ArcT → Nat) (Z : List ArcT) (a : ArcT) {N : Nat} (h : f a < N) : lists f (Z ++ [a]) N = (lists f Z N).set (f a) ((lists f Z N).getD (f a) [] ++ [Z.length]) := by
  rw [lists_at f Z h]
  apply List.ext_getElem
  · simp [lists]
  · intro i h1 h2
    rw [List.getElem_set]
    have hi : i < N := by simpa [lists] using h1
    simp only [lists, List.getElem_map, List.getElem_range]
    rw [places_snoc]
    by_cases e : f a = i
    · subst e; simp
    · simp [e]
/-- What a call that makes the lists tells. -/
def ListRes (f : ArcT → Nat) (n : Int) (Z : List ArcT) (w : World) (e : Ending) (w' : World) : Prop :=
  ∃ g cap, e = .returned (.tuple #[.slice (some ⟨g, 0, none⟩) n.toNat cap, .int .i64 0]) ∧ GRow w' (some ⟨g, 0, none⟩) (lists f Z n.toNat) ∧ Below w.heap.size w w'
end Go.Proofs.Ytiefphkfddecbaa
