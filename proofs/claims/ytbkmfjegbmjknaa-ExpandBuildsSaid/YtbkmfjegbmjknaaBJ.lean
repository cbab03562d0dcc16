/- Lemmas of the layers below, several texts in one. -/
import Derived.Test.YtbkmfjegbmjknaaBI
import Derived.Test.YtbkmfjegbmjknaaBD
import Derived.Test.YtbkmfjegbmjknaaBG
namespace Go.Proofs.Ytbkmfjegbmjknaa
open Go.RowKit
set_option linter.unusedVariables false

theorem madeI (w : World) (B M : Nat) (hB : B ≤ w.heap.size) (hM : M ≤ 200000) : OwnL encI (w.alloc (.cells (madeCells #[.int .i64 0] M) 3)) B 3 (.slice (some ⟨w.heap.size, 0, none⟩) M M) (List.replicate M 0) := by
  refine ⟨by simp, .inr ⟨w.heap.size, M, _, by rw [List.length_replicate], hB, heap_alloc_new _ _, by simp, by unfold maxLen; omega, by simp [madeCells], ?_⟩⟩
  have h := made_one (.int .i64 0) rfl M
  rw [Nat.mul_one] at h
  rw [show (madeCells #[Value.int .i64 0] M) = madeCells (Value.int .i64 0).cells M from rfl, h]
  simp [encI]
theorem madeB (w : World) (B M : Nat) (hB : B ≤ w.heap.size) (hM : M ≤ 200000) : OwnL encB (w.alloc (.cells (madeCells #[.bool false] M) 4)) B 4 (.slice (some ⟨w.heap.size, 0, none⟩) M M) (List.replicate M false) := by
  refine ⟨by simp, .inr ⟨w.heap.size, M, _, by rw [List.length_replicate], hB, heap_alloc_new _ _, by simp, by unfold maxLen; omega, by simp [madeCells], ?_⟩⟩
  have h := made_one (.bool false) rfl M
  rw [Nat.mul_one] at h
  rw [show (madeCells #[Value.bool false] M) = madeCells (Value.bool false).cells M from rfl, h]
  simp [encB]
theorem atI0 {W : World} {B g N : Nat} (hg : W.heap.size = g) (hB : B ≤ g) (hN : N ≤ 1000) : OwnL encI (W.alloc (.cells (madeCells #[.int .i64 0] N) 3)) B 3 (.slice (some ⟨g, 0, none⟩) N N) (valsO (List.replicate N none)) := by
  subst hg
  rw [show valsO (List.replicate N none) = List.replicate N 0 by unfold valsO; rw [List.map_replicate]; rfl]
  exact madeI W B N hB (by omega)
theorem atB0 {W : World} {B g N : Nat} (hg : W.heap.size = g) (hB : B ≤ g) (hN : N ≤ 1000) : OwnL encB (W.alloc (.cells (madeCells #[.bool false] N) 4)) B 4 (.slice (some ⟨g, 0, none⟩) N N) (isO (List.replicate N none)) := by
  subst hg
  rw [show isO (List.replicate N none) = List.replicate N false by unfold isO; rw [List.map_replicate]; rfl]
  exact madeB W B N hB (by omega)
theorem belowThree (w : World) (x y z : Obj) : Below w.heap.size w (((w.alloc x).alloc y).alloc z) := (((Below.refl _ w).alloc (Nat.le_refl _) x).alloc (by simp) y).alloc (by simp; omega) z
/-- A network whose times are no greater than that. -/
structure TimeNet (Z : List ArcT) (N : Nat) : Prop where
  ends : ∀ a ∈ Z, a.1 = (frN a : Int) ∧ a.2.1 = (toN a : Int)
  lt : ∀ a ∈ Z, frN a < N ∧ toN a < N
  len : Z.length ≤ 1000
  nodes : N ≤ 1000
  times : ∀ a ∈ Z, -1073741824 ≤ tm a ∧ tm a ≤ 1073741824
/-- What From answers. -/
def ReachRes (Z : List ArcT) (F : List Int) (N s : Nat) (w : World) (e : Ending) (w' : World) : Prop :=
  ∃ gd gi, e = .returned (.agg #[.slice (some ⟨gd, 0, none⟩) N N, .slice (some ⟨gi, 0, none⟩) N N, .bool (calmN Z F N s)]) ∧ Lst encI w' (some ⟨gd, 0, none⟩) (valsO (dN Z F N s (N + 1))) ∧ Lst encB w' (some ⟨gi, 0, none⟩) (isO (dN Z F N s (N + 1))) ∧ Below w.heap.size w w'
theorem timeI_tmS {Z : List ArcT} {j : Nat} {a : ArcT} (ha : Z[j]? = some a) (q : Bool) : timeI a q = tmS Z ((j : Int), q) := by
  unfold timeI tmS
  rw [arcOf_nat q ha]
  rfl
theorem tmS_bd {a : ArcT} {q : Bool} {Z : List ArcT} {j : Nat} (ha : Z[j]? = some a) (h : -1073741824 ≤ tm a ∧ tm a ≤ 1073741824) : -1073741824 ≤ tmS Z ((j : Int), q) ∧ tmS Z ((j : Int), q) ≤ 1073741824 := by
  unfold tmS
  rw [arcOf_nat q ha]
  split <;> omega
theorem rows_take {Z : List ArcT} {F : List Int} {i : Nat} {z : StepT} (h : (stepsK Z F Z.length)[i]? = some z) : (rowsR Z F).take (i + 1) = (rowsR Z F).take i ++ [rowS Z z] := by
  unfold rowsR
  obtain ⟨hi, e⟩ := List.getElem?_eq_some_iff.1 h
  rw [List.take_succ_eq_append_getElem (by simpa using hi), List.getElem_map, e]
theorem r3Set {w : World} {g : Nat} {a b c : Value} {t : TypeId} (h : w.heap[g]? = some (.cells #[a, b, c] t (0, 0))) (x y z : Value) :
    (((w.setCell ⟨g, 0, none⟩ x).setCell ⟨g, 1, none⟩ y).setCell ⟨g, 2, none⟩ z).heap[g]? = some (.cells #[x, y, z] t (0, 0)) ∧ Kept (fun i => i = g) w (((w.setCell ⟨g, 0, none⟩ x).setCell ⟨g, 1, none⟩ y).setCell ⟨g, 2, none⟩ z) :=
  ⟨set_whole (set_whole (set_whole h 0 x) 1 y) 2 z, (((Kept.refl (fun i => i = g) w).set (.inl rfl) x).set (.inl rfl) y).set (.inl rfl) z⟩
section
variable (b : Bool) (ao fo : Option Addr) (cap fc : Nat) (Z : List ArcT) (F : List Int)
end
end Go.Proofs.Ytbkmfjegbmjknaa

namespace Go.Proofs.Ytbkmfjegbmjknaa
open Go.RowKit
set_option linter.unusedVariables false

theorem time_of {n : Int} {b : Bool} {Z : List ArcT} (hR : Right (n, b, Z)) : TimeNet Z n.toNat := by
  have hn := nodesE_ok hR.1
  simp only at hn
  refine ⟨fun a ha => ?_, fun a ha => ?_, Nat.le_trans hR.2.1 (by omega), by omega, fun a ha => ?_⟩ <;> obtain ⟨h1, h2, h3, h4, h5, h6⟩ := right_arc hR ha
  · exact ⟨h1, h2⟩
  · exact ⟨h3, h4⟩
  · omega
/-- What is wrong with what Far is asked. -/
def farE (n : Int) (Z : List ArcT) (F : List Int) (s : Int) : Int := if flowE n Z F = 0 then (if nodeB n s = true then (if calmN Z F n.toNat s.toNat = true then 0 else 110) else 1) else flowE n Z F
/-- The times that Far tells. -/
def farO (n : Int) (Z : List ArcT) (F : List Int) (s : Int) : List (Option Int) := if farE n Z F s = 0 then dN Z F n.toNat s.toNat n.toNat else []
/-- What Far answers. -/
def FarRes (n : Int) (Z : List ArcT) (F : List Int) (s : Int) (w : World) (e : Ending) (w' : World) : Prop :=
  ∃ a c a2 c2, e = .returned (.tuple #[.slice a (farO n Z F s).length c, .slice a2 (farO n Z F s).length c2, .int .i64 (farE n Z F s)]) ∧ Lst encI w' a (valsO (farO n Z F s)) ∧ Lst encB w' a2 (isO (farO n Z F s)) ∧ Below w.heap.size w w'
theorem far_no {n : Int} {Z : List ArcT} {F : List Int} {s e0 : Int} (h : farE n Z F s = e0) (h0 : e0 ≠ 0) {w w' : World} (hb : Below w.heap.size w w') : FarRes n Z F s w (.returned (.tuple #[.slice none 0 0, .slice none 0 0, .int .i64 e0])) w' := by
  have hn : farO n Z F s = [] := by unfold farO; rw [if_neg (by rw [h]; exact h0)]
  refine ⟨none, 0, none, 0, by rw [hn, h]; rfl, ?_, ?_, hb⟩
  · rw [hn]; exact Lst.nil _ _
  · rw [hn]; exact Lst.nil _ _
/-- What Free tells. -/
def freeB (n : Int) (Z : List ArcT) (F : List Int) : Bool := if flowE n Z F = 0 then (List.range n.toNat).all (calmN Z F n.toNat) else false
theorem free_iff {n : Int} {Z : List ArcT} {F : List Int} (h : flowE n Z F = 0) : freeB n Z F = true ↔ ∀ v, v < n.toNat → calmN Z F n.toNat v = true := by
  unfold freeB
  rw [if_pos h, List.all_eq_true]
  simp
section
variable (n : Int) (b : Bool) (ao fo : Option Addr) (cap fc : Nat) (Z : List ArcT) (F : List Int)
end
end Go.Proofs.Ytbkmfjegbmjknaa

namespace Go.Proofs.Ytbkmfjegbmjknaa
open Go.RowKit
set_option linter.unusedVariables false

def potB (P : List Int) : Bool := P.all fun x => decide (-1099511627776 ≤ x ∧ x ≤ 1099511627776)
theorem potB_iff {P : List Int} : potB P = true ↔ ∀ (v : Nat) (x : Int), P[v]? = some x → -1099511627776 ≤ x ∧ x ≤ 1099511627776 := by
  unfold potB
  rw [List.all_eq_true]
  constructor
  · intro h v x hx
    simpa using h x (List.mem_of_getElem? hx)
  · intro h x hx
    obtain ⟨v, hv⟩ := List.mem_iff_getElem?.1 hx
    simpa using h v x hv
/-- What is wrong with what Tight is asked. -/
def tightE (n : Int) (Z : List ArcT) (F P : List Int) : Int := if flowE n Z F = 0 then (if (P.length : Int) = n then (if potB P = true then 0 else 1) else 1) else flowE n Z F
/-- Is a step no longer than what the numbers say? -/
def tightS (Z : List ArcT) (P : List Int) (x : StepT) : Bool := decide (atI P (toS Z x) ≤ atI P (fromS Z x) + tmS Z x)
def tightB (n : Int) (Z : List ArcT) (F P : List Int) : Bool := if tightE n Z F P = 0 then (stepsK Z F Z.length).all (tightS Z P) else false
theorem tightE_ok {n : Int} {Z : List ArcT} {F P : List Int} (h : tightE n Z F P = 0) : flowE n Z F = 0 ∧ (P.length : Int) = n ∧ potB P = true := by
  unfold tightE at h
  split at h
  · next h1 =>
    split at h
    · next h2 =>
      split at h
      · next h3 => exact ⟨h1, h2, h3⟩
      · exact absurd h (by decide)
    · exact absurd h (by decide)
  · next h1 => exact absurd h h1
theorem tightB_iff {n : Int} {Z : List ArcT} {F P : List Int} (h : tightE n Z F P = 0) : tightB n Z F P = true ↔ TightF Z F (fun v => atI P v) := by
  unfold tightB
  rw [if_pos h, List.all_eq_true]
  constructor
  · intro ha x h1 h2
    have := ha x ((stepsK_mem (Nat.le_refl _)).2 ⟨h1, h1.2, h2⟩)
    unfold tightS at this
    rwa [decide_eq_true_eq] at this
  · intro ht x hx
    obtain ⟨h1, _, h2⟩ := (stepsK_mem (Nat.le_refl _)).1 hx
    unfold tightS
    rw [decide_eq_true_eq]
    exact ht x h1 h2
section
variable (n : Int) (b : Bool) (ao fo po : Option Addr) (cap fc pc : Nat) (Z : List ArcT) (F P : List Int)
end
end Go.Proofs.Ytbkmfjegbmjknaa

namespace Go.Proofs.Ytbkmfjegbmjknaa
set_option linter.unusedVariables false

def relI (P : List Int) (a : ArcT) : List Int := P.set (toN a) (min (atI P (toN a)) (atI P (frN a) + tm a))
def relAllI (P : List Int) (Y : List ArcT) : List Int := Y.foldl relI P
/-- Is a step no longer than what the numbers say? -/
def tightA (P : List Int) (a : ArcT) : Bool := decide (atI P (toN a) ≤ atI P (frN a) + tm a)
def itI (R : List ArcT) (P : List Int) : Nat → List Int
  | 0 => P
  | k + 1 => relAllI (itI R P k) R
theorem relI_len (P : List Int) (a : ArcT) : (relI P a).length = P.length := by unfold relI; simp
theorem relAllI_len : ∀ (Y : List ArcT) (P : List Int), (relAllI P Y).length = P.length
  | [], P => rfl
  | a :: r, P => by
    show (relAllI (relI P a) r).length = _
    rw [relAllI_len r, relI_len]
theorem itI_len (R : List ArcT) (P : List Int) : ∀ k, (itI R P k).length = P.length
  | 0 => rfl
  | k + 1 => by
    show (relAllI (itI R P k) R).length = _
    rw [relAllI_len, itI_len R P k]
theorem relI_at {P : List Int} {a : ArcT} (h : toN a < P.length) (v : Nat) : atI (relI P a) v = if v = toN a then min (atI P (toN a)) (atI P (frN a) + tm a) else atI P v := by
  unfold relI
  exact atI_set h
theorem relI_same {P : List Int} {a : ArcT} (h : tightA P a = true) : relI P a = P := by
  unfold tightA at h
  rw [decide_eq_true_eq] at h
  unfold relI
  rw [Int.min_eq_left h]
  apply List.ext_getElem
  · simp
  · intro i h1 h2
    rw [List.getElem_set]
    split
    · next e =>
      subst e
      have := atI_get h2
      rw [List.getElem?_eq_getElem h2] at this
      exact (Option.some.inj this).symm
    · rfl
theorem relAllI_same : ∀ (Y : List ArcT) (P : List Int), (∀ a ∈ Y, tightA P a = true) → relAllI P Y = P
  | [], P, _ => rfl
  | a :: r, P, h => by
    show relAllI (relI P a) r = P
    rw [relI_same (h a (by simp))]
    exact relAllI_same r P (fun b hb => h b (by simp [hb]))
theorem relAllI_drop {R : List ArcT} {P : List Int} {k : Nat} (h : ∀ a ∈ R.take k, tightA P a = true) : relAllI P (R.drop k) = relAllI P R := by
  have e : relAllI P R = relAllI (relAllI P (R.take k)) (R.drop k) := by
    unfold relAllI
    rw [← List.foldl_append, List.take_append_drop]
  rw [e, relAllI_same _ _ h]
theorem relAllI_snoc (P : List Int) (Y : List ArcT) (a : ArcT) : relAllI P (Y ++ [a]) = relI (relAllI P Y) a := by unfold relAllI; rw [List.foldl_append]; rfl
theorem relI_le {P : List Int} {a : ArcT} (h : toN a < P.length) (v : Nat) : atI (relI P a) v ≤ atI P v := by
  rw [relI_at h]
  split
  · next e => subst e; omega
  · omega
theorem relAllI_props : ∀ (Y : List ArcT) (P : List Int), (∀ a ∈ Y, toN a < P.length) → (∀ v, atI (relAllI P Y) v ≤ atI P v) ∧ (∀ a ∈ Y, atI (relAllI P Y) (toN a) ≤ atI P (frN a) + tm a)
  | [], P, _ => ⟨fun v => Int.le_refl _, fun a ha => by cases ha⟩
  | b :: r, P, h => by
    have hb := h b (by simp)
    obtain ⟨i1, i2⟩ := relAllI_props r (relI P b) (fun a ha => by rw [relI_len]; exact h a (by simp [ha]))
    show (∀ v, atI (relAllI (relI P b) r) v ≤ atI P v) ∧ (∀ a ∈ b :: r, atI (relAllI (relI P b) r) (toN a) ≤ atI P (frN a) + tm a)
    refine ⟨fun v => Int.le_trans (i1 v) (relI_le hb v), fun a ha => ?_⟩
    rcases List.mem_cons.1 ha with rfl | ha
    · have h1 := i1 (toN a)
      rw [relI_at hb, if_pos rfl] at h1
      omega
    · have h1 := i2 a ha
      have h2 := relI_le hb (frN a)
      omega
/-- What holds of each time, and goes along each step, holds behind a round. -/
theorem relAllI_inv {G : Nat → Int → Prop} {N : Nat} : ∀ (Y : List ArcT) (P : List Int), P.length = N → (∀ a ∈ Y, frN a < N ∧ toN a < N) → (∀ a ∈ Y, ∀ x, G (frN a) x → G (toN a) (x + tm a)) → (∀ v, v < N → G v (atI P v)) → ∀ v, v < N → G v (atI (relAllI P Y) v)
  | [], P, _, _, _, h => h
  | b :: r, P, hl, hY, hG, h => by
    obtain ⟨hf, ht⟩ := hY b (by simp)
    refine relAllI_inv r (relI P b) (by rw [relI_len]; exact hl) (fun a ha => hY a (by simp [ha])) (fun a ha => hG a (by simp [ha])) (fun v hv => ?_)
    rw [relI_at (by rw [hl]; exact ht)]
    split
    · next e =>
      subst e
      rcases Int.le_total (atI P (toN b)) (atI P (frN b) + tm b) with g | g
      · rw [Int.min_eq_left g]; exact h _ hv
      · rw [Int.min_eq_right g]; exact hG b (by simp) _ (h _ hf)
    · exact h v hv
theorem itI_inv {G : Nat → Int → Prop} {N : Nat} {R : List ArcT} {P : List Int} (hl : P.length = N) (hR : ∀ a ∈ R, frN a < N ∧ toN a < N) (hG : ∀ a ∈ R, ∀ x, G (frN a) x → G (toN a) (x + tm a)) (h : ∀ v, v < N → G v (atI P v)) : ∀ k v, v < N → G v (atI (itI R P k) v)
  | 0 => h
  | k + 1 => relAllI_inv R (itI R P k) (by rw [itI_len, hl]) hR hG (itI_inv hl hR hG h k)
theorem itI_le {R : List ArcT} {P : List Int} (hR : ∀ a ∈ R, toN a < P.length) : ∀ (k : Nat) (v : Nat), atI (itI R P k) v ≤ atI P v
  | 0, v => Int.le_refl _
  | k + 1, v => Int.le_trans ((relAllI_props R (itI R P k) (fun a ha => by rw [itI_len]; exact hR a ha)).1 v) (itI_le hR k v)
/-- After so many rounds each way of so many steps has been seen. -/
theorem itI_seen {R : List ArcT} {P : List Int} (hR : ∀ a ∈ R, toN a < P.length) : ∀ (k : Nat) (p : List ArcT) (u v : Nat), (∀ a ∈ p, a ∈ R) → Chain u p v → p.length ≤ k → atI (itI R P k) v ≤ atI P u + costP tm p
  | 0, p, u, v, hp, hc, hl => by
    have : p = [] := List.eq_nil_of_length_eq_zero (by omega)
    subst this
    simp only [Chain] at hc
    subst hc
    simp [costP, itI]
  | k + 1, p, u, v, hp, hc, hl => by
    obtain ⟨r1, r2⟩ := relAllI_props R (itI R P k) (fun a ha => by rw [itI_len]; exact hR a ha)
    show atI (relAllI (itI R P k) R) v ≤ _
    by_cases hlen : p.length ≤ k
    · exact Int.le_trans (r1 v) (itI_seen hR k p u v hp hc hlen)
    · obtain ⟨q, a, rfl, h1, h2⟩ := chain_last hc (by rintro rfl; simp at hlen)
      have h3 := itI_seen hR k q u (frN a) (fun x hx => hp x (by simp [hx])) h1 (by simp at hl; omega)
      have h4 := r2 a (hp a (by simp))
      subst h2
      rw [cost_app]
      have : costP tm [a] = tm a := by simp [costP]
      omega
/-- Where no cycle gains, one round less than there are nodes leaves each step tight. -/
theorem itI_tight {R : List ArcT} {P : List Int} {N : Nat} (hl : P.length = N) (hN : 0 < N) (hR : ∀ a ∈ R, frN a < N ∧ toN a < N)
    (hS : ∀ a ∈ R, ∃ u p, u < N ∧ NoGain R tm u ∧ (∀ b ∈ p, b ∈ R) ∧ Chain u p (frN a) ∧ atI P u + costP tm p ≤ atI (itI R P (N - 1)) (frN a)) : ∀ a ∈ R, tightA (itI R P (N - 1)) a = true := by
  intro a ha
  obtain ⟨u, p, hu, hn, hp, hc, hle⟩ := hS a ha
  have hsub : ∀ b ∈ p ++ [a], b ∈ R := by
    intro b hb
    rcases List.mem_append.1 hb with hb | hb
    · exact hp b hb
    · rw [List.mem_singleton] at hb; subst hb; exact ha
  obtain ⟨q, q1, q2, q3, q4⟩ := shortG hu (fun a ha => (hR a ha).2) hn (p ++ [a]).length (p ++ [a]) (Nat.le_refl _) hsub (chain_snoc hc rfl)
  have h1 := itI_seen (P := P) (fun a ha => by rw [hl]; exact (hR a ha).2) (N - 1) q u (toN a) q2 q3 (by omega)
  rw [cost_app, show costP tm [a] = tm a by simp [costP]] at q4
  unfold tightA
  rw [decide_eq_true_eq]
  omega
/-- What package cost's rounds come to. -/
def SetIs (R : List ArcT) (P : List Int) (b : Bool) (Q : List Int) : Prop :=
  ∃ k, k ≤ P.length ∧ Q = itI R P k ∧ (b = true → ∀ a ∈ R, tightA Q a = true) ∧ (b = false → ∀ j, j < P.length → ∃ a ∈ R, tightA (itI R P j) a = false)
theorem SetIs.len {R : List ArcT} {P Q : List Int} {b : Bool} (h : SetIs R P b Q) : Q.length = P.length := by
  obtain ⟨k, _, e, _⟩ := h
  rw [e, itI_len]
theorem tightA_all {R : List ArcT} {P : List Int} : (∀ a ∈ R, tightA P a = true) ↔ TightP R tm (fun v => atI P v) := by
  unfold TightP tightA
  simp only [decide_eq_true_eq]
theorem zeros_at (N v : Nat) : atI (List.replicate N 0) v = 0 := by
  unfold atI
  rw [List.getD_eq_getElem?_getD, List.getElem?_replicate]
  split <;> rfl
/-- The rounds from nothing say whether there is a cycle that gains. -/
theorem set_free {n : Int} {Z : List ArcT} {F : List Int} {N : Nat} {b : Bool} {Q : List Int} (h : flowE n Z F = 0) (hn : n.toNat = N) (hZ : ∀ a ∈ Z, frN a < N ∧ toN a < N) (hs : SetIs (rowsR Z F) (List.replicate N 0) b Q) : b = freeB n Z F := by
  have hR := rowsR_to (F := F) hZ
  have hfi := free_iff h
  rw [hn] at hfi
  obtain ⟨k, hk, e, h1, h2⟩ := hs
  have hcn : ∀ v, v < N → (calmN Z F N v = true ↔ NoGainF Z F v) := fun v hv => calmN_iff hZ hv
  cases b with
  | true =>
    symm
    rw [hfi]
    intro v hv
    rw [hcn v hv]
    exact tight_noGain (tightA_all.1 (h1 rfl)) v
  | false =>
    cases hf : freeB n Z F with
    | false => rfl
    | true =>
      exfalso
      have hng : ∀ v, v < N → NoGain (rowsR Z F) tm v := fun v hv => (hcn v hv).1 (hfi.1 hf v hv)
      by_cases hN : 0 < N
      · have hinv := itI_inv (G := fun v x => ∃ u p, u < N ∧ (∀ b ∈ p, b ∈ rowsR Z F) ∧ Chain u p v ∧ costP tm p = x) (N := N) (R := rowsR Z F) (P := List.replicate N 0) (by simp) hR
          (fun a ha x hx => by
            obtain ⟨u, p, hu, hp, hc, rfl⟩ := hx
            refine ⟨u, p ++ [a], hu, ?_, chain_snoc hc rfl, by rw [cost_app]; simp [costP]⟩
            intro b hb
            rcases List.mem_append.1 hb with hb | hb
            · exact hp b hb
            · rw [List.mem_singleton] at hb; subst hb; exact ha)
          (fun v hv => ⟨v, [], hv, by simp, rfl, by rw [zeros_at]; simp [costP]⟩)
        have ht := itI_tight (R := rowsR Z F) (P := List.replicate N 0) (N := N) (by simp) hN hR (fun a ha => by
          obtain ⟨u, p, hu, hp, hc, hx⟩ := hinv (N - 1) (frN a) (hR a ha).1
          exact ⟨u, p, hu, hng u hu, hp, hc, by rw [zeros_at, hx]; omega⟩)
        obtain ⟨a, ha, hf2⟩ := h2 rfl (N - 1) (by simp; omega)
        rw [ht a ha] at hf2
        cases hf2
      · obtain ⟨hR2, _, _, _, g1, g2⟩ := flow_facts (b := true) h
        omega
/-! From a node: times ahead, and who is come to -/
def isLev (D : List Int) : List Bool := D.map fun d => d != -1
def hopsT (D : List Int) : List Int := D.map fun d => if d = -1 then 0 else d * 1048576
theorem isLev_len (D : List Int) : (isLev D).length = D.length := by simp [isLev]
theorem hopsT_len (D : List Int) : (hopsT D).length = D.length := by simp [hopsT]
def isAt (B : List Bool) (v : Nat) : Bool := B.getD v false
theorem isAt_get {B : List Bool} {v : Nat} (h : v < B.length) : B[v]? = some (isAt B v) := by
  unfold isAt; rw [List.getD_eq_getElem?_getD, List.getElem?_eq_getElem h]; rfl
theorem isLev_at {D : List Int} {v : Nat} (h : v < D.length) : isAt (isLev D) v = (atI D v != -1) := by
  unfold isAt isLev atI
  rw [List.getD_eq_getElem?_getD, List.getD_eq_getElem?_getD, List.getElem?_map, List.getElem?_eq_getElem h]
  rfl
theorem hopsT_at {D : List Int} {v : Nat} (h : v < D.length) : atI (hopsT D) v = if atI D v = -1 then 0 else atI D v * 1048576 := by
  unfold hopsT atI
  rw [List.getD_eq_getElem?_getD, List.getD_eq_getElem?_getD, List.getElem?_map, List.getElem?_eq_getElem h]
  rfl
/-- The steps that begin where one comes to. -/
def leadR (R : List ArcT) (B : List Bool) : List ArcT := R.filter fun a => isAt B (frN a)
theorem leadR_mem {R : List ArcT} {B : List Bool} {a : ArcT} : a ∈ leadR R B ↔ a ∈ R ∧ isAt B (frN a) = true := by unfold leadR; rw [List.mem_filter]
/-- Steps that are one behind the other, as arcs. -/
theorem walk_rows {Z : List ArcT} {p : List StepT} {u v : Nat} : Walk (fromS Z) (toS Z) u p v ↔ Chain u (p.map (rowS Z)) v := by
  induction p generalizing u with
  | nil => simp [Walk, Chain]
  | cons a r ih => simp only [Walk, List.map_cons, Chain, rowS_fr, rowS_to, ih]
theorem rows_lift {Z : List ArcT} {F : List Int} : ∀ (q : List ArcT), (∀ a ∈ q, a ∈ rowsR Z F) → ∃ p : List StepT, (∀ s ∈ p, s ∈ stepsK Z F Z.length) ∧ p.map (rowS Z) = q
  | [], _ => ⟨[], by simp, rfl⟩
  | a :: r, h => by
    obtain ⟨p, h1, h2⟩ := rows_lift r (fun b hb => h b (by simp [hb]))
    have ha := h a (by simp)
    unfold rowsR at ha
    obtain ⟨s, hs, e⟩ := List.mem_map.1 ha
    refine ⟨s :: p, fun x hx => ?_, by rw [List.map_cons, h2, e]⟩
    rcases List.mem_cons.1 hx with rfl | hx
    · exact hs
    · exact h1 x hx
theorem arcR_lift {Z : List ArcT} {L : List StepT} : ∀ (q : List ArcT), (∀ a ∈ q, a ∈ L.map (arcR (fromS Z) (toS Z))) → ∃ p : List StepT, (∀ s ∈ p, s ∈ L) ∧ p.map (arcR (fromS Z) (toS Z)) = q
  | [], _ => ⟨[], by simp, rfl⟩
  | a :: r, h => by
    obtain ⟨p, h1, h2⟩ := arcR_lift r (fun b hb => h b (by simp [hb]))
    obtain ⟨s, hs, e⟩ := List.mem_map.1 (h a (by simp))
    refine ⟨s :: p, fun x hx => ?_, by rw [List.map_cons, h2, e]⟩
    rcases List.mem_cons.1 hx with rfl | hx
    · exact hs
    · exact h1 x hx
/-- What levels say: a way of so many steps, or none at all. -/
theorem lev_way {Z : List ArcT} {F : List Int} {N s : Nat} {D : List Int} (h : IsDist ((stepsK Z F Z.length).map (arcR (fromS Z) (toS Z))) one s N D) {v : Nat} (hv : v < N) :
    (atI D v = -1 ∧ ∀ p, (∀ a ∈ p, a ∈ rowsR Z F) → ¬ Chain s p v) ∨ (0 ≤ atI D v ∧ ∃ p, (∀ a ∈ p, a ∈ rowsR Z F) ∧ Chain s p v ∧ (p.length : Int) = atI D v) := by
  rcases h.at_ v hv with ⟨h1, h2⟩ | ⟨h1, ⟨p, p1, p2, p3⟩, _⟩
  · left
    refine ⟨h1, fun q hq hc => ?_⟩
    obtain ⟨p, p1, rfl⟩ := rows_lift q hq
    have hw := walk_chain.1 (walk_rows.2 hc)
    exact h2 _ ⟨_, fun a ha => by
      obtain ⟨s, hs, rfl⟩ := List.mem_map.1 ha
      exact List.mem_map.2 ⟨s, p1 s hs, rfl⟩, hw, rfl⟩
  · right
    refine ⟨h1, ?_⟩
    obtain ⟨q, q1, rfl⟩ := arcR_lift p p1
    refine ⟨q.map (rowS Z), fun a ha => ?_, walk_rows.1 (walk_chain.2 p2), ?_⟩
    · obtain ⟨s, hs, rfl⟩ := List.mem_map.1 ha
      unfold rowsR
      exact List.mem_map.2 ⟨s, q1 s hs, rfl⟩
    · rw [← p3, cost_one]; simp
theorem cost_le {p : List ArcT} {c : ArcT → Int} {k : Int} (h : ∀ a ∈ p, c a ≤ k) : costP c p ≤ p.length * k := by
  induction p with
  | nil => simp [costP]
  | cons a r ih =>
    have h1 := ih (fun b hb => h b (by simp [hb]))
    have h2 := h a (by simp)
    unfold costP at h1 ⊢
    rw [List.map_cons, List.sum_cons, List.length_cons, Int.natCast_succ, Int.add_mul]
    omega
/-- The rounds from a node's levels tell the least times, or that a cycle gains. -/
theorem set_far {Z : List ArcT} {F : List Int} {N s : Nat} {D : List Int} {b : Bool} {Q : List Int} (hZ : ∀ a ∈ Z, frN a < N ∧ toN a < N) (hT : ∀ a ∈ rowsR Z F, tm a ≤ 1048576) (hs : s < N) (hD : IsDist ((stepsK Z F Z.length).map (arcR (fromS Z) (toS Z))) one s N D)
    (h : SetIs (leadR (rowsR Z F) (isLev D)) (hopsT D) b Q) : b = calmN Z F N s ∧ (b = true → valsO (dN Z F N s N) = Q ∧ isO (dN Z F N s N) = isLev D) := by
  have hlD : D.length = N := hD.len
  have hR := rowsR_to (F := F) hZ
  have hLR : ∀ a ∈ leadR (rowsR Z F) (isLev D), frN a < N ∧ toN a < N := fun a ha => hR a (leadR_mem.1 ha).1
  have hlP : (hopsT D).length = N := by rw [hopsT_len, hlD]
  have hat : ∀ v, v < N → isAt (isLev D) v = (atI D v != -1) := fun v hv => isLev_at (by rw [hlD]; exact hv)
  have hsP : atI D s = 0 := by
    rcases hD.at_ s hs with ⟨_, h2⟩ | ⟨h1, _, h3⟩
    · exact absurd (reach_self _ _ _) (h2 0)
    · have := h3 0 (reach_self _ _ _); omega
  have hP0 : atI (hopsT D) s = 0 := by rw [hopsT_at (by rw [hlD]; exact hs), hsP]; rfl
  -- who is come to by a way has a level, and so have all on the way
  have come : ∀ v, v < N → ∀ p, (∀ a ∈ p, a ∈ rowsR Z F) → Chain s p v → isAt (isLev D) v = true := by
    intro v hv p hp hc
    rw [hat v hv]
    rcases lev_way hD hv with ⟨_, h2⟩ | ⟨h1, _⟩
    · exact absurd hc (h2 p hp)
    · simp; omega
  have lift : ∀ p v, (∀ a ∈ p, a ∈ rowsR Z F) → Chain s p v → ∀ a ∈ p, a ∈ leadR (rowsR Z F) (isLev D) := by
    intro p v hp hc a ha
    obtain ⟨q, r, rfl⟩ := List.append_of_mem ha
    obtain ⟨m, c1, c2⟩ := chain_app.1 hc
    have e : frN a = m := c2.1
    subst e
    exact leadR_mem.2 ⟨hp a ha, come _ (hR a (hp a ha)).1 q (fun x hx => hp x (by simp [hx])) c1⟩
  have tostep : ∀ a ∈ leadR (rowsR Z F) (isLev D), isAt (isLev D) (toN a) = true := by
    intro a ha
    obtain ⟨h1, h2⟩ := leadR_mem.1 ha
    rw [hat _ (hR a h1).1] at h2
    rcases lev_way hD (hR a h1).1 with ⟨e, _⟩ | ⟨_, p, p1, p2, _⟩
    · rw [e] at h2; cases h2
    · refine come _ (hR a h1).2 (p ++ [a]) (fun x hx => ?_) (chain_snoc p2 rfl)
      rcases List.mem_append.1 hx with hx | hx
      · exact p1 x hx
      · rw [List.mem_singleton] at hx; subst hx; exact h1
  -- no gaining cycle of the steps that lead, just if there is none at all that is come to
  have gain : NoGain (leadR (rowsR Z F) (isLev D)) tm s ↔ NoGainF Z F s := by
    constructor
    · intro hn p q u hp hc hq hcq
      have hpq : ∀ a ∈ p ++ q, a ∈ rowsR Z F := fun a ha => by
        rcases List.mem_append.1 ha with ha | ha
        · exact hp a ha
        · exact hq a ha
      have hl := lift (p ++ q) u hpq (chain_app.2 ⟨u, hc, hcq⟩)
      exact hn p q u (fun a ha => hl a (by simp [ha])) hc (fun a ha => hl a (by simp [ha])) hcq
    · intro hn p q u hp hc hq hcq
      exact hn p q u (fun a ha => (leadR_mem.1 (hp a ha)).1) hc (fun a ha => (leadR_mem.1 (hq a ha)).1) hcq
  have hci : calmN Z F N s = true ↔ NoGain (leadR (rowsR Z F) (isLev D)) tm s := by rw [gain]; exact calmN_iff hZ hs
  -- each time is no less than that of a way
  have sound := itI_inv (G := fun v x => (isAt (isLev D) v = true → ∃ p, (∀ a ∈ p, a ∈ leadR (rowsR Z F) (isLev D)) ∧ Chain s p v ∧ costP tm p ≤ x) ∧ (isAt (isLev D) v = false → x = 0)) (N := N) (R := leadR (rowsR Z F) (isLev D)) (P := hopsT D) hlP hLR
    (fun a ha x hx => by
      refine ⟨fun _ => ?_, fun h0 => ?_⟩
      · obtain ⟨p, p1, p2, p3⟩ := hx.1 (leadR_mem.1 ha).2
        refine ⟨p ++ [a], fun b hb => ?_, chain_snoc p2 rfl, by rw [cost_app, show costP tm [a] = tm a by simp [costP]]; omega⟩
        rcases List.mem_append.1 hb with hb | hb
        · exact p1 b hb
        · rw [List.mem_singleton] at hb; subst hb; exact ha
      · rw [tostep a ha] at h0; cases h0)
    (fun v hv => by
      rw [hat v hv, hopsT_at (by rw [hlD]; exact hv)]
      rcases lev_way hD hv with ⟨e, _⟩ | ⟨h1, p, p1, p2, p3⟩
      · rw [e]
        exact ⟨fun h => (by cases h), fun _ => rfl⟩
      · refine ⟨fun _ => ⟨p, lift p v p1 p2, p2, ?_⟩, fun h => by simp at h; omega⟩
        rw [if_neg (by omega), ← p3]
        exact cost_le (fun a ha => hT a (p1 a ha)))
  obtain ⟨k, hk, e, h1, h2⟩ := h
  cases b with
  | true =>
    have ht := h1 rfl
    have hng := tight_noGain (tightA_all.1 ht) s
    have hcalm := hci.2 hng
    refine ⟨hcalm.symm, fun _ => ?_⟩
    have hfar := (calmN_far hZ hs hcalm).2
    have hQs : atI Q s ≤ 0 := by
      have := itI_le (R := leadR (rowsR Z F) (isLev D)) (P := hopsT D) (fun a ha => by rw [hlP]; exact (hLR a ha).2) k s
      rw [← e, hP0] at this
      exact this
    have least : ∀ p v, (∀ a ∈ p, a ∈ rowsR Z F) → Chain s p v → atI Q v ≤ costP tm p := by
      intro p v hp hc
      have := tight_chain (tightA_all.1 ht) p s v (lift p v hp hc) hc
      omega
    have hQl : Q.length = N := by rw [e, itI_len, hlP]
    have hdl := hfar.len
    have key : ∀ v, v < N → getO (dN Z F N s N) v = if isAt (isLev D) v = true then some (atI Q v) else none := by
      intro v hv
      obtain ⟨s1, s2⟩ := sound k v hv
      rw [← e] at s1 s2
      rcases hfar.at_ v hv with ⟨g1, g2⟩ | ⟨x, g1, ⟨p, p1, p2, p3⟩, g3⟩
      · rw [g1, if_neg]
        intro hb
        obtain ⟨p, p1, p2, _⟩ := s1 hb
        exact g2 _ ⟨p, fun a ha => (leadR_mem.1 (p1 a ha)).1, p2, rfl⟩
      · have hb := come v hv p p1 p2
        rw [if_pos hb, g1]
        obtain ⟨q, q1, q2, q3⟩ := s1 hb
        have l1 := least p v p1 p2
        have l2 := g3 _ ⟨q, fun a ha => (leadR_mem.1 (q1 a ha)).1, q2, rfl⟩
        congr 1
        omega
    constructor
    · apply List.ext_getElem?
      intro v
      by_cases hv : v < N
      · rw [valsO_at (by rw [hdl]; exact hv), atI_get (d := Q) (by rw [hQl]; exact hv), key v hv]
        split
        · rfl
        · next hb =>
          have := (sound k v hv).2 (by simpa using hb)
          rw [← e] at this
          rw [this]
          rfl
      · rw [List.getElem?_eq_none (by rw [valsO_len, hdl]; omega), List.getElem?_eq_none (by rw [hQl]; omega)]
    · apply List.ext_getElem?
      intro v
      by_cases hv : v < N
      · rw [isO_at (by rw [hdl]; exact hv), isAt_get (by rw [isLev_len, hlD]; exact hv), key v hv]
        cases isAt (isLev D) v <;> rfl
      · rw [List.getElem?_eq_none (by rw [isO_len, hdl]; omega), List.getElem?_eq_none (by rw [isLev_len, hlD]; omega)]
  | false =>
    refine ⟨?_, fun h => by cases h⟩
    cases hc : calmN Z F N s with
    | false => rfl
    | true =>
      exfalso
      have hng := hci.1 hc
      have ht := itI_tight (R := leadR (rowsR Z F) (isLev D)) (P := hopsT D) (N := N) hlP (by omega) hLR (fun a ha => by
        obtain ⟨p, p1, p2, p3⟩ := (sound (N - 1) (frN a) (hLR a ha).1).1 (leadR_mem.1 ha).2
        exact ⟨s, p, hs, hng, p1, p2, by rw [hP0]; omega⟩)
      obtain ⟨a, ha, hf2⟩ := h2 rfl (N - 1) (by rw [hlP]; omega)
      rw [ht a ha] at hf2
      cases hf2
/-! How far the numbers go -/
def BdI (P : List Int) (u : Nat) : Prop := ∀ v, -(u * 1073741824 : Int) ≤ atI P v ∧ atI P v ≤ u * 1073741824
theorem BdI.rel {P : List Int} {u : Nat} {a : ArcT} (h : BdI P u) (hc : -1073741824 ≤ tm a ∧ tm a ≤ 1073741824) (hto : toN a < P.length) : BdI (relI P a) (u + 1) := by
  intro v
  rw [relI_at hto]
  have h1 := h (frN a)
  have h2 := h (toN a)
  have h3 := h v
  generalize atI P (frN a) = x at *
  generalize atI P (toN a) = y at *
  generalize atI P v = z at *
  generalize tm a = t at *
  split <;> omega
theorem BdI.relAll : ∀ (Y : List ArcT) (P : List Int) (u : Nat), BdI P u → (∀ a ∈ Y, (-1073741824 ≤ tm a ∧ tm a ≤ 1073741824) ∧ toN a < P.length) → BdI (relAllI P Y) (u + Y.length) := by
  intro Y
  induction Y with
  | nil => intro P u h _; exact h
  | cons a r ih =>
    intro P u h hY
    obtain ⟨h1, h2⟩ := hY a (by simp)
    have := ih (relI P a) (u + 1) (h.rel h1 h2) (fun b hb => by rw [relI_len]; exact hY b (by simp [hb]))
    rw [List.length_cons, show u + (r.length + 1) = u + 1 + r.length by omega]
    exact this
theorem BdI.it {R : List ArcT} {P : List Int} {u : Nat} (h : BdI P u) (hR : ∀ a ∈ R, (-1073741824 ≤ tm a ∧ tm a ≤ 1073741824) ∧ toN a < P.length) : ∀ k, BdI (itI R P k) (u + k * R.length)
  | 0 => by rw [Nat.zero_mul]; exact h
  | k + 1 => by
    have := BdI.relAll R _ _ (BdI.it h hR k) (fun a ha => by rw [itI_len]; exact hR a ha)
    rw [Nat.succ_mul, ← Nat.add_assoc]
    exact this
theorem BdI.zeros (N : Nat) : BdI (List.replicate N 0) 0 := by
  intro v
  rw [zeros_at]
  simp
theorem BdO.relaxAll : ∀ (Y : List ArcT) (d : List (Option Int)) (u : Nat), BdO d u → (∀ a ∈ Y, (-1073741824 ≤ tm a ∧ tm a ≤ 1073741824) ∧ toN a < d.length) → BdO (relaxAllO tm Y d) (u + Y.length) := by
  intro Y
  induction Y with
  | nil => intro d u h _; exact h
  | cons a r ih =>
    intro d u h hY
    obtain ⟨h1, h2⟩ := hY a (by simp)
    have := ih (relaxO tm d a) (u + 1) (h.relax (c := tm) h1 h2) (fun b hb => by rw [relaxO_len]; exact hY b (by simp [hb]))
    rw [List.length_cons, show u + (r.length + 1) = u + 1 + r.length by omega]
    exact this
theorem BdO.bell {R : List ArcT} {N s : Nat} (hR : ∀ a ∈ R, (-1073741824 ≤ tm a ∧ tm a ≤ 1073741824) ∧ toN a < N) : ∀ k, BdO (bellK tm R N s k) (k * R.length)
  | 0 => by rw [Nat.zero_mul]; exact BdO.start N s
  | k + 1 => by
    have := BdO.relaxAll R _ _ (BdO.bell (s := s) hR k) (fun a ha => by rw [bellK_len]; exact hR a ha)
    rw [Nat.succ_mul]
    exact this
end Go.Proofs.Ytbkmfjegbmjknaa
