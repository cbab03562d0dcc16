/- Lemmas of the layers below that one statement more needs. -/
import Derived.Test.YtbkmfjegbmjknaaBA
import Derived.Test.YtbkmfjegbmjknaaBF
import Derived.Below
import Derived.BigQuiet
import Derived.Deep.Draws
import Derived.Deep.QuietTactic
import Derived.Deep.RegionHeld3
import Derived.Deep.RegionWith
import Derived.IntWalk
import Derived.Laws.BitsAllLaws
import Derived.Laws.BitsLemmas
import Derived.Laws.StructEq
import Derived.Lib.Hide
import Derived.LoopTactic
import Derived.Maps.AppendAt
import Derived.OwnWalk
import Derived.Sort.Grow
import Derived.Sort.LotA
import Derived.WalkKit
namespace Go.Proofs.Ytbkmfjegbmjknaa
open Go.RowKit
set_option linter.unusedVariables false
end Go.Proofs.Ytbkmfjegbmjknaa
namespace Go.Proofs.Ytbkmfjegbmjknaa
open Go.RowKit
set_option linter.unusedVariables false
section
variable {α : Type} {enc : α → List Value} {k : Nat}
end
end Go.Proofs.Ytbkmfjegbmjknaa
namespace Go.Proofs.Ytbkmfjegbmjknaa
open Go.RowKit
set_option linter.unusedVariables false
end Go.Proofs.Ytbkmfjegbmjknaa
namespace Go.Proofs.Ytbkmfjegbmjknaa
set_option linter.unusedVariables false
end Go.Proofs.Ytbkmfjegbmjknaa
namespace Go.Proofs.Ytbkmfjegbmjknaa
open Go.RowKit Go.Sort
set_option linter.unusedVariables false
end Go.Proofs.Ytbkmfjegbmjknaa
namespace Go.Proofs.Ytbkmfjegbmjknaa
open Go.Sort
set_option linter.unusedVariables false
end Go.Proofs.Ytbkmfjegbmjknaa
namespace Go.Proofs.Ytbkmfjegbmjknaa
set_option linter.unusedVariables false
section
variable {Z : List ArcT} {N s : Nat} {d : List Int} {Q D T : List Nat} {K : Int}
end
section
variable {Z : List ArcT} {N s : Nat} {d : List Int} {L : List (Int × Int)} {D used T : List Nat} {K : Int}
end
end Go.Proofs.Ytbkmfjegbmjknaa
namespace Go.Proofs.Ytbkmfjegbmjknaa
set_option linter.unusedVariables false
end Go.Proofs.Ytbkmfjegbmjknaa
namespace Go.Proofs.Ytbkmfjegbmjknaa
set_option linter.unusedVariables false
def outS (S : Nat → Bool) (a : ArcT) : Bool := S (frN a) && !S (toN a)
def intoS (S : Nat → Bool) (a : ArcT) : Bool := !S (frN a) && S (toN a)
def crossK (Z : List ArcT) (f : List Int) (S : Nat → Bool) : Nat → Int
  | 0 => 0
  | i + 1 => crossK Z f S i + match Z[i]? with | some a => (if outS S a then atI f i else 0) - (if intoS S a then atI f i else 0) | none => 0
def capK (Z : List ArcT) (S : Nat → Bool) : Nat → Int
  | 0 => 0
  | i + 1 => capK Z S i + match Z[i]? with | some a => if outS S a then capN a else 0 | none => 0
def capS (Z : List ArcT) (S : Nat → Bool) : Int := capK Z S Z.length
theorem crossK_succ {Z : List ArcT} {f : List Int} {S : Nat → Bool} {i : Nat} {a : ArcT} (h : Z[i]? = some a) : crossK Z f S (i + 1) = crossK Z f S i + ((if outS S a then atI f i else 0) - (if intoS S a then atI f i else 0)) := by
  show crossK Z f S i + _ = _
  rw [h]
theorem capK_succ {Z : List ArcT} {S : Nat → Bool} {i : Nat} {a : ArcT} (h : Z[i]? = some a) : capK Z S (i + 1) = capK Z S i + if outS S a then capN a else 0 := by
  show capK Z S i + _ = _
  rw [h]
theorem side_share {a : ArcT} {x : Int} {S : Nat → Bool} {N : Nat} (hf : frN a < N) (ht : toN a < N) : sumTo (fun v => if S v then share a x v else 0) N = (if outS S a then x else 0) - (if intoS S a then x else 0) := by
  have e : sumTo (fun v => if S v then share a x v else 0) N = sumTo (fun v => (if frN a = v then (if S (frN a) then x else 0) else 0) + (if toN a = v then (if S (toN a) then -x else 0) else 0)) N := sumTo_congr (fun v _ => by
    unfold share
    by_cases h1 : frN a = v
    · subst h1
      by_cases h2 : toN a = frN a
      · rw [if_pos rfl, if_pos h2, if_pos rfl, if_pos h2, h2]; split <;> omega
      · rw [if_pos rfl, if_neg h2, if_pos rfl, if_neg h2]; split <;> omega
    · by_cases h2 : toN a = v
      · subst h2; rw [if_neg h1, if_pos rfl, if_neg h1, if_pos rfl]; split <;> omega
      · rw [if_neg h1, if_neg h2, if_neg h1, if_neg h2]; simp)
  rw [e, sumTo_add, sumTo_one, sumTo_one, if_pos hf, if_pos ht]
  unfold outS intoS
  cases S (frN a) <;> cases S (toN a) <;> simp <;> omega
theorem side_sum {Z : List ArcT} {f : List Int} {S : Nat → Bool} {N : Nat} (hZ : ∀ a ∈ Z, frN a < N ∧ toN a < N) : ∀ i, sumTo (fun v => if S v then balK Z f v i else 0) N = crossK Z f S i
  | 0 => by
    rw [sumTo_congr (h := fun _ => 0) (fun v _ => by simp [balK])]
    exact sumTo_zero N
  | i + 1 => by
    cases hz : Z[i]? with
    | none =>
      rw [sumTo_congr (h := fun v => if S v then balK Z f v i else 0) (fun v _ => by
        have e : balK Z f v (i + 1) = balK Z f v i := by show balK Z f v i + _ = _; rw [hz]; simp
        rw [e]), side_sum hZ i]
      show _ = crossK Z f S i + _
      rw [hz]; simp
    | some a =>
      have ha := hZ a (List.mem_of_getElem? hz)
      rw [sumTo_congr (h := fun v => (if S v then balK Z f v i else 0) + (if S v then share a (atI f i) v else 0)) (fun v _ => by rw [balK_succ hz]; split <;> omega), sumTo_add, side_sum hZ i, side_share ha.1 ha.2, crossK_succ hz]
theorem cross_le {Z : List ArcT} {f : List Int} {S : Nat → Bool} (hf : Flow Z f) : ∀ i, crossK Z f S i ≤ capK Z S i
  | 0 => Int.le_refl _
  | i + 1 => by
    have ih := cross_le (S := S) hf i
    cases hz : Z[i]? with
    | none =>
      show crossK Z f S i + _ ≤ capK Z S i + _
      rw [hz]
      simpa using ih
    | some a =>
      rw [crossK_succ hz, capK_succ hz]
      have := hf.2 i a hz
      split <;> split <;> omega
theorem cross_eq {Z : List ArcT} {f : List Int} {S : Nat → Bool} (h : ∀ i a, Z[i]? = some a → (outS S a = true → atI f i = capN a) ∧ (intoS S a = true → atI f i = 0)) : ∀ i, crossK Z f S i = capK Z S i
  | 0 => rfl
  | i + 1 => by
    have ih := cross_eq h i
    cases hz : Z[i]? with
    | none =>
      show crossK Z f S i + _ = capK Z S i + _
      rw [hz, ih]
    | some a =>
      rw [crossK_succ hz, capK_succ hz, ih]
      obtain ⟨h1, h2⟩ := h i a hz
      have h3 : outS S a = true → intoS S a = true → False := by unfold outS intoS; cases S (frN a) <;> cases S (toN a) <;> simp
      by_cases ho : outS S a = true
      · have hi : ¬ intoS S a = true := fun q => h3 ho q
        rw [if_pos ho, if_pos ho, if_neg hi, h1 ho]; omega
      · rw [if_neg ho, if_neg ho]
        by_cases hi : intoS S a = true
        · rw [if_pos hi, h2 hi]; rfl
        · rw [if_neg hi]; rfl
def SideST (S : Nat → Bool) (s t : Nat) : Prop := S s = true ∧ S t = false
theorem side_value {Z : List ArcT} {N s t : Nat} {f : List Int} {k : Int} {S : Nat → Bool} (hZ : ∀ a ∈ Z, frN a < N ∧ toN a < N) (hs : s < N) (h : FlowST Z N s t f k) (hS : SideST S s t) : crossK Z f S Z.length = k := by
  rw [← side_sum hZ Z.length, sumTo_congr (h := fun v => if s = v then k else 0) (fun v hv => ?_), sumTo_one, if_pos hs]
  by_cases h1 : s = v
  · subst h1
    rw [if_pos hS.1, if_pos rfl]
    exact h.2.2
  · rw [if_neg h1]
    by_cases h2 : v = t
    · subst h2; rw [hS.2]; rfl
    · have := h.2.1 v hv (fun q => h1 q.symm) h2
      unfold bal at this
      rw [this]
      split <;> rfl
theorem weak {Z : List ArcT} {N s t : Nat} {f : List Int} {k : Int} {S : Nat → Bool} (hZ : ∀ a ∈ Z, frN a < N ∧ toN a < N) (hs : s < N) (h : FlowST Z N s t f k) (hS : SideST S s t) : k ≤ capS Z S := by
  rw [← side_value hZ hs h hS]
  exact cross_le h.1 _
def IsMost (Z : List ArcT) (N s t : Nat) (k : Int) : Prop := (∃ f, FlowST Z N s t f k) ∧ ∃ S, SideST S s t ∧ capS Z S = k
theorem isMost_of {Z : List ArcT} {N s t : Nat} {k : Int} {f : List Int} {S : Nat → Bool} (hZ : ∀ a ∈ Z, frN a < N ∧ toN a < N) (hs : s < N) (h : FlowST Z N s t f k) (hS : SideST S s t)
    (hn : ∀ x : StepT, isArc Z x → 0 < leftS Z f x → S (fromS Z x) = true → S (toS Z x) = true) : IsMost Z N s t k := by
  refine ⟨⟨f, h⟩, S, hS, ?_⟩
  rw [← side_value hZ hs h hS]
  symm
  refine cross_eq (fun i a hi => ?_) Z.length
  have hlt : i < Z.length := (List.getElem?_eq_some_iff.1 hi).1
  have hb := h.1.2 i a hi
  have ea : ∀ b : Bool, arcOf Z ((i : Int), b) = a := by
    intro b; unfold arcOf; rw [Int.toNat_natCast, List.getD_eq_getElem?_getD, hi]; rfl
  have hx : ∀ b : Bool, isArc Z ((i : Int), b) := fun b => ⟨by simp, by simp only; omega⟩
  constructor
  · intro ho
    unfold outS at ho
    simp only [Bool.and_eq_true, Bool.not_eq_true'] at ho
    refine Classical.byContradiction fun hne => ?_
    have := hn ((i : Int), false) (hx false) (by unfold leftS; simp only [Bool.false_eq_true, if_false, Int.toNat_natCast, ea]; omega) (by unfold fromS; simp only [Bool.false_eq_true, if_false, ea]; exact ho.1)
    unfold toS at this
    simp only [Bool.false_eq_true, if_false, ea] at this
    rw [ho.2] at this
    cases this
  · intro ho
    unfold intoS at ho
    simp only [Bool.and_eq_true, Bool.not_eq_true'] at ho
    refine Classical.byContradiction fun hne => ?_
    have := hn ((i : Int), true) (hx true) (by unfold leftS; simp only [if_true, Int.toNat_natCast]; omega) (by unfold fromS; simp only [if_true, ea]; exact ho.2)
    unfold toS at this
    simp only [if_true, ea] at this
    rw [ho.1] at this
    cases this
end Go.Proofs.Ytbkmfjegbmjknaa
namespace Go.Proofs.Ytbkmfjegbmjknaa
set_option linter.unusedVariables false
section
variable {fr to : StepT → Nat} {l : List StepT} {s0 : Nat}
end
end Go.Proofs.Ytbkmfjegbmjknaa
namespace Go.Proofs.Ytbkmfjegbmjknaa
set_option linter.unusedVariables false
section
variable {fr to : StepT → Nat} {l : List StepT} {s0 : Nat}
end
theorem botA_snoc (Z : List ArcT) (f : List Int) (k : Int) (l : List StepT) (x : StepT) : botA Z f k (l ++ [x]) = min (botA Z f k l) (leftS Z f x) := by simp [botA]
end Go.Proofs.Ytbkmfjegbmjknaa
namespace Go.Proofs.Ytbkmfjegbmjknaa
set_option linter.unusedVariables false
theorem side_full {Z : List ArcT} {N s t : Nat} {k : Int} {f : List Int} {S : Nat → Bool} (hZ : ∀ a ∈ Z, frN a < N ∧ toN a < N) (hs : s < N) (h : FlowST Z N s t f k) (hS : SideST S s t)
    (hn : ∀ x : StepT, isArc Z x → 0 < leftS Z f x → S (fromS Z x) = true → S (toS Z x) = true) : capS Z S = k := by
  rw [← side_value hZ hs h hS]
  symm
  refine cross_eq (fun i a hi => ?_) Z.length
  have hlt : i < Z.length := (List.getElem?_eq_some_iff.1 hi).1
  have hb := h.1.2 i a hi
  have ea : ∀ b : Bool, arcOf Z ((i : Int), b) = a := by
    intro b; unfold arcOf; rw [Int.toNat_natCast, List.getD_eq_getElem?_getD, hi]; rfl
  have hx : ∀ b : Bool, isArc Z ((i : Int), b) := fun b => ⟨by simp, by simp only; omega⟩
  constructor
  · intro ho
    unfold outS at ho
    simp only [Bool.and_eq_true, Bool.not_eq_true'] at ho
    refine Classical.byContradiction fun hne => ?_
    have := hn ((i : Int), false) (hx false) (by unfold leftS; simp only [Bool.false_eq_true, if_false, Int.toNat_natCast, ea]; omega) (by unfold fromS; simp only [Bool.false_eq_true, if_false, ea]; exact ho.1)
    unfold toS at this
    simp only [Bool.false_eq_true, if_false, ea] at this
    rw [ho.2] at this
    cases this
  · intro ho
    unfold intoS at ho
    simp only [Bool.and_eq_true, Bool.not_eq_true'] at ho
    refine Classical.byContradiction fun hne => ?_
    have := hn ((i : Int), true) (hx true) (by unfold leftS; simp only [if_true, Int.toNat_natCast]; omega) (by unfold fromS; simp only [if_true, ea]; exact ho.2)
    unfold toS at this
    simp only [if_true, ea] at this
    rw [ho.1] at this
    cases this
theorem gap_step {Z : List ArcT} {f : List Int} {S : Nat → Bool} (hf : Flow Z f) (i : Nat) : capK Z S i - crossK Z f S i ≤ capK Z S (i + 1) - crossK Z f S (i + 1) := by
  cases hz : Z[i]? with
  | none =>
    have e1 : capK Z S (i + 1) = capK Z S i := by show capK Z S i + _ = _; rw [hz]; simp
    have e2 : crossK Z f S (i + 1) = crossK Z f S i := by show crossK Z f S i + _ = _; rw [hz]; simp
    omega
  | some a =>
    rw [capK_succ hz, crossK_succ hz]
    have := hf.2 i a hz
    split <;> split <;> omega
theorem gap_mono {Z : List ArcT} {f : List Int} {S : Nat → Bool} (hf : Flow Z f) (i : Nat) : ∀ j, capK Z S i - crossK Z f S i ≤ capK Z S (i + j) - crossK Z f S (i + j)
  | 0 => Int.le_refl _
  | j + 1 => Int.le_trans (gap_mono hf i j) (gap_step hf (i + j))
theorem cross_tight {Z : List ArcT} {f : List Int} {S : Nat → Bool} (hf : Flow Z f) (h : crossK Z f S Z.length = capK Z S Z.length) (i : Nat) (a : ArcT) (hi : Z[i]? = some a) : (outS S a = true → atI f i = capN a) ∧ (intoS S a = true → atI f i = 0) := by
  have hlt : i < Z.length := (List.getElem?_eq_some_iff.1 hi).1
  have h0 := cross_le (S := S) hf i
  have h1 := gap_mono (S := S) hf (i + 1) (Z.length - (i + 1))
  rw [show i + 1 + (Z.length - (i + 1)) = Z.length by omega] at h1
  rw [capK_succ hi, crossK_succ hi] at h1
  have hb := hf.2 i a hi
  constructor
  · intro ho
    have hni : intoS S a = false := by unfold outS at ho; unfold intoS; simp only [Bool.and_eq_true, Bool.not_eq_true'] at ho; simp [ho.1, ho.2]
    rw [if_pos ho, if_pos ho, hni] at h1
    simp only [Bool.false_eq_true, if_false] at h1
    omega
  · intro hin
    have hno : outS S a = false := by unfold intoS at hin; unfold outS; simp only [Bool.and_eq_true, Bool.not_eq_true'] at hin; simp [hin.1, hin.2]
    rw [hno, if_pos hin] at h1
    simp only [Bool.false_eq_true, if_false] at h1
    omega
theorem side_shut {Z : List ArcT} {N s t : Nat} {k : Int} {f : List Int} {S : Nat → Bool} (hZ : ∀ a ∈ Z, frN a < N ∧ toN a < N) (hs : s < N) (h : FlowST Z N s t f k) (hS : SideST S s t) (hc : capS Z S = k)
    (x : StepT) (hx : isArc Z x) (hl : 0 < leftS Z f x) (hf : S (fromS Z x) = true) : S (toS Z x) = true := by
  have e := side_value hZ hs h hS
  have ht := cross_tight (S := S) h.1 (by rw [e]; exact hc.symm) x.1.toNat (arcOf Z x) (arcOf_at hx)
  refine Classical.byContradiction fun hne => ?_
  have hto : S (toS Z x) = false := by simpa using hne
  unfold leftS at hl
  unfold fromS at hf
  unfold toS at hto
  cases hq : x.2
  · rw [hq] at hl hf hto
    simp only [Bool.false_eq_true, if_false] at hl hf hto
    have := ht.1 (by unfold outS; rw [hf, hto]; rfl)
    omega
  · rw [hq] at hl hf hto
    simp only [if_true] at hl hf hto
    have := ht.2 (by unfold intoS; rw [hf, hto]; rfl)
    omega
theorem walk_side {fr to : StepT → Nat} {S : Nat → Bool} {l : List StepT} (hS : ∀ x ∈ l, S (fr x) = true → S (to x) = true) : ∀ {p : List StepT} {u v : Nat}, (∀ x ∈ p, x ∈ l) → Walk fr to u p v → S u = true → S v = true
  | [], _, _, _, h, hu => by rw [← (show _ = _ from h)]; exact hu
  | x :: r, _, _, hp, h, hu => walk_side hS (fun y hy => hp y (by simp [hy])) h.2 (hS x (hp x (by simp)) (by rw [h.1]; exact hu))
def foundB (x : List Ent) (v : Nat) : Bool := decide (v ∈ keysX x)
theorem foundB_iff {x : List Ent} {v : Nat} : foundB x v = true ↔ v ∈ keysX x := by unfold foundB; simp
section
variable {Z : List ArcT} {N s t : Nat} {f : List Int} {k : Int} {l : List StepT} {x : List Ent}
theorem found_closed {fr to : StepT → Nat} {s0 : Nat} (h : SK fr to l s0 x x.length []) (y : StepT) (hy : y ∈ l) (hf : foundB x (fr y) = true) : foundB x (to y) = true := by
  rw [foundB_iff, keysX_mem] at hf ⊢
  obtain ⟨b, q, q1, q2⟩ := hf
  obtain ⟨c, r, r1, r2, _⟩ := h.cl b q q1 (List.getElem?_eq_some_iff.1 q1).1 y hy q2.symm
  exact ⟨c, r, r1, r2⟩
theorem found_first {fr to : StepT → Nat} {s0 : Nat} {i : Nat} {P : List StepT} (h : SK fr to l s0 x i P) : foundB x s0 = true := by
  rw [foundB_iff, keysX_mem]
  exact ⟨0, _, h.hd, rfl⟩
theorem best_side (hZ : ∀ a ∈ Z, frN a < N ∧ toN a < N) (hs : s < N) (hl : ∀ y : StepT, y ∈ l ↔ isArc Z y ∧ 0 < leftS Z f y) (h : FlowST Z N s t f k) (hx : SK (fromS Z) (toS Z) l s x x.length []) (ht : t ∉ keysX x) :
    SideST (foundB x) s t ∧ capS Z (foundB x) = k ∧ IsMost Z N s t k ∧ ∀ T, SideST T s t → capS Z T = k → ∀ v, foundB x v = true → T v = true := by
  have hS : SideST (foundB x) s t := ⟨found_first hx, by unfold foundB; exact decide_eq_false ht⟩
  have hc : ∀ y : StepT, isArc Z y → 0 < leftS Z f y → foundB x (fromS Z y) = true → foundB x (toS Z y) = true := fun y h1 h2 h3 => found_closed hx y ((hl y).2 ⟨h1, h2⟩) h3
  refine ⟨hS, side_full hZ hs h hS hc, isMost_of hZ hs h hS hc, fun T hT hcT v hv => ?_⟩
  rw [foundB_iff, keysX_mem] at hv
  obtain ⟨b, q, q1, q2⟩ := hv
  obtain ⟨w1, w2⟩ := path_walk hx b b q (Nat.le_refl _) q1
  rw [← q2]
  exact walk_side (fun y hy h3 => side_shut hZ hs h hT hcT y ((hl y).1 hy).1 ((hl y).1 hy).2 h3) w2 w1 hT.1
end
end Go.Proofs.Ytbkmfjegbmjknaa
namespace Go.Proofs.Ytbkmfjegbmjknaa
set_option linter.unusedVariables false
section
variable {fr to : StepT → Nat} {l : List StepT} {s0 N : Nat}
theorem wayK_none {t : Nat} (h : wayK fr to l N s0 t = none) : t ∉ keysX (seekK fr to l s0 N) := by
  unfold wayK at h
  rw [Option.map_eq_none_iff, List.findIdx?_eq_none_iff] at h
  intro hm
  unfold keysX at hm
  obtain ⟨e, he, e2⟩ := List.mem_map.1 hm
  have := h e he
  simp [e2] at this
theorem wayK_mk {t b : Nat} {q : Ent} (hs : s0 < N) (ht : ∀ y ∈ l, to y < N) (h : (seekK fr to l s0 N)[b]? = some q) (hq : q.1 = t) : wayK fr to l N s0 t = some (pathX (seekK fr to l s0 N) b) := by
  cases hw : wayK fr to l N s0 t with
  | none => exact absurd (keysX_mem.2 ⟨b, q, h, hq⟩) (wayK_none hw)
  | some p =>
    obtain ⟨c, r, r1, r2, rfl⟩ := wayK_some hw
    have hS := seek_full (fr := fr) hs ht
    have h1 := List.nodup_iff_pairwise_ne.1 hS.nd
    rw [List.pairwise_iff_getElem] at h1
    have hb := (List.getElem?_eq_some_iff.1 h).1
    have hc := (List.getElem?_eq_some_iff.1 r1).1
    have e : b = c := by
      refine Classical.byContradiction fun hne => ?_
      rcases Nat.lt_or_gt_of_ne hne with hlt | hlt
      · have := h1 b c (by simp [keysX]; exact hb) (by simp [keysX]; exact hc) hlt
        simp only [keysX, List.getElem_map] at this
        rw [(List.getElem?_eq_some_iff.1 h).2, (List.getElem?_eq_some_iff.1 r1).2] at this
        exact this (by rw [hq, r2])
      · have := h1 c b (by simp [keysX]; exact hc) (by simp [keysX]; exact hb) hlt
        simp only [keysX, List.getElem_map] at this
        rw [(List.getElem?_eq_some_iff.1 h).2, (List.getElem?_eq_some_iff.1 r1).2] at this
        exact this (by rw [hq, r2])
    rw [e]
end
end Go.Proofs.Ytbkmfjegbmjknaa
namespace Go.Proofs.Ytbkmfjegbmjknaa
set_option linter.unusedVariables false
section
variable {R : List ArcT} {c : ArcT → Int} {s N : Nat}
end
end Go.Proofs.Ytbkmfjegbmjknaa
namespace Go.Proofs.Ytbkmfjegbmjknaa
set_option linter.unusedVariables false
end Go.Proofs.Ytbkmfjegbmjknaa
namespace Go.Proofs.Ytbkmfjegbmjknaa
set_option linter.unusedVariables false
end Go.Proofs.Ytbkmfjegbmjknaa
namespace Go.Proofs.Ytbkmfjegbmjknaa
set_option linter.unusedVariables false
end Go.Proofs.Ytbkmfjegbmjknaa
namespace Go.Proofs.Ytbkmfjegbmjknaa
set_option linter.unusedVariables false
end Go.Proofs.Ytbkmfjegbmjknaa
namespace Go.Proofs.Ytbkmfjegbmjknaa
set_option linter.unusedVariables false
section
variable {Z : List ArcT} {N s t : Nat} {H : Int}
end
end Go.Proofs.Ytbkmfjegbmjknaa
namespace Go.Proofs.Ytbkmfjegbmjknaa
set_option linter.unusedVariables false
namespace Exp
variable (E : Exp)
end Exp
namespace Exp
variable (E : Exp)
section
variable {E : Exp}
end
end Exp
end Go.Proofs.Ytbkmfjegbmjknaa
namespace Go.Proofs.Ytbkmfjegbmjknaa
set_option linter.unusedVariables false
namespace Exp
variable {E : Exp}
theorem waited_sum (x : Kd → Int) (v : Nat) : ∀ n, sumTo (fun u => E.wait x v u - E.waited x v u) (n + 1) = E.wait x v n
  | 0 => by simp [sumTo, waited]
  | n + 1 => by
    have ih := waited_sum x v n
    rw [sumTo, ih]
    simp only [waited]
    omega
theorem stock_wait (hG : E.Good) (x : Kd → Int) {v : Nat} (hv : v < E.N) (hs : v ≠ E.s) (ht : v ≠ E.t) (h : ∀ u, u ≤ E.H → bal E.net (E.kinds.map x) (E.slot v u) = 0) {at_ : Nat} (ha : at_ ≤ E.H) : E.stock x v at_ = E.wait x v at_ := by
  unfold stock
  rw [← waited_sum x v at_]
  refine sumTo_congr (fun u hu => ?_)
  have h1 := h u (by omega)
  rw [slot_bal hG x hv (by omega), if_neg (fun e => hs e.symm), if_neg (fun e => ht e.symm)] at h1
  omega
theorem runs (hG : E.Good) (x : Kd → Int) {k : Int} (h : FlowST E.net (E.last + 1) E.first E.last (E.kinds.map x) k) (hp : ∀ i u, E.ok i u = true → 0 ≤ x (Kd.mv i u) ∧ ∀ a, E.Z[i]? = some a → x (Kd.mv i u) ≤ capN a) (hw : ∀ v u, v < E.N → E.wok v u = true → 0 ≤ x (Kd.wt v u)) :
    E.Plan x ∧ E.stock x E.t E.H = k := by
  have hf := first_lt (E := E)
  have hbal : ∀ v u, v < E.N → u ≤ E.H → bal E.net (E.kinds.map x) (E.slot v u) = 0 := fun v u hv hu => by
    have hlt : E.slot v u < E.first := slot_lt hu hv
    exact h.2.1 _ (by omega) (by omega) (by omega)
  refine ⟨⟨hp, fun v hv hs ht u hu => ?_⟩, ?_⟩
  · rw [stock_wait hG x hv hs ht (fun u hu => hbal v u hv hu) hu]
    unfold wait
    by_cases hk : E.wok v u = true
    · rw [if_pos hk]
      have := E.wok_is.1 hk
      exact ⟨hw v u hv hk, .inr ⟨this.1, this.2.1⟩⟩
    · rw [if_neg hk]; exact ⟨Int.le_refl _, .inl rfl⟩
  · have e1 : E.stock x E.t E.H = sumTo (fun u => x (Kd.si u)) (E.H + 1) := by
      unfold stock
      refine sumTo_congr (fun u hu => ?_)
      have h1 := hbal E.t u hG.t (by omega)
      rw [slot_bal hG x hG.t (by omega), wait_end x _ (.inr rfl), waited_end x _ (.inr rfl), if_neg hG.ne, if_pos rfl] at h1
      omega
    have h2 := flow_sink (net_ends hG) (by omega) (by omega) (by omega) h
    have h3 := bal_last hG x
    rw [e1]
    omega
end Exp
end Go.Proofs.Ytbkmfjegbmjknaa
