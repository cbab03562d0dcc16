/- Plain facts on rows of pairs, without any program: a row in which no pair comes before the one at half its position has the first pair first; how such a row stays one while a pair rises or settles. -/
import Derived.Test.YtiefphkfddecbaaPCmp
import Derived.Sort.LotA
namespace Go.Proofs.Ytiefphkfddecbaa
open Go.Sort
set_option linter.unusedVariables false

theorem ltP_irrefl (a : Int × Int) : ltP a a = false := by simp [ltP]
theorem ltP_asymm {a b : Int × Int} (h : ltP a b = true) : ltP b a = false := by simp [ltP] at *; omega
theorem ltP_trans {a b c : Int × Int} (h : ltP a b = true) (k : ltP b c = true) : ltP a c = true := by simp [ltP] at *; omega
theorem ltP_ntrans {a b c : Int × Int} (h : ltP a b = false) (k : ltP b c = false) : ltP a c = false := by simp [ltP] at *; omega
theorem ltP_total {a b : Int × Int} (h : ltP a b = false) (k : ltP b a = false) : a = b := by
  simp [ltP] at h k
  exact Prod.ext (by omega) (by omega)

/-- The place above place t. -/
def par (t : Nat) : Nat := (t + 1) / 2 - 1
def Heap (d : Array (Int × Int)) : Prop := ∀ t, 1 ≤ t → t < d.size → ltP d[t]! d[par t]! = false
/-- A heap but for place k, whose pair may have to rise. -/
def Up (d : Array (Int × Int)) (k : Nat) : Prop :=
  (∀ t, 1 ≤ t → t < d.size → t ≠ k → ltP d[t]! d[par t]! = false) ∧ (∀ t, 1 ≤ t → t < d.size → par t = k → 1 ≤ k → ltP d[t]! d[par k]! = false)
/-- A heap but for place k, whose pair may have to settle. -/
def Down (d : Array (Int × Int)) (k : Nat) : Prop :=
  (∀ t, 1 ≤ t → t < d.size → par t ≠ k → ltP d[t]! d[par t]! = false) ∧ (∀ t, 1 ≤ t → t < d.size → par t = k → 1 ≤ k → ltP d[t]! d[par k]! = false)

theorem Up.top {d : Array (Int × Int)} (h : Up d 0) : Heap d := fun t h1 h2 => h.1 t h1 h2 (by omega)
theorem Up.done {d : Array (Int × Int)} {k : Nat} (h : Up d k) (hk : ltP d[k]! d[par k]! = false) : Heap d := fun t h1 h2 => by
  by_cases e : t = k
  · subst e; exact hk
  · exact h.1 t h1 h2 e
theorem Up.step {d : Array (Int × Int)} {k : Nat} (h : Up d k) (hk : 1 ≤ k) (hs : k < d.size) (hl : ltP d[k]! d[par k]! = true) : Up (swp d k (par k)) (par k) := by
  have hp : par k < k := by unfold par; omega
  have hps : par k < d.size := by omega
  refine ⟨fun t h1 h2 hn => ?_, fun t h1 h2 he h0 => ?_⟩
  · rw [swp_size] at h2
    rw [swp_get d hs hps, swp_get d hs hps]
    have ht : par t < t := by unfold par; omega
    rw [if_neg hn]
    by_cases e1 : t = k
    · subst e1
      rw [if_pos rfl, if_pos rfl]
      exact ltP_asymm hl
    · rw [if_neg e1]
      by_cases e2 : par t = par k
      · rw [if_pos e2]
        have := h.1 t h1 h2 e1
        rw [e2] at this
        cases hc : ltP d[t]! d[k]!
        · rfl
        · rw [ltP_trans hc hl] at this; cases this
      · rw [if_neg e2]
        by_cases e3 : par t = k
        · rw [if_pos e3]; exact h.2 t h1 h2 e3 hk
        · rw [if_neg e3]; exact h.1 t h1 h2 e1
  · rw [swp_size] at h2
    have hpp : par (par k) < par k := by unfold par at *; omega
    rw [swp_get d hs hps, swp_get d hs hps]
    rw [if_neg (show par (par k) ≠ par k by omega), if_neg (show par (par k) ≠ k by omega)]
    have ht : par t < t := by unfold par; omega
    rw [if_neg (show t ≠ par k by omega)]
    have hpk := h.1 (par k) h0 hps (by omega)
    by_cases e1 : t = k
    · rw [if_pos e1]; exact hpk
    · rw [if_neg e1]
      have := h.1 t h1 h2 e1
      rw [he] at this
      exact ltP_ntrans this hpk
theorem Down.done {d : Array (Int × Int)} {k : Nat} (h : Down d k) (h1 : 2 * k + 1 < d.size → ltP d[2 * k + 1]! d[k]! = false) (h2 : 2 * k + 2 < d.size → ltP d[2 * k + 2]! d[k]! = false) : Heap d := fun t a b => by
  by_cases e : par t = k
  · have : t = 2 * k + 1 ∨ t = 2 * k + 2 := by unfold par at e; omega
    rcases this with rfl | rfl
    · rw [e]; exact h1 b
    · rw [e]; exact h2 b
  · exact h.1 t a b e
theorem Down.step {d : Array (Int × Int)} {k c : Nat} (h : Down d k) (hc : par c = k) (h1c : 1 ≤ c) (hs : c < d.size) (hl : ltP d[c]! d[k]! = true) (ho : ∀ t, 1 ≤ t → t < d.size → par t = k → ltP d[t]! d[c]! = false) : Down (swp d k c) c := by
  have hkc : k < c := by unfold par at hc; omega
  have hks : k < d.size := by omega
  refine ⟨fun t h1 h2 hn => ?_, fun t h1 h2 he h0 => ?_⟩
  · rw [swp_size] at h2
    have ht : par t < t := by unfold par; omega
    rw [swp_get d hks hs, swp_get d hks hs, if_neg hn]
    by_cases e1 : par t = k
    · rw [if_pos e1]
      by_cases e2 : t = c
      · rw [if_pos e2]; exact ltP_asymm hl
      · rw [if_neg e2, if_neg (by omega)]; exact ho t h1 h2 e1
    · rw [if_neg e1]
      have e2 : t ≠ c := fun e => e1 (by rw [e]; exact hc)
      rw [if_neg e2]
      by_cases e3 : t = k
      · rw [if_pos e3]
        have := h.2 c h1c hs hc (by omega)
        rw [e3]; exact this
      · rw [if_neg e3]; exact h.1 t h1 h2 e1
  · rw [swp_size] at h2
    have ht : par t < t := by unfold par; omega
    rw [swp_get d hks hs, swp_get d hks hs, hc, if_neg (show t ≠ c by omega), if_neg (show t ≠ k by omega), if_neg (show k ≠ c by omega), if_pos rfl]
    have := h.1 t h1 h2 (by omega)
    rwa [he] at this
theorem Heap.least {d : Array (Int × Int)} (h : Heap d) : ∀ t, t < d.size → ltP d[t]! d[0]! = false := by
  intro t
  induction t using Nat.strongRecOn with
  | _ t ih =>
    intro ht
    rcases Nat.eq_zero_or_pos t with rfl | h0
    · exact ltP_irrefl _
    · have hp : par t < t := by unfold par; omega
      exact ltP_ntrans (h t h0 ht) (ih (par t) hp (by omega))
theorem swp_perm (d : Array (Int × Int)) {i j : Nat} (hi : i < d.size) (hj : j < d.size) : (swp d i j).toList.Perm d.toList := by
  have h := swp_permIn d 0 d.size i j (Nat.zero_le _) hi (Nat.zero_le _) hj (Nat.le_refl _)
  have := h.2.2
  rw [Array.extract_size, show (swp d i j).extract 0 d.size = swp d i j by rw [← swp_size d i j]; exact Array.extract_size] at this
  exact this

/-! Pairs in their order. -/
def SortedP (l : List (Int × Int)) : Prop := l.Pairwise fun a b => ltP b a = false
/-- x, put where it belongs. -/
def insP (x : Int × Int) (l : List (Int × Int)) : List (Int × Int) := l.takeWhile (ltP · x) ++ x :: l.dropWhile (ltP · x)
theorem insP_perm (x : Int × Int) (l : List (Int × Int)) : (insP x l).Perm (x :: l) := by
  unfold insP
  refine List.perm_middle.trans ?_
  rw [List.takeWhile_append_dropWhile]
theorem insP_length (x : Int × Int) (l : List (Int × Int)) : (insP x l).length = l.length + 1 := (insP_perm x l).length_eq
theorem insP_nil (x : Int × Int) : insP x [] = [x] := rfl
theorem insP_cons (x y : Int × Int) (l : List (Int × Int)) : insP x (y :: l) = if ltP y x = true then y :: insP x l else x :: y :: l := by
  unfold insP
  by_cases h : ltP y x = true
  · simp [h]
  · simp [h]
theorem insP_sorted (x : Int × Int) : ∀ (l : List (Int × Int)), SortedP l → SortedP (insP x l)
  | [], _ => by simp [insP_nil, SortedP]
  | y :: l, h => by
    rw [insP_cons]
    have hy : ∀ a, a ∈ l → ltP a y = false := fun a ha => List.rel_of_pairwise_cons h ha
    have hl : SortedP l := List.Pairwise.of_cons h
    split
    · rename_i hlt
      refine List.Pairwise.cons (fun a ha => ?_) (insP_sorted x l hl)
      rcases List.mem_cons.1 ((insP_perm x l).mem_iff.1 ha) with rfl | ha
      · exact ltP_asymm hlt
      · exact hy a ha
    · rename_i hlt
      have hlt' : ltP y x = false := by simpa using hlt
      refine List.Pairwise.cons (fun a ha => ?_) h
      rcases List.mem_cons.1 ha with rfl | ha
      · exact hlt'
      · exact ltP_ntrans (hy a ha) hlt'
/-- One multiset of pairs has one order. -/
theorem sorted_eq {l m : List (Int × Int)} (hl : SortedP l) (hm : SortedP m) (hp : l.Perm m) : l = m :=
  List.Perm.eq_of_pairwise (le := fun a b => ltP b a = false) (fun a b _ _ h1 h2 => ltP_total h2 h1) hl hm hp
theorem Heap.head {d : Array (Int × Int)} {x : Int × Int} {l : List (Int × Int)} (h : Heap d) (hp : d.toList.Perm (x :: l)) (hs : SortedP (x :: l)) : d[0]! = x := by
  have hsz : d.size = l.length + 1 := by have := hp.length_eq; simpa using this
  have hm0 : d[0]! ∈ x :: l := hp.mem_iff.1 (by rw [getElem!_pos d 0 (by omega)]; exact Array.mem_toList_iff.2 (Array.getElem_mem _))
  have hx : x ∈ d.toList := hp.mem_iff.2 (by simp)
  obtain ⟨t, ht, he⟩ := List.getElem_of_mem hx
  have ht' : t < d.size := by simpa using ht
  have h1 := h.least t ht'
  rw [getElem!_pos d t ht', show d[t] = x by rw [← he]; simp] at h1
  rcases List.mem_cons.1 hm0 with e | e
  · exact e
  · have h2 : ltP d[0]! x = false := List.rel_of_pairwise_cons hs e
    exact ltP_total h2 h1
end Go.Proofs.Ytiefphkfddecbaa
