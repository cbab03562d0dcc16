/- Lemmas of the layers below, several texts in one. -/
import Derived.Test.YtbkmfjegbmjknaaBA
import Derived.Sort.LotA
import Derived.LoopTactic
import Derived.Deep.QuietTactic
import Derived.BigQuiet
import Derived.BigRegion
import Derived.Deep.RegionHeld3
import Derived.ChangeAlike
import Derived.IntWalk
import Derived.Test.YtbkmfjegbmjknaaBB
import Derived.Deep.AppendLies
import Derived.Deep.RegionLaw
namespace Go.Proofs.Ytbkmfjegbmjknaa
open Go.RowKit Go.Sort
set_option linter.unusedVariables false

theorem cell_grow {w : World} {os : Array Obj} {a : Addr} {v : Value} (h : w.cell? a = some v) : (grow w os).cell? a = some v := by
  rw [(below_grow w os).cell (block_lt_of_cell h)]; exact h
theorem get_set (cur : Array Value) (k t : Nat) (u : Value) (h : k < cur.size) : (cur.setIfInBounds k u)[t]? = if k = t then some u else cur[t]? := by
  rw [Array.getElem?_setIfInBounds]
  by_cases e : k = t
  · rw [if_pos e, if_pos e]; simp [h]
  · rw [if_neg e, if_neg e]
end Go.Proofs.Ytbkmfjegbmjknaa

namespace Go.Proofs.Ytbkmfjegbmjknaa
open Go.RowKit Go.Sort
set_option linter.unusedVariables false

theorem or_one (k : Nat) (h : k ≤ 65536) : bits .or .i64 (((k : Int) + 1) * 2) 1 = ((k : Int) + 1) * 2 + 1 := by
  have := i64_or_one (k + 1) (by omega)
  rwa [show ((k + 1 : Nat) : Int) = (k : Int) + 1 by omega] at this
/-- Of the places below k one has a pair that no other one of them comes before. -/
def FB (d : Array (Int × Int)) (k : Nat) (w : World) (e : Ending) (w' : World) : Prop :=
  ∃ c : Nat, e = .returned (.int .i64 ((c : Int) + 1)) ∧ par c = k ∧ 1 ≤ c ∧ c < d.size ∧ (∀ t, 1 ≤ t → t < d.size → par t = k → ltP d[t]! d[c]! = false) ∧ Below w.heap.size w w'
theorem par_two {t k : Nat} (h : par t = k) (h1 : 1 ≤ t) : t = 2 * k + 1 ∨ t = 2 * k + 2 := by unfold par at h; omega
end Go.Proofs.Ytbkmfjegbmjknaa

namespace Go.Proofs.Ytbkmfjegbmjknaa
open Go.RowKit Go.Sort
set_option linter.unusedVariables false

/-- The cells of pairs, one behind the other. -/
def flatP : List (Int × Int) → List Value
  | [] => []
  | x :: l => .int .i64 x.1 :: .int .i64 x.2 :: flatP l
theorem flatP_length : ∀ l : List (Int × Int), (flatP l).length = l.length * 2
  | [] => rfl
  | x :: l => by simp only [flatP, List.length_cons, flatP_length l]; omega
theorem flatP_append : ∀ l m : List (Int × Int), flatP (l ++ m) = flatP l ++ flatP m
  | [], m => rfl
  | x :: l, m => by simp only [flatP, List.cons_append, flatP_append l m]
theorem flatP_get : ∀ (l : List (Int × Int)) (j : Nat) (h : j < l.length), (flatP l)[j * 2]? = some (.int .i64 l[j].1) ∧ (flatP l)[j * 2 + 1]? = some (.int .i64 l[j].2)
  | [], j, h => by simp at h
  | x :: l, 0, h => ⟨rfl, rfl⟩
  | x :: l, j + 1, h => by
    have := flatP_get l j (by simpa using h)
    simp only [flatP, show (j + 1) * 2 = j * 2 + 1 + 1 by omega, List.getElem?_cons_succ, List.getElem_cons_succ]
    exact this
theorem flatP_one (l : List (Int × Int)) : ∀ u ∈ flatP l, u.oneCell' = true := by
  induction l with
  | nil => intro u hu; cases hu
  | cons x l ih =>
    intro u hu
    simp only [flatP, List.mem_cons] at hu
    rcases hu with rfl | rfl | hu
    · rfl
    · rfl
    · exact ih u hu
theorem Heap.push {d : Array (Int × Int)} (h : Heap d) (x : Int × Int) : Up (d.push x) d.size := by
  have get : ∀ t, t < d.size → (d.push x)[t]! = d[t]! := fun t ht => by
    rw [getElem!_pos (d.push x) t (by simp; omega), getElem!_pos d t ht, Array.getElem_push_lt]
  refine ⟨fun t h1 h2 hn => ?_, fun t h1 h2 he _ => ?_⟩
  · have h2' : t < d.size := by simp at h2; omega
    have hp : par t < t := by unfold par; omega
    rw [get t h2', get _ (by omega)]
    exact h t h1 h2'
  · have hp : par t < t := by unfold par; omega
    simp at h2
    omega
end Go.Proofs.Ytbkmfjegbmjknaa

namespace Go.Proofs.Ytbkmfjegbmjknaa
open Go.RowKit Go.Sort
set_option linter.unusedVariables false

theorem old_block {w w2 : World} {o : Obj} (hb : Below (w.alloc o).heap.size (w.alloc o) w2) : w2.heap[w.heap.size]? = some o := (hb.block _ (by simp)).trans (heap_alloc_new w o)
/-- The last pair of a row goes ahead, and the row is one shorter. -/
theorem swp_pop (d : Array (Int × Int)) (h : 0 < d.size) : (swp d 0 (d.size - 1)).toList = (swp d 0 (d.size - 1)).pop.toList ++ [d[0]!] := by
  have hs : (swp d 0 (d.size - 1)).size = d.size := swp_size _ _ _
  apply List.ext_getElem?
  intro t
  by_cases ht : t < d.size - 1
  · rw [List.getElem?_append_left (by simp [hs]; omega)]
    simp [hs, ht]
  · by_cases e : t = d.size - 1
    · rw [List.getElem?_append_right (by simp [hs]; omega)]
      have h1 := swp_get d h (show d.size - 1 < d.size by omega) t
      rw [if_pos e, getElem!_pos _ _ (by omega)] at h1
      rw [show t - ((swp d 0 (d.size - 1)).pop.toList).length = 0 by simp [hs]; omega, Array.getElem?_toList, Array.getElem?_eq_getElem (by omega), h1]
      rfl
    · rw [List.getElem?_eq_none (by simp [hs]; omega), List.getElem?_eq_none (by simp [hs]; omega)]
theorem Heap.popped {d : Array (Int × Int)} (h : Heap d) (hd : 0 < d.size) : Down (swp d 0 (d.size - 1)).pop 0 := by
  have hs : (swp d 0 (d.size - 1)).size = d.size := swp_size _ _ _
  have get : ∀ t, 1 ≤ t → t < d.size - 1 → ((swp d 0 (d.size - 1)).pop)[t]! = d[t]! := fun t h1 ht => by
    rw [getElem!_pos _ t (by simp [hs]; omega), Array.getElem_pop]
    have := swp_get d hd (show d.size - 1 < d.size by omega) t
    rw [if_neg (by omega), if_neg (by omega), getElem!_pos _ t (by omega)] at this
    exact this
  refine ⟨fun t h1 h2 hn => ?_, fun t h1 h2 he h0 => by omega⟩
  have h2' : t < d.size - 1 := by simpa [hs] using h2
  have hp : par t < t := by unfold par; omega
  rw [get t h1 h2', get _ (by omega) (by omega)]
  exact h t h1 (by omega)
end Go.Proofs.Ytbkmfjegbmjknaa

namespace Go.Proofs.Ytbkmfjegbmjknaa
open Go.RowKit
set_option linter.unusedVariables false

theorem DI.ul {Z : List ArcT} {N s : Nat} {d : List Int} {L : List (Int × Int)} {D used T : List Nat} {K : Int} (h : DI Z N s d L D used K T) : used.length ≤ Z.length :=
  nodup_le h.und (fun p hp => by obtain ⟨a, h1, _⟩ := h.us p hp; exact (List.getElem?_eq_some_iff.1 h1).1)
section
variable {w1 wr w2 : World} {gd pb most N : Nat} {G G' : Option Nat} {d : List Int} {L L' : List (Int × Int)}
/-- A block beside them stays what it is. -/
structure Aside2 (wr : World) (gd pb nb : Nat) (G : Option Nat) (o : Obj) : Prop where
  at_ : wr.heap[nb]? = some o
  ne : nb ≠ gd ∧ nb ≠ pb ∧ G ≠ some nb
theorem Aside2.step {nb : Nat} {o : Obj} (h : Aside2 wr gd pb nb G o) (hb : Below wr.heap.size wr w2) : Aside2 w2 gd pb nb G o := ⟨(hb.block nb (lt_whole h.at_)).trans h.at_, h.ne⟩
theorem Aside2.set {nb : Nat} {o : Obj} (h : Aside2 wr gd pb nb G o) (j : Nat) (u : Value) : Aside2 (wr.setCell ⟨gd, j, none⟩ u) gd pb nb G o := ⟨set_other h.at_ h.ne.1 _ _, h.ne⟩
theorem Aside2.pushed {nb : Nat} {o : Obj} (h : Aside2 wr gd pb nb G o) (hk : Kept (fun i => i = pb ∨ some i = G) wr w2) (hg : G' = G ∨ ∃ k, G' = some k ∧ wr.heap.size ≤ k) : Aside2 w2 gd pb nb G' o := by
  have hl := lt_whole h.at_
  refine ⟨hk.old h.at_ ?_, h.ne.1, h.ne.2.1, ?_⟩
  · rintro (e | e)
    · exact h.ne.2.1 e
    · exact h.ne.2.2 e.symm
  · rcases hg with hg | ⟨k, hg, hk⟩
    · rw [hg]; exact h.ne.2.2
    · rw [hg]; intro e; have := Option.some.inj e; omega
end
end Go.Proofs.Ytbkmfjegbmjknaa

namespace Go.Proofs.Ytbkmfjegbmjknaa
open Go.RowKit
set_option linter.unusedVariables false

theorem prl_len {L : List (Int × Int)} {t : Nat} (hnd : L.Nodup) (h : ∀ x ∈ L, ∃ v, v < t ∧ x = prN v) : L.length ≤ t := by
  have hn : (L.map fun x => x.1.toNat).Nodup := by
    rw [List.nodup_iff_pairwise_ne, List.pairwise_map]
    refine (List.nodup_iff_pairwise_ne.1 hnd).imp_of_mem ?_
    intro x y hx hy hne e
    obtain ⟨u, _, rfl⟩ := h x hx
    obtain ⟨v, _, rfl⟩ := h y hy
    simp only [prN, Int.toNat_natCast] at e
    exact hne (by rw [e])
  have := nodup_le (N := t) hn (by
    intro x hx
    obtain ⟨y, hy, rfl⟩ := List.mem_map.1 hx
    obtain ⟨v, hv, rfl⟩ := h y hy
    simpa [prN] using hv)
  simpa using this
/-- The ready ones among the first t nodes. -/
def Ready (pend : List Int) (t : Nat) (L : List (Int × Int)) : Prop := (∀ x, x ∈ L ↔ ∃ v, v < t ∧ x = prN v ∧ atI pend v = 0) ∧ L.Nodup
theorem Ready.len {pend : List Int} {t : Nat} {L : List (Int × Int)} (h : Ready pend t L) : L.length ≤ t := prl_len h.2 (fun x hx => by obtain ⟨v, h1, h2, _⟩ := (h.1 x).1 hx; exact ⟨v, h1, h2⟩)
theorem Ready.skip {pend : List Int} {t : Nat} {L : List (Int × Int)} (h : Ready pend t L) (h0 : atI pend t ≠ 0) : Ready pend (t + 1) L := by
  refine ⟨fun x => ?_, h.2⟩
  rw [h.1]
  constructor
  · rintro ⟨v, h1, h2, h3⟩; exact ⟨v, by omega, h2, h3⟩
  · rintro ⟨v, h1, h2, h3⟩
    have : v ≠ t := by rintro rfl; exact h0 h3
    exact ⟨v, by omega, h2, h3⟩
theorem Ready.push {pend : List Int} {t : Nat} {L : List (Int × Int)} (h : Ready pend t L) (h0 : atI pend t = 0) : Ready pend (t + 1) (insP ((t : Int), (t : Int)) L) := by
  have hnew : prN t ∉ L := fun hm => by
    obtain ⟨v, h1, h2, _⟩ := (h.1 _).1 hm
    have := prN_inj h2
    omega
  refine ⟨fun x => ?_, ((insP_perm _ L).nodup_iff).2 (List.nodup_cons.2 ⟨hnew, h.2⟩)⟩
  rw [(insP_perm _ L).mem_iff, List.mem_cons, h.1]
  constructor
  · rintro (rfl | ⟨v, h1, h2, h3⟩)
    · exact ⟨t, by omega, rfl, h0⟩
    · exact ⟨v, by omega, h2, h3⟩
  · rintro ⟨v, h1, h2, h3⟩
    by_cases e : v = t
    · subst e; exact .inl h2
    · exact .inr ⟨v, by omega, h2, h3⟩
/-- How many arcs of the first k come to each node. -/
def pendK (Z : List ArcT) (N k : Nat) : List Int := (List.range N).map fun v => (cntP Z (List.range k) v : Int)
theorem pendK_len (Z : List ArcT) (N k : Nat) : (pendK Z N k).length = N := by simp [pendK]
theorem pendK_at (Z : List ArcT) {N v : Nat} (k : Nat) (h : v < N) : atI (pendK Z N k) v = (cntP Z (List.range k) v : Int) := by
  unfold atI; rw [List.getD_eq_getElem?_getD, List.getElem?_eq_getElem (by rw [pendK_len]; exact h)]; simp [pendK]
theorem pendK_zero (Z : List ArcT) (N : Nat) : pendK Z N 0 = List.replicate N 0 := by
  apply List.ext_getElem
  · simp [pendK]
  · intro i h1 h2; simp [pendK, cntP]
theorem pendK_succ {Z : List ArcT} {N k : Nat} {a : ArcT} (ha : Z[k]? = some a) (ht : toN a < N) : pendK Z N (k + 1) = (pendK Z N k).set (toN a) (atI (pendK Z N k) (toN a) + 1) := by
  rw [pendK_at Z k ht]
  apply List.ext_getElem
  · simp [pendK]
  · intro i h1 h2
    rw [List.getElem_set]
    simp only [pendK, List.getElem_map, List.getElem_range]
    rw [cntP_range_succ Z k i ha]
    by_cases e : toN a = i
    · subst e; simp
    · simp [e]
theorem cntP_range_le (Z : List ArcT) (k v : Nat) : cntP Z (List.range k) v ≤ k := by have := cntP_le Z (List.range k) v; simpa using this
section
variable {w1 wr w2 : World} {gd pb N : Nat} {G G' : Option Nat} {d : List Int} {L L' : List (Int × Int)} {lv : Value} {l : List Nat}
end
/-- An order that a call tells, or that there is none. -/
def OrdRes (o : Option (List Nat)) (w : World) (e : Ending) (w' : World) : Prop :=
  ∃ a c, e = .returned (.tuple #[.slice a (o.getD []).length c, .bool o.isSome, .int .i64 0]) ∧ Lst encI w' a (natI (o.getD [])) ∧ Below w.heap.size w w'
end Go.Proofs.Ytbkmfjegbmjknaa

namespace Go.Proofs.Ytbkmfjegbmjknaa
open Go.RowKit
set_option linter.unusedVariables false

/-- What is wrong with a network, or with a node of it. -/
def hopE (n : Int) (Z : List ArcT) (s : Int) : Int := if checkE n Z = 0 then (if 0 ≤ s ∧ s < n then 0 else 1) else checkE n Z
theorem hopE_ok {n : Int} {Z : List ArcT} {s : Int} (h : hopE n Z s = 0) : checkE n Z = 0 ∧ ∃ k : Nat, s = (k : Int) ∧ k < n.toNat := by
  unfold hopE at h
  split at h
  · next h1 =>
    split at h
    · next h2 => exact ⟨h1, s.toNat, by omega, by omega⟩
    · cases h
  · next h1 => exact absurd h h1
/-- What a call tells that tells numbers: those, or what is wrong. -/
def ListsV (d : List Int) (e0 : Int) (w : World) (e : Ending) (w' : World) : Prop :=
  ∃ a c, e = .returned (.tuple #[.slice a d.length c, .int .i64 e0]) ∧ Lst encI w' a d ∧ Below w.heap.size w w'
def hopsL (n : Int) (Z : List ArcT) (s : Int) : List Int := if hopE n Z s = 0 then hopK Z n.toNat s.toNat n.toNat else []
def fastL (n : Int) (Z : List ArcT) (s : Int) : List Int := if hopE n Z s = 0 then fastK tm Z n.toNat s.toNat n.toNat else []
/-- What Order tells. -/
def OrdV (o : Option (List Nat)) (e0 : Int) (w : World) (e : Ending) (w' : World) : Prop :=
  ∃ a c, e = .returned (.tuple #[.slice a (o.getD []).length c, .bool o.isSome, .int .i64 e0]) ∧ Lst encI w' a (natI (o.getD [])) ∧ Below w.heap.size w w'
def orderL (n : Int) (Z : List ArcT) : Option (List Nat) := if checkE n Z = 0 then orderK Z n.toNat n.toNat else none
/-- What Out and In tell. -/
def GroupsV (G : List (List Nat)) (e0 : Int) (w : World) (e : Ending) (w' : World) : Prop :=
  ∃ a c, e = .returned (.tuple #[.slice a G.length c, .int .i64 e0]) ∧ GRow w' a G ∧ Below w.heap.size w w'
def listsL (f : ArcT → Nat) (n : Int) (Z : List ArcT) : List (List Nat) := if checkE n Z = 0 then lists f Z n.toNat else []
end Go.Proofs.Ytbkmfjegbmjknaa

namespace Go.Proofs.Ytbkmfjegbmjknaa
open Go.RowKit
set_option linter.unusedVariables false

theorem rnode_any (n : Int) (b : Bool) (v : Value) (s : Int) (w : World) : Calls Try.prog 106 #[.agg #[.int .i64 n, .bool b, v], .int .i64 s] w fun e w' => e = .returned (.bool (decide (0 ≤ s ∧ s < n))) ∧ Below w.heap.size w w' := by
  go_enter Try.func106, Try.ntmps106
  go_wp2
  all_goals
    go_ret
    refine ⟨ret_bool ?_, (Below.refl _ w).alloc (Nat.le_refl _) _⟩
    first
      | (symm; rw [decide_eq_true_eq]; omega)
      | (symm; rw [decide_eq_false_iff_not]; omega)
      | (simp; omega)
theorem rnode_is (n : Int) (b : Bool) (v : Value) (s : Int) (q : Bool) (w : World) (h : decide (0 ≤ s ∧ s < n) = q) : Calls Try.prog 106 #[.agg #[.int .i64 n, .bool b, v], .int .i64 s] w fun e w' => e = .returned (.bool q) ∧ Below w.heap.size w w' := by subst h; exact rnode_any n b v s w
theorem hopAll_take {Z : List ArcT} {k i : Nat} {a : ArcT} (ha : Z[i]? = some a) (d : List Int) : hopAll k (Z.take (i + 1)) d = hopStep k (hopAll k (Z.take i) d) a := by
  obtain ⟨hi, e⟩ := List.getElem?_eq_some_iff.1 ha
  subst e
  rw [List.take_succ_eq_append_getElem hi]
  unfold hopAll
  rw [List.foldl_append]; rfl
theorem relaxAll_take {c : ArcT → Int} {Z : List ArcT} {i : Nat} {a : ArcT} (ha : Z[i]? = some a) (d : List Int) : relaxAll c (Z.take (i + 1)) d = relax c (relaxAll c (Z.take i) d) a := by
  obtain ⟨hi, e⟩ := List.getElem?_eq_some_iff.1 ha
  subst e
  rw [List.take_succ_eq_append_getElem hi]
  unfold relaxAll
  rw [List.foldl_append]; rfl
/-- Bounds of what is told while arcs are looked at again and again. -/
def Bd (M : Int) (d : List Int) : Prop := ∀ v, v < d.length → -1 ≤ atI d v ∧ atI d v ≤ M
theorem startD_bd {N s : Nat} (hs : s < N) : Bd 0 (startD N s) := by
  intro v hv
  rw [startD_len] at hv
  rw [startD_at hs hv]
  split <;> omega
theorem relax_bd {M : Int} {d : List Int} {a : ArcT} (h : Bd M d) (hf : frN a < d.length) (ht : toN a < d.length) (hc : 0 ≤ tm a ∧ tm a ≤ 1048576) : Bd (M + 1048576) (relax tm d a) := by
  intro v hv
  rw [relax_len] at hv
  have h1 := h v hv
  have h2 := h _ hf
  unfold relax
  split
  · next hb =>
    have := hb.1
    rw [atI_set ht]
    split <;> omega
  · omega
end Go.Proofs.Ytbkmfjegbmjknaa

namespace Go.Proofs.Ytbkmfjegbmjknaa
open Go.RowKit
set_option linter.unusedVariables false

set_option maxRecDepth 100000 in
set_option maxHeartbeats 1000000 in
theorem sameints_eq (A : List Int) (aa ab : Option Addr) (ca cb : Nat) (w : World) (ha : Lst encI w aa A) (hb : Lst encI w ab A) (hl : A.length ≤ 200000) :
    Calls Try.prog 28 #[.slice aa A.length ca, .slice ab A.length cb] w fun e w' => e = .returned (.bool true) ∧ Below w.heap.size w w' := by
  have HA := Lib.hid ha
  have HB := Lib.hid hb
  clear ha hb
  go_enter Try.func28, Try.ntmps28
  go_wp2
  go_loopw [5] (fun i wr => ∃ k : Nat, k ≤ A.length ∧ i = .int .i64 (k : Int) ∧ Hid (Below w.heap.size w wr)) (fun i _ => A.length - (intOf i).toNat)
  case atStart => exact ⟨0, Nat.zero_le _, rfl, Lib.hid (Below.refl _ _)⟩
  case round =>
    obtain ⟨k, hk, rfl, HW⟩ := hrel
    by_cases hlt : k < A.length
    · have hli : (k : Int) < (A.length : Int) := by omega
      obtain ⟨b1, o1, q1, hb1, hc1⟩ := lst_cell (HA.out.below HW.out) (List.getElem?_eq_getElem hlt)
      obtain ⟨b2, o2, q2, hb2, hc2⟩ := lst_cell (HB.out.below HW.out) (List.getElem?_eq_getElem hlt)
      cases q1
      cases q2
      unfold encI at hc1 hc2
      generalize A[k] = x at *
      go_wp2
      go_quiet (fail)
      go_wp2
      go_roundw
      case rel => exact ⟨k + 1, by omega, by go_num, Lib.hid (below_drewN HW.out _)⟩
      case measure => simp [intOf]; omega
    · have hli : ¬ (k : Int) < (A.length : Int) := by omega
      obtain rfl : k = A.length := by omega
      go_wp2
      go_ret
      exact ⟨rfl, HW.out⟩
theorem grow_at {w : World} {ga : Option Addr} {G : List (List Nat)} (h : GRow w ga G) {i : Nat} {g : List Nat} (hg : G[i]? = some g) : ∃ b o ao cap, ga = some ⟨b, o, none⟩ ∧ b < w.heap.size ∧ w.cell? ⟨b, o + i, none⟩ = some (.slice ao g.length cap) ∧ Lst encI w ao (natI g) := by
  obtain ⟨hi, e⟩ := List.getElem?_eq_some_iff.1 hg
  subst e
  exact h i hi
/-! What any right program answers -/
def Z3 : List ArcT := [(0, 1, 0, 5), (1, 2, 0, 1), (0, 2, 0, 9)]
theorem row3 (w : World) (g : Nat) (hg : w.heap.size = g) (t : TypeId) : Row encA 4 (w.alloc (.cells #[.int .i64 0, .int .i64 1, .int .i64 0, .int .i64 5, .int .i64 1, .int .i64 2, .int .i64 0, .int .i64 1, .int .i64 0, .int .i64 2, .int .i64 0, .int .i64 9] t)) (some ⟨g, 0, none⟩) Z3 := by
  intro i hi
  refine ⟨g, 0, rfl, by simp; omega, fun j hj => ?_⟩
  rw [Nat.zero_add, cell_new' hg]
  match i, hi, j, hj with
  | 0, _, 0, _ => rfl
  | 0, _, 1, _ => rfl
  | 0, _, 2, _ => rfl
  | 0, _, 3, _ => rfl
  | 1, _, 0, _ => rfl
  | 1, _, 1, _ => rfl
  | 1, _, 2, _ => rfl
  | 1, _, 3, _ => rfl
  | 2, _, 0, _ => rfl
  | 2, _, 1, _ => rfl
  | 2, _, 2, _ => rfl
  | 2, _, 3, _ => rfl
theorem lst3 (w : World) (t : TypeId) (g : Nat) (hg : w.heap.size = g) (x y u : Int) : Lst encI (w.alloc (.cells #[.int .i64 x, .int .i64 y, .int .i64 u] t)) (some ⟨g, 0, none⟩) [x, y, u] := by
  intro i hi
  refine ⟨g, 0, rfl, by simp; omega, ?_⟩
  rw [Nat.zero_add, cell_new' hg]
  match i, hi with
  | 0, _ => rfl
  | 1, _ => rfl
  | 2, _ => rfl
theorem z3_err : hopE 3 Z3 0 = 0 := by decide
theorem z3_chk : checkE 3 Z3 = 0 := by decide
theorem z3_hops : hopsL 3 Z3 0 = [0, 1, 1] := by decide
theorem z3_fast : fastL 3 Z3 0 = [0, 5, 6] := by decide
theorem z3_order : orderL 3 Z3 = some [0, 1, 2] := by decide
end Go.Proofs.Ytbkmfjegbmjknaa
