/- Lemmas of the layers below, several texts in one. -/
import Derived.Test.YtlkbohpnlbfopaaQLaid
import Derived.Test.YtlkbohpnlbfopaaBR
import Derived.Shelf.SlSortFuncK.ComposeK
import Derived.Test.YtlkbohpnlbfopaaBQ
import Derived.LoopTactic
import Derived.Carry
import Derived.OwnWalk
import Derived.Maps.AppendAt
namespace Go.Proofs.Ytlkbohpnlbfopaa
open Go.RowKit Go.Sort Go.Shelf
set_option linter.unusedVariables false
theorem swo_of {α : Type} {cf : α → α → Int} {key : α → Int × Int × Int} (hc : ∀ a b, decide (cf a b < 0) = ltK (key a) (key b)) : SWO (ltOf cf) where
  irrefl x := by show decide (cf x x < 0) = false; rw [hc]; exact ltK_irrefl _
  trans x y z h1 h2 := by
    have a : ltK (key x) (key y) = true := by rw [← hc]; exact h1
    have b : ltK (key y) (key z) = true := by rw [← hc]; exact h2
    show decide (cf x z < 0) = true; rw [hc]; exact ltK_trans a b
  ntrans x y z h1 h2 := by
    have a : ltK (key x) (key y) = false := by rw [← hc]; exact h1
    have b : ltK (key y) (key z) = false := by rw [← hc]; exact h2
    show decide (cf x z < 0) = false; rw [hc]; exact ltK_ntrans a b
section
variable {α : Type} [Inhabited α] {enc : α → List Value} {k : Nat}
theorem kept_sortQ {w : World} {blk off n : Nat} {d : Array α} {os : Array Obj} : Kept (fun i => i = blk) w (sortWorldK enc k w blk off n d os) := by
  refine ⟨rfl, rfl, rfl, ?_, fun i hi hn => ?_⟩
  · simp [sortWorldK, grow, putRowK, putRow, mapBlock]
  · have hi' : i < (w.heap.modify blk (onCells (putCells id off (flatK enc k d)))).size := by simpa using hi
    show ((w.heap.modify blk (onCells (putCells id off (flatK enc k d)))) ++ os)[i]? = w.heap[i]?
    rw [Array.getElem?_append_left hi', Array.getElem?_modify, if_neg (fun e => hn e.symm)]
theorem holds_of_own (hk : ∀ x, (enc x).length = k) (hk0 : 0 < k) {w : World} {base g n cap : Nat} {e : TypeId} {Z : List α} (h : w.ownsRow base e k (.slice (some ⟨g, 0, none⟩) n cap) Z.length (Z.flatMap enc)) : HoldsK enc k w g 0 Z.toArray := by
  rcases h.2 with ⟨h0, _⟩ | ⟨g', cap', cur, e1, hb, hg, h1, h2, h3, h4⟩
  · cases h0
  · cases e1
    intro t ht
    rw [size_flatK] at ht
    refine ⟨?_, frozen_whole hg _⟩
    have ht' : t < Z.length * k := by simpa using ht
    obtain ⟨i, j, rfl, hj, hi⟩ := flat_split hk Z ht'
    have e1 : (i * k + j) / k = i := by rw [Nat.mul_comm, Nat.mul_add_div hk0, Nat.div_eq_of_lt hj]; omega
    have e2 : (i * k + j) % k = j := by rw [Nat.mul_comm, Nat.mul_add_mod, Nat.mod_eq_of_lt hj]
    rw [get_flatK _ _ _ _ ht, cell_whole hg, Nat.zero_add, ← Array.getElem?_toList]
    have e3 : (cur.toList.take (Z.length * k))[i * k + j]? = cur.toList[i * k + j]? := List.getElem?_take_of_lt ht'
    rw [← e3, h4, flat_get hk Z i j hj, List.getElem?_eq_getElem hi, e1, e2]
    rw [getElem!_pos Z.toArray i (by simpa using hi)]
    simp only [List.getElem_toArray, Option.bind_some, id]
    rw [List.getElem?_eq_getElem (by rw [hk]; exact hj), getElem!_pos _ j (by rw [hk]; exact hj)]
theorem row_of_holds (hk : ∀ x, (enc x).length = k) {w : World} {g : Nat} {d : Array α} (h : HoldsK enc k w g 0 d) (hg : g < w.heap.size) : Row enc k w (some ⟨g, 0, none⟩) d.toList := by
  intro i hi
  have hi' : i < d.size := by simpa using hi
  refine ⟨g, 0, rfl, hg, fun j hj => ?_⟩
  rw [(h.cell hi' hj).1, getElem!_pos d i hi']
  rw [Array.getElem_toList, List.getElem?_eq_getElem (by rw [hk]; exact hj), getElem!_pos _ j (by rw [hk]; exact hj)]
def Sorted (key : α → Int × Int × Int) (l : List α) : Prop := l.Pairwise fun x y => ltK (key y) (key x) = false
theorem sorted_ofQ {cf : α → α → Int} {key : α → Int × Int × Int} (hc : ∀ a b, decide (cf a b < 0) = ltK (key a) (key b)) {d : Array α} (h : SortedIn (ltOf cf) 0 d.size d) : Sorted key d.toList := by
  refine List.pairwise_iff_getElem.2 fun i j hi hj hij => ?_
  have := h i j (Nat.zero_le _) hij (by simpa using hj)
  rw [getElem!_pos d j (by simpa using hj), getElem!_pos d i (by simpa using hi)] at this
  have e : decide (cf d[j] d[i] < 0) = false := this
  rw [hc] at e
  simpa using e
theorem perm_ofQ {d d' : Array α} (h : PermIn 0 d.size d d') : d'.toList.Perm d.toList := by
  obtain ⟨h1, _, h3⟩ := h
  rw [Array.extract_size, show d'.extract 0 d.size = d' by rw [← h1]; exact Array.extract_size] at h3
  exact h3
end
def SortEnd {α : Type} (enc : α → List Value) (k : Nat) (key : α → Int × Int × Int) (g : Nat) (Z : List α) (w : World) (e : Ending) (w' : World) : Prop :=
  e = .returned (.tuple #[]) ∧ ∃ S, S.Perm Z ∧ Sorted key S ∧ Row enc k w' (some ⟨g, 0, none⟩) S ∧ Kept (fun i => i = g) w w'
theorem sortm_row (g cap base : Nat) (Z : List (Int × Int × Int)) (w : World) (h : w.ownsRow base 78 3 (.slice (some ⟨g, 0, none⟩) Z.length cap) Z.length (Z.flatMap encK)) (hs : Z.length ≤ 65536) :
    Calls Try.prog 73 #[.slice (some ⟨g, 0, none⟩) Z.length cap, .func (.func 74) #[] #[]] w (SortEnd encK 3 kM g Z w) := by
  have eg : ∀ args w, (callFunc 74 args).run Try.prog w = .ok (.enter 74 args) w := enters_of Try.func74 (by kernel_rfl) rfl
  have hH := holds_of_own encK_len (by omega) h
  have hblk : g < w.heap.size := (h.lt g rfl).2
  have hL : CmpLays Try.prog 74 #[] encK 3 cmpM g 0 Z.toArray.size w := fun m os dk _ x y => (cmpm_any x y _).mono fun _ _ ⟨he, q, os', hw⟩ => ⟨he, q, os', hw⟩
  have hS := AnyQ.slices_SortFunc Try.sortM 3 Try.isAgg78 Try.sizeOf78 encK (fun _ => rfl) (fun x v hv => by have := encK_one x v hv; simpa using this) cmpM (swo_of cmpM_lt) 74 #[] g 0 cap Z.toArray w eg hL hH hblk (by simp; omega)
  change Calls Try.prog 73 #[.slice (some ⟨g, 0, none⟩) Z.length cap, .func (.func 74) #[] #[]] w _ at hS
  refine hS.mono ?_
  rintro e w' ⟨rfl, d', n, os, hp, hso, rfl⟩
  have hsz : d'.size = Z.toArray.size := hp.1
  refine ⟨rfl, d'.toList, perm_ofQ hp, sorted_ofQ cmpM_lt (by rw [hsz]; exact hso), ?_, kept_sortQ⟩
  exact row_of_holds encK_len (holdsK_sortWorldK encK 3 w g 0 n Z.toArray d' os hblk hH hsz) (lt_sortWorldK encK 3 w g 0 n d' os hblk)
theorem sortm_nil (w : World) : Calls Try.prog 73 #[.slice none 0 0, .func (.func 74) #[] #[]] w fun e w' => e = .returned (.tuple #[]) ∧ w' = w := by
  have hS := AnyF.slices_SortFunc_none Try.sortM none 0 (.func (.func 74) #[] #[]) w
  change Calls Try.prog 73 _ _ _ at hS
  refine hS.mono ?_
  rintro e w' ⟨rfl, rfl⟩
  exact ⟨rfl, rfl⟩
end Go.Proofs.Ytlkbohpnlbfopaa
namespace Go.Proofs.Ytlkbohpnlbfopaa
open Go.RowKit
set_option linter.unusedVariables false
end Go.Proofs.Ytlkbohpnlbfopaa
namespace Go.Proofs.Ytlkbohpnlbfopaa
open Go.RowKit Go.Sort Go.Shelf
set_option linter.unusedVariables false
abbrev MoveT := Int × Int × Int
def pairsOf (Z : List MoveT) : List (Int × Int) := Z.map fun m => (m.2.1, m.1)
def nAt (Z : List MoveT) (i : Nat) : Int := (Z.getD i (0, 0, 0)).2.2
def nSum (Z : List MoveT) (p : Int × Int) : Int := ((placesQ (pairsOf Z) p).map (nAt Z)).sum
def mkMove (Z : List MoveT) (p : Int × Int) : MoveT := (p.2, p.1, nSum Z p)
def notNil (m : MoveT) : Bool := m.2.2 != 0
def mvs (Z : List MoveT) : List MoveT := ((firsts (pairsOf Z)).map (mkMove Z)).filter notNil
def mvS (Z : List MoveT) : List Int := tots (nAt Z) (grps (pairsOf Z))
theorem mvS_eq (Z : List MoveT) : mvS Z = (firsts (pairsOf Z)).map (nSum Z) := by
  unfold mvS tots grps; rw [List.map_map]; rfl
theorem nAt_eq {Z : List MoveT} {i : Nat} (hi : i < Z.length) : nAt Z i = Z[i].2.2 := by unfold nAt; rw [getD_of_lt hi]
def mvTo (Z : List MoveT) (i : Nat) : List MoveT := (((firsts (pairsOf Z)).take i).map (mkMove Z)).filter notNil
theorem mvTo_step {Z : List MoveT} {i : Nat} {p : Int × Int} (h : (firsts (pairsOf Z))[i]? = some p) : mvTo Z (i + 1) = mvTo Z i ++ if nSum Z p = 0 then [] else [(p.2, p.1, nSum Z p)] := by
  unfold mvTo
  rw [take_snoc' h, List.map_append, List.filter_append]
  congr 1
  by_cases hz : nSum Z p = 0
  · simp [mkMove, notNil, hz]
  · simp [mkMove, notNil, hz]
theorem mvTo_len (Z : List MoveT) (i : Nat) : (mvTo Z i).length ≤ (firsts (pairsOf Z)).length := by
  unfold mvTo
  refine Nat.le_trans (List.length_filter_le _ _) ?_
  simp; omega
theorem mvTo_all (Z : List MoveT) : mvTo Z (firsts (pairsOf Z)).length = mvs Z := by unfold mvTo mvs; rw [List.take_length]
theorem place_ltQ {α : Type} [DecidableEq α] {l : List α} {g : List Nat} (hg : g ∈ grps l) {i : Nat} (hi : i ∈ g) : i < l.length := by
  obtain ⟨k, _, rfl⟩ := List.mem_map.1 hg
  exact (List.getElem?_eq_some_iff.1 (mem_places.1 hi)).1
theorem group_lenQ {α : Type} [DecidableEq α] {l : List α} {g : List Nat} (hg : g ∈ grps l) : g.length ≤ l.length := by
  obtain ⟨k, _, rfl⟩ := List.mem_map.1 hg
  exact places_lenQ _ _
def MovesRes (Z : List MoveT) (w : World) (e : Ending) (w' : World) : Prop :=
  Below w.heap.size w w' ∧ ((AllIn (mvS Z) ∧ ∃ ao cap M, e = .returned (.tuple #[.slice ao M.length cap, .int .i64 0]) ∧ Row encK 3 w' ao M ∧ M.Perm (mvs Z) ∧ Sorted kM M) ∨ (¬ AllIn (mvS Z) ∧ e = .returned (.tuple #[.slice none 0 0, .int .i64 10])))
end Go.Proofs.Ytlkbohpnlbfopaa
namespace Go.Proofs.Ytlkbohpnlbfopaa
open Go.RowKit
set_option linter.unusedVariables false
theorem sorted_uniqueQ {α : Type} {key : α → Int × Int × Int} {a b : List α} (ha : Sorted key a) (hb : Sorted key b) (hp : a.Perm b) (hi : ∀ x ∈ a, ∀ y ∈ a, key x = key y → x = y) : a = b := by
  refine List.Perm.eq_of_pairwise (le := fun x y => ltK (key y) (key x) = false) ?_ ha hb hp
  intro x y hx hy h1 h2
  apply hi x hx y (hp.mem_iff.2 hy)
  rcases Decidable.em (key x = key y) with h | h
  · exact h
  · rcases ltK_total h with h | h
    · rw [h] at h2; cases h2
    · rw [h] at h1; cases h1
theorem firsts_of_nodup {α : Type} [DecidableEq α] (l : List α) : l.Nodup → firsts l = l := by
  induction l using snoc_induct with
  | h0 => intro _; rfl
  | h1 l x ih =>
    intro h
    rw [List.nodup_append] at h
    obtain ⟨h1, _, h3⟩ := h
    have hx : x ∉ l := fun hm => h3 x hm x (by simp) rfl
    rw [firsts_new hx, ih h1]
def nOf (Z : List MoveT) (p : Int × Int) : Int := ((Z.filter fun m => decide ((m.2.1, m.1) = p)).map fun m => m.2.2).sum
theorem nAt_append {Z : List MoveT} {m : MoveT} {i : Nat} (hi : i < Z.length) : nAt (Z ++ [m]) i = nAt Z i := by
  unfold nAt; rw [getD_append_left hi]
theorem nSum_eq (Z : List MoveT) (p : Int × Int) : nSum Z p = nOf Z p := by
  induction Z using snoc_induct with
  | h0 => rfl
  | h1 Z m ih =>
    have hl : (pairsOf Z).length = Z.length := by simp [pairsOf]
    have e1 : pairsOf (Z ++ [m]) = pairsOf Z ++ [(m.2.1, m.1)] := by simp [pairsOf]
    have e2 : (placesQ (pairsOf Z) p).map (nAt (Z ++ [m])) = (placesQ (pairsOf Z) p).map (nAt Z) := by
      apply List.map_congr_left
      intro i hi
      exact nAt_append (by rw [← hl]; exact (List.getElem?_eq_some_iff.1 (mem_places.1 hi)).1)
    have e3 : nAt (Z ++ [m]) Z.length = m.2.2 := by unfold nAt; rw [getD_end Z m _ rfl]
    unfold nSum nOf at *
    rw [e1, places_snocQ, List.map_append, e2, List.sum_append, ih, List.filter_append, List.map_append, List.sum_append, hl]
    congr 1
    by_cases h : (m.2.1, m.1) = p
    · simp [h, e3]
    · simp [h]
theorem sum_perm {a b : List Int} (h : a.Perm b) : a.sum = b.sum := by
  induction h with
  | nil => rfl
  | cons x _ ih => simp [ih]
  | swap x y l => simp; omega
  | trans _ _ i1 i2 => rw [i1, i2]
theorem mvs_mem {Z : List MoveT} {m : MoveT} (h : m ∈ mvs Z) : ∃ p, p ∈ pairsOf Z ∧ m = mkMove Z p ∧ m.2.2 ≠ 0 := by
  unfold mvs at h
  obtain ⟨h1, h2⟩ := List.mem_filter.1 h
  obtain ⟨p, hp, rfl⟩ := List.mem_map.1 h1
  exact ⟨p, mem_firsts.1 hp, rfl, by simpa [notNil] using h2⟩
theorem mvs_inj {Z : List MoveT} {x y : MoveT} (hx : x ∈ mvs Z) (hy : y ∈ mvs Z) (h : kM x = kM y) : x = y := by
  obtain ⟨p, _, rfl, _⟩ := mvs_mem hx
  obtain ⟨q, _, rfl, _⟩ := mvs_mem hy
  have : p = q := by
    simp only [kM, mkMove, Prod.mk.injEq] at h
    exact Prod.ext h.1 h.2.1
  rw [this]
theorem mvs_len (Z : List MoveT) : (mvs Z).length ≤ Z.length := by
  rw [← mvTo_all]
  refine Nat.le_trans (mvTo_len Z _) ?_
  have := firsts_len (pairsOf Z)
  simpa [pairsOf] using this
theorem filter_one_of {α β : Type} [DecidableEq β] {f : α → β} {l : List α} {m : α} (hm : m ∈ l) (hn : (l.map f).Nodup) : l.filter (fun x => decide (f x = f m)) = [m] := by
  induction l with
  | nil => cases hm
  | cons a l ih =>
    rw [List.map_cons, List.nodup_cons] at hn
    rcases List.mem_cons.1 hm with rfl | h
    · rw [List.filter_cons_of_pos (by simp)]
      congr 1
      apply List.filter_eq_nil_iff.2
      intro x hx e
      apply hn.1
      have e' : f x = f m := of_decide_eq_true e
      rw [← e']; exact List.mem_map.2 ⟨x, hx, rfl⟩
    · have hne : f a ≠ f m := fun e => hn.1 (by rw [e]; exact List.mem_map.2 ⟨m, h, rfl⟩)
      rw [List.filter_cons_of_neg (by simpa using hne)]
      exact ih h hn.2
theorem mvs_again {M : List MoveT} (hn : (pairsOf M).Nodup) (hz : ∀ m ∈ M, m.2.2 ≠ 0) : mvs M = M ∧ mvS M = M.map fun m => m.2.2 := by
  have e : ∀ m ∈ M, mkMove M (m.2.1, m.1) = m := by
    intro m hm
    have : nSum M (m.2.1, m.1) = m.2.2 := by
      rw [nSum_eq]; unfold nOf
      rw [filter_one_of (f := fun m : MoveT => (m.2.1, m.1)) hm hn]; simp
    unfold mkMove; rw [this]
  constructor
  · unfold mvs
    rw [firsts_of_nodup _ hn]
    have e1 : (pairsOf M).map (mkMove M) = M := by
      unfold pairsOf; rw [List.map_map]
      conv => rhs; rw [← List.map_id M]
      apply List.map_congr_left
      intro m hm; exact e m hm
    rw [e1]
    apply List.filter_eq_self.2
    intro m hm; simp [notNil, hz m hm]
  · rw [mvS_eq, firsts_of_nodup _ hn]
    unfold pairsOf; rw [List.map_map]
    apply List.map_congr_left
    intro m hm
    have := congrArg (fun x : MoveT => x.2.2) (e m hm)
    exact this
end Go.Proofs.Ytlkbohpnlbfopaa
