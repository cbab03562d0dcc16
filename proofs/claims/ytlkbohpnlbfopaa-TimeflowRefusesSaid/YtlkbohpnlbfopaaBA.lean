/- Lemmas of the layers below, several texts in one. -/
import Derived.WalkKit
import Derived.Below
import Derived.Deep.Draws
import Derived.Lib.Hide
import Derived.Maps.AppendAt
import Derived.Laws.BitsAllLaws
import Derived.Laws.BitsLemmas
import Derived.Test.YtlkbohpnlbfopaaChecked
import Derived.Laws.StructEq
import Derived.Deep.RegionHeld3
import Derived.Deep.RegionWith
import Derived.Deep.QuietTactic
import Derived.BigQuiet
import Derived.LoopTactic
import Derived.OwnWalk
import Derived.IntWalk
import Derived.Test.YtlkbohpnlbfopaaRows
import Derived.Sort.Grow
import Derived.Sort.LotA
namespace Go.Proofs.Ytlkbohpnlbfopaa
open Go.RowKit
set_option linter.unusedVariables false
structure Kept (S : Nat → Prop) (w w' : World) : Prop where
  os : w'.os = w.os
  tape : w'.tape = w.tape
  output : w'.output = w.output
  size : w.heap.size ≤ w'.heap.size
  block : ∀ i, i < w.heap.size → ¬ S i → w'.heap[i]? = w.heap[i]?
theorem Kept.refl (S : Nat → Prop) (w : World) : Kept S w w := ⟨rfl, rfl, rfl, Nat.le_refl _, fun _ _ _ => rfl⟩
theorem Kept.trans {S T : Nat → Prop} {a b c : World} (h : Kept S a b) (k : Kept T b c) (hs : ∀ i, i < a.heap.size → T i → S i) : Kept S a c :=
  ⟨k.os.trans h.os, k.tape.trans h.tape, k.output.trans h.output, Nat.le_trans h.size k.size, fun i hi hn => (k.block i (Nat.lt_of_lt_of_le hi h.size) (fun ht => hn (hs i hi ht))).trans (h.block i hi hn)⟩
theorem Kept.trans' {S : Nat → Prop} {a b c : World} (h : Kept S a b) (k : Kept S b c) : Kept S a c := h.trans k fun _ _ h => h
theorem Kept.mono {S T : Nat → Prop} {a b : World} (h : Kept S a b) (hs : ∀ i, i < a.heap.size → S i → T i) : Kept T a b :=
  ⟨h.os, h.tape, h.output, h.size, fun i hi hn => h.block i hi (fun k => hn (hs i hi k))⟩
theorem Kept.below {S : Nat → Prop} {a b : World} (h : Kept S a b) {B : Nat} (hB : B ≤ a.heap.size) (hs : ∀ i, S i → B ≤ i) : Below B a b :=
  ⟨h.os, h.tape, h.output, h.size, fun i hi => h.block i (by omega) (fun k => by have := hs i k; omega)⟩
theorem Kept.of_below {S : Nat → Prop} {a b : World} (h : Below a.heap.size a b) : Kept S a b := ⟨h.os, h.tape, h.output, h.size, fun i hi _ => h.block i hi⟩
theorem Kept.of_grown {S : Nat → Prop} {a b : World} {row : Option Nat} (h : a.grownBy b row) (hr : ∀ k, row = some k → S k) : Kept S a b :=
  ⟨h.os, h.tape, h.output, h.size, fun i hi hn => h.block i hi (fun e => hn (hr i e.symm))⟩
theorem Kept.drewN {S : Nat → Prop} {a b : World} (h : Kept S a b) (n : Nat) : Kept S a (b.drewN n) := ⟨h.os, h.tape, h.output, h.size, h.block⟩
theorem Kept.alloc {S : Nat → Prop} {a b : World} (h : Kept S a b) (o : Obj) : Kept S a (b.alloc o) :=
  ⟨h.os, h.tape, h.output, Nat.le_trans h.size (by simp), fun i hi hn => (Below.heap_alloc b o i (Nat.lt_of_lt_of_le hi h.size)).trans (h.block i hi hn)⟩
theorem Kept.setCell {S : Nat → Prop} {a b : World} (h : Kept S a b) {p : Addr} (hp : S p.block ∨ a.heap.size ≤ p.block) (u : Value) : Kept S a (b.setCell p u) :=
  ⟨h.os, h.tape, h.output, by simpa [World.setCell] using h.size, fun i hi hn => (Below.heap_setCell b p u i (by
    rintro rfl
    rcases hp with hp | hp
    · exact hn hp
    · omega)).trans (h.block i hi hn)⟩
theorem Kept.set {S : Nat → Prop} {a b : World} (h : Kept S a b) {g j : Nat} (hp : S g ∨ a.heap.size ≤ g) (u : Value) : Kept S a (b.setCell ⟨g, j, none⟩ u) := h.setCell hp u
theorem Kept.drew {S : Nat → Prop} {a b : World} (h : Kept S a b) : Kept S a b.drew := ⟨h.os, h.tape, h.output, h.size, h.block⟩
theorem Kept.old {S : Nat → Prop} {a b : World} (h : Kept S a b) {i : Nat} {o : Obj} (hi : a.heap[i]? = some o) (hn : ¬ S i) : b.heap[i]? = some o :=
  (h.block i (Array.getElem?_eq_some_iff.1 hi).1 hn).trans hi
theorem cell_whole {w : World} {b : Nat} {cs : Array Value} {t : TypeId} (h : w.heap[b]? = some (.cells cs t (0, 0))) (j : Nat) : w.cell? ⟨b, j, none⟩ = cs[j]? := cell_of_row w b j cs t (0, 0) h
theorem frozen_whole {w : World} {b : Nat} {cs : Array Value} {t : TypeId} (h : w.heap[b]? = some (.cells cs t (0, 0))) (j : Nat) : w.frozen? ⟨b, j, none⟩ = false := frozen_of_row w b j cs t h
theorem set_whole {w : World} {b : Nat} {cs : Array Value} {t : TypeId} (h : w.heap[b]? = some (.cells cs t (0, 0))) (j : Nat) (u : Value) : (w.setCell ⟨b, j, none⟩ u).heap[b]? = some (.cells (cs.setIfInBounds j u) t (0, 0)) := heap_setCell_same w b j cs t u h
theorem set_other {w : World} {b g : Nat} {o : Option Obj} (h : w.heap[g]? = o) (hn : g ≠ b) (j : Nat) (u : Value) : (w.setCell ⟨b, j, none⟩ u).heap[g]? = o := (Below.heap_setCell w _ u g hn).trans h
theorem alloc_whole {w : World} {g : Nat} {o : Obj} (h : w.heap[g]? = some o) (x : Obj) : (w.alloc x).heap[g]? = some o := (Below.heap_alloc w x g (Array.getElem?_eq_some_iff.1 h).1).trans h
theorem new_whole1 (w : World) (o p : Obj) : ((w.alloc o).alloc p).heap[w.heap.size + 1]? = some p := by
  have h := heap_alloc_new (w.alloc o) p
  rw [show (w.alloc o).heap.size = w.heap.size + 1 by simp] at h
  exact h
theorem ret_int {k : IntKind} {a b : Int} (h : a = b) : Ending.returned (.int k a) = .returned (.int k b) := by rw [h]
theorem ret_eq {a b : Value} (h : a = b) : Ending.returned a = .returned b := by rw [h]
theorem cell_drew {w w2 : World} {n : Nat} (h : w2 = w.drewN n) {a : Addr} {v : Value} (c : w.cell? a = some v) : w2.cell? a = some v := by subst h; exact c
theorem cell_new (w : World) (cs : Array Value) (t : TypeId) (j : Nat) : (w.alloc (.cells cs t)).cell? ⟨w.heap.size, j, none⟩ = cs[j]? := cell_whole (heap_alloc_new _ _) j
theorem ret_bool {a b : Bool} (h : a = b) : Ending.returned (.bool a) = .returned (.bool b) := by rw [h]
theorem lt_whole {w : World} {g : Nat} {o : Obj} (h : w.heap[g]? = some o) : g < w.heap.size := (Array.getElem?_eq_some_iff.1 h).1
end Go.Proofs.Ytlkbohpnlbfopaa
namespace Go.Proofs.Ytlkbohpnlbfopaa
open Go.RowKit
set_option linter.unusedVariables false
theorem cell_new' {w : World} {n : Nat} (hn : w.heap.size = n) (cs : Array Value) (t : TypeId) (j : Nat) : (w.alloc (.cells cs t)).cell? ⟨n, j, none⟩ = cs[j]? := by subst hn; exact cell_new w cs t j
theorem cell_newL {w : World} {n : Nat} (hn : w.heap.size = n) (l : List Value) (t : TypeId) (j : Nat) : (w.alloc (.cells l.toArray t)).cell? ⟨n, j, none⟩ = l[j]? := by rw [cell_new' hn]; simp
theorem cell_below {B : Nat} {w w' : World} (hb : Below B w w') {b o : Nat} {v : Value} (h : w.cell? ⟨b, o, none⟩ = some v) (hB : w.heap.size ≤ B := by omega) : w'.cell? ⟨b, o, none⟩ = some v :=
  (hb.cell (p := ⟨b, o, none⟩) (Nat.lt_of_lt_of_le (block_lt_of_cell h) hB)).trans h
theorem cell_alloc {w : World} {b o : Nat} {v : Value} (h : w.cell? ⟨b, o, none⟩ = some v) (x : Obj) : (w.alloc x).cell? ⟨b, o, none⟩ = some v := cell_below ((Below.refl _ w).alloc (Nat.le_refl _) x) h
theorem below_drew {B : Nat} {w w' : World} (h : Below B w w') : Below B w w'.drew := h.trans ⟨rfl, rfl, rfl, Nat.le_refl _, fun _ _ => rfl⟩
section
variable {α : Type} {enc : α → List Value} {k : Nat}
theorem flat_get (hk : ∀ x, (enc x).length = k) : ∀ (A : List α) (i j : Nat), j < k → (A.flatMap enc)[i * k + j]? = (A[i]?).bind fun x => (enc x)[j]?
  | [], i, j, hj => by simp
  | x :: A, 0, j, hj => by
    rw [List.flatMap_cons, Nat.zero_mul, Nat.zero_add, List.getElem?_append_left (by rw [hk]; exact hj)]; rfl
  | x :: A, i + 1, j, hj => by
    rw [List.flatMap_cons, List.getElem?_append_right (by rw [hk, Nat.add_mul]; omega), hk, show (i + 1) * k + j - k = i * k + j by rw [Nat.add_mul]; omega, flat_get hk A i j hj]; rfl
def Row (enc : α → List Value) (k : Nat) (w : World) (ao : Option Addr) (A : List α) : Prop :=
  ∀ i (hi : i < A.length), ∃ b o, ao = some ⟨b, o, none⟩ ∧ b < w.heap.size ∧ ∀ j, j < k → w.cell? ⟨b, o + i * k + j, none⟩ = (enc A[i])[j]?
theorem Row.nil (w : World) (ao : Option Addr) : Row enc k w ao [] := fun i hi => absurd hi (by simp)
theorem Row.below {B : Nat} {w w' : World} {ao : Option Addr} {A : List α} (h : Row enc k w ao A) (hb : Below B w w') (hB : ∀ ad, ao = some ad → 0 < A.length → ad.block < B) : Row enc k w' ao A := by
  intro i hi
  obtain ⟨b, o, h1, h2, h3⟩ := h i hi
  have hB' : b < B := hB _ h1 (by omega)
  exact ⟨b, o, h1, Nat.lt_of_lt_of_le h2 hb.size, fun j hj => by rw [hb.cell hB']; exact h3 j hj⟩
theorem Row.lt {w : World} {ao : Option Addr} {A : List α} (h : Row enc k w ao A) : ∀ ad, ao = some ad → 0 < A.length → ad.block < w.heap.size := by
  intro ad e h0
  obtain ⟨b, o, e', hb, _⟩ := h 0 h0
  rw [e] at e'; cases e'; exact hb
theorem Row.below' {w w' : World} {ao : Option Addr} {A : List α} (h : Row enc k w ao A) (hb : Below w.heap.size w w') : Row enc k w' ao A := h.below hb h.lt
theorem row_alloc {w : World} {ao : Option Addr} {A : List α} (h : Row enc k w ao A) (o : Obj) : Row enc k (w.alloc o) ao A := h.below' ((Below.refl _ w).alloc (Nat.le_refl _) o)
theorem own_row (hk : ∀ x, (enc x).length = k) {w : World} {base : Nat} {e : TypeId} {v : Value} {A : List α} (h : w.ownsRow base e k v A.length (A.flatMap enc)) :
    ∃ ao cap, v = .slice ao A.length cap ∧ Row enc k w ao A := by
  rcases h.2 with ⟨rfl, h0⟩ | ⟨g, cap, cur, rfl, hb, hg, h1, h2, h3, h4⟩
  · refine ⟨none, 0, by rw [h0], ?_⟩
    have : A = [] := List.eq_nil_of_length_eq_zero h0
    subst this; exact Row.nil _ _
  · refine ⟨_, cap, rfl, fun i hi => ⟨g, 0, rfl, lt_whole hg, fun j hj => ?_⟩⟩
    have hlt : i * k + j < A.length * k := by
      have : (i + 1) * k ≤ A.length * k := Nat.mul_le_mul_right _ hi
      rw [Nat.add_mul] at this; omega
    rw [cell_whole hg, Nat.zero_add, ← Array.getElem?_toList]
    have e1 : (cur.toList.take (A.length * k))[i * k + j]? = cur.toList[i * k + j]? := List.getElem?_take_of_lt hlt
    rw [← e1, h4, flat_get hk A i j hj, List.getElem?_eq_getElem hi]; rfl
theorem wpList_append_row {t e : TypeId} {bytes : Nat} {z : Value} (ht : Try.prog.underlying t = some (.slice e)) (hinfo : (Try.prog.info? e).map (fun i => (i.zero, i.size, i.bytes)) = some (some z, k, bytes)) (hzs : z.cells.size = k) (hk0 : 0 < k) (hby : bytes ≤ 64)
    (hk : ∀ x, (enc x).length = k)
    {w : World} {ops : Array Oper} {rest : List Oper} {o : Oper} {a : Act} {Q : Exit → Act → World → Prop} (hgd : o.guard = none) (s y : Operand)
    (ho : o.op = .call { callee := .builtin .append, args := #[s, y], argTypes := #[t, t] })
    (base : Nat) (v : Value) (A : List α) (x : α) (hone : ∀ u ∈ enc x, u.oneCell' = true) (hs : a.eval s = v) (hown : w.ownsRow base e k v A.length (A.flatMap enc))
    (gs : Nat) (c : Nat) (hx : a.eval y = .slice (some ⟨gs, 0, none⟩) 1 c) (hc : ∀ j, j < k → w.cell? ⟨gs, j, none⟩ = (enc x)[j]?)
    (hroom : A.length ≤ 200000) (hbase : base ≤ w.heap.size)
    (hK : ∀ g cap w', w'.ownsRow base e k (.slice (some ⟨g, 0, none⟩) (A.length + 1) cap) (A ++ [x]).length ((A ++ [x]).flatMap enc) → w.grownBy w' v.ownBlock → (v.ownBlock = some g ∨ g = w.heap.size) → base ≤ g → g < w'.heap.size → wpList Try.prog ops Q rest (a.put o.dst (.slice (some ⟨g, 0, none⟩) (A.length + 1) cap)) w') : wpList Try.prog ops Q (o :: rest) a w := by
  obtain ⟨i0, hi, hz0, hz1, hz2⟩ := info_parts hinfo
  refine wpList_append_own_at w hgd s y t ho base e i0 _ k bytes ht hi hz0 hz1 hz2 hzs hk0 v A.length (A.flatMap enc) hs hown ⟨gs, 0, none⟩ 1 c (enc x) hx (by rw [hk, Nat.one_mul]) ?_ hone (by unfold maxLen; omega) ?_ hbase ?_
  · intro j u hj
    rw [Addr.add_lit, Nat.zero_add]
    have hjk : j < k := by rw [← hk x]; exact (List.getElem?_eq_some_iff.1 hj).1
    rw [hc j hjk]; exact hj
  · have : (A.length + 1) * bytes ≤ 200001 * 64 := Nat.mul_le_mul (by omega) hby
    omega
  · intro v' w' h1 h2 h3 h4
    have e1 : A.flatMap enc ++ enc x = (A ++ [x]).flatMap enc := by simp
    rw [e1] at h1
    have h1' : w'.ownsRow base e k v' (A ++ [x]).length ((A ++ [x]).flatMap enc) := by rw [List.length_append]; exact h1
    rcases h1.2 with ⟨_, h0⟩ | ⟨g, cap, cur, rfl, hb, hg, _⟩
    · omega
    · refine hK g cap w' h1' h2 ?_ hb (lt_whole hg)
      rcases h4 with h4 | h4
      · exact .inl (by rw [← h4]; rfl)
      · right; simpa [Value.ownBlock] using h4
end
def Lst {α : Type} (enc : α → Value) (w : World) (ao : Option Addr) (A : List α) : Prop :=
  ∀ i (hi : i < A.length), ∃ b o, ao = some ⟨b, o, none⟩ ∧ b < w.heap.size ∧ w.cell? ⟨b, o + i, none⟩ = some (enc A[i])
theorem Lst.nil {α : Type} {enc : α → Value} (w : World) (ao : Option Addr) : Lst enc w ao [] := fun i hi => absurd hi (by simp)
theorem Lst.below {α : Type} {enc : α → Value} {w w' : World} {ao : Option Addr} {A : List α} (h : Lst enc w ao A) (hb : Below w.heap.size w w') : Lst enc w' ao A := by
  intro i hi
  obtain ⟨b, o, h1, h2, h3⟩ := h i hi
  exact ⟨b, o, h1, Nat.lt_of_lt_of_le h2 hb.size, (hb.cell (p := ⟨b, o + i, none⟩) h2).trans h3⟩
theorem own_lst {α : Type} {enc : α → Value} {w : World} {base : Nat} {e : TypeId} {v : Value} {A : List α} (h : w.ownsRow base e 1 v A.length (A.map enc)) : ∃ ao cap, v = .slice ao A.length cap ∧ Lst enc w ao A := by
  rcases h.2 with ⟨rfl, h0⟩ | ⟨g, cap, cur, rfl, hb, hg, h1, h2, h3, h4⟩
  · refine ⟨none, 0, by rw [h0], ?_⟩
    have : A = [] := List.eq_nil_of_length_eq_zero h0
    subst this; exact Lst.nil _ _
  · refine ⟨_, cap, rfl, fun i hi => ⟨g, 0, rfl, (Array.getElem?_eq_some_iff.1 hg).1, ?_⟩⟩
    have := h.cells (g := g) rfl i (enc A[i]) (by simp [hi])
    rw [Addr.add_lit, Nat.zero_add] at this
    rw [Nat.zero_add]; exact this
def encI (z : Int) : Value := .int .i64 z
def In64 (Z : List Int) : Prop := ∀ z ∈ Z, -9223372036854775808 ≤ z ∧ z ≤ 9223372036854775807
theorem In64.at {Z : List Int} (h : In64 Z) {i : Nat} (hi : i < Z.length) : -9223372036854775808 ≤ Z[i] ∧ Z[i] ≤ 9223372036854775807 := h _ (List.getElem_mem hi)
theorem own_mono {W : World} {a b : Nat} {e : TypeId} {k : Nat} {v : Value} {n : Nat} {xs : List Value} (h : W.ownsRow b e k v n xs) (hab : a ≤ b) : W.ownsRow a e k v n xs := by
  refine ⟨h.1, ?_⟩
  rcases h.2 with h | ⟨g, cap, cur, h1, h2, h3⟩
  · exact .inl h
  · exact .inr ⟨g, cap, cur, h1, Nat.le_trans hab h2, h3⟩
theorem own_block {W : World} {a g : Nat} {e : TypeId} {k : Nat} {v : Value} {n : Nat} {xs : List Value} (h : W.ownsRow a e k v n xs) (hg : v.ownBlock = some g) : a ≤ g := by
  rcases h.2 with ⟨rfl, _⟩ | ⟨g', cap, cur, rfl, h2, _⟩
  · simp [Value.ownBlock] at hg
  · simp [Value.ownBlock] at hg; omega
theorem infoInt : (Try.prog.info? 3).map (fun i => (i.zero, i.size, i.bytes)) = some (some (.int .i64 0), 1, 8) := by kernel_rfl
theorem own_below {w w' : World} {base : Nat} {e : TypeId} {k : Nat} {v : Value} {n : Nat} {xs : List Value} (h : w.ownsRow base e k v n xs) (hb : Below w.heap.size w w') : w'.ownsRow base e k v n xs := by
  refine ⟨h.1, ?_⟩
  rcases h.2 with h | ⟨g, cap, cur, h1, h2, h3, h4⟩
  · exact .inl h
  · exact .inr ⟨g, cap, cur, h1, h2, (hb.block g (Array.getElem?_eq_some_iff.1 h3).1).trans h3, h4⟩
theorem below_drewN {B : Nat} {w w' : World} (h : Below B w w') (n : Nat) : Below B w (w'.drewN n) := h.trans ⟨rfl, rfl, rfl, Nat.le_refl _, fun _ _ => rfl⟩
theorem vi {a b : Int} (h : a = b) : Value.int .i64 a = .int .i64 b := by rw [h]
theorem lst_cell {α : Type} {enc : α → Value} {w : World} {ao : Option Addr} {A : List α} (h : Lst enc w ao A) {i : Nat} {x : α} (hx : A[i]? = some x) : ∃ b o, ao = some ⟨b, o, none⟩ ∧ b < w.heap.size ∧ w.cell? ⟨b, o + i, none⟩ = some (enc x) := by
  obtain ⟨hi, e⟩ := List.getElem?_eq_some_iff.1 hx
  obtain ⟨b, o, h1, h2, h3⟩ := h i hi
  exact ⟨b, o, h1, h2, by rw [h3, e]⟩
theorem cell_below' {B : Nat} {w w' : World} (hb : Below B w w') {b o : Nat} {v : Value} (h : w.cell? ⟨b, o, none⟩ = some v) (hlt : b < B) : w'.cell? ⟨b, o, none⟩ = some v := (hb.cell (p := ⟨b, o, none⟩) hlt).trans h
theorem own_ne {w : World} {B g : Nat} {e t : TypeId} {k : Nat} {v : Value} {n : Nat} {xs : List Value} {cs : Array Value} (h : w.ownsRow B e k v n xs) (hg : w.heap[g]? = some (.cells cs t (0, 0))) (hne : t ≠ e) : v.ownBlock ≠ some g := by
  rcases h.2 with ⟨rfl, _⟩ | ⟨g', cap, cur, rfl, h2, h3, _⟩
  · simp [Value.ownBlock]
  · intro he
    simp only [Value.ownBlock, Option.some.injEq] at he
    subst he
    rw [h3] at hg
    cases hg
    exact hne rfl
theorem own_set {w : World} {B g : Nat} {e t : TypeId} {k : Nat} {v : Value} {n : Nat} {xs : List Value} {cs : Array Value} (h : w.ownsRow B e k v n xs) (hg : w.heap[g]? = some (.cells cs t (0, 0))) (hne : t ≠ e) (j : Nat) (u : Value) : (w.setCell ⟨g, j, none⟩ u).ownsRow B e k v n xs := by
  have h0 := own_ne h hg hne
  refine ⟨h.1, ?_⟩
  rcases h.2 with h1 | ⟨g', cap, cur, rfl, h2, h3, h4⟩
  · exact .inl h1
  · refine .inr ⟨g', cap, cur, rfl, h2, ?_, h4⟩
    rw [Below.heap_setCell w ⟨g, j, none⟩ u g' (by intro he; apply h0; simp [Value.ownBlock]; exact he)]
    exact h3
theorem Kept.net {S : Nat → Prop} {a b : World} (h : Kept S a b) {g : Nat} (hp : S g ∨ a.heap.size ≤ g) (x y z : Value) : Kept S a (((b.setCell ⟨g, 0, none⟩ x).setCell ⟨g, 1, none⟩ y).setCell ⟨g, 2, none⟩ z) := ((h.set hp x).set hp y).set hp z
theorem cell_of_block {w w' : World} {b o : Nat} (h : w'.heap[b]? = w.heap[b]?) : w'.cell? ⟨b, o, none⟩ = w.cell? ⟨b, o, none⟩ := by unfold World.cell?; simp only [h]
theorem below_undrew {w w' : World} (h : Below w.drew.heap.size w.drew w') : Below w.heap.size w w' := ⟨h.os, h.tape, h.output, h.size, h.block⟩
theorem own_lt {w : World} {B g : Nat} {e : TypeId} {k : Nat} {v : Value} {n : Nat} {xs : List Value} (h : w.ownsRow B e k v n xs) (hg : v.ownBlock = some g) : g < w.heap.size := by
  rcases h.2 with ⟨rfl, _⟩ | ⟨g', cap, cur, rfl, h2, h3, _⟩
  · simp [Value.ownBlock] at hg
  · simp only [Value.ownBlock, Option.some.injEq] at hg; subst hg; exact lt_whole h3
theorem own_rowK {α : Type} {enc : α → List Value} {k : Nat} (hk : ∀ x, (enc x).length = k) {w : World} {base : Nat} {e : TypeId} {ao : Option Addr} {len cap : Nat} {A : List α} (h : w.ownsRow base e k (.slice ao len cap) A.length (A.flatMap enc)) : Row enc k w ao A := by
  obtain ⟨ao', cap', e', hr⟩ := own_row hk h
  injection e' with h1 h2 h3
  subst h1
  exact hr
end Go.Proofs.Ytlkbohpnlbfopaa
namespace Go.Proofs.Ytlkbohpnlbfopaa
open Go.RowKit
set_option linter.unusedVariables false
abbrev ArcT := Int × Int × Int × Int
abbrev NetT := Int × Bool × List ArcT
def nodesE (n : Int) : Int := if n < 1 then 51 else if 50 < n then 2 else 0
def badEnds (n : Int) (a : ArcT) : Prop := a.1 < 0 ∨ n ≤ a.1 ∨ a.2.1 < 0 ∨ n ≤ a.2.1 ∨ a.2.2.1 < 0 ∨ a.2.2.2 < 0
instance (n : Int) (a : ArcT) : Decidable (badEnds n a) := by unfold badEnds; infer_instance
def bigArc (a : ArcT) : Prop := 1048576 < a.2.2.1 ∨ 1048576 < a.2.2.2
instance (a : ArcT) : Decidable (bigArc a) := by unfold bigArc; infer_instance
def arcE (n : Int) (a : ArcT) : Int := if badEnds n a then 51 else if bigArc a then 2 else 0
def arcsE (n : Int) : List ArcT → Int
  | [] => 0
  | a :: r => if arcE n a = 0 then arcsE n r else arcE n a
def checkE (n : Int) (Z : List ArcT) : Int := if nodesE n = 0 then (if 200 < Z.length then 2 else arcsE n Z) else nodesE n
theorem nodesE_ok {n : Int} (h : nodesE n = 0) : 1 ≤ n ∧ n ≤ 50 := by
  unfold nodesE at h
  split at h
  · cases h
  · split at h
    · cases h
    · omega
theorem arcE_ok {n : Int} {a : ArcT} (h : arcE n a = 0) : ¬ badEnds n a ∧ ¬ bigArc a := by
  unfold arcE at h
  split at h
  · cases h
  · next h1 =>
    split at h
    · cases h
    · next h2 => exact ⟨h1, h2⟩
def Right (n : NetT) : Prop := nodesE n.1 = 0 ∧ n.2.2.length ≤ 200 ∧ ∀ a ∈ n.2.2, arcE n.1 a = 0
theorem arcsE_ok {n : Int} {Z : List ArcT} : arcsE n Z = 0 ↔ ∀ a ∈ Z, arcE n a = 0 := by
  induction Z with
  | nil => simp [arcsE]
  | cons a r ih =>
    unfold arcsE
    split
    · next h => rw [ih]; simp [h]
    · next h => constructor
                · intro h2; exact absurd h2 h
                · intro h2; exact absurd (h2 a (by simp)) h
theorem right_iff {n : Int} {b : Bool} {Z : List ArcT} : checkE n Z = 0 ↔ Right (n, b, Z) := by
  unfold checkE Right
  simp only
  split
  · next h =>
    split
    · next h2 => constructor
                 · intro h3; cases h3
                 · intro h3; omega
    · next h2 => rw [arcsE_ok]; exact ⟨fun h3 => ⟨h, by omega, h3⟩, fun h3 => h3.2.2⟩
  · next h => exact ⟨fun h2 => absurd h2 h, fun h2 => absurd h2.1 h⟩
def encA (x : ArcT) : List Value := [.int .i64 x.1, .int .i64 x.2.1, .int .i64 x.2.2.1, .int .i64 x.2.2.2]
theorem encA_len (z : ArcT) : (encA z).length = 4 := rfl
theorem encA_one (z : ArcT) : ∀ u ∈ encA z, u.oneCell' = true := by intro u hu; simp [encA] at hu; rcases hu with rfl | rfl | rfl | rfl <;> rfl
theorem Row.arc {w : World} {ao : Option Addr} {Z : List ArcT} (h : Row encA 4 w ao Z) {i : Nat} (hi : i < Z.length) : ∃ b o, ao = some ⟨b, o, none⟩ ∧ b < w.heap.size ∧
    w.cell? ⟨b, o + i * 4, none⟩ = some (.int .i64 Z[i].1) ∧ w.cell? ⟨b, o + i * 4 + 1, none⟩ = some (.int .i64 Z[i].2.1) ∧ w.cell? ⟨b, o + i * 4 + 2, none⟩ = some (.int .i64 Z[i].2.2.1) ∧ w.cell? ⟨b, o + i * 4 + 3, none⟩ = some (.int .i64 Z[i].2.2.2) := by
  obtain ⟨b, o, e, hb, hc⟩ := h i hi
  exact ⟨b, o, e, hb, hc 0 (by omega), hc 1 (by omega), hc 2 (by omega), hc 3 (by omega)⟩
theorem cnodes_any (n : Int) (w : World) : Calls Try.prog 83 #[.int .i64 n] w fun e w' => e = .returned (.int .i64 (nodesE n)) ∧ w = w' := by
  go_enter Try.func83, Try.ntmps83
  go_wp2
  all_goals
    go_ret
    refine ⟨ret_int ?_, rfl⟩
    unfold nodesE
    first
      | rw [if_pos (by omega)]
      | rw [if_neg (by omega), if_pos (by omega)]
      | rw [if_neg (by omega), if_neg (by omega)]
theorem rnodes_any (n : Int) (w : World) : Calls Try.prog 45 #[.int .i64 n] w fun e w' => e = .returned (.int .i64 (nodesE n)) ∧ w = w' := by
  go_enter Try.func45, Try.ntmps45
  go_wp2
  all_goals
    go_ret
    refine ⟨ret_int ?_, rfl⟩
    unfold nodesE
    first
      | rw [if_pos (by omega)]
      | rw [if_neg (by omega), if_pos (by omega)]
      | rw [if_neg (by omega), if_neg (by omega)]
theorem arcE_bad {n a b c d : Int} (h : a < 0 ∨ n ≤ a ∨ b < 0 ∨ n ≤ b ∨ c < 0 ∨ d < 0) : arcE n (a, b, c, d) = 51 := by
  unfold arcE; rw [if_pos (by unfold badEnds; exact h)]
theorem arcE_big {n a b c d : Int} (h : 0 ≤ a ∧ a < n ∧ 0 ≤ b ∧ b < n ∧ 0 ≤ c ∧ 0 ≤ d) (h2 : 1048576 < c ∨ 1048576 < d) : arcE n (a, b, c, d) = 2 := by
  unfold arcE; rw [if_neg (by unfold badEnds; simp only; omega), if_pos (by unfold bigArc; exact h2)]
theorem arcE_fit {n a b c d : Int} (h : 0 ≤ a ∧ a < n ∧ 0 ≤ b ∧ b < n ∧ 0 ≤ c ∧ 0 ≤ d) (h2 : c ≤ 1048576 ∧ d ≤ 1048576) : arcE n (a, b, c, d) = 0 := by
  unfold arcE; rw [if_neg (by unfold badEnds; simp only; omega), if_neg (by unfold bigArc; simp only; omega)]
set_option maxHeartbeats 2000000 in
theorem carc_any (a b c d n : Int) (w : World) : Calls Try.prog 84 #[.agg #[.int .i64 a, .int .i64 b, .int .i64 c, .int .i64 d], .int .i64 n] w fun e w' => e = .returned (.int .i64 (arcE n (a, b, c, d))) ∧ Below w.heap.size w w' := by
  go_enter Try.func84, Try.ntmps84
  go_wp2
  all_goals
    go_ret
    refine ⟨ret_int ?_, (Below.refl _ w).alloc (Nat.le_refl _) _⟩
    first
      | (rw [arcE_bad (by omega)])
      | (rw [arcE_big (by omega) (by omega)])
      | (rw [arcE_fit (by omega) (by omega)])
set_option maxHeartbeats 2000000 in
theorem rarc_any (a b c d n : Int) (w : World) : Calls Try.prog 46 #[.int .i64 n, .agg #[.int .i64 a, .int .i64 b, .int .i64 c, .int .i64 d]] w fun e w' => e = .returned (.int .i64 (arcE n (a, b, c, d))) ∧ Below w.heap.size w w' := by
  go_enter Try.func46, Try.ntmps46
  go_wp2
  all_goals
    go_ret
    refine ⟨ret_int ?_, (Below.refl _ w).alloc (Nat.le_refl _) _⟩
    first
      | (rw [arcE_bad (by omega)])
      | (rw [arcE_big (by omega) (by omega)])
      | (rw [arcE_fit (by omega) (by omega)])
theorem cnodes_is (n e0 : Int) (w : World) (h : nodesE n = e0) : Calls Try.prog 83 #[.int .i64 n] w fun e w' => e = .returned (.int .i64 e0) ∧ w = w' := by subst h; exact cnodes_any n w
theorem rnodes_is (n e0 : Int) (w : World) (h : nodesE n = e0) : Calls Try.prog 45 #[.int .i64 n] w fun e w' => e = .returned (.int .i64 e0) ∧ w = w' := by subst h; exact rnodes_any n w
theorem carc_is (a b c d n e0 : Int) (w : World) (h : arcE n (a, b, c, d) = e0) : Calls Try.prog 84 #[.agg #[.int .i64 a, .int .i64 b, .int .i64 c, .int .i64 d], .int .i64 n] w fun e w' => e = .returned (.int .i64 e0) ∧ Below w.heap.size w w' := by subst h; exact carc_any a b c d n w
theorem rarc_is (a b c d n e0 : Int) (w : World) (h : arcE n (a, b, c, d) = e0) : Calls Try.prog 46 #[.int .i64 n, .agg #[.int .i64 a, .int .i64 b, .int .i64 c, .int .i64 d]] w fun e w' => e = .returned (.int .i64 e0) ∧ Below w.heap.size w w' := by subst h; exact rarc_any a b c d n w
theorem arcsE_drop {n : Int} {Z : List ArcT} {k : Nat} (hk : k < Z.length) : arcsE n (Z.drop k) = if arcE n Z[k] = 0 then arcsE n (Z.drop (k + 1)) else arcE n Z[k] := by
  rw [List.drop_eq_getElem_cons hk]; rfl
theorem checkE_nodes {n : Int} {Z : List ArcT} (h : nodesE n ≠ 0) : checkE n Z = nodesE n := by unfold checkE; rw [if_neg h]
theorem checkE_many {n : Int} {Z : List ArcT} (h : nodesE n = 0) (h2 : 200 < Z.length) : checkE n Z = 2 := by unfold checkE; rw [if_pos h, if_pos h2]
theorem checkE_arcs {n : Int} {Z : List ArcT} (h : nodesE n = 0) (h2 : ¬ 200 < Z.length) : checkE n Z = arcsE n Z := by unfold checkE; rw [if_pos h, if_neg h2]
set_option maxRecDepth 100000 in
set_option maxHeartbeats 2000000 in
theorem check_loop (n : Int) (b : Bool) (ao : Option Addr) (cap : Nat) (Z : List ArcT) (w : World) (h : Row encA 4 w ao Z) (hn : nodesE n = 0) (hl : ¬ 200 < Z.length) :
    Calls Try.prog 75 #[.agg #[.int .i64 n, .bool b, .slice ao Z.length cap]] w fun e w' => e = .returned (.int .i64 (arcsE n Z)) ∧ Below w.heap.size w w' := by
  have HR := Lib.hid (row_alloc h (.cells #[.int .i64 n, .bool b, .slice ao Z.length cap] 24))
  have HN := Lib.hid hn
  have hl' : ¬ (200 : Int) < (Z.length : Int) := by omega
  clear h hn
  go_enter Try.func75, Try.ntmps75
  have c0 := cell_new w #[.int .i64 n, .bool b, .slice ao Z.length cap] 24 0
  have HB0 : Hid (Below w.heap.size w (w.alloc (.cells #[.int .i64 n, .bool b, .slice ao Z.length cap] 24))) := Lib.hid ((Below.refl _ w).alloc (Nat.le_refl _) _)
  go_wp2_with (go_at_call 83; refine (cnodes_is n 0 _ HN.out).mono ?_; rintro e w' ⟨rfl, rfl⟩)
  generalize w.alloc (.cells #[.int .i64 n, .bool b, .slice ao Z.length cap] 24) = w1 at *
  have hgs := block_lt_of_cell c0
  simp only at hgs
  go_loopw [20] (fun i wr => ∃ k : Nat, k ≤ Z.length ∧ i = .int .i64 (k : Int) ∧ Hid (Below w1.heap.size w1 wr) ∧ Hid (arcsE n (Z.drop k) = arcsE n Z)) (fun i _ => Z.length - (intOf i).toNat)
  case atStart => exact ⟨0, Nat.zero_le _, rfl, Lib.hid (Below.refl _ _), Lib.hid rfl⟩
  case round =>
    obtain ⟨k, hk, rfl, HB, HA⟩ := hrel
    have d0 := cell_below HB.out c0
    by_cases hlt : k < Z.length
    · have hli : (k : Int) < (Z.length : Int) := by omega
      obtain ⟨ab, ax, e, hab, c0', c1', c2', c3'⟩ := (HR.out.below' HB.out).arc hlt
      cases e
      have HD := Lib.hid (arcsE_drop (n := n) hlt)
      generalize Z[k] = z at *
      obtain ⟨x, y, u, v⟩ := z
      simp only at c0' c1' c2' c3'
      have d0a := cell_alloc d0 (.cells #[.int .i64 x, .int .i64 y, .int .i64 u, .int .i64 v] 73)
      by_cases he : arcE n (x, y, u, v) = 0
      · have HE := Lib.hid he
        clear he
        go_wp2_with (go_at_call 84; refine (carc_is x y u v n 0 _ HE.out).mono ?_; rintro e w2 ⟨rfl, b2⟩; have hb2 := Lib.hid ((HB.out.alloc HB.out.size (.cells #[.int .i64 x, .int .i64 y, .int .i64 u, .int .i64 v] 73)).trans (b2.mono (by have := HB.out.size; simp; omega))); clear b2)
        go_roundw
        case rel => exact ⟨k + 1, by omega, by go_num, hb2, Lib.hid (by rw [← HA.out, HD.out, if_pos HE.out])⟩
        case measure => simp [intOf]; omega
      · obtain ⟨e0, he0⟩ : ∃ e0, arcE n (x, y, u, v) = e0 := ⟨_, rfl⟩
        rw [he0] at he
        have HE := Lib.hid he0
        have HNE := Lib.hid he
        have hf2 : (e0 != 0) = true := by simpa using he
        have hf1 : (e0 == 0) = false := by simpa using he
        clear he he0
        go_wp2_with (go_at_call 84; refine (carc_is x y u v n e0 _ HE.out).mono ?_; rintro e w2 ⟨rfl, b2⟩; have hb2 := Lib.hid ((HB.out.alloc HB.out.size (.cells #[.int .i64 x, .int .i64 y, .int .i64 u, .int .i64 v] 73)).trans (b2.mono (by have := HB.out.size; simp; omega))); clear b2)
        go_ret
        refine ⟨ret_int ?_, HB0.out.trans (hb2.out.mono (by omega))⟩
        rw [← HA.out, HD.out, HE.out, if_neg HNE.out]
    · have hli : ¬ (k : Int) < (Z.length : Int) := by omega
      have HE : Hid (arcsE n Z = 0) := Lib.hid (by rw [← HA.out, List.drop_eq_nil_of_le (by omega)]; rfl)
      go_wp2
      go_ret
      exact ⟨ret_int HE.out.symm, HB0.out.trans (HB.out.mono (by omega))⟩
set_option maxHeartbeats 1000000 in
theorem ncheck_any (n : Int) (b : Bool) (ao : Option Addr) (cap : Nat) (Z : List ArcT) (w : World) (h : Row encA 4 w ao Z) (hm : Z.length ≤ maxLen) :
    Calls Try.prog 75 #[.agg #[.int .i64 n, .bool b, .slice ao Z.length cap]] w fun e w' => e = .returned (.int .i64 (checkE n Z)) ∧ Below w.heap.size w w' := by
  unfold maxLen at hm
  by_cases hn : nodesE n = 0
  · by_cases hl : 200 < Z.length
    · rw [checkE_many hn hl]
      have hl' : (200 : Int) < (Z.length : Int) := by omega
      have HN := Lib.hid hn
      clear hn h
      go_enter Try.func75, Try.ntmps75
      go_wp2_with (go_at_call 83; refine (cnodes_is n 0 _ HN.out).mono ?_; rintro e w' ⟨rfl, rfl⟩)
      go_ret
      exact ⟨rfl, (Below.refl _ w).alloc (Nat.le_refl _) _⟩
    · rw [checkE_arcs hn hl]
      exact check_loop n b ao cap Z w h hn hl
  · rw [checkE_nodes hn]
    obtain ⟨e0, he0⟩ : ∃ e0, nodesE n = e0 := ⟨_, rfl⟩
    rw [he0] at hn ⊢
    have HE := Lib.hid he0
    have hf2 : (e0 != 0) = true := by simpa using hn
    have hf1 : (e0 == 0) = false := by simpa using hn
    clear hn he0 h
    go_enter Try.func75, Try.ntmps75
    go_wp2_with (go_at_call 83; refine (cnodes_is n e0 _ HE.out).mono ?_; rintro e w' ⟨rfl, rfl⟩)
    go_ret
    exact ⟨rfl, (Below.refl _ w).alloc (Nat.le_refl _) _⟩
set_option maxRecDepth 100000 in
set_option maxHeartbeats 2000000 in
theorem rcheck_loop (n : Int) (b : Bool) (ao : Option Addr) (cap : Nat) (Z : List ArcT) (w : World) (h : Row encA 4 w ao Z) (hn : nodesE n = 0) (hl : ¬ 200 < Z.length) :
    Calls Try.prog 31 #[.agg #[.int .i64 n, .bool b, .slice ao Z.length cap]] w fun e w' => e = .returned (.int .i64 (arcsE n Z)) ∧ Below w.heap.size w w' := by
  have HR := Lib.hid (row_alloc h (.cells #[.int .i64 n, .bool b, .slice ao Z.length cap] 24))
  have HN := Lib.hid hn
  have hl' : ¬ (200 : Int) < (Z.length : Int) := by omega
  clear h hn
  go_enter Try.func31, Try.ntmps31
  have c0 := cell_new w #[.int .i64 n, .bool b, .slice ao Z.length cap] 24 0
  have c2 := cell_new w #[.int .i64 n, .bool b, .slice ao Z.length cap] 24 2
  have HB0 : Hid (Below w.heap.size w (w.alloc (.cells #[.int .i64 n, .bool b, .slice ao Z.length cap] 24))) := Lib.hid ((Below.refl _ w).alloc (Nat.le_refl _) _)
  go_wp2_with (go_at_call 45; refine (rnodes_is n 0 _ HN.out).mono ?_; rintro e w' ⟨rfl, rfl⟩)
  generalize w.alloc (.cells #[.int .i64 n, .bool b, .slice ao Z.length cap] 24) = w1 at *
  have hgs := block_lt_of_cell c0
  simp only at hgs
  go_loopw [4] (fun i wr => ∃ k : Nat, k ≤ Z.length ∧ i = .int .i64 (k : Int) ∧ Hid (Below w1.heap.size w1 wr) ∧ Hid (arcsE n (Z.drop k) = arcsE n Z)) (fun i _ => Z.length - (intOf i).toNat)
  case atStart => exact ⟨0, Nat.zero_le _, rfl, Lib.hid (Below.refl _ _), Lib.hid rfl⟩
  case round =>
    obtain ⟨k, hk, rfl, HB, HA⟩ := hrel
    have d0 := cell_below HB.out c0
    have d2 := cell_below HB.out c2
    clear c0 c2
    by_cases hlt : k < Z.length
    · have hli : (k : Int) < (Z.length : Int) := by omega
      obtain ⟨ab, ax, e, hab, c0', c1', c2', c3'⟩ := (HR.out.below' HB.out).arc hlt
      cases e
      have HD := Lib.hid (arcsE_drop (n := n) hlt)
      generalize Z[k] = z at *
      obtain ⟨x, y, u, v⟩ := z
      simp only at c0' c1' c2' c3'
      by_cases he : arcE n (x, y, u, v) = 0
      · have HE := Lib.hid he
        clear he
        go_wp2_with fail
        go_region_held3 (fun W => W.cell? ⟨w.heap.size, 0, none⟩ = some (.int .i64 n) ∧ W.cell? ⟨w.heap.size, 2, none⟩ = some (.slice (some ⟨ab, ax, none⟩) Z.length cap) ∧ W.cell? ⟨ab, ax + k * 4, none⟩ = some (.int .i64 x) ∧ W.cell? ⟨ab, ax + k * 4 + 1, none⟩ = some (.int .i64 y) ∧ W.cell? ⟨ab, ax + k * 4 + 2, none⟩ = some (.int .i64 u) ∧ W.cell? ⟨ab, ax + k * 4 + 3, none⟩ = some (.int .i64 v)) (first | exact ⟨d0, d2, c0', c1', c2', c3'⟩ | exact ⟨z0, z1, z2, z3, z4, z5⟩ | go_keep)
          (first | (go_at_call 46; refine (rarc_is x y u v n 0 _ HE.out).mono ?_; rintro e w2 ⟨rfl, b2⟩; have z0 := cell_below (w := wr.drew) b2 d0; have z1 := cell_below (w := wr.drew) b2 d2; have z2 := cell_below (w := wr.drew) b2 c0'; have z3 := cell_below (w := wr.drew) b2 c1'; have z4 := cell_below (w := wr.drew) b2 c2'; have z5 := cell_below (w := wr.drew) b2 c3'; have hb2 := Lib.hid ((below_drew HB.out).trans (b2.mono HB.out.size)); clear b2))
        all_goals
          go_wp2
          go_roundw
          case rel => exact ⟨k + 1, by omega, by go_num, hb2, Lib.hid (by rw [← HA.out, HD.out, if_pos HE.out])⟩
          case measure => simp [intOf]; omega
      · obtain ⟨e0, he0⟩ : ∃ e0, arcE n (x, y, u, v) = e0 := ⟨_, rfl⟩
        rw [he0] at he
        have HE := Lib.hid he0
        have HNE := Lib.hid he
        have hf2 : (e0 != 0) = true := by simpa using he
        have hf1 : (e0 == 0) = false := by simpa using he
        clear he he0
        go_wp2_with fail
        go_region_held3 (fun W => W.cell? ⟨w.heap.size, 0, none⟩ = some (.int .i64 n) ∧ W.cell? ⟨w.heap.size, 2, none⟩ = some (.slice (some ⟨ab, ax, none⟩) Z.length cap) ∧ W.cell? ⟨ab, ax + k * 4, none⟩ = some (.int .i64 x) ∧ W.cell? ⟨ab, ax + k * 4 + 1, none⟩ = some (.int .i64 y) ∧ W.cell? ⟨ab, ax + k * 4 + 2, none⟩ = some (.int .i64 u) ∧ W.cell? ⟨ab, ax + k * 4 + 3, none⟩ = some (.int .i64 v)) (first | exact ⟨d0, d2, c0', c1', c2', c3'⟩ | exact ⟨z0, z1, z2, z3, z4, z5⟩ | go_keep)
          (first | (go_at_call 46; refine (rarc_is x y u v n e0 _ HE.out).mono ?_; rintro e w2 ⟨rfl, b2⟩; have z0 := cell_below (w := wr.drew) b2 d0; have z1 := cell_below (w := wr.drew) b2 d2; have z2 := cell_below (w := wr.drew) b2 c0'; have z3 := cell_below (w := wr.drew) b2 c1'; have z4 := cell_below (w := wr.drew) b2 c2'; have z5 := cell_below (w := wr.drew) b2 c3'; have hb2 := Lib.hid ((below_drew HB.out).trans (b2.mono HB.out.size)); clear b2))
        all_goals
          go_wp2
          go_ret
          refine ⟨ret_int ?_, HB0.out.trans (hb2.out.mono (by omega))⟩
          rw [← HA.out, HD.out, HE.out, if_neg HNE.out]
    · have hli : ¬ (k : Int) < (Z.length : Int) := by omega
      have HE : Hid (arcsE n Z = 0) := Lib.hid (by rw [← HA.out, List.drop_eq_nil_of_le (by omega)]; rfl)
      go_wp2
      go_ret
      exact ⟨ret_int HE.out.symm, HB0.out.trans (HB.out.mono (by omega))⟩
set_option maxHeartbeats 1000000 in
theorem rcheck_any (n : Int) (b : Bool) (ao : Option Addr) (cap : Nat) (Z : List ArcT) (w : World) (h : Row encA 4 w ao Z) (hm : Z.length ≤ maxLen) :
    Calls Try.prog 31 #[.agg #[.int .i64 n, .bool b, .slice ao Z.length cap]] w fun e w' => e = .returned (.int .i64 (checkE n Z)) ∧ Below w.heap.size w w' := by
  unfold maxLen at hm
  by_cases hn : nodesE n = 0
  · by_cases hl : 200 < Z.length
    · rw [checkE_many hn hl]
      have hl' : (200 : Int) < (Z.length : Int) := by omega
      have HN := Lib.hid hn
      clear hn h
      go_enter Try.func31, Try.ntmps31
      go_wp2_with (go_at_call 45; refine (rnodes_is n 0 _ HN.out).mono ?_; rintro e w' ⟨rfl, rfl⟩)
      go_ret
      exact ⟨rfl, (Below.refl _ w).alloc (Nat.le_refl _) _⟩
    · rw [checkE_arcs hn hl]
      exact rcheck_loop n b ao cap Z w h hn hl
  · rw [checkE_nodes hn]
    obtain ⟨e0, he0⟩ : ∃ e0, nodesE n = e0 := ⟨_, rfl⟩
    rw [he0] at hn ⊢
    have HE := Lib.hid he0
    have hf2 : (e0 != 0) = true := by simpa using hn
    have hf1 : (e0 == 0) = false := by simpa using hn
    clear hn he0 h
    go_enter Try.func31, Try.ntmps31
    go_wp2_with (go_at_call 45; refine (rnodes_is n e0 _ HE.out).mono ?_; rintro e w' ⟨rfl, rfl⟩)
    go_ret
    exact ⟨rfl, (Below.refl _ w).alloc (Nat.le_refl _) _⟩
end Go.Proofs.Ytlkbohpnlbfopaa
namespace Go.Proofs.Ytlkbohpnlbfopaa
set_option linter.unusedVariables false
def toN (a : ArcT) : Nat := a.2.1.toNat
def frN (a : ArcT) : Nat := a.1.toNat
def Chain (s : Nat) : List ArcT → Nat → Prop
  | [], v => s = v
  | a :: r, v => frN a = s ∧ Chain (toN a) r v
def costP (c : ArcT → Int) (p : List ArcT) : Int := (p.map c).sum
theorem chain_app {s v : Nat} {p q : List ArcT} : Chain s (p ++ q) v ↔ ∃ m, Chain s p m ∧ Chain m q v := by
  induction p generalizing s with
  | nil => simp [Chain]
  | cons a r ih => simp only [List.cons_append, Chain, ih]; constructor
                   · rintro ⟨h1, m, h2, h3⟩; exact ⟨m, ⟨h1, h2⟩, h3⟩
                   · rintro ⟨m, ⟨h1, h2⟩, h3⟩; exact ⟨h1, m, h2, h3⟩
theorem chain_det {s v w : Nat} {p : List ArcT} (h : Chain s p v) (k : Chain s p w) : v = w := by
  induction p generalizing s with
  | nil => simp only [Chain] at h k; omega
  | cons a r ih => exact ih h.2 k.2
theorem chain_snoc {s v : Nat} {p : List ArcT} (h : Chain s p v) {a : ArcT} (ha : frN a = v) : Chain s (p ++ [a]) (toN a) := chain_app.2 ⟨v, h, ha, rfl⟩
theorem cost_app (c : ArcT → Int) (p q : List ArcT) : costP c (p ++ q) = costP c p + costP c q := by simp [costP]
def nodesOf (s : Nat) (p : List ArcT) : List Nat := s :: p.map toN
theorem nodes_len (s : Nat) (p : List ArcT) : (nodesOf s p).length = p.length + 1 := by simp [nodesOf]
theorem chain_at {s v : Nat} {p : List ArcT} (h : Chain s p v) (i : Nat) (hi : i ≤ p.length) : ∃ m, (nodesOf s p)[i]? = some m ∧ Chain s (p.take i) m ∧ Chain m (p.drop i) v := by
  have h0 := h
  rw [← List.take_append_drop i p] at h0
  obtain ⟨m, h1, h2⟩ := chain_app.1 h0
  refine ⟨m, ?_, h1, h2⟩
  clear h h0 h2
  induction i generalizing s p with
  | zero => simp only [List.take_zero, Chain] at h1; subst h1; rfl
  | succ i ih =>
    cases p with
    | nil => simp at hi
    | cons a r =>
      simp only [List.take_succ_cons, Chain] at h1
      have := ih (s := toN a) (p := r) (by simpa using hi) h1.2
      simpa [nodesOf] using this
theorem pigeon : ∀ (N : Nat) (l : List Nat), (∀ x ∈ l, x < N) → N < l.length → ¬ l.Nodup
  | 0, l, h, hl, _ => by
    cases l with
    | nil => simp at hl
    | cons x r => exact absurd (h x (by simp)) (by omega)
  | N + 1, l, h, hl, hn => by
    by_cases hm : N ∈ l
    · refine pigeon N (l.erase N) (fun x hx => ?_) ?_ (hn.erase N)
      · have h1 := (hn.mem_erase_iff).1 hx
        have h2 := h x h1.2
        have h3 := h1.1
        omega
      · rw [List.length_erase_of_mem hm]; omega
    · refine pigeon N l (fun x hx => ?_) (by omega) hn
      have h2 := h x hx
      have h3 : x ≠ N := fun e => hm (e ▸ hx)
      omega
theorem twice {N : Nat} {l : List Nat} (h : ∀ x ∈ l, x < N) (hl : N < l.length) : ∃ i j m, i < j ∧ j < l.length ∧ l[i]? = some m ∧ l[j]? = some m := by
  have h1 := pigeon N l h hl
  rw [List.nodup_iff_pairwise_ne, List.pairwise_iff_getElem] at h1
  simp only [Classical.not_forall, Classical.not_not] at h1
  obtain ⟨i, j, hi, hj, hij, he⟩ := h1
  have he' : l[i] = l[j] := by simpa using he
  exact ⟨i, j, l[i], hij, hj, List.getElem?_eq_getElem hi, by rw [he', List.getElem?_eq_getElem hj]⟩
def Reach (Z : List ArcT) (c : ArcT → Int) (s v : Nat) (t : Int) : Prop := ∃ p, (∀ a ∈ p, a ∈ Z) ∧ Chain s p v ∧ costP c p = t
theorem reach_self (Z : List ArcT) (c : ArcT → Int) (s : Nat) : Reach Z c s s 0 := ⟨[], by simp, rfl, by simp [costP]⟩
theorem reach_step {Z : List ArcT} {c : ArcT → Int} {s : Nat} {t : Int} {a : ArcT} (h : Reach Z c s (frN a) t) (ha : a ∈ Z) : Reach Z c s (toN a) (t + c a) := by
  obtain ⟨p, h1, h2, h3⟩ := h
  refine ⟨p ++ [a], ?_, chain_snoc h2 rfl, by rw [cost_app, h3]; simp [costP]⟩
  intro x hx
  rcases List.mem_append.1 hx with hx | hx
  · exact h1 x hx
  · rw [List.mem_singleton] at hx; subst hx; exact ha
def atI (d : List Int) (v : Nat) : Int := d.getD v 0
structure IsDist (Z : List ArcT) (c : ArcT → Int) (s N : Nat) (d : List Int) : Prop where
  len : d.length = N
  at_ : ∀ v, v < N → (atI d v = -1 ∧ ∀ t, ¬ Reach Z c s v t) ∨ (0 ≤ atI d v ∧ Reach Z c s v (atI d v) ∧ ∀ t, Reach Z c s v t → atI d v ≤ t)
def SoundD (Z : List ArcT) (c : ArcT → Int) (s : Nat) (d : List Int) : Prop := ∀ v, v < d.length → atI d v = -1 ∨ (0 ≤ atI d v ∧ Reach Z c s v (atI d v))
theorem isDist_cert {Z : List ArcT} {c : ArcT → Int} {s N : Nat} {d : List Int} (hd : d.length = N) (hs : s < N) (hZ : ∀ a ∈ Z, toN a < N) (h0 : atI d s = 0) (h1 : SoundD Z c s d)
    (h2 : ∀ a ∈ Z, 0 ≤ atI d (frN a) → 0 ≤ atI d (toN a) ∧ atI d (toN a) ≤ atI d (frN a) + c a) : IsDist Z c s N d := by
  have key : ∀ (p : List ArcT) (u v : Nat), (∀ a ∈ p, a ∈ Z) → Chain u p v → 0 ≤ atI d u → 0 ≤ atI d v ∧ atI d v ≤ atI d u + costP c p := by
    intro p
    induction p with
    | nil => intro u v _ h hu; simp only [Chain] at h; subst h; simp [costP]; exact hu
    | cons a r ih =>
      intro u v hp h hu
      obtain ⟨e1, e2⟩ := h
      subst e1
      have h3 := h2 a (hp a (by simp)) hu
      have h4 := ih (toN a) v (fun x hx => hp x (by simp [hx])) e2 h3.1
      refine ⟨h4.1, ?_⟩
      simp only [costP, List.map_cons, List.sum_cons] at h4 ⊢
      omega
  refine ⟨hd, fun v hv => ?_⟩
  have h3 : ∀ t, Reach Z c s v t → 0 ≤ atI d v ∧ atI d v ≤ t := by
    rintro t ⟨p, p1, p2, rfl⟩
    have := key p s v p1 p2 (by omega)
    exact ⟨this.1, by omega⟩
  rcases h1 v (by omega) with h | ⟨h, hr⟩
  · exact .inl ⟨h, fun t ht => by have := (h3 t ht).1; omega⟩
  · exact .inr ⟨h, hr, fun t ht => (h3 t ht).2⟩
theorem atI_set {d : List Int} {v u : Nat} {x : Int} (hv : v < d.length) : atI (d.set v x) u = if u = v then x else atI d u := by
  unfold atI
  rw [List.getD_eq_getElem?_getD, List.getElem?_set, List.getD_eq_getElem?_getD]
  by_cases h : u = v
  · subst h; simp [hv]
  · rw [if_neg (fun e => h e.symm), if_neg h]
def better (c : ArcT → Int) (d : List Int) (a : ArcT) : Prop := 0 ≤ atI d (frN a) ∧ (atI d (toN a) < 0 ∨ atI d (frN a) + c a < atI d (toN a))
instance (c : ArcT → Int) (d : List Int) (a : ArcT) : Decidable (better c d a) := by unfold better; infer_instance
def startD (N s : Nat) : List Int := (List.replicate N (-1)).set s 0
theorem startD_len (N s : Nat) : (startD N s).length = N := by simp [startD]
theorem startD_at {N s v : Nat} (hs : s < N) (hv : v < N) : atI (startD N s) v = if v = s then 0 else -1 := by
  unfold startD
  rw [atI_set (by simp; exact hs)]
  split
  · rfl
  · unfold atI; rw [List.getD_eq_getElem?_getD, List.getElem?_replicate, if_pos hv]; rfl
theorem chain_last {s v : Nat} {p : List ArcT} (h : Chain s p v) (hp : p ≠ []) : ∃ q a, p = q ++ [a] ∧ Chain s q (frN a) ∧ toN a = v := by
  have e := (List.dropLast_concat_getLast hp).symm
  rw [e] at h
  obtain ⟨m, h1, h2⟩ := chain_app.1 h
  exact ⟨_, _, e, by have := h2.1; subst this; exact h1, h2.2⟩
def one (_ : ArcT) : Int := 1
def freeN (Z : List ArcT) (out : List Nat) (v : Nat) : Bool := !out.contains v && Z.all fun a => !(toN a == v) || out.contains (frN a)
def nextN (Z : List ArcT) (N : Nat) (out : List Nat) : Option Nat := (List.range N).find? (freeN Z out)
def orderK (Z : List ArcT) (N : Nat) : Nat → Option (List Nat)
  | 0 => some []
  | k + 1 => match orderK Z N k with
    | none => none
    | some out => match nextN Z N out with
      | none => none
      | some v => some (out ++ [v])
theorem freeN_iff {Z : List ArcT} {out : List Nat} {v : Nat} : freeN Z out v = true ↔ v ∉ out ∧ ∀ a ∈ Z, toN a = v → frN a ∈ out := by
  unfold freeN
  simp only [Bool.and_eq_true, Bool.not_eq_true', List.all_eq_true, Bool.or_eq_true]
  constructor
  · rintro ⟨h1, h2⟩
    refine ⟨by simpa using h1, fun a ha he => ?_⟩
    rcases h2 a ha with h3 | h3
    · simp [he] at h3
    · simpa using h3
  · rintro ⟨h1, h2⟩
    refine ⟨by simpa using h1, fun a ha => ?_⟩
    by_cases he : toN a = v
    · right; simpa using h2 a ha he
    · left; simpa using he
theorem nextN_some {Z : List ArcT} {N : Nat} {out : List Nat} {v : Nat} (h : nextN Z N out = some v) : v < N ∧ freeN Z out v = true ∧ ∀ u, u < v → freeN Z out u = false := by
  unfold nextN at h
  rw [List.find?_range_eq_some] at h
  obtain ⟨h1, h2, h3⟩ := h
  exact ⟨by simpa using h2, h1, fun u hu => by simpa using h3 u hu⟩
theorem orderK_props {Z : List ArcT} {N : Nat} : ∀ (k : Nat) (l : List Nat), orderK Z N k = some l → l.length = k ∧ l.Nodup ∧ (∀ x ∈ l, x < N) ∧ ∀ i v, l[i]? = some v → ∀ a ∈ Z, toN a = v → frN a ∈ l.take i
  | 0, l, h => by
    cases h
    exact ⟨rfl, List.nodup_nil, by simp, by simp⟩
  | k + 1, l, h => by
    unfold orderK at h
    split at h
    · cases h
    · next out ho =>
      split at h
      · cases h
      · next v hv =>
        cases h
        obtain ⟨h1, h2, h3, h4⟩ := orderK_props k out ho
        obtain ⟨h5, h6, h7⟩ := nextN_some hv
        obtain ⟨h8, h9⟩ := freeN_iff.1 h6
        refine ⟨by simp [h1], ?_, ?_, ?_⟩
        · rw [List.nodup_append]
          refine ⟨h2, by simp, ?_⟩
          intro a ha b hb
          rw [List.mem_singleton] at hb
          subst hb
          rintro rfl
          exact h8 ha
        · intro x hx
          rcases List.mem_append.1 hx with hx | hx
          · exact h3 x hx
          · rw [List.mem_singleton] at hx; subst hx; exact h5
        · intro i u hu a ha he
          by_cases hi : i < out.length
          · rw [List.getElem?_append_left hi] at hu
            have := h4 i u hu a ha he
            rw [List.take_append_of_le_length (by omega)]
            exact this
          · have hi2 : i < (out ++ [v]).length := (List.getElem?_eq_some_iff.1 hu).1
            have hi3 : i = out.length := by simp at hi2; omega
            subst hi3
            simp at hu
            subst hu
            rw [List.take_left]
            exact h9 a ha he
def places (f : ArcT → Nat) (Z : List ArcT) (v : Nat) : List Nat := (List.range Z.length).filter fun i => match Z[i]? with | some a => f a == v | none => false
theorem places_mem {f : ArcT → Nat} {Z : List ArcT} {v i : Nat} : i ∈ places f Z v ↔ ∃ a, Z[i]? = some a ∧ f a = v := by
  unfold places
  rw [List.mem_filter, List.mem_range]
  constructor
  · rintro ⟨h1, h2⟩
    rw [List.getElem?_eq_getElem h1] at h2 ⊢
    exact ⟨_, rfl, by simpa using h2⟩
  · rintro ⟨a, h1, h2⟩
    refine ⟨(List.getElem?_eq_some_iff.1 h1).1, ?_⟩
    rw [h1]; simpa using h2
end Go.Proofs.Ytlkbohpnlbfopaa
namespace Go.Proofs.Ytlkbohpnlbfopaa
open Go.RowKit Go.Sort
set_option linter.unusedVariables false
def cmpI (x y : Int) : Int := if x < y then -1 else if y < x then 1 else 0
def ltP (a b : Int × Int) : Bool := decide (a.1 < b.1 ∨ a.1 = b.1 ∧ a.2 < b.2)
theorem nan_any (x : Int) (w : World) : Calls Try.prog 108 #[.int .i64 x] w fun e w' => e = .returned (.bool false) ∧ w = w' := by
  go_enter Try.func108, Try.ntmps108
  go_wp2
  go_ret
  exact ⟨by simp, rfl⟩
end Go.Proofs.Ytlkbohpnlbfopaa
namespace Go.Proofs.Ytlkbohpnlbfopaa
open Go.Sort
set_option linter.unusedVariables false
theorem ltP_asymm {a b : Int × Int} (h : ltP a b = true) : ltP b a = false := by simp [ltP] at *; omega
theorem ltP_trans {a b c : Int × Int} (h : ltP a b = true) (k : ltP b c = true) : ltP a c = true := by simp [ltP] at *; omega
theorem ltP_ntrans {a b c : Int × Int} (h : ltP a b = false) (k : ltP b c = false) : ltP a c = false := by simp [ltP] at *; omega
def par (t : Nat) : Nat := (t + 1) / 2 - 1
def Heap (d : Array (Int × Int)) : Prop := ∀ t, 1 ≤ t → t < d.size → ltP d[t]! d[par t]! = false
def Up (d : Array (Int × Int)) (k : Nat) : Prop :=
  (∀ t, 1 ≤ t → t < d.size → t ≠ k → ltP d[t]! d[par t]! = false) ∧ (∀ t, 1 ≤ t → t < d.size → par t = k → 1 ≤ k → ltP d[t]! d[par k]! = false)
def Down (d : Array (Int × Int)) (k : Nat) : Prop :=
  (∀ t, 1 ≤ t → t < d.size → par t ≠ k → ltP d[t]! d[par t]! = false) ∧ (∀ t, 1 ≤ t → t < d.size → par t = k → 1 ≤ k → ltP d[t]! d[par k]! = false)
theorem Up.done {d : Array (Int × Int)} {k : Nat} (h : Up d k) (hk : ltP d[k]! d[par k]! = false) : Heap d := fun t h1 h2 => by
  by_cases e : t = k
  · subst e; exact hk
  · exact h.1 t h1 h2 e
theorem Up.step {d : Array (Int × Int)} {k : Nat} (h : Up d k) (hk : 1 ≤ k) (hs : k < d.size) (hl : ltP d[k]! d[par k]! = true) : Up (swp d k (par k)) (par k) := by
  have hp : par k < k := by unfold par; omega
  have hps : par k < d.size := by omega
  refine ⟨fun t h1 h2 hn => ?_, fun t h1 h2 he h0 => ?_⟩
  · rw [swp_size] at h2
    rw [swp_get d hs hps, swp_get d hs hps]
    have ht : par t < t := by unfold par; omega
    rw [if_neg hn]
    by_cases e1 : t = k
    · subst e1
      rw [if_pos rfl, if_pos rfl]
      exact ltP_asymm hl
    · rw [if_neg e1]
      by_cases e2 : par t = par k
      · rw [if_pos e2]
        have := h.1 t h1 h2 e1
        rw [e2] at this
        cases hc : ltP d[t]! d[k]!
        · rfl
        · rw [ltP_trans hc hl] at this; cases this
      · rw [if_neg e2]
        by_cases e3 : par t = k
        · rw [if_pos e3]; exact h.2 t h1 h2 e3 hk
        · rw [if_neg e3]; exact h.1 t h1 h2 e1
  · rw [swp_size] at h2
    have hpp : par (par k) < par k := by unfold par at *; omega
    rw [swp_get d hs hps, swp_get d hs hps]
    rw [if_neg (show par (par k) ≠ par k by omega), if_neg (show par (par k) ≠ k by omega)]
    have ht : par t < t := by unfold par; omega
    rw [if_neg (show t ≠ par k by omega)]
    have hpk := h.1 (par k) h0 hps (by omega)
    by_cases e1 : t = k
    · rw [if_pos e1]; exact hpk
    · rw [if_neg e1]
      have := h.1 t h1 h2 e1
      rw [he] at this
      exact ltP_ntrans this hpk
theorem Down.done {d : Array (Int × Int)} {k : Nat} (h : Down d k) (h1 : 2 * k + 1 < d.size → ltP d[2 * k + 1]! d[k]! = false) (h2 : 2 * k + 2 < d.size → ltP d[2 * k + 2]! d[k]! = false) : Heap d := fun t a b => by
  by_cases e : par t = k
  · have : t = 2 * k + 1 ∨ t = 2 * k + 2 := by unfold par at e; omega
    rcases this with rfl | rfl
    · rw [e]; exact h1 b
    · rw [e]; exact h2 b
  · exact h.1 t a b e
theorem Down.step {d : Array (Int × Int)} {k c : Nat} (h : Down d k) (hc : par c = k) (h1c : 1 ≤ c) (hs : c < d.size) (hl : ltP d[c]! d[k]! = true) (ho : ∀ t, 1 ≤ t → t < d.size → par t = k → ltP d[t]! d[c]! = false) : Down (swp d k c) c := by
  have hkc : k < c := by unfold par at hc; omega
  have hks : k < d.size := by omega
  refine ⟨fun t h1 h2 hn => ?_, fun t h1 h2 he h0 => ?_⟩
  · rw [swp_size] at h2
    have ht : par t < t := by unfold par; omega
    rw [swp_get d hks hs, swp_get d hks hs, if_neg hn]
    by_cases e1 : par t = k
    · rw [if_pos e1]
      by_cases e2 : t = c
      · rw [if_pos e2]; exact ltP_asymm hl
      · rw [if_neg e2, if_neg (by omega)]; exact ho t h1 h2 e1
    · rw [if_neg e1]
      have e2 : t ≠ c := fun e => e1 (by rw [e]; exact hc)
      rw [if_neg e2]
      by_cases e3 : t = k
      · rw [if_pos e3]
        have := h.2 c h1c hs hc (by omega)
        rw [e3]; exact this
      · rw [if_neg e3]; exact h.1 t h1 h2 e1
  · rw [swp_size] at h2
    have ht : par t < t := by unfold par; omega
    rw [swp_get d hks hs, swp_get d hks hs, hc, if_neg (show t ≠ c by omega), if_neg (show t ≠ k by omega), if_neg (show k ≠ c by omega), if_pos rfl]
    have := h.1 t h1 h2 (by omega)
    rwa [he] at this
def SortedP (l : List (Int × Int)) : Prop := l.Pairwise fun a b => ltP b a = false
def insP (x : Int × Int) (l : List (Int × Int)) : List (Int × Int) := l.takeWhile (ltP · x) ++ x :: l.dropWhile (ltP · x)
theorem insP_perm (x : Int × Int) (l : List (Int × Int)) : (insP x l).Perm (x :: l) := by
  unfold insP
  refine List.perm_middle.trans ?_
  rw [List.takeWhile_append_dropWhile]
end Go.Proofs.Ytlkbohpnlbfopaa
namespace Go.Proofs.Ytlkbohpnlbfopaa
set_option linter.unusedVariables false
theorem atI_get {d : List Int} {v : Nat} (h : v < d.length) : d[v]? = some (atI d v) := by
  unfold atI; rw [List.getD_eq_getElem?_getD, List.getElem?_eq_getElem h]; rfl
theorem nodup_le {N : Nat} {l : List Nat} (h : l.Nodup) (hb : ∀ x ∈ l, x < N) : l.length ≤ N := by
  refine Classical.byContradiction fun hn => pigeon N l hb (by omega) h
structure BI (Z : List ArcT) (N s : Nat) (d : List Int) (Q D : List Nat) (K : Int) (T : List Nat) : Prop where
  len : d.length = N
  zero : atI d s = 0
  sound : SoundD Z one s d
  qn : ∀ v ∈ Q, v < N ∧ 0 ≤ atI d v ∧ K ≤ atI d v ∧ v ∉ D
  qd : Q.Nodup
  qs : Q.Pairwise (fun a b => atI d a ≤ atI d b)
  up : ∀ v, v < N → atI d v ≤ K + 1
  dn : D.Nodup
  dl : ∀ v ∈ D, v < N ∧ 0 ≤ atI d v
  all : ∀ v, v < N → 0 ≤ atI d v → v ∈ D ∨ v ∈ Q
  cl : ∀ (p : Nat) (a : ArcT), Z[p]? = some a → frN a ∈ D → p ∈ T ∨ (0 ≤ atI d (toN a) ∧ atI d (toN a) ≤ atI d (frN a) + 1)
  kb : 0 ≤ K ∧ K ≤ D.length
section
variable {Z : List ArcT} {N s : Nat} {d : List Int} {Q D T : List Nat} {K : Int}
theorem startD_sound (c : ArcT → Int) (hs : s < N) : SoundD Z c s (startD N s) := by
  intro v hv
  rw [startD_len] at hv
  rw [startD_at hs hv]
  split
  · next e => subst e; exact .inr ⟨Int.le_refl _, reach_self Z c v⟩
  · exact .inl rfl
theorem BI.start (hs : s < N) : BI Z N s (startD N s) [s] [] 0 [] := by
  have h0 : atI (startD N s) s = 0 := by rw [startD_at hs hs, if_pos rfl]
  refine ⟨startD_len N s, h0, startD_sound _ hs, ?_, by simp, by simp, ?_, by simp, by simp, ?_, ?_, by simp⟩
  · intro v hv
    rw [List.mem_singleton] at hv
    subst hv
    exact ⟨hs, by omega, by omega, by simp⟩
  · intro v hv
    rw [startD_at hs hv]
    split <;> omega
  · intro v hv h
    rw [startD_at hs hv] at h
    right
    split at h
    · next e => simp [e]
    · omega
  · intro p a _ h
    cases h
theorem BI.take {u : Nat} (h : BI Z N s d (u :: Q) D K []) : BI Z N s d Q (u :: D) (atI d u) (places frN Z u) ∧ u < N ∧ D.length < N := by
  obtain ⟨hu1, hu2, hu3, hu4⟩ := h.qn u (by simp)
  have hup := h.up u hu1
  have hq := List.nodup_cons.1 h.qd
  have hs := List.pairwise_cons.1 h.qs
  have hdn : (u :: D).Nodup := List.nodup_cons.2 ⟨hu4, h.dn⟩
  have hdl : ∀ v ∈ u :: D, v < N ∧ 0 ≤ atI d v := by
    intro v hv
    rcases List.mem_cons.1 hv with rfl | hv
    · exact ⟨hu1, hu2⟩
    · exact h.dl v hv
  refine ⟨⟨h.len, h.zero, h.sound, ?_, hq.2, hs.2, ?_, hdn, hdl, ?_, ?_, ?_⟩, hu1, ?_⟩
  · intro v hv
    obtain ⟨h1, h2, h3, h4⟩ := h.qn v (by simp [hv])
    refine ⟨h1, h2, hs.1 v hv, ?_⟩
    intro hm
    rcases List.mem_cons.1 hm with rfl | hm
    · exact hq.1 hv
    · exact h4 hm
  · intro v hv
    have := h.up v hv
    omega
  · intro v hv h0
    rcases h.all v hv h0 with h1 | h1
    · exact .inl (by simp [h1])
    · rcases List.mem_cons.1 h1 with rfl | h1
      · exact .inl (by simp)
      · exact .inr h1
  · intro p a hp hf
    rcases List.mem_cons.1 hf with hf | hf
    · exact .inl (places_mem.2 ⟨a, hp, hf⟩)
    · rcases h.cl p a hp hf with h1 | h1
      · cases h1
      · exact .inr h1
  · have := h.kb
    simp only [List.length_cons]
    omega
  · have := nodup_le hdn (fun x hx => (hdl x hx).1)
    simp at this
    omega
theorem BI.skip {p : Nat} {a : ArcT} (h : BI Z N s d Q D K (p :: T)) (hp : Z[p]? = some a) (hK : atI d (frN a) = K) (ht : toN a < N) (h0 : 0 ≤ atI d (toN a)) : BI Z N s d Q D K T := by
  refine { h with cl := fun q b hq hf => ?_ }
  rcases h.cl q b hq hf with h1 | h1
  · rcases List.mem_cons.1 h1 with rfl | h1
    · rw [hp] at hq; cases hq
      exact .inr ⟨h0, by rw [hK]; exact h.up _ ht⟩
    · exact .inl h1
  · exact .inr h1
theorem BI.put {p : Nat} {a : ArcT} (h : BI Z N s d Q D K (p :: T)) (hp : Z[p]? = some a) (hK : atI d (frN a) = K) (hfd : frN a ∈ D) (ht : toN a < N) (h0 : atI d (toN a) = -1) :
    BI Z N s (d.set (toN a) (K + 1)) (Q ++ [toN a]) D K T ∧ atI (d.set (toN a) (K + 1)) (frN a) = K ∧ Q.length < N := by
  have ha : a ∈ Z := List.mem_of_getElem? hp
  have hset : ∀ v, atI (d.set (toN a) (K + 1)) v = if v = toN a then K + 1 else atI d v := fun v => atI_set (by rw [h.len]; exact ht)
  have hkeep : ∀ v, 0 ≤ atI d v → atI (d.set (toN a) (K + 1)) v = atI d v := by
    intro v hv
    rw [hset, if_neg]
    rintro rfl
    omega
  have hk := h.kb
  have hfr := h.dl _ hfd
  have hxQ : toN a ∉ Q := fun hm => by have := (h.qn _ hm).2.1; omega
  have hxD : toN a ∉ D := fun hm => by have := (h.dl _ hm).2; omega
  refine ⟨⟨by rw [List.length_set]; exact h.len, ?_, ?_, ?_, ?_, ?_, ?_, h.dn, ?_, ?_, ?_, h.kb⟩, ?_, ?_⟩
  · rw [hkeep s (by rw [h.zero]; omega)]; exact h.zero
  · intro v hv
    rw [List.length_set] at hv
    rw [hset]
    split
    · next e =>
      subst e
      right
      refine ⟨by omega, ?_⟩
      rcases h.sound (frN a) (by rw [h.len]; exact hfr.1) with h1 | ⟨h1, h2⟩
      · omega
      · rw [hK] at h2; exact reach_step h2 ha
    · exact h.sound v hv
  · intro v hv
    rcases List.mem_append.1 hv with hv | hv
    · obtain ⟨h1, h2, h3, h4⟩ := h.qn v hv
      rw [hkeep v h2]
      exact ⟨h1, h2, h3, h4⟩
    · rw [List.mem_singleton] at hv
      subst hv
      rw [hset, if_pos rfl]
      exact ⟨ht, by omega, by omega, hxD⟩
  · rw [List.nodup_append]
    refine ⟨h.qd, by simp, ?_⟩
    intro x hx y hy
    rw [List.mem_singleton] at hy
    subst hy
    rintro rfl
    exact hxQ hx
  · rw [List.pairwise_append]
    refine ⟨h.qs.imp_of_mem ?_, by simp, ?_⟩
    · intro x y hx hy hxy
      rw [hkeep x (h.qn x hx).2.1, hkeep y (h.qn y hy).2.1]; exact hxy
    · intro x hx y hy
      rw [List.mem_singleton] at hy
      subst hy
      rw [hkeep x (h.qn x hx).2.1, hset, if_pos rfl]
      exact h.up x (h.qn x hx).1
  · intro v hv
    rw [hset]
    split
    · omega
    · exact h.up v hv
  · intro v hv
    obtain ⟨h1, h2⟩ := h.dl v hv
    rw [hkeep v h2]
    exact ⟨h1, h2⟩
  · intro v hv h1
    rw [hset] at h1
    split at h1
    · next e => subst e; exact .inr (by simp)
    · rcases h.all v hv h1 with h2 | h2
      · exact .inl h2
      · exact .inr (by simp [h2])
  · intro q b hq hf
    rcases h.cl q b hq hf with h1 | h1
    · rcases List.mem_cons.1 h1 with rfl | h1
      · rw [hp] at hq; cases hq
        right
        rw [hset, if_pos rfl, hkeep _ hfr.2, hK]
        omega
      · exact .inl h1
    · right
      rw [hkeep _ h1.1, hkeep _ (h.dl _ hf).2]
      exact h1
  · rw [hkeep _ hfr.2]; exact hK
  · have := nodup_le (N := N) (l := toN a :: Q) (List.nodup_cons.2 ⟨hxQ, h.qd⟩) (fun x hx => by
      rcases List.mem_cons.1 hx with rfl | hx
      · exact ht
      · exact (h.qn x hx).1)
    simp at this
    omega
theorem BI.done (h : BI Z N s d [] D K []) (hs : s < N) (hZ : ∀ a ∈ Z, frN a < N ∧ toN a < N) : IsDist Z one s N d := by
  refine isDist_cert h.len hs (fun a ha => (hZ a ha).2) h.zero h.sound fun a ha h0 => ?_
  obtain ⟨p, hp⟩ := List.getElem?_of_mem ha
  rcases h.all _ (hZ a ha).1 h0 with h1 | h1
  · rcases h.cl p a hp h1 with h2 | h2
    · cases h2
    · exact h2
  · cases h1
end
def tm (a : ArcT) : Int := a.2.2.2
structure DI (Z : List ArcT) (N s : Nat) (d : List Int) (L : List (Int × Int)) (D used : List Nat) (K : Int) (T : List Nat) : Prop where
  len : d.length = N
  zero : atI d s = 0
  sound : SoundD Z tm s d
  pr : ∀ x ∈ L, ∃ v : Nat, v < N ∧ x.2 = (v : Int) ∧ 0 ≤ atI d v ∧ atI d v ≤ x.1 ∧ K ≤ x.1 ∧ x.1 ≤ used.length * 1048576
  nd : L.Nodup
  dl : ∀ v ∈ D, v < N ∧ 0 ≤ atI d v ∧ atI d v ≤ K ∧ (atI d v, (v : Int)) ∉ L
  all : ∀ v, v < N → 0 ≤ atI d v → v ∈ D ∨ (atI d v, (v : Int)) ∈ L
  und : used.Nodup
  us : ∀ p ∈ used, ∃ a, Z[p]? = some a ∧ frN a ∈ D
  tn : T.Nodup ∧ ∀ p ∈ T, p ∉ used ∧ ∃ a, Z[p]? = some a ∧ frN a ∈ D
  cl : ∀ (p : Nat) (a : ArcT), Z[p]? = some a → frN a ∈ D → p ∈ T ∨ (p ∈ used ∧ 0 ≤ atI d (toN a) ∧ atI d (toN a) ≤ atI d (frN a) + tm a)
  cnt : L.length ≤ 1 + used.length
  bd : ∀ v, v < N → atI d v ≤ used.length * 1048576
  kb : 0 ≤ K ∧ K ≤ used.length * 1048576
section
variable {Z : List ArcT} {N s : Nat} {d : List Int} {L : List (Int × Int)} {D used T : List Nat} {K : Int}
theorem DI.start (hs : s < N) : DI Z N s (startD N s) [(0, (s : Int))] [] [] 0 [] := by
  have h0 : atI (startD N s) s = 0 := by rw [startD_at hs hs, if_pos rfl]
  refine ⟨startD_len N s, h0, startD_sound _ hs, ?_, by simp, by simp, ?_, by simp, by simp, by simp, ?_, by simp, ?_, by simp⟩
  · intro x hx
    rw [List.mem_singleton] at hx
    subst hx
    exact ⟨s, hs, rfl, by omega, by rw [h0]; exact Int.le_refl _, by simp, by simp⟩
  · intro v hv h
    rw [startD_at hs hv] at h
    right
    split at h
    · next e => subst e; rw [h0]; simp
    · omega
  · intro p a _ h
    cases h
  · intro v hv
    rw [startD_at hs hv]
    split <;> simp
theorem DI.fresh {x : Int × Int} {u : Nat} (h : DI Z N s d (x :: L) D used K []) (hso : SortedP (x :: L)) (hx : x.2 = (u : Int)) (hge : x.1 ≤ atI d u) : DI Z N s d L (u :: D) used x.1 (places frN Z u) ∧ u < N ∧ atI d u = x.1 := by
  obtain ⟨v, hv1, hv2, hv3, hv4, hv5, hv6⟩ := h.pr x (by simp)
  have : v = u := by omega
  subst this
  have e : atI d v = x.1 := by omega
  have ex : x = (atI d v, (v : Int)) := Prod.ext (by simp [e]) (by simp [hx])
  have hmem : (atI d v, (v : Int)) ∈ x :: L := by rw [← ex]; simp
  have hvD : v ∉ D := fun hm => (h.dl v hm).2.2.2 hmem
  have hnd := List.nodup_cons.1 h.nd
  have hle : ∀ y ∈ L, x.1 ≤ y.1 := by
    intro y hy
    have := List.rel_of_pairwise_cons hso hy
    simp [ltP] at this
    omega
  have hkb := h.kb
  refine ⟨⟨h.len, h.zero, h.sound, ?_, hnd.2, ?_, ?_, h.und, ?_, ?_, ?_, ?_, h.bd, ?_⟩, hv1, e⟩
  · intro y hy
    obtain ⟨v', h1, h2, h3, h4, h5, h6⟩ := h.pr y (by simp [hy])
    exact ⟨v', h1, h2, h3, h4, hle y hy, h6⟩
  · intro v' hv'
    rcases List.mem_cons.1 hv' with rfl | hv'
    · exact ⟨hv1, hv3, by omega, by rw [← ex]; exact hnd.1⟩
    · obtain ⟨h1, h2, h3, h4⟩ := h.dl v' hv'
      exact ⟨h1, h2, by omega, fun hm => h4 (by simp [hm])⟩
  · intro v' hv' h0
    rcases h.all v' hv' h0 with h1 | h1
    · exact .inl (by simp [h1])
    · rcases List.mem_cons.1 h1 with h1 | h1
      · left
        rw [ex] at h1
        have := congrArg Prod.snd h1
        simp only at this
        have : v' = v := by omega
        simp [this]
      · exact .inr h1
  · intro p hp
    obtain ⟨a, h1, h2⟩ := h.us p hp
    exact ⟨a, h1, by simp [h2]⟩
  · refine ⟨List.Nodup.sublist List.filter_sublist List.nodup_range, fun p hp => ?_⟩
    obtain ⟨a, h1, h2⟩ := places_mem.1 hp
    refine ⟨fun hm => ?_, a, h1, by simp [h2]⟩
    obtain ⟨b, h3, h4⟩ := h.us p hm
    rw [h1] at h3; cases h3
    rw [h2] at h4
    exact hvD h4
  · intro p a hp hf
    rcases List.mem_cons.1 hf with hf | hf
    · exact .inl (places_mem.2 ⟨a, hp, hf⟩)
    · rcases h.cl p a hp hf with h1 | h1
      · cases h1
      · exact .inr h1
  · have := h.cnt
    simp only [List.length_cons] at this
    omega
  · exact ⟨by omega, hv6⟩
theorem DI.room {p : Nat} (h : DI Z N s d L D used K (p :: T)) : used.length + 1 ≤ Z.length := by
  have hn : (p :: used).Nodup := List.nodup_cons.2 ⟨(h.tn.2 p (by simp)).1, h.und⟩
  have := nodup_le (N := Z.length) hn (fun x hx => by
    rcases List.mem_cons.1 hx with rfl | hx
    · obtain ⟨_, a, h1, _⟩ := h.tn.2 x (by simp)
      exact (List.getElem?_eq_some_iff.1 h1).1
    · obtain ⟨a, h1, _⟩ := h.us x hx
      exact (List.getElem?_eq_some_iff.1 h1).1)
  simpa using this
theorem DI.skip {p : Nat} {a : ArcT} (h : DI Z N s d L D used K (p :: T)) (hp : Z[p]? = some a) (h0 : 0 ≤ atI d (toN a)) (h1 : atI d (toN a) ≤ atI d (frN a) + tm a) : DI Z N s d L D (used ++ [p]) K T := by
  obtain ⟨hpu, b, hb, hfd⟩ := h.tn.2 p (by simp)
  rw [hp] at hb; cases hb
  have htn := List.nodup_cons.1 h.tn.1
  have hl : (used ++ [p]).length = used.length + 1 := by simp
  have hkb := h.kb
  refine ⟨h.len, h.zero, h.sound, ?_, h.nd, h.dl, h.all, ?_, ?_, ?_, ?_, ?_, ?_, ?_⟩
  · intro x hx
    obtain ⟨v, g1, g2, g3, g4, g5, g6⟩ := h.pr x hx
    exact ⟨v, g1, g2, g3, g4, g5, by rw [hl]; omega⟩
  · rw [List.nodup_append]
    refine ⟨h.und, by simp, ?_⟩
    intro x hx y hy
    rw [List.mem_singleton] at hy
    subst hy
    rintro rfl
    exact hpu hx
  · intro q hq
    rcases List.mem_append.1 hq with hq | hq
    · exact h.us q hq
    · rw [List.mem_singleton] at hq; subst hq; exact ⟨a, hp, hfd⟩
  · refine ⟨htn.2, fun q hq => ?_⟩
    obtain ⟨g1, g2⟩ := h.tn.2 q (by simp [hq])
    refine ⟨fun hm => ?_, g2⟩
    rcases List.mem_append.1 hm with hm | hm
    · exact g1 hm
    · rw [List.mem_singleton] at hm; subst hm; exact htn.1 hq
  · intro q b hq hf
    rcases h.cl q b hq hf with g1 | ⟨g1, g2⟩
    · rcases List.mem_cons.1 g1 with rfl | g1
      · rw [hp] at hq; cases hq
        exact .inr ⟨by simp, h0, h1⟩
      · exact .inl g1
    · exact .inr ⟨by simp [g1], g2⟩
  · have := h.cnt; rw [hl]; omega
  · intro v hv
    have := h.bd v hv
    rw [hl]; omega
  · rw [hl]; omega
theorem DI.done (h : DI Z N s d [] D used K []) (hs : s < N) (hZ : ∀ a ∈ Z, frN a < N ∧ toN a < N) : IsDist Z tm s N d := by
  refine isDist_cert h.len hs (fun a ha => (hZ a ha).2) h.zero h.sound fun a ha h0 => ?_
  obtain ⟨p, hp⟩ := List.getElem?_of_mem ha
  rcases h.all _ (hZ a ha).1 h0 with h1 | h1
  · rcases h.cl p a hp h1 with h2 | ⟨_, h2⟩
    · cases h2
    · exact h2
  · cases h1
end
end Go.Proofs.Ytlkbohpnlbfopaa
namespace Go.Proofs.Ytlkbohpnlbfopaa
set_option linter.unusedVariables false
def capN (a : ArcT) : Int := a.2.2.1
def Flow (Z : List ArcT) (f : List Int) : Prop := f.length = Z.length ∧ ∀ i a, Z[i]? = some a → 0 ≤ atI f i ∧ atI f i ≤ capN a
def share (a : ArcT) (x : Int) (v : Nat) : Int := (if frN a = v then x else 0) - (if toN a = v then x else 0)
def balK (Z : List ArcT) (f : List Int) (v : Nat) : Nat → Int
  | 0 => 0
  | i + 1 => balK Z f v i + match Z[i]? with | some a => share a (atI f i) v | none => 0
def bal (Z : List ArcT) (f : List Int) (v : Nat) : Int := balK Z f v Z.length
theorem balK_succ {Z : List ArcT} {f : List Int} {v i : Nat} {a : ArcT} (h : Z[i]? = some a) : balK Z f v (i + 1) = balK Z f v i + share a (atI f i) v := by
  show balK Z f v i + _ = _
  rw [h]
theorem share_bd {a : ArcT} {x M : Int} (h0 : 0 ≤ x) (h1 : x ≤ M) (v : Nat) : -M ≤ share a x v ∧ share a x v ≤ M := by
  unfold share
  split <;> split <;> omega
theorem balK_bd {Z : List ArcT} {f : List Int} {M : Int} (hM : 0 ≤ M) (h : ∀ i a, Z[i]? = some a → 0 ≤ atI f i ∧ atI f i ≤ M) (v : Nat) : ∀ i, -(i * M) ≤ balK Z f v i ∧ balK Z f v i ≤ i * M
  | 0 => by simp [balK]
  | i + 1 => by
    have ih := balK_bd hM h v i
    rw [Int.natCast_add, Int.add_mul]
    cases hz : Z[i]? with
    | none =>
      have e : balK Z f v (i + 1) = balK Z f v i := by show balK Z f v i + _ = _; rw [hz]; simp
      rw [e]
      simp
      omega
    | some a =>
      rw [balK_succ hz]
      have := share_bd (h i a hz).1 (h i a hz).2 v (a := a)
      simp
      omega
def sumTo (g : Nat → Int) : Nat → Int
  | 0 => 0
  | n + 1 => sumTo g n + g n
theorem sumTo_add (g h : Nat → Int) : ∀ n, sumTo (fun v => g v + h v) n = sumTo g n + sumTo h n
  | 0 => rfl
  | n + 1 => by simp only [sumTo, sumTo_add g h n]; omega
theorem sumTo_zero : ∀ n, sumTo (fun _ => 0) n = 0
  | 0 => rfl
  | n + 1 => by simp only [sumTo, sumTo_zero n]; rfl
theorem sumTo_congr {g h : Nat → Int} : ∀ {n}, (∀ v, v < n → g v = h v) → sumTo g n = sumTo h n
  | 0, _ => rfl
  | n + 1, e => by
    have ih := sumTo_congr (g := g) (h := h) (n := n) (fun v hv => e v (by omega))
    simp only [sumTo, ih, e n (by omega)]
theorem sumTo_one {x : Int} {u : Nat} : ∀ n, sumTo (fun v => if u = v then x else 0) n = if u < n then x else 0
  | 0 => by simp [sumTo]
  | n + 1 => by
    simp only [sumTo, sumTo_one n]
    by_cases h1 : u < n
    · rw [if_pos h1, if_neg (by omega), if_pos (by omega)]; omega
    · by_cases h2 : u = n
      · rw [if_neg h1, if_pos h2, if_pos (by omega)]; omega
      · rw [if_neg h1, if_neg h2, if_neg (by omega)]; rfl
theorem sumTo_neg (g : Nat → Int) : ∀ n, sumTo (fun v => - g v) n = - sumTo g n
  | 0 => rfl
  | n + 1 => by simp only [sumTo, sumTo_neg g n]; omega
theorem share_sum {a : ArcT} {x : Int} {N : Nat} (hf : frN a < N) (ht : toN a < N) : sumTo (share a x) N = 0 := by
  have e : sumTo (share a x) N = sumTo (fun v => (if frN a = v then x else 0) + (- (if toN a = v then x else 0))) N := sumTo_congr (fun v _ => by unfold share; omega)
  rw [e, sumTo_add, sumTo_neg, sumTo_one, sumTo_one, if_pos hf, if_pos ht]
  omega
theorem balK_sum {Z : List ArcT} {f : List Int} {N : Nat} (hZ : ∀ a ∈ Z, frN a < N ∧ toN a < N) : ∀ i, sumTo (fun v => balK Z f v i) N = 0
  | 0 => sumTo_zero N
  | i + 1 => by
    cases hz : Z[i]? with
    | none =>
      rw [sumTo_congr (h := fun v => balK Z f v i) (fun v _ => by show balK Z f v i + _ = _; rw [hz]; simp)]
      exact balK_sum hZ i
    | some a =>
      have ha := hZ a (List.mem_of_getElem? hz)
      rw [sumTo_congr (h := fun v => balK Z f v i + share a (atI f i) v) (fun v _ => balK_succ hz), sumTo_add, balK_sum hZ i, share_sum ha.1 ha.2]
      rfl
theorem bal_sum {Z : List ArcT} {f : List Int} {N : Nat} (hZ : ∀ a ∈ Z, frN a < N ∧ toN a < N) : sumTo (bal Z f) N = 0 := balK_sum hZ Z.length
theorem sum_two {g : Nat → Int} {N s t : Nat} (hs : s < N) (ht : t < N) (hne : s ≠ t) (h : ∀ v, v < N → v ≠ s → v ≠ t → g v = 0) : sumTo g N = g s + g t := by
  have e : sumTo g N = sumTo (fun v => (if s = v then g s else 0) + (if t = v then g t else 0)) N := sumTo_congr (fun v hv => by
    by_cases h1 : s = v
    · subst h1; rw [if_pos rfl, if_neg (fun q => hne q.symm)]; omega
    · by_cases h2 : t = v
      · subst h2; rw [if_neg h1, if_pos rfl]; omega
      · rw [if_neg h1, if_neg h2, h v hv (fun q => h1 q.symm) (fun q => h2 q.symm)]; rfl)
  rw [e, sumTo_add, sumTo_one, sumTo_one, if_pos hs, if_pos ht]
def balL (Z : List ArcT) (f : List Int) (N i : Nat) : List Int := (List.range N).map fun v => balK Z f v i
theorem balL_len (Z : List ArcT) (f : List Int) (N i : Nat) : (balL Z f N i).length = N := by simp [balL]
theorem balL_at (Z : List ArcT) (f : List Int) {N v : Nat} (i : Nat) (h : v < N) : atI (balL Z f N i) v = balK Z f v i := by
  unfold atI; rw [List.getD_eq_getElem?_getD, List.getElem?_eq_getElem (by rw [balL_len]; exact h)]; simp [balL]
theorem balL_zero (Z : List ArcT) (f : List Int) (N : Nat) : balL Z f N 0 = List.replicate N 0 := by
  apply List.ext_getElem
  · simp [balL]
  · intro i h1 h2; simp [balL, balK]
theorem ext_at {x y : List Int} (hl : x.length = y.length) (h : ∀ v, v < x.length → atI x v = atI y v) : x = y := by
  apply List.ext_getElem hl
  intro i h1 h2
  have := h i h1
  unfold atI at this
  rw [List.getD_eq_getElem?_getD, List.getD_eq_getElem?_getD, List.getElem?_eq_getElem h1, List.getElem?_eq_getElem h2] at this
  exact this
theorem balL_step {Z : List ArcT} {f : List Int} {N i : Nat} {a : ArcT} (h : Z[i]? = some a) (hf : frN a < N) (ht : toN a < N) :
    balL Z f N (i + 1) = ((balL Z f N i).set (frN a) (atI (balL Z f N i) (frN a) + atI f i)).set (toN a) (atI ((balL Z f N i).set (frN a) (atI (balL Z f N i) (frN a) + atI f i)) (toN a) - atI f i) := by
  apply ext_at
  · simp [balL]
  · intro v hv
    rw [balL_len] at hv
    rw [balL_at _ _ _ hv, balK_succ h, atI_set (by simp [balL]; exact ht), atI_set (by rw [balL_len]; exact hf), atI_set (by rw [balL_len]; exact hf), balL_at _ _ _ hf, balL_at _ _ _ ht, balL_at _ _ _ hv]
    unfold share
    by_cases h1 : v = toN a
    · subst h1
      rw [if_pos rfl]
      by_cases h2 : toN a = frN a
      · rw [if_pos h2, h2, if_pos rfl, if_pos rfl]; omega
      · rw [if_neg h2, if_neg (fun q => h2 q.symm), if_pos rfl]; omega
    · rw [if_neg h1, if_neg (fun q : toN a = v => h1 q.symm)]
      by_cases h2 : v = frN a
      · subst h2; rw [if_pos rfl, if_pos rfl]; omega
      · rw [if_neg h2, if_neg (fun q : frN a = v => h2 q.symm)]; omega
abbrev StepT := Int × Bool
def isArc (Z : List ArcT) (x : StepT) : Prop := 0 ≤ x.1 ∧ x.1 < Z.length
instance (Z : List ArcT) (x : StepT) : Decidable (isArc Z x) := by unfold isArc; infer_instance
def arcOf (Z : List ArcT) (x : StepT) : ArcT := Z.getD x.1.toNat (0, 0, 0, 0)
def leftS (Z : List ArcT) (f : List Int) (x : StepT) : Int := if x.2 then atI f x.1.toNat else capN (arcOf Z x) - atI f x.1.toNat
def stepTo (k : Int) (f : List Int) (x : StepT) : List Int := f.set x.1.toNat (if x.2 then atI f x.1.toNat - k else atI f x.1.toNat + k)
def pushL (Z : List ArcT) (k : Int) : List Int → List StepT → Int × List Int
  | f, [] => (0, f)
  | f, x :: r => if isArc Z x then (if leftS Z f x < k then (71, []) else pushL Z k (stepTo k f x) r) else (1, [])
theorem stepTo_len (k : Int) (f : List Int) (x : StepT) : (stepTo k f x).length = f.length := by simp [stepTo]
theorem stepTo_at {k : Int} {f : List Int} {x : StepT} (h : x.1.toNat < f.length) (i : Nat) : atI (stepTo k f x) i = if i = x.1.toNat then (if x.2 then atI f x.1.toNat - k else atI f x.1.toNat + k) else atI f i := atI_set h
theorem arcOf_at {Z : List ArcT} {x : StepT} (h : isArc Z x) : Z[x.1.toNat]? = some (arcOf Z x) := by
  have hl : x.1.toNat < Z.length := by unfold isArc at h; omega
  unfold arcOf; rw [List.getD_eq_getElem?_getD, List.getElem?_eq_getElem hl]; rfl
theorem stepTo_flow {Z : List ArcT} {k : Int} {f : List Int} {x : StepT} (hf : Flow Z f) (hk : 0 ≤ k) (hx : isArc Z x) (hr : ¬ leftS Z f x < k) : Flow Z (stepTo k f x) := by
  have ha := arcOf_at hx
  have hlt : x.1.toNat < f.length := by rw [hf.1]; exact (List.getElem?_eq_some_iff.1 ha).1
  refine ⟨by rw [stepTo_len]; exact hf.1, fun i a hi => ?_⟩
  rw [stepTo_at hlt]
  have h1 := hf.2 i a hi
  by_cases e : i = x.1.toNat
  · subst e
    rw [if_pos rfl]
    rw [ha] at hi; cases hi
    unfold leftS at hr
    split <;> rename_i hb <;> simp only [hb] at hr <;> simp at hr <;> omega
  · rw [if_neg e]; exact h1
theorem pushL_flow {Z : List ArcT} {k : Int} (hk : 0 ≤ k) : ∀ (l : List StepT) (f : List Int), Flow Z f → (pushL Z k f l).1 = 0 → Flow Z (pushL Z k f l).2
  | [], f, h, _ => h
  | x :: r, f, h, h0 => by
    unfold pushL at h0 ⊢
    by_cases hx : isArc Z x
    · rw [if_pos hx] at h0 ⊢
      by_cases hl : leftS Z f x < k
      · rw [if_pos hl] at h0; cases h0
      · rw [if_neg hl] at h0 ⊢
        exact pushL_flow hk r _ (stepTo_flow h hk hx hl) h0
    · rw [if_neg hx] at h0; cases h0
def flipS (x : StepT) : StepT := (x.1, !x.2)
def fromS (Z : List ArcT) (x : StepT) : Nat := if x.2 then toN (arcOf Z x) else frN (arcOf Z x)
def toS (Z : List ArcT) (x : StepT) : Nat := if x.2 then frN (arcOf Z x) else toN (arcOf Z x)
def Trail (Z : List ArcT) (u : Nat) : List StepT → Nat → Prop
  | [], v => u = v
  | x :: r, v => fromS Z x = u ∧ isArc Z x ∧ Trail Z (toS Z x) r v
theorem balK_set {Z : List ArcT} {f : List Int} {j : Nat} {y : Int} (hj : j < f.length) (v : Nat) : ∀ i, balK Z (f.set j y) v i = balK Z f v i + if j < i then (match Z[j]? with | some a => share a y v - share a (atI f j) v | none => 0) else 0
  | 0 => by simp [balK]
  | i + 1 => by
    have ih := balK_set (Z := Z) (y := y) hj v i
    show balK Z (f.set j y) v i + _ = balK Z f v i + _ + _
    rw [ih]
    by_cases h1 : j < i
    · rw [if_pos h1, if_pos (by omega)]
      have e : atI (f.set j y) i = atI f i := by rw [atI_set hj, if_neg (by omega)]
      rw [e]
      omega
    · rw [if_neg h1]
      by_cases h2 : j = i
      · subst h2
        rw [if_pos (by omega), atI_set hj, if_pos rfl]
        cases Z[j]? with
        | none => simp
        | some a => simp only; omega
      · rw [if_neg (by omega)]
        have e : atI (f.set j y) i = atI f i := by rw [atI_set hj, if_neg (by omega)]
        rw [e]
        omega
theorem share_step (a : ArcT) (x k : Int) (v : Nat) : share a (x + k) v - share a x v = (if frN a = v then k else 0) - (if toN a = v then k else 0) := by
  unfold share
  split <;> split <;> omega
theorem bal_step {Z : List ArcT} {k : Int} {f : List Int} {x : StepT} (hf : f.length = Z.length) (hx : isArc Z x) (v : Nat) : bal Z (stepTo k f x) v = bal Z f v + (if fromS Z x = v then k else 0) - (if toS Z x = v then k else 0) := by
  have ha := arcOf_at hx
  have hlt : x.1.toNat < Z.length := (List.getElem?_eq_some_iff.1 ha).1
  unfold bal stepTo
  rw [balK_set (by omega), if_pos hlt, ha]
  simp only
  unfold fromS toS
  cases hb : x.2
  · have := share_step (arcOf Z x) (atI f x.1.toNat) k v
    simp only [Bool.false_eq_true, if_false]
    omega
  · have := share_step (arcOf Z x) (atI f x.1.toNat) (-k) v
    simp only [if_true]
    rw [show atI f x.1.toNat - k = atI f x.1.toNat + -k by omega, this]
    split <;> split <;> omega
theorem push_trail {Z : List ArcT} {k : Int} : ∀ (l : List StepT) (f : List Int) (u v : Nat), f.length = Z.length → Trail Z u l v → (pushL Z k f l).1 = 0 → (pushL Z k f l).2.length = Z.length ∧ ∀ w, bal Z (pushL Z k f l).2 w = bal Z f w + (if u = w then k else 0) - (if v = w then k else 0)
  | [], f, u, v, hl, h, _ => by
    simp only [Trail] at h
    subst h
    exact ⟨hl, fun w => by show bal Z f w = _; split <;> omega⟩
  | x :: r, f, u, v, hl, h, h0 => by
    obtain ⟨t1, t2, t3⟩ := h
    have hlx : ¬ leftS Z f x < k := fun hl => by unfold pushL at h0; rw [if_pos t2, if_pos hl] at h0; cases h0
    have e : pushL Z k f (x :: r) = pushL Z k (stepTo k f x) r := by show (if _ then _ else _) = _; rw [if_pos t2, if_neg hlx]
    rw [e] at h0 ⊢
    obtain ⟨g1, g2⟩ := push_trail r (stepTo k f x) _ v (by rw [stepTo_len]; exact hl) t3 h0
    refine ⟨g1, fun w => ?_⟩
    rw [g2 w, bal_step hl t2 w, t1]
    omega
def costK (Z : List ArcT) (f : List Int) : Nat → Int
  | 0 => 0
  | i + 1 => costK Z f i + match Z[i]? with | some a => atI f i * tm a | none => 0
theorem costK_succ {Z : List ArcT} {f : List Int} {i : Nat} {a : ArcT} (h : Z[i]? = some a) : costK Z f (i + 1) = costK Z f i + atI f i * tm a := by
  show costK Z f i + _ = _
  rw [h]
theorem costK_bd {Z : List ArcT} {f : List Int} (h : ∀ i a, Z[i]? = some a → (0 ≤ atI f i ∧ atI f i ≤ 1048576) ∧ 0 ≤ tm a ∧ tm a ≤ 1048576) : ∀ i, 0 ≤ costK Z f i ∧ costK Z f i ≤ i * 1099511627776
  | 0 => by simp [costK]
  | i + 1 => by
    have ih := costK_bd h i
    rw [Int.natCast_add, Int.add_mul]
    cases hz : Z[i]? with
    | none =>
      have e : costK Z f (i + 1) = costK Z f i := by show costK Z f i + _ = _; rw [hz]; simp
      rw [e]
      simp
      omega
    | some a =>
      rw [costK_succ hz]
      obtain ⟨⟨h1, h2⟩, h3, h4⟩ := h i a hz
      have h5 : 0 ≤ atI f i * tm a := Int.mul_nonneg h1 h3
      have h6 : atI f i * tm a ≤ 1048576 * 1048576 := Int.mul_le_mul h2 h4 h3 (by omega)
      simp
      omega
end Go.Proofs.Ytlkbohpnlbfopaa
namespace Go.Proofs.Ytlkbohpnlbfopaa
set_option linter.unusedVariables false
def outS (S : Nat → Bool) (a : ArcT) : Bool := S (frN a) && !S (toN a)
def intoS (S : Nat → Bool) (a : ArcT) : Bool := !S (frN a) && S (toN a)
def crossK (Z : List ArcT) (f : List Int) (S : Nat → Bool) : Nat → Int
  | 0 => 0
  | i + 1 => crossK Z f S i + match Z[i]? with | some a => (if outS S a then atI f i else 0) - (if intoS S a then atI f i else 0) | none => 0
def capK (Z : List ArcT) (S : Nat → Bool) : Nat → Int
  | 0 => 0
  | i + 1 => capK Z S i + match Z[i]? with | some a => if outS S a then capN a else 0 | none => 0
def capS (Z : List ArcT) (S : Nat → Bool) : Int := capK Z S Z.length
theorem crossK_succ {Z : List ArcT} {f : List Int} {S : Nat → Bool} {i : Nat} {a : ArcT} (h : Z[i]? = some a) : crossK Z f S (i + 1) = crossK Z f S i + ((if outS S a then atI f i else 0) - (if intoS S a then atI f i else 0)) := by
  show crossK Z f S i + _ = _
  rw [h]
theorem capK_succ {Z : List ArcT} {S : Nat → Bool} {i : Nat} {a : ArcT} (h : Z[i]? = some a) : capK Z S (i + 1) = capK Z S i + if outS S a then capN a else 0 := by
  show capK Z S i + _ = _
  rw [h]
theorem side_share {a : ArcT} {x : Int} {S : Nat → Bool} {N : Nat} (hf : frN a < N) (ht : toN a < N) : sumTo (fun v => if S v then share a x v else 0) N = (if outS S a then x else 0) - (if intoS S a then x else 0) := by
  have e : sumTo (fun v => if S v then share a x v else 0) N = sumTo (fun v => (if frN a = v then (if S (frN a) then x else 0) else 0) + (if toN a = v then (if S (toN a) then -x else 0) else 0)) N := sumTo_congr (fun v _ => by
    unfold share
    by_cases h1 : frN a = v
    · subst h1
      by_cases h2 : toN a = frN a
      · rw [if_pos rfl, if_pos h2, if_pos rfl, if_pos h2, h2]; split <;> omega
      · rw [if_pos rfl, if_neg h2, if_pos rfl, if_neg h2]; split <;> omega
    · by_cases h2 : toN a = v
      · subst h2; rw [if_neg h1, if_pos rfl, if_neg h1, if_pos rfl]; split <;> omega
      · rw [if_neg h1, if_neg h2, if_neg h1, if_neg h2]; simp)
  rw [e, sumTo_add, sumTo_one, sumTo_one, if_pos hf, if_pos ht]
  unfold outS intoS
  cases S (frN a) <;> cases S (toN a) <;> simp <;> omega
theorem side_sum {Z : List ArcT} {f : List Int} {S : Nat → Bool} {N : Nat} (hZ : ∀ a ∈ Z, frN a < N ∧ toN a < N) : ∀ i, sumTo (fun v => if S v then balK Z f v i else 0) N = crossK Z f S i
  | 0 => by
    rw [sumTo_congr (h := fun _ => 0) (fun v _ => by simp [balK])]
    exact sumTo_zero N
  | i + 1 => by
    cases hz : Z[i]? with
    | none =>
      rw [sumTo_congr (h := fun v => if S v then balK Z f v i else 0) (fun v _ => by
        have e : balK Z f v (i + 1) = balK Z f v i := by show balK Z f v i + _ = _; rw [hz]; simp
        rw [e]), side_sum hZ i]
      show _ = crossK Z f S i + _
      rw [hz]; simp
    | some a =>
      have ha := hZ a (List.mem_of_getElem? hz)
      rw [sumTo_congr (h := fun v => (if S v then balK Z f v i else 0) + (if S v then share a (atI f i) v else 0)) (fun v _ => by rw [balK_succ hz]; split <;> omega), sumTo_add, side_sum hZ i, side_share ha.1 ha.2, crossK_succ hz]
theorem cross_le {Z : List ArcT} {f : List Int} {S : Nat → Bool} (hf : Flow Z f) : ∀ i, crossK Z f S i ≤ capK Z S i
  | 0 => Int.le_refl _
  | i + 1 => by
    have ih := cross_le (S := S) hf i
    cases hz : Z[i]? with
    | none =>
      show crossK Z f S i + _ ≤ capK Z S i + _
      rw [hz]
      simpa using ih
    | some a =>
      rw [crossK_succ hz, capK_succ hz]
      have := hf.2 i a hz
      split <;> split <;> omega
theorem cross_eq {Z : List ArcT} {f : List Int} {S : Nat → Bool} (h : ∀ i a, Z[i]? = some a → (outS S a = true → atI f i = capN a) ∧ (intoS S a = true → atI f i = 0)) : ∀ i, crossK Z f S i = capK Z S i
  | 0 => rfl
  | i + 1 => by
    have ih := cross_eq h i
    cases hz : Z[i]? with
    | none =>
      show crossK Z f S i + _ = capK Z S i + _
      rw [hz, ih]
    | some a =>
      rw [crossK_succ hz, capK_succ hz, ih]
      obtain ⟨h1, h2⟩ := h i a hz
      have h3 : outS S a = true → intoS S a = true → False := by unfold outS intoS; cases S (frN a) <;> cases S (toN a) <;> simp
      by_cases ho : outS S a = true
      · have hi : ¬ intoS S a = true := fun q => h3 ho q
        rw [if_pos ho, if_pos ho, if_neg hi, h1 ho]; omega
      · rw [if_neg ho, if_neg ho]
        by_cases hi : intoS S a = true
        · rw [if_pos hi, h2 hi]; rfl
        · rw [if_neg hi]; rfl
def FlowST (Z : List ArcT) (N s t : Nat) (f : List Int) (k : Int) : Prop := Flow Z f ∧ (∀ v, v < N → v ≠ s → v ≠ t → bal Z f v = 0) ∧ bal Z f s = k
def SideST (S : Nat → Bool) (s t : Nat) : Prop := S s = true ∧ S t = false
theorem side_value {Z : List ArcT} {N s t : Nat} {f : List Int} {k : Int} {S : Nat → Bool} (hZ : ∀ a ∈ Z, frN a < N ∧ toN a < N) (hs : s < N) (h : FlowST Z N s t f k) (hS : SideST S s t) : crossK Z f S Z.length = k := by
  rw [← side_sum hZ Z.length, sumTo_congr (h := fun v => if s = v then k else 0) (fun v hv => ?_), sumTo_one, if_pos hs]
  by_cases h1 : s = v
  · subst h1
    rw [if_pos hS.1, if_pos rfl]
    exact h.2.2
  · rw [if_neg h1]
    by_cases h2 : v = t
    · subst h2; rw [hS.2]; rfl
    · have := h.2.1 v hv (fun q => h1 q.symm) h2
      unfold bal at this
      rw [this]
      split <;> rfl
theorem weak {Z : List ArcT} {N s t : Nat} {f : List Int} {k : Int} {S : Nat → Bool} (hZ : ∀ a ∈ Z, frN a < N ∧ toN a < N) (hs : s < N) (h : FlowST Z N s t f k) (hS : SideST S s t) : k ≤ capS Z S := by
  rw [← side_value hZ hs h hS]
  exact cross_le h.1 _
def IsMost (Z : List ArcT) (N s t : Nat) (k : Int) : Prop := (∃ f, FlowST Z N s t f k) ∧ ∃ S, SideST S s t ∧ capS Z S = k
theorem isMost_unique {Z : List ArcT} {N s t : Nat} {k m : Int} (hZ : ∀ a ∈ Z, frN a < N ∧ toN a < N) (hs : s < N) (h : IsMost Z N s t k) (g : IsMost Z N s t m) : k = m := by
  obtain ⟨⟨f, hf⟩, S, hS, eS⟩ := h
  obtain ⟨⟨f', hf'⟩, S', hS', eS'⟩ := g
  have h1 := weak hZ hs hf hS'
  have h2 := weak hZ hs hf' hS
  omega
theorem zero_flow (Z : List ArcT) (h : ∀ a ∈ Z, 0 ≤ capN a) (N s t : Nat) : FlowST Z N s t (List.replicate Z.length 0) 0 := by
  have h0 : ∀ i, atI (List.replicate Z.length 0) i = 0 := by
    intro i; unfold atI; rw [List.getD_eq_getElem?_getD, List.getElem?_replicate]; split <;> rfl
  have hb : ∀ v i, balK Z (List.replicate Z.length 0) v i = 0 := by
    intro v i
    induction i with
    | zero => rfl
    | succ i ih =>
      show balK Z _ v i + _ = 0
      rw [ih, h0]
      cases Z[i]? with
      | none => rfl
      | some a => simp [share]
  exact ⟨⟨by simp, fun i a hi => by rw [h0]; exact ⟨Int.le_refl _, h a (List.mem_of_getElem? hi)⟩⟩, fun v _ _ _ => hb v _, hb s _⟩
theorem isMost_of {Z : List ArcT} {N s t : Nat} {k : Int} {f : List Int} {S : Nat → Bool} (hZ : ∀ a ∈ Z, frN a < N ∧ toN a < N) (hs : s < N) (h : FlowST Z N s t f k) (hS : SideST S s t)
    (hn : ∀ x : StepT, isArc Z x → 0 < leftS Z f x → S (fromS Z x) = true → S (toS Z x) = true) : IsMost Z N s t k := by
  refine ⟨⟨f, h⟩, S, hS, ?_⟩
  rw [← side_value hZ hs h hS]
  symm
  refine cross_eq (fun i a hi => ?_) Z.length
  have hlt : i < Z.length := (List.getElem?_eq_some_iff.1 hi).1
  have hb := h.1.2 i a hi
  have ea : ∀ b : Bool, arcOf Z ((i : Int), b) = a := by
    intro b; unfold arcOf; rw [Int.toNat_natCast, List.getD_eq_getElem?_getD, hi]; rfl
  have hx : ∀ b : Bool, isArc Z ((i : Int), b) := fun b => ⟨by simp, by simp only; omega⟩
  constructor
  · intro ho
    unfold outS at ho
    simp only [Bool.and_eq_true, Bool.not_eq_true'] at ho
    refine Classical.byContradiction fun hne => ?_
    have := hn ((i : Int), false) (hx false) (by unfold leftS; simp only [Bool.false_eq_true, if_false, Int.toNat_natCast, ea]; omega) (by unfold fromS; simp only [Bool.false_eq_true, if_false, ea]; exact ho.1)
    unfold toS at this
    simp only [Bool.false_eq_true, if_false, ea] at this
    rw [ho.2] at this
    cases this
  · intro ho
    unfold intoS at ho
    simp only [Bool.and_eq_true, Bool.not_eq_true'] at ho
    refine Classical.byContradiction fun hne => ?_
    have := hn ((i : Int), true) (hx true) (by unfold leftS; simp only [if_true, Int.toNat_natCast]; omega) (by unfold fromS; simp only [if_true, ea]; exact ho.2)
    unfold toS at this
    simp only [if_true, ea] at this
    rw [ho.1] at this
    cases this
end Go.Proofs.Ytlkbohpnlbfopaa
namespace Go.Proofs.Ytlkbohpnlbfopaa
set_option linter.unusedVariables false
abbrev Ent := Nat × StepT × Nat
def keysX (x : List Ent) : List Nat := x.map fun e => e.1
theorem keysX_mem {x : List Ent} {v : Nat} : v ∈ keysX x ↔ ∃ (b : Nat) (q : Ent), x[b]? = some q ∧ q.1 = v := by
  unfold keysX
  rw [List.mem_map]
  constructor
  · rintro ⟨q, hq, e⟩
    obtain ⟨b, hb⟩ := List.getElem?_of_mem hq
    exact ⟨b, q, hb, e⟩
  · rintro ⟨b, q, hb, e⟩
    exact ⟨q, List.mem_of_getElem? hb, e⟩
section
variable {fr to : StepT → Nat} {l : List StepT} {s0 : Nat}
def addX (fr to : StepT → Nat) (u p : Nat) (x : List Ent) (s : StepT) : List Ent := if fr s = u ∧ to s ∉ keysX x then x ++ [(to s, s, p)] else x
def expX (fr to : StepT → Nat) (l : List StepT) (u p : Nat) (x : List Ent) : List Ent := l.foldl (addX fr to u p) x
def seekK (fr to : StepT → Nat) (l : List StepT) (s0 : Nat) : Nat → List Ent
  | 0 => [(s0, (0, false), 0)]
  | i + 1 => match (seekK fr to l s0 i)[i]? with
    | none => seekK fr to l s0 i
    | some e => expX fr to l e.1 i (seekK fr to l s0 i)
structure SK (fr to : StepT → Nat) (l : List StepT) (s0 : Nat) (x : List Ent) (i : Nat) (P : List StepT) : Prop where
  hd : x[0]? = some (s0, (0, false), 0)
  nd : (keysX x).Nodup
  par : ∀ j e, x[j]? = some e → 0 < j → e.2.1 ∈ l ∧ to e.2.1 = e.1 ∧ e.2.2 < j ∧ e.2.2 ≤ i ∧ ∃ q, x[e.2.2]? = some q ∧ q.1 = fr e.2.1
  mono : ∀ j j' e e', x[j]? = some e → x[j']? = some e' → 0 < j → j ≤ j' → e.2.2 ≤ e'.2.2
  cl : ∀ j e, x[j]? = some e → j < i → ∀ s ∈ l, fr s = e.1 → ∃ b q, x[b]? = some q ∧ q.1 = to s ∧ (b = 0 ∨ q.2.2 ≤ j)
  cl2 : ∀ e, x[i]? = some e → ∀ s ∈ P, fr s = e.1 → ∃ b q, x[b]? = some q ∧ q.1 = to s ∧ (b = 0 ∨ q.2.2 ≤ i)
theorem SK.start : SK fr to l s0 [(s0, (0, false), 0)] 0 [] := by
  refine ⟨rfl, by simp [keysX], ?_, ?_, ?_, ?_⟩
  · intro j e h h0
    have : j < 1 := (List.getElem?_eq_some_iff.1 h).1
    omega
  · intro j j' e e' h h' h0 hle
    have : j' < 1 := (List.getElem?_eq_some_iff.1 h').1
    omega
  · intro j e h hj; omega
  · intro e h s hs; cases hs
theorem SK.add {x : List Ent} {i : Nat} {P : List StepT} {e : Ent} {s : StepT} (h : SK fr to l s0 x i P) (he : x[i]? = some e) (hs : s ∈ l) : SK fr to l s0 (addX fr to e.1 i x s) i (P ++ [s]) := by
  have hil : i < x.length := (List.getElem?_eq_some_iff.1 he).1
  unfold addX
  split
  · next hc =>
    have old : ∀ {j : Nat} {q : Ent}, x[j]? = some q → (x ++ [(to s, s, i)])[j]? = some q := fun hq => by rw [List.getElem?_append_left (List.getElem?_eq_some_iff.1 hq).1]; exact hq
    have cases_ : ∀ {j : Nat} {q : Ent}, (x ++ [(to s, s, i)])[j]? = some q → x[j]? = some q ∨ (j = x.length ∧ q = (to s, s, i)) := by
      intro j q hq
      by_cases hj : j < x.length
      · rw [List.getElem?_append_left hj] at hq; exact .inl hq
      · have hl : j < (x ++ [(to s, s, i)]).length := (List.getElem?_eq_some_iff.1 hq).1
        have e : j = x.length := by simp at hl; omega
        subst e
        simp at hq
        exact .inr ⟨rfl, hq.symm⟩
    have he' := old he
    refine ⟨old h.hd, ?_, ?_, ?_, ?_, ?_⟩
    · unfold keysX
      rw [List.map_append, List.nodup_append]
      refine ⟨h.nd, by simp, ?_⟩
      intro a ha b hb
      simp at hb
      subst hb
      rintro rfl
      exact hc.2 ha
    · intro j q hq h0
      rcases cases_ hq with hq | ⟨rfl, rfl⟩
      · obtain ⟨g1, g2, g3, g4, r, g5, g6⟩ := h.par j q hq h0
        exact ⟨g1, g2, g3, g4, r, old g5, g6⟩
      · exact ⟨hs, rfl, hil, Nat.le_refl _, e, he', hc.1.symm⟩
    · intro j j' q q' hq hq' h0 hle
      rcases cases_ hq with hq | ⟨rfl, rfl⟩
      · rcases cases_ hq' with hq' | ⟨rfl, rfl⟩
        · exact h.mono j j' q q' hq hq' h0 hle
        · exact (h.par j q hq h0).2.2.2.1
      · rcases cases_ hq' with hq' | ⟨rfl, rfl⟩
        · have := (List.getElem?_eq_some_iff.1 hq').1
          omega
        · exact Nat.le_refl _
    · intro j q hq hj r hr hf
      rcases cases_ hq with hq | ⟨rfl, rfl⟩
      · obtain ⟨b, p, g1, g2, g3⟩ := h.cl j q hq hj r hr hf
        exact ⟨b, p, old g1, g2, g3⟩
      · omega
    · intro q hq r hr hf
      rw [he'] at hq
      cases hq
      rcases List.mem_append.1 hr with hr | hr
      · obtain ⟨b, p, g1, g2, g3⟩ := h.cl2 _ he r hr hf
        exact ⟨b, p, old g1, g2, g3⟩
      · rw [List.mem_singleton] at hr
        subst hr
        exact ⟨x.length, (to r, r, i), by simp, rfl, .inr (Nat.le_refl _)⟩
  · next hc =>
    refine { h with cl2 := fun q hq r hr hf => ?_ }
    rw [he] at hq
    cases hq
    rcases List.mem_append.1 hr with hr | hr
    · exact h.cl2 _ he r hr hf
    · rw [List.mem_singleton] at hr
      subst hr
      have hm : to r ∈ keysX x := Classical.byContradiction fun hm => hc ⟨hf, hm⟩
      obtain ⟨b, q, g1, g2⟩ := keysX_mem.1 hm
      refine ⟨b, q, g1, g2, ?_⟩
      by_cases hb : b = 0
      · exact .inl hb
      · exact .inr (h.par b q g1 (by omega)).2.2.2.1
theorem addX_at {u p : Nat} {x : List Ent} {s : StepT} {j : Nat} {e : Ent} (h : x[j]? = some e) : (addX fr to u p x s)[j]? = some e := by
  unfold addX
  split
  · rw [List.getElem?_append_left (List.getElem?_eq_some_iff.1 h).1]; exact h
  · exact h
theorem SK.exp {i : Nat} {e : Ent} : ∀ (m : List StepT) (x : List Ent) (P : List StepT), SK fr to l s0 x i P → x[i]? = some e → (∀ s ∈ m, s ∈ l) → SK fr to l s0 (expX fr to m e.1 i x) i (P ++ m)
  | [], x, P, h, he, hm => by simpa [expX] using h
  | s :: m, x, P, h, he, hm => by
    have := SK.exp m _ (P ++ [s]) (h.add he (hm s (by simp))) (addX_at he) (fun r hr => hm r (by simp [hr]))
    simpa [expX] using this
theorem expX_at {u p : Nat} {j : Nat} {e : Ent} : ∀ (m : List StepT) (x : List Ent), x[j]? = some e → (expX fr to m u p x)[j]? = some e
  | [], x, h => h
  | s :: m, x, h => expX_at m _ (addX_at h)
theorem SK.next {x : List Ent} {i : Nat} {e : Ent} (h : SK fr to l s0 x i l) (he : x[i]? = some e) : SK fr to l s0 x (i + 1) [] := by
  refine { h with par := fun j q hq h0 => ?_, cl := fun j q hq hj r hr hf => ?_, cl2 := fun q hq r hr => by cases hr }
  · obtain ⟨g1, g2, g3, g4, g5⟩ := h.par j q hq h0
    exact ⟨g1, g2, g3, by omega, g5⟩
  · by_cases e1 : j = i
    · subst e1
      rw [he] at hq; cases hq
      exact h.cl2 _ he r hr hf
    · exact h.cl j q hq (by omega) r hr hf
theorem seek_props : ∀ i, (SK fr to l s0 (seekK fr to l s0 i) (min i (seekK fr to l s0 i).length) [])
  | 0 => by
    have h : SK fr to l s0 (seekK fr to l s0 0) 0 [] := SK.start
    simpa using h
  | i + 1 => by
    have ih := seek_props i
    unfold seekK
    cases hx : (seekK fr to l s0 i)[i]? with
    | none =>
      have hl : (seekK fr to l s0 i).length ≤ i := List.getElem?_eq_none_iff.1 hx
      rw [Nat.min_eq_right hl] at ih
      simp only
      rw [Nat.min_eq_right (by omega)]
      exact ih
    | some e =>
      have hl : i < (seekK fr to l s0 i).length := (List.getElem?_eq_some_iff.1 hx).1
      rw [Nat.min_eq_left (by omega)] at ih
      simp only
      have h1 := SK.exp l _ [] ih hx (fun s hs => hs)
      rw [List.nil_append] at h1
      have h2 := expX_at (fr := fr) (to := to) (u := e.1) (p := i) l _ hx
      have hl2 : i < (expX fr to l e.1 i (seekK fr to l s0 i)).length := (List.getElem?_eq_some_iff.1 h2).1
      rw [Nat.min_eq_left (by omega)]
      exact h1.next h2
def pathN (x : List Ent) : Nat → Nat → List StepT
  | 0, _ => []
  | f + 1, j => if j = 0 then [] else match x[j]? with
    | none => []
    | some e => pathN x f e.2.2 ++ [e.2.1]
def pathX (x : List Ent) (j : Nat) : List StepT := pathN x j j
theorem pathN_more {x : List Ent} {i : Nat} {P : List StepT} (h : SK fr to l s0 x i P) : ∀ (f g j : Nat), j ≤ f → j ≤ g → pathN x f j = pathN x g j
  | 0, 0, j, _, _ => rfl
  | 0, g + 1, j, hf, _ => by
    obtain rfl : j = 0 := by omega
    simp [pathN]
  | f + 1, 0, j, _, hg => by
    obtain rfl : j = 0 := by omega
    simp [pathN]
  | f + 1, g + 1, j, hf, hg => by
    unfold pathN
    by_cases h0 : j = 0
    · rw [if_pos h0, if_pos h0]
    · rw [if_neg h0, if_neg h0]
      cases hx : x[j]? with
      | none => rfl
      | some e =>
        simp only
        have := (h.par j e hx (by omega)).2.2.1
        rw [pathN_more h f g e.2.2 (by omega) (by omega)]
theorem pathX_zero (x : List Ent) : pathX x 0 = [] := rfl
theorem pathX_succ {x : List Ent} {i : Nat} {P : List StepT} (h : SK fr to l s0 x i P) {j : Nat} {e : Ent} (he : x[j]? = some e) (h0 : 0 < j) : pathX x j = pathX x e.2.2 ++ [e.2.1] := by
  have hp := (h.par j e he h0).2.2.1
  obtain ⟨k, rfl⟩ : ∃ k, j = k + 1 := ⟨j - 1, by omega⟩
  unfold pathX
  rw [pathN, if_neg (by omega), he]
  simp only
  rw [pathN_more h k e.2.2 e.2.2 (by omega) (Nat.le_refl _)]
theorem pathN_prefix {x : List Ent} {r : List Ent} {i : Nat} {P : List StepT} (h : SK fr to l s0 x i P) : ∀ (f j : Nat), j < x.length → pathN (x ++ r) f j = pathN x f j
  | 0, _, _ => rfl
  | f + 1, j, hj => by
    unfold pathN
    by_cases h0 : j = 0
    · rw [if_pos h0, if_pos h0]
    · rw [if_neg h0, if_neg h0, List.getElem?_append_left hj, List.getElem?_eq_getElem hj]
      simp only
      have := (h.par j _ (List.getElem?_eq_getElem hj) (by omega)).2.2.1
      rw [pathN_prefix h f _ (by omega)]
def Walk (fr to : StepT → Nat) (u : Nat) : List StepT → Nat → Prop
  | [], v => u = v
  | s :: r, v => fr s = u ∧ Walk fr to (to s) r v
theorem walk_app {u v : Nat} {p q : List StepT} : Walk fr to u (p ++ q) v ↔ ∃ m, Walk fr to u p m ∧ Walk fr to m q v := by
  induction p generalizing u with
  | nil => simp [Walk]
  | cons a r ih => simp only [List.cons_append, Walk, ih]; constructor
                   · rintro ⟨h1, m, h2, h3⟩; exact ⟨m, ⟨h1, h2⟩, h3⟩
                   · rintro ⟨m, ⟨h1, h2⟩, h3⟩; exact ⟨h1, m, h2, h3⟩
theorem path_walk {x : List Ent} {i : Nat} {P : List StepT} (h : SK fr to l s0 x i P) : ∀ (n j : Nat) (e : Ent), j ≤ n → x[j]? = some e → Walk fr to s0 (pathX x j) e.1 ∧ ∀ s ∈ pathX x j, s ∈ l
  | n, 0, e, _, he => by
    rw [h.hd] at he
    cases he
    exact ⟨rfl, by simp [pathX_zero]⟩
  | 0, j + 1, e, hj, he => by omega
  | n + 1, j + 1, e, hj, he => by
    obtain ⟨g1, g2, g3, g4, q, g5, g6⟩ := h.par (j + 1) e he (by omega)
    rw [pathX_succ h he (by omega)]
    obtain ⟨w1, w2⟩ := path_walk h n e.2.2 q (by omega) g5
    refine ⟨walk_app.2 ⟨q.1, w1, g6.symm, g2⟩, fun s hs => ?_⟩
    rcases List.mem_append.1 hs with hs | hs
    · exact w2 s hs
    · rw [List.mem_singleton] at hs; subst hs; exact g1
def farX (x : List Ent) (v : Nat) : Int := match x.findIdx? (fun e => e.1 == v) with | some b => ((pathX x b).length : Int) | none => -1
theorem farX_some {x : List Ent} {i : Nat} {P : List StepT} (h : SK fr to l s0 x i P) {b : Nat} {q : Ent} (hb : x[b]? = some q) : farX x q.1 = ((pathX x b).length : Int) := by
  unfold farX
  have hbl : b < x.length := (List.getElem?_eq_some_iff.1 hb).1
  have : x.findIdx? (fun e => e.1 == q.1) = some b := by
    rw [List.findIdx?_eq_some_iff_getElem]
    refine ⟨hbl, ?_, fun j hj => ?_⟩
    · have : x[b] = q := (List.getElem?_eq_some_iff.1 hb).2
      simp [this]
    · have h1 := List.nodup_iff_pairwise_ne.1 h.nd
      rw [List.pairwise_iff_getElem] at h1
      have h2 := h1 j b (by simp [keysX]; omega) (by simp [keysX]; exact hbl) hj
      simp only [keysX, List.getElem_map] at h2
      have : x[b] = q := (List.getElem?_eq_some_iff.1 hb).2
      rw [this] at h2
      simpa using h2
  rw [this]
theorem farX_none {x : List Ent} {v : Nat} (h : v ∉ keysX x) : farX x v = -1 := by
  unfold farX
  have : x.findIdx? (fun e => e.1 == v) = none := by
    rw [List.findIdx?_eq_none_iff]
    intro e he
    have : e.1 ≠ v := fun q => h (by unfold keysX; rw [List.mem_map]; exact ⟨e, he, q⟩)
    simpa using this
  rw [this]
end
end Go.Proofs.Ytlkbohpnlbfopaa
namespace Go.Proofs.Ytlkbohpnlbfopaa
set_option linter.unusedVariables false
section
variable {fr to : StepT → Nat} {l : List StepT} {s0 : Nat}
theorem path_ends {x : List Ent} {i : Nat} {P : List StepT} (h : SK fr to l s0 x i P) : ∀ (n j : Nat) (e : Ent), j ≤ n → x[j]? = some e →
    (∀ s ∈ pathX x j, ∃ b q, x[b]? = some q ∧ q.1 = to s ∧ 0 < b ∧ b ≤ j) ∧ ((pathX x j).map to).Nodup
  | n, 0, e, _, he => by rw [pathX_zero]; exact ⟨fun s hs => (by cases hs), List.nodup_nil⟩
  | 0, j + 1, e, hj, he => by omega
  | n + 1, j + 1, e, hj, he => by
    obtain ⟨g1, g2, g3, g4, q, g5, g6⟩ := h.par (j + 1) e he (by omega)
    obtain ⟨p1, p2⟩ := path_ends h n e.2.2 q (by omega) g5
    rw [pathX_succ h he (by omega)]
    refine ⟨fun s hs => ?_, ?_⟩
    · rcases List.mem_append.1 hs with hs | hs
      · obtain ⟨b, r, r1, r2, r3, r4⟩ := p1 s hs
        exact ⟨b, r, r1, r2, r3, by omega⟩
      · rw [List.mem_singleton] at hs
        subst hs
        exact ⟨j + 1, e, he, g2.symm, by omega, Nat.le_refl _⟩
    · rw [List.map_append, List.nodup_append]
      refine ⟨p2, by simp, ?_⟩
      intro a ha c hc e1
      simp only [List.map_cons, List.map_nil, List.mem_singleton] at hc
      subst hc
      subst e1
      obtain ⟨s, hs, hs2⟩ := List.mem_map.1 ha
      obtain ⟨b, r, r1, r2, r3, r4⟩ := p1 s hs
      have hbj : b < j + 1 := by omega
      have h1 := List.nodup_iff_pairwise_ne.1 h.nd
      rw [List.pairwise_iff_getElem] at h1
      have hb : b < x.length := (List.getElem?_eq_some_iff.1 r1).1
      have hj2 : j + 1 < x.length := (List.getElem?_eq_some_iff.1 he).1
      have h2 := h1 b (j + 1) (by simp [keysX]; exact hb) (by simp [keysX]; exact hj2) hbj
      simp only [keysX, List.getElem_map] at h2
      rw [(List.getElem?_eq_some_iff.1 r1).2, (List.getElem?_eq_some_iff.1 he).2] at h2
      exact h2 (by rw [r2, hs2, g2])
theorem path_first {x : List Ent} {i : Nat} {P : List StepT} (h : SK fr to l s0 x i P) {j : Nat} {e : Ent} (he : x[j]? = some e) : s0 ∉ (pathX x j).map to := by
  intro hm
  obtain ⟨s, hs, hs2⟩ := List.mem_map.1 hm
  obtain ⟨b, q, q1, q2, q3, q4⟩ := (path_ends h j j e (Nat.le_refl _) he).1 s hs
  have h1 := List.nodup_iff_pairwise_ne.1 h.nd
  rw [List.pairwise_iff_getElem] at h1
  have hb : b < x.length := (List.getElem?_eq_some_iff.1 q1).1
  have h2 := h1 0 b (by simp [keysX]; omega) (by simp [keysX]; exact hb) q3
  simp only [keysX, List.getElem_map] at h2
  rw [(List.getElem?_eq_some_iff.1 q1).2, (List.getElem?_eq_some_iff.1 h.hd).2] at h2
  exact h2 (by rw [q2, hs2])
end
theorem arcs_nodup {Z : List ArcT} : ∀ {l : List StepT} {u v : Nat}, Walk (fromS Z) (toS Z) u l v → (l.map (toS Z)).Nodup → u ∉ l.map (toS Z) → (l.map fun x => x.1).Nodup
  | [], _, _, _, _, _ => List.nodup_nil
  | x :: r, u, v, hw, hn, hu => by
    obtain ⟨w1, w2⟩ := hw
    rw [List.map_cons, List.nodup_cons] at hn ⊢
    refine ⟨fun hm => ?_, arcs_nodup w2 hn.2 hn.1⟩
    obtain ⟨y, hy, hy2⟩ := List.mem_map.1 hm
    have ha : arcOf Z y = arcOf Z x := by unfold arcOf; rw [hy2]
    by_cases hq : y.2 = x.2
    · apply hn.1
      rw [List.mem_map]
      exact ⟨y, hy, by unfold toS; rw [ha, hq]⟩
    · apply hu
      rw [List.map_cons, List.mem_cons]
      right
      rw [List.mem_map]
      refine ⟨y, hy, ?_⟩
      rw [← w1]
      unfold toS fromS
      rw [ha]
      cases hy3 : y.2 <;> cases hx3 : x.2 <;> simp_all
theorem left_other {Z : List ArcT} {k : Int} {f : List Int} {x y : StepT} (hx : isArc Z x) (hy : isArc Z y) (hf : f.length = Z.length) (h : y.1 ≠ x.1) : leftS Z (stepTo k f x) y = leftS Z f y := by
  have hlt : x.1.toNat < f.length := by rw [hf]; exact (List.getElem?_eq_some_iff.1 (arcOf_at hx)).1
  unfold isArc at hx hy
  have hne : y.1.toNat ≠ x.1.toNat := by omega
  unfold leftS
  rw [stepTo_at hlt, if_neg hne]
theorem push_room {Z : List ArcT} {k : Int} : ∀ (l : List StepT) (f : List Int), f.length = Z.length → (∀ x ∈ l, isArc Z x ∧ k ≤ leftS Z f x) → (l.map fun x => x.1).Nodup → (pushL Z k f l).1 = 0
  | [], f, _, _, _ => rfl
  | x :: r, f, hf, h, hn => by
    rw [List.map_cons, List.nodup_cons] at hn
    obtain ⟨hx, hl⟩ := h x (by simp)
    have e : pushL Z k f (x :: r) = pushL Z k (stepTo k f x) r := by show (if _ then _ else _) = _; rw [if_pos hx, if_neg (by omega)]
    rw [e]
    refine push_room r _ (by rw [stepTo_len]; exact hf) (fun y hy => ?_) hn.2
    obtain ⟨hy1, hy2⟩ := h y (by simp [hy])
    refine ⟨hy1, ?_⟩
    rw [left_other hx hy1 hf (fun e => hn.1 (by rw [List.mem_map]; exact ⟨y, hy, e⟩))]
    exact hy2
def pushedL (k : Int) (f : List Int) (l : List StepT) : List Int := l.foldl (stepTo k) f
theorem pushed_of {Z : List ArcT} {k : Int} : ∀ (l : List StepT) (f : List Int), (pushL Z k f l).1 = 0 → pushL Z k f l = (0, pushedL k f l)
  | [], f, _ => rfl
  | x :: r, f, h0 => by
    have hx : isArc Z x := Classical.byContradiction fun hx => by unfold pushL at h0; rw [if_neg hx] at h0; cases h0
    have hl : ¬ leftS Z f x < k := fun hl => by unfold pushL at h0; rw [if_pos hx, if_pos hl] at h0; cases h0
    have e : pushL Z k f (x :: r) = pushL Z k (stepTo k f x) r := by show (if _ then _ else _) = _; rw [if_pos hx, if_neg hl]
    rw [e] at h0 ⊢
    exact pushed_of r _ h0
def botA (Z : List ArcT) (f : List Int) (k : Int) (l : List StepT) : Int := l.foldl (fun k y => min k (leftS Z f y)) k
def botK (Z : List ArcT) (f : List Int) : List StepT → Int
  | [] => 0
  | x :: r => botA Z f (leftS Z f x) r
theorem botA_le {Z : List ArcT} {f : List Int} : ∀ (l : List StepT) (k : Int), botA Z f k l ≤ k ∧ ∀ x ∈ l, botA Z f k l ≤ leftS Z f x
  | [], k => ⟨Int.le_refl _, fun x hx => (by cases hx)⟩
  | y :: r, k => by
    obtain ⟨h1, h2⟩ := botA_le (Z := Z) (f := f) r (min k (leftS Z f y))
    have e : botA Z f k (y :: r) = botA Z f (min k (leftS Z f y)) r := rfl
    rw [e]
    refine ⟨by omega, fun x hx => ?_⟩
    rcases List.mem_cons.1 hx with rfl | hx
    · omega
    · exact h2 x hx
theorem botA_ge {Z : List ArcT} {f : List Int} {m : Int} : ∀ (l : List StepT) (k : Int), m ≤ k → (∀ x ∈ l, m ≤ leftS Z f x) → m ≤ botA Z f k l
  | [], k, hk, _ => hk
  | y :: r, k, hk, h => by
    have e : botA Z f k (y :: r) = botA Z f (min k (leftS Z f y)) r := rfl
    rw [e]
    have := h y (by simp)
    exact botA_ge r _ (by omega) (fun x hx => h x (by simp [hx]))
theorem botK_le {Z : List ArcT} {f : List Int} : ∀ (l : List StepT), ∀ x ∈ l, botK Z f l ≤ leftS Z f x
  | [], x, hx => by cases hx
  | y :: r, x, hx => by
    obtain ⟨h1, h2⟩ := botA_le (Z := Z) (f := f) r (leftS Z f y)
    rcases List.mem_cons.1 hx with rfl | hx
    · exact h1
    · exact h2 x hx
theorem botK_ge {Z : List ArcT} {f : List Int} {m : Int} : ∀ (l : List StepT), l ≠ [] → (∀ x ∈ l, m ≤ leftS Z f x) → m ≤ botK Z f l
  | [], h, _ => absurd rfl h
  | y :: r, _, h => botA_ge r _ (h y (by simp)) (fun x hx => h x (by simp [hx]))
theorem botA_snoc (Z : List ArcT) (f : List Int) (k : Int) (l : List StepT) (x : StepT) : botA Z f k (l ++ [x]) = min (botA Z f k l) (leftS Z f x) := by simp [botA]
theorem walk_trail {Z : List ArcT} : ∀ {l : List StepT} {u v : Nat}, Walk (fromS Z) (toS Z) u l v → (∀ x ∈ l, isArc Z x) → Trail Z u l v
  | [], _, _, h, _ => h
  | x :: r, _, _, h, ha => ⟨h.1, ha x (by simp), walk_trail h.2 (fun y hy => ha y (by simp [hy]))⟩
theorem push_value {Z : List ArcT} {N s t : Nat} {f : List Int} {v k : Int} {l : List StepT} (hk : 0 ≤ k) (hne : s ≠ t) (h : FlowST Z N s t f v) (ht : Trail Z s l t) (h0 : (pushL Z k f l).1 = 0) : FlowST Z N s t (pushL Z k f l).2 (v + k) := by
  obtain ⟨hf, hb, hv⟩ := h
  have hb2 := (push_trail l f s t hf.1 ht h0).2
  refine ⟨pushL_flow hk l f hf h0, fun w hw h1 h2 => ?_, ?_⟩
  · rw [hb2 w, hb w hw h1 h2, if_neg (fun e => h1 e.symm), if_neg (fun e => h2 e.symm)]; rfl
  · rw [hb2 s, hv, if_pos rfl, if_neg (fun e => hne e.symm)]; omega
theorem augment {Z : List ArcT} {N s t : Nat} {f : List Int} {v : Int} {l : List StepT} (hne : s ≠ t) (h : FlowST Z N s t f v) (hw : Walk (fromS Z) (toS Z) s l t) (hn : (l.map (toS Z)).Nodup) (hs : s ∉ l.map (toS Z)) (hr : ∀ x ∈ l, isArc Z x ∧ 0 < leftS Z f x) :
    0 < botK Z f l ∧ (pushL Z (botK Z f l) f l).1 = 0 ∧ FlowST Z N s t (pushedL (botK Z f l) f l) (v + botK Z f l) := by
  have hl : l ≠ [] := by
    rintro rfl
    exact hne hw
  have hp : 1 ≤ botK Z f l := botK_ge l hl (fun x hx => by have := (hr x hx).2; omega)
  have h0 : (pushL Z (botK Z f l) f l).1 = 0 := push_room l f h.1.1 (fun x hx => ⟨(hr x hx).1, botK_le l x hx⟩) (arcs_nodup hw hn hs)
  have h1 := push_value (by omega) hne h (walk_trail hw (fun x hx => (hr x hx).1)) h0
  rw [pushed_of l f h0] at h1
  exact ⟨by omega, h0, h1⟩
end Go.Proofs.Ytlkbohpnlbfopaa
namespace Go.Proofs.Ytlkbohpnlbfopaa
set_option linter.unusedVariables false
theorem side_full {Z : List ArcT} {N s t : Nat} {k : Int} {f : List Int} {S : Nat → Bool} (hZ : ∀ a ∈ Z, frN a < N ∧ toN a < N) (hs : s < N) (h : FlowST Z N s t f k) (hS : SideST S s t)
    (hn : ∀ x : StepT, isArc Z x → 0 < leftS Z f x → S (fromS Z x) = true → S (toS Z x) = true) : capS Z S = k := by
  rw [← side_value hZ hs h hS]
  symm
  refine cross_eq (fun i a hi => ?_) Z.length
  have hlt : i < Z.length := (List.getElem?_eq_some_iff.1 hi).1
  have hb := h.1.2 i a hi
  have ea : ∀ b : Bool, arcOf Z ((i : Int), b) = a := by
    intro b; unfold arcOf; rw [Int.toNat_natCast, List.getD_eq_getElem?_getD, hi]; rfl
  have hx : ∀ b : Bool, isArc Z ((i : Int), b) := fun b => ⟨by simp, by simp only; omega⟩
  constructor
  · intro ho
    unfold outS at ho
    simp only [Bool.and_eq_true, Bool.not_eq_true'] at ho
    refine Classical.byContradiction fun hne => ?_
    have := hn ((i : Int), false) (hx false) (by unfold leftS; simp only [Bool.false_eq_true, if_false, Int.toNat_natCast, ea]; omega) (by unfold fromS; simp only [Bool.false_eq_true, if_false, ea]; exact ho.1)
    unfold toS at this
    simp only [Bool.false_eq_true, if_false, ea] at this
    rw [ho.2] at this
    cases this
  · intro ho
    unfold intoS at ho
    simp only [Bool.and_eq_true, Bool.not_eq_true'] at ho
    refine Classical.byContradiction fun hne => ?_
    have := hn ((i : Int), true) (hx true) (by unfold leftS; simp only [if_true, Int.toNat_natCast]; omega) (by unfold fromS; simp only [if_true, ea]; exact ho.2)
    unfold toS at this
    simp only [if_true, ea] at this
    rw [ho.1] at this
    cases this
theorem gap_step {Z : List ArcT} {f : List Int} {S : Nat → Bool} (hf : Flow Z f) (i : Nat) : capK Z S i - crossK Z f S i ≤ capK Z S (i + 1) - crossK Z f S (i + 1) := by
  cases hz : Z[i]? with
  | none =>
    have e1 : capK Z S (i + 1) = capK Z S i := by show capK Z S i + _ = _; rw [hz]; simp
    have e2 : crossK Z f S (i + 1) = crossK Z f S i := by show crossK Z f S i + _ = _; rw [hz]; simp
    omega
  | some a =>
    rw [capK_succ hz, crossK_succ hz]
    have := hf.2 i a hz
    split <;> split <;> omega
theorem gap_mono {Z : List ArcT} {f : List Int} {S : Nat → Bool} (hf : Flow Z f) (i : Nat) : ∀ j, capK Z S i - crossK Z f S i ≤ capK Z S (i + j) - crossK Z f S (i + j)
  | 0 => Int.le_refl _
  | j + 1 => Int.le_trans (gap_mono hf i j) (gap_step hf (i + j))
theorem cross_tight {Z : List ArcT} {f : List Int} {S : Nat → Bool} (hf : Flow Z f) (h : crossK Z f S Z.length = capK Z S Z.length) (i : Nat) (a : ArcT) (hi : Z[i]? = some a) : (outS S a = true → atI f i = capN a) ∧ (intoS S a = true → atI f i = 0) := by
  have hlt : i < Z.length := (List.getElem?_eq_some_iff.1 hi).1
  have h0 := cross_le (S := S) hf i
  have h1 := gap_mono (S := S) hf (i + 1) (Z.length - (i + 1))
  rw [show i + 1 + (Z.length - (i + 1)) = Z.length by omega] at h1
  rw [capK_succ hi, crossK_succ hi] at h1
  have hb := hf.2 i a hi
  constructor
  · intro ho
    have hni : intoS S a = false := by unfold outS at ho; unfold intoS; simp only [Bool.and_eq_true, Bool.not_eq_true'] at ho; simp [ho.1, ho.2]
    rw [if_pos ho, if_pos ho, hni] at h1
    simp only [Bool.false_eq_true, if_false] at h1
    omega
  · intro hin
    have hno : outS S a = false := by unfold intoS at hin; unfold outS; simp only [Bool.and_eq_true, Bool.not_eq_true'] at hin; simp [hin.1, hin.2]
    rw [hno, if_pos hin] at h1
    simp only [Bool.false_eq_true, if_false] at h1
    omega
theorem side_shut {Z : List ArcT} {N s t : Nat} {k : Int} {f : List Int} {S : Nat → Bool} (hZ : ∀ a ∈ Z, frN a < N ∧ toN a < N) (hs : s < N) (h : FlowST Z N s t f k) (hS : SideST S s t) (hc : capS Z S = k)
    (x : StepT) (hx : isArc Z x) (hl : 0 < leftS Z f x) (hf : S (fromS Z x) = true) : S (toS Z x) = true := by
  have e := side_value hZ hs h hS
  have ht := cross_tight (S := S) h.1 (by rw [e]; exact hc.symm) x.1.toNat (arcOf Z x) (arcOf_at hx)
  refine Classical.byContradiction fun hne => ?_
  have hto : S (toS Z x) = false := by simpa using hne
  unfold leftS at hl
  unfold fromS at hf
  unfold toS at hto
  cases hq : x.2
  · rw [hq] at hl hf hto
    simp only [Bool.false_eq_true, if_false] at hl hf hto
    have := ht.1 (by unfold outS; rw [hf, hto]; rfl)
    omega
  · rw [hq] at hl hf hto
    simp only [if_true] at hl hf hto
    have := ht.2 (by unfold intoS; rw [hf, hto]; rfl)
    omega
theorem walk_side {fr to : StepT → Nat} {S : Nat → Bool} {l : List StepT} (hS : ∀ x ∈ l, S (fr x) = true → S (to x) = true) : ∀ {p : List StepT} {u v : Nat}, (∀ x ∈ p, x ∈ l) → Walk fr to u p v → S u = true → S v = true
  | [], _, _, _, h, hu => by rw [← (show _ = _ from h)]; exact hu
  | x :: r, _, _, hp, h, hu => walk_side hS (fun y hy => hp y (by simp [hy])) h.2 (hS x (hp x (by simp)) (by rw [h.1]; exact hu))
def foundB (x : List Ent) (v : Nat) : Bool := decide (v ∈ keysX x)
theorem foundB_iff {x : List Ent} {v : Nat} : foundB x v = true ↔ v ∈ keysX x := by unfold foundB; simp
section
variable {Z : List ArcT} {N s t : Nat} {f : List Int} {k : Int} {l : List StepT} {x : List Ent}
theorem found_closed {fr to : StepT → Nat} {s0 : Nat} (h : SK fr to l s0 x x.length []) (y : StepT) (hy : y ∈ l) (hf : foundB x (fr y) = true) : foundB x (to y) = true := by
  rw [foundB_iff, keysX_mem] at hf ⊢
  obtain ⟨b, q, q1, q2⟩ := hf
  obtain ⟨c, r, r1, r2, _⟩ := h.cl b q q1 (List.getElem?_eq_some_iff.1 q1).1 y hy q2.symm
  exact ⟨c, r, r1, r2⟩
theorem found_first {fr to : StepT → Nat} {s0 : Nat} {i : Nat} {P : List StepT} (h : SK fr to l s0 x i P) : foundB x s0 = true := by
  rw [foundB_iff, keysX_mem]
  exact ⟨0, _, h.hd, rfl⟩
theorem best_side (hZ : ∀ a ∈ Z, frN a < N ∧ toN a < N) (hs : s < N) (hl : ∀ y : StepT, y ∈ l ↔ isArc Z y ∧ 0 < leftS Z f y) (h : FlowST Z N s t f k) (hx : SK (fromS Z) (toS Z) l s x x.length []) (ht : t ∉ keysX x) :
    SideST (foundB x) s t ∧ capS Z (foundB x) = k ∧ IsMost Z N s t k ∧ ∀ T, SideST T s t → capS Z T = k → ∀ v, foundB x v = true → T v = true := by
  have hS : SideST (foundB x) s t := ⟨found_first hx, by unfold foundB; exact decide_eq_false ht⟩
  have hc : ∀ y : StepT, isArc Z y → 0 < leftS Z f y → foundB x (fromS Z y) = true → foundB x (toS Z y) = true := fun y h1 h2 h3 => found_closed hx y ((hl y).2 ⟨h1, h2⟩) h3
  refine ⟨hS, side_full hZ hs h hS hc, isMost_of hZ hs h hS hc, fun T hT hcT v hv => ?_⟩
  rw [foundB_iff, keysX_mem] at hv
  obtain ⟨b, q, q1, q2⟩ := hv
  obtain ⟨w1, w2⟩ := path_walk hx b b q (Nat.le_refl _) q1
  rw [← q2]
  exact walk_side (fun y hy h3 => side_shut hZ hs h hT hcT y ((hl y).1 hy).1 ((hl y).1 hy).2 h3) w2 w1 hT.1
theorem best_same {g : List Int} {l' : List StepT} {x' : List Ent} (hZ : ∀ a ∈ Z, frN a < N ∧ toN a < N) (hs : s < N) (hl : ∀ y : StepT, y ∈ l ↔ isArc Z y ∧ 0 < leftS Z f y) (h : FlowST Z N s t f k) (hx : SK (fromS Z) (toS Z) l s x x.length []) (ht : t ∉ keysX x)
    {m : Int} (hl' : ∀ y : StepT, y ∈ l' ↔ isArc Z y ∧ 0 < leftS Z g y) (h' : FlowST Z N s t g m) (hx' : SK (fromS Z) (toS Z) l' s x' x'.length []) (ht' : t ∉ keysX x') : k = m ∧ ∀ v, foundB x v = foundB x' v := by
  obtain ⟨a1, a2, a3, a4⟩ := best_side hZ hs hl h hx ht
  obtain ⟨b1, b2, b3, b4⟩ := best_side hZ hs hl' h' hx' ht'
  have e := isMost_unique hZ hs a3 b3
  refine ⟨e, fun v => ?_⟩
  have h1 := a4 _ b1 (by rw [b2, e]) v
  have h2 := b4 _ a1 (by rw [a2, e]) v
  cases h3 : foundB x v <;> cases h4 : foundB x' v <;> simp_all
end
end Go.Proofs.Ytlkbohpnlbfopaa
namespace Go.Proofs.Ytlkbohpnlbfopaa
set_option linter.unusedVariables false
section
variable {fr to : StepT → Nat} {l : List StepT} {s0 N : Nat}
theorem keys_lt {x : List Ent} {i : Nat} {P : List StepT} (h : SK fr to l s0 x i P) (hs : s0 < N) (ht : ∀ y ∈ l, to y < N) : ∀ v ∈ keysX x, v < N := by
  intro v hv
  rw [keysX_mem] at hv
  obtain ⟨b, q, q1, q2⟩ := hv
  subst q2
  by_cases h0 : b = 0
  · subst h0
    rw [h.hd] at q1
    cases q1
    exact hs
  · obtain ⟨g1, g2, _⟩ := h.par b q q1 (by omega)
    rw [← g2]
    exact ht _ g1
theorem seek_len {x : List Ent} {i : Nat} {P : List StepT} (h : SK fr to l s0 x i P) (hs : s0 < N) (ht : ∀ y ∈ l, to y < N) : x.length ≤ N := by
  refine Classical.byContradiction fun hn => pigeon N (keysX x) (keys_lt h hs ht) ?_ h.nd
  simp [keysX]; omega
theorem seek_full (hs : s0 < N) (ht : ∀ y ∈ l, to y < N) : SK fr to l s0 (seekK fr to l s0 N) (seekK fr to l s0 N).length [] := by
  have h := seek_props (fr := fr) (to := to) (l := l) (s0 := s0) N
  have hl := seek_len h hs ht
  rwa [Nat.min_eq_right hl] at h
def wayK (fr to : StepT → Nat) (l : List StepT) (N s t : Nat) : Option (List StepT) := ((seekK fr to l s N).findIdx? (fun e => e.1 == t)).map (pathX (seekK fr to l s N))
theorem wayK_some {t : Nat} {p : List StepT} (h : wayK fr to l N s0 t = some p) : ∃ b q, (seekK fr to l s0 N)[b]? = some q ∧ q.1 = t ∧ p = pathX (seekK fr to l s0 N) b := by
  unfold wayK at h
  rw [Option.map_eq_some_iff] at h
  obtain ⟨b, hb, hp⟩ := h
  rw [List.findIdx?_eq_some_iff_getElem] at hb
  obtain ⟨hb1, hb2, _⟩ := hb
  exact ⟨b, _, List.getElem?_eq_getElem hb1, by simpa using hb2, hp.symm⟩
theorem way_props {t : Nat} {p : List StepT} (hs : s0 < N) (ht : ∀ y ∈ l, to y < N) (h : wayK fr to l N s0 t = some p) : Walk fr to s0 p t ∧ (∀ y ∈ p, y ∈ l) ∧ (p.map to).Nodup ∧ s0 ∉ p.map to := by
  obtain ⟨b, q, q1, q2, rfl⟩ := wayK_some h
  have hS := seek_full (fr := fr) hs ht
  obtain ⟨w1, w2⟩ := path_walk hS b b q (Nat.le_refl _) q1
  rw [q2] at w1
  exact ⟨w1, w2, (path_ends hS b b q (Nat.le_refl _) q1).2, path_first hS q1⟩
end
end Go.Proofs.Ytlkbohpnlbfopaa
