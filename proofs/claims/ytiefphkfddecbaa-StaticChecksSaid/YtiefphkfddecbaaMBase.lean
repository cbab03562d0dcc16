/- Worlds, rows and lists of a call's own: what the texts of layer 6 and later lean on. -/
import Derived.Test.YtiefphkfddecbaaPKept
import Derived.Test.YtiefphkfddecbaaChecked
import Derived.Laws.StructEq
import Derived.Deep.RegionHeld3
import Derived.Deep.RegionWith
import Derived.Deep.QuietTactic
import Derived.BigQuiet
import Derived.LoopTactic
import Derived.OwnWalk
import Derived.IntWalk
namespace Go.Proofs.Ytiefphkfddecbaa
open Go.RowKit
set_option linter.unusedVariables false

theorem cell_new' {w : World} {n : Nat} (hn : w.heap.size = n) (cs : Array Value) (t : TypeId) (j : Nat) : (w.alloc (.cells cs t)).cell? ⟨n, j, none⟩ = cs[j]? := by subst hn; exact cell_new w cs t j
theorem cell_newL {w : World} {n : Nat} (hn : w.heap.size = n) (l : List Value) (t : TypeId) (j : Nat) : (w.alloc (.cells l.toArray t)).cell? ⟨n, j, none⟩ = l[j]? := by rw [cell_new' hn]; simp
theorem cell_below {B : Nat} {w w' : World} (hb : Below B w w') {b o : Nat} {v : Value} (h : w.cell? ⟨b, o, none⟩ = some v) (hB : w.heap.size ≤ B := by omega) : w'.cell? ⟨b, o, none⟩ = some v :=
  (hb.cell (p := ⟨b, o, none⟩) (Nat.lt_of_lt_of_le (block_lt_of_cell h) hB)).trans h
theorem cell_alloc {w : World} {b o : Nat} {v : Value} (h : w.cell? ⟨b, o, none⟩ = some v) (x : Obj) : (w.alloc x).cell? ⟨b, o, none⟩ = some v := cell_below ((Below.refl _ w).alloc (Nat.le_refl _) x) h
theorem below_drew {B : Nat} {w w' : World} (h : Below B w w') : Below B w w'.drew := h.trans ⟨rfl, rfl, rfl, Nat.le_refl _, fun _ _ => rfl⟩
section
variable {α : Type} {enc : α → List Value} {k : Nat}
theorem flat_get (hk : ∀ x, (enc x).length = k) : ∀ (A : List α) (i j : Nat), j < k → (A.flatMap enc)[i * k + j]? = (A[i]?).bind fun x => (enc x)[j]?
  | [], i, j, hj => by simp
  | x :: A, 0, j, hj => by
    rw [List.flatMap_cons, Nat.zero_mul, Nat.zero_add, List.getElem?_append_left (by rw [hk]; exact hj)]; rfl
  | x :: A, i + 1, j, hj => by
    rw [List.flatMap_cons, List.getElem?_append_right (by rw [hk, Nat.add_mul]; omega), hk, show (i + 1) * k + j - k = i * k + j by rw [Nat.add_mul]; omega, flat_get hk A i j hj]; rfl
/-- The places of a slice hold these elements. -/
def Row (enc : α → List Value) (k : Nat) (w : World) (ao : Option Addr) (A : List α) : Prop :=
  ∀ i (hi : i < A.length), ∃ b o, ao = some ⟨b, o, none⟩ ∧ b < w.heap.size ∧ ∀ j, j < k → w.cell? ⟨b, o + i * k + j, none⟩ = (enc A[i])[j]?
theorem Row.nil (w : World) (ao : Option Addr) : Row enc k w ao [] := fun i hi => absurd hi (by simp)
theorem Row.below {B : Nat} {w w' : World} {ao : Option Addr} {A : List α} (h : Row enc k w ao A) (hb : Below B w w') (hB : ∀ ad, ao = some ad → 0 < A.length → ad.block < B) : Row enc k w' ao A := by
  intro i hi
  obtain ⟨b, o, h1, h2, h3⟩ := h i hi
  have hB' : b < B := hB _ h1 (by omega)
  exact ⟨b, o, h1, Nat.lt_of_lt_of_le h2 hb.size, fun j hj => by rw [hb.cell hB']; exact h3 j hj⟩
theorem Row.lt {w : World} {ao : Option Addr} {A : List α} (h : Row enc k w ao A) : ∀ ad, ao = some ad → 0 < A.length → ad.block < w.heap.size := by
  intro ad e h0
  obtain ⟨b, o, e', hb, _⟩ := h 0 h0
  rw [e] at e'; cases e'; exact hb
theorem Row.below' {w w' : World} {ao : Option Addr} {A : List α} (h : Row enc k w ao A) (hb : Below w.heap.size w w') : Row enc k w' ao A := h.below hb h.lt
theorem row_alloc {w : World} {ao : Option Addr} {A : List α} (h : Row enc k w ao A) (o : Obj) : Row enc k (w.alloc o) ao A := h.below' ((Below.refl _ w).alloc (Nat.le_refl _) o)
/-- A row of a call's own holds its elements. -/
theorem own_row (hk : ∀ x, (enc x).length = k) {w : World} {base : Nat} {e : TypeId} {v : Value} {A : List α} (h : w.ownsRow base e k v A.length (A.flatMap enc)) :
    ∃ ao cap, v = .slice ao A.length cap ∧ Row enc k w ao A := by
  rcases h.2 with ⟨rfl, h0⟩ | ⟨g, cap, cur, rfl, hb, hg, h1, h2, h3, h4⟩
  · refine ⟨none, 0, by rw [h0], ?_⟩
    have : A = [] := List.eq_nil_of_length_eq_zero h0
    subst this; exact Row.nil _ _
  · refine ⟨_, cap, rfl, fun i hi => ⟨g, 0, rfl, lt_whole hg, fun j hj => ?_⟩⟩
    have hlt : i * k + j < A.length * k := by
      have : (i + 1) * k ≤ A.length * k := Nat.mul_le_mul_right _ hi
      rw [Nat.add_mul] at this; omega
    rw [cell_whole hg, Nat.zero_add, ← Array.getElem?_toList]
    have e1 : (cur.toList.take (A.length * k))[i * k + j]? = cur.toList[i * k + j]? := List.getElem?_take_of_lt hlt
    rw [← e1, h4, flat_get hk A i j hj, List.getElem?_eq_getElem hi]; rfl
/-- One element is appended to a row of the call's own. -/
theorem wpList_append_row {t e : TypeId} {bytes : Nat} {z : Value} (ht : Try.prog.underlying t = some (.slice e)) (hinfo : (Try.prog.info? e).map (fun i => (i.zero, i.size, i.bytes)) = some (some z, k, bytes)) (hzs : z.cells.size = k) (hk0 : 0 < k) (hby : bytes ≤ 64)
    (hk : ∀ x, (enc x).length = k)
    {w : World} {ops : Array Oper} {rest : List Oper} {o : Oper} {a : Act} {Q : Exit → Act → World → Prop} (hgd : o.guard = none) (s y : Operand)
    (ho : o.op = .call { callee := .builtin .append, args := #[s, y], argTypes := #[t, t] })
    (base : Nat) (v : Value) (A : List α) (x : α) (hone : ∀ u ∈ enc x, u.oneCell' = true) (hs : a.eval s = v) (hown : w.ownsRow base e k v A.length (A.flatMap enc))
    (gs : Nat) (c : Nat) (hx : a.eval y = .slice (some ⟨gs, 0, none⟩) 1 c) (hc : ∀ j, j < k → w.cell? ⟨gs, j, none⟩ = (enc x)[j]?)
    (hroom : A.length ≤ 200000) (hbase : base ≤ w.heap.size)
    (hK : ∀ g cap w', w'.ownsRow base e k (.slice (some ⟨g, 0, none⟩) (A.length + 1) cap) (A ++ [x]).length ((A ++ [x]).flatMap enc) → w.grownBy w' v.ownBlock → (v.ownBlock = some g ∨ g = w.heap.size) → base ≤ g → g < w'.heap.size → wpList Try.prog ops Q rest (a.put o.dst (.slice (some ⟨g, 0, none⟩) (A.length + 1) cap)) w') : wpList Try.prog ops Q (o :: rest) a w := by
  obtain ⟨i0, hi, hz0, hz1, hz2⟩ := info_parts hinfo
  refine wpList_append_own_at w hgd s y t ho base e i0 _ k bytes ht hi hz0 hz1 hz2 hzs hk0 v A.length (A.flatMap enc) hs hown ⟨gs, 0, none⟩ 1 c (enc x) hx (by rw [hk, Nat.one_mul]) ?_ hone (by unfold maxLen; omega) ?_ hbase ?_
  · intro j u hj
    rw [Addr.add_lit, Nat.zero_add]
    have hjk : j < k := by rw [← hk x]; exact (List.getElem?_eq_some_iff.1 hj).1
    rw [hc j hjk]; exact hj
  · have : (A.length + 1) * bytes ≤ 200001 * 64 := Nat.mul_le_mul (by omega) hby
    omega
  · intro v' w' h1 h2 h3 h4
    have e1 : A.flatMap enc ++ enc x = (A ++ [x]).flatMap enc := by simp
    rw [e1] at h1
    have h1' : w'.ownsRow base e k v' (A ++ [x]).length ((A ++ [x]).flatMap enc) := by rw [List.length_append]; exact h1
    rcases h1.2 with ⟨_, h0⟩ | ⟨g, cap, cur, rfl, hb, hg, _⟩
    · omega
    · refine hK g cap w' h1' h2 ?_ hb (lt_whole hg)
      rcases h4 with h4 | h4
      · exact .inl (by rw [← h4]; rfl)
      · right; simpa [Value.ownBlock] using h4
end
/-- The places of a slice hold these elements, one cell each. -/
def Lst {α : Type} (enc : α → Value) (w : World) (ao : Option Addr) (A : List α) : Prop :=
  ∀ i (hi : i < A.length), ∃ b o, ao = some ⟨b, o, none⟩ ∧ b < w.heap.size ∧ w.cell? ⟨b, o + i, none⟩ = some (enc A[i])
theorem Lst.nil {α : Type} {enc : α → Value} (w : World) (ao : Option Addr) : Lst enc w ao [] := fun i hi => absurd hi (by simp)
theorem Lst.below {α : Type} {enc : α → Value} {w w' : World} {ao : Option Addr} {A : List α} (h : Lst enc w ao A) (hb : Below w.heap.size w w') : Lst enc w' ao A := by
  intro i hi
  obtain ⟨b, o, h1, h2, h3⟩ := h i hi
  exact ⟨b, o, h1, Nat.lt_of_lt_of_le h2 hb.size, (hb.cell (p := ⟨b, o + i, none⟩) h2).trans h3⟩
theorem own_lst {α : Type} {enc : α → Value} {w : World} {base : Nat} {e : TypeId} {v : Value} {A : List α} (h : w.ownsRow base e 1 v A.length (A.map enc)) : ∃ ao cap, v = .slice ao A.length cap ∧ Lst enc w ao A := by
  rcases h.2 with ⟨rfl, h0⟩ | ⟨g, cap, cur, rfl, hb, hg, h1, h2, h3, h4⟩
  · refine ⟨none, 0, by rw [h0], ?_⟩
    have : A = [] := List.eq_nil_of_length_eq_zero h0
    subst this; exact Lst.nil _ _
  · refine ⟨_, cap, rfl, fun i hi => ⟨g, 0, rfl, (Array.getElem?_eq_some_iff.1 hg).1, ?_⟩⟩
    have := h.cells (g := g) rfl i (enc A[i]) (by simp [hi])
    rw [Addr.add_lit, Nat.zero_add] at this
    rw [Nat.zero_add]; exact this
def encI (z : Int) : Value := .int .i64 z
def In64 (Z : List Int) : Prop := ∀ z ∈ Z, -9223372036854775808 ≤ z ∧ z ≤ 9223372036854775807
theorem In64.at {Z : List Int} (h : In64 Z) {i : Nat} (hi : i < Z.length) : -9223372036854775808 ≤ Z[i] ∧ Z[i] ≤ 9223372036854775807 := h _ (List.getElem_mem hi)
theorem own_mono {W : World} {a b : Nat} {e : TypeId} {k : Nat} {v : Value} {n : Nat} {xs : List Value} (h : W.ownsRow b e k v n xs) (hab : a ≤ b) : W.ownsRow a e k v n xs := by
  refine ⟨h.1, ?_⟩
  rcases h.2 with h | ⟨g, cap, cur, h1, h2, h3⟩
  · exact .inl h
  · exact .inr ⟨g, cap, cur, h1, Nat.le_trans hab h2, h3⟩
theorem own_block {W : World} {a g : Nat} {e : TypeId} {k : Nat} {v : Value} {n : Nat} {xs : List Value} (h : W.ownsRow a e k v n xs) (hg : v.ownBlock = some g) : a ≤ g := by
  rcases h.2 with ⟨rfl, _⟩ | ⟨g', cap, cur, rfl, h2, _⟩
  · simp [Value.ownBlock] at hg
  · simp [Value.ownBlock] at hg; omega
theorem infoInt : (Try.prog.info? 3).map (fun i => (i.zero, i.size, i.bytes)) = some (some (.int .i64 0), 1, 8) := by kernel_rfl
theorem own_below {w w' : World} {base : Nat} {e : TypeId} {k : Nat} {v : Value} {n : Nat} {xs : List Value} (h : w.ownsRow base e k v n xs) (hb : Below w.heap.size w w') : w'.ownsRow base e k v n xs := by
  refine ⟨h.1, ?_⟩
  rcases h.2 with h | ⟨g, cap, cur, h1, h2, h3, h4⟩
  · exact .inl h
  · exact .inr ⟨g, cap, cur, h1, h2, (hb.block g (Array.getElem?_eq_some_iff.1 h3).1).trans h3, h4⟩
theorem below_drewN {B : Nat} {w w' : World} (h : Below B w w') (n : Nat) : Below B w (w'.drewN n) := h.trans ⟨rfl, rfl, rfl, Nat.le_refl _, fun _ _ => rfl⟩
theorem vi {a b : Int} (h : a = b) : Value.int .i64 a = .int .i64 b := by rw [h]
theorem lst_cell {α : Type} {enc : α → Value} {w : World} {ao : Option Addr} {A : List α} (h : Lst enc w ao A) {i : Nat} {x : α} (hx : A[i]? = some x) : ∃ b o, ao = some ⟨b, o, none⟩ ∧ b < w.heap.size ∧ w.cell? ⟨b, o + i, none⟩ = some (enc x) := by
  obtain ⟨hi, e⟩ := List.getElem?_eq_some_iff.1 hx
  obtain ⟨b, o, h1, h2, h3⟩ := h i hi
  exact ⟨b, o, h1, h2, by rw [h3, e]⟩
theorem cell_below' {B : Nat} {w w' : World} (hb : Below B w w') {b o : Nat} {v : Value} (h : w.cell? ⟨b, o, none⟩ = some v) (hlt : b < B) : w'.cell? ⟨b, o, none⟩ = some v := (hb.cell (p := ⟨b, o, none⟩) hlt).trans h
theorem own_lst2 {α : Type} {enc : α → Value} {w : World} {base : Nat} {e : TypeId} {v : Value} {A : List α} (h : w.ownsRow base e 1 v A.length (A.map enc)) : ∃ ao cap, v = .slice ao A.length cap ∧ A.length ≤ cap ∧ Lst enc w ao A ∧ (∀ ad, ao = some ad → base ≤ ad.block) := by
  obtain ⟨ao, cap, rfl, hl⟩ := own_lst h
  refine ⟨ao, cap, rfl, ?_, hl, ?_⟩
  · rcases h.2 with ⟨e1, h0⟩ | ⟨g, cap', cur, e1, hb, hg, h1, h2, h3, h4⟩
    · omega
    · cases e1; exact h1
  · intro ad hd
    subst hd
    rcases h.2 with ⟨e1, h0⟩ | ⟨g, cap', cur, e1, hb, hg, h1, h2, h3, h4⟩
    · cases e1
    · cases e1; exact hb
/-- A row of arcs does not lie where another variable lies. -/
theorem own_ne {w : World} {B g : Nat} {e t : TypeId} {k : Nat} {v : Value} {n : Nat} {xs : List Value} {cs : Array Value} (h : w.ownsRow B e k v n xs) (hg : w.heap[g]? = some (.cells cs t (0, 0))) (hne : t ≠ e) : v.ownBlock ≠ some g := by
  rcases h.2 with ⟨rfl, _⟩ | ⟨g', cap, cur, rfl, h2, h3, _⟩
  · simp [Value.ownBlock]
  · intro he
    simp only [Value.ownBlock, Option.some.injEq] at he
    subst he
    rw [h3] at hg
    cases hg
    exact hne rfl
theorem own_set {w : World} {B g : Nat} {e t : TypeId} {k : Nat} {v : Value} {n : Nat} {xs : List Value} {cs : Array Value} (h : w.ownsRow B e k v n xs) (hg : w.heap[g]? = some (.cells cs t (0, 0))) (hne : t ≠ e) (j : Nat) (u : Value) : (w.setCell ⟨g, j, none⟩ u).ownsRow B e k v n xs := by
  have h0 := own_ne h hg hne
  refine ⟨h.1, ?_⟩
  rcases h.2 with h1 | ⟨g', cap, cur, rfl, h2, h3, h4⟩
  · exact .inl h1
  · refine .inr ⟨g', cap, cur, rfl, h2, ?_, h4⟩
    rw [Below.heap_setCell w ⟨g, j, none⟩ u g' (by intro he; apply h0; simp [Value.ownBlock]; exact he)]
    exact h3
theorem own_net {w : World} {B g : Nat} {e t : TypeId} {k : Nat} {v : Value} {n : Nat} {xs : List Value} {a b c : Value} (h : w.ownsRow B e k v n xs) (hg : w.heap[g]? = some (.cells #[a, b, c] t (0, 0))) (hne : t ≠ e) (x y z : Value) :
    (((w.setCell ⟨g, 0, none⟩ x).setCell ⟨g, 1, none⟩ y).setCell ⟨g, 2, none⟩ z).ownsRow B e k v n xs :=
  own_set (own_set (own_set h hg hne 0 x) (set_whole hg 0 x) hne 1 y) (set_whole (set_whole hg 0 x) 1 y) hne 2 z
theorem net_other {w : World} {g g' : Nat} {o : Option Obj} (h : w.heap[g']? = o) (hne : g' ≠ g) (x y z : Value) : (((w.setCell ⟨g, 0, none⟩ x).setCell ⟨g, 1, none⟩ y).setCell ⟨g, 2, none⟩ z).heap[g']? = o := by
  rw [Below.heap_setCell _ _ _ g' hne, Below.heap_setCell _ _ _ g' hne, Below.heap_setCell _ _ _ g' hne]; exact h
theorem Kept.net {S : Nat → Prop} {a b : World} (h : Kept S a b) {g : Nat} (hp : S g ∨ a.heap.size ≤ g) (x y z : Value) : Kept S a (((b.setCell ⟨g, 0, none⟩ x).setCell ⟨g, 1, none⟩ y).setCell ⟨g, 2, none⟩ z) := ((h.set hp x).set hp y).set hp z
theorem net_set {w : World} {g : Nat} {a b c : Value} {t : TypeId} (h : w.heap[g]? = some (.cells #[a, b, c] t (0, 0))) (x y z : Value) :
    (((w.setCell ⟨g, 0, none⟩ x).setCell ⟨g, 1, none⟩ y).setCell ⟨g, 2, none⟩ z).heap[g]? = some (.cells #[x, y, z] t (0, 0)) := set_whole (set_whole (set_whole h 0 x) 1 y) 2 z
/-- The block of a slice's row. -/
def OwnB (v : Value) (i : Nat) : Prop := v.ownBlock = some i
theorem cell_of_block {w w' : World} {b o : Nat} (h : w'.heap[b]? = w.heap[b]?) : w'.cell? ⟨b, o, none⟩ = w.cell? ⟨b, o, none⟩ := by unfold World.cell?; simp only [h]
theorem below_undrew {w w' : World} (h : Below w.drew.heap.size w.drew w') : Below w.heap.size w w' := ⟨h.os, h.tape, h.output, h.size, h.block⟩
theorem own_grown {w w' : World} {B : Nat} {e : TypeId} {k : Nat} {v : Value} {n : Nat} {xs : List Value} {row : Option Nat} (h : w.ownsRow B e k v n xs) (hg : w.grownBy w' row) (hne : ∀ g, row = some g → g < B) : w'.ownsRow B e k v n xs := by
  refine ⟨h.1, ?_⟩
  rcases h.2 with h1 | ⟨g', cap, cur, rfl, h2, h3, h4⟩
  · exact .inl h1
  · exact .inr ⟨g', cap, cur, rfl, h2, (hg.block g' (lt_whole h3) (fun e => by have := hne g' e.symm; omega)).trans h3, h4⟩
theorem own_lt {w : World} {B g : Nat} {e : TypeId} {k : Nat} {v : Value} {n : Nat} {xs : List Value} (h : w.ownsRow B e k v n xs) (hg : v.ownBlock = some g) : g < w.heap.size := by
  rcases h.2 with ⟨rfl, _⟩ | ⟨g', cap, cur, rfl, h2, h3, _⟩
  · simp [Value.ownBlock] at hg
  · simp only [Value.ownBlock, Option.some.injEq] at hg; subst hg; exact lt_whole h3
theorem own_rowK {α : Type} {enc : α → List Value} {k : Nat} (hk : ∀ x, (enc x).length = k) {w : World} {base : Nat} {e : TypeId} {ao : Option Addr} {len cap : Nat} {A : List α} (h : w.ownsRow base e k (.slice ao len cap) A.length (A.flatMap enc)) : Row enc k w ao A := by
  obtain ⟨ao', cap', e', hr⟩ := own_row hk h
  injection e' with h1 h2 h3
  subst h1
  exact hr
/-- Four numbers are appended to none. -/
theorem wpList_append4 {w : World} {ops : Array Oper} {rest : List Oper} {o : Oper} {a : Act} {Q : Exit → Act → World → Prop} (hgd : o.guard = none) (s y : Operand)
    (ho : o.op = .call { callee := .builtin .append, args := #[s, y], argTypes := #[25, 25] }) (hs : a.eval s = .slice none 0 0) (gs c : Nat) (hx : a.eval y = .slice (some ⟨gs, 0, none⟩) 4 c) (x1 x2 x3 x4 : Int)
    (hc : ∀ j, j < 4 → w.cell? ⟨gs, j, none⟩ = ([x1, x2, x3, x4].map encI)[j]?)
    (hK : ∀ ao cap w', Lst encI w' ao [x1, x2, x3, x4] → Below w.heap.size w w' → wpList Try.prog ops Q rest (a.put o.dst (.slice ao 4 cap)) w') : wpList Try.prog ops Q (o :: rest) a w := by
  obtain ⟨i0, hi, hz0, hz1, hz2⟩ := info_parts infoInt
  refine wpList_append_own w hgd s y 25 ho w.heap.size 3 i0 (.int .i64 0) 1 8 Try.underlying25 hi hz0 hz1 hz2 rfl (by decide) _ 0 [] hs (World.ownsRow_nil _ _ _ _) ⟨gs, 0, none⟩ 4 c ([x1, x2, x3, x4].map encI) hx rfl ?_ ?_ (by unfold maxLen; omega) (by omega) (Nat.le_refl _) ?_
  · intro j u hj
    rw [Addr.add_lit, Nat.zero_add]
    have hjk : j < 4 := (List.getElem?_eq_some_iff.1 hj).1
    rw [hc j hjk]; exact hj
  · intro u hu
    simp [encI] at hu
    rcases hu with rfl | rfl | rfl | rfl <;> rfl
  · intro v' w' h1 h2 h3
    rw [List.nil_append] at h1
    have h1' : w'.ownsRow w.heap.size 3 1 v' [x1, x2, x3, x4].length ([x1, x2, x3, x4].map encI) := h1
    obtain ⟨ao, cap, rfl, hl⟩ := own_lst h1'
    exact hK ao cap w' hl ((Below.refl _ w).grown h2 (Nat.le_refl _) (fun j hj => by simp [Value.ownBlock] at hj))
theorem cells4 (w : World) (t : TypeId) (g : Nat) (hg : w.heap.size = g) (x y u v : Int) : ∀ j, j < 4 → (w.alloc (.cells #[.int .i64 x, .int .i64 y, .int .i64 u, .int .i64 v] t)).cell? ⟨g, j, none⟩ = ([x, y, u, v].map encI)[j]? := by
  intro j hj
  rw [cell_new' hg]
  match j, hj with
  | 0, _ => rfl
  | 1, _ => rfl
  | 2, _ => rfl
  | 3, _ => rfl
/-- Four numbers in a block that has just been made. -/
theorem lst4 (w : World) (t : TypeId) (g : Nat) (hg : w.heap.size = g) (x y u v : Int) : Lst encI (w.alloc (.cells #[.int .i64 x, .int .i64 y, .int .i64 u, .int .i64 v] t)) (some ⟨g, 0, none⟩) [x, y, u, v] := by
  intro i hi
  refine ⟨g, 0, rfl, by simp; omega, ?_⟩
  rw [Nat.zero_add, cell_new' hg]
  match i, hi with
  | 0, _ => rfl
  | 1, _ => rfl
  | 2, _ => rfl
  | 3, _ => rfl
/-- A network's cells are written into its variable. -/
theorem netSet {w0 w : World} {B g : Nat} {a b c : Value} {t : TypeId} (h : w.heap[g]? = some (.cells #[a, b, c] t (0, 0))) (hb : Below B w0 w) (hg : B ≤ g) (x y z : Value) :
    (((w.setCell ⟨g, 0, none⟩ x).setCell ⟨g, 1, none⟩ y).setCell ⟨g, 2, none⟩ z).heap[g]? = some (.cells #[x, y, z] t (0, 0)) ∧ Below B w0 (((w.setCell ⟨g, 0, none⟩ x).setCell ⟨g, 1, none⟩ y).setCell ⟨g, 2, none⟩ z) :=
  ⟨set_whole (set_whole (set_whole h 0 x) 1 y) 2 z, ((hb.setCell (p := ⟨g, 0, none⟩) hg x).setCell (p := ⟨g, 1, none⟩) hg y).setCell (p := ⟨g, 2, none⟩) hg z⟩
theorem netCells {w : World} {g : Nat} {x y z : Value} {t : TypeId} (h : w.heap[g]? = some (.cells #[x, y, z] t (0, 0))) : w.cell? ⟨g, 0, none⟩ = some x ∧ w.cell? ⟨g, 1, none⟩ = some y ∧ w.cell? ⟨g, 2, none⟩ = some z ∧ w.frozen? ⟨g, 0, none⟩ = false ∧ w.frozen? ⟨g, 1, none⟩ = false ∧ w.frozen? ⟨g, 2, none⟩ = false :=
  ⟨cell_whole h 0, cell_whole h 1, cell_whole h 2, frozen_whole h 0, frozen_whole h 1, frozen_whole h 2⟩
end Go.Proofs.Ytiefphkfddecbaa
