/- Rows of arcs: where each lies; appending to a row of a call's own; when two arcs are alike; which blocks a call may turn. -/
import Derived.Test.YtbciplfncnangaaDoorNSpec
import Derived.Laws.StructEq
import Derived.Deep.Draws
namespace Go.Proofs.YtbciplfncnangaaDoor
open Go.RowKit Go.Shelf
set_option linter.unusedVariables false

/-! Blocks -/
theorem cell_whole {w : World} {b : Nat} {cs : Array Value} {t : TypeId} (h : w.heap[b]? = some (.cells cs t (0, 0))) (j : Nat) : w.cell? ⟨b, j, none⟩ = cs[j]? := cell_of_row w b j cs t (0, 0) h
theorem frozen_whole {w : World} {b : Nat} {cs : Array Value} {t : TypeId} (h : w.heap[b]? = some (.cells cs t (0, 0))) (j : Nat) : w.frozen? ⟨b, j, none⟩ = false := frozen_of_row w b j cs t h
theorem set_whole {w : World} {b : Nat} {cs : Array Value} {t : TypeId} (h : w.heap[b]? = some (.cells cs t (0, 0))) (j : Nat) (u : Value) : (w.setCell ⟨b, j, none⟩ u).heap[b]? = some (.cells (cs.setIfInBounds j u) t (0, 0)) := heap_setCell_same w b j cs t u h
theorem lt_whole {w : World} {g : Nat} {o : Obj} (h : w.heap[g]? = some o) : g < w.heap.size := (Array.getElem?_eq_some_iff.1 h).1
theorem cell_new (w : World) (cs : Array Value) (t : TypeId) (j : Nat) : (w.alloc (.cells cs t)).cell? ⟨w.heap.size, j, none⟩ = cs[j]? := cell_whole (heap_alloc_new _ _) j
theorem cell_new' {w : World} {n : Nat} (hn : w.heap.size = n) (cs : Array Value) (t : TypeId) (j : Nat) : (w.alloc (.cells cs t)).cell? ⟨n, j, none⟩ = cs[j]? := by subst hn; exact cell_new w cs t j
theorem cell_newL {w : World} {n : Nat} (hn : w.heap.size = n) (l : List Value) (t : TypeId) (j : Nat) : (w.alloc (.cells l.toArray t)).cell? ⟨n, j, none⟩ = l[j]? := by rw [cell_new' hn]; simp
theorem ret_int {k : IntKind} {a b : Int} (h : a = b) : Ending.returned (.int k a) = .returned (.int k b) := by rw [h]
theorem ret_bool {a b : Bool} (h : a = b) : Ending.returned (.bool a) = .returned (.bool b) := by rw [h]
theorem cell_drew {w w2 : World} {n : Nat} (h : w2 = w.drewN n) {a : Addr} {v : Value} (c : w.cell? a = some v) : w2.cell? a = some v := by subst h; exact c
theorem cell_below {B : Nat} {w w' : World} (hb : Below B w w') {b o : Nat} {v : Value} (h : w.cell? ⟨b, o, none⟩ = some v) (hB : w.heap.size ≤ B := by omega) : w'.cell? ⟨b, o, none⟩ = some v :=
  (hb.cell (p := ⟨b, o, none⟩) (Nat.lt_of_lt_of_le (block_lt_of_cell h) hB)).trans h
theorem cell_alloc {w : World} {b o : Nat} {v : Value} (h : w.cell? ⟨b, o, none⟩ = some v) (x : Obj) : (w.alloc x).cell? ⟨b, o, none⟩ = some v := cell_below ((Below.refl _ w).alloc (Nat.le_refl _) x) h
theorem below_drew {B : Nat} {w w' : World} (h : Below B w w') : Below B w w'.drew := h.trans ⟨rfl, rfl, rfl, Nat.le_refl _, fun _ _ => rfl⟩

/-! Rows of elements of so many cells each -/
section
variable {α : Type} {enc : α → List Value} {k : Nat}
theorem flat_get (hk : ∀ x, (enc x).length = k) : ∀ (A : List α) (i j : Nat), j < k → (A.flatMap enc)[i * k + j]? = (A[i]?).bind fun x => (enc x)[j]?
  | [], i, j, hj => by simp
  | x :: A, 0, j, hj => by
    rw [List.flatMap_cons, Nat.zero_mul, Nat.zero_add, List.getElem?_append_left (by rw [hk]; exact hj)]; rfl
  | x :: A, i + 1, j, hj => by
    rw [List.flatMap_cons, List.getElem?_append_right (by rw [hk, Nat.add_mul]; omega), hk, show (i + 1) * k + j - k = i * k + j by rw [Nat.add_mul]; omega, flat_get hk A i j hj]; rfl
/-- The places of a slice hold these elements. -/
def Row (enc : α → List Value) (k : Nat) (w : World) (ao : Option Addr) (A : List α) : Prop :=
  ∀ i (hi : i < A.length), ∃ b o, ao = some ⟨b, o, none⟩ ∧ b < w.heap.size ∧ ∀ j, j < k → w.cell? ⟨b, o + i * k + j, none⟩ = (enc A[i])[j]?
theorem Row.nil (w : World) (ao : Option Addr) : Row enc k w ao [] := fun i hi => absurd hi (by simp)
theorem Row.below {B : Nat} {w w' : World} {ao : Option Addr} {A : List α} (h : Row enc k w ao A) (hb : Below B w w') (hB : ∀ ad, ao = some ad → 0 < A.length → ad.block < B) : Row enc k w' ao A := by
  intro i hi
  obtain ⟨b, o, h1, h2, h3⟩ := h i hi
  have hB' : b < B := hB _ h1 (by omega)
  exact ⟨b, o, h1, Nat.lt_of_lt_of_le h2 hb.size, fun j hj => by rw [hb.cell hB']; exact h3 j hj⟩
theorem Row.lt {w : World} {ao : Option Addr} {A : List α} (h : Row enc k w ao A) : ∀ ad, ao = some ad → 0 < A.length → ad.block < w.heap.size := by
  intro ad e h0
  obtain ⟨b, o, e', hb, _⟩ := h 0 h0
  rw [e] at e'; cases e'; exact hb
theorem Row.below' {w w' : World} {ao : Option Addr} {A : List α} (h : Row enc k w ao A) (hb : Below w.heap.size w w') : Row enc k w' ao A := h.below hb h.lt
theorem row_alloc {w : World} {ao : Option Addr} {A : List α} (h : Row enc k w ao A) (o : Obj) : Row enc k (w.alloc o) ao A := h.below' ((Below.refl _ w).alloc (Nat.le_refl _) o)
/-- A row of a call's own holds its elements. -/
theorem own_row (hk : ∀ x, (enc x).length = k) {w : World} {base : Nat} {e : TypeId} {v : Value} {A : List α} (h : w.ownsRow base e k v A.length (A.flatMap enc)) :
    ∃ ao cap, v = .slice ao A.length cap ∧ Row enc k w ao A := by
  rcases h.2 with ⟨rfl, h0⟩ | ⟨g, cap, cur, rfl, hb, hg, h1, h2, h3, h4⟩
  · refine ⟨none, 0, by rw [h0], ?_⟩
    have : A = [] := List.eq_nil_of_length_eq_zero h0
    subst this; exact Row.nil _ _
  · refine ⟨_, cap, rfl, fun i hi => ⟨g, 0, rfl, lt_whole hg, fun j hj => ?_⟩⟩
    have hlt : i * k + j < A.length * k := by
      have : (i + 1) * k ≤ A.length * k := Nat.mul_le_mul_right _ hi
      rw [Nat.add_mul] at this; omega
    rw [cell_whole hg, Nat.zero_add, ← Array.getElem?_toList]
    have e1 : (cur.toList.take (A.length * k))[i * k + j]? = cur.toList[i * k + j]? := List.getElem?_take_of_lt hlt
    rw [← e1, h4, flat_get hk A i j hj, List.getElem?_eq_getElem hi]; rfl
/-- One element is appended to a row of the call's own. -/
theorem wpList_append_row {t e : TypeId} {bytes : Nat} {z : Value} (ht : Tryd.prog.underlying t = some (.slice e)) (hinfo : (Tryd.prog.info? e).map (fun i => (i.zero, i.size, i.bytes)) = some (some z, k, bytes)) (hzs : z.cells.size = k) (hk0 : 0 < k) (hby : bytes ≤ 64)
    (hk : ∀ x, (enc x).length = k)
    {w : World} {ops : Array Oper} {rest : List Oper} {o : Oper} {a : Act} {Q : Exit → Act → World → Prop} (hgd : o.guard = none) (s y : Operand)
    (ho : o.op = .call { callee := .builtin .append, args := #[s, y], argTypes := #[t, t] })
    (base : Nat) (v : Value) (A : List α) (x : α) (hone : ∀ u ∈ enc x, u.oneCell' = true) (hs : a.eval s = v) (hown : w.ownsRow base e k v A.length (A.flatMap enc))
    (gs : Nat) (c : Nat) (hx : a.eval y = .slice (some ⟨gs, 0, none⟩) 1 c) (hc : ∀ j, j < k → w.cell? ⟨gs, j, none⟩ = (enc x)[j]?)
    (hroom : A.length ≤ 200000) (hbase : base ≤ w.heap.size)
    (hK : ∀ g cap w', w'.ownsRow base e k (.slice (some ⟨g, 0, none⟩) (A.length + 1) cap) (A ++ [x]).length ((A ++ [x]).flatMap enc) → w.grownBy w' v.ownBlock → (v.ownBlock = some g ∨ g = w.heap.size) → base ≤ g → g < w'.heap.size → wpList Tryd.prog ops Q rest (a.put o.dst (.slice (some ⟨g, 0, none⟩) (A.length + 1) cap)) w') : wpList Tryd.prog ops Q (o :: rest) a w := by
  obtain ⟨i0, hi, hz0, hz1, hz2⟩ := info_parts hinfo
  refine wpList_append_own_at w hgd s y t ho base e i0 _ k bytes ht hi hz0 hz1 hz2 hzs hk0 v A.length (A.flatMap enc) hs hown ⟨gs, 0, none⟩ 1 c (enc x) hx (by rw [hk, Nat.one_mul]) ?_ hone (by unfold maxLen; omega) ?_ hbase ?_
  · intro j u hj
    rw [Addr.add_lit, Nat.zero_add]
    have hjk : j < k := by rw [← hk x]; exact (List.getElem?_eq_some_iff.1 hj).1
    rw [hc j hjk]; exact hj
  · have : (A.length + 1) * bytes ≤ 200001 * 64 := Nat.mul_le_mul (by omega) hby
    omega
  · intro v' w' h1 h2 h3 h4
    have e1 : A.flatMap enc ++ enc x = (A ++ [x]).flatMap enc := by simp
    rw [e1] at h1
    have h1' : w'.ownsRow base e k v' (A ++ [x]).length ((A ++ [x]).flatMap enc) := by rw [List.length_append]; exact h1
    rcases h1.2 with ⟨_, h0⟩ | ⟨g, cap, cur, rfl, hb, hg, _⟩
    · omega
    · refine hK g cap w' h1' h2 ?_ hb (lt_whole hg)
      rcases h4 with h4 | h4
      · exact .inl (by rw [← h4]; rfl)
      · right; simpa [Value.ownBlock] using h4
end
def encA (x : ArcT) : List Value := [.int .i64 x.1, .int .i64 x.2.1, .int .i64 x.2.2.1, .int .i64 x.2.2.2]
theorem encA_len (z : ArcT) : (encA z).length = 4 := rfl
theorem encA_one (z : ArcT) : ∀ u ∈ encA z, u.oneCell' = true := by intro u hu; simp [encA] at hu; rcases hu with rfl | rfl | rfl | rfl <;> rfl
theorem infoArc : (Tryd.prog.info? 37).map (fun i => (i.zero, i.size, i.bytes)) = some (some (.agg #[.int .i64 0, .int .i64 0, .int .i64 0, .int .i64 0]), 4, 32) := by kernel_rfl
theorem Row.arc {w : World} {ao : Option Addr} {Z : List ArcT} (h : Row encA 4 w ao Z) {i : Nat} (hi : i < Z.length) : ∃ b o, ao = some ⟨b, o, none⟩ ∧ b < w.heap.size ∧
    w.cell? ⟨b, o + i * 4, none⟩ = some (.int .i64 Z[i].1) ∧ w.cell? ⟨b, o + i * 4 + 1, none⟩ = some (.int .i64 Z[i].2.1) ∧ w.cell? ⟨b, o + i * 4 + 2, none⟩ = some (.int .i64 Z[i].2.2.1) ∧ w.cell? ⟨b, o + i * 4 + 3, none⟩ = some (.int .i64 Z[i].2.2.2) := by
  obtain ⟨b, o, e, hb, hc⟩ := h i hi
  exact ⟨b, o, e, hb, hc 0 (by omega), hc 1 (by omega), hc 2 (by omega), hc 3 (by omega)⟩
theorem ne_arc (x1 x2 x3 x4 y1 y2 y3 y4 : Int) (w : World) : (binOp .neq 37 (.agg #[.int .i64 x1, .int .i64 x2, .int .i64 x3, .int .i64 x4]) (.agg #[.int .i64 y1, .int .i64 y2, .int .i64 y3, .int .i64 y4])).run Tryd.prog w = .ok (.bool (!(x1 == y1 && x2 == y2 && x3 == y3 && x4 == y4))) w := by
  have u3 := Tryd.underlying3
  have a3 := Tryd.isAgg3
  have z3 := Tryd.sizeOf3
  have hS : Tryd.prog.underlying 37 = some (.struct (Tryd.prog.fieldsOf 37)) := by kernel_rfl
  have hp : Tryd.prog.stoodInHeld 37 = false := by kernel_rfl
  rw [run_neq_struct, show (10000 : Nat) = 9999 + 1 from rfl, run_equalIn_agg w 9999 37 _ _ hS hp]
  simp only [Program.fieldsOf, Tryd.underlying37]
  go_simp
  by_cases h1 : x1 = y1 <;> by_cases h2 : x2 = y2 <;> by_cases h3 : x3 = y3 <;> by_cases h4 : x4 = y4 <;> simp [h1, h2, h3, h4]
/-- A network's cells are written into its variable. -/
theorem netSet {w0 w : World} {B g : Nat} {a b c : Value} {t : TypeId} (h : w.heap[g]? = some (.cells #[a, b, c] t (0, 0))) (hb : Below B w0 w) (hg : B ≤ g) (x y z : Value) :
    (((w.setCell ⟨g, 0, none⟩ x).setCell ⟨g, 1, none⟩ y).setCell ⟨g, 2, none⟩ z).heap[g]? = some (.cells #[x, y, z] t (0, 0)) ∧ Below B w0 (((w.setCell ⟨g, 0, none⟩ x).setCell ⟨g, 1, none⟩ y).setCell ⟨g, 2, none⟩ z) :=
  ⟨set_whole (set_whole (set_whole h 0 x) 1 y) 2 z, ((hb.setCell (p := ⟨g, 0, none⟩) hg x).setCell (p := ⟨g, 1, none⟩) hg y).setCell (p := ⟨g, 2, none⟩) hg z⟩
theorem netCells {w : World} {g : Nat} {x y z : Value} {t : TypeId} (h : w.heap[g]? = some (.cells #[x, y, z] t (0, 0))) : w.cell? ⟨g, 0, none⟩ = some x ∧ w.cell? ⟨g, 1, none⟩ = some y ∧ w.cell? ⟨g, 2, none⟩ = some z ∧ w.frozen? ⟨g, 0, none⟩ = false ∧ w.frozen? ⟨g, 1, none⟩ = false ∧ w.frozen? ⟨g, 2, none⟩ = false :=
  ⟨cell_whole h 0, cell_whole h 1, cell_whole h 2, frozen_whole h 0, frozen_whole h 1, frozen_whole h 2⟩
theorem netBox (w : World) (n : Int) (b : Bool) (v : Value) : (w.alloc (.cells #[.int .i64 n, .bool b, v] 24)).cell? ⟨w.heap.size, 0, none⟩ = some (.int .i64 n) ∧ (w.alloc (.cells #[.int .i64 n, .bool b, v] 24)).cell? ⟨w.heap.size, 1, none⟩ = some (.bool b) ∧ (w.alloc (.cells #[.int .i64 n, .bool b, v] 24)).cell? ⟨w.heap.size, 2, none⟩ = some v :=
  ⟨cell_new w #[.int .i64 n, .bool b, v] 24 0, cell_new w #[.int .i64 n, .bool b, v] 24 1, cell_new w #[.int .i64 n, .bool b, v] 24 2⟩
/-- A network's value: its number of nodes, whether nodes keep, and its arcs' slice. -/
def netV (n : NetT) (v : Value) : Value := .agg #[.int .i64 n.1, .bool n.2.1, v]
end Go.Proofs.YtbciplfncnangaaDoor
