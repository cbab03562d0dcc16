/- Lemmas of the layers below, several texts in one. -/
import Derived.Test.YtmflleifglefiaaBC
import Derived.Laws.StructEq
import Derived.Shelf.SlicesE.Kit
import Derived.OpenShut
import Derived.ChangeSame
import Derived.ProofKit
import Derived.Deep.Slices
import Derived.Deep.Fields
import Derived.Laws.AppendOwnNone
namespace Go.Proofs.Ytmflleifglefiaa
open Go.RowKit Go.Sort
set_option linter.unusedVariables false

def AP (x : Int × Int) : Value := .agg #[.int .i64 x.1, .int .i64 x.2]
theorem eq_pair (x1 x2 y1 y2 : Int) (w : World) : (binOp .eql 137 (.agg #[.int .i64 x1, .int .i64 x2]) (.agg #[.int .i64 y1, .int .i64 y2])).run Try.prog w = .ok (.bool (x1 == y1 && x2 == y2)) w := by
  have u3 := Try.underlying3
  have a3 := Try.isAgg3
  have z3 := Try.sizeOf3
  have hS : Try.prog.underlying 137 = some (.struct (Try.prog.fieldsOf 137)) := by kernel_rfl
  have hp : Try.prog.stoodInHeld 137 = false := by kernel_rfl
  rw [run_eql_struct, show (10000 : Nat) = 9999 + 1 from rfl, run_equalIn_agg w 9999 137 _ _ hS hp]
  simp only [Program.fieldsOf, Try.underlying137]
  go_simp
  by_cases h1 : x1 = y1 <;> by_cases h2 : x2 = y2 <;> simp [h1, h2]
section
variable {w0 w w' : World} {b : Nat} {G : Option Nat} {qb qg : Nat} {L : List (Int × Int)} {l : List Int}
end
theorem ins1 : insP (3, 1) [] = [(3, 1)] := rfl
theorem ins2 : insP (1, 2) [(3, 1)] = [(1, 2), (3, 1)] := by decide
theorem ins3 : insP (1, 1) [(1, 2), (3, 1)] = [(1, 1), (1, 2), (3, 1)] := by decide
end Go.Proofs.Ytmflleifglefiaa

namespace Go.Proofs.Ytmflleifglefiaa
open Go.RowKit Go.WideShapes Go.ChangeShapes
set_option linter.unusedVariables false

/-- The places of a slice hold these numbers. -/
def RI (w : World) (ao : Option Addr) (zs : List Int) : Prop := ∀ i, i < zs.length → ∃ ad, ao = some ad ∧ ad.block < w.heap.size ∧ w.cell? (ad.add i) = some (.int .i64 (zs.getD i 0))
theorem add_block (a : Addr) (n : Nat) : (a.add n).block = a.block := by unfold Addr.add; split <;> rfl
theorem RI.below {w w' : World} {ao : Option Addr} {zs : List Int} (h : RI w ao zs) (hb : RowKit.Below w.heap.size w w') : RI w' ao zs := by
  intro i hi
  obtain ⟨ad, h1, h2, h3⟩ := h i hi
  exact ⟨ad, h1, Nat.lt_of_lt_of_le h2 hb.size, by rw [hb.cell (by rw [add_block]; exact h2)]; exact h3⟩
/-- What stands from place a on, ahead of place i. -/
def seg (Z : List Int) (a i : Nat) : List Int := (Z.take i).drop a
theorem seg_self (Z : List Int) (a : Nat) : seg Z a a = [] := by unfold seg; exact List.drop_eq_nil_of_le (by simp; omega)
theorem seg_len (Z : List Int) {a i : Nat} (h : i ≤ Z.length) : (seg Z a i).length = i - a := by unfold seg; simp; omega
theorem seg_snoc (Z : List Int) {a i : Nat} (ha : a ≤ i) (h : i < Z.length) : seg Z a (i + 1) = seg Z a i ++ [Z.getD i 0] := by
  unfold seg
  rw [List.take_succ_eq_append_getElem h, List.drop_append_of_le_length (by simp; omega), List.getD_eq_getElem?_getD, List.getElem?_eq_getElem h]
  rfl
theorem seg_cons (Z : List Int) {a i : Nat} (ha : a < i) (h : i ≤ Z.length) : seg Z a i = Z.getD a 0 :: seg Z (a + 1) i := by
  unfold seg
  rw [List.drop_eq_getElem_cons (by simp; omega)]
  congr 1
  rw [List.getElem_take, List.getD_eq_getElem?_getD, List.getElem?_eq_getElem (by omega)]
  rfl
theorem wf_i64 {a : Int} (h : (Lit.int .i64 a).wf = true) : -9223372036854775808 ≤ a ∧ a ≤ 9223372036854775807 := by
  simp only [Lit.wf, IntKind.min, IntKind.max, IntKind.signed, IntKind.bits, Bool.and_eq_true, decide_eq_true_eq, if_true] at h
  omega
theorem cellsInt : Try.prog.cellsOf 3 = 1 := by kernel_rfl
/-- A list of numbers that came in, nil or not: its numbers, and where they lie. -/
theorem viewI {H : Type} {enc : TypeId × Value → H} {W : World} {fuel : Nat} {a0 : Option Addr} {len cap : Nat} {d : DataW H} {p : List MemPlace}
    (hf : DataW.trod enc Try.prog W 0 (fun _ => true) true fuel 25 (Value.slice a0 len cap).cells.toList = some (d, p)) :
    ∃ Z : List Int, Z.length = len ∧ len ≤ maxLen ∧ RI W a0 Z := by
  rcases open_ints Try.underlying25 Try.underlying3 cellsInt hf with ⟨hcs, hx⟩ | ⟨a, len', cap', zs, hcs, _, hl, hm, hz, hx, hcell, hwz⟩
  · simp [Value.cells] at hcs
    obtain ⟨rfl, rfl, rfl⟩ := hcs
    exact ⟨[], rfl, Nat.zero_le _, fun i hi => absurd hi (by simp)⟩
  · simp [Value.cells] at hcs
    obtain ⟨rfl, rfl, rfl⟩ := hcs
    simp only [if_true] at hz
    refine ⟨zs.take len, by simp; omega, by omega, fun i hi => ?_⟩
    have hi' : i < len := by simp at hi; omega
    have hc := hcell i (by omega)
    have hb := block_lt_of_cell hc
    rw [add_block] at hb
    refine ⟨a, rfl, hb, ?_⟩
    rw [hc]
    simp [List.getD, hi']
end Go.Proofs.Ytmflleifglefiaa

namespace Go.Proofs.Ytmflleifglefiaa
open Go.RowKit Go.WideShapes Go.ChangeShapes Go.Deep
set_option linter.unusedVariables false

section
variable {H : Type} {enc : TypeId × Value → H} {P : Program} {w : World} {base : Nat} {spare : Nat → Bool} {held : Bool}
/-- A slice of structs, all of whose fields are int. -/
theorem open_int_structs {t e : TypeId} {fs : Array Field} {fuel : Nat} {cs : List Value} {x : DataW H × List MemPlace} (ht : P.underlying t = some (.slice e)) (he : P.underlying e = some (.struct fs))
    (hf : ∀ (j : Nat) (f : Field), fs[j]? = some f → f.offset = j ∧ P.cellsOf f.type = 1 ∧ P.underlying f.type = some (.int .i64)) {k : Nat} (hC : P.cellsOf e = k) (hfk : fs.size = k) (h : DataW.trod enc P w base spare held fuel t cs = some x) :
    cs = [.slice none 0 0] ∨ ∃ (a : Addr) (len cap : Nat), cs = [.slice (some a) len cap] ∧ len ≤ maxLen ∧
      ∀ i j : Nat, ∃ z : Int, i < len → j < k → w.cell? (a.add (i * k + j)) = some (.int .i64 z) := by
  subst hfk
  rcases open_slice ht h with ⟨h0, _⟩ | ⟨a, len, cap, m, n, D, Pl, hcs, hb, hl, hm, hmm, hx, hi⟩
  · exact .inl h0
  · refine .inr ⟨a, len, cap, hcs, by omega, fun i j => ?_⟩
    by_cases hij : i < len ∧ j < fs.size
    · have him : i < m := by rw [hmm]; split <;> omega
      obtain ⟨cs', hc, ht'⟩ := hi i him
      rw [hC] at hc
      obtain ⟨ys, n', _, _, hlen, hyl, hg⟩ := DataW.trod_struct he ht'
      obtain ⟨_, hcl, hat⟩ := World.cells?_some hc
      have hfj : fs[j]? = some fs[j] := Array.getElem?_eq_getElem hij.2
      obtain ⟨ho, hk, hu⟩ := hf j _ hfj
      have h1 := hg j _ hfj
      rw [ho, hk] at h1
      have hyj : ys[j]? = some (ys[j]'(by omega)) := List.getElem?_eq_getElem (by omega)
      rw [hyj] at h1
      obtain ⟨z, hz, _, _⟩ := DataW.trod_int hu h1
      refine ⟨z, fun _ _ => ?_⟩
      rw [← Go.Deep.add_add, hat j hij.2]
      have hd : (cs'.drop j).take 1 = [cs'[j]'(by omega)] := by rw [List.drop_eq_getElem_cons (by omega)]; rfl
      rw [hd] at hz
      rw [List.getElem?_eq_getElem (by omega), List.cons.inj hz |>.1]
    · exact ⟨0, fun h1 h2 => absurd ⟨h1, h2⟩ hij⟩
end
/-- The places of a slice of acts hold these numbers. -/
def RA (w : World) (ao : Option Addr) (A : List (Int × Int × Int)) : Prop := ∀ i, i < A.length → ∃ b o, ao = some ⟨b, o, none⟩ ∧ b < w.heap.size ∧
  w.cell? ⟨b, o + i * 3, none⟩ = some (.int .i64 (A.getD i (0, 0, 0)).1) ∧ w.cell? ⟨b, o + i * 3 + 1, none⟩ = some (.int .i64 (A.getD i (0, 0, 0)).2.1) ∧ w.cell? ⟨b, o + i * 3 + 2, none⟩ = some (.int .i64 (A.getD i (0, 0, 0)).2.2)
/-- The places of a slice of pairs hold these pairs. -/
def RP (w : World) (ao : Option Addr) (A : List (Int × Int)) : Prop := ∀ i, i < A.length → ∃ b o, ao = some ⟨b, o, none⟩ ∧ b < w.heap.size ∧
  w.cell? ⟨b, o + i * 2, none⟩ = some (.int .i64 (A.getD i (0, 0)).1) ∧ w.cell? ⟨b, o + i * 2 + 1, none⟩ = some (.int .i64 (A.getD i (0, 0)).2)
theorem RA.below {B : Nat} {w w' : World} {ao : Option Addr} {zs : List (Int × Int × Int)} (h : RA w ao zs) (hb : RowKit.Below B w w') (hB : ∀ ad, ao = some ad → ad.block < B) : RA w' ao zs := by
  intro i hi
  obtain ⟨b, o, h1, h2, h3, h4, h5⟩ := h i hi
  have hB' : b < B := hB _ h1
  exact ⟨b, o, h1, Nat.lt_of_lt_of_le h2 hb.size, by rw [hb.cell hB']; exact h3, by rw [hb.cell hB']; exact h4, by rw [hb.cell hB']; exact h5⟩
theorem RP.below {B : Nat} {w w' : World} {ao : Option Addr} {zs : List (Int × Int)} (h : RP w ao zs) (hb : RowKit.Below B w w') (hB : ∀ ad, ao = some ad → ad.block < B) : RP w' ao zs := by
  intro i hi
  obtain ⟨b, o, h1, h2, h3, h4⟩ := h i hi
  have hB' : b < B := hB _ h1
  exact ⟨b, o, h1, Nat.lt_of_lt_of_le h2 hb.size, by rw [hb.cell hB']; exact h3, by rw [hb.cell hB']; exact h4⟩
/-- A place that holds something lies in no spot of its cell. -/
theorem plain_addr {w : World} {a : Addr} {v : Value} (h : w.cell? (a.add 0) = some v) : a.spot = none := World.cell?_spot (a := a) (by simpa [Addr.add] using h)
theorem cell_lit {w : World} {b o n : Nat} {v : Option Value} (h : w.cell? ((⟨b, o, none⟩ : Addr).add n) = v) : w.cell? ⟨b, o + n, none⟩ = v := by rwa [Addr.add_lit] at h
theorem cellsPair : Try.prog.cellsOf 137 = 2 := by kernel_rfl
theorem viewP {H : Type} {enc : TypeId × Value → H} {W : World} {fuel : Nat} {a0 : Option Addr} {len cap : Nat} {d : DataW H} {p : List MemPlace}
    (hf : DataW.trod enc Try.prog W 0 (fun _ => true) true fuel 135 (Value.slice a0 len cap).cells.toList = some (d, p)) :
    ∃ Z : List (Int × Int), Z.length = len ∧ len ≤ maxLen ∧ RP W a0 Z := by
  rcases open_int_structs Try.underlying135 Try.underlying137 (fun j f hj => by
      match j, hj with
      | 0, hj => simp at hj; subst hj; exact ⟨rfl, cellsInt, Try.underlying3⟩
      | 1, hj => simp at hj; subst hj; exact ⟨rfl, cellsInt, Try.underlying3⟩
      | j + 2, hj => simp at hj) cellsPair rfl hf with hcs | ⟨a, len', cap', hcs, hm, hc⟩
  · simp [Value.cells] at hcs
    obtain ⟨rfl, rfl, rfl⟩ := hcs
    exact ⟨[], rfl, Nat.zero_le _, fun i hi => absurd hi (by simp)⟩
  · simp [Value.cells] at hcs
    obtain ⟨rfl, rfl, rfl⟩ := hcs
    refine ⟨(List.range len).map fun i => (Classical.choose (hc i 0), Classical.choose (hc i 1)), by simp, hm, fun i hi => ?_⟩
    have hi' : i < len := by simpa using hi
    have h0 := Classical.choose_spec (hc i 0) hi' (show (0 : Nat) < 2 by omega)
    have h1 := Classical.choose_spec (hc i 1) hi' (show (1 : Nat) < 2 by omega)
    have hb := block_lt_of_cell h0
    rw [add_block] at hb
    have h00 := Classical.choose_spec (hc 0 0) (by omega) (show (0 : Nat) < 2 by omega)
    have hsp := plain_addr (a := a) (by simpa using h00)
    obtain ⟨ab, ax, sp⟩ := a
    simp only at hsp
    subst hsp
    replace h0 := cell_lit h0
    replace h1 := cell_lit h1
    refine ⟨ab, ax, rfl, hb, ?_, ?_⟩
    · rw [List.getD_eq_getElem?_getD, List.getElem?_map, List.getElem?_range hi']; exact h0
    · rw [List.getD_eq_getElem?_getD, List.getElem?_map, List.getElem?_range hi']; exact h1
end Go.Proofs.Ytmflleifglefiaa

namespace Go.Proofs.Ytmflleifglefiaa
open Go.RowKit Go.Sort
set_option linter.unusedVariables false

/-- A slice that reads as these pairs: nil, or some of block g. -/
def RowR (w : World) (G : Option Nat) (v : Value) (L : List (Int × Int)) : Prop :=
  (v = .slice none 0 0 ∧ L = [] ∧ G = none) ∨
  ∃ g o cap cur, G = some g ∧ v = .slice (some ⟨g, o, none⟩) L.length cap ∧ w.heap[g]? = some (.cells cur 137 (0, 0)) ∧ L.length ≤ cap ∧
    ∀ j, j < L.length → cur[o + j * 2]? = some (.int .i64 (L.getD j (0, 0)).1) ∧ cur[o + j * 2 + 1]? = some (.int .i64 (L.getD j (0, 0)).2)
theorem RowR.kept {S : Nat → Prop} {w w' : World} {G : Option Nat} {v : Value} {L : List (Int × Int)} (h : RowR w G v L) (k : Kept S w w') (hg : ∀ g, G = some g → ¬ S g) : RowR w' G v L := by
  rcases h with h | ⟨g, o, cap, cur, h1, h2, h3, h4⟩
  · exact .inl h
  · exact .inr ⟨g, o, cap, cur, h1, h2, k.old h3 (hg g h1), h4⟩
theorem RowR.lt {w : World} {G : Option Nat} {v : Value} {L : List (Int × Int)} (h : RowR w G v L) : ∀ g, G = some g → g < w.heap.size := by
  intro g hg
  rcases h with ⟨_, _, h⟩ | ⟨g', o, cap, cur, h, _, h3, _⟩
  · rw [h] at hg; cases hg
  · rw [h] at hg; cases hg; exact lt_whole h3
theorem RowR.len {w : World} {G : Option Nat} {v : Value} {L : List (Int × Int)} (h : RowR w G v L) : ∃ ao cap, v = .slice ao L.length cap := by
  rcases h with ⟨rfl, rfl, _⟩ | ⟨g, o, cap, cur, _, rfl, _⟩
  · exact ⟨none, 0, rfl⟩
  · exact ⟨_, cap, rfl⟩
theorem res_cells {w : World} {r b : Nat} {o : Obj} {V a0 a1 X0 X1 : Value} {t : TypeId} (h : w.heap[r]? = some (.cells #[a0, a1] t (0, 0))) (hn : r ≠ b) :
    ((((w.alloc o).setCell ⟨b, 1, none⟩ V).setCell ⟨r, 0, none⟩ X0).setCell ⟨r, 1, none⟩ X1).cell? ⟨r, 0, none⟩ = some X0 ∧ ((((w.alloc o).setCell ⟨b, 1, none⟩ V).setCell ⟨r, 0, none⟩ X0).setCell ⟨r, 1, none⟩ X1).cell? ⟨r, 1, none⟩ = some X1 := by
  have hw := set_whole (set_whole (set_other (alloc_whole h o) hn 1 V) 0 X0) 1 X1
  have e0 := cell_whole hw 0
  have e1 := cell_whole hw 1
  exact ⟨by simpa using e0, by simpa using e1⟩
end Go.Proofs.Ytmflleifglefiaa

namespace Go.Proofs.Ytmflleifglefiaa
open Go.RowKit Go.Sort
set_option linter.unusedVariables false

/-- Pairs appended to a row of the call's own. -/
theorem wpList_append_pairs {w : World} {ops : Array Oper} {rest : List Oper} {o : Oper} {a : Act} {Q : Exit → Act → World → Prop} (hgd : o.guard = none) (s x : Operand)
    (ho : o.op = .call { callee := .builtin .append, args := #[s, x], argTypes := #[135, 135] })
    (base : Nat) (v : Value) (n : Nat) (xs : List (Int × Int)) (hs : a.eval s = v) (hown : w.ownsRow base 137 2 v n (flatP xs))
    (gs os m c : Nat) (ys : List (Int × Int)) (hx : a.eval x = .slice (some ⟨gs, os, none⟩) m c) (hm : ys.length = m)
    (hc : ∀ j, j < ys.length → w.cell? ⟨gs, os + j * 2, none⟩ = some (.int .i64 (ys.getD j (0, 0)).1) ∧ w.cell? ⟨gs, os + j * 2 + 1, none⟩ = some (.int .i64 (ys.getD j (0, 0)).2))
    (hpos : 0 < n + m) (hroom : n + m ≤ 200000) (hbase : base ≤ w.heap.size)
    (hK : ∀ g cap w', w'.ownsRow base 137 2 (.slice (some ⟨g, 0, none⟩) (n + m) cap) (n + m) (flatP (xs ++ ys)) → w.grownBy w' v.ownBlock → (v.ownBlock = some g ∨ g = w.heap.size) → base ≤ g → g < w'.heap.size → wpList Try.prog ops Q rest (a.put o.dst (.slice (some ⟨g, 0, none⟩) (n + m) cap)) w') : wpList Try.prog ops Q (o :: rest) a w := by
  obtain ⟨i0, hi, hz0, hz1, hz2⟩ := info_parts Try.infoPair
  refine wpList_append_own_at w hgd s x 135 ho base 137 i0 _ 2 16 Try.underlying135 hi hz0 hz1 hz2 rfl (by omega) v n (flatP xs) hs hown ⟨gs, os, none⟩ m c (flatP ys) hx (by rw [flatP_length, hm]) ?_ (flatP_one ys) (by unfold maxLen; omega) (by omega) hbase ?_
  · intro j u hj
    rw [Addr.add_lit]
    have hjl : j < ys.length * 2 := by
      rcases Nat.lt_or_ge j (ys.length * 2) with h | h
      · exact h
      · rw [List.getElem?_eq_none (by rw [flatP_length]; exact h)] at hj; cases hj
    have hj2 : j / 2 < ys.length := by omega
    obtain ⟨c0, c1⟩ := hc (j / 2) hj2
    obtain ⟨e0, e1⟩ := flatP_get ys (j / 2) hj2
    have hg : ys.getD (j / 2) (0, 0) = ys[j / 2] := by rw [List.getD_eq_getElem?_getD, List.getElem?_eq_getElem hj2]; rfl
    rw [hg] at c0 c1
    have em : j = j / 2 * 2 ∨ j = j / 2 * 2 + 1 := by omega
    rcases em with em | em
    · rw [← em] at c0 e0; rw [c0, ← hj, e0]
    · rw [Nat.add_assoc, ← em] at c1; rw [← em] at e1; rw [c1, ← hj, e1]
  · intro v' w' h1 h2 h3 h4
    rw [← flatP_append] at h1
    obtain ⟨g, cap, rfl, hb, hlt⟩ := h1.form hpos
    refine hK g cap w' h1 h2 ?_ hb hlt
    rcases h4 with h4 | h4
    · exact .inl (by rw [← h4]; rfl)
    · right; simpa [Value.ownBlock] using h4
section
variable {w wr w' : World} {b g o cap most : Nat} {L : List (Int × Int)} {x : Int × Int} {cur : Array Value}
end
theorem take_while_of {L : List (Int × Int)} {x : Int × Int} {k : Nat} (hk : k ≤ L.length) (h : ∀ j, j < k → ltP (L.getD j (0, 0)) x = true) (hn : k < L.length → ltP (L.getD k (0, 0)) x = false) : insP x L = L.take k ++ x :: L.drop k := by
  induction L generalizing k with
  | nil => simp at hk; subst hk; rfl
  | cons y L ih =>
    rw [insP_cons]
    cases k with
    | zero =>
      have := hn (by simp)
      simp at this
      rw [if_neg (by simp [this])]
      rfl
    | succ k =>
      have := h 0 (by omega)
      simp at this
      rw [if_pos this, ih (k := k) (by simpa using hk) (fun j hj => by have := h (j + 1) (by omega); simpa using this) (fun hk => by have := hn (by simpa using hk); simpa using this)]
      rfl
theorem row_of_own' {w : World} {base g n cap : Nat} {l : List (Int × Int)} (h : w.ownsRow base 137 2 (.slice (some ⟨g, 0, none⟩) n cap) n (flatP l)) : RowR w (some g) (.slice (some ⟨g, 0, none⟩) n cap) l := by
  have hl : l.length = n := by have := h.1; rw [flatP_length] at this; omega
  subst hl
  rcases h.2 with ⟨h0, _⟩ | ⟨g', cap', cur, hv, hb, hg, hnc, hcm, hcs, ht⟩
  · cases h0
  · cases hv
    refine .inr ⟨g, 0, cap, cur, rfl, rfl, hg, hnc, fun j hj => ?_⟩
    have key : ∀ t, t < l.length * 2 → cur[t]? = (flatP l)[t]? := fun t h => by
      rw [← ht, List.getElem?_take, if_pos h, Array.getElem?_toList]
    obtain ⟨c, e⟩ := flatP_get l j hj
    have hg : l.getD j (0, 0) = l[j] := by rw [List.getD_eq_getElem?_getD, List.getElem?_eq_getElem hj]; rfl
    rw [Nat.zero_add, key _ (by omega), key _ (by omega), hg]
    exact ⟨c, e⟩
theorem own_belowP {w w' : World} {base : Nat} {v : Value} {n : Nat} {xs : List Value} (h : w.ownsRow base 137 2 v n xs) (k : Below w.heap.size w w') : w'.ownsRow base 137 2 v n xs :=
  h.kept (row := none) ⟨k.os, k.tape, k.output, k.size, fun i hi _ => k.block i hi⟩ (by cases v.ownBlock <;> simp)
theorem below_grownP {w w' : World} {N : Nat} {o : Obj} {v : Value} {base n : Nat} {xs : List Value} (hown : w.ownsRow base 137 2 v n xs) (hN : N ≤ base) (hs : N ≤ w.heap.size) (h : (w.alloc o).grownBy w' v.ownBlock) : Below N w w' :=
  ((Below.refl _ w).alloc hs o).grown h (by simp; omega) (fun k hk => Nat.le_trans hN (hown.lt k hk).1)
theorem below_grownP' {w w' : World} {N : Nat} {v : Value} {base n : Nat} {xs : List Value} (hown : w.ownsRow base 137 2 v n xs) (hN : N ≤ base) (hs : N ≤ w.heap.size) (h : w.grownBy w' v.ownBlock) : Below N w w' :=
  (Below.refl _ w).grown h hs (fun k hk => Nat.le_trans hN (hown.lt k hk).1)
theorem one_pair {w : World} {y : Int × Int} : ∀ j, j < [y].length → (w.alloc (.cells #[.int .i64 y.1, .int .i64 y.2] 137)).cell? ⟨w.heap.size, 0 + j * 2, none⟩ = some (.int .i64 ([y].getD j (0, 0)).1) ∧ (w.alloc (.cells #[.int .i64 y.1, .int .i64 y.2] 137)).cell? ⟨w.heap.size, 0 + j * 2 + 1, none⟩ = some (.int .i64 ([y].getD j (0, 0)).2) := by
  intro j hj
  obtain rfl : j = 0 := by simpa using hj
  exact ⟨cell_new w _ _ 0, cell_new w _ _ 1⟩
theorem take_snocP {L : List (Int × Int)} {k : Nat} (h : k < L.length) : L.take k ++ [L.getD k (0, 0)] = L.take (k + 1) := by
  rw [List.take_succ_eq_append_getElem h, List.getD_eq_getElem?_getD, List.getElem?_eq_getElem h]; rfl
theorem drop_cells {L : List (Int × Int)} {k : Nat} {j : Nat} (h : j < (L.drop k).length) : (L.drop k).getD j (0, 0) = L.getD (k + j) (0, 0) := by
  rw [List.getD_eq_getElem?_getD, List.getD_eq_getElem?_getD, List.getElem?_drop]
end Go.Proofs.Ytmflleifglefiaa
