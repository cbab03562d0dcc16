/- MaxflowMore. -/
import Derived.Test.YthmighfbldhifaaXPrt
namespace Go.Proofs.Ythmighfbldhifaa
open Go.RowKit
set_option linter.unusedVariables false

theorem flatA_len : ∀ Z : List ArcT, (Z.flatMap encA).length = Z.length * 4
  | [] => rfl
  | a :: r => by rw [List.flatMap_cons, List.length_append, flatA_len r, encA_len]; simp only [List.length_cons]; omega
theorem flatA_one (Z : List ArcT) : ∀ u ∈ Z.flatMap encA, u.oneCell' = true := by
  intro u hu
  obtain ⟨a, _, h⟩ := List.mem_flatMap.1 hu
  exact encA_one a u h
/-- All arcs of a network are appended to a nil row. -/
theorem wpList_append_arcs {w : World} {ops : Array Oper} {rest : List Oper} {o : Oper} {a : Act} {Q : Exit → Act → World → Prop} (hgd : o.guard = none) (s y : Operand)
    (ho : o.op = .call { callee := .builtin .append, args := #[s, y], argTypes := #[22, 22] }) (fo : Option Addr) (fc : Nat) (Z : List ArcT) (hs : a.eval s = .slice none 0 0) (hx : a.eval y = .slice fo Z.length fc)
    (hf : Row encA 4 w fo Z) (hnil : fo = none → fc = 0) (hl : Z.length * 32 ≤ 140737488351232)
    (hK : ∀ v w', OwnA w' w.heap.size v Z → Below w.heap.size w w' → wpList Try.prog ops Q rest (a.put o.dst v) w') : wpList Try.prog ops Q (o :: rest) a w := by
  obtain ⟨i0, hi, hz0, hz1, hz2⟩ := info_parts infoArc9
  cases fo with
  | none =>
    have h0 : Z = [] := by
      cases Z with
      | nil => rfl
      | cons x r => obtain ⟨_, _, e, _⟩ := hf 0 (by simp); cases e
    subst h0
    have hc := hnil rfl
    subst hc
    exact wpList_append_own_none hgd s y 22 ho w.heap.size 41 i0 4 Try.underlying22 hi (.slice none 0 0) 0 [] hs (World.ownsRow_nil _ _ _ _) hx (hK _ _ (OwnA.nil _ _) (Below.refl _ _))
  | some ad =>
    refine wpList_append_own_at w hgd s y 22 ho w.heap.size 41 i0 _ 4 32 Try.underlying22 hi hz0 hz1 hz2 rfl (by omega) _ 0 [] hs (World.ownsRow_nil _ _ _ _) ad Z.length fc (Z.flatMap encA) hx (flatA_len Z) ?_ (flatA_one Z) (by unfold maxLen; omega) (by omega) (Nat.le_refl _) ?_
    · intro j u hj
      have hjl := (List.getElem?_eq_some_iff.1 hj).1
      rw [flatA_len] at hjl
      have hi4 : j / 4 < Z.length := by omega
      obtain ⟨b', o', e, hb, hc⟩ := hf (j / 4) hi4
      cases e
      rw [Addr.add_lit, show o' + j = o' + j / 4 * 4 + j % 4 by omega, hc (j % 4) (by omega)]
      have h := flat_get encA_len Z (j / 4) (j % 4) (by omega)
      rw [show j / 4 * 4 + j % 4 = j by omega, hj, List.getElem?_eq_getElem hi4] at h
      exact h.symm
    · intro v' w' h1 h2 h3 _
      rw [List.nil_append, Nat.zero_add] at h1
      exact hK v' w' h1 ((Below.refl _ w).grown h2 (Nat.le_refl _) (fun j hj => by simp [Value.ownBlock] at hj))
/-- One arc more is appended. -/
theorem wpList_append_arc1 {w : World} {ops : Array Oper} {rest : List Oper} {o : Oper} {a : Act} {Q : Exit → Act → World → Prop} (hgd : o.guard = none) (s y : Operand)
    (ho : o.op = .call { callee := .builtin .append, args := #[s, y], argTypes := #[22, 22] }) (base : Nat) (v : Value) (Z : List ArcT) (x : ArcT) (hs : a.eval s = v) (hown : OwnA w base v Z) (gs c : Nat) (hx : a.eval y = .slice (some ⟨gs, 0, none⟩) 1 c)
    (hc : ∀ j, j < 4 → w.cell? ⟨gs, j, none⟩ = (encA x)[j]?) (hl : Z.length * 32 ≤ 140737488351232) (hbase : base ≤ w.heap.size)
    (hK : ∀ g cap w', OwnA w' base (.slice (some ⟨g, 0, none⟩) (Z.length + 1) cap) (Z ++ [x]) → Below base w w' → wpList Try.prog ops Q rest (a.put o.dst (.slice (some ⟨g, 0, none⟩) (Z.length + 1) cap)) w') : wpList Try.prog ops Q (o :: rest) a w := by
  obtain ⟨i0, hi, hz0, hz1, hz2⟩ := info_parts infoArc9
  have hown' : w.ownsRow base 41 4 v Z.length (Z.flatMap encA) := hown
  refine wpList_append_lies w hgd s y 22 ho base 41 i0 _ 4 32 Try.underlying22 hi hz0 hz1 hz2 rfl (by omega) v Z.length (Z.flatMap encA) hs hown' ⟨gs, 0, none⟩ 1 c (encA x) hx (by rw [encA_len]) ?_ (encA_one x) (by omega) (by unfold maxLen; omega) (by omega) hbase _ rfl ?_
  · intro j u hj
    have hjl := (List.getElem?_eq_some_iff.1 hj).1
    rw [encA_len] at hjl
    rw [Addr.add_lit, Nat.zero_add, hc j hjl, hj]
  · intro g cap w' h1 h2 _ _
    refine hK g cap w' ?_ ((Below.refl _ w).grown h2 hbase (fun j hj => own_block hown' hj))
    unfold OwnA
    rw [List.length_append, List.length_singleton, List.flatMap_append, List.flatMap_singleton]
    exact h1
theorem more_sum {N i j : Nat} {Z : List ArcT} {x : ArcT} {k m : Int} (hE : endsE (N : Int) Z (i : Int) (j : Int) = 0) (hE1 : endsE (N : Int) (Z ++ [x]) (i : Int) (j : Int) = 0) (hi : i < N) (hij : i ≠ j) (h : IsMost Z N i j k) (g : IsMost (Z ++ [x]) N i j m) :
    k ≤ m ∧ m ≤ wrap64 (k + x.2.2.1) := by
  have hb := most_bd hE hi hij h
  have hA := arcs_lt hE1
  rw [Int.toNat_natCast] at hA
  have hc := caps_le (endsE_ok hE1).1 x (by simp)
  obtain ⟨h1, h2⟩ := isMost_more hA.1 hc.1 hi h g
  refine ⟨h1, ?_⟩
  unfold capN at *
  unfold wrap64
  omega
/-- What Most answers, by its error alone. -/
def MostFact (n : Int) (Z : List ArcT) (s t k e0 : Int) : Prop := e0 = 0 → ∃ N i j : Nat, n = (N : Int) ∧ s = (i : Int) ∧ t = (j : Int) ∧ i < N ∧ i ≠ j ∧ endsE n Z s t = 0 ∧ IsMost Z N i j k
theorem most_shape {n : Int} {Z : List ArcT} {s t : Int} {w w' : World} {e : Ending} (h : MostRes n Z s t w e w') : ∃ k e0, e = .returned (.tuple #[.int .i64 k, .int .i64 e0]) ∧ Below w.heap.size w w' ∧ MostFact n Z s t k e0 := by
  rcases h with ⟨h1, k, N, i, j, hn, hs, ht, ⟨hi, _, hij⟩, he, hm, hb⟩ | ⟨h1, he, hb⟩
  · exact ⟨_, _, he, hb, fun _ => ⟨N, i, j, hn, hs, ht, hi, hij, h1, hm⟩⟩
  · exact ⟨_, _, he, hb, fun h0 => absurd h0 h1⟩
theorem more_both {n s t k m e0 f0 : Int} {Z : List ArcT} {x : ArcT} (h : MostFact n Z s t k e0) (g : MostFact n (Z ++ [x]) s t m f0) (h0 : e0 = 0) (h1 : f0 = 0) : k ≤ m ∧ m ≤ wrap64 (k + x.2.2.1) := by
  obtain ⟨N, i, j, rfl, rfl, rfl, hi, hij, hE, hk⟩ := h h0
  obtain ⟨N', i', j', e1, e2, e3, _, _, hE1, hm⟩ := g h1
  obtain rfl : N' = N := by omega
  obtain rfl : i' = i := by omega
  obtain rfl : j' = j := by omega
  exact more_sum hE hE1 hi hij hk hm
theorem xmost_res (n : Int) (b : Bool) (ao : Option Addr) (cap : Nat) (Z : List ArcT) (s t : Int) (zl : Nat) (hL : Z.length = zl) (w : World) (h : Row encA 4 w ao Z) (hz : Z.length ≤ maxLen) :
    Calls Try.prog 10 #[.agg #[.int .i64 n, .bool b, .slice ao zl cap], .int .i64 s, .int .i64 t] w fun e w' => ∃ k e0, e = .returned (.tuple #[.int .i64 k, .int .i64 e0]) ∧ Below w.heap.size w w' ∧ MostFact n Z s t k e0 := by
  subst hL
  exact (xmost_any n b ao cap Z s t w h hz).mono fun e w' hr => most_shape hr
section
variable (n : Int) (b : Bool) (ao : Option Addr) (len cap : Nat) (Z : List ArcT)
set_option maxRecDepth 100000 in
set_option maxHeartbeats 8000000 in
theorem onearc_law (x y c u s t : Int) (w : World) (hl : Z.length = len) (hnil : ao = none → cap = 0) (hm : len ≤ maxLen) (hr : Row encA 4 w ao Z) (hw : len * 32 ≤ 140737488351232) :
    Calls Try.prog 6 #[.agg #[.int .i64 n, .bool b, .slice ao len cap], .agg #[.int .i64 x, .int .i64 y, .int .i64 c, .int .i64 u], .int .i64 s, .int .i64 t] w fun e w' => e = .returned (.bool true) ∧ Below w.heap.size w w' := by
  subst hl
  have hb00 := ((Below.refl _ w).alloc (Nat.le_refl _) (.cells #[.int .i64 n, .bool b, .slice ao Z.length cap] 24)).alloc (by simp) (.cells #[.int .i64 x, .int .i64 y, .int .i64 c, .int .i64 u] 41)
  have HB0 := Lib.hid hb00
  have HN0 := Lib.hid (alloc_whole (heap_alloc_new w (.cells #[.int .i64 n, .bool b, .slice ao Z.length cap] 24)) (.cells #[.int .i64 x, .int .i64 y, .int .i64 c, .int .i64 u] 41))
  have HA0 := Lib.hid (new_whole1 w (.cells #[.int .i64 n, .bool b, .slice ao Z.length cap] 24) (.cells #[.int .i64 x, .int .i64 y, .int .i64 c, .int .i64 u] 41))
  have HR0 := Lib.hid (hr.below' hb00)
  have HM := Lib.hid hm
  have HW := Lib.hid hw
  have HNL := Lib.hid hnil
  have HYM : Hid ((Z ++ [((x, y, c, u) : ArcT)]).length ≤ maxLen) := Lib.hid (by rw [List.length_append, List.length_singleton]; unfold maxLen; omega)
  have HYL : Hid ((Z ++ [((x, y, c, u) : ArcT)]).length = Z.length + 1) := Lib.hid (by rw [List.length_append, List.length_singleton])
  clear hr hb00 hm hw hnil
  go_enter Try.func6, Try.ntmps6
  go_wp2_with (first
    | (go_at_call 12; refine (xawake_any _).mono ?_; rintro e w1 ⟨rfl, hb1⟩; have HB1 := Lib.hid (HB0.out.trans (hb1.mono HB0.out.size)); have HR1 := Lib.hid (HR0.out.below' hb1); have hn1 := kept_box HN0.out hb1; have HN1 := Lib.hid hn1; have ha1 := kept_box HA0.out hb1; have HA1 := Lib.hid ha1; have x0 := cell_whole hn1 0; have x1 := cell_whole hn1 1; have x2 := cell_whole hn1 2; clear hb1 hn1 ha1)
    | (go_at_call 10; have hb9 := HB9.out; refine (xmost_res n b (some ⟨g8, 0, none⟩) cap8 (Z ++ [((x, y, c, u) : ArcT)]) s t (Z.length + 1) HYL.out (w8.setCell ⟨w.heap.size, 2, none⟩ (.slice (some ⟨g8, 0, none⟩) (Z.length + 1) cap8)) HY9.out HYM.out).mono ?_; rintro e w9 ⟨k2, f0, rfl, hb10, hf10⟩; have HF10 := Lib.hid hf10; have HB10 := Lib.hid (hb9.trans (hb10.mono hb9.size)); have a2 := cell_whole (kept_box HA9.out hb10) 2; clear hb9 hb10 hf10)
    | (go_at_call 10; refine (xmost_res n b ao cap Z s t Z.length rfl w1 HR1.out HM.out).mono ?_; rintro e w2 ⟨k1, e0, rfl, hb2, hf2⟩; have HF2 := Lib.hid hf2; have HB2 := Lib.hid (HB1.out.trans (hb2.mono HB1.out.size)); have HR2 := Lib.hid (HR1.out.below' hb2); have hn2 := kept_box HN1.out hb2; have HN2 := Lib.hid hn2; have ha2 := kept_box HA1.out hb2; have HA2 := Lib.hid ha2; have HG2 := Lib.hid (show w.heap.size < w2.heap.size from lt_whole hn2); have x0 := cell_whole hn2 0; have x1 := cell_whole hn2 1; have x2 := cell_whole hn2 2; clear hb2 hn2 ha2 hf2)
    | (at_builtin; have hO4 := HO4.out; refine wpList_append_arc1 rfl _ _ rfl w2.heap.size v4 Z (x, y, c, u) rfl (HO4.out.below ((Below.refl _ w4).alloc (Nat.le_refl _) (.cells #[.int .i64 x, .int .i64 y, .int .i64 c, .int .i64 u] 41))) _ 1 rfl (fun j hj => arc_cells w4 41 w4.heap.size rfl x y c u j hj) HW.out (by have := HB4.out.size; simp; omega) ?_; intro g8 cap8 w8 ho8 hb8; have hb8' := (HB4.out.alloc HB4.out.size (.cells #[.int .i64 x, .int .i64 y, .int .i64 c, .int .i64 u] 41)).trans hb8; have HB8 := Lib.hid (HB2.out.trans (hb8'.mono HB2.out.size)); have hn8 := kept_box HN2.out hb8'; have ha8 := kept_box HA2.out hb8'; have hr8 : Row encA 4 w8 (some ⟨g8, 0, none⟩) (Z ++ [((x, y, c, u) : ArcT)]) := own_rowK encA_len ho8; have HB9 : Hid (Below w.heap.size w (w8.setCell ⟨w.heap.size, 2, none⟩ (.slice (some ⟨g8, 0, none⟩) (Z.length + 1) cap8))) := Lib.hid (below_set HB8.out (Nat.le_refl _) _); have HY9 : Hid (Row encA 4 (w8.setCell ⟨w.heap.size, 2, none⟩ (.slice (some ⟨g8, 0, none⟩) (Z.length + 1) cap8)) (some ⟨g8, 0, none⟩) (Z ++ [((x, y, c, u) : ArcT)])) := Lib.hid (ho8.off HG2.out hr8 _ _); have hn9 := set_whole hn8 2 (.slice (some ⟨g8, 0, none⟩) (Z.length + 1) cap8); have HA9 : Hid ((w8.setCell ⟨w.heap.size, 2, none⟩ (.slice (some ⟨g8, 0, none⟩) (Z.length + 1) cap8)).heap[w.heap.size + 1]? = some (.cells #[.int .i64 x, .int .i64 y, .int .i64 c, .int .i64 u] 41 (0, 0))) := Lib.hid (set_other ha8 (by omega) 2 _); have f2 := frozen_whole hn8 2; have y0 : (w8.setCell ⟨w.heap.size, 2, none⟩ (.slice (some ⟨g8, 0, none⟩) (Z.length + 1) cap8)).cell? ⟨w.heap.size, 0, none⟩ = some (.int .i64 n) := cell_whole hn9 0; have y1 : (w8.setCell ⟨w.heap.size, 2, none⟩ (.slice (some ⟨g8, 0, none⟩) (Z.length + 1) cap8)).cell? ⟨w.heap.size, 1, none⟩ = some (.bool b) := cell_whole hn9 1; have y2 : (w8.setCell ⟨w.heap.size, 2, none⟩ (.slice (some ⟨g8, 0, none⟩) (Z.length + 1) cap8)).cell? ⟨w.heap.size, 2, none⟩ = some (.slice (some ⟨g8, 0, none⟩) (Z.length + 1) cap8) := cell_whole hn9 2; have x0 := cell_whole hn8 0; have x1 := cell_whole hn8 1; have x2 := cell_whole hn8 2; clear hb8 hb8' hn8 ha8 hr8 hn9 ho8 hO4)
    | (at_builtin; refine wpList_append_arcs rfl _ _ rfl ao cap Z rfl rfl HR2.out HNL.out HW.out ?_; intro v4 w4 ho4 hb4; have HO4 := Lib.hid ho4; have HB4 := Lib.hid hb4; have ha4 := kept_box HA2.out hb4; have a0 := cell_whole ha4 0; have a1 := cell_whole ha4 1; have a2 := cell_whole ha4 2; have a3 := cell_whole ha4 3; have hn4 := kept_box HN2.out hb4; have x0 := cell_whole hn4 0; have x1 := cell_whole hn4 1; have x2 := cell_whole hn4 2; clear ho4 hb4 ha4 hn4))
  all_goals
    have hmb := more_both HF2.out HF10.out
    simp only at hmb
    go_ret
    refine ⟨?_, HB10.out⟩
    first
      | rfl
      | (have h9 := hmb (by assumption) (by assumption); exact absurd h9.1 (by omega))
      | (have h9 := hmb (by assumption) (by assumption); have h8 := decide_eq_true h9.2; exact congrArg (fun q => Ending.returned (Value.bool q)) h8)
end
end Go.Proofs.Ythmighfbldhifaa
