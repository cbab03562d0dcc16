/- slices.Grow of nothing, and slices.Concat of two lists of numbers. -/
import Derived.Test.YtmflleifglefiaaDRst
import Derived.Lib.AppendZeros
import Derived.Laws.AppendOwnNone
namespace Go.Proofs.Ytmflleifglefiaa
open Go.RowKit
set_option linter.unusedVariables false

/-- All numbers of a list, perhaps none, are appended to a row of a call's own. -/
theorem wpList_append_more0 {w : World} {ops : Array Oper} {rest : List Oper} {o : Oper} {a : Act} {Q : Exit → Act → World → Prop} (hgd : o.guard = none) (s y : Operand)
    (ho : o.op = .call { callee := .builtin .append, args := #[s, y], argTypes := #[25, 25] }) (base : Nat) (v : Value) (A : List Int) (hs : a.eval s = v) (hown : OwnL encI w base 3 v A)
    (fo : Option Addr) (n fc : Nat) (F : List Int) (hn : F.length = n) (hx : a.eval y = .slice fo n fc) (hf : Lst encI w fo F) (hnil : fo = none → fc = 0) (hl : A.length + n ≤ 200000) (hbase : base ≤ w.heap.size)
    (hK : ∀ v' w', OwnL encI w' base 3 v' (A ++ F) → Below base w w' → wpList Try.prog ops Q rest (a.put o.dst v') w') : wpList Try.prog ops Q (o :: rest) a w := by
  subst hn
  obtain ⟨i0, hi, hz0, hz1, hz2⟩ := info_parts infoInt
  have hown' : w.ownsRow base 3 1 v A.length (A.map encI) := hown
  cases fo with
  | none =>
    have h0 : F = [] := by
      cases F with
      | nil => rfl
      | cons x r => obtain ⟨_, _, e, _⟩ := hf 0 (by simp); cases e
    subst h0
    have hc := hnil rfl
    subst hc
    refine wpList_append_own_none hgd s y 25 ho base 3 i0 1 Try.underlying25 hi v A.length (A.map encI) hs hown' hx (hK v w (by rw [List.append_nil]; exact hown) (Below.refl _ _))
  | some ad =>
    refine wpList_append_own_at w hgd s y 25 ho base 3 i0 (.int .i64 0) 1 8 Try.underlying25 hi hz0 hz1 hz2 rfl (by decide) v A.length (A.map encI) hs hown' ad F.length fc (F.map encI) hx (by simp) ?_ (encI_ones rfl) (by unfold maxLen; omega) (by omega) hbase ?_
    · intro j u hj
      have hp : 0 < (F.map encI).length := by
        have := (List.getElem?_eq_some_iff.1 hj).1
        omega
      obtain ⟨ad', e, h1⟩ := lst_src hf rfl hp
      cases e
      exact h1 j u hj
    · intro v' w' h1 h2 h3 _
      refine hK v' w' ?_ ((Below.refl _ w).grown h2 hbase (fun j hj => own_block hown' hj))
      unfold OwnL
      rw [List.length_append, List.map_append]
      exact h1
set_option maxRecDepth 100000 in
set_option maxHeartbeats 4000000 in
theorem growints_nil (k : Nat) (w : World) (h0 : 0 < k) (hk : k ≤ 200000) :
    Calls Try.prog 67 #[.slice none 0 0, .int .i64 (k : Int)] w fun e w' => ∃ v, e = .returned v ∧ OwnL encI w' w.heap.size 3 v [] ∧ Below w.heap.size w w' := by
  obtain ⟨i0, hi, hz0, hz1, hz2⟩ := info_parts infoInt
  have hrz : ∀ ty, (Builtin.append_ #[25, 3] ty #[.slice none 0 0, .int .i64 (k : Int)]).run Try.prog w = .ok (.slice (some ⟨w.heap.size, 0, none⟩) k (grownCap w k 0 3)) (w.drew.alloc (.cells (Builtin.zeroCells (Value.int .i64 0).cells k ++ Builtin.zeroCells (Value.int .i64 0).cells (grownCap w k 0 3 - k)) 3)) :=
    fun ty => Lib.run_append_nil_zeros w 25 3 ty 3 i0 (.int .i64 0) .i64 .i64 Try.underlying25 Try.underlying3 hi hz0 k h0 (by rw [hz1]; omega) (by omega) (by rw [hz2]; omega)
  have hg1 := grownCap_ge w k 0 3
  have hg2 := grownCap_le_maxLen w k 0 3 (by unfold maxLen; omega)
  generalize grownCap w k 0 3 = G at *
  have hki : ¬ ((k : Int) < 0) := by omega
  have hkp : (k : Int) > 0 := by omega
  have hsz : (Builtin.zeroCells (Value.int .i64 0).cells k ++ Builtin.zeroCells (Value.int .i64 0).cells (G - k)).size = G * 1 := by
    rw [Array.size_append, size_zeroCells, size_zeroCells]
    show k * 1 + (G - k) * 1 = G * 1
    omega
  generalize Builtin.zeroCells (Value.int .i64 0).cells k ++ Builtin.zeroCells (Value.int .i64 0).cells (G - k) = cur at *
  have hgm : G ≤ 9223372036854775807 := by unfold maxLen at hg2; omega
  go_enter Try.func67, Try.ntmps67
  go_wp2_with (at_builtin; refine Lib.wpList_append_run _ rfl _ _ _ _ rfl _ _ rfl rfl _ _ (hrz _) ?_)
  go_ret
  exact ⟨_, rfl, World.ownsRow_made w.drew cur G (Nat.le_refl _) hg2 hsz, (below_drew (Below.refl _ w)).alloc (Nat.le_refl _) _⟩
def catK (A F : List Int) : Nat → List Int
  | 0 => []
  | 1 => A
  | _ => A ++ F
def catN (a f : Nat) : Nat → Nat
  | 0 => 0
  | 1 => a
  | _ => a + f
set_option maxRecDepth 100000 in
set_option maxHeartbeats 4000000 in
theorem concat_any (gr : Nat) (ao fo : Option Addr) (na ac nf fc : Nat) (A F : List Int) (w : World) (hna : A.length = na) (hnf : F.length = nf) (h0 : w.cell? ⟨gr, 0, none⟩ = some (.slice ao na ac)) (h1 : w.cell? ⟨gr, 1, none⟩ = some (.slice fo nf fc))
    (hA : Lst encI w ao A) (hF : Lst encI w fo F) (hn1 : ao = none → ac = 0) (hn2 : fo = none → fc = 0) (hp : 0 < na + nf) (hb : na + nf ≤ 100000) :
    Calls Try.prog 62 #[.slice (some ⟨gr, 0, none⟩) 2 2] w fun e w' => ∃ v, e = .returned v ∧ OwnL encI w' w.heap.size 3 v (A ++ F) ∧ Below w.heap.size w w' := by
  have HA := Lib.hid hA
  have HF := Lib.hid hF
  have HN1 := Lib.hid hn1
  have HN2 := Lib.hid hn2
  have HNA := Lib.hid hna
  have HNF := Lib.hid hnf
  clear hA hF hn1 hn2 hna hnf
  go_enter Try.func62, Try.ntmps62
  go_wp2
  go_loopw [3, 11] (fun sv iv wr => ∃ j : Nat, j ≤ 2 ∧ iv = .int .i64 (j : Int) ∧ sv = .int .i64 (catN na nf j : Nat) ∧ wr = w) (fun _ iv _ => 2 - (intOf iv).toNat)
  case atStart => exact ⟨0, by omega, rfl, rfl, rfl⟩
  case round =>
    obtain ⟨j, hj, rfl, rfl, rfl⟩ := hrel
    have hj3 : j = 0 ∨ j = 1 ∨ j = 2 := by omega
    rcases hj3 with rfl | rfl | rfl
    · have hs : (catN na nf 0 : Nat) = 0 := rfl
      rw [hs]
      have hq : ¬ (((0 : Nat) : Int) + (na : Int) < 0) := by omega
      go_wp2
      go_roundw
      case rel => exact ⟨1, by omega, by go_num, by show _ = Value.int .i64 (na : Nat); go_num, by first | rfl | trivial⟩
      case measure => simp [intOf]
    · have hs : (catN na nf 1 : Nat) = na := rfl
      rw [hs]
      have hq : ¬ ((na : Int) + (nf : Int) < 0) := by omega
      go_wp2
      go_roundw
      case rel => exact ⟨2, by omega, by go_num, by show _ = Value.int .i64 ((na + nf : Nat) : Int); go_num, by first | rfl | trivial⟩
      case measure => simp [intOf]
    · have hs : (catN na nf 2 : Nat) = na + nf := rfl
      rw [hs]
      go_wp2_with (first
        | (go_at_call 67; refine (growints_nil (na + nf) _ hp (by omega)).mono ?_; rintro e w4 ⟨v4, rfl, ho4, hb4⟩; have HO4 := Lib.hid ho4; have HB4 := Lib.hid hb4; clear ho4 hb4))
      obtain ⟨wa, hwa⟩ : ∃ wa, wa = wr := ⟨_, rfl⟩
      subst hwa
      go_loopw [6, 27] (fun nv iv wr => ∃ j : Nat, j ≤ 2 ∧ iv = .int .i64 (j : Int) ∧ Hid (OwnL encI wr wa.heap.size 3 nv (catK A F j)) ∧ Hid (Below wa.heap.size wa wr)) (fun _ iv _ => 2 - (intOf iv).toNat)
      case atStart => exact ⟨0, by omega, rfl, HO4, HB4⟩
      case round =>
        clear HO4 HB4
        obtain ⟨j, hj, rfl, HO, HB⟩ := hrel
        have y0 := cell_below HB.out h0
        have y1 := cell_below HB.out h1
        have hj3 : j = 0 ∨ j = 1 ∨ j = 2 := by omega
        rcases hj3 with rfl | rfl | rfl
        · have HO2 : Hid (OwnL encI wr wa.heap.size 3 _ []) := HO
          go_wp2_with (first
            | (at_builtin; refine wpList_append_more0 rfl _ _ rfl wa.heap.size _ [] rfl HO2.out ao na ac A HNA.out rfl (HA.out.below HB.out) HN1.out (by simp; omega) HB.out.size ?_; intro v5 w5 ho5 hb5; have HO5 := Lib.hid ho5; have HB5 := Lib.hid (HB.out.trans hb5); clear ho5 hb5))
          go_roundw
          case rel => exact ⟨1, by omega, by go_num, HO5, HB5⟩
          case measure => simp [intOf]
        · have HO2 : Hid (OwnL encI wr wa.heap.size 3 _ A) := HO
          go_wp2_with (first
            | (at_builtin; refine wpList_append_more0 rfl _ _ rfl wa.heap.size _ A rfl HO2.out fo nf fc F HNF.out rfl (HF.out.below HB.out) HN2.out (by rw [HNA.out]; omega) HB.out.size ?_; intro v5 w5 ho5 hb5; have HO5 := Lib.hid ho5; have HB5 := Lib.hid (HB.out.trans hb5); clear ho5 hb5))
          go_roundw
          case rel => exact ⟨2, by omega, by go_num, HO5, HB5⟩
          case measure => simp [intOf]
        · go_wp2
          go_ret
          exact ⟨_, rfl, HO.out, HB.out⟩
end Go.Proofs.Ytmflleifglefiaa
