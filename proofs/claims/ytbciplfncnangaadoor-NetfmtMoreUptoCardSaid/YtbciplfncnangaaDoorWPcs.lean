/- The program's pieces: the texts before each such byte, one after the other, to whatever loop goes over them. -/
import Derived.Test.YtbciplfncnangaaDoorWSpec
import Derived.Test.YtbciplfncnangaaDoorChecked
import Derived.RangeFuncNested
import Derived.RangeFuncBound
import Derived.RangeFuncCalls
import Derived.RangeFuncLeaves
import Derived.RangeFuncBox
import Derived.Shelf.Abstract
import Derived.Shelf.RegionOpen
import Derived.WalkKit
import Derived.OwnWalkIn
import Derived.TacticsInMore
import Derived.LoopNIn
import Derived.LoopIn
import Derived.Maps.AppendAt
import Derived.Sort.QuietIn
import Derived.Lib.Hide
namespace Go.Proofs.YtbciplfncnangaaDoor
open Go.RowKit Go.Shelf
attribute [local go_sem] Oper.semAt_some
set_option linter.unusedVariables false

/-- What a round that goes on keeps: the two boxes that the iterator reads. -/
def BoxK (Bs Be : Nat) (W W' : World) : Prop := W'.heap[Bs]? = W.heap[Bs]? ∧ W'.heap[Be]? = W.heap[Be]?
theorem boxK_t {Bs Be : Nat} {A B C : World} (h : BoxK Bs Be A B) (k : BoxK Bs Be B C) : BoxK Bs Be A C := ⟨k.1.trans h.1, k.2.trans h.2⟩
theorem boxK_b {Bs Be : Nat} {w : World} (h1 : Bs < w.heap.size) (h2 : Be < w.heap.size) (W : World) (l : Nat) (o o' : Obj) (hl : w.heap.size ≤ l) (h : W.heap[l]? = some o) (_ : o.isCells = false) (_ : o.isWalk = false) : BoxK Bs Be W (W.putObj l o') :=
  ⟨World.putObj_heap_other (by omega), World.putObj_heap_other (by omega)⟩
theorem BoxK.boxed {Bs Be : Nat} {W W' : World} (h : BoxK Bs Be W W') {t t' : TypeId} {v v' : Value} (h1 : Boxed W Bs t v) (h2 : Boxed W Be t' v') : Boxed W' Bs t v ∧ Boxed W' Be t' v' := ⟨h.1.trans h1, h.2.trans h2⟩
theorem drewN_grown (W : World) (n : Nat) : W.grownBy (W.drewN n) none := ⟨rfl, rfl, rfl, Nat.le_refl _, fun _ _ _ => rfl⟩
theorem boxed_drewN {W : World} {B : Nat} {t : TypeId} {v : Value} (h : Boxed W B t v) (n : Nat) : Boxed (W.drewN n) B t v := h
theorem extract_is (s : ByteArray) (a b : Nat) (x : List UInt8) (hx : x = (s.data.toList.take b).drop a) : s.extract a b = ⟨x.toArray⟩ := by
  subst hx
  apply WideShapes.bytes_inj
  rw [Lib.extract_data, List.take_drop]
  by_cases h : a ≤ b
  · rw [Nat.add_sub_cancel' h]
  · rw [Nat.sub_eq_zero_of_le (by omega), Nat.add_zero]
    rw [List.drop_eq_nil_of_le (by rw [List.length_take]; omega), List.drop_eq_nil_of_le (by rw [List.length_take]; omega)]
theorem drop_take_snoc (s : ByteArray) (a k : Nat) (ha : a ≤ k) (hk : k < s.size) : (s.data.toList.take (k + 1)).drop a = (s.data.toList.take k).drop a ++ [s[k]] := by
  rw [take_snoc' s k hk, List.drop_append_of_le_length (by rw [List.length_take, size_data]; omega)]
theorem cut_prefix (e : UInt8) (l : List UInt8) (k : Nat) : (cut e (l.take k)).1 <+: (cut e l).1 := by
  have h : ∀ a b : List UInt8, (cut e a).1 <+: (cut e (a ++ b)).1 := by
    intro a b
    refine snoc_ind (P := fun b => (cut e a).1 <+: (cut e (a ++ b)).1) (by rw [List.append_nil]; exact List.prefix_refl _) ?_ b
    intro b x ih
    rw [← List.append_assoc]
    by_cases hx : x = e
    · subst hx; rw [cut_hit]; exact ih.trans (List.prefix_append _ _)
    · rw [cut_miss e _ x hx]; exact ih
  have := h (l.take k) (l.drop k)
  rwa [List.take_append_drop] at this
theorem lastIf_ne {x : List UInt8} (h : x ≠ []) : lastIf x = [x] := by cases x with | nil => exact absurd rfl h | cons c r => rfl

set_option maxRecDepth 100000 in
set_option maxHeartbeats 2000000 in
theorem pieces1_in (n : Nat) (hn : 1 ≤ n) (l Bs Be n₀ : Nat) (s : ByteArray) (c : UInt8) (hs : s.size ≤ maxLen) (J Jx : List (List UInt8) → World → Prop)
    (hJ : AbidesFrom n₀ J) (hJx : AbidesFrom n₀ Jx)
    (hY : ∀ pre x W, J pre W → pre.length < s.size + 1 → YieldAt Fence.wide (n - 1) Tryd.prog l #[strV x] W fun e W' =>
      (e = .returned (.bool true) ∧ J (pre ++ [x]) W' ∧ BoxK Bs Be W W') ∨ (e = .returned (.bool false) ∧ Jx (pre ++ [x]) W'))
    (W : World) (h1 : Boxed W Bs 9 (.string s)) (h2 : Boxed W Be 5 (.int .u8 c.toNat)) (h0 : J [] W) :
    CallsIn Fence.wide n Tryd.prog 55 #[.func (.yield l) #[] #[], .pointer (some ⟨Bs, 0, none⟩), .pointer (some ⟨Be, 0, none⟩)] W fun e W' => (∃ v, e = .returned v) ∧
      ((∃ ys, ys = pcs c s.data.toList ∧ J ys W') ∨ (∃ pre, pre <+: pcs c s.data.toList ∧ Jx pre W')) := by
  unfold maxLen at hs
  have b1 := h1.cell
  have b2 := h2.cell
  have HJ := Lib.hid hJ
  have HJX := Lib.hid hJx
  have HY := Lib.hid hY
  have H1 := Lib.hid h1
  have H2 := Lib.hid h2
  clear hJ hJx hY h1 h2
  refine callsIn_of_wp Tryd.func55 rfl trivial ?_ rfl
  simp only [Tryd.ntmps55, List.size_toArray, List.length_cons, List.length_nil, Nat.reduceAdd, Nat.reduceSub, Array.replicate_succ, Array.replicate_zero, List.push_toArray, List.append_toArray, List.nil_append, List.cons_append]
  gi_wp2
  clear b1 b2
  gi_loopw [4, 8] (fun st i wr => ∃ (k a : Nat), i = .int .i64 (k : Int) ∧ st = .int .i64 (a : Int) ∧ k ≤ s.size ∧ a ≤ k ∧ Hid ((cut c (s.data.toList.take k)).2 = (s.data.toList.take k).drop a) ∧ Hid (J (cut c (s.data.toList.take k)).1 wr) ∧ Hid (Boxed wr Bs 9 (.string s)) ∧ Hid (Boxed wr Be 5 (.int .u8 c.toNat)))
    (fun _ i _ => s.size - (intOf i).toNat)
  case atStart =>
    exact ⟨0, 0, rfl, rfl, Nat.zero_le _, Nat.le_refl _, Lib.hid rfl, Lib.hid h0, H1, H2⟩
  case round =>
    obtain ⟨k, a, rfl, rfl, hk, hak, HC, HJ0, HB1, HB2⟩ := hrel
    have b1 := HB1.out.cell
    have b2 := HB2.out.cell
    by_cases hlt : k < s.size
    · have hlt' : (k : Int) < (s.size : Int) := by omega
      by_cases hc : s[k]'hlt = c
      · have hc2 : (((s[k]'hlt).toNat : Int) != (c.toNat : Int)) = false := by rw [hc]; simp
        have hc3 : (((s[k]'hlt).toNat : Int) == (c.toNat : Int)) = true := by rw [hc]; simp
        obtain ⟨t, ht⟩ : ∃ t, s.extract a k = t := ⟨_, rfl⟩
        have hx : strV (cut c (s.data.toList.take k)).2 = .string t := by rw [← ht, extract_is s a k _ HC.out]; rfl
        have hJd : Hid (∀ m, J (cut c (s.data.toList.take k)).1 (wr.drewN m)) := Lib.hid (fun m => HJ.out _ _ _ none HJ0.out (drewN_grown _ _) (fun r e => by cases e))
        have hln : (cut c (s.data.toList.take k)).1.length < s.size + 1 := by
          have := cut_len c (s.data.toList.take k)
          rw [List.length_take] at this
          omega
        have hHx := Lib.hid hx
        have hYd : Hid (∀ m, YieldAt Fence.wide (n - 1) Tryd.prog l #[.string t] (wr.drewN m) fun e W' => (e = .returned (.bool true) ∧ J ((cut c (s.data.toList.take k)).1 ++ [(cut c (s.data.toList.take k)).2]) W' ∧ BoxK Bs Be (wr.drewN m) W') ∨ (e = .returned (.bool false) ∧ Jx ((cut c (s.data.toList.take k)).1 ++ [(cut c (s.data.toList.take k)).2]) W')) :=
          Lib.hid (fun m => by rw [← hHx.out]; exact HY.out _ _ _ (hJd.out m) hln)
        clear hx
        gi_wp2
        gi_quiet (fail)
        obtain ⟨fn, tmps, assign, body, hy, hR⟩ := hYd.out nq
        gi_wp2
        refine hR.mono ?_
        rintro e W3 (⟨rfl, hJ3, hk3⟩ | ⟨rfl, hJx3⟩)
        · obtain ⟨HB3, HB4⟩ := hk3.boxed (boxed_drewN HB1.out nq) (boxed_drewN HB2.out nq)
          have HB5 := Lib.hid HB3
          have HB6 := Lib.hid HB4
          have HJ3 := Lib.hid hJ3
          clear HB3 HB4 hJ3 hk3 hR hy
          gi_wp2
          go_roundw
          case rel =>
            have e1 := cut_hit c (s.data.toList.take k)
            have e2 := take_snoc' s k hlt
            rw [hc] at e2
            rw [← e2] at e1
            refine ⟨k + 1, k + 1, by go_num, by go_num, by omega, by omega, Lib.hid ?_, Lib.hid ?_, HB5, HB6⟩
            · rw [e1, List.drop_eq_nil_of_le (by rw [List.length_take]; omega)]
            · rw [e1]; exact HJ3.out
          case measure => simp [intOf]; omega
        · gi_wp2
          refine bodyPost_ret (results_none rfl _ _ _) rfl ?_
          refine ⟨⟨_, rfl⟩, .inr ⟨_, ?_, hJx3⟩⟩
          have e1 := cut_hit c (s.data.toList.take k)
          have e2 := take_snoc' s k hlt
          rw [hc] at e2
          rw [← e2] at e1
          have e3 := cut_prefix c s.data.toList (k + 1)
          rw [e1] at e3
          exact e3.trans (List.prefix_append _ _)
      · have hc' : (((s[k]'hlt).toNat : Int) == (c.toNat : Int)) = false := by
          have : (s[k]'hlt).toNat ≠ c.toNat := fun e => hc (UInt8.toNat_inj.1 e)
          simp; omega
        have hc2 : (((s[k]'hlt).toNat : Int) != (c.toNat : Int)) = true := by rw [bne, hc']; rfl
        gi_wp2
        gi_quiet (fail)
        gi_wp2
        go_roundw
        case rel =>
          have e1 := cut_miss c (s.data.toList.take k) (s[k]'hlt) hc
          rw [← take_snoc' s k hlt] at e1
          refine ⟨k + 1, a, by go_num, rfl, by omega, by omega, Lib.hid ?_, Lib.hid ?_, Lib.hid (boxed_drewN HB1.out _), Lib.hid (boxed_drewN HB2.out _)⟩
          · rw [e1, drop_take_snoc s a k hak hlt, ← HC.out]
          · rw [e1]; exact HJ.out _ _ _ none HJ0.out (drewN_grown _ _) (fun r e => by cases e)
        case measure => simp [intOf]; omega
    · obtain rfl : k = s.size := by omega
      have hlt' : ¬ (s.size : Int) < (s.size : Int) := by omega
      have htk : s.data.toList.take s.size = s.data.toList := List.take_of_length_le (by rw [size_data]; omega)
      by_cases ha : a < s.size
      · have ha' : (a : Int) < (s.size : Int) := by omega
        obtain ⟨t, ht⟩ : ∃ t, s.extract a s.size = t := ⟨_, rfl⟩
        have hx : strV (cut c (s.data.toList.take s.size)).2 = .string t := by rw [← ht, extract_is s a s.size _ HC.out]; rfl
        have hpc : (cut c (s.data.toList.take s.size)).1 ++ [(cut c (s.data.toList.take s.size)).2] = pcs c s.data.toList := by
          have hne : (cut c (s.data.toList.take s.size)).2 ≠ [] := by
            rw [HC.out]; intro e
            have := congrArg List.length e
            rw [List.length_drop, List.length_take, size_data] at this
            simp at this; omega
          rw [htk] at hne ⊢
          unfold pcs; rw [lastIf_ne hne]
        have hln : (cut c (s.data.toList.take s.size)).1.length < s.size + 1 := by
          have := cut_len c (s.data.toList.take s.size)
          rw [List.length_take] at this
          omega
        have hYd := HY.out _ (cut c (s.data.toList.take s.size)).2 _ HJ0.out hln
        rw [hx, hpc] at hYd
        have HPC := Lib.hid hpc
        clear hx hpc htk
        obtain ⟨fn, tmps, assign, body, hy, hR⟩ := hYd
        gi_wp2
        refine hR.mono ?_
        rintro e W3 (⟨rfl, hJ3, hk3⟩ | ⟨rfl, hJx3⟩)
        · gi_wp2
          go_end0
          exact ⟨⟨_, rfl⟩, .inl ⟨_, rfl, hJ3⟩⟩
        · gi_wp2
          go_end0
          exact ⟨⟨_, rfl⟩, .inr ⟨_, List.prefix_refl _, hJx3⟩⟩
      · have ha' : ¬ (a : Int) < (s.size : Int) := by omega
        have hpc : (cut c (s.data.toList.take s.size)).1 = pcs c s.data.toList := by
          have hne : (cut c (s.data.toList.take s.size)).2 = [] := by
            rw [HC.out]; exact List.drop_eq_nil_of_le (by rw [List.length_take]; omega)
          rw [htk] at hne ⊢
          unfold pcs; rw [hne]; simp [lastIf]
        have HPC := Lib.hid hpc
        clear hpc htk
        gi_wp2
        go_end0
        refine ⟨⟨_, rfl⟩, .inl ?_⟩
        rw [← HPC.out]; exact HJ0.out

/-- The two texts that pieces is given lie in boxes; the function value has them. -/
theorem pieces_in (n : Nat) (s : ByteArray) (c : Int) (w : World) :
    CallsIn Fence.wide n Tryd.prog 44 #[.string s, .int .u8 c] w fun e w' => e = .returned (.func (.func 55) #[] #[.pointer (some ⟨w.heap.size, 0, none⟩), .pointer (some ⟨w.heap.size + 1, 0, none⟩)]) ∧ w' = (w.alloc (.cells #[.string s] 9)).alloc (.cells #[.int .u8 c] 5) := by
  refine callsIn_of_wp Tryd.func44 rfl trivial ?_ rfl
  simp only [Tryd.ntmps44, List.size_toArray, List.length_cons, List.length_nil, Nat.reduceAdd, Nat.reduceSub, Array.replicate_succ, Array.replicate_zero, List.push_toArray, List.append_toArray, List.nil_append, List.cons_append]
  gi_wp2
  go_ret
  exact ⟨rfl, rfl⟩
/-- What a loop over pieces may count on. -/
theorem pieces_stops (n : Nat) (hn : 1 ≤ n) (Bs Be : Nat) (s : ByteArray) (c : UInt8) (hs : s.size ≤ maxLen) (w : World) (h1 : Boxed w Bs 9 (.string s)) (h2 : Boxed w Be 5 (.int .u8 c.toNat)) :
    SeqStopsK Fence.wide n Tryd.prog 55 #[.pointer (some ⟨Bs, 0, none⟩), .pointer (some ⟨Be, 0, none⟩)] (fun x : List UInt8 => #[strV x]) (BoxK Bs Be) (fun ys => ys = pcs c s.data.toList) (fun pre => pre <+: pcs c s.data.toList) (s.size + 1) w :=
  fun l J Jx W hW hJ hJx hY h0 => pieces1_in n hn l Bs Be W.heap.size s c hs J Jx hJ hJx hY W ((hW.block Bs h1.lt).trans h1) ((hW.block Be h2.lt).trans h2) h0
end Go.Proofs.YtbciplfncnangaaDoor
