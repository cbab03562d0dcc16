/- The document's Lines and Words, and its comparison of two lists of texts. -/
import Derived.Test.YtbciplfncnangaaDoorWLin
import Derived.Test.YtbciplfncnangaaDoorWRow
import Derived.Deep.QuietTactic
import Derived.BigQuiet
import Derived.OwnWalk
namespace Go.Proofs.YtbciplfncnangaaDoor
open Go.RowKit Go.Shelf
set_option linter.unusedVariables false

theorem app_below {w wr w1 : World} {v : Value} {n : Nat} {e : TypeId} {xs : List Value} {o : Obj} (hbw : Below w.heap.size w wr) (hO : wr.ownsRow w.heap.size e 1 v n xs) (hg : (wr.alloc o).grownBy w1 v.ownBlock) : Below w.heap.size w w1 :=
  (hbw.alloc hbw.size _).grown hg (by have := hbw.size; simp; omega) (fun j hj => own_block hO hj)
set_option maxRecDepth 100000 in
set_option maxHeartbeats 2000000 in
theorem rlines_any (s : ByteArray) (w : World) (hs : s.size ≤ 1099511627776) :
    Calls Tryd.prog 19 #[.string s] w fun e w' => ∃ v, e = .returned v ∧ w'.ownsRow w.heap.size 9 1 v (linesL s.data.toList).length ((linesL s.data.toList).map strV) ∧ Below w.heap.size w w' := by
  obtain ⟨i0, hi, hz0, hz1, hz2⟩ := info_parts infoStr
  go_enter Tryd.func19, Tryd.ntmps19
  go_wp2
  go_loopw [3, 4, 5] (fun sv st i wr => ∃ (k a : Nat) (v : Value), sv = v ∧ i = .int .i64 (k : Int) ∧ st = .int .i64 (a : Int) ∧ k ≤ s.size ∧ a ≤ k ∧ Hid ((cut 10 (s.data.toList.take k)).2 = (s.data.toList.take k).drop a) ∧ Hid (wr.ownsRow w.heap.size 9 1 v (cut 10 (s.data.toList.take k)).1.length ((cut 10 (s.data.toList.take k)).1.map strV)) ∧ Below w.heap.size w wr)
    (fun _ _ i _ => s.size - (intOf i).toNat)
  case atStart =>
    exact ⟨0, 0, _, rfl, rfl, rfl, Nat.zero_le _, Nat.le_refl _, Lib.hid rfl, Lib.hid (World.ownsRow_nil _ _ _ _), Below.refl _ _⟩
  case round =>
    obtain ⟨k, a, v, rfl, rfl, rfl, hk, hak, HC, HO, hbw⟩ := hrel
    have hsz := hbw.size
    have hcl := cut_len 10 (s.data.toList.take k)
    rw [List.length_take, size_data] at hcl
    by_cases hlt : k < s.size
    · have hlt' : (k : Int) < (s.size : Int) := by omega
      by_cases hc : s[k]'hlt = 10
      · have hc3 : (((s[k]'hlt).toNat : Int) == 10) = true := by rw [hc]; rfl
        obtain ⟨t, ht⟩ : ∃ t, s.extract a k = t := ⟨_, rfl⟩
        have hx : strV (cut 10 (s.data.toList.take k)).2 = .string t := by rw [← ht, extract_is s a k _ HC.out]; rfl
        have HX := Lib.hid hx
        clear hx
        have e1 := cut_hit 10 (s.data.toList.take k)
        have e2 := take_snoc' s k hlt
        rw [hc] at e2
        rw [← e2] at e1
        have E1 := Lib.hid e1
        clear e1 e2
        generalize cut 10 (s.data.toList.take k) = C at *
        go_wp2_with (at_builtin; refine wpList_append_own _ rfl _ _ 38 rfl w.heap.size 9 i0 (.string ⟨#[]⟩) 1 16 Tryd.underlying38 hi hz0 hz1 hz2 rfl (by decide) _ _ _ rfl (HO.out.alloc _) ⟨wr.heap.size, 0, none⟩ 1 1 [.string t] rfl rfl (cell_one_new _ _ _) (by simp [Value.oneCell']) (by unfold maxLen; omega) (by omega) (by simp; omega) ?_; intro v' w1 hown' hgrow _)
        have hb1 := app_below hbw HO.out hgrow
        go_roundw
        case rel =>
          refine ⟨k + 1, k + 1, _, rfl, by go_num, by go_num, by omega, by omega, Lib.hid ?_, Lib.hid ?_, hb1⟩
          · rw [E1.out, List.drop_eq_nil_of_le (by rw [List.length_take]; omega)]
          · rw [E1.out]
            simp only [List.length_append, List.length_singleton, List.map_append, List.map_cons, List.map_nil, HX.out]
            exact hown'
        case measure => simp [intOf]; omega
      · have hc' : (((s[k]'hlt).toNat : Int) == 10) = false := by
          have : (s[k]'hlt).toNat ≠ (10 : UInt8).toNat := fun e => hc (UInt8.toNat_inj.1 e)
          simp at this ⊢; omega
        go_wp2
        go_roundw
        case rel =>
          have e1 := cut_miss 10 (s.data.toList.take k) (s[k]'hlt) hc
          rw [← take_snoc' s k hlt] at e1
          refine ⟨k + 1, a, _, rfl, by go_num, rfl, by omega, by omega, Lib.hid ?_, Lib.hid ?_, hbw⟩
          · rw [e1, drop_take_snoc s a k hak hlt, ← HC.out]
          · rw [e1]; exact HO.out
        case measure => simp [intOf]; omega
    · obtain rfl : k = s.size := by omega
      have hlt' : ¬ (s.size : Int) < (s.size : Int) := by omega
      have htk : s.data.toList.take s.size = s.data.toList := List.take_of_length_le (by rw [size_data]; omega)
      by_cases ha : a < s.size
      · have ha' : (a : Int) < (s.size : Int) := by omega
        obtain ⟨t, ht⟩ : ∃ t, s.extract a s.size = t := ⟨_, rfl⟩
        have hx : strV (cut 10 (s.data.toList.take s.size)).2 = .string t := by rw [← ht, extract_is s a s.size _ HC.out]; rfl
        have hpc : (cut 10 (s.data.toList.take s.size)).1 ++ [(cut 10 (s.data.toList.take s.size)).2] = linesL s.data.toList := by
          have hne : (cut 10 (s.data.toList.take s.size)).2 ≠ [] := by
            rw [HC.out]; intro e
            have := congrArg List.length e
            rw [List.length_drop, List.length_take, size_data] at this
            simp at this; omega
          rw [htk] at hne ⊢
          unfold linesL pcs; rw [lastIf_ne hne]
        have HX := Lib.hid hx
        have HPC := Lib.hid hpc
        clear hx hpc htk
        generalize cut 10 (s.data.toList.take s.size) = C at *
        go_wp2_with (at_builtin; refine wpList_append_own _ rfl _ _ 38 rfl w.heap.size 9 i0 (.string ⟨#[]⟩) 1 16 Tryd.underlying38 hi hz0 hz1 hz2 rfl (by decide) _ _ _ rfl (HO.out.alloc _) ⟨wr.heap.size, 0, none⟩ 1 1 [.string t] rfl rfl (cell_one_new _ _ _) (by simp [Value.oneCell']) (by unfold maxLen; omega) (by omega) (by simp; omega) ?_; intro v' w1 hown' hgrow _)
        have hb1 := app_below hbw HO.out hgrow
        go_ret
        refine ⟨_, rfl, ?_, hb1⟩
        rw [← HPC.out]
        simp only [List.length_append, List.length_singleton, List.map_append, List.map_cons, List.map_nil, HX.out]
        exact hown'
      · have ha' : ¬ (a : Int) < (s.size : Int) := by omega
        have hpc : (cut 10 (s.data.toList.take s.size)).1 = linesL s.data.toList := by
          have hne : (cut 10 (s.data.toList.take s.size)).2 = [] := by
            rw [HC.out]; exact List.drop_eq_nil_of_le (by rw [List.length_take]; omega)
          rw [htk] at hne ⊢
          unfold linesL pcs; rw [hne]; simp [lastIf]
        have HPC := Lib.hid hpc
        clear hpc htk
        go_wp2
        go_ret
        refine ⟨_, rfl, ?_, hbw⟩
        rw [← HPC.out]; exact HO.out

end Go.Proofs.YtbciplfncnangaaDoor
