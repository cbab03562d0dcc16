/- SpanShort. -/
import Derived.Test.YtekcnglkfglbfaaGLsm
import Derived.Test.YtekcnglkfglbfaaBB
namespace Go.Proofs.Ytekcnglkfglbfaa
open Go.RowKit
set_option linter.unusedVariables false

set_option maxRecDepth 100000 in
set_option maxHeartbeats 8000000 in
theorem short_law (nn s t sp : Int) (hold : Bool) (ba : Option Addr) (bc : Nat) (B : List BitT) (w : World) (hr : Row encBit 4 w ba B) (hB : ∀ x ∈ B, BitOk x) (hbl : B.length ≤ maxLen) (hn : ByteB nn) (hs : ByteB s) (ht : ByteB t) (hp : ByteB sp) :
    Calls Try.prog 5 #[.agg #[.int .u8 nn, .bool hold, .slice ba B.length bc, .int .u8 s, .int .u8 t, .int .u8 sp]] w fun e w' => e = .returned (.bool true) ∧ Below w.heap.size w w' := by
  have hb00 := (Below.refl _ w).alloc (Nat.le_refl _) (.cells #[.int .u8 nn, .bool hold, .slice ba B.length bc, .int .u8 s, .int .u8 t, .int .u8 sp] 33)
  have HB := Lib.hid hb00
  have HX := Lib.hid (heap_alloc_new w (.cells #[.int .u8 nn, .bool hold, .slice ba B.length bc, .int .u8 s, .int .u8 t, .int .u8 sp] 33))
  have HR := Lib.hid (hr.below' hb00)
  have x0 := cell_whole HX.out 0
  have x1 := cell_whole HX.out 1
  have x2 := cell_whole HX.out 2
  have x3 := cell_whole HX.out 3
  have x4 := cell_whole HX.out 4
  have x5 := cell_whole HX.out 5
  have HBB := Lib.hid hB
  have HNN := Lib.hid (And.intro hn (And.intro hs (And.intro ht hp)))
  have HBL := Lib.hid hbl
  obtain ⟨N, i, j, H, Z, e1, e2, e3, e4, e5, hN, hi, hj, hij, hH, hzl, hS⟩ := read_facts nn s t sp B
  have E1 := Lib.hid e1
  have E2 := Lib.hid e2
  have E3 := Lib.hid e3
  have E4 := Lib.hid e4
  have E5 := Lib.hid e5
  have HSA := Lib.hid hS
  have hck := small_check (Z := Z) hN (by omega) hS
  have hen := small_ends hck hi hj hij
  have HEN := Lib.hid hen
  have HA0 := Lib.hid (small_ask (H := (H : Int)) hen (by omega) (by omega))
  have HA1 := Lib.hid (small_ask (H := (H : Int) + 1) hen (by omega) (by omega))
  have HA2 := Lib.hid (small_ask (H := (H : Int) + 2) hen (by omega) (by omega))
  have HZL : Hid (Z.length ≤ maxLen) := Lib.hid (by unfold maxLen; omega)
  have HW := Lib.hid (small_net hck)
  have w1 : IntKind.i64.wrap ((H : Int) + 1) = (H : Int) + 1 := IntWalk.i64_in _ (by omega)
  have w2 : IntKind.i64.wrap ((H : Int) + 2) = (H : Int) + 2 := IntWalk.i64_in _ (by omega)
  clear hr hb00 hB hbl hn hs ht hp e1 e2 e3 e4 e5 hS hck hen
  have HWF : Hid (∀ a ∈ Z.filter (fun a => decide (tm a ≤ (H : Int))), SmallA N a) := Lib.hid (fun a ha => HSA.out a (List.mem_filter.1 ha).1)
  go_enter Try.func5, Try.ntmps5
  go_wp2_with (first
    | (go_at_call 9; refine (pawake_any _).mono ?_; rintro e wn ⟨rfl, hb⟩; have HR := Lib.hid (HR.out.below' hb); have hn := kept_box HX.out hb; have HX := Lib.hid hn; have x0 := cell_whole hn 0; have x1 := cell_whole hn 1; have x2 := cell_whole hn 2; have x3 := cell_whole hn 3; have x4 := cell_whole hn 4; have x5 := cell_whole hn 5; have HB := Lib.hid (HB.out.trans (hb.mono HB.out.size)); clear hb hn)
    | (go_at_call 10; refine (read12_10 nn s t sp hold ba bc B _ HR.out HBB.out HBL.out HNN.out.1 HNN.out.2.1 HNN.out.2.2.1 HNN.out.2.2.2).mono ?_; rw [E5.out, E2.out, E3.out, E4.out, E1.out]; rintro e wr ⟨za, zc, rfl, hz, hb⟩; clear x0 x1 x2 x3 x4 x5; have hal := (Below.refl _ wr).alloc (Nat.le_refl _) (.cells #[.int .i64 (N : Int), .bool hold, .slice za Z.length zc] 24); have HNT := Lib.hid (heap_alloc_new wr (.cells #[.int .i64 (N : Int), .bool hold, .slice za Z.length zc] 24)); have HZ := Lib.hid (hz.below' hal); have HB := Lib.hid ((HB.out.trans (hb.mono HB.out.size)).trans (hal.mono (by have h1 := HB.out.size; have h2 := hb.size; omega))); have n0 := cell_whole HNT.out 0; have n1 := cell_whole HNT.out 1; have n2 := cell_whole HNT.out 2; have HGS : Hid (w.heap.size ≤ wr.heap.size) := Lib.hid (by have h1 := HB.out.size; have h2 := hb.size; have h3 := lt_whole HX.out; omega); clear hz hb hal)
    | (go_at_call 11; refine (pmost_G hold za zc Z N i j ((H : Int)) _ HZ.out HZL.out HA0.out).mono ?_; rintro e wn ⟨m0, rfl, hm, hb⟩; have HM0 := Lib.hid hm; have HZ := Lib.hid (HZ.out.below' hb); have hn := kept_box HNT.out hb; have HNT := Lib.hid hn; have n0 := cell_whole hn 0; have n1 := cell_whole hn 1; have n2 := cell_whole hn 2; have HB := Lib.hid (HB.out.trans (hb.mono HB.out.size)); clear hb hm hn HA0))
  have HBW := Lib.hid (Below.refl wn.heap.size wn)
  obtain ⟨gn, hgn⟩ : ∃ gn, wr.heap.size = gn := ⟨_, rfl⟩
  rw [hgn] at HNT n0 n1 n2 ⊢
  have hgl : gn < wn.heap.size := lt_whole HNT.out
  have HGN : Hid (w.heap.size ≤ gn) := Lib.hid (by have := HGS.out; omega)
  clear hgn
  go_loopw [10, 11] (fun ov iv wi => ∃ k : Nat, k ≤ Z.length ∧ iv = .int .i64 (k : Int) ∧ Hid (OwnC wi wn.heap.size ov ((Z.take k).filter (fun a => decide (tm a ≤ (H : Int))))) ∧ Hid (Below wn.heap.size wn wi)) (fun _ iv _ => Z.length - (intOf iv).toNat)
  case atStart => exact ⟨0, Nat.zero_le _, rfl, Lib.hid (World.ownsRow_nil _ _ _ _), HBW⟩
  case round =>
    clear HBW
    obtain ⟨k, hk, rfl, HO, HW2⟩ := hrel
    have hnb := kept_box HNT.out HW2.out
    have HNW := Lib.hid hnb
    have n2 := cell_whole hnb 2
    obtain ⟨oa, oc, hov, _⟩ := HO.out.row
    by_cases hlt : k < Z.length
    · have hli : (k : Int) < (Z.length : Int) := by omega
      obtain ⟨ab, ax, e, hab, c0, c1, c2, c3⟩ := (HZ.out.below' HW2.out).arc hlt
      cases e
      have HTK := Lib.hid (filter_takeA (p := fun a => decide (tm a ≤ (H : Int))) hlt)
      have hSl : ((Z.take k).filter (fun a => decide (tm a ≤ (H : Int)))).length ≤ 200000 := by
        have h1 := List.length_filter_le (fun a => decide (tm a ≤ (H : Int))) (Z.take k)
        rw [List.length_take] at h1
        omega
      generalize Z[k] = a at *
      generalize (Z.take k).filter (fun a => decide (tm a ≤ (H : Int))) = S at *
      subst hov
      obtain ⟨y1, y2, y3, y4⟩ := a
      simp only at c0 c1 c2 c3
      by_cases hc : y4 ≤ (H : Int)
      · have HH : Hid ((Z.take (k + 1)).filter (fun a => decide (tm a ≤ (H : Int))) = S ++ [(y1, y2, y3, y4)]) := Lib.hid (by rw [HTK.out, if_pos (by rw [decide_eq_true_eq]; exact hc)])
        go_wp2_with (first
          | (at_builtin; refine wpList_append_arcC rfl _ _ rfl wn.heap.size _ S (y1, y2, y3, y4) rfl (HO.out.below ((Below.refl _ _).alloc (Nat.le_refl _) (.cells #[.int .i64 y1, .int .i64 y2, .int .i64 y3, .int .i64 y4] 40))) _ 1 rfl (cells4C _ _ _ rfl (y1, y2, y3, y4)) hSl (by have := HW2.out.size; simp; omega) ?_; intro g4 cap4 w4 ho4 hg4 hl4 hb4 hlt4; have HO4 := Lib.hid ho4; have HB4 := Lib.hid (below_grown (HW2.out.alloc HW2.out.size (.cells #[.int .i64 y1, .int .i64 y2, .int .i64 y3, .int .i64 y4] 40)) (by have := HW2.out.size; simp; omega) hg4 (fun g e => own_block HO.out e)); clear ho4 hg4 hl4))
        go_roundw
        case rel => exact ⟨k + 1, by omega, by go_num, Lib.hid (by rw [HH.out]; exact HO4.out), HB4⟩
        case measure => simp [intOf]; omega
      · have HH : Hid ((Z.take (k + 1)).filter (fun a => decide (tm a ≤ (H : Int))) = S) := Lib.hid (by rw [HTK.out, if_neg (by rw [decide_eq_true_eq]; exact hc), List.append_nil])
        go_wp2
        go_roundw
        case rel => exact ⟨k + 1, by omega, by go_num, Lib.hid (by rw [HH.out]; exact HO.out), HW2⟩
        case measure => simp [intOf]; omega
    · have hli : ¬ (k : Int) < (Z.length : Int) := by omega
      obtain rfl : k = Z.length := by omega
      rw [List.take_length] at HO hov
      subst hov
      have HSH := Lib.hid (fun m1 (h1 : IsBest (Z.filter (fun a => decide (tm a ≤ (H : Int)))) N i j (H : Int) m1) => best_short HW.out.lt (fun a ha => (HW.out.times a ha).1) (fun a ha => (HW.out.caps a ha).1) hi hj hij (by omega) HM0.out h1)
      have hYl : (Z.filter (fun a => decide (tm a ≤ (H : Int)))).length ≤ 10 := Nat.le_trans (List.length_filter_le _ _) hzl
      generalize Z.filter (fun a => decide (tm a ≤ (H : Int))) = Y at *
      have hck := small_check (Z := Y) hN (by omega) HWF.out
      have HAY := Lib.hid (small_ask (H := (H : Int)) (small_ends hck hi hj hij) (by omega) (by omega))
      have HYL : Hid (Y.length ≤ maxLen) := Lib.hid (by unfold maxLen; omega)
      have f2 := frozen_whole hnb 2
      have hset := set_whole hnb 2 (.slice oa Y.length oc)
      have HNS := Lib.hid hset
      have hOS : OwnC (wr.setCell ⟨gn, 2, none⟩ (.slice oa Y.length oc)) wn.heap.size (.slice oa Y.length oc) Y := ownsRow_setCell_below HO.out (a := ⟨gn, 2, none⟩) hgl _
      have HBS := Lib.hid (below_set ((HB.out).trans (HW2.out.mono HB.out.size)) (g := gn) (j := 2) HGN.out (.slice oa Y.length oc))
      obtain ⟨oa2, oc2, e, hYr⟩ := hOS.row
      injection e with e1 e2 e3
      subst e1
      have HYR := Lib.hid hYr
      have s0 := cell_whole HNS.out 0
      have s1 := cell_whole HNS.out 1
      have s2 := cell_whole HNS.out 2
      clear hck hset hOS hYr e2 e3
      go_wp2_with (first
        | (go_at_call 11; refine (pmost_G hold oa oc Y N i j (H : Int) _ HYR.out HYL.out HAY.out).mono ?_; rintro e w9 ⟨m1, rfl, hm, hb⟩; obtain rfl := HSH.out m1 hm; have HB9 := Lib.hid (HBS.out.trans (hb.mono HBS.out.size)); clear hb hm HAY))
      go_ret
      exact ⟨by simp, HB9.out⟩
end Go.Proofs.Ytekcnglkfglbfaa
