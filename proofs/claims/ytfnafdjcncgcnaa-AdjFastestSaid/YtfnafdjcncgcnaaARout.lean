/- The document's Out and In, of any network. -/
import Derived.Test.YtfnafdjcncgcnaaARest
namespace Go.Proofs.Ytfnafdjcncgcnaa
open Go.RowKit
set_option linter.unusedVariables false

set_option maxRecDepth 100000 in
set_option maxHeartbeats 4000000 in
theorem rout_ok (n : Int) (b : Bool) (ao : Option Addr) (cap : Nat) (Z : List ArcT) (w : World) (h : Row encA 4 w ao Z) (hc : checkE n Z = 0) :
    Calls Try.prog 11 #[.agg #[.int .i64 n, .bool b, .slice ao Z.length cap]] w (GroupsV (lists frN Z n.toNat) 0 w) := by
  have hR : Right (n, b, Z) := right_iff.1 hc
  have hn := nodesE_ok hR.1
  have hzl : Z.length ≤ 200 := hR.2.1
  simp only at hn
  obtain ⟨N, rfl⟩ : ∃ N : Nat, n = (N : Int) := ⟨n.toNat, by omega⟩
  have HC := Lib.hid hc
  have HRT := Lib.hid hR
  have HR := Lib.hid (row_alloc h (.cells #[.int .i64 (N : Int), .bool b, .slice ao Z.length cap] 24))
  clear h hc hR
  go_enter Try.func11, Try.ntmps11
  have c0 := cell_new w #[.int .i64 (N : Int), .bool b, .slice ao Z.length cap] 24 0
  have c2 := cell_new w #[.int .i64 (N : Int), .bool b, .slice ao Z.length cap] 24 2
  have HB0 : Hid (Below w.heap.size w (w.alloc (.cells #[.int .i64 (N : Int), .bool b, .slice ao Z.length cap] 24))) := Lib.hid ((Below.refl _ w).alloc (Nat.le_refl _) _)
  go_wp2_with (first
    | (go_at_call 24; refine (rcheck_any (N : Int) b ao cap Z _ HR.out (by unfold maxLen; omega)).mono ?_; rintro e w1 ⟨rfl, hb1⟩; rw [HC.out]; have d0 := cell_below hb1 c0; have d2 := cell_below hb1 c2; have HR1 := Lib.hid (HR.out.below' hb1); have HB1 := Lib.hid (HB0.out.trans (hb1.mono (by simp))); clear hb1 c0 c2))
  have hl0 := block_lt_of_cell d0
  go_loopw [5, 6] (fun ov i wr => ∃ v : Nat, v ≤ N ∧ i = .int .i64 (v : Int) ∧ Hid (Below w1.heap.size w1 wr) ∧ Hid (RG w1 wr ov (lists frN Z v))) (fun _ i _ => N - (intOf i).toNat)
  case atStart => exact ⟨0, Nat.zero_le _, rfl, Lib.hid (Below.refl _ _), Lib.hid (RG.start _)⟩
  case round =>
    obtain ⟨v, hv, rfl, HB, HG⟩ := hrel
    obtain ⟨wo, hwo⟩ : ∃ wo, wo = wr := ⟨_, rfl⟩
    subst hwo
    have e0 := cell_below' HB.out d0 hl0
    have hs := HB.out.size
    by_cases hlt : v < N
    · have hli : (v : Int) < (N : Int) := by omega
      go_wp2
      go_loopw [7, 8] (fun lv i wi => ∃ k : Nat, k ≤ Z.length ∧ i = .int .i64 (k : Int) ∧ Hid (Below wo.heap.size wo wi) ∧ Hid (OwnL encI wi wo.heap.size 3 lv (natI (places frN (Z.take k) v)))) (fun _ i _ => Z.length - (intOf i).toNat)
      case atStart => exact ⟨0, Nat.zero_le _, rfl, Lib.hid (Below.refl _ _), Lib.hid (OwnL.nil _ _ _)⟩
      case round =>
        obtain ⟨k, hk, rfl, HB2, HO⟩ := hrel
        have hs2 := HB2.out.size
        have HBw := Lib.hid (HB.out.trans (HB2.out.mono hs))
        have f2 := cell_below' HBw.out d2 (block_lt_of_cell d2)
        obtain ⟨la, lc, hlv, hll⟩ := HO.out.lst
        by_cases hk2 : k < Z.length
        · have hki : (k : Int) < (Z.length : Int) := by omega
          have hpa : Z[k]? = some Z[k] := List.getElem?_eq_getElem hk2
          obtain ⟨h1, h2, h3, h4, h5, h6⟩ := right_arc HRT.out (List.mem_of_getElem? hpa)
          obtain ⟨ab, ax, e, hab, a0, a1, _, _⟩ := arc_at (HR1.out.below' HBw.out) hpa
          cases e
          rw [h1] at a0
          have HT : Hid (Z.take (k + 1) = Z.take k ++ [Z[k]]) := Lib.hid (List.take_succ_eq_append_getElem hk2)
          have HTL : Hid ((Z.take k).length = k) := Lib.hid (by rw [List.length_take]; omega)
          have HSN := Lib.hid (places_snoc frN (Z.take k) Z[k] v)
          have hpl := places_len frN (Z.take k) v
          rw [HTL.out] at hpl
          have hpn := natI_len (places frN (Z.take k) v)
          clear hpa h1 h2 h3 h4 h5 h6 hll
          generalize Z[k] = a at *
          generalize frN a = x at *
          subst hlv
          by_cases hx : x = v
          · subst hx
            have HO3 := Lib.hid (HO.out.alloc (.cells #[.int .i64 (k : Int)] 3))
            have hroom : (natI (places frN (Z.take k) x)).length ≤ 200000 := by omega
            clear hpn hpl
            go_wp2_with (first
              | (at_builtin; refine wpList_append_one (enc := encI) Try.underlying32 infoInt rfl (by omega) rfl _ _ rfl wo.heap.size _ (natI (places frN (Z.take k) x)) (k : Int) rfl rfl HO3.out _ 1 rfl (cell_new' (by simp) _ _ 0) hroom (by simp; omega) ?_; intro g4 cap4 w4 ho4 hg4 hl4 hb4 hlt4; have HO4 := Lib.hid ho4; have HB4 := Lib.hid (below_grown (HB2.out.alloc hs2 (.cells #[.int .i64 (k : Int)] 3)) (by simp; omega) hg4 (fun g e => own_block HO3.out e)); clear ho4 hg4 hl4))
            go_roundw
            case rel => exact ⟨k + 1, by omega, by go_num, HB4, Lib.hid (by rw [HT.out, HSN.out, if_pos rfl, HTL.out, natI_snoc]; exact HO4.out)⟩
            case measure => simp [intOf]; omega
          · have hf1 : ((x : Int) == (v : Int)) = false := by simp; omega
            have hf2 : ¬ (x : Int) = (v : Int) := by omega
            have HX := Lib.hid hx
            clear hx
            go_wp2
            go_roundw
            case rel => exact ⟨k + 1, by omega, by go_num, HB2, Lib.hid (by rw [HT.out, HSN.out, if_neg HX.out, List.append_nil]; exact HO.out)⟩
            case measure => simp [intOf]; omega
        · have hki : ¬ (k : Int) < (Z.length : Int) := by omega
          obtain rfl : k = Z.length := by omega
          have hO := HO.out
          rw [List.take_length] at hO hll hlv
          subst hlv
          have hG := HG.out.below HB2.out
          have hGlt := HG.out.lt
          obtain ⟨vs, ho, hvl, hvi⟩ := hG
          have HV := Lib.hid (And.intro hvl hvi)
          have hvN : vs.length ≤ 200000 := by rw [hvl, lists_len]; omega
          have HO3 := Lib.hid (ho.alloc (.cells #[.slice la (natI (places frN Z v)).length lc] 32))
          have hbl : ∀ ad, la = some ad → 0 < (places frN Z v).length → wo.heap.size ≤ ad.block := by
            intro ad e h0
            subst e
            exact own_block hO rfl
          have HBL := Lib.hid hbl
          have HGL := Lib.hid hGlt
          have HLL := Lib.hid hll
          have HPN := Lib.hid (natI_len (places frN Z v))
          clear hO ho hvl hvi hbl hGlt hll
          go_wp2_with (first
            | (at_builtin; refine wpList_append_one (enc := encV) Try.underlying25 infoInts rfl (by omega) rfl _ _ rfl w1.heap.size _ vs (.slice la (natI (places frN Z v)).length lc) rfl rfl HO3.out _ 1 rfl (cell_new' (by simp) _ _ 0) hvN (by simp; omega) ?_; intro g4 cap4 w4 ho4 hg4 hl4 hb4 hlt4; have HO4 := Lib.hid ho4; have HG4 := Lib.hid hg4; have HL4 := Lib.hid hl4; have HB4 := Lib.hid (below_grown ((HBw.out.alloc (by omega) (.cells #[.slice la (natI (places frN Z v)).length lc] 32))) (by simp; omega) hg4 (fun g e => own_block HO3.out e)); clear ho4 hg4 hl4))
          go_roundw
          case rel =>
            refine ⟨v + 1, by omega, by go_num, HB4, Lib.hid ?_⟩
            have e1 : lists frN Z (v + 1) = lists frN Z v ++ [places frN Z v] := by simp [lists, List.range_succ]
            rw [e1]
            have ba := (Below.refl wr.heap.size wr).alloc (Nat.le_refl _) (.cells #[.slice la (natI (places frN Z v)).length lc] 32)
            refine RG.push (w := wr.alloc (.cells #[.slice la (natI (places frN Z v)).length lc] 32)) HV.out.1 (fun i hi => ?_) (HLL.out.below ba) (fun ad e h0 e2 => ?_) (by have h := HO4.out; rw [HPN.out] at h; exact h) HG4.out HL4.out
            · obtain ⟨ao', c', q1, q2, q3⟩ := HV.out.2 i hi
              exact ⟨ao', c', q1, q2.below ba, q3⟩
            · have q1 := HBL.out ad e h0
              have q2 := HGL.out _ e2.symm
              omega
          case measure => simp [intOf]; omega
    · have hli : ¬ (v : Int) < (N : Int) := by omega
      obtain rfl : v = N := by omega
      obtain ⟨ga, gc, hov, hgr⟩ := HG.out.row
      subst hov
      have HGR := Lib.hid hgr
      have HLN := Lib.hid (lists_len frN Z v)
      clear hgr
      go_wp2
      go_ret2
      exact ⟨ga, gc, rfl, HGR.out, HB1.out.trans (HB.out.mono HB1.out.size)⟩
theorem rout_no (n : Int) (b : Bool) (ao : Option Addr) (cap : Nat) (Z : List ArcT) (w : World) (e0 : Int) (h : Row encA 4 w ao Z) (hm : Z.length ≤ maxLen) (he : checkE n Z = e0) (h0 : e0 ≠ 0) :
    Calls Try.prog 11 #[.agg #[.int .i64 n, .bool b, .slice ao Z.length cap]] w fun e w' => e = .returned (.tuple #[.slice none 0 0, .int .i64 e0]) ∧ Below w.heap.size w w' := by
  have HE := Lib.hid he
  have HR := Lib.hid (row_alloc h (.cells #[.int .i64 n, .bool b, .slice ao Z.length cap] 24))
  have HM := Lib.hid hm
  have hf2 : (e0 != 0) = true := by simpa using h0
  have hf1 : (e0 == 0) = false := by simpa using h0
  clear h he hm h0
  have HB0 : Hid (Below w.heap.size w (w.alloc (.cells #[.int .i64 n, .bool b, .slice ao Z.length cap] 24))) := Lib.hid ((Below.refl _ w).alloc (Nat.le_refl _) _)
  go_enter Try.func11, Try.ntmps11
  go_wp2_with (go_at_call 24; refine (rcheck_any n b ao cap Z _ HR.out HM.out).mono ?_; rintro e w1 ⟨rfl, hb1⟩; rw [HE.out]; have HB1 := Lib.hid (HB0.out.trans (hb1.mono (by simp))); clear hb1)
  go_ret2
  exact ⟨rfl, HB1.out⟩
theorem rout_any (n : Int) (b : Bool) (ao : Option Addr) (cap : Nat) (Z : List ArcT) (w : World) (h : Row encA 4 w ao Z) (hm : Z.length ≤ maxLen) :
    Calls Try.prog 11 #[.agg #[.int .i64 n, .bool b, .slice ao Z.length cap]] w (GroupsV (listsL frN n Z) (checkE n Z) w) := by
  by_cases h0 : checkE n Z = 0
  · unfold listsL
    rw [if_pos h0, h0]
    exact rout_ok n b ao cap Z w h h0
  · unfold listsL
    rw [if_neg h0]
    refine (rout_no n b ao cap Z w _ h hm rfl h0).mono ?_
    rintro e w' ⟨rfl, hb⟩
    exact ⟨none, 0, rfl, GRow.nil _ _, hb⟩
set_option maxRecDepth 100000 in
set_option maxHeartbeats 4000000 in
theorem rin_ok (n : Int) (b : Bool) (ao : Option Addr) (cap : Nat) (Z : List ArcT) (w : World) (h : Row encA 4 w ao Z) (hc : checkE n Z = 0) :
    Calls Try.prog 13 #[.agg #[.int .i64 n, .bool b, .slice ao Z.length cap]] w (GroupsV (lists toN Z n.toNat) 0 w) := by
  have hR : Right (n, b, Z) := right_iff.1 hc
  have hn := nodesE_ok hR.1
  have hzl : Z.length ≤ 200 := hR.2.1
  simp only at hn
  obtain ⟨N, rfl⟩ : ∃ N : Nat, n = (N : Int) := ⟨n.toNat, by omega⟩
  have HC := Lib.hid hc
  have HRT := Lib.hid hR
  have HR := Lib.hid (row_alloc h (.cells #[.int .i64 (N : Int), .bool b, .slice ao Z.length cap] 24))
  clear h hc hR
  go_enter Try.func13, Try.ntmps13
  have c0 := cell_new w #[.int .i64 (N : Int), .bool b, .slice ao Z.length cap] 24 0
  have c2 := cell_new w #[.int .i64 (N : Int), .bool b, .slice ao Z.length cap] 24 2
  have HB0 : Hid (Below w.heap.size w (w.alloc (.cells #[.int .i64 (N : Int), .bool b, .slice ao Z.length cap] 24))) := Lib.hid ((Below.refl _ w).alloc (Nat.le_refl _) _)
  go_wp2_with (first
    | (go_at_call 24; refine (rcheck_any (N : Int) b ao cap Z _ HR.out (by unfold maxLen; omega)).mono ?_; rintro e w1 ⟨rfl, hb1⟩; rw [HC.out]; have d0 := cell_below hb1 c0; have d2 := cell_below hb1 c2; have HR1 := Lib.hid (HR.out.below' hb1); have HB1 := Lib.hid (HB0.out.trans (hb1.mono (by simp))); clear hb1 c0 c2))
  have hl0 := block_lt_of_cell d0
  go_loopw [5, 6] (fun ov i wr => ∃ v : Nat, v ≤ N ∧ i = .int .i64 (v : Int) ∧ Hid (Below w1.heap.size w1 wr) ∧ Hid (RG w1 wr ov (lists toN Z v))) (fun _ i _ => N - (intOf i).toNat)
  case atStart => exact ⟨0, Nat.zero_le _, rfl, Lib.hid (Below.refl _ _), Lib.hid (RG.start _)⟩
  case round =>
    obtain ⟨v, hv, rfl, HB, HG⟩ := hrel
    obtain ⟨wo, hwo⟩ : ∃ wo, wo = wr := ⟨_, rfl⟩
    subst hwo
    have e0 := cell_below' HB.out d0 hl0
    have hs := HB.out.size
    by_cases hlt : v < N
    · have hli : (v : Int) < (N : Int) := by omega
      go_wp2
      go_loopw [7, 8] (fun lv i wi => ∃ k : Nat, k ≤ Z.length ∧ i = .int .i64 (k : Int) ∧ Hid (Below wo.heap.size wo wi) ∧ Hid (OwnL encI wi wo.heap.size 3 lv (natI (places toN (Z.take k) v)))) (fun _ i _ => Z.length - (intOf i).toNat)
      case atStart => exact ⟨0, Nat.zero_le _, rfl, Lib.hid (Below.refl _ _), Lib.hid (OwnL.nil _ _ _)⟩
      case round =>
        obtain ⟨k, hk, rfl, HB2, HO⟩ := hrel
        have hs2 := HB2.out.size
        have HBw := Lib.hid (HB.out.trans (HB2.out.mono hs))
        have f2 := cell_below' HBw.out d2 (block_lt_of_cell d2)
        obtain ⟨la, lc, hlv, hll⟩ := HO.out.lst
        by_cases hk2 : k < Z.length
        · have hki : (k : Int) < (Z.length : Int) := by omega
          have hpa : Z[k]? = some Z[k] := List.getElem?_eq_getElem hk2
          obtain ⟨h1, h2, h3, h4, h5, h6⟩ := right_arc HRT.out (List.mem_of_getElem? hpa)
          obtain ⟨ab, ax, e, hab, a0, a1, _, _⟩ := arc_at (HR1.out.below' HBw.out) hpa
          cases e
          rw [h2] at a1
          have HT : Hid (Z.take (k + 1) = Z.take k ++ [Z[k]]) := Lib.hid (List.take_succ_eq_append_getElem hk2)
          have HTL : Hid ((Z.take k).length = k) := Lib.hid (by rw [List.length_take]; omega)
          have HSN := Lib.hid (places_snoc toN (Z.take k) Z[k] v)
          have hpl := places_len toN (Z.take k) v
          rw [HTL.out] at hpl
          have hpn := natI_len (places toN (Z.take k) v)
          clear hpa h1 h2 h3 h4 h5 h6 hll
          generalize Z[k] = a at *
          generalize toN a = x at *
          subst hlv
          by_cases hx : x = v
          · subst hx
            have HO3 := Lib.hid (HO.out.alloc (.cells #[.int .i64 (k : Int)] 3))
            have hroom : (natI (places toN (Z.take k) x)).length ≤ 200000 := by omega
            clear hpn hpl
            go_wp2_with (first
              | (at_builtin; refine wpList_append_one (enc := encI) Try.underlying32 infoInt rfl (by omega) rfl _ _ rfl wo.heap.size _ (natI (places toN (Z.take k) x)) (k : Int) rfl rfl HO3.out _ 1 rfl (cell_new' (by simp) _ _ 0) hroom (by simp; omega) ?_; intro g4 cap4 w4 ho4 hg4 hl4 hb4 hlt4; have HO4 := Lib.hid ho4; have HB4 := Lib.hid (below_grown (HB2.out.alloc hs2 (.cells #[.int .i64 (k : Int)] 3)) (by simp; omega) hg4 (fun g e => own_block HO3.out e)); clear ho4 hg4 hl4))
            go_roundw
            case rel => exact ⟨k + 1, by omega, by go_num, HB4, Lib.hid (by rw [HT.out, HSN.out, if_pos rfl, HTL.out, natI_snoc]; exact HO4.out)⟩
            case measure => simp [intOf]; omega
          · have hf1 : ((x : Int) == (v : Int)) = false := by simp; omega
            have hf2 : ¬ (x : Int) = (v : Int) := by omega
            have HX := Lib.hid hx
            clear hx
            go_wp2
            go_roundw
            case rel => exact ⟨k + 1, by omega, by go_num, HB2, Lib.hid (by rw [HT.out, HSN.out, if_neg HX.out, List.append_nil]; exact HO.out)⟩
            case measure => simp [intOf]; omega
        · have hki : ¬ (k : Int) < (Z.length : Int) := by omega
          obtain rfl : k = Z.length := by omega
          have hO := HO.out
          rw [List.take_length] at hO hll hlv
          subst hlv
          have hG := HG.out.below HB2.out
          have hGlt := HG.out.lt
          obtain ⟨vs, ho, hvl, hvi⟩ := hG
          have HV := Lib.hid (And.intro hvl hvi)
          have hvN : vs.length ≤ 200000 := by rw [hvl, lists_len]; omega
          have HO3 := Lib.hid (ho.alloc (.cells #[.slice la (natI (places toN Z v)).length lc] 32))
          have hbl : ∀ ad, la = some ad → 0 < (places toN Z v).length → wo.heap.size ≤ ad.block := by
            intro ad e h0
            subst e
            exact own_block hO rfl
          have HBL := Lib.hid hbl
          have HGL := Lib.hid hGlt
          have HLL := Lib.hid hll
          have HPN := Lib.hid (natI_len (places toN Z v))
          clear hO ho hvl hvi hbl hGlt hll
          go_wp2_with (first
            | (at_builtin; refine wpList_append_one (enc := encV) Try.underlying25 infoInts rfl (by omega) rfl _ _ rfl w1.heap.size _ vs (.slice la (natI (places toN Z v)).length lc) rfl rfl HO3.out _ 1 rfl (cell_new' (by simp) _ _ 0) hvN (by simp; omega) ?_; intro g4 cap4 w4 ho4 hg4 hl4 hb4 hlt4; have HO4 := Lib.hid ho4; have HG4 := Lib.hid hg4; have HL4 := Lib.hid hl4; have HB4 := Lib.hid (below_grown ((HBw.out.alloc (by omega) (.cells #[.slice la (natI (places toN Z v)).length lc] 32))) (by simp; omega) hg4 (fun g e => own_block HO3.out e)); clear ho4 hg4 hl4))
          go_roundw
          case rel =>
            refine ⟨v + 1, by omega, by go_num, HB4, Lib.hid ?_⟩
            have e1 : lists toN Z (v + 1) = lists toN Z v ++ [places toN Z v] := by simp [lists, List.range_succ]
            rw [e1]
            have ba := (Below.refl wr.heap.size wr).alloc (Nat.le_refl _) (.cells #[.slice la (natI (places toN Z v)).length lc] 32)
            refine RG.push (w := wr.alloc (.cells #[.slice la (natI (places toN Z v)).length lc] 32)) HV.out.1 (fun i hi => ?_) (HLL.out.below ba) (fun ad e h0 e2 => ?_) (by have h := HO4.out; rw [HPN.out] at h; exact h) HG4.out HL4.out
            · obtain ⟨ao', c', q1, q2, q3⟩ := HV.out.2 i hi
              exact ⟨ao', c', q1, q2.below ba, q3⟩
            · have q1 := HBL.out ad e h0
              have q2 := HGL.out _ e2.symm
              omega
          case measure => simp [intOf]; omega
    · have hli : ¬ (v : Int) < (N : Int) := by omega
      obtain rfl : v = N := by omega
      obtain ⟨ga, gc, hov, hgr⟩ := HG.out.row
      subst hov
      have HGR := Lib.hid hgr
      have HLN := Lib.hid (lists_len toN Z v)
      clear hgr
      go_wp2
      go_ret2
      exact ⟨ga, gc, rfl, HGR.out, HB1.out.trans (HB.out.mono HB1.out.size)⟩
theorem rin_no (n : Int) (b : Bool) (ao : Option Addr) (cap : Nat) (Z : List ArcT) (w : World) (e0 : Int) (h : Row encA 4 w ao Z) (hm : Z.length ≤ maxLen) (he : checkE n Z = e0) (h0 : e0 ≠ 0) :
    Calls Try.prog 13 #[.agg #[.int .i64 n, .bool b, .slice ao Z.length cap]] w fun e w' => e = .returned (.tuple #[.slice none 0 0, .int .i64 e0]) ∧ Below w.heap.size w w' := by
  have HE := Lib.hid he
  have HR := Lib.hid (row_alloc h (.cells #[.int .i64 n, .bool b, .slice ao Z.length cap] 24))
  have HM := Lib.hid hm
  have hf2 : (e0 != 0) = true := by simpa using h0
  have hf1 : (e0 == 0) = false := by simpa using h0
  clear h he hm h0
  have HB0 : Hid (Below w.heap.size w (w.alloc (.cells #[.int .i64 n, .bool b, .slice ao Z.length cap] 24))) := Lib.hid ((Below.refl _ w).alloc (Nat.le_refl _) _)
  go_enter Try.func13, Try.ntmps13
  go_wp2_with (go_at_call 24; refine (rcheck_any n b ao cap Z _ HR.out HM.out).mono ?_; rintro e w1 ⟨rfl, hb1⟩; rw [HE.out]; have HB1 := Lib.hid (HB0.out.trans (hb1.mono (by simp))); clear hb1)
  go_ret2
  exact ⟨rfl, HB1.out⟩
theorem rin_any (n : Int) (b : Bool) (ao : Option Addr) (cap : Nat) (Z : List ArcT) (w : World) (h : Row encA 4 w ao Z) (hm : Z.length ≤ maxLen) :
    Calls Try.prog 13 #[.agg #[.int .i64 n, .bool b, .slice ao Z.length cap]] w (GroupsV (listsL toN n Z) (checkE n Z) w) := by
  by_cases h0 : checkE n Z = 0
  · unfold listsL
    rw [if_pos h0, h0]
    exact rin_ok n b ao cap Z w h h0
  · unfold listsL
    rw [if_neg h0]
    refine (rin_no n b ao cap Z w _ h hm rfl h0).mono ?_
    rintro e w' ⟨rfl, hb⟩
    exact ⟨none, 0, rfl, GRow.nil _ _, hb⟩
end Go.Proofs.Ytfnafdjcncgcnaa
