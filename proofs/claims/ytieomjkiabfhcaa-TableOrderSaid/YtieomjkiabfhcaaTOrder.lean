/- The walk of statement TableOrder. -/
import Derived.Test.YtieomjkiabfhcaaTOrd
import Derived.Test.YtieomjkiabfhcaaTView
import Derived.Laws.AppendOwnNone
namespace Go.Proofs.Ytieomjkiabfhcaa
open Go.RowKit Go.WideShapes Go.ChangeShapes Go.Deep
set_option linter.unusedVariables false

theorem viewSlots0 {H : Type} {enc : TypeId × Value → H} {W : World} {fuel : Nat} {a0 : Option Addr} {len cap : Nat} {d : DataW H} {p : List MemPlace}
    (hf : DataW.trod enc Try.prog W 0 (fun _ => true) true fuel 41 (Value.slice a0 len cap).cells.toList = some (d, p)) :
    ∃ Z : List (Int × Int), Z.length = len ∧ len ≤ maxLen ∧ Row encP 2 W a0 Z ∧ ((∀ x ∈ Z, okP x) ∧ (a0 = none → cap = 0)) := by
  obtain ⟨Z, h1, h2, h3, h4⟩ := viewSlots hf
  refine ⟨Z, h1, h2, h3, h4, fun e => ?_⟩
  rcases open_slice Try.underlying41 hf with ⟨h0, _⟩ | ⟨a, len', cap', m, n, D, Pl, hcs, _⟩
  · simp [Value.cells] at h0; exact h0.2.2
  · simp [Value.cells] at hcs; rw [hcs.1] at e; cases e
theorem moves_at (ao : Option Addr) (len cap : Nat) (Z : List MoveT) (w : World) (hl : Z.length = len) (h : Row encK 3 w ao Z) (hok : ∀ x ∈ Z, okK x) (hn : Z.length ≤ 200) : Calls Try.prog 29 #[.slice ao len cap] w (MovesRes Z w) := by
  subst hl; exact moves_any ao cap Z w h hok hn
theorem slots_at (ao : Option Addr) (len cap : Nat) (Z : List (Int × Int)) (w : World) (hl : Z.length = len) (h : Row encP 2 w ao Z) (hok : ∀ x ∈ Z, okP x) (hn : Z.length ≤ 200) : Calls Try.prog 27 #[.slice ao len cap] w (SlotsRes Z w) := by
  subst hl; exact slots_any ao cap Z w h hok hn
theorem perm_rev (Z : List MoveT) : Z.Perm Z.reverse := (List.reverse_perm Z).symm
theorem flat_cells {w : World} {ad : Addr} {Z : List (Int × Int)} (h : Row encP 2 w (some ad) Z) : ∀ j u, (Z.flatMap encP)[j]? = some u → w.cell? (ad.add j) = some u := by
  intro j u hj
  have hjl : j < Z.length * 2 := by
    have := (List.getElem?_eq_some_iff.1 hj).1
    rwa [flat_len encP_len] at this
  obtain ⟨i, k, rfl, hk, hi⟩ := flat_split encP_len Z hjl
  obtain ⟨b, o, e, _, hc⟩ := h i hi
  cases e
  rw [flat_get encP_len Z i k hk, List.getElem?_eq_getElem hi] at hj
  rw [Addr.add_lit, ← Nat.add_assoc, hc k hk]
  exact hj
theorem flat_one (Z : List (Int × Int)) : ∀ u ∈ Z.flatMap encP, u.oneCell' = true := by
  intro u hu
  obtain ⟨x, _, hx⟩ := List.mem_flatMap.1 hu
  exact encP_one x u hx
/-- Slots appended to a row of the call's own. -/
theorem wpList_append_slots {w : World} {ops : Array Oper} {rest : List Oper} {o : Oper} {a : Act} {Q : Exit → Act → World → Prop} (hgd : o.guard = none) (s y : Operand)
    (ho : o.op = .call { callee := .builtin .append, args := #[s, y], argTypes := #[41, 41] }) (base : Nat) (v : Value) (A Z : List (Int × Int)) (hs : a.eval s = v) (hown : w.ownsRow base 74 2 v A.length (A.flatMap encP))
    (ao : Option Addr) (c : Nat) (hx : a.eval y = .slice ao Z.length c) (hc0 : ao = none → c = 0) (hr : Row encP 2 w ao Z) (hA : A.length ≤ 200) (hZ : Z.length ≤ 200) (hbase : base ≤ w.heap.size)
    (hK : ∀ v' w', w'.ownsRow base 74 2 v' (A ++ Z).length ((A ++ Z).flatMap encP) → w.grownBy w' v.ownBlock → wpList Try.prog ops Q rest (a.put o.dst v') w') : wpList Try.prog ops Q (o :: rest) a w := by
  obtain ⟨i0, hi, hz0, hz1, hz2⟩ := info_parts infoSlot
  cases ao with
  | none =>
    have hZ0 : Z = [] := by
      cases Z with
      | nil => rfl
      | cons z Z => obtain ⟨b, o, e, _⟩ := hr 0 (by simp); cases e
    subst hZ0
    refine wpList_append_own_none hgd s y 41 ho base 74 i0 2 Try.underlying41 hi v A.length (A.flatMap encP) hs hown (by rw [hx, hc0 rfl]; rfl) ?_
    have := hK v w (by rw [List.append_nil]; exact hown) ⟨rfl, rfl, rfl, Nat.le_refl _, fun _ _ _ => rfl⟩
    exact this
  | some ad =>
    refine wpList_append_own_at w hgd s y 41 ho base 74 i0 _ 2 16 Try.underlying41 hi hz0 hz1 hz2 rfl (by omega) v A.length (A.flatMap encP) hs hown ad Z.length c (Z.flatMap encP) hx (flat_len encP_len Z) (flat_cells hr) (flat_one Z) (by unfold maxLen; omega) (by omega) hbase ?_
    intro v' w' h1 h2 _ _
    exact hK v' w' (by rw [List.length_append, List.flatMap_append]; exact h1) h2
def backTo (Z : List MoveT) (j : Nat) : List MoveT := Z.reverse.take j
theorem backTo_step {Z : List MoveT} {j : Nat} (hj : j < Z.length) : backTo Z (j + 1) = backTo Z j ++ [Z[Z.length - 1 - j]'(by omega)] := by
  unfold backTo
  refine take_snoc' ?_
  rw [List.getElem?_eq_getElem (by simpa using hj), List.getElem_reverse]
theorem backTo_len (Z : List MoveT) (j : Nat) : (backTo Z j).length ≤ Z.length := by unfold backTo; rw [List.length_take, List.length_reverse]; omega
theorem backTo_all (Z : List MoveT) : backTo Z Z.length = Z.reverse := by unfold backTo; rw [List.take_of_length_le (by simp)]
set_option maxRecDepth 100000 in
set_option maxHeartbeats 3000000 in
theorem order_law (w : World) (ao : Option Addr) (len cap : Nat) (Z : List MoveT) (hl : Z.length = len) (hm : len ≤ maxLen) (hr : Row encK 3 w ao Z) (hk : ∀ x ∈ Z, okK x)
    (so : Option Addr) (slen scap : Nat) (S : List (Int × Int)) (hl2 : S.length = slen) (hm2 : slen ≤ maxLen) (hr2 : Row encP 2 w so S) (hk2 : (∀ x ∈ S, okP x) ∧ (so = none → scap = 0)) :
    Calls Try.prog 12 #[.slice ao len cap, .slice so slen scap] w fun e w' => e = .returned (.bool true) ∧ Below w.heap.size w w' := by
  unfold maxLen at hm hm2
  subst hl
  subst hl2
  have HR := Lib.hid hr
  have HK := Lib.hid hk
  have HS := Lib.hid hr2
  have HSK := Lib.hid hk2.1
  have HSN := Lib.hid hk2.2
  clear hr hk hr2 hk2
  go_enter Try.func12, Try.ntmps12
  go_wp2_with fail
  refine (awake_any _).mono ?_
  rintro e w1 ⟨rfl, hb1⟩
  have HB1 := Lib.hid hb1
  have HR1 := Lib.hid (HR.out.below' hb1)
  have HS1 := Lib.hid (HS.out.below' hb1)
  clear hb1 HR HS
  by_cases h : 100 < Z.length
  · go_wp2
    go_ret
    exact ⟨rfl, HB1.out⟩
  by_cases h2 : 100 < S.length
  · have hd : decide ((100 : Int) < (Z.length : Int)) = false := decide_eq_false (by omega)
    go_wp2
    go_ret
    exact ⟨rfl, HB1.out⟩
  have hs : Z.length ≤ 100 := by omega
  have hs2 : S.length ≤ 100 := by omega
  clear h h2
  go_wp2_with fail
  go_loopw [6, 7] (fun bv si wr => ∃ (j : Nat), j ≤ Z.length ∧ Hid (Below w1.heap.size w1 wr) ∧ Hid (wr.ownsRow w1.heap.size 56 3 bv (backTo Z j).length ((backTo Z j).flatMap encK)) ∧ si = .int .i64 ((Z.length : Int) - 1 - (j : Int))) (fun _ si _ => (intOf si + 1).toNat)
  case atStart => exact ⟨0, by omega, Lib.hid (Below.refl _ _), Lib.hid (World.ownsRow_nil _ _ _ _), by simp⟩
  case round =>
    obtain ⟨j, hj, HB, HO, rfl⟩ := hrel
    by_cases hlt : j < Z.length
    · have hbk := backTo_step hlt
      obtain ⟨i, hi⟩ : ∃ i, Z.length - 1 - j = i := ⟨_, rfl⟩
      have hiI : (Z.length : Int) - 1 - (j : Int) = (i : Int) := by omega
      have hil : i < Z.length := by omega
      have hil2 : (i : Int) < (Z.length : Int) := by omega
      simp only [hi] at hbk
      obtain ⟨ab, ax, e, hab, c0, c1, c2⟩ := (HR1.out.below' HB.out).tri hil
      cases e
      have hroom : (backTo Z j).length ≤ 200000 := by have := backTo_len Z j; omega
      generalize Z[i] = z at *
      obtain ⟨x, y, u⟩ := z
      simp only at c0 c1 c2
      generalize backTo Z j = A at *
      have HBK := Lib.hid hbk
      have HO2 := Lib.hid (HO.out.alloc (.cells #[.int .i64 x, .int .i64 y, .int .i64 u] 56))
      have HB2 := Lib.hid (HB.out.alloc HB.out.size (.cells #[.int .i64 x, .int .i64 y, .int .i64 u] 56))
      have HII : Hid ((i : Int) - 1 = (Z.length : Int) - 1 - ((j + 1 : Nat) : Int)) := Lib.hid (by omega)
      have HIM : Hid (i < Z.length - j) := Lib.hid (by omega)
      rw [hiI]
      clear hbk hi hiI
      go_wp2_with (at_builtin; refine wpList_append_row (enc := encK) Try.underlying45 infoMove rfl (by omega) (by omega) encK_len rfl _ _ rfl w1.heap.size _ A (x, y, u) (encK_one _) rfl HO2.out _ 1 rfl (fun i hi => cell_newL rfl (encK (x, y, u)) 56 i) hroom HB2.out.size ?_; intro g7 cap7 w7 ho7 hg7 hl7 hb7 hlt7; have HO7 := Lib.hid ho7; have HB7 := Lib.hid (HB2.out.grown hg7 HB2.out.size (fun k hk => (HO2.out.lt k hk).1)); clear ho7 hg7 hl7)
      go_roundw
      case rel => exact ⟨j + 1, by omega, HB7, Lib.hid (by rw [HBK.out]; exact HO7.out), by rw [HII.out]⟩
      case measure => simp [intOf]
    · obtain rfl : j = Z.length := by omega
      rw [backTo_all] at HO
      have hrl : Z.reverse.length ≤ 200 := by simp; omega
      have HRK : Hid (∀ x ∈ Z.reverse, okK x) := Lib.hid (fun x hx => HK.out x (List.mem_reverse.1 hx))
      have hneg : (Z.length : Int) - 1 - (Z.length : Int) = -1 := by omega
      rw [hneg]
      clear hneg
      obtain ⟨ba, bc, rfl, hbr, hbf⟩ := own_row encK_len HO.out
      have HBR := Lib.hid hbr
      have HB2 := Lib.hid (HB1.out.trans (HB.out.mono HB1.out.size))
      have HR2 := Lib.hid (HR1.out.below' HB.out)
      have HS2 := Lib.hid (HS1.out.below' HB.out)
      clear hbr hbf HO HB HB1 HR1 HS1
      go_wp2_with fail
      refine (moves_any ao cap Z _ HR2.out HK.out (by omega)).mono ?_
      rintro e w3 ⟨hb3, ⟨hall, a1, c1, M1, rfl, hm1, hp1, hs1⟩ | ⟨hall, rfl⟩⟩
      · have HB3 := Lib.hid (HB2.out.trans (hb3.mono HB2.out.size))
        have HBR3 := Lib.hid (HBR.out.below' hb3)
        have HS3 := Lib.hid (HS2.out.below' hb3)
        have HM1 := Lib.hid hm1
        have HP1 := Lib.hid hp1
        have HSO1 := Lib.hid hs1
        have HALL := Lib.hid hall
        have hml : M1.length ≤ 200 := by rw [hp1.length_eq]; have := mvs_len Z; omega
        clear hb3 hall hm1 hp1 hs1 HBR HB2 HR2 HS2
        go_wp2_with fail
        refine (moves_at ba _ bc Z.reverse _ (by simp) HBR3.out HRK.out hrl).mono ?_
        rintro e w4 ⟨hb4, ⟨hall2, a2, c2, M2, rfl, hm2, hp2, hs2'⟩ | ⟨hall2, rfl⟩⟩
        · have hE : M1 = M2 := sorted_unique HSO1.out hs2' (HP1.out.trans ((mvs_perm (perm_rev Z)).trans hp2.symm)) (fun x hx y hy h => mvs_inj (HP1.out.mem_iff.1 hx) (HP1.out.mem_iff.1 hy) h)
          subst hE
          have HB4 := Lib.hid (HB3.out.trans (hb4.mono HB3.out.size))
          have HM4 := Lib.hid (HM1.out.below' hb4)
          have HN4 := Lib.hid hm2
          have HS4 := Lib.hid (HS3.out.below' hb4)
          clear hb4 hall2 hm2 hp2 hs2' HM1 HS3 HB3
          have HAG := Lib.hid (merged_again HP1.out HALL.out)
          have HMK : Hid (∀ x ∈ M1, okK x) := Lib.hid (fun x hx => mvs_ok HK.out HALL.out x (HP1.out.mem_iff.1 hx))
          go_wp2_with fail
          refine (samemoves_any a1 a2 _ _ c1 c2 M1 _ rfl rfl HM4.out HN4.out (by omega)).mono ?_
          rintro e w4b ⟨rfl, n4, hw4⟩
          have HBb : Hid (Below w.heap.size w w4b) := Lib.hid (by rw [hw4]; exact ⟨HB4.out.os, HB4.out.tape, HB4.out.output, HB4.out.size, HB4.out.block⟩)
          have HMb : Hid (Row encK 3 w4b a1 M1) := Lib.hid (by rw [hw4]; exact HM4.out)
          have HSb : Hid (Row encP 2 w4b so S) := Lib.hid (by rw [hw4]; exact HS4.out)
          clear hw4 HB4 HM4 HN4 HS4
          go_wp2_with fail
          refine (moves_any a1 c1 M1 _ HMb.out HMK.out hml).mono ?_
          rintro e w5 ⟨hb5, ⟨hall3, a3, c3, M3, rfl, hm3, hp3, hs3⟩ | ⟨hall3, rfl⟩⟩
          · rw [HAG.out.1] at hp3
            have hE : M1 = M3 := sorted_unique HSO1.out hs3 hp3.symm (fun x hx y hy h => mvs_inj (HP1.out.mem_iff.1 hx) (HP1.out.mem_iff.1 hy) h)
            have HN5 : Hid (Row encK 3 w5 a3 M1) := Lib.hid (hE ▸ hm3)
            have HL3 : Hid (M1.length = M3.length) := Lib.hid (by rw [hE])
            have HM5 := Lib.hid (HMb.out.below' hb5)
            have HS5 := Lib.hid (HSb.out.below' hb5)
            have HB5 := Lib.hid (HBb.out.trans (hb5.mono HBb.out.size))
            clear hb5 hall3 hm3 hp3 hs3 hE HBb HMb HSb HALL HMK HRK
            have HA0 : Hid (w5.ownsRow w5.heap.size 74 2 (.slice none 0 0) (([] : List (Int × Int))).length (([] : List (Int × Int)).flatMap encP)) := Lib.hid (World.ownsRow_nil _ _ _ _)
            go_wp2_with (first
              | (at_builtin; refine wpList_append_slots rfl _ _ rfl w5.heap.size _ [] S rfl HA0.out so scap rfl HSN.out HS5.out (by simp) (by omega) (Nat.le_refl _) ?_; intro v20 w20 ho20 hg20; have HO20 := Lib.hid ho20; have HG20 := Lib.hid (below_of_none hg20); clear ho20 hg20 HA0)
              | (at_builtin; refine wpList_append_slots rfl _ _ rfl w5.heap.size _ ([] ++ S) S rfl HO20.out so scap rfl HSN.out (HS5.out.below' HG20.out) (by simp; omega) (by omega) HG20.out.size ?_; intro v21 w21 ho21 hg21; have HO21 := Lib.hid ho21; have HG21 := Lib.hid (HG20.out.grown hg21 HG20.out.size (fun k hk => (HO20.out.lt k hk).1)); clear ho21 hg21 HO20)
              | (go_at_call 27; refine (slots_any so scap S _ (HS5.out.below' HG21.out) HSK.out (by omega)).mono ?_; rintro e w22 ⟨xa, xc, X, rfl, hx22, hxp, hxs, hb22⟩; have HX := Lib.hid hx22; have HXP := Lib.hid hxp; have HXS := Lib.hid hxs; have HG22 := Lib.hid (HG21.out.trans (hb22.mono HG21.out.size)); have HO22 := Lib.hid (own_below HO21.out hb22); have hxl : X.length ≤ 200 := (by rw [hxp.length_eq]; have := firsts_len S; omega); have HXK : Hid (∀ x ∈ X, okP x) := Lib.hid (fun x hx => HSK.out x (mem_firsts.1 (hxp.mem_iff.1 hx))); clear hx22 hxp hxs hb22 HO21 HG21)
              | (go_at_call 31; refine (samemoves_any a1 a3 _ _ c1 c3 M1 _ rfl HL3.out (HM5.out.below' HG22.out) (HN5.out.below' HG22.out) (by omega)).mono ?_; rintro e w23 ⟨rfl, n23, hw23⟩; have HXX : Hid (Row encP 2 w23 xa X) := Lib.hid (by rw [hw23]; exact HX.out); have HGX : Hid (Below w5.heap.size w5 w23) := Lib.hid (by rw [hw23]; exact ⟨HG22.out.os, HG22.out.tape, HG22.out.output, HG22.out.size, HG22.out.block⟩); have HOX : Hid (w23.ownsRow w5.heap.size 74 2 v21 ([] ++ S ++ S).length (([] ++ S ++ S).flatMap encP)) := Lib.hid (by rw [hw23]; exact HO22.out); clear hw23 HX HO22)
              | (go_at_call 27; obtain ⟨ta, tc, et, htr, htf⟩ := own_row encP_len HOX.out; cases et; refine (slots_at ta _ tc ([] ++ S ++ S) _ (by simp) htr (fun x hx => HSK.out x (by simpa using hx)) (by simp; omega)).mono ?_; rintro e w24 ⟨ya, yc, Y, rfl, hy, hyp, hys, hb24⟩; have HYE : Hid (X = Y) := Lib.hid (slots_same (fun x => by simp) HXP.out hyp HXS.out hys); have HX24 := Lib.hid (HXX.out.below' hb24); have HY24 : Hid (Row encP 2 w24 ya X) := Lib.hid (HYE.out ▸ hy); have HYL : Hid (X.length = Y.length) := Lib.hid (by rw [HYE.out]); have HG24 := Lib.hid (HGX.out.trans (hb24.mono HGX.out.size)); clear hy hyp hys hb24 htr htf HOX)
              | (go_at_call 26; refine (sameslots_any xa ya _ _ xc yc X _ rfl HYL.out HX24.out HY24.out (by omega)).mono ?_; rintro e w25 ⟨rfl, n25, hw25⟩; have HX25 : Hid (Row encP 2 w25 xa X) := Lib.hid (by rw [hw25]; exact HX24.out); have HG25 : Hid (Below w5.heap.size w5 w25) := Lib.hid (by rw [hw25]; exact ⟨HG24.out.os, HG24.out.tape, HG24.out.output, HG24.out.size, HG24.out.block⟩); clear hw25 HX24 HY24)
              | (go_at_call 27; refine (slots_any xa xc X _ HX25.out HXK.out hxl).mono ?_; rintro e w26 ⟨za, zc, V, rfl, hv, hvp, hvs, hb26⟩; have HVE : Hid (X = V) := Lib.hid (slots_same (A := S) (B := X) (fun x => by rw [← mem_firsts]; exact (HXP.out.mem_iff).symm) HXP.out hvp HXS.out hvs); have HX26 := Lib.hid (HX25.out.below' hb26); have HV26 : Hid (Row encP 2 w26 za X) := Lib.hid (HVE.out ▸ hv); have HVL : Hid (X.length = V.length) := Lib.hid (by rw [HVE.out]); have HG26 := Lib.hid (HG25.out.trans (hb26.mono HG25.out.size)); clear hv hvp hvs hb26 HX25)
              | (go_at_call 26; refine (sameslots_any xa za _ _ xc zc X _ rfl HVL.out HX26.out HV26.out (by omega)).mono ?_; rintro e w27 ⟨rfl, n27, hw27⟩; have HG27 : Hid (Below w5.heap.size w5 w27) := Lib.hid (by rw [hw27]; exact ⟨HG26.out.os, HG26.out.tape, HG26.out.output, HG26.out.size, HG26.out.block⟩); clear hw27))
            go_ret
            exact ⟨rfl, HB5.out.trans (HG27.out.mono HB5.out.size)⟩
          · exact absurd HAG.out.2 hall3
        · exact absurd (mvS_in (perm_rev Z) HALL.out) hall2
      · have HB3 := Lib.hid (HB2.out.trans (hb3.mono HB2.out.size))
        have HBR3 := Lib.hid (HBR.out.below' hb3)
        have HS3 := Lib.hid (HS2.out.below' hb3)
        have HALL := Lib.hid hall
        clear hb3 hall HBR HB2 HR2 HS2
        go_wp2_with fail
        refine (moves_at ba _ bc Z.reverse _ (by simp) HBR3.out HRK.out hrl).mono ?_
        rintro e w4 ⟨hb4, ⟨hall2, a2, c2, M2, rfl, hm2, hp2, hs2'⟩ | ⟨hall2, rfl⟩⟩
        · exact absurd (mvS_in (perm_rev Z).symm hall2) HALL.out
        · have HB4 := Lib.hid (HB3.out.trans (hb4.mono HB3.out.size))
          have HS4 := Lib.hid (HS3.out.below' hb4)
          clear hb4 hall2 HS3 HB3 HALL HBR3 HRK
          go_wp2_with fail
          refine (samemoves_any none none _ _ 0 0 [] _ rfl rfl (Row.nil _ _) (Row.nil _ _) (by simp)).mono ?_
          rintro e w4b ⟨rfl, n4, hw4⟩
          have HBb : Hid (Below w.heap.size w w4b) := Lib.hid (by rw [hw4]; exact ⟨HB4.out.os, HB4.out.tape, HB4.out.output, HB4.out.size, HB4.out.block⟩)
          have HSb : Hid (Row encP 2 w4b so S) := Lib.hid (by rw [hw4]; exact HS4.out)
          clear hw4 HB4 HS4
          go_wp2_with fail
          refine (moves_at none _ 0 [] _ rfl (Row.nil _ _) (fun x hx => by simp at hx) (by simp)).mono ?_
          rintro e w5 ⟨hb5, ⟨hall3, a3, c3, M3, rfl, hm3, hp3, hs3⟩ | ⟨hall3, rfl⟩⟩
          · have HS5 := Lib.hid (HSb.out.below' hb5)
            have HB5 := Lib.hid (HBb.out.trans (hb5.mono HBb.out.size))
            clear hb5 hall3 hm3 hp3 hs3 HBb HSb
            have HA0 : Hid (w5.ownsRow w5.heap.size 74 2 (.slice none 0 0) (([] : List (Int × Int))).length (([] : List (Int × Int)).flatMap encP)) := Lib.hid (World.ownsRow_nil _ _ _ _)
            go_wp2_with (first
              | (at_builtin; refine wpList_append_slots rfl _ _ rfl w5.heap.size _ [] S rfl HA0.out so scap rfl HSN.out HS5.out (by simp) (by omega) (Nat.le_refl _) ?_; intro v20 w20 ho20 hg20; have HO20 := Lib.hid ho20; have HG20 := Lib.hid (below_of_none hg20); clear ho20 hg20 HA0)
              | (at_builtin; refine wpList_append_slots rfl _ _ rfl w5.heap.size _ ([] ++ S) S rfl HO20.out so scap rfl HSN.out (HS5.out.below' HG20.out) (by simp; omega) (by omega) HG20.out.size ?_; intro v21 w21 ho21 hg21; have HO21 := Lib.hid ho21; have HG21 := Lib.hid (HG20.out.grown hg21 HG20.out.size (fun k hk => (HO20.out.lt k hk).1)); clear ho21 hg21 HO20)
              | (go_at_call 27; refine (slots_any so scap S _ (HS5.out.below' HG21.out) HSK.out (by omega)).mono ?_; rintro e w22 ⟨xa, xc, X, rfl, hx22, hxp, hxs, hb22⟩; have HX := Lib.hid hx22; have HXP := Lib.hid hxp; have HXS := Lib.hid hxs; have HG22 := Lib.hid (HG21.out.trans (hb22.mono HG21.out.size)); have HO22 := Lib.hid (own_below HO21.out hb22); have hxl : X.length ≤ 200 := (by rw [hxp.length_eq]; have := firsts_len S; omega); have HXK : Hid (∀ x ∈ X, okP x) := Lib.hid (fun x hx => HSK.out x (mem_firsts.1 (hxp.mem_iff.1 hx))); clear hx22 hxp hxs hb22 HO21 HG21)
              | (go_at_call 27; obtain ⟨ta, tc, et, htr, htf⟩ := own_row encP_len HO22.out; cases et; refine (slots_at ta _ tc ([] ++ S ++ S) _ (by simp) htr (fun x hx => HSK.out x (by simpa using hx)) (by simp; omega)).mono ?_; rintro e w24 ⟨ya, yc, Y, rfl, hy, hyp, hys, hb24⟩; have HYE : Hid (X = Y) := Lib.hid (slots_same (fun x => by simp) HXP.out hyp HXS.out hys); have HX24 := Lib.hid (HX.out.below' hb24); have HY24 : Hid (Row encP 2 w24 ya X) := Lib.hid (HYE.out ▸ hy); have HYL : Hid (X.length = Y.length) := Lib.hid (by rw [HYE.out]); have HG24 := Lib.hid (HG22.out.trans (hb24.mono HG22.out.size)); clear hy hyp hys hb24 htr htf HO22)
              | (go_at_call 26; refine (sameslots_any xa ya _ _ xc yc X _ rfl HYL.out HX24.out HY24.out (by omega)).mono ?_; rintro e w25 ⟨rfl, n25, hw25⟩; have HX25 : Hid (Row encP 2 w25 xa X) := Lib.hid (by rw [hw25]; exact HX24.out); have HG25 : Hid (Below w5.heap.size w5 w25) := Lib.hid (by rw [hw25]; exact ⟨HG24.out.os, HG24.out.tape, HG24.out.output, HG24.out.size, HG24.out.block⟩); clear hw25 HX24 HY24)
              | (go_at_call 27; refine (slots_any xa xc X _ HX25.out HXK.out hxl).mono ?_; rintro e w26 ⟨za, zc, V, rfl, hv, hvp, hvs, hb26⟩; have HVE : Hid (X = V) := Lib.hid (slots_same (A := S) (B := X) (fun x => by rw [← mem_firsts]; exact (HXP.out.mem_iff).symm) HXP.out hvp HXS.out hvs); have HX26 := Lib.hid (HX25.out.below' hb26); have HV26 : Hid (Row encP 2 w26 za X) := Lib.hid (HVE.out ▸ hv); have HVL : Hid (X.length = V.length) := Lib.hid (by rw [HVE.out]); have HG26 := Lib.hid (HG25.out.trans (hb26.mono HG25.out.size)); clear hv hvp hvs hb26 HX25)
              | (go_at_call 26; refine (sameslots_any xa za _ _ xc zc X _ rfl HVL.out HX26.out HV26.out (by omega)).mono ?_; rintro e w27 ⟨rfl, n27, hw27⟩; have HG27 : Hid (Below w5.heap.size w5 w27) := Lib.hid (by rw [hw27]; exact ⟨HG26.out.os, HG26.out.tape, HG26.out.output, HG26.out.size, HG26.out.block⟩); clear hw27))
            go_ret
            exact ⟨rfl, HB5.out.trans (HG27.out.mono HB5.out.size)⟩
          · exact absurd (fun s hs => by simp [mvS, tots, grps, pairsOf, firsts] at hs) hall3
end Go.Proofs.Ytieomjkiabfhcaa
