/- The steps that begin at a node, as package level makes them. -/
import Derived.Test.YtmflleifglefiaaBG
import Derived.Test.YtmflleifglefiaaPSorted
namespace Go.Proofs.Ytmflleifglefiaa
open Go.RowKit
set_option linter.unusedVariables false

theorem encP_len (x : Int × Int) : (encP x).length = 2 := rfl
theorem encP_one (x : Int × Int) : ∀ u ∈ encP x, u.oneCell' = true := by intro u hu; simp [encP] at hu; rcases hu with rfl | rfl <;> rfl
/-- A row of pairs of a call's own. -/
def OwnP (w : World) (base : Nat) (v : Value) (L : List (Int × Int)) : Prop := w.ownsRow base 137 2 v L.length (L.flatMap encP)
theorem OwnP.nil (w : World) (base : Nat) : OwnP w base (.slice none 0 0) [] := World.ownsRow_nil _ _ _ _
theorem OwnP.alloc {w : World} {base : Nat} {v : Value} {L : List (Int × Int)} (h : OwnP w base v L) (o : Obj) : OwnP (w.alloc o) base v L := World.ownsRow.alloc h o
theorem OwnP.row {w : World} {base : Nat} {v : Value} {L : List (Int × Int)} (h : OwnP w base v L) : ∃ ao cap, v = .slice ao L.length cap ∧ Row encP 2 w ao L := own_row encP_len h
theorem rp_row {w : World} {ao : Option Addr} {L : List (Int × Int)} (h : Row encP 2 w ao L) : RP w ao L := by
  intro i hi
  obtain ⟨b, o, e, hb, hc⟩ := h i hi
  have eg : L.getD i (0, 0) = L[i] := by rw [List.getD_eq_getElem?_getD, List.getElem?_eq_getElem hi]; rfl
  rw [eg]
  refine ⟨b, o, e, hb, ?_, ?_⟩
  · have := hc 0 (by omega); rw [Nat.add_zero] at this; exact this
  · exact hc 1 (by omega)
theorem rp_at {w : World} {ao : Option Addr} {L : List (Int × Int)} (h : RP w ao L) {i : Nat} {x : Int × Int} (hx : L[i]? = some x) : ∃ b o, ao = some ⟨b, o, none⟩ ∧ b < w.heap.size ∧ w.cell? ⟨b, o + i * 2, none⟩ = some (.int .i64 x.1) ∧ w.cell? ⟨b, o + i * 2 + 1, none⟩ = some (.int .i64 x.2) := by
  obtain ⟨hi, rfl⟩ := List.getElem?_eq_some_iff.1 hx
  have eg : L.getD i (0, 0) = L[i] := by rw [List.getD_eq_getElem?_getD, List.getElem?_eq_getElem hi]; rfl
  have := h i hi
  rw [eg] at this
  exact this
theorem cellsP (w : World) (t : TypeId) (g : Nat) (hg : w.heap.size = g) (x y : Int) : ∀ j, j < 2 → (w.alloc (.cells #[.int .i64 x, .int .i64 y] t)).cell? ⟨g, j, none⟩ = (encP (x, y))[j]? := by
  intro j hj
  rw [cell_new' hg]
  match j, hj with
  | 0, _ => rfl
  | 1, _ => rfl
/-- One pair is appended. -/
theorem wpList_append_pair {w : World} {ops : Array Oper} {rest : List Oper} {o : Oper} {a : Act} {Q : Exit → Act → World → Prop} (hgd : o.guard = none) (s y : Operand)
    (ho : o.op = .call { callee := .builtin .append, args := #[s, y], argTypes := #[135, 135] })
    (base : Nat) (v : Value) (A : List (Int × Int)) (x : Int × Int) (hs : a.eval s = v) (hown : OwnP w base v A) (gs : Nat) (c : Nat) (hx : a.eval y = .slice (some ⟨gs, 0, none⟩) 1 c) (hc : ∀ j, j < 2 → w.cell? ⟨gs, j, none⟩ = (encP x)[j]?)
    (hroom : A.length ≤ 200000) (hbase : base ≤ w.heap.size)
    (hK : ∀ g cap w', OwnP w' base (.slice (some ⟨g, 0, none⟩) (A.length + 1) cap) (A ++ [x]) → w.grownBy w' v.ownBlock → (v.ownBlock = some g ∨ g = w.heap.size) → base ≤ g → g < w'.heap.size → wpList Try.prog ops Q rest (a.put o.dst (.slice (some ⟨g, 0, none⟩) (A.length + 1) cap)) w') : wpList Try.prog ops Q (o :: rest) a w :=
  wpList_append_row (enc := encP) Try.underlying135 Try.infoPair rfl (by omega) (by omega) encP_len hgd s y ho base v A x (encP_one x) hs hown gs c hx hc hroom hbase hK
theorem tagL_snoc (t : Int) (P : List Nat) {j : Nat} (h : j < P.length) : tagL t (P.take (j + 1)) = tagL t (P.take j) ++ [(((P[j] : Nat) : Int), t)] := by
  unfold tagL
  rw [List.take_succ_eq_append_getElem h, List.map_append]
  rfl
theorem tagL_len (t : Int) (P : List Nat) : (tagL t P).length = P.length := by simp [tagL]
section
variable (n : Int) (b : Bool) (ao fo : Option Addr) (cap fc : Nat) (Z : List ArcT) (F : List Int) (g1 c1 g2 c2 N : Nat)
set_option maxRecDepth 100000 in
set_option maxHeartbeats 4000000 in
theorem vfrom_at (u : Nat) (w : World) (h : LD w ao fo Z F g1 g2 N) (hu : u < N) (hN : N ≤ 50) (hz : Z.length ≤ 200) :
    Calls Try.prog 78 #[.agg #[.int .i64 n, .bool b, .slice ao Z.length cap, .slice fo F.length fc, .slice (some ⟨g1, 0, none⟩) N c1, .slice (some ⟨g2, 0, none⟩) N c2], .int .i64 (u : Int)] w fun e w' => ∃ a c, e = .returned (.slice a (stepsU Z u).length c) ∧ OwnS w' w.heap.size (.slice a (stepsU Z u).length c) (stepsU Z u) ∧ Below w.heap.size w w' := by
  have hb00 := (Below.refl _ w).alloc (Nat.le_refl _) (.cells #[.int .i64 n, .bool b, .slice ao Z.length cap, .slice fo F.length fc, .slice (some ⟨g1, 0, none⟩) N c1, .slice (some ⟨g2, 0, none⟩) N c2] 113)
  have HB0 := Lib.hid hb00
  have hld := h.below hb00
  obtain ⟨ao2, cap2, hg1, hcl, hl1⟩ := hld.outs.at hu
  obtain ⟨ao3, cap3, hg2, hcl2, hl2⟩ := hld.ins.at hu
  have k4 := cell_new w #[.int .i64 n, .bool b, .slice ao Z.length cap, .slice fo F.length fc, .slice (some ⟨g1, 0, none⟩) N c1, .slice (some ⟨g2, 0, none⟩) N c2] 113 4
  have k5 := cell_new w #[.int .i64 n, .bool b, .slice ao Z.length cap, .slice fo F.length fc, .slice (some ⟨g1, 0, none⟩) N c1, .slice (some ⟨g2, 0, none⟩) N c2] 113 5
  have hui : (u : Int) < (N : Int) := by omega
  have HL1 := Lib.hid hl1
  have HL2 := Lib.hid hl2
  have HPP := Lib.hid (pairs_perm Z u)
  have HPS := Lib.hid (pairsK_sorted Z u Z.length)
  have HSU : Hid ((pairsK Z u Z.length).map stepP = stepsU Z u) := Lib.hid rfl
  have hlen := pairsK_len Z u Z.length
  have hp1 := places_len frN Z u
  have hp2 := places_len toN Z u
  generalize places frN Z u = P at *
  generalize places toN Z u = P2 at *
  generalize pairsK Z u Z.length = S at *
  generalize stepsU Z u = SU at *
  obtain ⟨U, hU⟩ : ∃ U, tagL 0 P ++ tagL 1 P2 = U := ⟨_, rfl⟩
  have hUl : S.length = U.length := by rw [← hU]; exact HPP.out.length_eq
  have HUL := Lib.hid hUl
  have HU := Lib.hid hU
  have hUb : U.length ≤ 400 := by omega
  clear h hld hl1 hl2 hb00 hU hUl
  go_enter Try.func78, Try.ntmps78
  go_wp2
  generalize w.alloc (.cells #[.int .i64 n, .bool b, .slice ao Z.length cap, .slice fo F.length fc, .slice (some ⟨g1, 0, none⟩) N c1, .slice (some ⟨g2, 0, none⟩) N c2] 113) = w1 at *
  go_loopw [5, 19] (fun ov i wr => ∃ j : Nat, j ≤ P.length ∧ i = .int .i64 (j : Int) ∧ Hid (Below w1.heap.size w1 wr) ∧ Hid (OwnP wr w1.heap.size ov (tagL 0 (P.take j)))) (fun _ i _ => P.length - (intOf i).toNat)
  case atStart => exact ⟨0, Nat.zero_le _, rfl, Lib.hid (Below.refl _ _), Lib.hid (OwnP.nil _ _)⟩
  case round =>
    obtain ⟨j, hj, rfl, HB, HO⟩ := hrel
    obtain ⟨la, lc, hlv, _⟩ := HO.out.row
    have hsz := HB.out.size
    by_cases hlt : j < P.length
    · have hli : (j : Int) < (P.length : Int) := by omega
      obtain ⟨bb, oo, e, hbb, hcp⟩ := lst_cell HL1.out (i := j) (x := ((P[j] : Nat) : Int)) (natI_at hlt)
      cases e
      have hcp' := cell_below' HB.out hcp hbb
      unfold encI at hcp'
      have HT := Lib.hid (tagL_snoc 0 P hlt)
      have hroom : (tagL 0 (P.take j)).length ≤ 200000 := by rw [tagL_len, List.length_take]; omega
      generalize P[j] = p at *
      generalize tagL 0 (P.take j) = A at *
      subst hlv
      clear hcp
      go_wp2_with (first
        | (at_builtin; refine wpList_append_pair rfl _ _ rfl w1.heap.size _ A ((p : Int), 0) rfl (HO.out.alloc (.cells #[.int .i64 (p : Int), .int .i64 0] 137)) _ 1 rfl (cellsP _ _ _ (by simp) _ _) hroom (by simp; omega) ?_; intro g4 cap4 w4 ho4 hg4 hl4 hb4 hlt4; have HO4 := Lib.hid ho4; have HB4 := Lib.hid (below_grown (HB.out.alloc hsz (.cells #[.int .i64 (p : Int), .int .i64 0] 137)) (by simp; omega) hg4 (fun g e => own_block HO.out e)); clear ho4 hg4 hl4))
      go_roundw
      case rel => exact ⟨j + 1, by omega, by go_num, HB4, Lib.hid (by rw [HT.out]; exact HO4.out)⟩
      case measure => simp [intOf]; omega
    · have hli : ¬ (j : Int) < (P.length : Int) := by omega
      obtain rfl : j = P.length := by omega
      rw [List.take_length] at HO
      have k5' := cell_below' HB.out k5 (block_lt_of_cell k5)
      have hcl2' := cell_below' HB.out hcl2 hg2
      subst hlv
      go_wp2
      generalize wr = wz at *
      go_loopw [5, 35] (fun ov i wr => ∃ j : Nat, j ≤ P2.length ∧ i = .int .i64 (j : Int) ∧ Hid (Below w1.heap.size w1 wr) ∧ Hid (OwnP wr w1.heap.size ov (tagL 0 P ++ tagL 1 (P2.take j)))) (fun _ i _ => P2.length - (intOf i).toNat)
      case atStart => exact ⟨0, Nat.zero_le _, rfl, HB, Lib.hid (by simpa [tagL] using HO.out)⟩
      case round =>
        clear HB HO
        obtain ⟨j, hj, rfl, HB, HO⟩ := hrel
        obtain ⟨la, lc, hlv, _⟩ := HO.out.row
        have hsz := HB.out.size
        by_cases hlt : j < P2.length
        · have hli : (j : Int) < (P2.length : Int) := by omega
          obtain ⟨bb, oo, e, hbb, hcp⟩ := lst_cell HL2.out (i := j) (x := ((P2[j] : Nat) : Int)) (natI_at hlt)
          cases e
          have hcp' := cell_below' HB.out hcp hbb
          unfold encI at hcp'
          have HT := Lib.hid (tagL_snoc 1 P2 hlt)
          have hroom : (tagL 0 P ++ tagL 1 (P2.take j)).length ≤ 200000 := by rw [List.length_append, tagL_len, tagL_len, List.length_take]; omega
          have HT2 : Hid (tagL 0 P ++ tagL 1 (P2.take (j + 1)) = (tagL 0 P ++ tagL 1 (P2.take j)) ++ [(((P2[j] : Nat) : Int), 1)]) := Lib.hid (by rw [HT.out, List.append_assoc])
          clear HT
          generalize P2[j] = p at *
          generalize tagL 0 P ++ tagL 1 (P2.take j) = A at *
          subst hlv
          clear hcp
          go_wp2_with (first
            | (at_builtin; refine wpList_append_pair rfl _ _ rfl w1.heap.size _ A ((p : Int), 1) rfl (HO.out.alloc (.cells #[.int .i64 (p : Int), .int .i64 1] 137)) _ 1 rfl (cellsP _ _ _ (by simp) _ _) hroom (by simp; omega) ?_; intro g4 cap4 w4 ho4 hg4 hl4 hb4 hlt4; have HO4 := Lib.hid ho4; have HB4 := Lib.hid (below_grown (HB.out.alloc hsz (.cells #[.int .i64 (p : Int), .int .i64 1] 137)) (by simp; omega) hg4 (fun g e => own_block HO.out e)); clear ho4 hg4 hl4))
          go_roundw
          case rel => exact ⟨j + 1, by omega, by go_num, HB4, Lib.hid (by rw [HT2.out]; exact HO4.out)⟩
          case measure => simp [intOf]; omega
        · have hli : ¬ (j : Int) < (P2.length : Int) := by omega
          obtain rfl : j = P2.length := by omega
          rw [List.take_length, HU.out] at HO
          clear hlv
          obtain ⟨la, lc, hlv, hrow⟩ := HO.out.row
          subst hlv
          have HRP := Lib.hid (rp_row hrow)
          clear hrow
          go_wp2_with (go_at_call 88; refine (sorted_any la U.length lc U _ rfl HRP.out (by omega)).mono ?_; rintro e w3 ⟨a3, c3, S', rfl, hp3, hso3, hrp3, hb3, hbl3⟩; have hSS : S' = S := sorted_eq hso3 HPS.out (hp3.trans (by rw [← HU.out]; exact HPP.out.symm)); subst hSS; rw [← HUL.out]; have HR3 := Lib.hid hrp3; have HB3 := Lib.hid (HB.out.trans (hb3.mono HB.out.size)); have HL3 := Lib.hid hbl3; clear hp3 hso3 hrp3 hb3 hbl3)
          clear HB HO
          go_loopw [10, 48] (fun ov i wr => ∃ j : Nat, j ≤ S'.length ∧ i = .int .i64 (j : Int) ∧ Hid (Below w3.heap.size w3 wr) ∧ Hid (OwnS wr w3.heap.size ov ((S'.take j).map stepP))) (fun _ i _ => S'.length - (intOf i).toNat)
          case atStart => exact ⟨0, Nat.zero_le _, rfl, Lib.hid (Below.refl _ _), Lib.hid (OwnS.nil _ _)⟩
          case round =>
            obtain ⟨j, hj, rfl, HB, HO⟩ := hrel
            obtain ⟨la2, lc2, hlv, hrow⟩ := HO.out.row
            have hsz := HB.out.size
            have hSb : S'.length ≤ 400 := by rw [HUL.out]; omega
            by_cases hlt : j < S'.length
            · have hli : (j : Int) < (S'.length : Int) := by omega
              obtain ⟨bb, oo, e, hbb, q0, q1⟩ := rp_at (RP.below HR3.out HB.out (fun ad e => (HL3.out ad e).2)) (List.getElem?_eq_getElem hlt)
              cases e
              have HT : Hid ((S'.take (j + 1)).map stepP = (S'.take j).map stepP ++ [stepP S'[j]]) := Lib.hid (by rw [List.take_succ_eq_append_getElem hlt, List.map_append]; rfl)
              have hroom : ((S'.take j).map stepP).length ≤ 200000 := by rw [List.length_map, List.length_take]; omega
              generalize S'[j] = p at *
              obtain ⟨px, py⟩ := p
              simp only at q0 q1
              generalize (S'.take j).map stepP = A at *
              subst hlv
              clear hrow
              have HOA := Lib.hid (HO.out.alloc (.cells #[.int .i64 px, .int .i64 py] 137))
              go_wp2_with (first
                | (at_builtin; refine wpList_append_step rfl _ _ rfl w3.heap.size _ A (px, py == 1) rfl (HOA.out.alloc (.cells #[.int .i64 px, .bool (py == 1)] 90)) _ 1 rfl (cells2 _ _ _ (by simp) _ _) hroom (by simp; omega) ?_; intro g4 cap4 w4 ho4 hg4 hl4 hb4 hlt4; have HO4 := Lib.hid ho4; have HB4 := Lib.hid (below_grown ((HB.out.alloc hsz (.cells #[.int .i64 px, .int .i64 py] 137)).alloc (by simp; omega) (.cells #[.int .i64 px, .bool (py == 1)] 90)) (by simp; omega) hg4 (fun g e => own_block HO.out e)); clear ho4 hg4 hl4))
              go_roundw
              case rel => exact ⟨j + 1, by omega, by go_num, HB4, Lib.hid (by rw [HT.out]; exact HO4.out)⟩
              case measure => simp [intOf]; omega
            · have hli : ¬ (j : Int) < (S'.length : Int) := by omega
              obtain rfl : j = S'.length := by omega
              rw [List.take_length, HSU.out] at HO
              clear hlv hrow
              obtain ⟨la2, lc2, hlv, hrow⟩ := HO.out.row
              subst hlv
              have HRW := Lib.hid hrow
              clear hrow
              go_wp2
              go_ret
              exact ⟨la2, lc2, rfl, own_mono HO.out (Nat.le_trans HB0.out.size HB3.out.size), HB0.out.trans ((HB3.out.trans (HB.out.mono HB3.out.size)).mono HB0.out.size)⟩
end
end Go.Proofs.Ytmflleifglefiaa
