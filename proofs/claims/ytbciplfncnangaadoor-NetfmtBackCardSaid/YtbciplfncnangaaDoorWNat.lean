/- The document's Text and Row. -/
import Derived.Test.YtbciplfncnangaaDoorWRef
import Derived.Laws.IdiomStrings
namespace Go.Proofs.YtbciplfncnangaaDoor
open Go.RowKit Go.Shelf
set_option linter.unusedVariables false

/-- The digits of a number, none of 0. -/
def dz (m : Nat) : List UInt8 := if m = 0 then [] else Lib.decDigits m
def dg1 (m : Nat) : UInt8 := UInt8.ofNat (48 + m % 10)
theorem dz_zero : dz 0 = [] := rfl
theorem dec_split (m : Nat) : Lib.decDigits m = dz (m / 10) ++ [dg1 m] := by
  rw [Lib.decDigits]
  by_cases h : m < 10
  · rw [dif_pos h]
    have h1 : m / 10 = 0 := by omega
    have h2 : m % 10 = m := by omega
    rw [h1, dz_zero]; unfold dg1; rw [h2]; rfl
  · rw [dif_neg h]
    have h1 : m / 10 ≠ 0 := by omega
    unfold dz dg1; rw [if_neg h1]
theorem dz_pos {m : Nat} (h : 0 < m) : dz m = dz (m / 10) ++ [dg1 m] := by
  rw [← dec_split]; unfold dz; rw [if_neg (by omega)]
theorem dg1_val (m : Nat) : ((dg1 m).toNat : Int) = 48 + (m : Int) % 10 := by
  unfold dg1
  rw [UInt8.toNat_ofNat']
  omega
theorem dec_len20 (m : Nat) (h : m < 18446744073709551616) : (Lib.decDigits m).length ≤ 20 := by rw [Lib.decDigits_length]; exact Lib.nDigits_le20 m h

theorem vi {a b : Int} (h : a = b) : Value.int .i64 a = .int .i64 b := by rw [h]
theorem bytes_snoc (D : List UInt8) (c : UInt8) (n : Int) (h : (c.toNat : Int) = n) : Lib.byteCells (D ++ [c]) = Lib.byteCells D ++ [.int .u8 n] := by subst h; simp [Lib.byteCells]
theorem rev_step (D : List UInt8) (j : Nat) (hj : j < D.length) : D.reverse.take (D.length - j) = D.reverse.take (D.length - (j + 1)) ++ [D[j]] := by
  have h1 : D.length - (j + 1) < D.reverse.length := by rw [List.length_reverse]; omega
  have h2 := List.take_succ_eq_append_getElem h1
  rw [show D.length - (j + 1) + 1 = D.length - j by omega] at h2
  rw [h2, List.getElem_reverse]
  congr 3
  omega
set_option maxRecDepth 100000 in
set_option maxHeartbeats 4000000 in
/-- The document's digits of a number. -/
theorem natural_any (N : Nat) (w : World) (hN : (N : Int) ≤ 9223372036854775807) :
    Calls Tryd.prog 52 #[.int .i64 (N : Int)] w fun e w' => e = .returned (strV (Lib.decDigits N)) ∧ Below w.heap.size w w' := by
  obtain ⟨i0, hi, hz0, hz1, hz2⟩ := info_parts infoByte
  go_enter Tryd.func52, Tryd.ntmps52
  go_wp2_with (at_builtin; refine wpList_append_own _ rfl _ _ 44 rfl w.heap.size 5 i0 (.int .u8 0) 1 1 Tryd.underlying44 hi hz0 hz1 hz2 rfl (by decide) _ _ _ rfl ((World.ownsRow_nil w w.heap.size 5 1).alloc _) ⟨w.heap.size, 0, none⟩ 1 1 [.int .u8 (48 + (N : Int) % 10)] rfl rfl (cell_one_new _ _ _) (by simp [Value.oneCell']) (by unfold maxLen; omega) (by omega) (by simp) ?_; intro v' w1 hown' hgrow _)
  have hb1 := app_below (Below.refl w.heap.size w) (World.ownsRow_nil w w.heap.size 5 1) hgrow
  have HO1 : Hid (w1.ownsRow w.heap.size 5 1 v' [dg1 N].length (Lib.byteCells [dg1 N])) := Lib.hid (by
    have := bytes_snoc [] (dg1 N) _ (dg1_val N)
    rw [List.nil_append] at this
    rw [this]; exact hown')
  clear hown' hgrow
  go_loopw [0, 3] (fun n sv wr => ∃ (m : Nat) (v : Value) (D : List UInt8), v = sv ∧ n = .int .i64 (m : Int) ∧ (m : Int) ≤ 9223372036854775807 ∧ 1 ≤ D.length ∧ D.length ≤ 20 ∧ Hid (dz m ++ D.reverse = Lib.decDigits N) ∧ Hid (wr.ownsRow w.heap.size 5 1 v D.length (Lib.byteCells D)) ∧ Below w.heap.size w wr)
    (fun n _ _ => (intOf n).toNat)
  case atStart =>
    exact ⟨N / 10, v', [dg1 N], rfl, vi (by omega), by omega, by simp, by simp, Lib.hid (dec_split N).symm, HO1, hb1⟩
  case round =>
    obtain ⟨m, v, D, rfl, rfl, hm, hd1, hd2, HE, HO, hbw⟩ := hrel
    have hsz := hbw.size
    by_cases hpos : 0 < m
    · have hpos' : (0 : Int) < (m : Int) := by omega
      have hE2 : dz (m / 10) ++ (D ++ [dg1 m]).reverse = Lib.decDigits N := by rw [← HE.out, dz_pos hpos]; simp
      have hl2 : (D ++ [dg1 m]).length ≤ 20 := by
        have h3 := congrArg List.length hE2
        have h4 := dec_len20 N (by omega)
        rw [List.length_append, List.length_reverse] at h3
        omega
      have HE2 := Lib.hid hE2
      clear hE2
      go_wp2_with (at_builtin; refine wpList_append_own _ rfl _ _ 44 rfl w.heap.size 5 i0 (.int .u8 0) 1 1 Tryd.underlying44 hi hz0 hz1 hz2 rfl (by decide) _ _ _ rfl (HO.out.alloc _) ⟨wr.heap.size, 0, none⟩ 1 1 [.int .u8 (48 + (m : Int) % 10)] rfl rfl (cell_one_new _ _ _) (by simp [Value.oneCell']) (by unfold maxLen; omega) (by omega) (by simp; omega) ?_; intro v2 w2 hown2 hgrow2 _)
      have hb2 := app_below hbw HO.out hgrow2
      go_roundw
      case rel =>
        refine ⟨m / 10, v2, D ++ [dg1 m], rfl, vi (by omega), by omega, by simp, hl2, HE2, Lib.hid ?_, hb2⟩
        rw [bytes_snoc D (dg1 m) _ (dg1_val m), List.length_append]
        exact hown2
      case measure => simp [intOf]; omega
    · obtain rfl : m = 0 := by omega
      obtain ⟨g, cap, hv⟩ : ∃ g cap, v = .slice (some ⟨g, 0, none⟩) D.length cap := by
        rcases HO.out.2 with ⟨_, h0⟩ | ⟨g, cap, _, h, _⟩
        · omega
        · exact ⟨g, cap, h⟩
      subst hv
      have hE : Hid (D.reverse = Lib.decDigits N) := Lib.hid (by have := HE.out; rwa [dz_zero, List.nil_append] at this)
      have hgl : g < wr.heap.size := by
        rcases HO.out.2 with ⟨h, _⟩ | ⟨g', cap', cur, h, _, hg, _⟩
        · cases h
        · cases h; exact (Array.getElem?_eq_some_iff.1 hg).1
      have hcell : Hid (∀ j (hj : j < D.length), wr.cell? ⟨g, j, none⟩ = some (.int .u8 (D[j].toNat : Int))) := Lib.hid (fun j hj => by
        have := HO.out.cells (g := g) rfl j (.int .u8 (D[j].toNat : Int)) (by simp [Lib.byteCells, hj])
        rwa [Addr.add_lit, Nat.zero_add] at this)
      clear HE HO
      generalize wr = wz at *
      rw [show ((0 : Nat) : Int) = 0 from rfl]
      go_wp2
      go_loopw [4, 5] (fun sv i wr => ∃ (j : Nat) (u : Value), u = sv ∧ Hid (i = .int .i64 ((j : Int) - 1)) ∧ j ≤ D.length ∧ Hid (wr.ownsRow wz.heap.size 5 1 u (D.reverse.take (D.length - j)).length (Lib.byteCells (D.reverse.take (D.length - j)))) ∧ Below wz.heap.size wz wr)
        (fun _ i _ => (intOf i + 1).toNat)
      case atStart =>
        refine ⟨D.length, _, rfl, Lib.hid rfl, Nat.le_refl _, Lib.hid ?_, Below.refl _ _⟩
        rw [Nat.sub_self, List.take_zero]; exact World.ownsRow_nil _ _ _ _
      case round =>
        obtain ⟨j, u, rfl, HJ, hj, HU, hbo⟩ := hrel
        have hJ := HJ.out
        subst hJ
        clear HJ
        have hso := hbo.size
        cases j with
        | zero =>
          rw [show (((0 : Nat) : Int) - 1) = -1 from rfl]
          have hU := HU.out
          rw [Nat.sub_zero, List.take_of_length_le (by rw [List.length_reverse]; omega), hE.out] at hU
          have hln : 1 ≤ (Lib.decDigits N).length := by rw [← hE.out, List.length_reverse]; exact hd1
          obtain ⟨g2, cap2, hv2⟩ : ∃ g cap, u = .slice (some ⟨g, 0, none⟩) (Lib.decDigits N).length cap := by
            rcases hU.2 with ⟨_, h0⟩ | ⟨g, cap, _, h, _⟩
            · omega
            · exact ⟨g, cap, h⟩
          subst hv2
          have hcv := run_convert_bytes_back (P := Tryd.prog) wr 44 9 5 ⟨g2, 0, none⟩ cap2 (Lib.decDigits N) Tryd.underlying44 Tryd.underlying5 Tryd.underlying9 (fun i hi => hU.cells (g := g2) rfl i _ (by simp [Lib.byteCells, hi]))
          clear hU
          go_wp2
          go_ret
          exact ⟨rfl, hbw.trans (hbo.mono hsz)⟩
        | succ j =>
          rw [show (((j + 1 : Nat) : Int) - 1) = (j : Int) by omega]
          have hc : wr.cell? ⟨g, j, none⟩ = some (.int .u8 (D[j].toNat : Int)) := (hbo.cell (p := ⟨g, j, none⟩) hgl).trans (hcell.out j (by omega))
          have HR := Lib.hid (rev_step D j (by omega))
          have hjl : (j : Int) < (D.length : Int) := by omega
          have hul : (D.reverse.take (D.length - (j + 1))).length ≤ 20 := by rw [List.length_take, List.length_reverse]; omega
          obtain ⟨c, hcc⟩ : ∃ c : UInt8, D[j] = c := ⟨_, rfl⟩
          rw [hcc] at hc
          have HCC := Lib.hid hcc
          clear hcc
          go_wp2_with (at_builtin; refine wpList_append_own _ rfl _ _ 44 rfl wz.heap.size 5 i0 (.int .u8 0) 1 1 Tryd.underlying44 hi hz0 hz1 hz2 rfl (by decide) _ _ _ rfl (HU.out.alloc _) ⟨wr.heap.size, 0, none⟩ 1 1 [.int .u8 (c.toNat : Int)] rfl rfl (cell_one_new _ _ _) (by simp [Value.oneCell']) (by unfold maxLen; omega) (by omega) (by simp; omega) ?_; intro v2 w2 hown2 hgrow2 _)
          have hb2 := app_below hbo HU.out hgrow2
          go_roundw
          case rel =>
            refine ⟨j, v2, rfl, Lib.hid rfl, by omega, Lib.hid ?_, hb2⟩
            rw [HR.out, HCC.out, bytes_snoc _ c _ rfl, List.length_append]
            exact hown2
          case measure => simp [intOf]
theorem str_eq {a : ByteArray} {l : List UInt8} (h : a.data.toList = l) : Ending.returned (.string a) = .returned (strV l) := by subst h; rw [strV_of]
theorem itoa_pos (N : Nat) : Lib.itoa (N : Int) = Lib.decDigits N := Lib.itoa_nonneg N
theorem dec_last (N : Nat) : Lib.decDigits (N % 10) = [dg1 N] := by
  rw [Lib.decDigits_one (by omega)]; rfl
theorem nat_at (z : Int) (N : Nat) (L : List UInt8) (w : World) (hz : z = (N : Int)) (hN : (N : Int) ≤ 9223372036854775807) (hL : Lib.decDigits N = L) :
    Calls Tryd.prog 52 #[.int .i64 z] w fun e w' => e = .returned (strV L) ∧ Below w.heap.size w w' := by subst hz; subst hL; exact natural_any N w hN
theorem rtext_pos (N : Nat) (w : World) (hN : (N : Int) ≤ 9223372036854775807) :
    Calls Tryd.prog 39 #[.int .i64 (N : Int)] w fun e w' => e = .returned (strV (Lib.itoa (N : Int))) ∧ Below w.heap.size w w' := by
  have h0 : (0 : Int) ≤ (N : Int) := by omega
  go_enter Tryd.func39, Tryd.ntmps39
  go_wp2_with (go_at_call 52; refine (natural_any N _ hN).mono ?_; rintro e w1 ⟨rfl, b1⟩)
  go_ret
  exact ⟨by rw [itoa_pos]; rfl, b1⟩
set_option maxHeartbeats 1000000 in
theorem rtext_neg (N : Nat) (w : World) (h1 : 1 ≤ N) (hN : (N : Int) ≤ 9223372036854775808) :
    Calls Tryd.prog 39 #[.int .i64 (-(N : Int))] w fun e w' => e = .returned (strV (Lib.itoa (-(N : Int)))) ∧ Below w.heap.size w w' := by
  have h0 : ¬ (0 : Int) ≤ -(N : Int) := by omega
  have hI := Lib.hid (Lib.itoa_neg N h1)
  have hS := Lib.hid (dec_split N)
  by_cases hh : N / 10 = 0
  · have e1 : ((N : Int) / 10 == 0) = true := by simp; omega
    go_enter Tryd.func39, Tryd.ntmps39
    go_wp2_with (go_at_call 52; refine (nat_at _ (N % 10) [dg1 N] _ (by omega) (by omega) (dec_last N)).mono ?_; rintro e w1 ⟨rfl, b1⟩; simp only [strV])
    go_ret
    refine ⟨?_, b1⟩
    rw [hI.out, hS.out, hh, dz_zero]
    show Ending.returned (.string (⟨#[45]⟩ ++ ⟨#[dg1 N]⟩)) = _
    exact str_eq (by simp)
  · have e1 : ((N : Int) / 10 == 0) = false := by simp; omega
    have e2 : ((N : Int) / 10 = 0) = False := by simp; omega
    obtain ⟨T1, hT1⟩ : ∃ T1 : ByteArray, (⟨(dz (N / 10)).toArray⟩ : ByteArray) = T1 := ⟨_, rfl⟩
    obtain ⟨T2, hT2⟩ : ∃ T2 : ByteArray, (⟨[dg1 N].toArray⟩ : ByteArray) = T2 := ⟨_, rfl⟩
    have hs1 : T1.size ≤ 20 := by
      rw [← hT1]
      show (dz (N / 10)).length ≤ 20
      unfold dz; rw [if_neg hh]; exact dec_len20 _ (by omega)
    have hs2 : T2.size ≤ 20 := by rw [← hT2]; show 1 ≤ 20; omega
    have k1 := fun W => nat_at ((N : Int) / 10) (N / 10) (dz (N / 10)) W (by omega) (by omega) (by unfold dz; rw [if_neg hh])
    have k2 := fun W => nat_at ((N : Int) % 10) (N % 10) [dg1 N] W (by omega) (by omega) (dec_last N)
    unfold strV at k1 k2
    rw [hT1] at k1
    rw [hT2] at k2
    have K1 := Lib.hid k1
    have K2 := Lib.hid k2
    have HT1 := Lib.hid hT1
    have HT2 := Lib.hid hT2
    clear k1 k2 hT1 hT2
    go_enter Tryd.func39, Tryd.ntmps39
    go_wp2_with (first
      | (go_at_call 52; (with_reducible refine (K1.out _).mono ?_); rintro e w1 ⟨rfl, b1⟩; have s1 := b1.size)
      | (go_at_call 52; (with_reducible refine (K2.out _).mono ?_); rintro e w2 ⟨rfl, b2⟩))
    go_ret
    refine ⟨?_, b1.trans (b2.mono s1)⟩
    rw [hI.out, hS.out]
    show Ending.returned (.string (⟨#[45]⟩ ++ T1 ++ T2)) = _
    rw [← HT1.out, ← HT2.out]
    exact str_eq (by simp)
/-- The document's Text of any number. -/
theorem rtext_any (n : Int) (w : World) (h0 : -9223372036854775808 ≤ n) (h1 : n ≤ 9223372036854775807) :
    Calls Tryd.prog 39 #[.int .i64 n] w fun e w' => e = .returned (strV (Lib.itoa n)) ∧ Below w.heap.size w w' := by
  by_cases hn : 0 ≤ n
  · obtain ⟨N, rfl⟩ : ∃ N : Nat, n = (N : Int) := ⟨n.toNat, by omega⟩
    exact rtext_pos N w h1
  · obtain ⟨N, rfl⟩ : ∃ N : Nat, n = -(N : Int) := ⟨n.natAbs, by omega⟩
    exact rtext_neg N w (by omega) (by omega)
set_option maxRecDepth 100000 in
set_option maxHeartbeats 2000000 in
/-- The document's Row of any word and numbers. -/
theorem rrow_any (s : ByteArray) (ao : Option Addr) (cap : Nat) (Z : List Int) (w : World) (hl : Lst encI w ao Z) (hz : In64 Z) (hn : Z.length ≤ 1000) (hs : s.size ≤ 1099511627776) :
    Calls Tryd.prog 20 #[.string s, .slice ao Z.length cap] w fun e w' => e = .returned (strV (rowL s.data.toList Z)) ∧ Below w.heap.size w w' := by
  have HL := Lib.hid hl
  have HZ := Lib.hid hz
  clear hl hz
  go_enter Tryd.func20, Tryd.ntmps20
  go_wp2
  go_loopw [0, 5] (fun sv i wr => ∃ (k : Nat) (T : ByteArray), sv = .string T ∧ i = .int .i64 (k : Int) ∧ k ≤ Z.length ∧ T.size ≤ 1099511627776 + 22 * k ∧ Hid (T.data.toList = s.data.toList ++ numsL (Z.take k)) ∧ Below w.heap.size w wr)
    (fun _ i _ => Z.length - (intOf i).toNat)
  case atStart => exact ⟨0, s, rfl, rfl, Nat.zero_le _, by omega, Lib.hid (by simp [numsL]), Below.refl _ _⟩
  case round =>
    obtain ⟨k, T, rfl, rfl, hk, hT, HT, hbw⟩ := hrel
    have hsz := hbw.size
    by_cases hlt : k < Z.length
    · have hli : (k : Int) < (Z.length : Int) := by omega
      obtain ⟨b, o, rfl, hb, hc⟩ := HL.out k hlt
      have hc' : wr.cell? ⟨b, o + k, none⟩ = some (.int .i64 Z[k]) := (hbw.cell (p := ⟨b, o + k, none⟩) hb).trans hc
      have hz1 := (HZ.out.at hlt).1
      have hz2 := (HZ.out.at hlt).2
      have hil := Lib.itoa_length_le _ hz1 hz2
      have HS := Lib.hid (List.take_succ_eq_append_getElem hlt)
      clear hc
      obtain ⟨z, hz⟩ : ∃ z, Z[k] = z := ⟨_, rfl⟩
      rw [hz] at hc' hz1 hz2 hil
      have HZK := Lib.hid hz
      clear hz
      have k1 := fun W => rtext_any z W hz1 hz2
      unfold strV at k1
      obtain ⟨X, hX⟩ : ∃ X : ByteArray, (⟨(Lib.itoa z).toArray⟩ : ByteArray) = X := ⟨_, rfl⟩
      have hXs : X.size ≤ 21 := by rw [← hX]; exact hil
      rw [hX] at k1
      have K1 := Lib.hid k1
      have HX := Lib.hid hX
      clear k1 hX hil
      have hTs : (T ++ ⟨#[32]⟩ : ByteArray).size = T.size + 1 := by rw [ByteArray.size_append]; rfl
      have hTs2 : (T ++ ⟨#[32]⟩ ++ X : ByteArray).size = T.size + 1 + X.size := by rw [ByteArray.size_append, hTs]
      have HTS2 := Lib.hid hTs2
      clear hTs hTs2
      go_wp2_with (go_at_call 39; refine (K1.out _).mono ?_; rintro e w1 ⟨rfl, b1⟩; have hb1 := hbw.trans (b1.mono hsz))
      go_roundw
      case rel =>
        refine ⟨k + 1, T ++ ⟨#[32]⟩ ++ X, rfl, by go_num, by omega, by rw [HTS2.out]; omega, Lib.hid ?_, hb1⟩
        rw [HS.out, HZK.out, numsL_snoc, ← HX.out]
        simp [HT.out]
      case measure => simp [intOf]; omega
    · have hli : ¬ (k : Int) < (Z.length : Int) := by omega
      have hE : Hid (T.data.toList = s.data.toList ++ numsL Z) := Lib.hid (by have := HT.out; rwa [List.take_of_length_le (by omega)] at this)
      go_wp2
      go_ret
      refine ⟨?_, hbw⟩
      show Ending.returned (.string (T ++ ⟨#[10]⟩)) = _
      refine str_eq ?_
      unfold rowL
      simp [hE.out]
end Go.Proofs.YtbciplfncnangaaDoor
