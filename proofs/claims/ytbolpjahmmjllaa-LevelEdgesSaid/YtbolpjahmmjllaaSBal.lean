/- Balance of the program and of the document. -/
import Derived.Test.YtbolpjahmmjllaaSPush
namespace Go.Proofs.Ytbolpjahmmjllaa
open Go.RowKit
set_option linter.unusedVariables false

/-- The balances of a flow, or none. -/
def balsL (n : Int) (Z : List ArcT) (F : List Int) : List Int := if flowE n Z F = 0 then balL Z F n.toNat Z.length else []
theorem balL_snoc (Z : List ArcT) (F : List Int) (v i : Nat) : balL Z F (v + 1) i = balL Z F v i ++ [balK Z F v i] := by simp [balL, List.range_succ]
theorem flow_m {n : Int} {b : Bool} {Z : List ArcT} {F : List Int} (hR : Right (n, b, Z)) (hf : Flow Z F) : ∀ i a, Z[i]? = some a → 0 ≤ atI F i ∧ atI F i ≤ 1048576 := fun i a ha => by
  have := flow_bd hR hf ha
  omega
theorem bal_bd {n : Int} {b : Bool} {Z : List ArcT} {F : List Int} (hR : Right (n, b, Z)) (hf : Flow Z F) (v : Nat) {i : Nat} (hi : i ≤ Z.length) : -209715200 ≤ balK Z F v i ∧ balK Z F v i ≤ 209715200 := by
  have h := balK_bd (M := 1048576) (by omega) (flow_m hR hf) v i
  have hz : Z.length ≤ 200 := hR.2.1
  omega
section
variable (n : Int) (b : Bool) (ao fo : Option Addr) (cap fc : Nat) (Z : List ArcT) (F : List Int)
set_option maxRecDepth 100000 in
set_option maxHeartbeats 2000000 in
theorem rleaves_gen (v : Nat) (w : World) (h : Row encA 4 w ao Z) (hf : Lst encI w fo F) (hE : ∀ a ∈ Z, a.1 = (frN a : Int) ∧ a.2.1 = (toN a : Int)) (hl : F.length = Z.length) (hM : ∀ i a, Z[i]? = some a → 0 ≤ atI F i ∧ atI F i ≤ 4398046511104) (hz : Z.length ≤ 200000) :
    Calls Try.prog 52 #[.agg #[.int .i64 n, .bool b, .slice ao Z.length cap], .slice fo F.length fc, .int .i64 (v : Int)] w fun e w' => e = .returned (.int .i64 (balK Z F v Z.length)) ∧ Below w.heap.size w w' := by
  have HL := Lib.hid hl
  have hfl : F.length ≤ 200000 := by rw [hl]; exact hz
  have HRT := Lib.hid hE
  have HFL := Lib.hid hM
  have HBK := Lib.hid (balK_bd (M := 4398046511104) (by omega) hM v)
  have HB0 := Lib.hid ((Below.refl _ w).alloc (Nat.le_refl _) (.cells #[.int .i64 n, .bool b, .slice ao Z.length cap] 24))
  have cc := cell_new w #[.int .i64 n, .bool b, .slice ao Z.length cap] 24 2
  have HR := Lib.hid (row_alloc h (.cells #[.int .i64 n, .bool b, .slice ao Z.length cap] 24))
  have HF := Lib.hid (hf.below ((Below.refl _ w).alloc (Nat.le_refl _) (.cells #[.int .i64 n, .bool b, .slice ao Z.length cap] 24)))
  clear h hf hE hl hM
  go_enter Try.func52, Try.ntmps52
  go_wp2
  generalize w.alloc (.cells #[.int .i64 n, .bool b, .slice ao Z.length cap] 24) = w1 at *
  go_loop [7, 8] (fun x i => ∃ k : Nat, k ≤ F.length ∧ i = .int .i64 (k : Int) ∧ x = .int .i64 (balK Z F v k)) (fun _ i => F.length - (intOf i).toNat)
  case atStart => exact ⟨0, Nat.zero_le _, rfl, rfl⟩
  case round =>
    obtain ⟨k, hk, rfl, rfl⟩ := hrel
    have hbd0 := HBK.out k
    have hbd : -879609302220800000 ≤ balK Z F v k ∧ balK Z F v k ≤ 879609302220800000 := by omega
    clear hbd0
    by_cases hlf : k < F.length
    · have hlfi : (k : Int) < (F.length : Int) := by omega
      have hlt : k < Z.length := by rw [← HL.out]; exact hlf
      have hli : (k : Int) < (Z.length : Int) := by omega
      have ha : Z[k]? = some Z[k] := List.getElem?_eq_getElem hlt
      obtain ⟨h1, h2⟩ := HRT.out _ (List.mem_of_getElem? ha)
      obtain ⟨ab, ax, e, hab, c0, c1, c2, c3⟩ := arc_at HR.out ha
      cases e
      rw [h1] at c0
      rw [h2] at c1
      obtain ⟨fb, fx, e, hfb, d0⟩ := lst_cell HF.out (atI_get (d := F) (v := k) hlf)
      cases e
      have HS := Lib.hid (balK_succ (f := F) (v := v) ha)
      obtain ⟨q0, q4⟩ := HFL.out k _ ha
      unfold encI at d0
      unfold share at HS
      clear h1 h2 c2 c3 ha
      generalize Z[k] = a at *
      generalize frN a = x at *
      generalize toN a = y at *
      generalize atI F k = u at *
      generalize balK Z F v k = s at *
      by_cases hx : x = v <;> by_cases hy : y = v
      · subst hx
        obtain rfl : y = x := hy
        have HS2 : Hid (balK Z F y (k + 1) = s) := Lib.hid (by rw [HS.out, if_pos rfl]; omega)
        clear HS
        go_wp2
        go_round
        case rel => exact ⟨k + 1, by omega, by go_num, by rw [HS2.out]⟩
        case measure => simp [intOf]; omega
      · subst hx
        have hf2 : ((y : Int) == (x : Int)) = false := by simp; omega
        have hf4 : (y == x) = false := by simp; omega
        have HS2 : Hid (balK Z F x (k + 1) = s + u) := Lib.hid (by rw [HS.out, if_pos rfl, if_neg hy]; omega)
        clear hy HS
        go_wp2
        go_round
        case rel => exact ⟨k + 1, by omega, by go_num, by rw [HS2.out]⟩
        case measure => simp [intOf]; omega
      · subst hy
        have hf2 : ((x : Int) == (y : Int)) = false := by simp; omega
        have hf4 : (x == y) = false := by simp; omega
        have HS2 : Hid (balK Z F y (k + 1) = s - u) := Lib.hid (by rw [HS.out, if_pos rfl, if_neg hx]; omega)
        clear hx HS
        go_wp2
        go_round
        case rel => exact ⟨k + 1, by omega, by go_num, by rw [HS2.out]⟩
        case measure => simp [intOf]; omega
      · have hf1 : ((x : Int) == (v : Int)) = false := by simp; omega
        have hf2 : ((y : Int) == (v : Int)) = false := by simp; omega
        have hf3 : (x == v) = false := by simp; omega
        have hf4 : (y == v) = false := by simp; omega
        have HS2 : Hid (balK Z F v (k + 1) = s) := Lib.hid (by rw [HS.out, if_neg hx, if_neg hy]; omega)
        clear hx hy HS
        go_wp2
        go_round
        case rel => exact ⟨k + 1, by omega, by go_num, by rw [HS2.out]⟩
        case measure => simp [intOf]; omega
    · have hlfi : ¬ (k : Int) < (F.length : Int) := by omega
      obtain rfl : k = F.length := by omega
      go_wp2
      go_ret
      exact ⟨ret_int (by rw [HL.out]), HB0.out⟩
theorem rleaves_at (v : Nat) (w : World) (h : Row encA 4 w ao Z) (hf : Lst encI w fo F) (hR : Right (n, b, Z)) (hF : Flow Z F) :
    Calls Try.prog 52 #[.agg #[.int .i64 n, .bool b, .slice ao Z.length cap], .slice fo F.length fc, .int .i64 (v : Int)] w fun e w' => e = .returned (.int .i64 (balK Z F v Z.length)) ∧ Below w.heap.size w w' :=
  rleaves_gen n b ao fo cap fc Z F v w h hf (fun a ha => ⟨(right_arc hR ha).1, (right_arc hR ha).2.1⟩) hF.1 (fun i a ha => by have := flow_m hR hF i a ha; omega) (by have : Z.length ≤ 200 := hR.2.1; omega)
set_option maxRecDepth 100000 in
set_option maxHeartbeats 2000000 in
theorem rbalance_ok (w : World) (h : Row encA 4 w ao Z) (hf : Lst encI w fo F) (he : flowE n Z F = 0) :
    Calls Try.prog 33 #[.agg #[.int .i64 n, .bool b, .slice ao Z.length cap], .slice fo F.length fc] w (ListsV (balL Z F n.toNat Z.length) 0 w) := by
  obtain ⟨hR, hF, hz, hfl, hn1, hn2⟩ := flow_facts (b := b) he
  obtain ⟨hc, hq⟩ := flowE_ok he
  obtain ⟨N, rfl⟩ : ∃ N : Nat, n = (N : Int) := ⟨n.toNat, by omega⟩
  have HC := Lib.hid hc
  have HQ := Lib.hid hq
  have HRT := Lib.hid hR
  have HFL := Lib.hid hF
  have HZ : Hid (Z.length ≤ maxLen) := Lib.hid (by unfold maxLen; omega)
  have HFM : Hid (F.length ≤ maxLen) := Lib.hid (by unfold maxLen; omega)
  have HB0 := Lib.hid ((Below.refl _ w).alloc (Nat.le_refl _) (.cells #[.int .i64 (N : Int), .bool b, .slice ao Z.length cap] 24))
  have HN := Lib.hid (heap_alloc_new w (.cells #[.int .i64 (N : Int), .bool b, .slice ao Z.length cap] 24))
  have HR := Lib.hid (row_alloc h (.cells #[.int .i64 (N : Int), .bool b, .slice ao Z.length cap] 24))
  have HF := Lib.hid (hf.below ((Below.refl _ w).alloc (Nat.le_refl _) (.cells #[.int .i64 (N : Int), .bool b, .slice ao Z.length cap] 24)))
  clear h hf hR hF he hc hq hfl
  go_enter Try.func33, Try.ntmps33
  go_wp2_with (first
    | (go_at_call 45; refine (rcheck_is (N : Int) b ao cap Z 0 _ HR.out HZ.out HC.out).mono ?_; rintro e w1 ⟨rfl, hb1⟩; have hn1 := kept_box HN.out hb1; have HN1 := Lib.hid hn1; have HR1 := Lib.hid (HR.out.below' hb1); have HF1 := Lib.hid (HF.out.below hb1); have HB1 := Lib.hid (HB0.out.trans (hb1.mono HB0.out.size)); have x1 := cell_whole hn1 0; have y1 := cell_whole hn1 1; have z1 := cell_whole hn1 2; clear hb1 hn1)
    | (go_at_call 46; refine (rwithin_is (N : Int) b ao fo cap fc Z F true _ HR1.out HF1.out HZ.out HFM.out HQ.out).mono ?_; rintro e w2 ⟨rfl, hb2⟩; have hn2 := kept_box HN1.out hb2; have HN2 := Lib.hid hn2; have HR2 := Lib.hid (HR1.out.below' hb2); have HF2 := Lib.hid (HF1.out.below hb2); have HB2 := Lib.hid (HB1.out.trans (hb2.mono HB1.out.size)); have x2 := cell_whole hn2 0; have y2 := cell_whole hn2 1; have z2 := cell_whole hn2 2; clear hb2 hn2 x1 y1 z1))
  have hxl := block_lt_of_cell x2
  simp only at hxl
  go_loopw [7, 8] (fun ov i wr => ∃ v : Nat, v ≤ N ∧ i = .int .i64 (v : Int) ∧ Hid (Below w2.heap.size w2 wr) ∧ Hid (OwnL encI wr w2.heap.size 3 ov (balL Z F v Z.length))) (fun _ i _ => N - (intOf i).toNat)
  case atStart => exact ⟨0, Nat.zero_le _, rfl, Lib.hid (Below.refl _ _), Lib.hid (OwnL.nil _ _ _)⟩
  case round =>
    obtain ⟨v, hv, rfl, HB, HO⟩ := hrel
    have hs := HB.out.size
    have e0 := cell_below' HB.out x2 hxl
    have e1 := cell_below' HB.out y2 hxl
    have e2 := cell_below' HB.out z2 hxl
    by_cases hlt : v < N
    · have hli : (v : Int) < (N : Int) := by omega
      have HSN := Lib.hid (balL_snoc Z F v Z.length)
      have HLN := Lib.hid (balL_len Z F v Z.length)
      have hroom : (balL Z F v Z.length).length ≤ 200000 := by rw [HLN.out]; omega
      generalize balL Z F v Z.length = L at *
      obtain ⟨bv, hbv⟩ : ∃ bv, balK Z F v Z.length = bv := ⟨_, rfl⟩
      have HBV := Lib.hid hbv
      clear hbv
      go_wp2_with (first
        | (go_at_call 52; refine (rleaves_at (N : Int) b ao fo cap fc Z F v _ (HR2.out.below' HB.out) (HF2.out.below HB.out) HRT.out HFL.out).mono ?_; rintro e w3 ⟨rfl, hb3⟩; rw [HBV.out]; have hs3 := hb3.size; have HO3 := Lib.hid ((HO.out.below hb3).alloc (.cells #[.int .i64 bv] 3)); have HB3 := Lib.hid ((HB.out.trans (hb3.mono hs)).alloc (by omega) (.cells #[.int .i64 bv] 3)); clear hb3)
        | (at_builtin; refine wpList_append_one (enc := encI) Try.underlying25 infoInt rfl (by omega) rfl _ _ rfl w2.heap.size _ L bv rfl rfl HO3.out _ 1 rfl (cell_new' (by simp) _ _ 0) hroom (by simp; omega) ?_; intro g4 cap4 w4 ho4 hg4 hl4 hb4 hlt4; have HO4 := Lib.hid ho4; have HB4 := Lib.hid (below_grown HB3.out (by simp; omega) hg4 (fun g e => own_block HO3.out e)); clear ho4 hg4 hl4))
      go_roundw
      case rel => exact ⟨v + 1, by omega, by go_num, HB4, Lib.hid (by rw [HSN.out, HBV.out]; exact HO4.out)⟩
      case measure => simp [intOf]; omega
    · have hli : ¬ (v : Int) < (N : Int) := by omega
      obtain rfl : v = N := by omega
      obtain ⟨a, c, hov, hl⟩ := HO.out.lst
      subst hov
      have HLL := Lib.hid hl
      clear hl
      go_wp2
      go_ret2
      exact ⟨a, c, rfl, HLL.out, HB2.out.trans (HB.out.mono HB2.out.size)⟩
theorem rbalance_no (e0 : Int) (w : World) (h : Row encA 4 w ao Z) (hf : Lst encI w fo F) (hz : Z.length ≤ maxLen) (hfl : F.length ≤ maxLen) (he : flowE n Z F = e0) (h0 : e0 ≠ 0) :
    Calls Try.prog 33 #[.agg #[.int .i64 n, .bool b, .slice ao Z.length cap], .slice fo F.length fc] w fun e w' => e = .returned (.tuple #[.slice none 0 0, .int .i64 e0]) ∧ Below w.heap.size w w' := by
  have HB0 := Lib.hid ((Below.refl _ w).alloc (Nat.le_refl _) (.cells #[.int .i64 n, .bool b, .slice ao Z.length cap] 24))
  have HN := Lib.hid (heap_alloc_new w (.cells #[.int .i64 n, .bool b, .slice ao Z.length cap] 24))
  have HR := Lib.hid (row_alloc h (.cells #[.int .i64 n, .bool b, .slice ao Z.length cap] 24))
  have HF := Lib.hid (hf.below ((Below.refl _ w).alloc (Nat.le_refl _) (.cells #[.int .i64 n, .bool b, .slice ao Z.length cap] 24)))
  have HZ := Lib.hid hz
  have HFM := Lib.hid hfl
  clear h hf hz hfl
  by_cases hc : checkE n Z = 0
  · have hq : flowB Z F = false := by
      cases hq : flowB Z F with
      | false => rfl
      | true => rw [flowE_mk hc hq] at he; exact absurd he.symm h0
    obtain rfl : e0 = 71 := by rw [← he]; exact flowE_bad hc hq
    have HC := Lib.hid hc
    have HQ := Lib.hid hq
    clear hc hq he h0
    go_enter Try.func33, Try.ntmps33
    go_wp2_with (first
      | (go_at_call 45; refine (rcheck_is n b ao cap Z 0 _ HR.out HZ.out HC.out).mono ?_; rintro e w1 ⟨rfl, hb1⟩; have hn1 := kept_box HN.out hb1; have HR1 := Lib.hid (HR.out.below' hb1); have HF1 := Lib.hid (HF.out.below hb1); have HB1 := Lib.hid (HB0.out.trans (hb1.mono HB0.out.size)); have x1 := cell_whole hn1 0; have y1 := cell_whole hn1 1; have z1 := cell_whole hn1 2; clear hb1 hn1)
      | (go_at_call 46; refine (rwithin_is n b ao fo cap fc Z F false _ HR1.out HF1.out HZ.out HFM.out HQ.out).mono ?_; rintro e w2 ⟨rfl, hb2⟩; have HB2 := Lib.hid (HB1.out.trans (hb2.mono HB1.out.size)); clear hb2))
    go_ret2
    exact ⟨rfl, HB2.out⟩
  · obtain rfl : e0 = checkE n Z := by rw [← he]; exact flowE_net hc
    obtain ⟨e0, he0⟩ : ∃ e0, checkE n Z = e0 := ⟨_, rfl⟩
    rw [he0]
    rw [he0] at h0
    have HC := Lib.hid he0
    have hf2 : (e0 != 0) = true := by simpa using h0
    have hf1 : (e0 == 0) = false := by simpa using h0
    clear hc he0 he h0
    go_enter Try.func33, Try.ntmps33
    go_wp2_with (go_at_call 45; refine (rcheck_is n b ao cap Z e0 _ HR.out HZ.out HC.out).mono ?_; rintro e w1 ⟨rfl, hb1⟩; have HB1 := Lib.hid (HB0.out.trans (hb1.mono HB0.out.size)); clear hb1)
    go_ret2
    exact ⟨rfl, HB1.out⟩
/-- A flow's variable and a list of numbers of the call's own, side by side. -/
structure BW (w2 wr : World) (g N : Nat) (L : List Int) : Prop where
  below : Below w2.heap.size w2 wr
  own : OwnL encI wr w2.heap.size 3 (.slice (some ⟨g, 0, none⟩) N N) L
section
variable {w2 wr w3 : World} {g N : Nat} {L : List Int}
theorem BW.next (h : BW w2 wr g N L) (hb : Below wr.heap.size wr w3) : BW w2 w3 g N L := ⟨h.below.trans (hb.mono h.below.size), h.own.below hb⟩
theorem BW.alloc (h : BW w2 wr g N L) (o : Obj) : BW w2 (wr.alloc o) g N L := h.next ((Below.refl _ wr).alloc (Nat.le_refl _) o)
theorem BW.put (h : BW w2 wr g N L) (j : Nat) (z : Int) : BW w2 (wr.setCell ⟨g, j, none⟩ (.int .i64 z)) g N (L.set j z) := ⟨below_set h.below (own_lt2 h.own rfl).1 _, h.own.put j z⟩
end
set_option maxRecDepth 100000 in
set_option maxHeartbeats 4000000 in
theorem balance_ok (w : World) (h : Row encA 4 w ao Z) (hf : Lst encI w fo F) (he : flowE n Z F = 0) :
    Calls Try.prog 34 #[.agg #[.int .i64 n, .bool b, .slice ao Z.length cap], .slice fo F.length fc] w (ListsV (balL Z F n.toNat Z.length) 0 w) := by
  obtain ⟨hR, hF, hz, hfl, hn1, hn2⟩ := flow_facts (b := b) he
  obtain ⟨N, rfl⟩ : ∃ N : Nat, n = (N : Int) := ⟨n.toNat, by omega⟩
  have HE := Lib.hid he
  have HRT := Lib.hid hR
  have HFL := Lib.hid hF
  have HL := Lib.hid hfl
  have hfl2 : F.length ≤ 200 := by omega
  have HZ : Hid (Z.length ≤ maxLen) := Lib.hid (by unfold maxLen; omega)
  have HFM : Hid (F.length ≤ maxLen) := Lib.hid (by unfold maxLen; omega)
  have HB0 := Lib.hid ((Below.refl _ w).alloc (Nat.le_refl _) (.cells #[.int .i64 (N : Int), .bool b, .slice ao Z.length cap] 24))
  have HN := Lib.hid (heap_alloc_new w (.cells #[.int .i64 (N : Int), .bool b, .slice ao Z.length cap] 24))
  have HR := Lib.hid (row_alloc h (.cells #[.int .i64 (N : Int), .bool b, .slice ao Z.length cap] 24))
  have HF := Lib.hid (hf.below ((Below.refl _ w).alloc (Nat.le_refl _) (.cells #[.int .i64 (N : Int), .bool b, .slice ao Z.length cap] 24)))
  clear h hf hR hF he hfl
  go_enter Try.func34, Try.ntmps34
  go_wp2_with (first
    | (go_at_call 53; refine (load_ok (N : Int) b ao fo cap fc Z F _ HR.out HF.out HZ.out HFM.out HE.out).mono ?_; rintro e w1 ⟨rfl, hb1⟩; have hn1 := kept_box HN.out hb1; have hs1 := hb1.size; have hba := (Below.refl _ w1).alloc (Nat.le_refl _) (.cells #[.int .i64 (N : Int), .bool b, .slice ao Z.length cap, .slice fo F.length fc] 88); have HR1 := Lib.hid ((HR.out.below' hb1).below' hba); have HF1 := Lib.hid ((HF.out.below hb1).below hba); have HB1 := Lib.hid ((HB0.out.trans (hb1.mono HB0.out.size)).trans (hba.mono (by simp at hs1; omega))); have x1 := cell_alloc (cell_whole hn1 0) (.cells #[.int .i64 (N : Int), .bool b, .slice ao Z.length cap, .slice fo F.length fc] 88); have HSZ1 : Hid ((w1.alloc (.cells #[.int .i64 (N : Int), .bool b, .slice ao Z.length cap, .slice fo F.length fc] 88)).heap.size = w1.heap.size + 1) := Lib.hid (by simp); have HV1 := Lib.hid (heap_alloc_new w1 (.cells #[.int .i64 (N : Int), .bool b, .slice ao Z.length cap, .slice fo F.length fc] 88)); clear hb1 hn1 hba hs1)
    | (at_make; refine wpList_make_L (enc := encI) 0 Try.underlying25 infoInt rfl (by omega) rfl _ _ rfl N rfl rfl (by omega) ?_; intro w3 ho3 hb3; have hW := BW.mk hb3 ho3; rw [HSZ1.out] at hW; have HW3 := Lib.hid hW; clear hb3 ho3 hW))
  clear x1
  obtain ⟨g, hg⟩ : ∃ g, w1.heap.size + 1 = g := ⟨_, rfl⟩
  rw [hg] at HW3 HSZ1 ⊢
  have hVg : w1.heap.size ≠ g := by omega
  have hVl : w1.heap.size < g := by omega
  clear hg
  generalize w1.alloc (.cells #[.int .i64 (N : Int), .bool b, .slice ao Z.length cap, .slice fo F.length fc] 88) = wq at *
  generalize w1.heap.size = V at *
  go_loopw [26] (fun i wr => ∃ k : Nat, k ≤ F.length ∧ i = .int .i64 (k : Int) ∧ Hid (BW wq wr g N (balL Z F N k))) (fun i _ => F.length - (intOf i).toNat)
  case atStart => exact ⟨0, Nat.zero_le _, rfl, Lib.hid (by rw [balL_zero]; exact HW3.out)⟩
  case round =>
    clear HW3
    obtain ⟨k, hk, rfl, HW⟩ := hrel
    by_cases hlf : k < F.length
    · have hlfi : (k : Int) < (F.length : Int) := by omega
      have hlt : k < Z.length := by rw [← HL.out]; exact hlf
      have ha : Z[k]? = some Z[k] := List.getElem?_eq_getElem hlt
      obtain ⟨h1, h2, h3, h4, h5, h6⟩ := right_arc HRT.out (List.mem_of_getElem? ha)
      rw [Int.toNat_natCast] at h3 h4
      obtain ⟨fb, fx, e, hfb, d0⟩ := lst_cell (HF1.out.below HW.out.below) (atI_get (d := F) (v := k) hlf)
      cases e
      unfold encI at d0
      have HBS := Lib.hid (balL_step (f := F) ha h3 h4)
      obtain ⟨q0, q1, q2, q3, _, _⟩ := flow_bd HRT.out HFL.out ha
      have q4 : atI F k ≤ 1048576 := by omega
      have hbx := bal_bd HRT.out HFL.out (frN Z[k]) (i := k) (by omega)
      have hby := bal_bd HRT.out HFL.out (toN Z[k]) (i := k) (by omega)
      have ex := balL_at Z F k h3
      have ey := balL_at Z F k h4
      have eyy := atI_set (d := balL Z F N k) (v := frN Z[k]) (u := toN Z[k]) (x := atI (balL Z F N k) (frN Z[k]) + atI F k) (by rw [balL_len]; exact h3)
      have HA := Lib.hid ha
      have HBE : Hid (begI Z[k] false = (frN Z[k] : Int)) := Lib.hid h1
      have HEN : Hid (endI Z[k] false = (toN Z[k] : Int)) := Lib.hid h2
      have hll := balL_len Z F N k
      clear h1 h2 h5 h6 ha q1 q2 q3
      generalize Z[k] = a at *
      generalize frN a = x at *
      generalize toN a = y at *
      generalize atI F k = u at *
      obtain ⟨s, hs⟩ : ∃ s, atI (balL Z F N k) x = s := ⟨_, rfl⟩
      rw [hs] at HBS ex eyy
      rw [← ex] at hbx
      obtain ⟨r, hr⟩ : ∃ r, atI ((balL Z F N k).set x (s + u)) y = r := ⟨_, rfl⟩
      rw [hr] at HBS eyy
      have hr1 : -210763776 ≤ r ∧ r ≤ 210763776 := by
        rw [eyy]
        split
        · omega
        · rw [ey]; omega
      have hr2 := hr1.1
      have hr3 := hr1.2
      have hs2 := hbx.1
      have hs3 := hbx.2
      have hL1 := atI_get (d := balL Z F N k) (v := x) (by omega)
      rw [hs] at hL1
      have hL2 := atI_get (d := (balL Z F N k).set x (s + u)) (v := y) (by rw [List.length_set]; omega)
      rw [hr] at hL2
      have HL1 := Lib.hid hL1
      have HL2 := Lib.hid hL2
      generalize balL Z F N k = L at *
      have hxi : (x : Int) < (N : Int) := by omega
      have hyi : (y : Int) < (N : Int) := by omega
      have hvv := (HW.out.below.block V (by rw [HSZ1.out]; exact hVl)).trans HV1.out
      have HVV := Lib.hid hvv
      obtain ⟨⟨y0, y1, y2, y3⟩, _⟩ := ldCells (alloc_whole hvv (.cells #[.int .i64 (k : Int), .bool false] 40))
      have HST := Lib.hid (heap_alloc_new wr (.cells #[.int .i64 (k : Int), .bool false] 40))
      have hgl := (own_lt2 HW.out.own rfl).2
      have hgw : g < wr.heap.size := hgl
      have hVw : V < wr.heap.size := by omega
      clear hbx hby ex ey eyy hs hr hr1 hL1 hL2 hll hvv hgl
      go_wp2_with (first
        | (go_at_call 54; refine (begin_at (N : Int) b ao cap Z k false a _ (HR1.out.below' (HW.out.alloc (.cells #[.int .i64 (k : Int), .bool false] 40)).below) HA.out hz).mono ?_; rintro e w4 ⟨rfl, hb4⟩; rw [HBE.out]; have hW4 := (HW.out.alloc (.cells #[.int .i64 (k : Int), .bool false] 40)).next hb4; obtain ⟨cx, fx⟩ := hW4.own.cell HL1.out; unfold encI at cx; have hv4 := kept_box (alloc_whole HVV.out (.cells #[.int .i64 (k : Int), .bool false] 40)) hb4; have hs4 := kept_box HST.out hb4; obtain ⟨⟨z0, z1, z2, z3⟩, _⟩ := ldCells (set_other hv4 hVg x (.int .i64 (s + u))); have t0 := cell_whole (set_other hs4 (by omega) x (.int .i64 (s + u)) (b := g)) 0; have t1 := cell_whole (set_other hs4 (by omega) x (.int .i64 (s + u)) (b := g)) 1; have HW5 := Lib.hid (hW4.put x (s + u)); clear hb4 hW4 hv4 hs4 y0 y1 y2 y3)
        | (go_at_call 55; refine (endof_at (N : Int) b ao cap Z k false a _ (HR1.out.below' HW5.out.below) HA.out hz).mono ?_; rintro e w6 ⟨rfl, hb6⟩; rw [HEN.out]; have hW6 := HW5.out.next hb6; obtain ⟨cy, fy⟩ := hW6.own.cell HL2.out; unfold encI at cy; have HW7 := Lib.hid (hW6.put y (r - u)); clear hb6 hW6 z0 z1 z2 z3 t0 t1))
      go_roundw
      case rel => exact ⟨k + 1, by omega, by go_num, Lib.hid (by rw [HBS.out]; exact HW7.out)⟩
      case measure => simp [intOf]; omega
    · have hlfi : ¬ (k : Int) < (F.length : Int) := by omega
      obtain rfl : k = F.length := by omega
      go_wp2
      go_ret2
      have hl := balL_len Z F N Z.length
      have ho := HW.out.own.lstK
      rw [HL.out] at ho
      exact ⟨some ⟨g, 0, none⟩, N, by rw [hl]; rfl, ho, HB1.out.trans (HW.out.below.mono HB1.out.size)⟩
theorem balance_no (e0 : Int) (w : World) (h : Row encA 4 w ao Z) (hf : Lst encI w fo F) (hz : Z.length ≤ maxLen) (hfl : F.length ≤ maxLen) (he : flowE n Z F = e0) (h0 : e0 ≠ 0) :
    Calls Try.prog 34 #[.agg #[.int .i64 n, .bool b, .slice ao Z.length cap], .slice fo F.length fc] w fun e w' => e = .returned (.tuple #[.slice none 0 0, .int .i64 e0]) ∧ Below w.heap.size w w' := by
  have HB0 := Lib.hid ((Below.refl _ w).alloc (Nat.le_refl _) (.cells #[.int .i64 n, .bool b, .slice ao Z.length cap] 24))
  have HR := Lib.hid (row_alloc h (.cells #[.int .i64 n, .bool b, .slice ao Z.length cap] 24))
  have HF := Lib.hid (hf.below ((Below.refl _ w).alloc (Nat.le_refl _) (.cells #[.int .i64 n, .bool b, .slice ao Z.length cap] 24)))
  have HZ := Lib.hid hz
  have HFM := Lib.hid hfl
  have HE := Lib.hid he
  have H0 := Lib.hid h0
  have hf2 : (e0 != 0) = true := by simpa using h0
  have hf1 : (e0 == 0) = false := by simpa using h0
  clear h hf hz hfl he h0
  go_enter Try.func34, Try.ntmps34
  go_wp2_with (go_at_call 53; refine (load_no n b ao fo cap fc Z F e0 _ HR.out HF.out HZ.out HFM.out HE.out H0.out).mono ?_; rintro e w1 ⟨rfl, hb1⟩; have hs1 := hb1.size; have HB1 := Lib.hid ((HB0.out.trans (hb1.mono HB0.out.size)).alloc (by simp at hs1; omega) (.cells #[.int .i64 0, .bool false, .slice none 0 0, .slice none 0 0] 88)); clear hb1 hs1)
  go_ret2
  exact ⟨rfl, HB1.out⟩
theorem balance_any (w : World) (h : Row encA 4 w ao Z) (hf : Lst encI w fo F) (hz : Z.length ≤ maxLen) (hfl : F.length ≤ maxLen) :
    Calls Try.prog 34 #[.agg #[.int .i64 n, .bool b, .slice ao Z.length cap], .slice fo F.length fc] w (ListsV (balsL n Z F) (flowE n Z F) w) := by
  unfold balsL
  by_cases h0 : flowE n Z F = 0
  · rw [if_pos h0, h0]
    exact balance_ok n b ao fo cap fc Z F w h hf h0
  · rw [if_neg h0]
    refine (balance_no n b ao fo cap fc Z F _ w h hf hz hfl rfl h0).mono ?_
    rintro e w' ⟨rfl, hb⟩
    exact ⟨none, 0, rfl, Lst.nil _ _, hb⟩
theorem rbalance_any (w : World) (h : Row encA 4 w ao Z) (hf : Lst encI w fo F) (hz : Z.length ≤ maxLen) (hfl : F.length ≤ maxLen) :
    Calls Try.prog 33 #[.agg #[.int .i64 n, .bool b, .slice ao Z.length cap], .slice fo F.length fc] w (ListsV (balsL n Z F) (flowE n Z F) w) := by
  unfold balsL
  by_cases h0 : flowE n Z F = 0
  · rw [if_pos h0, h0]
    exact rbalance_ok n b ao fo cap fc Z F w h hf h0
  · rw [if_neg h0]
    refine (rbalance_no n b ao fo cap fc Z F _ w h hf hz hfl rfl h0).mono ?_
    rintro e w' ⟨rfl, hb⟩
    exact ⟨none, 0, rfl, Lst.nil _ _, hb⟩
end
end Go.Proofs.Ytbolpjahmmjllaa
