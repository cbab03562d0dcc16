/- What package plan's Arrived tells of a plan. -/
import Derived.Test.YtbkmfjegbmjknaaHBad
namespace Go.Proofs.Ytbkmfjegbmjknaa
open Go.RowKit
set_option linter.unusedVariables false

/-- A row with room, and nothing in it yet. -/
theorem wpList_make_room {α : Type} {enc : α → Value} {t e : TypeId} {bytes : Nat} {z : Value} (ht : Try.prog.underlying t = some (.slice e)) (hinfo : (Try.prog.info? e).map (fun i => (i.zero, i.size, i.bytes)) = some (some z, 1, bytes)) (hby : bytes ≤ 64)
    {w : World} {ops : Array Oper} {rest : List Oper} {o : Oper} {a : Act} {Q : Exit → Act → World → Prop} (hgd : o.guard = none) (l c : Operand) (hop : o.op = Op.makeSlice t l c)
    (n : Nat) (C : Int) (hl : a.eval l = .int .i64 0) (hc : a.eval c = .int .i64 C) (hC : C = (n : Int)) (hn : n ≤ 200000)
    (hK : ∀ w', OwnL enc w' w.heap.size e (.slice (some ⟨w.heap.size, 0, none⟩) 0 n) ([] : List α) → Below w.heap.size w w' → wpList Try.prog ops Q rest (a.put o.dst (.slice (some ⟨w.heap.size, 0, none⟩) 0 n)) w') : wpList Try.prog ops Q (o :: rest) a w := by
  obtain ⟨i0, hi, hz0, hz1, hz2⟩ := info_parts hinfo
  refine wpList_make_own w hgd l c t hop w.heap.size e i0 _ 1 ht hi hz0 hz1 .i64 .i64 C n hl hc hC ?_ (by unfold maxLen; omega) (Nat.le_refl _) ?_
  · rw [hz2]
    have : bytes * n ≤ 64 * 200000 := Nat.mul_le_mul hby hn
    omega
  · intro w' h1 h2
    exact hK w' h1 (below_of_none h2)
theorem range_step {α : Type} (f : Nat → α) (u : Nat) : (List.range (u + 1)).map f = (List.range u).map f ++ [f u] := by rw [List.range_succ, List.map_append]; rfl
theorem range_lenM {α : Type} (f : Nat → α) (u : Nat) : ((List.range u).map f).length = u := by simp
section
variable (b : Bool) (ao : Option Addr) (cap nl : Nat) (Z : List ArcT) (N i j hh : Nat) (lo : Option Addr) (lc ll : Nat) (L : List MoveT)
set_option maxRecDepth 100000 in
set_option maxHeartbeats 4000000 in
theorem narrived_no (w : World) (h : Row encA 4 w ao Z) (hz : Z.length ≤ 4398046511104) (hl : Row encK 3 w lo L) (hok : ∀ x ∈ L, okK x) (hn : L.length ≤ 200) (hnl : Z.length = nl) (hll : L.length = ll) (he : mvE (N : Int) Z (i : Int) (j : Int) (hh : Int) L = 0) (hp : planB Z L N i j hh b = false) :
    Calls Try.prog 71 #[.agg #[.int .i64 (N : Int), .bool b, .slice ao nl cap], .int .i64 (i : Int), .int .i64 (j : Int), .int .i64 (hh : Int), .slice lo ll lc] w fun e w' => e = .returned (.tuple #[.slice none 0 0, .int .i64 141]) ∧ Below w.heap.size w w' := by
  have hb00 := (Below.refl _ w).alloc (Nat.le_refl _) (.cells #[.int .i64 (N : Int), .bool b, .slice ao nl cap] 24)
  have hn00 := heap_alloc_new w (.cells #[.int .i64 (N : Int), .bool b, .slice ao nl cap] 24)
  have HB := Lib.hid hb00
  have HNB := Lib.hid hn00
  have HR := Lib.hid (h.below' hb00)
  have HL := Lib.hid (hl.below' hb00)
  have c0 := cell_whole hn00 0
  have c1 := cell_whole hn00 1
  have c2 := cell_whole hn00 2
  have HZ := Lib.hid hz
  have HOK := Lib.hid hok
  have HNL := Lib.hid hnl
  have HLL := Lib.hid hll
  have HE := Lib.hid he
  obtain ⟨⟨hiN, hjN, hij⟩, hW, hH, hM⟩ := good_net Z N i j hh L he
  have hN50 := hW.nodes
  have HP := Lib.hid hp
  clear h hb00 hn00 hz hl hok hnl hll he hp hW hM
  go_enter Try.func71, Try.ntmps71
  go_wp2_with (first
    | (go_at_call 78; refine (nfollow_good (N : Int) b ao cap nl Z (i : Int) (j : Int) (hh : Int) lo lc ll L _ HR.out HZ.out HL.out HOK.out hn HNL.out HLL.out HE.out).mono ?_; rintro e w2 ⟨bm, m, rfl, hbm, hA2, hb2⟩; unfold crsV; have HA2 := Lib.hid hA2; have HBW := Lib.hid hb2; have HB2 := Lib.hid (HB.out.trans (hb2.mono HB.out.size)); have HNB2 := Lib.hid (kept_box HNB.out hb2); clear hb2 hA2 hbm)
    | ((with_reducible show wpList _ _ _ (Oper.mk none (Op.store 134 (Operand.tmp 12) _) _ _ _ _ :: _) _ _); refine wpList_store_course rfl _ _ rfl _ _ (crsL (N : Int) b ao nl cap (i : Int) (j : Int) (hh : Int) bm) rfl rfl (heap_alloc_new _ _) rfl rfl (crsL_one _ b ao nl cap _ _ _ bm) ?_; intro w3 hg3 hk3; have HB3 : Hid (Below w2.heap.size w2 w3) := Lib.hid (((Below.refl _ w2).alloc (Nat.le_refl _) _).trans (hk3.below (by simp) (fun i e => Nat.le_of_eq (Eq.symm e)))); unfold crsL at hg3; have HG3 := Lib.hid hg3; have c0 := cell_whole hg3 0; have c1 := cell_whole hg3 1; have c2 := cell_whole hg3 2; have c3 := cell_whole hg3 3; have c4 := cell_whole hg3 4; have c5 := cell_whole hg3 5; have c6 := cell_whole hg3 6; have HR3 := Lib.hid ((HR.out.below' HBW.out).below' HB3.out); have HA3 := Lib.hid (HA2.out.below HB3.out); have HNB3 := Lib.hid (kept_box HNB2.out HB3.out); have HBB3 := Lib.hid (HB2.out.trans (HB3.out.mono HB2.out.size)); have z1 := cell_whole HNB3.out 1; have z0 := cell_whole HNB3.out 0; clear hg3 hk3)
    | (go_at_call 79; have hcc := ncstocks_good b ao cap nl Z N i j hh L bm m _ HR3.out HNL.out HE.out HA3.out; unfold crsV at hcc; refine hcc.mono ?_; clear hcc; rintro e w4 ⟨g, rfl, hg1, hg4, hb4⟩; have HB4 := Lib.hid (HBB3.out.trans (hb4.mono HBB3.out.size)); have HB34 := Lib.hid hb4; have HG4 := Lib.hid hg4; have HGL := Lib.hid hg1; have hc4 := kept_box HG3.out hb4; have HC4 := Lib.hid hc4; have HNB4 := Lib.hid (kept_box HNB3.out hb4); have z1 := cell_whole HNB4.out 1; have z0 := cell_whole HNB4.out 0; have c0 := cell_whole hc4 0; have c1 := cell_whole hc4 1; have c2 := cell_whole hc4 2; have c3 := cell_whole hc4 3; have c4 := cell_whole hc4 4; have c5 := cell_whole hc4 5; have c6 := cell_whole hc4 6; clear hg1 hg4 hb4 hc4)
    | (go_at_call 94; have hcc := nisplan_good b ao cap nl Z N i j hh L bm g b _ HE.out HG4.out; unfold crsV at hcc; refine hcc.mono ?_; clear hcc; rw [HP.out]; rintro e w5 ⟨rfl, hb5⟩; have HB5 := Lib.hid (HB4.out.trans (hb5.mono HB4.out.size)); clear hb5))
  go_ret2
  exact ⟨rfl, HB5.out⟩
set_option maxRecDepth 100000 in
set_option maxHeartbeats 8000000 in
theorem narrived_yes (w : World) (h : Row encA 4 w ao Z) (hz : Z.length ≤ 4398046511104) (hl : Row encK 3 w lo L) (hok : ∀ x ∈ L, okK x) (hn : L.length ≤ 200) (hnl : Z.length = nl) (hll : L.length = ll) (he : mvE (N : Int) Z (i : Int) (j : Int) (hh : Int) L = 0) (hp : planB Z L N i j hh b = true) :
    Calls Try.prog 71 #[.agg #[.int .i64 (N : Int), .bool b, .slice ao nl cap], .int .i64 (i : Int), .int .i64 (j : Int), .int .i64 (hh : Int), .slice lo ll lc] w fun e w' => ∃ aa ac, e = .returned (.tuple #[.slice aa (hh + 1) ac, .int .i64 0]) ∧ Lst encI w' aa ((List.range (hh + 1)).map fun u => stkN Z L u j) ∧ Below w.heap.size w w' := by
  have hb00 := (Below.refl _ w).alloc (Nat.le_refl _) (.cells #[.int .i64 (N : Int), .bool b, .slice ao nl cap] 24)
  have hn00 := heap_alloc_new w (.cells #[.int .i64 (N : Int), .bool b, .slice ao nl cap] 24)
  have HB := Lib.hid hb00
  have HNB := Lib.hid hn00
  have HR := Lib.hid (h.below' hb00)
  have HL := Lib.hid (hl.below' hb00)
  have c0 := cell_whole hn00 0
  have c1 := cell_whole hn00 1
  have c2 := cell_whole hn00 2
  have HZ := Lib.hid hz
  have HOK := Lib.hid hok
  have HNL := Lib.hid hnl
  have HLL := Lib.hid hll
  have HE := Lib.hid he
  obtain ⟨⟨hiN, hjN, hij⟩, hW, hH, hM⟩ := good_net Z N i j hh L he
  have hN50 := hW.nodes
  have HP := Lib.hid hp
  obtain ⟨n1, hn1⟩ : ∃ n1, n1 = hh + 1 := ⟨_, rfl⟩
  have HN1 := Lib.hid hn1
  rw [← hn1]
  have hn1b : n1 ≤ 1025 := by omega
  clear h hb00 hn00 hz hl hok hnl hll he hp hW hM hn1
  go_enter Try.func71, Try.ntmps71
  go_wp2_with (first
    | (go_at_call 78; refine (nfollow_good (N : Int) b ao cap nl Z (i : Int) (j : Int) (hh : Int) lo lc ll L _ HR.out HZ.out HL.out HOK.out hn HNL.out HLL.out HE.out).mono ?_; rintro e w2 ⟨bm, m, rfl, hbm, hA2, hb2⟩; unfold crsV; have HA2 := Lib.hid hA2; have HBW := Lib.hid hb2; have HB2 := Lib.hid (HB.out.trans (hb2.mono HB.out.size)); have HNB2 := Lib.hid (kept_box HNB.out hb2); clear hb2 hA2 hbm)
    | ((with_reducible show wpList _ _ _ (Oper.mk none (Op.store 134 (Operand.tmp 12) _) _ _ _ _ :: _) _ _); refine wpList_store_course rfl _ _ rfl _ _ (crsL (N : Int) b ao nl cap (i : Int) (j : Int) (hh : Int) bm) rfl rfl (heap_alloc_new _ _) rfl rfl (crsL_one _ b ao nl cap _ _ _ bm) ?_; intro w3 hg3 hk3; have HB3 : Hid (Below w2.heap.size w2 w3) := Lib.hid (((Below.refl _ w2).alloc (Nat.le_refl _) _).trans (hk3.below (by simp) (fun i e => Nat.le_of_eq (Eq.symm e)))); unfold crsL at hg3; have HG3 := Lib.hid hg3; have c0 := cell_whole hg3 0; have c1 := cell_whole hg3 1; have c2 := cell_whole hg3 2; have c3 := cell_whole hg3 3; have c4 := cell_whole hg3 4; have c5 := cell_whole hg3 5; have c6 := cell_whole hg3 6; have HR3 := Lib.hid ((HR.out.below' HBW.out).below' HB3.out); have HA3 := Lib.hid (HA2.out.below HB3.out); have HNB3 := Lib.hid (kept_box HNB2.out HB3.out); have HBB3 := Lib.hid (HB2.out.trans (HB3.out.mono HB2.out.size)); have z1 := cell_whole HNB3.out 1; have z0 := cell_whole HNB3.out 0; clear hg3 hk3)
    | (go_at_call 79; have hcc := ncstocks_good b ao cap nl Z N i j hh L bm m _ HR3.out HNL.out HE.out HA3.out; unfold crsV at hcc; refine hcc.mono ?_; clear hcc; rintro e w4 ⟨g, rfl, hg1, hg4, hb4⟩; have HB4 := Lib.hid (HBB3.out.trans (hb4.mono HBB3.out.size)); have HB34 := Lib.hid hb4; have HG4 := Lib.hid hg4; have HGL := Lib.hid hg1; have hc4 := kept_box HG3.out hb4; have HC4 := Lib.hid hc4; have HNB4 := Lib.hid (kept_box HNB3.out hb4); have z1 := cell_whole HNB4.out 1; have z0 := cell_whole HNB4.out 0; have c0 := cell_whole hc4 0; have c1 := cell_whole hc4 1; have c2 := cell_whole hc4 2; have c3 := cell_whole hc4 3; have c4 := cell_whole hc4 4; have c5 := cell_whole hc4 5; have c6 := cell_whole hc4 6; clear hg1 hg4 hb4 hc4)
    | (go_at_call 94; have hcc := nisplan_good b ao cap nl Z N i j hh L bm g b _ HE.out HG4.out; unfold crsV at hcc; refine hcc.mono ?_; clear hcc; rw [HP.out]; rintro e w5 ⟨rfl, hb5⟩; have HB5 := Lib.hid (HB4.out.trans (hb5.mono HB4.out.size)); have HG5 := Lib.hid (HG4.out.below hb5); clear hb5 HG4)
    | (at_make; refine wpList_make_room (enc := encI) Try.underlying42 infoInt (by omega) rfl _ _ rfl n1 _ rfl rfl (by have := HN1.out; omega) (by omega) ?_; intro w6 ho6 hb6; have HO6 := Lib.hid ho6; have HB6 := Lib.hid hb6; have HG6 := Lib.hid (HG5.out.below hb6); clear ho6 hb6))
  obtain ⟨B, hB⟩ : ∃ B, w5.heap.size = B := ⟨_, rfl⟩
  have HBE := Lib.hid hB
  have HG5B : Hid (g < B) := Lib.hid (by rw [← hB]; exact HG5.out.lt)
  rw [hB] at HB6 HO6 ⊢
  clear hB HG5
  go_loopw [15, 43] (fun av iv wr => ∃ u : Nat, u ≤ hh + 1 ∧ iv = .int .i64 (u : Int) ∧ Hid (OwnL encI wr B 3 av ((List.range u).map fun u => stkN Z L u j)) ∧ Hid (Below B w6 wr)) (fun _ iv _ => hh + 1 - (intOf iv).toNat)
  case atStart => exact ⟨0, Nat.zero_le _, rfl, HO6, Lib.hid (Below.refl _ _)⟩
  case round =>
    clear HO6
    obtain ⟨u, hu, rfl, HO, HW⟩ := hrel
    have HGW : Hid (GridW wr g (hh + 1) (stkN Z L)) := Lib.hid ((HW.out.block g HG5B.out).trans HG6.out)
    by_cases hlt : u < hh + 1
    · have hli : (u : Int) < (hh : Int) + 1 := by omega
      have hj50 : (j : Int) < 50 := by omega
      have hj5 : j < 50 := by omega
      have HRG := Lib.hid (HGW.out.range hlt)
      have HSZ : Hid ((Try.prog.info? 140).map (·.size) = some (cellsG (stkN Z L) u).length) := Lib.hid (by rw [cellsG_len]; exact sizeCounts)
      obtain ⟨x, hx⟩ : ∃ x, stkN Z L u j = x := ⟨_, rfl⟩
      have HST := Lib.hid (range_step (fun u => stkN Z L u j) u)
      rw [hx] at HST
      have HAL := Lib.hid (range_lenM (fun u => stkN Z L u j) u)
      generalize (List.range u).map (fun u => stkN Z L u j) = A at *
      have HX := Lib.hid hx
      have HBW : Hid (B ≤ wr.heap.size) := Lib.hid (by have h1 := HBE.out; have h2 := HB6.out.size; have h3 := HW.out.size; omega)
      clear hx
      go_wp2_with (first
        | ((with_reducible show wpList _ _ _ (Oper.mk (some 46) (Op.load 140 _) _ _ _ _ :: _) _ _); refine wpList_load_mid rfl 140 _ rfl g (u * 50) rfl (cellsG (stkN Z L) u) _ HRG.out Try.underlying140 rfl HSZ.out ?_)
        | ((with_reducible show wpList _ _ _ (Oper.mk none (Op.store 140 _ _) _ _ _ _ :: _) _ _); refine wpList_store_counts rfl _ _ rfl _ _ (cellsG (stkN Z L) u) rfl rfl (heap_alloc_new _ _) rfl (cellsG_len _ u) (cellsG_one _ u) ?_; intro w7 hg7 hk7; have e0 := (cell_whole hg7 j).trans (cellsG_get (stkN Z L) u hj5); rw [HX.out] at e0; have HK7 : Hid (Below wr.heap.size wr w7) := Lib.hid (((Below.refl _ wr).alloc (Nat.le_refl _) _).trans (hk7.below (by simp) (fun i e => Nat.le_of_eq (Eq.symm e)))); have HO7 := Lib.hid (HO.out.below HK7.out); clear hg7 hk7)
        | (at_builtin; refine wpList_append_one Try.underlying42 infoInt rfl (by omega) rfl (.tmp 47) (.tmp 51) rfl B _ A x rfl rfl (HO7.out.alloc _) w7.heap.size 1 rfl (cell_new _ _ _ 0) (by have := HAL.out; omega) (by have h1 := HBW.out; have h2 := HK7.out.size; simp; omega) ?_; intro ga ca w8 ho hg hl hb hlt8; have HO8 := Lib.hid ho; have HG8 := Lib.hid hg; clear ho hg hl hb hlt8))
      go_roundw
      case rel => exact ⟨u + 1, by omega, by go_num, by rw [HST.out]; exact HO8, Lib.hid (below_grown ((HW.out.trans (HK7.out.mono HBW.out)).alloc (Nat.le_trans HBW.out HK7.out.size) _) (by have h1 := HBW.out; have h2 := HK7.out.size; simp; omega) HG8.out (fun k e => own_block HO7.out e))⟩
      case measure => simp [intOf]; omega
    · have hli : ¬ (u : Int) < (hh : Int) + 1 := by omega
      obtain rfl : u = hh + 1 := by omega
      obtain ⟨aa, ac, hv, hls⟩ := HO.out.lst
      rw [range_lenM, ← HN1.out] at hv
      rw [← HN1.out] at hls
      subst hv
      have HLS := Lib.hid hls
      clear hls
      go_wp2
      go_ret2
      exact ⟨aa, ⟨ac, rfl⟩, HLS.out, HB5.out.trans ((HB6.out.trans HW.out).mono (by rw [← HBE.out]; exact HB5.out.size))⟩
end
end Go.Proofs.Ytbkmfjegbmjknaa
