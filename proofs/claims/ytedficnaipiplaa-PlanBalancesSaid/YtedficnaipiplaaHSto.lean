/- What package plan's Stocks tells. -/
import Derived.Test.YtedficnaipiplaaHAny
namespace Go.Proofs.Ytedficnaipiplaa
open Go.RowKit
set_option linter.unusedVariables false

/-- The stocks of a network's nodes, at one point of time. -/
def rowT (Z : List ArcT) (L : List MoveT) (N u : Nat) : List Int := (List.range N).map fun v => stkN Z L u v
theorem rowT_len (Z : List ArcT) (L : List MoveT) (N u : Nat) : (rowT Z L N u).length = N := by simp [rowT]
theorem rowT_lst {w : World} {g u N : Nat} {Z : List ArcT} {L : List MoveT} (hN : N ≤ 50) (h : w.heap[g]? = some (.cells (cellsG (stkN Z L) u).toArray 65 (0, 0))) : Lst encI w (some ⟨g, 0, none⟩) (rowT Z L N u) := by
  intro i hi
  rw [rowT_len] at hi
  refine ⟨g, 0, rfl, lt_whole h, ?_⟩
  rw [Nat.zero_add, cell_whole h, cellsG_get _ _ (by omega)]
  simp [rowT, encI]
/-- The first elements of an array, as a slice. -/
theorem run_slice_counts (g N : Nat) (hN : N ≤ 50) (w : World) : (Instr.sliceAt 65 (.pointer (some ⟨g, 0, none⟩)) none (some (.int .i64 (N : Int))) none).run Try.prog w = .ok (.slice (some ⟨g, 0, none⟩) N 50) w := by
  have e1 : Try.prog.arrayLen 65 = 50 := by simp [Program.arrayLen, Try.underlying65]
  have e2 : Try.prog.elem 65 = 3 := by simp [Program.elem, Try.underlying65]
  have ht : Try.prog.underlying 65 = some (.array (Try.prog.arrayLen 65) (Try.prog.elem 65)) := by rw [e1, e2]; exact Try.underlying65
  rw [run_sliceAt_array_h (P := Try.prog) w 65 ⟨g, 0, none⟩ ht .i64 (N : Int) (by omega) (by rw [e1]; omega), e1, e2]
  simp [Try.sizeOf3, Result.andThen, slicedAt, Addr.add_lit]
theorem nclone_L (ao : Option Addr) (cap zl : Nat) (R : List Int) (w : World) (h : Lst encI w ao R) (hl : R.length = zl) (hs : zl ≤ 200) :
    Calls Try.prog 26 #[.slice ao zl cap] w fun e w' => ∃ la lc, e = .returned (.slice la zl lc) ∧ Lst encI w' la R ∧ (∀ ad, la = some ad → w.heap.size ≤ ad.block) ∧ Below w.heap.size w w' := by
  subst hl
  refine (nclone_any ao cap R w h hs).mono ?_
  rintro e w' ⟨v, rfl, ho, hb⟩
  obtain ⟨la, lc, rfl, hr⟩ := ho.lst
  refine ⟨la, lc, rfl, hr, fun ad e => ?_, hb⟩
  subst e
  exact own_block ho rfl
section
variable (b : Bool) (ao : Option Addr) (cap nl : Nat) (Z : List ArcT) (N i j hh : Nat) (lo : Option Addr) (lc ll : Nat) (L : List MoveT)
set_option maxRecDepth 100000 in
set_option maxHeartbeats 8000000 in
theorem nstocks_good (w : World) (h : Row encA 4 w ao Z) (hz : Z.length ≤ 4398046511104) (hl : Row encK 3 w lo L) (hok : ∀ x ∈ L, okK x) (hn : L.length ≤ 200) (hnl : Z.length = nl) (hll : L.length = ll) (he : mvE (N : Int) Z (i : Int) (j : Int) (hh : Int) L = 0) :
    Calls Try.prog 11 #[.agg #[.int .i64 (N : Int), .bool b, .slice ao nl cap], .int .i64 (i : Int), .int .i64 (j : Int), .int .i64 (hh : Int), .slice lo ll lc] w fun e w' => ∃ aa ac, e = .returned (.tuple #[.slice aa (hh + 1) ac, .int .i64 0]) ∧ IRow w' aa ((List.range (hh + 1)).map fun u => rowT Z L N u) ∧ Below w.heap.size w w' := by
  have hb00 := (Below.refl _ w).alloc (Nat.le_refl _) (.cells #[.int .i64 (N : Int), .bool b, .slice ao nl cap] 24)
  have hn00 := heap_alloc_new w (.cells #[.int .i64 (N : Int), .bool b, .slice ao nl cap] 24)
  have HB := Lib.hid hb00
  have HNB := Lib.hid hn00
  have HR := Lib.hid (h.below' hb00)
  have HL := Lib.hid (hl.below' hb00)
  have c0 := cell_whole hn00 0
  have c1 := cell_whole hn00 1
  have c2 := cell_whole hn00 2
  have HZ := Lib.hid hz
  have HOK := Lib.hid hok
  have HNL := Lib.hid hnl
  have HLL := Lib.hid hll
  have HE := Lib.hid he
  obtain ⟨⟨hiN, hjN, hij⟩, hW, hH, hM⟩ := good_net Z N i j hh L he
  have hN50 := hW.nodes
  obtain ⟨n1, hn1⟩ : ∃ n1, n1 = hh + 1 := ⟨_, rfl⟩
  have HN1 := Lib.hid hn1
  rw [← hn1]
  have hn1b : n1 ≤ 1025 := by omega
  have HNN := Lib.hid hN50
  clear h hb00 hn00 hz hl hok hnl hll he hW hM hn1
  go_enter Try.func11, Try.ntmps11
  go_wp2_with (first
    | (go_at_call 24; refine (nfollow_good (N : Int) b ao cap nl Z (i : Int) (j : Int) (hh : Int) lo lc ll L _ HR.out HZ.out HL.out HOK.out hn HNL.out HLL.out HE.out).mono ?_; rintro e w2 ⟨bm, m, rfl, hbm, hA2, hb2⟩; unfold crsV; have HA2 := Lib.hid hA2; have HBW := Lib.hid hb2; have HB2 := Lib.hid (HB.out.trans (hb2.mono HB.out.size)); have HNB2 := Lib.hid (kept_box HNB.out hb2); clear hb2 hA2 hbm)
    | ((with_reducible show wpList _ _ _ (Oper.mk none (Op.store 59 (Operand.tmp 12) _) _ _ _ _ :: _) _ _); refine wpList_store_course rfl _ _ rfl _ _ (crsL (N : Int) b ao nl cap (i : Int) (j : Int) (hh : Int) bm) rfl rfl (heap_alloc_new _ _) rfl rfl (crsL_one _ b ao nl cap _ _ _ bm) ?_; intro w3 hg3 hk3; have HB3 : Hid (Below w2.heap.size w2 w3) := Lib.hid (((Below.refl _ w2).alloc (Nat.le_refl _) _).trans (hk3.below (by simp) (fun i e => Nat.le_of_eq (Eq.symm e)))); unfold crsL at hg3; have HG3 := Lib.hid hg3; have c0 := cell_whole hg3 0; have c1 := cell_whole hg3 1; have c2 := cell_whole hg3 2; have c3 := cell_whole hg3 3; have c4 := cell_whole hg3 4; have c5 := cell_whole hg3 5; have c6 := cell_whole hg3 6; have HR3 := Lib.hid ((HR.out.below' HBW.out).below' HB3.out); have HA3 := Lib.hid (HA2.out.below HB3.out); have HNB3 := Lib.hid (kept_box HNB2.out HB3.out); have HBB3 := Lib.hid (HB2.out.trans (HB3.out.mono HB2.out.size)); have z1 := cell_whole HNB3.out 1; have z0 := cell_whole HNB3.out 0; clear hg3 hk3)
    | (at_make; refine wpList_make_room (enc := encV) Try.underlying27 infoInts (by omega) rfl _ _ rfl n1 _ rfl rfl (by have := HN1.out; omega) (by omega) ?_; intro w6 ho6 hb6; have HO6 := Lib.hid ho6; have HBS := Lib.hid hb6; have HR3 := Lib.hid (HR3.out.below' hb6); have HA3 := Lib.hid (HA3.out.below hb6); have HBB6 := Lib.hid (HBB3.out.trans (hb6.mono HBB3.out.size)); have HBB3 := HBB6; have hg6 := kept_box HG3.out hb6; have HG3 := Lib.hid hg6; have HNB3 := Lib.hid (kept_box HNB3.out hb6); have z1 := cell_whole HNB3.out 1; have z0 := cell_whole HNB3.out 0; have c0 := cell_whole hg6 0; have c1 := cell_whole hg6 1; have c2 := cell_whole hg6 2; have c3 := cell_whole hg6 3; have c4 := cell_whole hg6 4; have c5 := cell_whole hg6 5; have c6 := cell_whole hg6 6; clear ho6 hb6 hg6)
    | (go_at_call 25; have hcc := ncstocks_good b ao cap nl Z N i j hh L bm m _ HR3.out HNL.out HE.out HA3.out; unfold crsV at hcc; refine hcc.mono ?_; clear hcc; rintro e w4 ⟨g, rfl, hg1, hg4, hb4⟩; have HB4 := Lib.hid (HBB3.out.trans (hb4.mono HBB3.out.size)); have HB34 := Lib.hid hb4; have HG4 := Lib.hid hg4; have HGL := Lib.hid hg1; have hc4 := kept_box HG3.out hb4; have HC4 := Lib.hid hc4; have HNB4 := Lib.hid (kept_box HNB3.out hb4); have z1 := cell_whole HNB4.out 1; have z0 := cell_whole HNB4.out 0; have c0 := cell_whole hc4 0; have c1 := cell_whole hc4 1; have c2 := cell_whole hc4 2; have c3 := cell_whole hc4 3; have c4 := cell_whole hc4 4; have c5 := cell_whole hc4 5; have c6 := cell_whole hc4 6; clear hg1 hg4 hb4 hc4))
  obtain ⟨B, hB⟩ : ∃ B, w3.heap.size = B := ⟨_, rfl⟩
  have HBE := Lib.hid hB
  have HO4 := Lib.hid (HO6.out.below HB34.out)
  have HNBW := Lib.hid (lt_whole HNB.out)
  have hwB : w.heap.size < B := by have h1 := HBB3.out.size; have h2 := HBE.out; have h3 := HB2.out.size; have h4 := HB3.out.size; have h5 := lt_whole HNB2.out; omega
  have hgO : ∀ k, (Value.slice (some ⟨B, 0, none⟩) 0 n1).ownBlock = some k → k ≠ g := fun k e => by
    have h1 := HGL.out
    have h2 := own_lt HO6.out (by rw [hB]; exact e)
    omega
  rw [hB] at HO4 HBS ⊢
  have HRI : Hid (RIw w3 w4 (.slice (some ⟨B, 0, none⟩) 0 n1) []) := Lib.hid ⟨[], by rw [hB]; exact HO4.out, rfl, fun i hi => absurd hi (by simp)⟩
  have HGO := Lib.hid hgO
  clear hB HO6 HO4 hgO
  go_loopw [14, 35] (fun av iv wr => ∃ u : Nat, u ≤ hh + 1 ∧ iv = .int .i64 (u : Int) ∧ Hid (RIw w3 wr av ((List.range u).map fun u => rowT Z L N u)) ∧ Hid (∀ k, av.ownBlock = some k → k ≠ g) ∧ Hid (GridW wr g (hh + 1) (stkN Z L)) ∧ Hid (Below B w4 wr)) (fun _ iv _ => hh + 1 - (intOf iv).toNat)
  case atStart => exact ⟨0, Nat.zero_le _, rfl, HRI, HGO, HG4, Lib.hid (Below.refl _ _)⟩
  case round =>
    clear HRI HGO HG4
    obtain ⟨u, hu, rfl, HRI, HGO, HGW, HW⟩ := hrel
    have hbn := (HW.out.block _ hwB).trans HNB4.out
    by_cases hlt : u < hh + 1
    · have hli : (u : Int) < (hh : Int) + 1 := by omega
      have HRG := Lib.hid (HGW.out.range hlt)
      have HSZ : Hid ((Try.prog.info? 65).map (·.size) = some (cellsG (stkN Z L) u).length) := Lib.hid (by rw [cellsG_len]; exact sizeCounts)
      have HST := Lib.hid (range_step (fun u => rowT Z L N u) u)
      have HAL := Lib.hid (range_lenM (fun u => rowT Z L N u) u)
      have HBN := Lib.hid hbn
      generalize (List.range u).map (fun u => rowT Z L N u) = A at *
      clear hbn
      go_wp2_with (first
        | ((with_reducible show wpList _ _ _ (Oper.mk (some 38) (Op.load 65 _) _ _ _ _ :: _) _ _); refine wpList_load_mid rfl 65 _ rfl g (u * 50) rfl (cellsG (stkN Z L) u) _ HRG.out Try.underlying65 rfl HSZ.out ?_)
        | ((with_reducible show wpList _ _ _ (Oper.mk none (Op.store 65 _ _) _ _ _ _ :: _) _ _); refine wpList_store_counts rfl _ _ rfl _ _ (cellsG (stkN Z L) u) rfl rfl (heap_alloc_new _ _) rfl (cellsG_len _ u) (cellsG_one _ u) ?_; intro w7 hg7 hk7; have HK7 : Hid (Below wr.heap.size wr w7) := Lib.hid (((Below.refl _ wr).alloc (Nat.le_refl _) _).trans (hk7.below (by simp) (fun i e => Nat.le_of_eq (Eq.symm e)))); have HL7 := Lib.hid (rowT_lst (N := N) HNN.out hg7); have HGR7 := Lib.hid (lt_whole hg7); have hn7 := kept_box HBN.out HK7.out; have z0 := cell_whole hn7 0; have hsl := run_slice_counts wr.heap.size N HNN.out; clear hg7 hk7 hn7)
        | (go_at_call 26; refine (nclone_L _ 50 N (rowT Z L N u) _ HL7.out (rowT_len Z L N u) (by have := HNN.out; omega)).mono ?_; rintro e w8 ⟨la, lc8, rfl, hls8, hfr8, hb8⟩; have HL8 := Lib.hid hls8; have HF8 := Lib.hid hfr8; have HK8 := Lib.hid (HK7.out.trans (hb8.mono HK7.out.size)); have HS8 : Hid (wr.heap.size < w8.heap.size) := Lib.hid (Nat.lt_of_lt_of_le HGR7.out hb8.size); have hri := HRI.out.below HK8.out; have HRL := Lib.hid hri.lt; obtain ⟨vs, ho8, hv2, hv3⟩ := hri; have HV := Lib.hid (And.intro hv2 hv3); have hvN : vs.length ≤ 200000 := (by have := HAL.out; omega); have HO8 := Lib.hid (ho8.alloc (.cells #[.slice la N lc8] 35)); clear hls8 hfr8 hb8 ho8 hv2 hv3)
        | (at_builtin; refine wpList_append_one (enc := encV) Try.underlying27 infoInts rfl (by omega) rfl _ _ rfl w3.heap.size _ vs (.slice la N lc8) rfl rfl HO8.out _ 1 rfl (cell_new' (by simp) _ _ 0) hvN (by have h1 := HB34.out.size; have h2 := HW.out.size; have h3 := HS8.out; have h4 := HBS.out.size; simp; omega) ?_; intro g4 cap4 w9 ho9 hg9 hl9 hb9 hlt9; have HO9 := Lib.hid ho9; have HG9 := Lib.hid hg9; have HL9 := Lib.hid hl9; clear ho9 hg9 hl9 hb9 hlt9))
      have ba := (Below.refl w8.heap.size w8).alloc (Nat.le_refl _) (.cells #[.slice la N lc8] 35)
      have HQ : Hid (RIw w3 w9 (.slice (some ⟨g4, 0, none⟩) (vs.length + 1) cap4) ((List.range (u + 1)).map fun u => rowT Z L N u)) := Lib.hid (by
        rw [HST.out]
        have hrl := rowT_len Z L N u
        refine RIw.push (w := w8.alloc (.cells #[.slice la N lc8] 35)) (c := lc8) (a := la) (g := rowT Z L N u) HV.out.1 (fun i hi => ?_) (HL8.out.below ba) (fun ad e h0 e2 => ?_) (by rw [hrl]; exact HO9.out) HG9.out HL9.out
        · obtain ⟨ao', c', q1, q2, q3⟩ := HV.out.2 i hi
          exact ⟨ao', c', q1, q2.below ba, q3⟩
        · have q1 := HF8.out ad e
          have q2 := HRI.out.lt _ e2.symm
          have q3 := HK7.out.size
          omega)
      have HGO2 : Hid (∀ k, (Value.slice (some ⟨g4, 0, none⟩) (vs.length + 1) cap4).ownBlock = some k → k ≠ g) := Lib.hid (fun k e => by
        have e3 : k = g4 := by simpa [Value.ownBlock] using e.symm
        rcases HL9.out with q | q
        · rw [e3]; exact HGO.out _ q
        · have h1 := HGW.out.lt
          have h2 := HS8.out
          rw [e3, q]
          simp
          omega)
      have HGQ : Hid (GridW w9 g (hh + 1) (stkN Z L)) := Lib.hid (by
        have h1 := HGW.out.lt
        have h2 := HS8.out
        have g8 : GridW (w8.alloc (.cells #[.slice la N lc8] 35)) g (hh + 1) (stkN Z L) := (HGW.out.below HK8.out).below ba
        exact (HG9.out.block g g8.lt (fun e => (HGO.out g e.symm) rfl)).trans g8)
      have HWQ : Hid (Below B w4 w9) := Lib.hid (by
        have h1 := HB34.out.size
        have h2 := HW.out.size
        have h3 := HS8.out
        have h4 := HBE.out
        have h5 := HBS.out.size
        exact below_grown ((HW.out.trans (HK8.out.mono (by omega))).alloc (by omega) _) (by simp; omega) HG9.out (fun k e => by have := own_block HO8.out e; omega))
      go_roundw
      case rel => exact ⟨u + 1, by omega, by go_num, HQ, HGO2, HGQ, HWQ⟩
      case measure => simp [intOf]; omega
    · have hli : ¬ (u : Int) < (hh : Int) + 1 := by omega
      obtain rfl : u = hh + 1 := by omega
      obtain ⟨aa, ac, hv, hls⟩ := HRI.out.row
      rw [range_lenM, ← HN1.out] at hv
      rw [← HN1.out] at hls
      subst hv
      have HLS := Lib.hid hls
      clear hls
      go_wp2
      go_ret2
      exact ⟨aa, ⟨ac, rfl⟩, HLS.out, HB4.out.trans (HW.out.mono (by have h1 := HBE.out; have h2 := HBB3.out.size; omega))⟩
end
end Go.Proofs.Ytedficnaipiplaa
