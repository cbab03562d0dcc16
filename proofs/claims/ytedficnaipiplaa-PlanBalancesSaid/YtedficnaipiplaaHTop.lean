/- What package plan's Still and Arrived and Check tell. -/
import Derived.Test.YtedficnaipiplaaHBad
namespace Go.Proofs.Ytedficnaipiplaa
open Go.RowKit
set_option linter.unusedVariables false

section
variable (b : Bool) (ao : Option Addr) (cap nl : Nat) (Z : List ArcT) (N i j hh : Nat) (lo : Option Addr) (lc ll : Nat) (L : List MoveT)
set_option maxRecDepth 100000 in
set_option maxHeartbeats 8000000 in
theorem nstill_good (w : World) (h : Row encA 4 w ao Z) (hz : Z.length ≤ 4398046511104) (hl : Row encK 3 w lo L) (hok : ∀ x ∈ L, okK x) (hn : L.length ≤ 200) (hnl : Z.length = nl) (hll : L.length = ll) (he : mvE (N : Int) Z (i : Int) (j : Int) (hh : Int) L = 0) :
    Calls Try.prog 18 #[.agg #[.int .i64 (N : Int), .bool b, .slice ao nl cap], .int .i64 (i : Int), .int .i64 (j : Int), .int .i64 (hh : Int), .slice lo ll lc] w fun e w' => e = .returned (.tuple #[.bool (stiV (N : Int) Z (i : Int) (j : Int) (hh : Int) L), .int .i64 (plnE (N : Int) Z (i : Int) (j : Int) (hh : Int) true L)]) ∧ Below w.heap.size w w' := by
  have hb00 := (Below.refl _ w).alloc (Nat.le_refl _) (.cells #[.int .i64 (N : Int), .bool b, .slice ao nl cap] 24)
  have hn00 := heap_alloc_new w (.cells #[.int .i64 (N : Int), .bool b, .slice ao nl cap] 24)
  have HB := Lib.hid hb00
  have HR := Lib.hid (h.below' hb00)
  have HL := Lib.hid (hl.below' hb00)
  have c0 := cell_whole hn00 0
  have c1 := cell_whole hn00 1
  have c2 := cell_whole hn00 2
  have HZ := Lib.hid hz
  have HOK := Lib.hid hok
  have HNL := Lib.hid hnl
  have HLL := Lib.hid hll
  have HE := Lib.hid he
  obtain ⟨p1, hp1⟩ : ∃ p1, planB Z L N i j hh true = p1 := ⟨_, rfl⟩
  obtain ⟨p2, hp2⟩ : ∃ p2, planB Z L N i j hh false = p2 := ⟨_, rfl⟩
  have HP1 := Lib.hid hp1
  have HP2 := Lib.hid hp2
  have HV1 : Hid (plnE (N : Int) Z (i : Int) (j : Int) (hh : Int) true L = if p1 = true then 0 else 141) := Lib.hid (by rw [plnE_good he, hp1])
  have HV2 : Hid (stiV (N : Int) Z (i : Int) (j : Int) (hh : Int) L = (p1 && p2)) := Lib.hid (by
    unfold stiV
    rw [plnE_good he, plnE_good he, hp1, hp2]
    cases p1 <;> cases p2 <;> rfl)
  clear h hb00 hn00 hz hl hok hnl hll he hp1 hp2
  rw [HV1.out, HV2.out]
  cases p1
  all_goals
    go_enter Try.func18, Try.ntmps18
    go_wp2_with (first
      | (go_at_call 24; refine (nfollow_good (N : Int) b ao cap nl Z (i : Int) (j : Int) (hh : Int) lo lc ll L _ HR.out HZ.out HL.out HOK.out hn HNL.out HLL.out HE.out).mono ?_; rintro e w2 ⟨bm, m, rfl, hbm, hA2, hb2⟩; unfold crsV; have HA2 := Lib.hid hA2; have HBW := Lib.hid hb2; have HB2 := Lib.hid (HB.out.trans (hb2.mono HB.out.size)); clear hb2 hA2 hbm)
      | ((with_reducible show wpList _ _ _ (Oper.mk none (Op.store 59 (Operand.tmp 12) _) _ _ _ _ :: _) _ _); refine wpList_store_course rfl _ _ rfl _ _ (crsL (N : Int) b ao nl cap (i : Int) (j : Int) (hh : Int) bm) rfl rfl (heap_alloc_new _ _) rfl rfl (crsL_one _ b ao nl cap _ _ _ bm) ?_; intro w3 hg3 hk3; have HB3 : Hid (Below w2.heap.size w2 w3) := Lib.hid (((Below.refl _ w2).alloc (Nat.le_refl _) _).trans (hk3.below (by simp) (fun i e => Nat.le_of_eq (Eq.symm e)))); unfold crsL at hg3; have HG3 := Lib.hid hg3; have c0 := cell_whole hg3 0; have c1 := cell_whole hg3 1; have c2 := cell_whole hg3 2; have c3 := cell_whole hg3 3; have c4 := cell_whole hg3 4; have c5 := cell_whole hg3 5; have c6 := cell_whole hg3 6; have HR3 := Lib.hid ((HR.out.below' HBW.out).below' HB3.out); have HA3 := Lib.hid (HA2.out.below HB3.out); clear hg3 hk3)
      | (go_at_call 25; have hcc := ncstocks_good b ao cap nl Z N i j hh L bm m _ HR3.out HNL.out HE.out HA3.out; unfold crsV at hcc; refine hcc.mono ?_; clear hcc; rintro e w4 ⟨g, rfl, hg1, hg4, hb4⟩; have HB4 := Lib.hid ((HB2.out.trans (HB3.out.mono HB2.out.size)).trans (hb4.mono ((HB2.out.trans (HB3.out.mono HB2.out.size)).size))); have HG4 := Lib.hid hg4; have hc4 := kept_box HG3.out hb4; have HC4 := Lib.hid hc4; have c0 := cell_whole hc4 0; have c1 := cell_whole hc4 1; have c2 := cell_whole hc4 2; have c3 := cell_whole hc4 3; have c4 := cell_whole hc4 4; have c5 := cell_whole hc4 5; have c6 := cell_whole hc4 6; clear hg1 hg4 hb4 hc4)
      | (go_at_call 29; have hcc := nisplan_good b ao cap nl Z N i j hh L bm g true _ HE.out HG4.out; unfold crsV at hcc; refine hcc.mono ?_; clear hcc; rw [HP1.out]; rintro e w5 ⟨rfl, hb5⟩; have HB5 := Lib.hid (HB4.out.trans (hb5.mono HB4.out.size)); have HG5 := Lib.hid (HG4.out.below hb5); have hc5 := kept_box HC4.out hb5; have c0 := cell_whole hc5 0; have c1 := cell_whole hc5 1; have c2 := cell_whole hc5 2; have c3 := cell_whole hc5 3; have c4 := cell_whole hc5 4; have c5 := cell_whole hc5 5; have c6 := cell_whole hc5 6; clear hb5 hc5 HG4)
      | (go_at_call 29; have hcc := nisplan_good b ao cap nl Z N i j hh L bm g false _ HE.out HG5.out; unfold crsV at hcc; refine hcc.mono ?_; clear hcc; rw [HP2.out]; rintro e w6 ⟨rfl, hb6⟩; have HB6 := Lib.hid (HB5.out.trans (hb6.mono HB5.out.size)); clear hb6))
    go_ret2
    first
      | exact ⟨rfl, HB6.out⟩
      | exact ⟨rfl, HB5.out⟩
end
end Go.Proofs.Ytedficnaipiplaa
