/- PlanStocks, PlanChecks. -/
import Derived.Test.YtedficnaipiplaaHRav
import Derived.Test.YtedficnaipiplaaHAwk
namespace Go.Proofs.Ytedficnaipiplaa
open Go.RowKit
set_option linter.unusedVariables false

theorem stoV_bd (n : Int) (Z : List ArcT) (s t H : Int) (L : List MoveT) : (stoV n Z s t H L).length ≤ 200000 ∧ ∀ g ∈ stoV n Z s t H L, g.length ≤ 200000 := by
  by_cases he : mvE n Z s t H L = 0
  · obtain ⟨N, i, j, hh, rfl, rfl, rfl, rfl⟩ := good_nat he
    obtain ⟨_, hW, hH, _⟩ := good_net Z N i j hh L he
    have h1 := hW.nodes
    rw [stoV_good he]
    refine ⟨by simp; omega, fun g hg => ?_⟩
    obtain ⟨u, _, rfl⟩ := List.mem_map.1 hg
    rw [rowT_len]
    omega
  · rw [stoV_bad he]
    exact ⟨by simp, fun g hg => by cases hg⟩
theorem arrV_bd (n : Int) (Z : List ArcT) (s t H : Int) (b : Bool) (L : List MoveT) : (arrV n Z s t H b L).length ≤ 200000 := by
  unfold arrV
  split
  · next h0 =>
    have he : mvE n Z s t H L = 0 := by
      by_cases he : mvE n Z s t H L = 0
      · exact he
      · rw [plnE_bad he] at h0; exact h0
    obtain ⟨N, i, j, hh, rfl, rfl, rfl, rfl⟩ := good_nat he
    obtain ⟨_, hW, hH, _⟩ := good_net Z N i j hh L he
    simp
    omega
  · simp
theorem samei_le (la lb : Nat) (G : List (List Int)) (hla : G.length = la) (hlb : G.length = lb) (ga gb : Option Addr) (ca cb : Nat) (w : World) (ha : IRow w ga G) (hb : IRow w gb G) (hl : G.length ≤ 200000 ∧ ∀ g ∈ G, g.length ≤ 200000) :
    Calls Try.prog 13 #[.slice ga la ca, .slice gb lb cb] w fun e w' => e = .returned (.bool true) ∧ Below w.heap.size w w' := by
  subst hla
  subst hlb
  exact samei_eq G ga gb ca cb w ha hb hl.1 hl.2
theorem sameints_le (la lb : Nat) (A : List Int) (hla : A.length = la) (hlb : A.length = lb) (aa ab : Option Addr) (ca cb : Nat) (w : World) (ha : Lst encI w aa A) (hb : Lst encI w ab A) (hl : A.length ≤ 200000) :
    Calls Try.prog 20 #[.slice aa la ca, .slice ab lb cb] w fun e w' => e = .returned (.bool true) ∧ Below w.heap.size w w' := by
  subst hla
  subst hlb
  exact sameints_eq A aa ab ca cb w ha hb hl
section
variable (n : Int) (b : Bool) (ao : Option Addr) (nl cap : Nat) (Z : List ArcT) (s t H : Int) (lo : Option Addr) (ll lc : Nat) (L : List MoveT)
set_option maxRecDepth 100000 in
set_option maxHeartbeats 8000000 in
theorem nstocks_law (w : World) (hl : Z.length = nl) (hm : nl ≤ maxLen) (hr : Row encA 4 w ao Z) (hw : nl * 32 ≤ 140737488351232) (hll : L.length = ll) (hlr : Row encK 3 w lo L) (hok : ∀ x ∈ L, okK x) :
    Calls Try.prog 3 #[.agg #[.int .i64 n, .bool b, .slice ao nl cap], .int .i64 s, .int .i64 t, .int .i64 H, .slice lo ll lc] w fun e w' => e = .returned (.bool true) ∧ Below w.heap.size w w' := by
  have hb00 := (Below.refl _ w).alloc (Nat.le_refl _) (.cells #[.int .i64 n, .bool b, .slice ao nl cap] 24)
  have HB := Lib.hid hb00
  have HN := Lib.hid (heap_alloc_new w (.cells #[.int .i64 n, .bool b, .slice ao nl cap] 24))
  have HR := Lib.hid (hr.below' hb00)
  have HL := Lib.hid (hlr.below' hb00)
  have HZ : Hid (Z.length ≤ 4398046511104) := Lib.hid (by omega)
  have HOK := Lib.hid hok
  have HLL := Lib.hid hll
  have HNL := Lib.hid hl
  have x0 := cell_whole HN.out 0
  have x1 := cell_whole HN.out 1
  have x2 := cell_whole HN.out 2
  clear hr hm hb00 hlr hok hw hl
  obtain ⟨G, hG⟩ : ∃ G, stoV n Z s t H L = G := ⟨_, rfl⟩
  obtain ⟨e0, he⟩ : ∃ e0, mvE n Z s t H L = e0 := ⟨_, rfl⟩
  have HGB := Lib.hid (stoV_bd n Z s t H L)
  rw [hG] at HGB
  have HG := Lib.hid hG
  have HE := Lib.hid he
  clear hG he
  have hcs : (60 : Int) < (ll : Int) ∨ (¬ (60 : Int) < (ll : Int) ∧ (40 : Int) < H ∧ H ≤ 1024) ∨ (¬ (60 : Int) < (ll : Int) ∧ ¬ (40 : Int) < H) ∨ (¬ (60 : Int) < (ll : Int) ∧ (40 : Int) < H ∧ ¬ H ≤ 1024) := by omega
  rcases hcs with h6 | ⟨h6, h4, h1⟩ | ⟨h6, h4⟩ | ⟨h6, h4, h1⟩
  · clear hll
    go_enter Try.func3, Try.ntmps3
    go_wp2_with (first
      | (go_at_call 10; refine (nawake_any _).mono ?_; rintro e wn ⟨rfl, hb⟩; have HR := Lib.hid (HR.out.below' hb); have HL := Lib.hid (HL.out.below' hb); have hn := kept_box HN.out hb; have HN := Lib.hid hn; have x0 := cell_whole hn 0; have x1 := cell_whole hn 1; have x2 := cell_whole hn 2; have HB := Lib.hid (HB.out.trans (hb.mono HB.out.size)); clear hb hn))
    go_ret
    exact ⟨by simp, HB.out⟩
  · clear hll
    go_enter Try.func3, Try.ntmps3
    go_wp2_with (first
      | (go_at_call 10; refine (nawake_any _).mono ?_; rintro e wn ⟨rfl, hb⟩; have HR := Lib.hid (HR.out.below' hb); have HL := Lib.hid (HL.out.below' hb); have hn := kept_box HN.out hb; have HN := Lib.hid hn; have x0 := cell_whole hn 0; have x1 := cell_whole hn 1; have x2 := cell_whole hn 2; have HB := Lib.hid (HB.out.trans (hb.mono HB.out.size)); clear hb hn))
    go_ret
    exact ⟨by simp, HB.out⟩
  · have HNN : Hid (L.length ≤ 200) := Lib.hid (by have := HLL.out; omega)
    clear hll
    go_enter Try.func3, Try.ntmps3
    go_wp2_with (first
      | (go_at_call 11; refine (nstocks_any n b ao cap nl Z s t H lo lc ll L _ HR.out HZ.out HL.out HOK.out HNN.out HNL.out HLL.out).mono ?_; unfold StoRes; rw [HG.out, HE.out]; rintro e wn ⟨pa, pl, pc, rfl, hgl, hir, hb⟩; have HR := Lib.hid (HR.out.below' hb); have HL := Lib.hid (HL.out.below' hb); have hn := kept_box HN.out hb; have HN := Lib.hid hn; have x0 := cell_whole hn 0; have x1 := cell_whole hn 1; have x2 := cell_whole hn 2; have HB := Lib.hid (HB.out.trans (hb.mono HB.out.size)); have HP := Lib.hid hir; have HLP := Lib.hid hgl; clear hir hgl; clear hb hn)
      | (go_at_call 12; refine (rstocks_any n b ao cap nl Z s t H lo lc ll L _ HR.out HZ.out HL.out HOK.out HNN.out HNL.out HLL.out).mono ?_; unfold StoRes; rw [HG.out, HE.out]; rintro e wn ⟨qa, ql, qc, rfl, hgl, hir, hb⟩; have HR := Lib.hid (HR.out.below' hb); have HL := Lib.hid (HL.out.below' hb); have hn := kept_box HN.out hb; have HN := Lib.hid hn; have x0 := cell_whole hn 0; have x1 := cell_whole hn 1; have x2 := cell_whole hn 2; have HB := Lib.hid (HB.out.trans (hb.mono HB.out.size)); have HP := Lib.hid (HP.out.below hb); have HQ := Lib.hid hir; have HLQ := Lib.hid hgl; clear hir hgl; clear hb hn)
      | (go_at_call 13; refine (samei_le pl ql G HLP.out HLQ.out pa qa pc qc _ HP.out HQ.out HGB.out).mono ?_; rintro e wn ⟨rfl, hb⟩; have HB := Lib.hid (HB.out.trans (hb.mono HB.out.size)); clear hb)
      | (go_at_call 10; refine (nawake_any _).mono ?_; rintro e wn ⟨rfl, hb⟩; have HR := Lib.hid (HR.out.below' hb); have HL := Lib.hid (HL.out.below' hb); have hn := kept_box HN.out hb; have HN := Lib.hid hn; have x0 := cell_whole hn 0; have x1 := cell_whole hn 1; have x2 := cell_whole hn 2; have HB := Lib.hid (HB.out.trans (hb.mono HB.out.size)); have HP := Lib.hid (HP.out.below hb); have HQ := Lib.hid (HQ.out.below hb); clear hb hn))
    go_ret
    exact ⟨by simp, HB.out⟩
  · have HNN : Hid (L.length ≤ 200) := Lib.hid (by have := HLL.out; omega)
    clear hll
    go_enter Try.func3, Try.ntmps3
    go_wp2_with (first
      | (go_at_call 11; refine (nstocks_any n b ao cap nl Z s t H lo lc ll L _ HR.out HZ.out HL.out HOK.out HNN.out HNL.out HLL.out).mono ?_; unfold StoRes; rw [HG.out, HE.out]; rintro e wn ⟨pa, pl, pc, rfl, hgl, hir, hb⟩; have HR := Lib.hid (HR.out.below' hb); have HL := Lib.hid (HL.out.below' hb); have hn := kept_box HN.out hb; have HN := Lib.hid hn; have x0 := cell_whole hn 0; have x1 := cell_whole hn 1; have x2 := cell_whole hn 2; have HB := Lib.hid (HB.out.trans (hb.mono HB.out.size)); have HP := Lib.hid hir; have HLP := Lib.hid hgl; clear hir hgl; clear hb hn)
      | (go_at_call 12; refine (rstocks_any n b ao cap nl Z s t H lo lc ll L _ HR.out HZ.out HL.out HOK.out HNN.out HNL.out HLL.out).mono ?_; unfold StoRes; rw [HG.out, HE.out]; rintro e wn ⟨qa, ql, qc, rfl, hgl, hir, hb⟩; have HR := Lib.hid (HR.out.below' hb); have HL := Lib.hid (HL.out.below' hb); have hn := kept_box HN.out hb; have HN := Lib.hid hn; have x0 := cell_whole hn 0; have x1 := cell_whole hn 1; have x2 := cell_whole hn 2; have HB := Lib.hid (HB.out.trans (hb.mono HB.out.size)); have HP := Lib.hid (HP.out.below hb); have HQ := Lib.hid hir; have HLQ := Lib.hid hgl; clear hir hgl; clear hb hn)
      | (go_at_call 13; refine (samei_le pl ql G HLP.out HLQ.out pa qa pc qc _ HP.out HQ.out HGB.out).mono ?_; rintro e wn ⟨rfl, hb⟩; have HB := Lib.hid (HB.out.trans (hb.mono HB.out.size)); clear hb)
      | (go_at_call 10; refine (nawake_any _).mono ?_; rintro e wn ⟨rfl, hb⟩; have HR := Lib.hid (HR.out.below' hb); have HL := Lib.hid (HL.out.below' hb); have hn := kept_box HN.out hb; have HN := Lib.hid hn; have x0 := cell_whole hn 0; have x1 := cell_whole hn 1; have x2 := cell_whole hn 2; have HB := Lib.hid (HB.out.trans (hb.mono HB.out.size)); have HP := Lib.hid (HP.out.below hb); have HQ := Lib.hid (HQ.out.below hb); clear hb hn))
    go_ret
    exact ⟨by simp, HB.out⟩
set_option maxRecDepth 100000 in
set_option maxHeartbeats 8000000 in
theorem nchecks_law (w : World) (hl : Z.length = nl) (hm : nl ≤ maxLen) (hr : Row encA 4 w ao Z) (hw : nl * 32 ≤ 140737488351232) (hll : L.length = ll) (hlr : Row encK 3 w lo L) (hok : ∀ x ∈ L, okK x) :
    Calls Try.prog 4 #[.agg #[.int .i64 n, .bool b, .slice ao nl cap], .int .i64 s, .int .i64 t, .int .i64 H, .slice lo ll lc] w fun e w' => e = .returned (.bool true) ∧ Below w.heap.size w w' := by
  have hb00 := (Below.refl _ w).alloc (Nat.le_refl _) (.cells #[.int .i64 n, .bool b, .slice ao nl cap] 24)
  have HB := Lib.hid hb00
  have HN := Lib.hid (heap_alloc_new w (.cells #[.int .i64 n, .bool b, .slice ao nl cap] 24))
  have HR := Lib.hid (hr.below' hb00)
  have HL := Lib.hid (hlr.below' hb00)
  have HZ : Hid (Z.length ≤ 4398046511104) := Lib.hid (by omega)
  have HOK := Lib.hid hok
  have HLL := Lib.hid hll
  have HNL := Lib.hid hl
  have x0 := cell_whole HN.out 0
  have x1 := cell_whole HN.out 1
  have x2 := cell_whole HN.out 2
  clear hr hm hb00 hlr hok hw hl
  obtain ⟨A, hA⟩ : ∃ A, arrV n Z s t H b L = A := ⟨_, rfl⟩
  obtain ⟨e0, he⟩ : ∃ e0, plnE n Z s t H b L = e0 := ⟨_, rfl⟩
  obtain ⟨e1, hf⟩ : ∃ e1, plnE n Z s t H true L = e1 := ⟨_, rfl⟩
  obtain ⟨k0, hk⟩ : ∃ k0, plnV n Z s t H b L = k0 := ⟨_, rfl⟩
  obtain ⟨b0, hs⟩ : ∃ b0, stiV n Z s t H L = b0 := ⟨_, rfl⟩
  have HAB := Lib.hid (arrV_bd n Z s t H b L)
  rw [hA] at HAB
  have HA := Lib.hid hA
  have HE := Lib.hid he
  have HF := Lib.hid hf
  have HK := Lib.hid hk
  have HS := Lib.hid hs
  clear hA he hf hk hs
  have hcs : (60 : Int) < (ll : Int) ∨ (¬ (60 : Int) < (ll : Int) ∧ (40 : Int) < H ∧ H ≤ 1024) ∨ (¬ (60 : Int) < (ll : Int) ∧ ¬ (40 : Int) < H) ∨ (¬ (60 : Int) < (ll : Int) ∧ (40 : Int) < H ∧ ¬ H ≤ 1024) := by omega
  rcases hcs with h6 | ⟨h6, h4, h1⟩ | ⟨h6, h4⟩ | ⟨h6, h4, h1⟩
  · clear hll
    go_enter Try.func4, Try.ntmps4
    go_wp2_with (first
      | (go_at_call 10; refine (nawake_any _).mono ?_; rintro e wn ⟨rfl, hb⟩; have HR := Lib.hid (HR.out.below' hb); have HL := Lib.hid (HL.out.below' hb); have hn := kept_box HN.out hb; have HN := Lib.hid hn; have x0 := cell_whole hn 0; have x1 := cell_whole hn 1; have x2 := cell_whole hn 2; have HB := Lib.hid (HB.out.trans (hb.mono HB.out.size)); clear hb hn))
    go_ret
    exact ⟨by simp, HB.out⟩
  · clear hll
    go_enter Try.func4, Try.ntmps4
    go_wp2_with (first
      | (go_at_call 10; refine (nawake_any _).mono ?_; rintro e wn ⟨rfl, hb⟩; have HR := Lib.hid (HR.out.below' hb); have HL := Lib.hid (HL.out.below' hb); have hn := kept_box HN.out hb; have HN := Lib.hid hn; have x0 := cell_whole hn 0; have x1 := cell_whole hn 1; have x2 := cell_whole hn 2; have HB := Lib.hid (HB.out.trans (hb.mono HB.out.size)); clear hb hn))
    go_ret
    exact ⟨by simp, HB.out⟩
  · have HNN : Hid (L.length ≤ 200) := Lib.hid (by have := HLL.out; omega)
    clear hll
    go_enter Try.func4, Try.ntmps4
    go_wp2_with (first
      | (go_at_call 14; refine (nchk14_any n b ao cap nl Z s t H lo lc ll L _ HR.out HZ.out HL.out HOK.out HNN.out HNL.out HLL.out).mono ?_; rw [HK.out, HE.out]; rintro e wn ⟨rfl, hb⟩; have HR := Lib.hid (HR.out.below' hb); have HL := Lib.hid (HL.out.below' hb); have hn := kept_box HN.out hb; have HN := Lib.hid hn; have x0 := cell_whole hn 0; have x1 := cell_whole hn 1; have x2 := cell_whole hn 2; have HB := Lib.hid (HB.out.trans (hb.mono HB.out.size)); clear hb hn)
      | (go_at_call 15; refine (rchk14_any n b ao cap nl Z s t H lo lc ll L _ HR.out HZ.out HL.out HOK.out HNN.out HNL.out HLL.out).mono ?_; rw [HK.out, HE.out]; rintro e wn ⟨rfl, hb⟩; have HR := Lib.hid (HR.out.below' hb); have HL := Lib.hid (HL.out.below' hb); have hn := kept_box HN.out hb; have HN := Lib.hid hn; have x0 := cell_whole hn 0; have x1 := cell_whole hn 1; have x2 := cell_whole hn 2; have HB := Lib.hid (HB.out.trans (hb.mono HB.out.size)); clear hb hn)
      | (go_at_call 16; refine (narrived_any n b ao cap nl Z s t H lo lc ll L _ HR.out HZ.out HL.out HOK.out HNN.out HNL.out HLL.out).mono ?_; rw [HA.out, HE.out]; rintro e wn ⟨pa, pl, pc, rfl, hgl, hir, hb⟩; have HR := Lib.hid (HR.out.below' hb); have HL := Lib.hid (HL.out.below' hb); have hn := kept_box HN.out hb; have HN := Lib.hid hn; have x0 := cell_whole hn 0; have x1 := cell_whole hn 1; have x2 := cell_whole hn 2; have HB := Lib.hid (HB.out.trans (hb.mono HB.out.size)); have HP := Lib.hid hir; have HLP := Lib.hid hgl; clear hir hgl; clear hb hn)
      | (go_at_call 17; refine (rarr14_any n b ao cap nl Z s t H lo lc ll L _ HR.out HZ.out HL.out HOK.out HNN.out HNL.out HLL.out).mono ?_; rw [HA.out, HE.out]; rintro e wn ⟨qa, ql, qc, rfl, hgl, hir, hb⟩; have HR := Lib.hid (HR.out.below' hb); have HL := Lib.hid (HL.out.below' hb); have hn := kept_box HN.out hb; have HN := Lib.hid hn; have x0 := cell_whole hn 0; have x1 := cell_whole hn 1; have x2 := cell_whole hn 2; have HB := Lib.hid (HB.out.trans (hb.mono HB.out.size)); have HP := Lib.hid (HP.out.below hb); have HQ := Lib.hid hir; have HLQ := Lib.hid hgl; clear hir hgl; clear hb hn)
      | (go_at_call 18; refine (nstill_any n b ao cap nl Z s t H lo lc ll L _ HR.out HZ.out HL.out HOK.out HNN.out HNL.out HLL.out).mono ?_; rw [HS.out, HF.out]; rintro e wn ⟨rfl, hb⟩; have HR := Lib.hid (HR.out.below' hb); have HL := Lib.hid (HL.out.below' hb); have hn := kept_box HN.out hb; have HN := Lib.hid hn; have x0 := cell_whole hn 0; have x1 := cell_whole hn 1; have x2 := cell_whole hn 2; have HB := Lib.hid (HB.out.trans (hb.mono HB.out.size)); have HP := Lib.hid (HP.out.below hb); have HQ := Lib.hid (HQ.out.below hb); clear hb hn)
      | (go_at_call 19; refine (rstill14_any n b ao cap nl Z s t H lo lc ll L _ HR.out HZ.out HL.out HOK.out HNN.out HNL.out HLL.out).mono ?_; rw [HS.out, HF.out]; rintro e wn ⟨rfl, hb⟩; have HR := Lib.hid (HR.out.below' hb); have HL := Lib.hid (HL.out.below' hb); have hn := kept_box HN.out hb; have HN := Lib.hid hn; have x0 := cell_whole hn 0; have x1 := cell_whole hn 1; have x2 := cell_whole hn 2; have HB := Lib.hid (HB.out.trans (hb.mono HB.out.size)); have HP := Lib.hid (HP.out.below hb); have HQ := Lib.hid (HQ.out.below hb); clear hb hn)
      | (go_at_call 20; refine (sameints_le pl ql A HLP.out HLQ.out pa qa pc qc _ HP.out HQ.out HAB.out).mono ?_; rintro e wn ⟨rfl, hb⟩; have HB := Lib.hid (HB.out.trans (hb.mono HB.out.size)); clear hb)
      | (go_at_call 10; refine (nawake_any _).mono ?_; rintro e wn ⟨rfl, hb⟩; have HR := Lib.hid (HR.out.below' hb); have HL := Lib.hid (HL.out.below' hb); have hn := kept_box HN.out hb; have HN := Lib.hid hn; have x0 := cell_whole hn 0; have x1 := cell_whole hn 1; have x2 := cell_whole hn 2; have HB := Lib.hid (HB.out.trans (hb.mono HB.out.size)); have HP := Lib.hid (HP.out.below hb); have HQ := Lib.hid (HQ.out.below hb); clear hb hn))
    go_ret
    exact ⟨by simp, HB.out⟩
  · have HNN : Hid (L.length ≤ 200) := Lib.hid (by have := HLL.out; omega)
    clear hll
    go_enter Try.func4, Try.ntmps4
    go_wp2_with (first
      | (go_at_call 14; refine (nchk14_any n b ao cap nl Z s t H lo lc ll L _ HR.out HZ.out HL.out HOK.out HNN.out HNL.out HLL.out).mono ?_; rw [HK.out, HE.out]; rintro e wn ⟨rfl, hb⟩; have HR := Lib.hid (HR.out.below' hb); have HL := Lib.hid (HL.out.below' hb); have hn := kept_box HN.out hb; have HN := Lib.hid hn; have x0 := cell_whole hn 0; have x1 := cell_whole hn 1; have x2 := cell_whole hn 2; have HB := Lib.hid (HB.out.trans (hb.mono HB.out.size)); clear hb hn)
      | (go_at_call 15; refine (rchk14_any n b ao cap nl Z s t H lo lc ll L _ HR.out HZ.out HL.out HOK.out HNN.out HNL.out HLL.out).mono ?_; rw [HK.out, HE.out]; rintro e wn ⟨rfl, hb⟩; have HR := Lib.hid (HR.out.below' hb); have HL := Lib.hid (HL.out.below' hb); have hn := kept_box HN.out hb; have HN := Lib.hid hn; have x0 := cell_whole hn 0; have x1 := cell_whole hn 1; have x2 := cell_whole hn 2; have HB := Lib.hid (HB.out.trans (hb.mono HB.out.size)); clear hb hn)
      | (go_at_call 16; refine (narrived_any n b ao cap nl Z s t H lo lc ll L _ HR.out HZ.out HL.out HOK.out HNN.out HNL.out HLL.out).mono ?_; rw [HA.out, HE.out]; rintro e wn ⟨pa, pl, pc, rfl, hgl, hir, hb⟩; have HR := Lib.hid (HR.out.below' hb); have HL := Lib.hid (HL.out.below' hb); have hn := kept_box HN.out hb; have HN := Lib.hid hn; have x0 := cell_whole hn 0; have x1 := cell_whole hn 1; have x2 := cell_whole hn 2; have HB := Lib.hid (HB.out.trans (hb.mono HB.out.size)); have HP := Lib.hid hir; have HLP := Lib.hid hgl; clear hir hgl; clear hb hn)
      | (go_at_call 17; refine (rarr14_any n b ao cap nl Z s t H lo lc ll L _ HR.out HZ.out HL.out HOK.out HNN.out HNL.out HLL.out).mono ?_; rw [HA.out, HE.out]; rintro e wn ⟨qa, ql, qc, rfl, hgl, hir, hb⟩; have HR := Lib.hid (HR.out.below' hb); have HL := Lib.hid (HL.out.below' hb); have hn := kept_box HN.out hb; have HN := Lib.hid hn; have x0 := cell_whole hn 0; have x1 := cell_whole hn 1; have x2 := cell_whole hn 2; have HB := Lib.hid (HB.out.trans (hb.mono HB.out.size)); have HP := Lib.hid (HP.out.below hb); have HQ := Lib.hid hir; have HLQ := Lib.hid hgl; clear hir hgl; clear hb hn)
      | (go_at_call 18; refine (nstill_any n b ao cap nl Z s t H lo lc ll L _ HR.out HZ.out HL.out HOK.out HNN.out HNL.out HLL.out).mono ?_; rw [HS.out, HF.out]; rintro e wn ⟨rfl, hb⟩; have HR := Lib.hid (HR.out.below' hb); have HL := Lib.hid (HL.out.below' hb); have hn := kept_box HN.out hb; have HN := Lib.hid hn; have x0 := cell_whole hn 0; have x1 := cell_whole hn 1; have x2 := cell_whole hn 2; have HB := Lib.hid (HB.out.trans (hb.mono HB.out.size)); have HP := Lib.hid (HP.out.below hb); have HQ := Lib.hid (HQ.out.below hb); clear hb hn)
      | (go_at_call 19; refine (rstill14_any n b ao cap nl Z s t H lo lc ll L _ HR.out HZ.out HL.out HOK.out HNN.out HNL.out HLL.out).mono ?_; rw [HS.out, HF.out]; rintro e wn ⟨rfl, hb⟩; have HR := Lib.hid (HR.out.below' hb); have HL := Lib.hid (HL.out.below' hb); have hn := kept_box HN.out hb; have HN := Lib.hid hn; have x0 := cell_whole hn 0; have x1 := cell_whole hn 1; have x2 := cell_whole hn 2; have HB := Lib.hid (HB.out.trans (hb.mono HB.out.size)); have HP := Lib.hid (HP.out.below hb); have HQ := Lib.hid (HQ.out.below hb); clear hb hn)
      | (go_at_call 20; refine (sameints_le pl ql A HLP.out HLQ.out pa qa pc qc _ HP.out HQ.out HAB.out).mono ?_; rintro e wn ⟨rfl, hb⟩; have HB := Lib.hid (HB.out.trans (hb.mono HB.out.size)); clear hb)
      | (go_at_call 10; refine (nawake_any _).mono ?_; rintro e wn ⟨rfl, hb⟩; have HR := Lib.hid (HR.out.below' hb); have HL := Lib.hid (HL.out.below' hb); have hn := kept_box HN.out hb; have HN := Lib.hid hn; have x0 := cell_whole hn 0; have x1 := cell_whole hn 1; have x2 := cell_whole hn 2; have HB := Lib.hid (HB.out.trans (hb.mono HB.out.size)); have HP := Lib.hid (HP.out.below hb); have HQ := Lib.hid (HQ.out.below hb); clear hb hn))
    go_ret
    exact ⟨by simp, HB.out⟩
end
end Go.Proofs.Ytedficnaipiplaa
