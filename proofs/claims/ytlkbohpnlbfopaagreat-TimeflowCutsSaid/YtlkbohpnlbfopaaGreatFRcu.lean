/- The document's Cut of layer 16. -/
import Derived.Test.YtlkbohpnlbfopaaGreatFRsl
namespace Go.Proofs.YtlkbohpnlbfopaaGreat
open Go.RowKit
set_option linter.unusedVariables false
section
variable (b : Bool) (ao : Option Addr) (nl cap : Nat) (Z : List ArcT) (N K : Nat) (s t : Int)
set_option maxRecDepth 100000 in
set_option maxHeartbeats 4000000 in
theorem rcut16_yes (A : List ArcT) (q : Nat) (w : World) (h : Row encA 4 w ao Z) (hl : Z.length = nl) (hz : Z.length ≤ maxLen) (hX : NetX (N : Int) Z s t (K : Int) b A q) (hq : (K + 1) * N = q) (hN : 1 ≤ N) (hK : K ≤ 1024) :
    Calls Tryz.prog 11 #[.agg #[.int .i64 (N : Int), .bool b, .slice ao nl cap], .int .i64 s, .int .i64 t, .int .i64 (K : Int)] w (CutV (N : Int) Z (K : Int) A q w) := by
  have hb00 := (Below.refl _ w).alloc (Nat.le_refl _) (.cells #[.int .i64 (N : Int), .bool b, .slice ao nl cap] 27)
  have HB := Lib.hid hb00
  have HN := Lib.hid (heap_alloc_new w (.cells #[.int .i64 (N : Int), .bool b, .slice ao nl cap] 27))
  have c0 := cell_whole HN.out 0
  have c1 := cell_whole HN.out 1
  have c2 := cell_whole HN.out 2
  have HR := Lib.hid (h.below' hb00)
  have HX := Lib.hid hX
  have HL := Lib.hid hl
  have HM := Lib.hid hz
  have HFT : Hid (fitN (N : Int) Z (K : Int) = true) := Lib.hid (xpE_ok.1 hX.err).2
  have HQN := Lib.hid (And.intro hq (And.intro hN hK))
  have hq2 : q ≤ 4000 := by obtain ⟨N, i, j, K, _, _, _, _, _, _, _, _, _, h1, h2, _⟩ := hX.exp; omega
  clear h hb00 hl hz hX hq
  go_enter Tryz.func11, Tryz.ntmps11
  go_wp2_with (first
    | ((with_reducible show wpList _ _ _ (Oper.mk none (Op.store 27 _ _) _ _ _ _ :: _) _ _); refine wpList_store_box sizeNet15 rfl _ _ rfl w2.heap.size _ [.int .i64 ((q + 2 : Nat) : Int), .bool false, .slice oa A.length oc] rfl rfl (heap_alloc_new w2 _) rfl rfl (net_one _ _ _ _ _) ?_; intro w3 hg3 hk3; have hb : Below w2.heap.size w2 w3 := ((Below.refl _ w2).alloc (Nat.le_refl _) _).trans (hk3.below (by simp) (fun i e => by have e2 : i = w2.heap.size := e; omega)); have HA := Lib.hid (HA.out.below' hb); have HB := Lib.hid (HB.out.trans (hb.mono HB.out.size)); have d0 := cell_whole hg3 0; have d1 := cell_whole hg3 1; have d2 := cell_whole hg3 2; have HG := Lib.hid hg3; have hn := kept_box HN.out hb; have HN := Lib.hid hn; have c0 := cell_whole hn 0; have c1 := cell_whole hn 1; have c2 := cell_whole hn 2; clear hb hg3 hk3 hn)
    | (go_at_call 17; refine (rbuild15_any (N : Int) b ao nl cap Z s t (K : Int) _ HR.out HL.out HM.out).mono ?_; unfold BldRes; rw [HX.out.arcs, HX.out.nodes, HX.out.err]; rintro e w2 ⟨oa, oc, rfl, hrb, hb⟩; have HA := Lib.hid hrb; have hn := kept_box HN.out hb; have HN := Lib.hid hn; have c0 := cell_whole hn 0; have c1 := cell_whole hn 1; have c2 := cell_whole hn 2; have HB := Lib.hid (HB.out.trans (hb.mono HB.out.size)); clear hrb hb HR hn))
  have hcall := rbest_any ((q : Int) + 2) false oa oc A (q + 2) q (q + 1) w3 HA.out HX.out.wide (by omega) (by omega) (by omega)
  rw [show ((q + 1 : Nat) : Int) = (q : Int) + 2 - 1 from by omega] at hcall
  refine hcall.mono ?_
  rintro e w4 ⟨fo, fc, F, k, rfl, hf, _, hv, hm, hnk, hb⟩
  have HB := Lib.hid (HB.out.trans (hb.mono HB.out.size))
  have hn := kept_box HG.out hb
  have d0 := cell_whole hn 0
  have d1 := cell_whole hn 1
  have d2 := cell_whole hn 2
  have hn := kept_box HN.out hb
  have c0 := cell_whole hn 0
  have c1 := cell_whole hn 1
  have c2 := cell_whole hn 2
  have HA := Lib.hid (HA.out.below' hb)
  have HF := Lib.hid hf
  have HV := Lib.hid hv
  have HNK := Lib.hid hnk
  clear hcall hb hn hf hv hm hnk
  go_wp2_with (first
    | (go_at_call 24; refine (rslots16_yes b ao nl cap N K q oa fo oc fc A F _ HX.out.wide HQN.out.1 HQN.out.2.1 HQN.out.2.2 hq2 HA.out HF.out HV.out.1).mono ?_; rintro e w5 ⟨sa, sc, rfl, hs5, hb5⟩; have HS := Lib.hid hs5; have HB := Lib.hid (HB.out.trans (hb5.mono HB.out.size)); clear hb5 hs5))
  go_ret2
  exact ⟨F, k, sa, sc, by rw [HFT.out]; rfl, HV.out, HNK.out, by rw [HFT.out]; exact HS.out, HB.out⟩
end
end Go.Proofs.YtlkbohpnlbfopaaGreat
