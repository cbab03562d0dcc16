/- The document's Most of layer 16. -/
import Derived.Test.YtlkbohpnlbfopaaGreatCO
import Derived.Test.YtlkbohpnlbfopaaGreatBY
import Derived.Test.YtlkbohpnlbfopaaGreatXBest
import Derived.Test.YtlkbohpnlbfopaaGreatBD
import Derived.Test.YtlkbohpnlbfopaaGreatCJ
namespace Go.Proofs.YtlkbohpnlbfopaaGreat
open Go.RowKit
set_option linter.unusedVariables false
section
variable (n : Int) (b : Bool) (ao : Option Addr) (nl cap : Nat) (Z : List ArcT) (s t H : Int)
set_option maxRecDepth 100000 in
set_option maxHeartbeats 4000000 in
theorem rmost16_yes (A : List ArcT) (q : Nat) (w : World) (h : Row encA 4 w ao Z) (hl : Z.length = nl) (hz : Z.length ≤ maxLen) (hX : NetX n Z s t H b A q) :
    Calls Tryz.prog 8 #[.agg #[.int .i64 n, .bool b, .slice ao nl cap], .int .i64 s, .int .i64 t, .int .i64 H] w (MostV A q w) := by
  have hb00 := (Below.refl _ w).alloc (Nat.le_refl _) (.cells #[.int .i64 n, .bool b, .slice ao nl cap] 27)
  have HB := Lib.hid hb00
  have HN := Lib.hid (heap_alloc_new w (.cells #[.int .i64 n, .bool b, .slice ao nl cap] 27))
  have c0 := cell_whole HN.out 0
  have c1 := cell_whole HN.out 1
  have c2 := cell_whole HN.out 2
  have HR := Lib.hid (h.below' hb00)
  have HX := Lib.hid hX
  have HL := Lib.hid hl
  have HM := Lib.hid hz
  have hq2 : q ≤ 4000 := by obtain ⟨N, i, j, K, _, _, _, _, _, _, _, _, _, h1, h2, _⟩ := hX.exp; omega
  clear h hb00 hl hz hX
  go_enter Tryz.func8, Tryz.ntmps8
  go_wp2_with (first
    | ((with_reducible show wpList _ _ _ (Oper.mk none (Op.store 27 _ _) _ _ _ _ :: _) _ _); refine wpList_store_box sizeNet15 rfl _ _ rfl w2.heap.size _ [.int .i64 ((q + 2 : Nat) : Int), .bool false, .slice oa A.length oc] rfl rfl (heap_alloc_new w2 _) rfl rfl (net_one _ _ _ _ _) ?_; intro w3 hg3 hk3; have hb : Below w2.heap.size w2 w3 := ((Below.refl _ w2).alloc (Nat.le_refl _) _).trans (hk3.below (by simp) (fun i e => by have e2 : i = w2.heap.size := e; omega)); have HA := Lib.hid (HA.out.below' hb); have HB := Lib.hid (HB.out.trans (hb.mono HB.out.size)); have d0 := cell_whole hg3 0; have d1 := cell_whole hg3 1; have d2 := cell_whole hg3 2; have HG := Lib.hid hg3; clear hb hg3 hk3)
    | (go_at_call 17; refine (rbuild15_any n b ao nl cap Z s t H _ HR.out HL.out HM.out).mono ?_; unfold BldRes; rw [HX.out.arcs, HX.out.nodes, HX.out.err]; rintro e w2 ⟨oa, oc, rfl, hrb, hb⟩; have HA := Lib.hid hrb; have HB := Lib.hid (HB.out.trans (hb.mono HB.out.size)); clear hrb hb c0 c1 c2 HR HN))
  have hcall := rbest_any ((q : Int) + 2) false oa oc A (q + 2) q (q + 1) w3 HA.out HX.out.wide (by omega) (by omega) (by omega)
  rw [show ((q + 1 : Nat) : Int) = (q : Int) + 2 - 1 from by omega] at hcall
  refine hcall.mono ?_
  rintro e w4 ⟨fo, fc, F, k, rfl, hf, _, hv, hm, _, hb⟩
  have HB := Lib.hid (HB.out.trans (hb.mono HB.out.size))
  have hn := kept_box HG.out hb
  have d0 := cell_whole hn 0
  have d1 := cell_whole hn 1
  have d2 := cell_whole hn 2
  have HA := Lib.hid (HA.out.below' hb)
  have HF := Lib.hid hf
  have HV := Lib.hid hv
  have HM2 := Lib.hid hm
  have hal := HX.out.wide.len
  have HBA : Hid (balK A F q A.length = k) := Lib.hid hv.2.2
  clear hcall hb hn hf hv hm
  go_wp2_with (first
    | (go_at_call 19; refine (rleaves_gen ((q : Int) + 2) false oa fo oc fc A F q _ HA.out HF.out HX.out.wide.ends HV.out.1.1 (fun i a ha => by have h1 := HV.out.1.2 i a ha; have h2 := HX.out.wide.caps a (List.mem_of_getElem? ha); omega) (by omega)).mono ?_; rw [HBA.out]; rintro e w5 ⟨rfl, hb5⟩; have HB := Lib.hid (HB.out.trans (hb5.mono HB.out.size)); clear hb5))
  go_ret2
  exact ⟨k, rfl, HM2.out, HB.out⟩
end
end Go.Proofs.YtlkbohpnlbfopaaGreat
