/- TimeflowCuts. -/
import Derived.Test.YtlkbohpnlbfopaaGreatCO
import Derived.Test.YtlkbohpnlbfopaaGreatFRcu
import Derived.Test.YtlkbohpnlbfopaaGreatCG
namespace Go.Proofs.YtlkbohpnlbfopaaGreat
open Go.RowKit
set_option linter.unusedVariables false
set_option maxRecDepth 100000 in
set_option maxHeartbeats 16000000 in
theorem fcuts_law (nn s t sp : Int) (hold : Bool) (ba : Option Addr) (bc : Nat) (B : List BitT) (w : World) (hr : Row encBit 4 w ba B) (hB : ∀ x ∈ B, BitOk x) (hbl : B.length ≤ maxLen) (hn : ByteB nn) (hs : ByteB s) (ht : ByteB t) (hp : ByteB sp) :
    Calls Tryz.prog 4 #[.agg #[.int .u8 nn, .bool hold, .slice ba B.length bc, .int .u8 s, .int .u8 t, .int .u8 sp]] w fun e w' => e = .returned (.bool true) ∧ Below w.heap.size w w' := by
  have hb00 := (Below.refl _ w).alloc (Nat.le_refl _) (.cells #[.int .u8 nn, .bool hold, .slice ba B.length bc, .int .u8 s, .int .u8 t, .int .u8 sp] 24)
  have HB := Lib.hid hb00
  have HX := Lib.hid (heap_alloc_new w (.cells #[.int .u8 nn, .bool hold, .slice ba B.length bc, .int .u8 s, .int .u8 t, .int .u8 sp] 24))
  have HR := Lib.hid (hr.below' hb00)
  have x0 := cell_whole HX.out 0
  have x1 := cell_whole HX.out 1
  have x2 := cell_whole HX.out 2
  have x3 := cell_whole HX.out 3
  have x4 := cell_whole HX.out 4
  have x5 := cell_whole HX.out 5
  have HBB := Lib.hid hB
  have HNN := Lib.hid (And.intro hn (And.intro hs (And.intro ht hp)))
  have HBL := Lib.hid hbl
  obtain ⟨N, i, j, H, Z, e1, e2, e3, e4, e5, hF0⟩ := sm_facts 6 nn s t sp B
  have E1 := Lib.hid e1
  have E2 := Lib.hid e2
  have E3 := Lib.hid e3
  have E4 := Lib.hid e4
  have E5 := Lib.hid e5
  have HS := Lib.hid hF0
  clear hr hb00 hB hbl hn hs ht hp e1 e2 e3 e4 e5 hF0
  obtain ⟨zl, hzl⟩ : ∃ zl, Z.length = zl := ⟨_, rfl⟩
  have HZL := Lib.hid hzl
  clear hzl
  have HX1 := Lib.hid (HS.out.net16 (K := H) (by omega) (by have := HS.out.hor; omega) hold).1
  have HZ4 : Hid (Z.length ≤ 4398046511104) := Lib.hid (by have := HS.out.arcs; omega)
  have HZM : Hid (Z.length ≤ maxLen) := Lib.hid (by have := HS.out.arcs; unfold maxLen; omega)
  have hN1 : 1 ≤ N := by have := HS.out.nodes; omega
  have hH7 := HS.out.hor
  have HQ40 : Hid ((H + 1) * N ≤ 40) := Lib.hid (Nat.le_trans (Nat.mul_le_mul (show H + 1 ≤ 8 by omega) HS.out.nodes.2) (by omega))
  go_enter Tryz.func4, Tryz.ntmps4
  go_wp2_with (first
    | (go_at_call 6; refine (read12_any 6 nn s t sp hold ba bc B _ HR.out HBB.out HBL.out (by omega) HNN.out.1 HNN.out.2.1 HNN.out.2.2.1 HNN.out.2.2.2).mono ?_; rw [E5.out, E1.out, E2.out, E3.out, E4.out]; rintro e wr1 ⟨za, zc, rfl, hz, hb⟩; rw [HZL.out]; have hal := (Below.refl _ wr1).alloc (Nat.le_refl _) (.cells #[.int .i64 (N : Int), .bool hold, .slice za zl zc] 27); have HNT := Lib.hid (heap_alloc_new wr1 (.cells #[.int .i64 (N : Int), .bool hold, .slice za zl zc] 27)); have HZ := Lib.hid (hz.below' hal); have hb := hb.trans (hal.mono hb.size); have HB := Lib.hid (HB.out.trans (hb.mono HB.out.size)); have n0 := cell_whole HNT.out 0; have n1 := cell_whole HNT.out 1; have n2 := cell_whole HNT.out 2; clear x0 x1 x2 x3 x4 x5 hz hb hal HX HR)
    | (go_at_call 10; refine (fcut_yes (N : Int) hold za zl zc Z (i : Int) (j : Int) (H : Int) _ _ _ HZ.out HZL.out HZ4.out HX1.out).mono ?_; rintro e wn ⟨F, k, la, lc, rfl, hv, hn, hrow, hb⟩; generalize hL : cutL (fitN (N : Int) Z (H : Int)) (N : Int) (H : Int) (farsL (seekN (⟨Z, N, i, j, H, hold⟩ : Exp).net F ((H + 1) * N + 2) ((H + 1) * N)) ((H + 1) * N + 2)) ((H + 1) * N) = L at *; (obtain ⟨ll, hll⟩ : ∃ ll, L.length = ll := ⟨_, rfl⟩); rw [hll]; have HLL := Lib.hid hll; have HLE := Lib.hid hL; have HV := Lib.hid hv; have HNK := Lib.hid hn; have HRW := Lib.hid hrow; have HZ := Lib.hid (HZ.out.below' hb); have hn := kept_box HNT.out hb; have HNT := Lib.hid hn; have n0 := cell_whole hn 0; have n1 := cell_whole hn 1; have n2 := cell_whole hn 2; have HB := Lib.hid (HB.out.trans (hb.mono HB.out.size)); clear hn; clear hv hb hrow hL hll)
    | (go_at_call 11; refine (rcut16_yes hold za zl zc Z N H (i : Int) (j : Int) _ _ _ HZ.out HZL.out HZM.out HX1.out rfl hN1 (by omega)).mono ?_; rintro e wm ⟨G, m, ra, rc, rfl, hg, hm, hrow, hb⟩; rw [← (cut_same HX1.out.wide (by omega) HV.out hg HNK.out hm).2 _ _ _ _ (by omega), HLE.out, HLL.out]; rw [← (cut_same HX1.out.wide (by omega) HV.out hg HNK.out hm).2 _ _ _ _ (by omega), HLE.out] at hrow; have HRG := Lib.hid hrow; have HRW := Lib.hid (HRW.out.below' hb); have q0 := 0; have HZ := Lib.hid (HZ.out.below' hb); have hn := kept_box HNT.out hb; have HNT := Lib.hid hn; have n0 := cell_whole hn 0; have n1 := cell_whole hn 1; have n2 := cell_whole hn 2; have HB := Lib.hid (HB.out.trans (hb.mono HB.out.size)); clear hn; clear hg hm hb hrow q0)
    | (go_at_call 9; refine (fawake_any _).mono ?_; rintro e wx ⟨rfl, hb⟩; have HRW := Lib.hid (HRW.out.below' hb); have HRG := Lib.hid (HRG.out.below' hb); have HB := Lib.hid (HB.out.trans (hb.mono HB.out.size)); clear hb)
    | (go_at_call 12; refine (slots16_any la ra ll ll lc rc L _ HLL.out HLL.out HRW.out HRG.out (by have := HLL.out; have := cutL_len (fitN (N : Int) Z (H : Int)) (N : Int) (H : Int) (farsL (seekN (⟨Z, N, i, j, H, hold⟩ : Exp).net F ((H + 1) * N + 2) ((H + 1) * N)) ((H + 1) * N + 2)) ((H + 1) * N); rw [HLE.out] at this; have := HQ40.out; omega)).mono ?_; rintro e wy ⟨rfl, nd, rfl⟩; have HB := Lib.hid (below_drewN HB.out nd)))
  go_ret
  exact ⟨by simp, HB.out⟩
end Go.Proofs.YtlkbohpnlbfopaaGreat
