/- TimeflowPlans. -/
import Derived.Test.YtlkbohpnlbfopaaFMvs
import Derived.Test.YtlkbohpnlbfopaaCO
import Derived.Test.YtlkbohpnlbfopaaCG
import Derived.Test.YtlkbohpnlbfopaaCJ
import Derived.Test.YtlkbohpnlbfopaaCC
namespace Go.Proofs.Ytlkbohpnlbfopaa
open Go.RowKit
set_option linter.unusedVariables false
set_option maxRecDepth 100000 in
set_option maxHeartbeats 16000000 in
theorem fplans_law (nn s t sp : Int) (hold : Bool) (ba : Option Addr) (bc : Nat) (B : List BitT) (w : World) (hr : Row encBit 4 w ba B) (hB : ∀ x ∈ B, BitOk x) (hbl : B.length ≤ maxLen) (hn : ByteB nn) (hs : ByteB s) (ht : ByteB t) (hp : ByteB sp) :
    Calls Try.prog 4 #[.agg #[.int .u8 nn, .bool hold, .slice ba B.length bc, .int .u8 s, .int .u8 t, .int .u8 sp]] w fun e w' => e = .returned (.bool true) ∧ Below w.heap.size w w' := by
  have hb00 := (Below.refl _ w).alloc (Nat.le_refl _) (.cells #[.int .u8 nn, .bool hold, .slice ba B.length bc, .int .u8 s, .int .u8 t, .int .u8 sp] 39)
  have HB := Lib.hid hb00
  have HX := Lib.hid (heap_alloc_new w (.cells #[.int .u8 nn, .bool hold, .slice ba B.length bc, .int .u8 s, .int .u8 t, .int .u8 sp] 39))
  have HR := Lib.hid (hr.below' hb00)
  have x0 := cell_whole HX.out 0
  have x1 := cell_whole HX.out 1
  have x2 := cell_whole HX.out 2
  have x3 := cell_whole HX.out 3
  have x4 := cell_whole HX.out 4
  have x5 := cell_whole HX.out 5
  have HBB := Lib.hid hB
  have HNN := Lib.hid (And.intro hn (And.intro hs (And.intro ht hp)))
  have HBL := Lib.hid hbl
  obtain ⟨N, i, j, H, Z, e1, e2, e3, e4, e5, hF0⟩ := sm_facts 10 nn s t sp B
  have E1 := Lib.hid e1
  have E2 := Lib.hid e2
  have E3 := Lib.hid e3
  have E4 := Lib.hid e4
  have E5 := Lib.hid e5
  have HS := Lib.hid hF0
  clear hr hb00 hB hbl hn hs ht hp e1 e2 e3 e4 e5 hF0
  obtain ⟨zl, hzl⟩ : ∃ zl, Z.length = zl := ⟨_, rfl⟩
  have HZL := Lib.hid hzl
  clear hzl
  have HX1 := Lib.hid (HS.out.net16 (K := H) (by omega) (by have := HS.out.hor; omega) hold).1
  have HZ4 : Hid (Z.length ≤ 4398046511104) := Lib.hid (by have := HS.out.arcs; omega)
  go_enter Try.func4, Try.ntmps4
  go_wp2_with (first
    | (go_at_call 7; refine (fawake_any _).mono ?_; rintro e wn ⟨rfl, hb⟩; have HR := Lib.hid (HR.out.below' hb); have hn := kept_box HX.out hb; have HX := Lib.hid hn; have x0 := cell_whole hn 0; have x1 := cell_whole hn 1; have x2 := cell_whole hn 2; have x3 := cell_whole hn 3; have x4 := cell_whole hn 4; have x5 := cell_whole hn 5; have HB := Lib.hid (HB.out.trans (hb.mono HB.out.size)); clear hb hn)
    | (go_at_call 12; refine (read12_any 10 nn s t sp hold ba bc B _ HR.out HBB.out HBL.out (by omega) HNN.out.1 HNN.out.2.1 HNN.out.2.2.1 HNN.out.2.2.2).mono ?_; rw [E5.out, E1.out, E2.out, E3.out, E4.out]; rintro e wr1 ⟨za, zc, rfl, hz, hb⟩; rw [HZL.out]; have hal := (Below.refl _ wr1).alloc (Nat.le_refl _) (.cells #[.int .i64 (N : Int), .bool hold, .slice za zl zc] 24); have HNT := Lib.hid (heap_alloc_new wr1 (.cells #[.int .i64 (N : Int), .bool hold, .slice za zl zc] 24)); have HZ := Lib.hid (hz.below' hal); have hb := hb.trans (hal.mono hb.size); have HB := Lib.hid (HB.out.trans (hb.mono HB.out.size)); have n0 := cell_whole HNT.out 0; have n1 := cell_whole HNT.out 1; have n2 := cell_whole HNT.out 2; clear x0 x1 x2 x3 x4 x5 hz hb hal HX HR)
    | (go_at_call 10; refine (fmax_yes (N : Int) hold za zl zc Z (i : Int) (j : Int) (H : Int) _ _ _ HZ.out HZL.out HZ4.out HX1.out (HS.out.umv16 (by omega) hold za zl zc HZL.out)).mono ?_; rintro e wn ⟨F, k, la, lc, rfl, hF, hm, hrow, hb⟩; obtain ⟨V, hV, ll, hll, hrn⟩ := HS.out.run16x (by omega) hF; rw [hV, hll]; rw [hV] at hrow; have HV := Lib.hid hV; have HLL := Lib.hid hll; have HRN := Lib.hid hrn; have HM := Lib.hid hrow; have HK := Lib.hid hm; have HZ := Lib.hid (HZ.out.below' hb); have hn := kept_box HNT.out hb; have HNT := Lib.hid hn; have n0 := cell_whole hn 0; have n1 := cell_whole hn 1; have n2 := cell_whole hn 2; have HB := Lib.hid (HB.out.trans (hb.mono HB.out.size)); clear hn; clear hF hm hrow hb hV hll hrn)
    | (go_at_call 13; refine (rchk14_any (N : Int) hold za zc zl Z (i : Int) (j : Int) (H : Int) la lc ll V _ HZ.out HZ4.out HM.out HRN.out.2.2.1 HRN.out.2.2.2.1 HZL.out HLL.out).mono ?_; rw [HRN.out.1, HRN.out.2.1]; rintro e wn ⟨rfl, hb⟩; have HM := Lib.hid (HM.out.below' hb); have HZ := Lib.hid (HZ.out.below' hb); have hn := kept_box HNT.out hb; have HNT := Lib.hid hn; have n0 := cell_whole hn 0; have n1 := cell_whole hn 1; have n2 := cell_whole hn 2; have HB := Lib.hid (HB.out.trans (hb.mono HB.out.size)); clear hn; have q0 := 0; clear hb q0)
    | (go_at_call 14; refine (rmoves_sz la lc ll V _ HM.out HRN.out.2.2.1 HRN.out.2.2.2.1 HLL.out).mono ?_; rintro e wn ⟨hb, hcase⟩; obtain ⟨_, ma, mc, M, rfl, hmr, hper, hsort⟩ := hcase.resolve_right (fun q => q.1 HRN.out.2.2.2.2.1); obtain rfl : V = M := (HRN.out.2.2.2.2.2 M hper hsort).symm; rw [HLL.out]; have HMM := Lib.hid hmr; have HM := Lib.hid (HM.out.below' hb); have HZ := Lib.hid (HZ.out.below' hb); have hn := kept_box HNT.out hb; have HNT := Lib.hid hn; have n0 := cell_whole hn 0; have n1 := cell_whole hn 1; have n2 := cell_whole hn 2; have HB := Lib.hid (HB.out.trans (hb.mono HB.out.size)); clear hn; clear hb hmr hper hsort hcase)
    | (go_at_call 9; refine (fmost_yes (N : Int) hold za zl zc Z (i : Int) (j : Int) (H : Int) _ _ _ HZ.out HZL.out HZ4.out HX1.out).mono ?_; rintro e wn ⟨k2, rfl, hm2, hb⟩; obtain rfl : k = k2 := isMost_unique HX1.out.wide.lt (by omega) HK.out hm2; have HM := Lib.hid (HM.out.below' hb); have HMM := Lib.hid (HMM.out.below' hb); have HZ := Lib.hid (HZ.out.below' hb); have hn := kept_box HNT.out hb; have HNT := Lib.hid hn; have n0 := cell_whole hn 0; have n1 := cell_whole hn 1; have n2 := cell_whole hn 2; have HB := Lib.hid (HB.out.trans (hb.mono HB.out.size)); clear hn; clear hm2 hb)
    | (go_at_call 15; refine (samemoves_any la ma ll ll lc mc V _ HLL.out HLL.out HM.out HMM.out (by have := HRN.out.2.2.2.1; omega)).mono ?_; rintro e wx ⟨rfl, nd, rfl⟩; have hb := below_drewN (Below.refl wn.heap.size wn) nd; have HB := Lib.hid (HB.out.trans (hb.mono HB.out.size)); clear hb))
  go_ret
  exact ⟨by simp, HB.out⟩
end Go.Proofs.Ytlkbohpnlbfopaa
