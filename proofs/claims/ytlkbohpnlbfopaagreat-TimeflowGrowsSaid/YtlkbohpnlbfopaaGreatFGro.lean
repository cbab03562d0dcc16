/- TimeflowGrows. -/
import Derived.Test.YtlkbohpnlbfopaaGreatFGrw
import Derived.Test.YtlkbohpnlbfopaaGreatCO
import Derived.Test.YtlkbohpnlbfopaaGreatCG
namespace Go.Proofs.YtlkbohpnlbfopaaGreat
open Go.RowKit
set_option linter.unusedVariables false
set_option maxRecDepth 100000 in
set_option maxHeartbeats 16000000 in
theorem fgrows_law (nn s t sp : Int) (hold : Bool) (ba : Option Addr) (bc : Nat) (B : List BitT) (w : World) (hr : Row encBit 4 w ba B) (hB : ∀ x ∈ B, BitOk x) (hbl : B.length ≤ maxLen) (hn : ByteB nn) (hs : ByteB s) (ht : ByteB t) (hp : ByteB sp) :
    Calls Tryz.prog 5 #[.agg #[.int .u8 nn, .bool hold, .slice ba B.length bc, .int .u8 s, .int .u8 t, .int .u8 sp]] w fun e w' => e = .returned (.bool true) ∧ Below w.heap.size w w' := by
  have hb00 := (Below.refl _ w).alloc (Nat.le_refl _) (.cells #[.int .u8 nn, .bool hold, .slice ba B.length bc, .int .u8 s, .int .u8 t, .int .u8 sp] 24)
  have HB := Lib.hid hb00
  have HX := Lib.hid (heap_alloc_new w (.cells #[.int .u8 nn, .bool hold, .slice ba B.length bc, .int .u8 s, .int .u8 t, .int .u8 sp] 24))
  have HR := Lib.hid (hr.below' hb00)
  have x0 := cell_whole HX.out 0
  have x1 := cell_whole HX.out 1
  have x2 := cell_whole HX.out 2
  have x3 := cell_whole HX.out 3
  have x4 := cell_whole HX.out 4
  have x5 := cell_whole HX.out 5
  have HBB := Lib.hid hB
  have HNN := Lib.hid (And.intro hn (And.intro hs (And.intro ht hp)))
  have HBL := Lib.hid hbl
  obtain ⟨N, i, j, H, Z, e1, e2, e3, e4, e5, hF0⟩ := sm_facts 8 nn s t sp B
  have E1 := Lib.hid e1
  have E2 := Lib.hid e2
  have E3 := Lib.hid e3
  have E4 := Lib.hid e4
  have E5 := Lib.hid e5
  have HS := Lib.hid hF0
  clear hr hb00 hB hbl hn hs ht hp e1 e2 e3 e4 e5 hF0
  obtain ⟨zl, hzl⟩ : ∃ zl, Z.length = zl := ⟨_, rfl⟩
  have HZL := Lib.hid hzl
  clear hzl
  have hH7 := HS.out.hor
  have HX1 := Lib.hid (HS.out.net16 (K := H) (by omega) (by omega) hold).1
  have HX2 := Lib.hid (HS.out.net16 (K := H + 1) (by omega) (by omega) hold).1
  have HX3 := Lib.hid (HS.out.net16 (K := H + 2) (by omega) (by omega) hold).1
  have HZ4 : Hid (Z.length ≤ 4398046511104) := Lib.hid (by have := HS.out.arcs; omega)
  have HZM : Hid (Z.length ≤ maxLen) := Lib.hid (by have := HS.out.arcs; unfold maxLen; omega)
  go_enter Tryz.func5, Tryz.ntmps5
  go_wp2_with (first
    | (go_at_call 9; refine (fawake_any _).mono ?_; rintro e wn ⟨rfl, hb⟩; have HR := Lib.hid (HR.out.below' hb); have hn := kept_box HX.out hb; have HX := Lib.hid hn; have x0 := cell_whole hn 0; have x1 := cell_whole hn 1; have x2 := cell_whole hn 2; have x3 := cell_whole hn 3; have x4 := cell_whole hn 4; have x5 := cell_whole hn 5; have HB := Lib.hid (HB.out.trans (hb.mono HB.out.size)); clear hb hn)
    | (go_at_call 6; refine (read12_any 8 nn s t sp hold ba bc B _ HR.out HBB.out HBL.out (by omega) HNN.out.1 HNN.out.2.1 HNN.out.2.2.1 HNN.out.2.2.2).mono ?_; rw [E5.out, E1.out, E2.out, E3.out, E4.out]; rintro e wr1 ⟨za, zc, rfl, hz, hb⟩; rw [HZL.out]; have hal := (Below.refl _ wr1).alloc (Nat.le_refl _) (.cells #[.int .i64 (N : Int), .bool hold, .slice za zl zc] 27); have HNT := Lib.hid (heap_alloc_new wr1 (.cells #[.int .i64 (N : Int), .bool hold, .slice za zl zc] 27)); have HZ := Lib.hid (hz.below' hal); have hb := hb.trans (hal.mono hb.size); have HB := Lib.hid (HB.out.trans (hb.mono HB.out.size)); have n0 := cell_whole HNT.out 0; have n1 := cell_whole HNT.out 1; have n2 := cell_whole HNT.out 2; clear x0 x1 x2 x3 x4 x5 hz hb hal HX HR))
  have hc := fmost_yes (N : Int) hold za zl zc Z (i : Int) (j : Int) ((H : Nat) : Int) _ _ _ HZ.out HZL.out HZ4.out HX1.out
  refine hc.mono ?_
  rintro e wn ⟨k0, rfl, hm, hb⟩
  have HMk0 := Lib.hid hm
  obtain ⟨lk0, uk0⟩ := HS.out.most_bd16 (by omega) (K := H) (by omega) hm
  have HZ := Lib.hid (HZ.out.below' hb)
  have hn := kept_box HNT.out hb
  have HNT := Lib.hid hn
  have n0 := cell_whole hn 0
  have n1 := cell_whole hn 1
  have n2 := cell_whole hn 2
  have HB := Lib.hid (HB.out.trans (hb.mono HB.out.size))
  clear hn
  clear hm hb hc
  go_wp2_with (fail)
  have hc := fmost_yes (N : Int) hold za zl zc Z (i : Int) (j : Int) ((H + 1 : Nat) : Int) _ _ _ HZ.out HZL.out HZ4.out HX2.out
  rw [show ((H + 1 : Nat) : Int) = (H : Int) + 1 from by omega] at hc
  refine hc.mono ?_
  rintro e wm ⟨k1, rfl, hm, hb⟩
  have HMk1 := Lib.hid hm
  obtain ⟨lk1, uk1⟩ := HS.out.most_bd16 (by omega) (K := H + 1) (by omega) hm
  have HZ := Lib.hid (HZ.out.below' hb)
  have hn := kept_box HNT.out hb
  have HNT := Lib.hid hn
  have n0 := cell_whole hn 0
  have n1 := cell_whole hn 1
  have n2 := cell_whole hn 2
  have HB := Lib.hid (HB.out.trans (hb.mono HB.out.size))
  clear hn
  clear hm hb hc
  go_wp2_with (fail)
  have hc := fmost_yes (N : Int) hold za zl zc Z (i : Int) (j : Int) ((H + 2 : Nat) : Int) _ _ _ HZ.out HZL.out HZ4.out HX3.out
  rw [show ((H + 2 : Nat) : Int) = (H : Int) + 2 from by omega] at hc
  refine hc.mono ?_
  rintro e wo ⟨k2, rfl, hm, hb⟩
  have HMk2 := Lib.hid hm
  obtain ⟨lk2, uk2⟩ := HS.out.most_bd16 (by omega) (K := H + 2) (by omega) hm
  have HZ := Lib.hid (HZ.out.below' hb)
  have hn := kept_box HNT.out hb
  have HNT := Lib.hid hn
  have n0 := cell_whole hn 0
  have n1 := cell_whole hn 1
  have n2 := cell_whole hn 2
  have HB := Lib.hid (HB.out.trans (hb.mono HB.out.size))
  clear hn
  clear hm hb hc
  obtain ⟨g1, g2⟩ := HS.out.grows16 (by omega) HMk0.out HMk1.out HMk2.out
  have HG1 : Hid (k0 ≤ k1) := Lib.hid g1
  have q1 : decide (k0 ≤ k1) = true := decide_eq_true g1
  have q2 : decide (k1 - k0 ≤ k2 - k1) = true := decide_eq_true g2
  have q3 : (k0 == k0) = true := by simp
  go_wp2_with (go_at_call 13; refine (rmost12_G hold za zc zl Z N i j (H : Int) _ HZ.out HZL.out HZM.out (HS.out.ask (by omega))).mono ?_; rintro e wp ⟨m, rfl, hbe, hb⟩; obtain rfl : k0 = m := HS.out.best16 (by omega) (K := H) (by omega) hbe HMk0.out; have HB := Lib.hid (HB.out.trans (hb.mono HB.out.size)); clear hbe hb)
  go_ret
  exact ⟨by simp, HB.out⟩
end Go.Proofs.YtlkbohpnlbfopaaGreat
