/- TimeflowHolds. -/
import Derived.Test.YtlkbohpnlbfopaaCO
import Derived.Test.YtlkbohpnlbfopaaCG
namespace Go.Proofs.Ytlkbohpnlbfopaa
open Go.RowKit
set_option linter.unusedVariables false
set_option maxRecDepth 100000 in
set_option maxHeartbeats 16000000 in
theorem fholds_law (nn s t sp : Int) (hold : Bool) (ba : Option Addr) (bc : Nat) (B : List BitT) (w : World) (hr : Row encBit 4 w ba B) (hB : ∀ x ∈ B, BitOk x) (hbl : B.length ≤ maxLen) (hn : ByteB nn) (hs : ByteB s) (ht : ByteB t) (hp : ByteB sp) :
    Calls Try.prog 6 #[.agg #[.int .u8 nn, .bool hold, .slice ba B.length bc, .int .u8 s, .int .u8 t, .int .u8 sp]] w fun e w' => e = .returned (.bool true) ∧ Below w.heap.size w w' := by
  have hb00 := (Below.refl _ w).alloc (Nat.le_refl _) (.cells #[.int .u8 nn, .bool hold, .slice ba B.length bc, .int .u8 s, .int .u8 t, .int .u8 sp] 39)
  have HB := Lib.hid hb00
  have HX := Lib.hid (heap_alloc_new w (.cells #[.int .u8 nn, .bool hold, .slice ba B.length bc, .int .u8 s, .int .u8 t, .int .u8 sp] 39))
  have HR := Lib.hid (hr.below' hb00)
  have x0 := cell_whole HX.out 0
  have x1 := cell_whole HX.out 1
  have x2 := cell_whole HX.out 2
  have x3 := cell_whole HX.out 3
  have x4 := cell_whole HX.out 4
  have x5 := cell_whole HX.out 5
  have HBB := Lib.hid hB
  have HNN := Lib.hid (And.intro hn (And.intro hs (And.intro ht hp)))
  have HBL := Lib.hid hbl
  obtain ⟨N, i, j, H, Z, e1, e2, e3, e4, e5, hF0⟩ := sm_facts 10 nn s t sp B
  have E1 := Lib.hid e1
  have E2 := Lib.hid e2
  have E3 := Lib.hid e3
  have E4 := Lib.hid e4
  have E5 := Lib.hid e5
  have HS := Lib.hid hF0
  clear hr hb00 hB hbl hn hs ht hp e1 e2 e3 e4 e5 hF0
  obtain ⟨zl, hzl⟩ : ∃ zl, Z.length = zl := ⟨_, rfl⟩
  have HZL := Lib.hid hzl
  clear hzl
  have HX1 := Lib.hid (HS.out.net16 (K := H) (by omega) (by have := HS.out.hor; omega) true).1
  have HX2 := Lib.hid (HS.out.net16 (K := H) (by omega) (by have := HS.out.hor; omega) false).1
  have HZ4 : Hid (Z.length ≤ 4398046511104) := Lib.hid (by have := HS.out.arcs; omega)
  go_enter Try.func6, Try.ntmps6
  go_wp2_with (first
    | (go_at_call 7; refine (fawake_any _).mono ?_; rintro e wn ⟨rfl, hb⟩; have HR := Lib.hid (HR.out.below' hb); have hn := kept_box HX.out hb; have HX := Lib.hid hn; have x0 := cell_whole hn 0; have x1 := cell_whole hn 1; have x2 := cell_whole hn 2; have x3 := cell_whole hn 3; have x4 := cell_whole hn 4; have x5 := cell_whole hn 5; have HB := Lib.hid (HB.out.trans (hb.mono HB.out.size)); clear hb hn)
    | (go_at_call 12; refine (read12_any 10 nn s t sp hold ba bc B _ HR.out HBB.out HBL.out (by omega) HNN.out.1 HNN.out.2.1 HNN.out.2.2.1 HNN.out.2.2.2).mono ?_; rw [E5.out, E1.out, E2.out, E3.out, E4.out]; rintro e wr1 ⟨za, zc, rfl, hz, hb⟩; rw [HZL.out]; clear x0 x1 x2 x3 x4 x5; have hal := (Below.refl _ wr1).alloc (Nat.le_refl _) (.cells #[.int .i64 (N : Int), .bool true, .slice za zl zc] 24); have hn := heap_alloc_new wr1 (.cells #[.int .i64 (N : Int), .bool true, .slice za zl zc] 24); have HNT := Lib.hid hn; have n0 := cell_whole hn 0; have n1 := cell_whole hn 1; have n2 := cell_whole hn 2; have HZ0 := Lib.hid hz; have HBR := Lib.hid (HB.out.trans (hb.mono HB.out.size)); have HGS : Hid (w.heap.size ≤ wr1.heap.size) := Lib.hid (by have h1 := HB.out.size; have h2 := hb.size; omega); have HQ := Lib.hid hal; have HZ := Lib.hid (HZ0.out.below' HQ.out); have HB := Lib.hid (HBR.out.trans (HQ.out.mono HGS.out)); clear hz hb hal HX HR hn))
  refine (fmost_yes (N : Int) true za zl zc Z (i : Int) (j : Int) (H : Int) _ _ _ HZ.out HZL.out HZ4.out HX1.out).mono ?_
  rintro e wn ⟨k, rfl, hk, hb⟩
  have HK := Lib.hid hk
  have HQ := Lib.hid (HQ.out.trans (hb.mono HQ.out.size))
  have hn := kept_box HNT.out hb
  have m0 := cell_whole hn 0
  have m1 := cell_whole hn 1
  have m2 := cell_whole hn 2
  have f1 := frozen_whole hn 1
  have hs1 := set_whole hn 1 (.bool false)
  have HNT := Lib.hid hs1
  have n0 := cell_whole hs1 0
  have n1 := cell_whole hs1 1
  have n2 := cell_whole hs1 2
  have HQ := Lib.hid (below_set HQ.out (g := wr1.heap.size) (Nat.le_refl _) (.bool false) (j := 1))
  clear hs1
  have HZ := Lib.hid (HZ0.out.below' HQ.out)
  have HB := Lib.hid (HBR.out.trans (HQ.out.mono HGS.out))
  clear hb hk hn
  go_wp2_with (fail)
  refine (fmost_yes (N : Int) false za zl zc Z (i : Int) (j : Int) (H : Int) _ _ _ HZ.out HZL.out HZ4.out HX2.out).mono ?_
  rintro e wm ⟨m, rfl, hm, hb⟩
  obtain rfl : k = m := HS.out.hold16 (by omega) (K := H) (by have := HS.out.hor; omega) HK.out hm
  have q1 : (k == k) = true := by simp
  have HB := Lib.hid (HB.out.trans (hb.mono HB.out.size))
  clear hb hm
  go_wp2_with (fail)
  go_ret
  exact ⟨by simp, HB.out⟩
end Go.Proofs.Ytlkbohpnlbfopaa
