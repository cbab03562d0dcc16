/- The walk of statement TableGroups. -/
import Derived.Test.YtieomjkiabfhcaaTRgroups
namespace Go.Proofs.Ytieomjkiabfhcaa
open Go.RowKit
set_option linter.unusedVariables false

theorem rgroups_nil (ao : Option Addr) (cap : Nat) (w : World) : Calls Try.prog 17 #[.slice ao 0 cap] w (GroupsRes [] w) := by
  go_enter Try.func17, Try.ntmps17
  go_wp2
  refine wp_loop_rounds 1 ?_
  rw [rounds_succ]
  go_wp2
  go_ret
  exact ⟨none, 0, rfl, fun i hi => absurd hi (by simp), Below.refl _ _⟩
theorem rgroups_any (ao : Option Addr) (cap : Nat) (Z : List ArcT) (w : World) (h : Row encA 4 w ao Z) (hn : Z.length ≤ 200) : Calls Try.prog 17 #[.slice ao Z.length cap] w (GroupsRes (grps (keysOf Z)) w) := by
  cases Z with
  | nil => exact rgroups_nil ao cap w
  | cons z Z =>
    obtain ⟨b, o, rfl, _⟩ := h 0 (by simp)
    exact rgroups_some _ cap _ w h hn
theorem grow_drewN {w : World} {n : Nat} {ga : Option Addr} {G : List (List Nat)} (h : GRow w ga G) : GRow (w.drewN n) ga G := h
set_option maxRecDepth 100000 in
set_option maxHeartbeats 4000000 in
theorem groups_law (w : World) (ao : Option Addr) (len cap : Nat) (Z : List ArcT) (hl : Z.length = len) (hm : len ≤ maxLen) (hr : Row encA 4 w ao Z) (hk : OkA Z) :
    Calls Try.prog 4 #[.slice ao len cap] w fun e w' => e = .returned (.bool true) ∧ Below w.heap.size w w' := by
  unfold maxLen at hm
  subst hl
  have HR := Lib.hid hr
  have HK := Lib.hid hk
  clear hr hk
  by_cases h : 200 < Z.length
  · go_enter Try.func4, Try.ntmps4
    go_wp2_with (go_at_call 13; refine (awake_any _).mono ?_; rintro e w1 ⟨rfl, hb1⟩)
    go_ret
    exact ⟨rfl, hb1⟩
  · have hs : Z.length ≤ 200 := by omega
    have hgl : (grps (keysOf Z)).length ≤ 200 := by rw [grps_len]; have := firsts_len (keysOf Z); simp [keysOf] at this; unfold keysOf; omega
    have HGL : Hid (∀ g ∈ grps (keysOf Z), g.length ≤ 200) := Lib.hid (fun g hg => by have := group_len hg; simp [keysOf] at this; omega)
    go_enter Try.func4, Try.ntmps4
    go_wp2_with fail
    refine (groups_any ao cap Z _ HR.out HK.out hs).mono ?_
    rintro e w1 ⟨ga, gc, rfl, hg1, hb1⟩
    have HR1 := Lib.hid (HR.out.below' hb1)
    have HG1 := Lib.hid hg1
    have HB1 := Lib.hid hb1
    clear hg1 hb1 HR
    go_wp2_with fail
    refine (rgroups_any ao cap Z _ HR1.out hs).mono ?_
    rintro e w2 ⟨ha, hc, rfl, hg2, hb2⟩
    have HG2 := Lib.hid (HG1.out.below' hb2)
    have HH2 := Lib.hid hg2
    have HB2 := Lib.hid (HB1.out.trans (hb2.mono HB1.out.size))
    clear hg2 hb2 HG1 HB1 HR1
    generalize grps (keysOf Z) = G at *
    go_wp2_with fail
    go_loopw [5] (fun si wr => ∃ (i n : Nat), i ≤ G.length ∧ Hid (wr = w2.drewN n) ∧ si = .int .i64 (i : Int)) (fun si _ => G.length - (intOf si).toNat)
    case atStart => exact ⟨0, 0, by omega, Lib.hid rfl, rfl⟩
    case round =>
      obtain ⟨i, n, hi, HW, rfl⟩ := hrel
      by_cases hlt : i < G.length
      · have hli : (i : Int) < (G.length : Int) := by omega
        obtain ⟨b1, o1, a1, c1, e, _, p1, r1⟩ := HG2.out i hlt
        cases e
        obtain ⟨b2, o2, a2, c2, e, _, p2, r2⟩ := HH2.out i hlt
        cases e
        have hgi := HGL.out G[i] (List.getElem_mem hlt)
        generalize G[i] = g at *
        have p1' := cell_drew HW.out p1
        have p2' := cell_drew HW.out p2
        have R1 : Hid (∀ q, Row encI 1 (wr.drewN q) a1 (natI g)) := Lib.hid (fun q => by rw [HW.out]; exact r1)
        have R2 : Hid (∀ q, Row encI 1 (wr.drewN q) a2 (natI g)) := Lib.hid (fun q => by rw [HW.out]; exact r2)
        clear p1 p2 r1 r2
        go_wp2_with fail
        go_quiet ((go_at_call 18; refine Calls.quiet_of (sameints_any a1 a2 _ _ c1 c2 (natI g) _ (natI_len g) (natI_len g) (R1.out _) (R2.out _) (by rw [natI_len]; omega))))
        go_wp2
        go_roundw
        case rel => exact ⟨i + 1, n + nq, by omega, Lib.hid (by rw [HW.out, World.drewN_drewN]), by go_num⟩
        case measure => simp [intOf]; omega
      · have hli : (G.length : Int) ≤ (i : Int) := by omega
        have HBr : Hid (Below w.heap.size w wr) := Lib.hid (by rw [HW.out]; exact ⟨HB2.out.os, HB2.out.tape, HB2.out.output, HB2.out.size, HB2.out.block⟩)
        go_wp2_with (go_at_call 13; refine (awake_any _).mono ?_; rintro e w3 ⟨rfl, hb3⟩; have HB3 := Lib.hid (HBr.out.trans (hb3.mono HBr.out.size)); clear hb3)
        go_ret
        exact ⟨rfl, HB3.out⟩
end Go.Proofs.Ytieomjkiabfhcaa
