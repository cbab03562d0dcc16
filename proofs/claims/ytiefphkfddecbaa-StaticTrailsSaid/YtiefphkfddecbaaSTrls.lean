/- StaticTrails: what is pushed along steps one behind the other changes the balances of their ends alone; pushed back it is as it was. -/
import Derived.Test.YtiefphkfddecbaaSTrl
import Derived.Test.YtiefphkfddecbaaSSums
import Derived.Deep.AppendLies
import Derived.Deep.RegionLaw
namespace Go.Proofs.Ytiefphkfddecbaa
open Go.RowKit
set_option linter.unusedVariables false

theorem and_seven (p : Int) : ∃ r : Nat, r < 8 ∧ bits .and .i64 p 7 = (r : Int) := by
  have h := i64_and_mask p 3 (by omega)
  have b1 := Int.emod_nonneg p (show ((2 ^ 3 : Nat) : Int) ≠ 0 by omega)
  have b2 := Int.emod_lt_of_pos p (show (0 : Int) < ((2 ^ 3 : Nat) : Int) by omega)
  refine ⟨(p % ((2 ^ 3 : Nat) : Int)).toNat, by omega, ?_⟩
  have e : bits .and .i64 p 7 = p % ((2 ^ 3 : Nat) : Int) := h
  rw [e]; omega
/-- The steps from place m on, the other way, the last one first. -/
def backS (L : List StepT) (m : Nat) : List StepT := ((L.drop m).map flipS).reverse
theorem backS_end (L : List StepT) : backS L L.length = [] := by simp [backS]
theorem backS_step {L : List StepT} {p : Nat} (h : p < L.length) : backS L p = backS L (p + 1) ++ [flipS L[p]] := by
  unfold backS
  rw [List.drop_eq_getElem_cons h, List.map_cons, List.reverse_cons]
theorem backS_len (L : List StepT) (m : Nat) : (backS L m).length ≤ L.length := by simp [backS]
theorem backS_zero (L : List StepT) : backS L 0 = (L.map flipS).reverse := by simp [backS]
theorem trail_arcs {Z : List ArcT} : ∀ {L : List StepT} {u v : Nat}, Trail Z u L v → ∀ x ∈ L, isArc Z x
  | [], _, _, _, x, hx => by cases hx
  | y :: r, u, v, h, x, hx => by
    rcases List.mem_cons.1 hx with rfl | hx
    · exact h.2.1
    · exact trail_arcs h.2.2 x hx
section
variable (n : Int) (b : Bool) (ao fo : Option Addr) (len cap fl fc : Nat) (Z : List ArcT) (F : List Int)
set_option maxRecDepth 100000 in
set_option maxHeartbeats 8000000 in
theorem trails_law (s : Int) (po : Option Addr) (pl pc : Nat) (P : List Int) (k : Int) (w : World) (hl : Z.length = len) (hm : len ≤ maxLen) (hr : Row encA 4 w ao Z) (hl2 : F.length = fl) (hm2 : fl ≤ maxLen) (hf : Lst encI w fo F) (hl3 : P.length = pl) (hm3 : pl ≤ maxLen) (hp : Lst encI w po P) :
    Calls Try.prog 7 #[.agg #[.int .i64 n, .bool b, .slice ao len cap], .slice fo fl fc, .int .i64 s, .slice po pl pc, .int .i64 k] w fun e w' => e = .returned (.bool true) ∧ Below w.heap.size w w' := by
  subst hl
  subst hl2
  subst hl3
  have hb00 := (Below.refl _ w).alloc (Nat.le_refl _) (.cells #[.int .i64 n, .bool b, .slice ao Z.length cap] 24)
  have HB := Lib.hid hb00
  have HN := Lib.hid (heap_alloc_new w (.cells #[.int .i64 n, .bool b, .slice ao Z.length cap] 24))
  have HR := Lib.hid (hr.below' hb00)
  have HF := Lib.hid (hf.below hb00)
  have HP := Lib.hid (hp.below hb00)
  have HM := Lib.hid hm
  have HM2 := Lib.hid hm2
  have HM3 := Lib.hid hm3
  obtain ⟨A, hA⟩ : ∃ k, balsL n Z F = k := ⟨_, rfl⟩
  have HA := Lib.hid hA
  clear hr hf hp hm hm2 hm3 hb00
  by_cases h1 : flowE n Z F = 0
  · have HE := Lib.hid h1
    obtain ⟨hR, hF, hzl, hfl, hn1, hn2⟩ := flow_facts (b := b) h1
    by_cases hs0 : s < 0
    · clear h1 hA hR hF hfl
      go_enter Try.func7, Try.ntmps7
      go_wp2_with (first
        | (go_at_call 12; refine (sawake_any _).mono ?_; rintro e w1 ⟨rfl, hb1⟩; have hn1 := kept_box HN.out hb1; have HR := Lib.hid (HR.out.below' hb1); have HF := Lib.hid (HF.out.below hb1); have HB := Lib.hid (HB.out.trans (hb1.mono HB.out.size)); have x1 := cell_whole hn1 0; have y1 := cell_whole hn1 1; have z1 := cell_whole hn1 2; clear hb1 hn1)
        | (go_at_call 8; refine (balance_is n b ao fo cap fc Z F 0 A _ HR.out HF.out HM.out HM2.out HE.out HA.out).mono ?_; rintro e w2 ⟨a1, c1, rfl, hl1, hb1⟩; have HB := Lib.hid (HB.out.trans (hb1.mono HB.out.size)); clear hb1 hl1 x1 y1 z1))
      go_ret
      exact ⟨rfl, HB.out⟩
    · by_cases hsn : n ≤ s
      · clear h1 hA hR hF hfl
        go_enter Try.func7, Try.ntmps7
        go_wp2_with (first
          | (go_at_call 12; refine (sawake_any _).mono ?_; rintro e w1 ⟨rfl, hb1⟩; have hn1 := kept_box HN.out hb1; have HN := Lib.hid hn1; have HR := Lib.hid (HR.out.below' hb1); have HF := Lib.hid (HF.out.below hb1); have HB := Lib.hid (HB.out.trans (hb1.mono HB.out.size)); have x1 := cell_whole hn1 0; have y1 := cell_whole hn1 1; have z1 := cell_whole hn1 2; clear hb1 hn1)
          | (go_at_call 8; refine (balance_is n b ao fo cap fc Z F 0 A _ HR.out HF.out HM.out HM2.out HE.out HA.out).mono ?_; rintro e w2 ⟨a1, c1, rfl, hl1, hb1⟩; have hn1 := kept_box HN.out hb1; have x2 := cell_whole hn1 0; have HB := Lib.hid (HB.out.trans (hb1.mono HB.out.size)); clear hb1 hl1 x1 y1 z1 hn1))
        go_ret
        exact ⟨rfl, HB.out⟩
      · obtain ⟨u, rfl⟩ : ∃ u : Nat, s = (u : Int) := ⟨s.toNat, by omega⟩
        obtain ⟨N, rfl⟩ : ∃ N : Nat, n = (N : Int) := ⟨n.toNat, by omega⟩
        have huN : (u : Int) < (N : Int) := by omega
        have huN2 : u < N := by omega
        obtain ⟨k8, hk8, hand⟩ := and_seven k
        obtain ⟨hAN, hAat⟩ := bals_at h1 hA rfl
        have HAN := Lib.hid hAN
        have HAA := Lib.hid hAat
        have HRT := Lib.hid hR
        have HFL := Lib.hid hF
        have HCK := Lib.hid (flowE_ok h1).1
        have HL := Lib.hid hfl
        have q0 : ¬ (N : Int) ≤ (u : Int) := by omega
        have q1 : decide (N ≤ u) = false := decide_eq_false (by omega)
        have q2 : decide ((u : Int) < 0) = false := decide_eq_false (by omega)
        have q3 : ¬ (u : Int) < 0 := by omega
        clear h1 hA hR hF hfl hs0 hsn hAN hAat
        go_enter Try.func7, Try.ntmps7
        go_wp2_with (first
          | (go_at_call 12; refine (sawake_any _).mono ?_; rintro e w1 ⟨rfl, hb1⟩; have hn1 := kept_box HN.out hb1; have HN := Lib.hid hn1; have HR := Lib.hid (HR.out.below' hb1); have HF := Lib.hid (HF.out.below hb1); have HP := Lib.hid (HP.out.below hb1); have HB := Lib.hid (HB.out.trans (hb1.mono HB.out.size)); have x1 := cell_whole hn1 0; have y1 := cell_whole hn1 1; have z1 := cell_whole hn1 2; clear hb1 hn1)
          | (go_at_call 8; refine (balance_is (N : Int) b ao fo cap fc Z F 0 A _ HR.out HF.out HM.out HM2.out HE.out HA.out).mono ?_; rintro e w2 ⟨a1, c1, rfl, hl1, hb1⟩; have HLA := Lib.hid hl1; have hn1 := kept_box HN.out hb1; have HN := Lib.hid hn1; have HR := Lib.hid (HR.out.below' hb1); have HF := Lib.hid (HF.out.below hb1); have HP := Lib.hid (HP.out.below hb1); have x2 := cell_whole hn1 0; have y2 := cell_whole hn1 1; have z2 := cell_whole hn1 2; have HB := Lib.hid (HB.out.trans (hb1.mono HB.out.size)); clear hb1 hl1 x1 y1 z1 hn1)
          | (go_at_call 22; refine (trail_any (N : Int) b ao fo po cap fc pc Z F P u _ HR.out HF.out HP.out HM3.out HE.out).mono ?_; rintro e w3 ⟨L, v, la, lc, rfl, hlr, hll, htr, hb1⟩; have HLA := Lib.hid (HLA.out.below hb1); have HLR := Lib.hid hlr; have HT := Lib.hid htr; have hn1 := kept_box HN.out hb1; have HN := Lib.hid hn1; have HR := Lib.hid (HR.out.below' hb1); have HF := Lib.hid (HF.out.below hb1); have x3 := cell_whole hn1 0; have y3 := cell_whole hn1 1; have z3 := cell_whole hn1 2; have HB := Lib.hid (HB.out.trans (hb1.mono HB.out.size)); clear hb1 hlr htr x2 y2 z2 hn1))
        have HPR : Hid (pushR (N : Int) Z F L (k8 : Int) = pushL Z (k8 : Int) F L) := Lib.hid (pushR_yes HE.out (by omega))
        by_cases hpe : (pushL Z (k8 : Int) F L).1 = 0
        · obtain ⟨G, hG⟩ : ∃ G, pushL Z (k8 : Int) F L = (0, G) := ⟨(pushL Z (k8 : Int) F L).2, by rw [← hpe]⟩
          have HG := Lib.hid hG
          have hGF := pushL_flow (Z := Z) (k := (k8 : Int)) (by omega) L F HFL.out hpe
          rw [hG] at hGF
          have HGF := Lib.hid hGF
          have HGE := Lib.hid (flowE_mk HCK.out (flow_flowB hGF))
          have hgl : G.length = Z.length := hGF.1
          have HGL := Lib.hid hgl
          obtain ⟨B, hBB⟩ : ∃ B, balsL (N : Int) Z G = B := ⟨_, rfl⟩
          have HBB := Lib.hid hBB
          obtain ⟨hBN, hBat⟩ := bals_at HGE.out hBB rfl
          have HBN := Lib.hid hBN
          have HBA := Lib.hid hBat
          have htr := (push_trail L F u v HL.out HT.out hpe).2
          rw [hG] at htr
          have HTR := Lib.hid htr
          have hun := push_undo (Z := Z) (k := (k8 : Int)) (by omega) L F HFL.out hpe
          rw [hG, ← backS_zero] at hun
          have HUN := Lib.hid hun
          have HMG : Hid (G.length ≤ maxLen) := Lib.hid (by rw [hgl]; exact HM.out)
          have HAB : Hid (∀ x, -209715200 ≤ bal Z F x ∧ bal Z F x ≤ 209715200) := Lib.hid (fun x => bal_bd HRT.out HFL.out x (Nat.le_refl _))
          have g1 : ((B.length : Int) != (N : Int)) = false := by rw [hBN]; simp
          have g2 : ((A.length : Int) != (N : Int)) = false := by rw [HAN.out]; simp
          have g3 : (B.length != N) = false := by rw [hBN]; simp
          have g4 : (A.length != N) = false := by rw [HAN.out]; simp
          have hBl : B.length ≤ 50 := by omega
          have hAl : A.length ≤ 50 := by rw [HAN.out]; omega
          clear hpe hG hGF hgl hBB hBN hBat htr hun
          refine (push7_any (N : Int) b ao fo la cap fc lc Z F L (k8 : Int) _ HR.out HF.out HLR.out HM.out HM2.out (by omega)).mono ?_
          rintro e w4 ⟨ga, gc, rfl, hl4, hb4⟩
          rw [HPR.out, HG.out] at hl4 ⊢
          have HLG : Hid (Lst encI w4 ga G) := Lib.hid hl4
          have HLA := Lib.hid (HLA.out.below hb4)
          have HLR := Lib.hid (HLR.out.below' hb4)
          have hn4 := kept_box HN.out hb4
          have HN := Lib.hid hn4
          have HR := Lib.hid (HR.out.below' hb4)
          have HF := Lib.hid (HF.out.below hb4)
          have x4 := cell_whole hn4 0
          have y4 := cell_whole hn4 1
          have z4 := cell_whole hn4 2
          have HB := Lib.hid (HB.out.trans (hb4.mono HB.out.size))
          clear hl4 hb4 hn4 x3 y3 z3
          go_wp2_with (first
            | (go_at_call 8; refine (balance_is (N : Int) b ao ga cap gc Z G 0 B _ HR.out HLG.out HM.out HMG.out HGE.out HBB.out).mono ?_; rintro e w5 ⟨ba, bc, rfl, hl5, hb5⟩; have HLB := Lib.hid hl5; have HLA := Lib.hid (HLA.out.below hb5); have HLR := Lib.hid (HLR.out.below' hb5); have HLG := Lib.hid (HLG.out.below hb5); have hn5 := kept_box HN.out hb5; have HN := Lib.hid hn5; have HR := Lib.hid (HR.out.below' hb5); have HF := Lib.hid (HF.out.below hb5); have x5 := cell_whole hn5 0; have y5 := cell_whole hn5 1; have z5 := cell_whole hn5 2; have HB := Lib.hid (HB.out.trans (hb5.mono HB.out.size)); clear hl5 hb5 hn5 x4 y4 z4))
          have hx5 := block_lt_of_cell x5
          simp only at hx5
          go_loopw [20] (fun iv wr => ∃ x : Nat, x ≤ N ∧ iv = .int .i64 (x : Int) ∧ Hid (Below w5.heap.size w5 wr)) (fun iv _ => N - (intOf iv).toNat)
          case atStart => exact ⟨0, Nat.zero_le _, rfl, Lib.hid (Below.refl _ _)⟩
          case round =>
            obtain ⟨x, hx, rfl, HBW⟩ := hrel
            have d0 := cell_below' HBW.out x5 hx5
            by_cases hlt : x < N
            · have hli : (x : Int) < (N : Int) := by omega
              obtain ⟨ab, ax, e, hab, a0⟩ := lst_cell (HLA.out.below HBW.out) (HAA.out x hlt)
              cases e
              obtain ⟨bb, bx, e, hbb, b0⟩ := lst_cell (HLB.out.below HBW.out) (HBA.out x hlt)
              cases e
              unfold encI at a0 b0
              have hbd := HAB.out x
              rw [HTR.out x] at b0
              have i1 : (x : Int) < (A.length : Int) := by rw [HAN.out]; exact hli
              have i2 : (x : Int) < (B.length : Int) := by rw [HBN.out]; exact hli
              have i3 : x < A.length := by omega
              have i4 : x < B.length := by omega
              generalize bal Z F x = p at *
              have p1 := hbd.1
              have p2 := hbd.2
              clear hbd
              by_cases hu : x = u <;> by_cases hv : x = v
              · have e1 : ((x : Int) == (u : Int)) = true := by simp; omega
                have e2 : (x == u) = true := by simp; omega
                have e3 : ((x : Int) == (v : Int)) = true := by simp; omega
                have e4 : (x == v) = true := by simp; omega
                rw [if_pos hu.symm, if_pos hv.symm, show p + (k8 : Int) - (k8 : Int) = p by omega] at b0
                clear hu hv
                go_wp2
                go_quiet (fail)
                go_wp2
                go_roundw
                case rel => exact ⟨x + 1, by omega, by go_num, Lib.hid (below_drewN HBW.out _)⟩
                case measure => simp [intOf]; omega
              · have e1 : ((x : Int) == (u : Int)) = true := by simp; omega
                have e2 : (x == u) = true := by simp; omega
                have e3 : ((x : Int) == (v : Int)) = false := by simp; omega
                have e4 : (x == v) = false := by simp; omega
                rw [if_pos hu.symm, if_neg (fun q => hv q.symm), show p + (k8 : Int) - 0 = p + (k8 : Int) by omega] at b0
                have wp : IntKind.i64.wrap (p + (k8 : Int)) = p + (k8 : Int) := IntWalk.i64_in _ (by omega)
                clear hu hv
                go_wp2
                go_quiet (fail)
                go_wp2
                go_roundw
                case rel => exact ⟨x + 1, by omega, by go_num, Lib.hid (below_drewN HBW.out _)⟩
                case measure => simp [intOf]; omega
              · have e1 : ((x : Int) == (u : Int)) = false := by simp; omega
                have e2 : (x == u) = false := by simp; omega
                have e3 : ((x : Int) == (v : Int)) = true := by simp; omega
                have e4 : (x == v) = true := by simp; omega
                rw [if_neg (fun q => hu q.symm), if_pos hv.symm, show p + 0 - (k8 : Int) = p - (k8 : Int) by omega] at b0
                have wp : IntKind.i64.wrap (p - (k8 : Int)) = p - (k8 : Int) := IntWalk.i64_in _ (by omega)
                clear hu hv
                go_wp2
                go_quiet (fail)
                go_wp2
                go_roundw
                case rel => exact ⟨x + 1, by omega, by go_num, Lib.hid (below_drewN HBW.out _)⟩
                case measure => simp [intOf]; omega
              · have e1 : ((x : Int) == (u : Int)) = false := by simp; omega
                have e2 : (x == u) = false := by simp; omega
                have e3 : ((x : Int) == (v : Int)) = false := by simp; omega
                have e4 : (x == v) = false := by simp; omega
                rw [if_neg (fun q => hu q.symm), if_neg (fun q => hv q.symm), show p + 0 - 0 = p by omega] at b0
                clear hu hv
                go_wp2
                go_quiet (fail)
                go_wp2
                go_roundw
                case rel => exact ⟨x + 1, by omega, by go_num, Lib.hid (below_drewN HBW.out _)⟩
                case measure => simp [intOf]; omega
            · have hli : ¬ (x : Int) < (N : Int) := by omega
              obtain rfl : N = x := by omega
              have HLR := Lib.hid (HLR.out.below' HBW.out)
              have HLG := Lib.hid (HLG.out.below HBW.out)
              have hn6 := kept_box HN.out HBW.out
              have HN := Lib.hid hn6
              have HR := Lib.hid (HR.out.below' HBW.out)
              have HF := Lib.hid (HF.out.below HBW.out)
              have HB := Lib.hid (HB.out.trans (HBW.out.mono HB.out.size))
              go_wp2
              clear hn6 d0 HBW HLA HLB x5 y5 z5 hx5
              obtain ⟨w6, hw6⟩ : ∃ w6, w6 = wr := ⟨_, rfl⟩
              subst hw6
              go_loopw [22, 23] (fun bv jv wr => ∃ (m : Nat) (z : Int), m ≤ L.length ∧ z = (m : Int) - 1 ∧ jv = .int .i64 z ∧ Hid (Below w6.heap.size w6 wr) ∧ Hid (OwnS wr w6.heap.size bv (backS L m))) (fun _ jv _ => (intOf jv + 1).toNat)
              case atStart => exact ⟨L.length, _, Nat.le_refl _, rfl, rfl, Lib.hid (Below.refl _ _), Lib.hid (by rw [backS_end]; exact OwnS.nil _ _)⟩
              case round =>
                obtain ⟨m, z, hm, hz, rfl, HBJ, HOJ⟩ := hrel
                have hsj := HBJ.out.size
                obtain ⟨ba2, bc2, hbv, hbrow⟩ := HOJ.out.row
                subst hbv
                have hbl := backS_len L m
                cases m with
                | zero =>
                  obtain rfl : z = -1 := by omega
                  clear hz
                  have hn7 := kept_box HN.out HBJ.out
                  have x7 := cell_whole hn7 0
                  have y7 := cell_whole hn7 1
                  have z7 := cell_whole hn7 2
                  have HR7 := Lib.hid (HR.out.below' HBJ.out)
                  have HF7 := Lib.hid (HF.out.below HBJ.out)
                  have HLG7 := Lib.hid (HLG.out.below HBJ.out)
                  have HB7 := Lib.hid (HB.out.trans (HBJ.out.mono HB.out.size))
                  have HBR := Lib.hid hbrow
                  have HPB : Hid (pushR (N : Int) Z G (backS L 0) (k8 : Int) = (0, F)) := Lib.hid (by rw [pushR_yes HGE.out (by omega)]; exact HUN.out)
                  have hbl2 : (backS L 0).length ≤ 1000 := by omega
                  have hFl : F.length ≤ 200000 := by rw [HL.out]; omega
                  clear hn7 hbrow HOJ HUN
                  generalize backS L 0 = BL at *
                  go_wp2_with (first
                    | (go_at_call 20; refine (push7_any (N : Int) b ao ga ba2 cap gc bc2 Z G BL (k8 : Int) _ HR7.out HLG7.out HBR.out HM.out HMG.out hbl2).mono ?_; rintro e w8 ⟨ra, rc, rfl, hl8, hb8⟩; rw [HPB.out] at hl8 ⊢; have HLF : Hid (Lst encI w8 ra F) := Lib.hid hl8; have HF8 := Lib.hid (HF7.out.below hb8); have HB8 := Lib.hid (HB7.out.trans (hb8.mono HB7.out.size)); clear hl8 hb8 x7 y7 z7)
                    | (go_at_call 15; refine (sameints_eq F ra fo rc fc _ HLF.out HF8.out hFl).mono ?_; rintro e w9 ⟨rfl, hb9⟩; have HB9 := Lib.hid (HB8.out.trans (hb9.mono HB8.out.size)); clear hb9))
                  go_ret
                  exact ⟨by simp, HB9.out⟩
                | succ p =>
                  obtain rfl : z = (p : Int) := by omega
                  clear hz
                  have hpL : p < L.length := by omega
                  have hpi : (p : Int) < (L.length : Int) := by omega
                  obtain ⟨sb, sx, e, hsb, s0, s1⟩ := step_at (HLR.out.below' HBJ.out) (List.getElem?_eq_getElem hpL)
                  cases e
                  have HST := Lib.hid (backS_step hpL)
                  generalize L[p] = y at *
                  obtain ⟨i, q⟩ := y
                  simp only [flipS] at s0 s1 HST
                  obtain ⟨i0, hi0, hz0, hz1, hz2⟩ := info_parts infoStep
                  have HI := Lib.hid (And.intro hi0 (And.intro hz0 (And.intro hz1 hz2)))
                  have HOR : Hid (wr.ownsRow w6.heap.size 36 2 (.slice ba2 (backS L (p + 1)).length bc2) (backS L (p + 1)).length ((backS L (p + 1)).flatMap encS)) := HOJ
                  have hMl : (backS L (p + 1)).length ≤ 200 := by omega
                  clear hi0 hz0 hz1 hz2 HOJ hbrow hbl
                  generalize backS L (p + 1) = M at *
                  cases q
                  all_goals
                    simp only [Bool.not_false, Bool.not_true] at HST
                    go_wp2
                  · go_region_law ((refine step_append_lies _ (by rfl) _ _ _ (by rfl) w6.heap.size 36 i0 _ 2 16 Try.underlying40 HI.out.1 HI.out.2.1 HI.out.2.2.1 HI.out.2.2.2 rfl (by omega) (.slice ba2 M.length bc2) M.length (M.flatMap encS) (by rfl) ((HOR.out.alloc _).drew) ⟨wr.heap.size, 0, none⟩ 1 1 (encS (i, true)) (by rfl) (by rfl) (World.news_of_block (cs := #[.int .i64 i, .bool true]) (t := 36) (fr := (0, 0)) (heap_alloc_new wr _)) (encS_one _) (by omega) (by unfold maxLen; omega) (by omega) (by simp; omega) (wr.heap.size + 1) (by simp) ?_; intro g7 cap7 w7 ho7 hg7 hl7 hlt7; have ho7' : OwnS w7 w6.heap.size (.slice (some ⟨g7, 0, none⟩) (M.length + 1) cap7) (M ++ [(i, true)]) := (by unfold OwnS; rw [List.length_append, List.flatMap_append]; simpa using ho7); have HO7 := Lib.hid ho7'; have hb6 := HBJ.out.alloc HBJ.out.size (.cells #[.int .i64 i, .bool true] 36); have hb6' : Below w6.heap.size w6 (wr.alloc (.cells #[.int .i64 i, .bool true] 36)).drew := ⟨hb6.os, hb6.tape, hb6.output, hb6.size, hb6.block⟩; have HB7 := Lib.hid (hb6'.grown hg7 hb6'.size (fun k hk => (HOR.out.lt k hk).1)); clear ho7 ho7' hg7 hl7 hb6 hb6'))
                    all_goals
                      go_wp2
                      go_roundw
                      case rel => exact ⟨p, _, by omega, rfl, rfl, HB7, Lib.hid (by rw [HST.out]; exact HO7.out)⟩
                      case measure => simp [intOf]
                  · go_region_law ((refine step_append_lies _ (by rfl) _ _ _ (by rfl) w6.heap.size 36 i0 _ 2 16 Try.underlying40 HI.out.1 HI.out.2.1 HI.out.2.2.1 HI.out.2.2.2 rfl (by omega) (.slice ba2 M.length bc2) M.length (M.flatMap encS) (by rfl) ((HOR.out.alloc _).drew) ⟨wr.heap.size, 0, none⟩ 1 1 (encS (i, false)) (by rfl) (by rfl) (World.news_of_block (cs := #[.int .i64 i, .bool false]) (t := 36) (fr := (0, 0)) (heap_alloc_new wr _)) (encS_one _) (by omega) (by unfold maxLen; omega) (by omega) (by simp; omega) (wr.heap.size + 1) (by simp) ?_; intro g7 cap7 w7 ho7 hg7 hl7 hlt7; have ho7' : OwnS w7 w6.heap.size (.slice (some ⟨g7, 0, none⟩) (M.length + 1) cap7) (M ++ [(i, false)]) := (by unfold OwnS; rw [List.length_append, List.flatMap_append]; simpa using ho7); have HO7 := Lib.hid ho7'; have hb6 := HBJ.out.alloc HBJ.out.size (.cells #[.int .i64 i, .bool false] 36); have hb6' : Below w6.heap.size w6 (wr.alloc (.cells #[.int .i64 i, .bool false] 36)).drew := ⟨hb6.os, hb6.tape, hb6.output, hb6.size, hb6.block⟩; have HB7 := Lib.hid (hb6'.grown hg7 hb6'.size (fun k hk => (HOR.out.lt k hk).1)); clear ho7 ho7' hg7 hl7 hb6 hb6'))
                    all_goals
                      go_wp2
                      go_roundw
                      case rel => exact ⟨p, _, by omega, rfl, rfl, HB7, Lib.hid (by rw [HST.out]; exact HO7.out)⟩
                      case measure => simp [intOf]
        · have hpe2 := (push_err (k := (k8 : Int)) L F (trail_arcs HT.out)).resolve_left hpe
          have HPE := Lib.hid hpe2
          clear hpe hpe2
          refine (push7_any (N : Int) b ao fo la cap fc lc Z F L (k8 : Int) _ HR.out HF.out HLR.out HM.out HM2.out (by omega)).mono ?_
          rintro e w4 ⟨ga, gc, rfl, hl4, hb4⟩
          rw [HPR.out, HPE.out]
          have HB := Lib.hid (HB.out.trans (hb4.mono HB.out.size))
          clear hl4 hb4 x3 y3 z3
          go_wp2
          go_ret
          exact ⟨rfl, HB.out⟩
  · obtain ⟨e0, he0⟩ : ∃ k, flowE n Z F = k := ⟨_, rfl⟩
    rw [he0] at h1
    have HE := Lib.hid he0
    have hf2 : (e0 != 0) = true := by simpa using h1
    have hf1 : (e0 == 0) = false := by simpa using h1
    clear hA h1 he0
    go_enter Try.func7, Try.ntmps7
    go_wp2_with (first
      | (go_at_call 12; refine (sawake_any _).mono ?_; rintro e w1 ⟨rfl, hb1⟩; have hn1 := kept_box HN.out hb1; have HR := Lib.hid (HR.out.below' hb1); have HF := Lib.hid (HF.out.below hb1); have HB := Lib.hid (HB.out.trans (hb1.mono HB.out.size)); have x1 := cell_whole hn1 0; have y1 := cell_whole hn1 1; have z1 := cell_whole hn1 2; clear hb1 hn1)
      | (go_at_call 8; refine (balance_is n b ao fo cap fc Z F e0 A _ HR.out HF.out HM.out HM2.out HE.out HA.out).mono ?_; rintro e w2 ⟨a1, c1, rfl, hl1, hb1⟩; have HB := Lib.hid (HB.out.trans (hb1.mono HB.out.size)); clear hb1 hl1 x1 y1 z1))
    go_ret
    exact ⟨rfl, HB.out⟩
end
end Go.Proofs.Ytiefphkfddecbaa
