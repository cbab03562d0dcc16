/- DecompLengths. -/
import Derived.Test.YtmflleifglefiaaDAwk
import Derived.BigQuiet
import Derived.Deep.QuietTactic
import Derived.Deep.RegionHeld3
namespace Go.Proofs.Ytmflleifglefiaa
open Go.RowKit
set_option linter.unusedVariables false

theorem inB_below {w w' : World} {X : List ChT} (h : ∀ x ∈ X, Lst encI w x.1.1 x.2.1 ∧ x.2.1.length ≤ maxLen) (hb : Below w.heap.size w w') : ∀ x ∈ X, Lst encI w' x.1.1 x.2.1 ∧ x.2.1.length ≤ maxLen := fun x hx => ⟨(h x hx).1.below hb, (h x hx).2⟩
section
variable (n : Int) (b : Bool) (ao lo : Option Addr) (cap zl nx lc : Nat) (Z : List ArcT) (X : List ChT)
theorem dlengths_net (w : World) (hzl : Z.length = zl) (h : Row encA 4 w ao Z) (hz : zl ≤ maxLen) (hX : Row encC 2 w lo X) (hin : ∀ x ∈ X, Lst encI w x.1.1 x.2.1 ∧ x.2.1.length ≤ maxLen) (hn : X.length = nx) (hnx : nx ≤ 200) (e0 : Int) (hc : checkE n Z = e0) (h0 : e0 ≠ 0) :
    Calls Try.prog 18 #[.agg #[.int .i64 n, .bool b, .slice ao zl cap], .slice lo nx lc] w fun e w' => e = .returned (.tuple #[.slice none 0 0, .int .i64 e0]) ∧ Below w.heap.size w w' := by
  subst hzl
  subst hc
  refine (dlengths_any n b ao lo cap nx lc Z X w h hz hX hin hn hnx).mono ?_
  rintro e w' (⟨_, he, hb⟩ | ⟨h1, _⟩ | ⟨h1, _⟩)
  · exact ⟨he, hb⟩
  · exact absurd h1 h0
  · exact absurd h1 h0
theorem dlengths_bad (w : World) (hzl : Z.length = zl) (h : Row encA 4 w ao Z) (hz : zl ≤ maxLen) (hX : Row encC 2 w lo X) (hin : ∀ x ∈ X, Lst encI w x.1.1 x.2.1 ∧ x.2.1.length ≤ maxLen) (hn : X.length = nx) (hnx : nx ≤ 200) (hc : checkE n Z = 0) (hb0 : ¬ ∀ x ∈ X, inB zl x.2.1 = true) :
    Calls Try.prog 18 #[.agg #[.int .i64 n, .bool b, .slice ao zl cap], .slice lo nx lc] w fun e w' => e = .returned (.tuple #[.slice none 0 0, .int .i64 1]) ∧ Below w.heap.size w w' := by
  subst hzl
  refine (dlengths_any n b ao lo cap nx lc Z X w h hz hX hin hn hnx).mono ?_
  rintro e w' (⟨h1, _⟩ | ⟨_, _, he, hb⟩ | ⟨_, h1, _⟩)
  · exact absurd hc h1
  · exact ⟨he, hb⟩
  · exact absurd h1 hb0
theorem dlengths_good (w : World) (hzl : Z.length = zl) (h : Row encA 4 w ao Z) (hz : zl ≤ maxLen) (hX : Row encC 2 w lo X) (hin : ∀ x ∈ X, Lst encI w x.1.1 x.2.1 ∧ x.2.1.length ≤ maxLen) (hn : X.length = nx) (hnx : nx ≤ 200) (hc : checkE n Z = 0) (hb0 : ∀ x ∈ X, inB zl x.2.1 = true) :
    Calls Try.prog 18 #[.agg #[.int .i64 n, .bool b, .slice ao zl cap], .slice lo nx lc] w fun e w' => ∃ la lcp L, e = .returned (.tuple #[.slice la nx lcp, .int .i64 0]) ∧ Lst encI w' la L ∧ L.length = nx ∧ (∀ i x, X[i]? = some x → x.2.1.length ≤ 200000 → atI L i = lenI Z x.2.1) ∧ Below w.heap.size w w' := by
  subst hzl
  refine (dlengths_any n b ao lo cap nx lc Z X w h hz hX hin hn hnx).mono ?_
  rintro e w' (⟨h1, _⟩ | ⟨_, ⟨x, hx, h1⟩, _⟩ | ⟨_, _, v, L, he, ho, hl, ha, hb⟩)
  · exact absurd hc h1
  · rw [hb0 x hx] at h1; cases h1
  · obtain ⟨la, lcp, rfl, hL⟩ := ho.lst
    exact ⟨la, lcp, L, by rw [he, hl, hn], hL, by rw [hl, hn], ha, hb⟩
theorem rlength13_L (al : Nat) (A : List Int) (w : World) (hzl : Z.length = zl) (hal : A.length = al) (h : Row encA 4 w ao Z) (hl : Lst encI w lo A) (hz : zl ≤ 200000) (hll : al ≤ 200000) (ht : ∀ a ∈ Z, 0 ≤ tm a ∧ tm a ≤ 1048576) (hA : inB zl A = true) :
    Calls Try.prog 20 #[.agg #[.int .i64 n, .bool b, .slice ao zl cap], .slice lo al lc] w fun e w' => e = .returned (.int .i64 (lenI Z A)) ∧ Below w.heap.size w w' := by
  subst hzl
  subst hal
  exact rlength13_any n b ao lo cap lc Z A w h hl hz hll ht (fun x hx => by
    obtain ⟨h1, h2⟩ := inB_iff.1 hA x hx
    exact ⟨x.toNat, by omega, by omega⟩)
end
section
variable (n : Int) (b : Bool) (ao lo : Option Addr) (len cap nx lc : Nat) (Z : List ArcT) (X : List ChT)
set_option maxRecDepth 100000 in
set_option maxHeartbeats 8000000 in
theorem lengths_law (w : World) (hl : Z.length = len) (hm : len ≤ maxLen) (hr : Row encA 4 w ao Z) (hn : X.length = nx) (hX : Row encC 2 w lo X) (hin : ∀ x ∈ X, Lst encI w x.1.1 x.2.1 ∧ x.2.1.length ≤ maxLen) :
    Calls Try.prog 5 #[.agg #[.int .i64 n, .bool b, .slice ao len cap], .slice lo nx lc] w fun e w' => e = .returned (.bool true) ∧ Below w.heap.size w w' := by
  subst hl
  have hb00 := (Below.refl _ w).alloc (Nat.le_refl _) (.cells #[.int .i64 n, .bool b, .slice ao Z.length cap] 24)
  have HB := Lib.hid hb00
  have HN := Lib.hid (heap_alloc_new w (.cells #[.int .i64 n, .bool b, .slice ao Z.length cap] 24))
  have HR := Lib.hid (hr.below' hb00)
  have HX := Lib.hid (hX.below' hb00)
  have HIN := Lib.hid (inB_below hin hb00)
  have HM := Lib.hid hm
  have HNX := Lib.hid hn
  have x0 := cell_whole HN.out 0
  have x1 := cell_whole HN.out 1
  have x2 := cell_whole HN.out 2
  clear hr hX hin hm hn hb00
  by_cases h100 : 100 < nx
  · have hgt : (nx : Int) > 100 := by omega
    go_enter Try.func5, Try.ntmps5
    go_wp2_with (first
      | (go_at_call 13; refine (dawake_any _).mono ?_; rintro e wn ⟨rfl, hb⟩; have HR := Lib.hid (HR.out.below' hb); have HX := Lib.hid (HX.out.below' hb); have HIN := Lib.hid (inB_below HIN.out hb); have hn := kept_box HN.out hb; have HN := Lib.hid hn; have x0 := cell_whole hn 0; have x1 := cell_whole hn 1; have x2 := cell_whole hn 2; have HB := Lib.hid (HB.out.trans (hb.mono HB.out.size)); clear hn; clear hb))
    go_ret
    exact ⟨by simp, HB.out⟩
  · have hgt : ¬ (nx : Int) > 100 := by omega
    have hnx : nx ≤ 200 := by omega
    obtain ⟨e0, he⟩ : ∃ e0, checkE n Z = e0 := ⟨_, rfl⟩
    have HE := Lib.hid he
    by_cases h0 : e0 = 0
    · subst h0
      have hRt := right_iff (b := true) |>.1 he
      have HT : Hid (∀ a ∈ Z, 0 ≤ tm a ∧ tm a ≤ 1048576) := Lib.hid (fun a ha => by obtain ⟨_, _, _, _, h5, h6⟩ := right_arc hRt ha; exact ⟨h5, h6⟩)
      have hz2 : Z.length ≤ 200 := hRt.2.1
      clear hRt he
      by_cases hall : ∀ x ∈ X, inB Z.length x.2.1 = true
      · have HALL := Lib.hid hall
        clear hall
        go_enter Try.func5, Try.ntmps5
        go_wp2_with (first
          | (go_at_call 13; refine (dawake_any _).mono ?_; rintro e wn ⟨rfl, hb⟩; have HR := Lib.hid (HR.out.below' hb); have HX := Lib.hid (HX.out.below' hb); have HIN := Lib.hid (inB_below HIN.out hb); have hn := kept_box HN.out hb; have HN := Lib.hid hn; have x0 := cell_whole hn 0; have x1 := cell_whole hn 1; have x2 := cell_whole hn 2; have HB := Lib.hid (HB.out.trans (hb.mono HB.out.size)); clear hn; clear hb)
          | (go_at_call 18; refine (dlengths_good n b ao lo cap Z.length nx lc Z X _ rfl HR.out HM.out HX.out HIN.out HNX.out hnx HE.out HALL.out).mono ?_; rintro e wn ⟨la, lcp, L, rfl, hls, hll, hla, hb⟩; have HR := Lib.hid (HR.out.below' hb); have HX := Lib.hid (HX.out.below' hb); have HIN := Lib.hid (inB_below HIN.out hb); have hn := kept_box HN.out hb; have HN := Lib.hid hn; have x0 := cell_whole hn 0; have x1 := cell_whole hn 1; have x2 := cell_whole hn 2; have HB := Lib.hid (HB.out.trans (hb.mono HB.out.size)); clear hn; have HLS := Lib.hid hls; have HLL := Lib.hid hll; have HLA := Lib.hid hla; clear hls hll hla; clear hb)
          | (go_at_call 19; refine (rcheck_is n b ao cap Z 0 _ HR.out HM.out HE.out).mono ?_; rintro e wn ⟨rfl, hb⟩; have HR := Lib.hid (HR.out.below' hb); have HX := Lib.hid (HX.out.below' hb); have HIN := Lib.hid (inB_below HIN.out hb); have hn := kept_box HN.out hb; have HN := Lib.hid hn; have x0 := cell_whole hn 0; have x1 := cell_whole hn 1; have x2 := cell_whole hn 2; have HB := Lib.hid (HB.out.trans (hb.mono HB.out.size)); clear hn; have HLS := Lib.hid (HLS.out.below hb); clear hb))
        go_loopw [9] (fun iv wr => ∃ k : Nat, k ≤ nx ∧ iv = .int .i64 (k : Int) ∧ Hid (∀ q x, q < k → X[q]? = some x → x.2.1.length ≤ 100 ∧ inB Z.length x.2.1 = true) ∧ Hid (Below wn.heap.size wn wr)) (fun iv _ => nx - (intOf iv).toNat)
        case atStart => exact ⟨0, Nat.zero_le _, rfl, Lib.hid (fun q x hq => by omega), Lib.hid (Below.refl _ _)⟩
        case round =>
          clear x0 x1 x2
          obtain ⟨k, hk, rfl, HA, HW⟩ := hrel
          by_cases hlt : k < nx
          · have hli : (k : Int) < (nx : Int) := by omega
            have hkX : k < X.length := by rw [HNX.out]; exact hlt
            obtain ⟨b1, o1, q1, hb1, t1, t2⟩ := chC_at HX.out (List.getElem?_eq_getElem hkX)
            subst q1
            obtain ⟨hxl, hxm⟩ := HIN.out _ (List.getElem_mem hkX)
            have HXK := Lib.hid (List.getElem?_eq_getElem hkX)
            have HBX : Hid (inB Z.length X[k].2.1 = true) := Lib.hid (HALL.out _ (List.getElem_mem hkX))
            generalize X[k] = x at *
            obtain ⟨⟨xa, xc⟩, xl, xk⟩ := x
            simp only at hxl hxm t1 t2
            obtain ⟨M, hM⟩ : ∃ M, xl.length = M := ⟨_, rfl⟩
            rw [hM] at t1 hxm
            have HLM := Lib.hid hM
            have HXL := Lib.hid hxl
            have s1 := cell_below HW.out t1
            clear hxl hM hb1 hkX t2
            by_cases h1 : 100 < M
            · have h1i : (M : Int) > 100 := by omega
              go_wp2
              go_ret
              exact ⟨by simp, HB.out.trans (HW.out.mono HB.out.size)⟩
            · have h1i : ¬ (M : Int) > 100 := by omega
              go_wp2
              go_loopw [10] (fun iv wz => ∃ m : Nat, m ≤ M ∧ iv = .int .i64 (m : Int) ∧ Hid True ∧ Hid (Below wn.heap.size wn wz)) (fun iv _ => M - (intOf iv).toNat)
              case atStart => exact ⟨0, Nat.zero_le _, rfl, Lib.hid trivial, HW⟩
              case round =>
                clear HW s1
                obtain ⟨m, hm, rfl, HY, HW⟩ := hrel
                have s1 := cell_below HW.out t1
                by_cases hlt2 : m < M
                · have hli2 : (m : Int) < (M : Int) := by omega
                  have hml : m < xl.length := by rw [HLM.out]; exact hlt2
                  obtain ⟨lb, lx, e, _, a0⟩ := lst_cell (HXL.out.below HW.out) (List.getElem?_eq_getElem hml)
                  cases e
                  unfold encI at a0
                  have HTK : Hid (xl.take (m + 1) = xl.take m ++ [xl[m]]) := Lib.hid (List.take_succ_eq_append_getElem hml)
                  have HMEM : Hid (xl[m] ∈ xl) := Lib.hid (List.getElem_mem hml)
                  have x2 := cell_whole (kept_box HN.out HW.out) 2
                  generalize xl[m] = y at *
                  obtain ⟨hy1, hy2⟩ := inB_iff.1 HBX.out y HMEM.out
                  have d1 : decide (y < 0) = false := decide_eq_false (by omega)
                  have d2 : decide ((Z.length : Int) ≤ y) = false := decide_eq_false (by omega)
                  go_wp2_with fail
                  go_quiet (fail)
                  go_wp2
                  go_roundw
                  case rel => exact ⟨m + 1, by omega, by go_num, Lib.hid trivial, Lib.hid (below_drewN HW.out _)⟩
                  case measure => simp [intOf]; omega
                · have hli2 : ¬ (m : Int) < (M : Int) := by omega
                  go_wp2
                  go_roundw
                  case rel => exact ⟨k + 1, by omega, by go_num, Lib.hid (fun q x hq hx => by
                    by_cases e : q = k
                    · subst e
                      rw [HXK.out] at hx
                      cases hx
                      exact ⟨by rw [HLM.out]; omega, HBX.out⟩
                    · exact HA.out q x (by omega) hx), HW⟩
                  case measure => simp [intOf]; omega
          · have hli : ¬ (k : Int) < (nx : Int) := by omega
            obtain rfl : k = nx := by omega
            go_wp2
            go_loopw [11] (fun iv wz => ∃ m : Nat, m ≤ k ∧ iv = .int .i64 (m : Int) ∧ Hid (Below wn.heap.size wn wz)) (fun iv _ => k - (intOf iv).toNat)
            case atStart => exact ⟨0, Nat.zero_le _, rfl, HW⟩
            case round =>
              clear HW
              obtain ⟨m, hm, rfl, HW⟩ := hrel
              by_cases hlt2 : m < k
              · have hli2 : (m : Int) < (k : Int) := by omega
                have hkX : m < X.length := by rw [HNX.out]; exact hlt2
                have hkL : m < L.length := by rw [HLL.out]; exact hlt2
                obtain ⟨b1, o1, q1, hb1, t1, t2⟩ := chC_at HX.out (List.getElem?_eq_getElem hkX)
                subst q1
                obtain ⟨hxl, hxm⟩ := HIN.out _ (List.getElem_mem hkX)
                obtain ⟨g1, g2⟩ := HA.out m _ hlt2 (List.getElem?_eq_getElem hkX)
                have g3 := HLA.out m _ (List.getElem?_eq_getElem hkX) (by omega)
                obtain ⟨lb, lx, e, _, a0⟩ := lst_cell (HLS.out.below HW.out) (atI_get hkL)
                cases e
                rw [g3] at a0
                generalize X[m] = x at *
                obtain ⟨⟨xa, xc⟩, xl, xk⟩ := x
                simp only at hxl hxm t1 t2 g1 g2 g3 a0
                obtain ⟨M, hM⟩ : ∃ M, xl.length = M := ⟨_, rfl⟩
                rw [hM] at t1 g1
                have HLM := Lib.hid hM
                have HXL := Lib.hid hxl
                have HG2 := Lib.hid g2
                have s1 := cell_below HW.out t1
                have hnw := kept_box HN.out HW.out
                have x0 := cell_whole hnw 0
                have x1 := cell_whole hnw 1
                have x2 := cell_whole hnw 2
                obtain ⟨z, hz⟩ : ∃ z, lenI Z xl = z := ⟨_, rfl⟩
                rw [hz] at a0
                have HLZ := Lib.hid hz
                unfold encI at a0
                have hzz : (z != z) = false := by simp
                have bD := Lib.hid (below_drew (Below.refl wr.heap.size wr))
                have HRx := Lib.hid (HR.out.below' (HW.out.trans (bD.out.mono HW.out.size)))
                have HLx := Lib.hid (HXL.out.below (HW.out.trans (bD.out.mono HW.out.size)))
                have HWx := Lib.hid (HW.out.trans (bD.out.mono HW.out.size))
                have z0 := cell_below bD.out x0
                have z1 := cell_below bD.out x1
                have z2 := cell_below bD.out x2
                have z3 := cell_below bD.out s1
                have z4 := cell_below bD.out a0
                have hM2 : M ≤ 200000 := by omega
                have hz3 : Z.length ≤ 200000 := by omega
                clear hxl hM hb1 hkX hkL t1 t2 g1 g2 g3 hz hnw hxm
                go_wp2_with fail
                go_cut [123] (fun pv wc => pv = .bool false ∧ Hid (Below wn.heap.size wn wc))
                case first =>
                  go_region_held3 (fun W => W.cell? ⟨w.heap.size, 0, none⟩ = some (.int .i64 n) ∧ W.cell? ⟨w.heap.size, 1, none⟩ = some (.bool b) ∧ W.cell? ⟨w.heap.size, 2, none⟩ = some (.slice ao Z.length cap) ∧ W.cell? ⟨b1, o1 + m * 2, none⟩ = some (.slice xa M xc) ∧ W.cell? ⟨lb, lx + m, none⟩ = some (.int .i64 z)) (first | exact ⟨x0, x1, x2, s1, a0⟩ | exact ⟨z0, z1, z2, z3, z4⟩ | go_keep)
                    (first | (go_at_call 20; refine (rlength13_L n b ao xa cap Z.length xc Z M xl _ rfl HLM.out HRx.out HLx.out hz3 hM2 HT.out HG2.out).mono ?_; rintro e w7 ⟨rfl, b6⟩; rw [HLZ.out]; have HWx := Lib.hid (HWx.out.trans (b6.mono HWx.out.size)); have z0 := cell_below b6 z0; have z1 := cell_below b6 z1; have z2 := cell_below b6 z2; have z3 := cell_below b6 z3; have z4 := cell_below b6 z4; clear b6))
                  all_goals
                    go_wp2
                    go_meet
                    exact ⟨rfl, HWx⟩
                case rest =>
                  obtain ⟨rfl, HWC⟩ := hcut
                  go_wp2
                  go_roundw
                  case rel => exact ⟨m + 1, by omega, by go_num, HWC⟩
                  case measure => simp [intOf]; omega
              · have hli2 : ¬ (m : Int) < (k : Int) := by omega
                go_wp2
                go_ret
                exact ⟨by simp, HB.out.trans (HW.out.mono HB.out.size)⟩
      · have HALL := Lib.hid hall
        clear hall
        go_enter Try.func5, Try.ntmps5
        go_wp2_with (first
          | (go_at_call 13; refine (dawake_any _).mono ?_; rintro e wn ⟨rfl, hb⟩; have HR := Lib.hid (HR.out.below' hb); have HX := Lib.hid (HX.out.below' hb); have HIN := Lib.hid (inB_below HIN.out hb); have hn := kept_box HN.out hb; have HN := Lib.hid hn; have x0 := cell_whole hn 0; have x1 := cell_whole hn 1; have x2 := cell_whole hn 2; have HB := Lib.hid (HB.out.trans (hb.mono HB.out.size)); clear hn; clear hb)
          | (go_at_call 18; refine (dlengths_bad n b ao lo cap Z.length nx lc Z X _ rfl HR.out HM.out HX.out HIN.out HNX.out hnx HE.out HALL.out).mono ?_; rintro e wn ⟨rfl, hb⟩; have HR := Lib.hid (HR.out.below' hb); have HX := Lib.hid (HX.out.below' hb); have HIN := Lib.hid (inB_below HIN.out hb); have hn := kept_box HN.out hb; have HN := Lib.hid hn; have x0 := cell_whole hn 0; have x1 := cell_whole hn 1; have x2 := cell_whole hn 2; have HB := Lib.hid (HB.out.trans (hb.mono HB.out.size)); clear hn; clear hb)
          | (go_at_call 19; refine (rcheck_is n b ao cap Z 0 _ HR.out HM.out HE.out).mono ?_; rintro e wn ⟨rfl, hb⟩; have HR := Lib.hid (HR.out.below' hb); have HX := Lib.hid (HX.out.below' hb); have HIN := Lib.hid (inB_below HIN.out hb); have hn := kept_box HN.out hb; have HN := Lib.hid hn; have x0 := cell_whole hn 0; have x1 := cell_whole hn 1; have x2 := cell_whole hn 2; have HB := Lib.hid (HB.out.trans (hb.mono HB.out.size)); clear hn; clear hb))
        go_loopw [9] (fun iv wr => ∃ k : Nat, k ≤ nx ∧ iv = .int .i64 (k : Int) ∧ Hid (∀ q x, q < k → X[q]? = some x → x.2.1.length ≤ 100 ∧ inB Z.length x.2.1 = true) ∧ Hid (Below wn.heap.size wn wr)) (fun iv _ => nx - (intOf iv).toNat)
        case atStart => exact ⟨0, Nat.zero_le _, rfl, Lib.hid (fun q x hq => by omega), Lib.hid (Below.refl _ _)⟩
        case round =>
          clear x0 x1 x2
          obtain ⟨k, hk, rfl, HA, HW⟩ := hrel
          by_cases hlt : k < nx
          · have hli : (k : Int) < (nx : Int) := by omega
            have hkX : k < X.length := by rw [HNX.out]; exact hlt
            obtain ⟨b1, o1, q1, hb1, t1, t2⟩ := chC_at HX.out (List.getElem?_eq_getElem hkX)
            subst q1
            obtain ⟨hxl, hxm⟩ := HIN.out _ (List.getElem_mem hkX)
            have HXK := Lib.hid (List.getElem?_eq_getElem hkX)
            generalize X[k] = x at *
            obtain ⟨⟨xa, xc⟩, xl, xk⟩ := x
            simp only at hxl hxm t1 t2
            obtain ⟨M, hM⟩ : ∃ M, xl.length = M := ⟨_, rfl⟩
            rw [hM] at t1 hxm
            have HLM := Lib.hid hM
            have HXL := Lib.hid hxl
            have s1 := cell_below HW.out t1
            clear hxl hM hb1 hkX t2
            by_cases h1 : 100 < M
            · have h1i : (M : Int) > 100 := by omega
              go_wp2
              go_ret
              exact ⟨by simp, HB.out.trans (HW.out.mono HB.out.size)⟩
            · have h1i : ¬ (M : Int) > 100 := by omega
              go_wp2
              go_loopw [10] (fun iv wz => ∃ m : Nat, m ≤ M ∧ iv = .int .i64 (m : Int) ∧ Hid (∀ y ∈ xl.take m, 0 ≤ y ∧ y < (Z.length : Int)) ∧ Hid (Below wn.heap.size wn wz)) (fun iv _ => M - (intOf iv).toNat)
              case atStart => exact ⟨0, Nat.zero_le _, rfl, Lib.hid (fun y hy => by simp at hy), HW⟩
              case round =>
                clear HW s1
                obtain ⟨m, hm, rfl, HY, HW⟩ := hrel
                have s1 := cell_below HW.out t1
                by_cases hlt2 : m < M
                · have hli2 : (m : Int) < (M : Int) := by omega
                  have hml : m < xl.length := by rw [HLM.out]; exact hlt2
                  obtain ⟨lb, lx, e, _, a0⟩ := lst_cell (HXL.out.below HW.out) (List.getElem?_eq_getElem hml)
                  cases e
                  unfold encI at a0
                  have HTK : Hid (xl.take (m + 1) = xl.take m ++ [xl[m]]) := Lib.hid (List.take_succ_eq_append_getElem hml)
                  have HMEM : Hid (xl[m] ∈ xl) := Lib.hid (List.getElem_mem hml)
                  have x2 := cell_whole (kept_box HN.out HW.out) 2
                  generalize xl[m] = y at *
                  by_cases hy1 : y < 0
                  · have d1 : decide (y < 0) = true := decide_eq_true hy1
                    go_wp2_with fail
                    go_quiet (fail)
                    go_wp2
                    go_ret
                    exact ⟨by simp, HB.out.trans ((below_drewN HW.out _).mono HB.out.size)⟩
                  · have d1 : decide (y < 0) = false := decide_eq_false hy1
                    by_cases hy2 : (Z.length : Int) ≤ y
                    · have d2 : decide ((Z.length : Int) ≤ y) = true := decide_eq_true hy2
                      go_wp2_with fail
                      go_quiet (fail)
                      go_wp2
                      go_ret
                      exact ⟨by simp, HB.out.trans ((below_drewN HW.out _).mono HB.out.size)⟩
                    · have d2 : decide ((Z.length : Int) ≤ y) = false := decide_eq_false hy2
                      go_wp2_with fail
                      go_quiet (fail)
                      go_wp2
                      go_roundw
                      case rel => exact ⟨m + 1, by omega, by go_num, Lib.hid (fun q hq => by
                        rw [HTK.out] at hq
                        rcases List.mem_append.1 hq with hq | hq
                        · exact HY.out q hq
                        · rw [List.mem_singleton.1 hq]; omega), Lib.hid (below_drewN HW.out _)⟩
                      case measure => simp [intOf]; omega
                · have hli2 : ¬ (m : Int) < (M : Int) := by omega
                  go_wp2
                  go_roundw
                  case rel => exact ⟨k + 1, by omega, by go_num, Lib.hid (fun q x hq hx => by
                    by_cases e : q = k
                    · subst e
                      rw [HXK.out] at hx
                      cases hx
                      exact ⟨by rw [HLM.out]; omega, inB_iff.2 (by have h1 := HY.out; rwa [List.take_of_length_le (by rw [HLM.out]; omega)] at h1)⟩
                    · exact HA.out q x (by omega) hx), HW⟩
                  case measure => simp [intOf]; omega
          · have hli : ¬ (k : Int) < (nx : Int) := by omega
            have hbad : ∀ x ∈ X, inB Z.length x.2.1 = true := fun x hx => by
              obtain ⟨i, hi, e⟩ := List.getElem_of_mem hx
              exact (HA.out i x (by rw [HNX.out] at hi; omega) (by rw [← e]; exact List.getElem?_eq_getElem hi)).2
            exact absurd hbad HALL.out
    · have hf1 : (e0 != 0) = true := by simpa using h0
      have hf2 : (e0 == 0) = false := by simpa using h0
      have hf3 : (e0 == e0) = true := by simp
      have H0 := Lib.hid h0
      clear h0 he
      go_enter Try.func5, Try.ntmps5
      go_wp2_with (first
        | (go_at_call 13; refine (dawake_any _).mono ?_; rintro e wn ⟨rfl, hb⟩; have HR := Lib.hid (HR.out.below' hb); have HX := Lib.hid (HX.out.below' hb); have HIN := Lib.hid (inB_below HIN.out hb); have hn := kept_box HN.out hb; have HN := Lib.hid hn; have x0 := cell_whole hn 0; have x1 := cell_whole hn 1; have x2 := cell_whole hn 2; have HB := Lib.hid (HB.out.trans (hb.mono HB.out.size)); clear hn; clear hb)
        | (go_at_call 18; refine (dlengths_net n b ao lo cap Z.length nx lc Z X _ rfl HR.out HM.out HX.out HIN.out HNX.out hnx e0 HE.out H0.out).mono ?_; rintro e wn ⟨rfl, hb⟩; have HR := Lib.hid (HR.out.below' hb); have HX := Lib.hid (HX.out.below' hb); have HIN := Lib.hid (inB_below HIN.out hb); have hn := kept_box HN.out hb; have HN := Lib.hid hn; have x0 := cell_whole hn 0; have x1 := cell_whole hn 1; have x2 := cell_whole hn 2; have HB := Lib.hid (HB.out.trans (hb.mono HB.out.size)); clear hn; clear hb)
        | (go_at_call 19; refine (rcheck_is n b ao cap Z e0 _ HR.out HM.out HE.out).mono ?_; rintro e wn ⟨rfl, hb⟩; have HR := Lib.hid (HR.out.below' hb); have HX := Lib.hid (HX.out.below' hb); have HIN := Lib.hid (inB_below HIN.out hb); have hn := kept_box HN.out hb; have HN := Lib.hid hn; have x0 := cell_whole hn 0; have x1 := cell_whole hn 1; have x2 := cell_whole hn 2; have HB := Lib.hid (HB.out.trans (hb.mono HB.out.size)); clear hn; clear hb))
      go_ret
      exact ⟨by simp, HB.out⟩
end
end Go.Proofs.Ytmflleifglefiaa
