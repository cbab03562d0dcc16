/- DecompWhole. -/
import Derived.Test.YtmflleifglefiaaDLcl
import Derived.Test.YtmflleifglefiaaDOnc
import Derived.BigQuiet
import Derived.Deep.QuietTactic
import Derived.Deep.RegionHeld3
namespace Go.Proofs.Ytmflleifglefiaa
open Go.RowKit
set_option linter.unusedVariables false

theorem partSum_app : ∀ a c : List Part, partSum (a ++ c) = partSum a + partSum c
  | [], c => by simp [partSum]
  | p :: a, c => by
    show p.2 + partSum (a ++ c) = p.2 + partSum a + partSum c
    rw [partSum_app a c]
    omega
theorem partSum_bd {M : Int} (hM : 0 ≤ M) : ∀ l : List Part, (∀ p ∈ l, 1 ≤ p.2 ∧ p.2 ≤ M) → 0 ≤ partSum l ∧ partSum l ≤ M * l.length
  | [], _ => by simp [partSum]
  | p :: l, h => by
    obtain ⟨h1, h2⟩ := partSum_bd hM l (fun q hq => h q (by simp [hq]))
    have h3 := h p (by simp)
    have e : partSum (p :: l) = p.2 + partSum l := rfl
    rw [e, List.length_cons, Int.natCast_succ, Int.mul_add]
    omega
/-- A flow's chains, with its cycles behind them. -/
def allP (Z : List ArcT) (N i j : Nat) (F : List Int) : List Part := chainsF Z N i j F ++ cycsF Z N F
structure AllIs (N i j : Nat) (Z : List ArcT) (F : List Int) (k : Int) : Prop where
  parts : Parts Z (allP Z N i j F)
  top : ∀ v, partAt v (allP Z N i j F) ≤ 1048576
  sum : sumP Z.length (allP Z N i j F) = F
  few : (chainsF Z N i j F).length + (cycsF Z N F).length ≤ Z.length
  val : partSum (chainsF Z N i j F) = k
  chn : ∀ p ∈ chainsF Z N i j F, PartIs Z i j p
  cyc : ∀ p ∈ cycsF Z N F, ∃ u, PartIs Z u u p
theorem all_is {N i j : Nat} {Z : List ArcT} {F : List Int} {k : Int} (h : SplitIs N i j Z F k) : AllIs N i j Z F k := by
  have hP : Parts Z (allP Z N i j F) := fun p hp => by
    rcases List.mem_append.1 hp with hp | hp
    · exact ⟨i, j, h.chn p hp⟩
    · obtain ⟨u, hu⟩ := h.cyc p hp
      exact ⟨u, u, hu⟩
  have ha : ∀ v, partAt v (allP Z N i j F) = atI F v := fun v => by
    have h1 := h.sum v
    have h2 := h.at_ v
    unfold allP
    rw [partAt_app]
    omega
  obtain ⟨_, _, hC1, _, _⟩ := netD (b := true) (right_iff.1 h.right)
  refine ⟨hP, fun v => ?_, atI_ext (by rw [sumP_len, h.st.1.1]) (fun v => by rw [sumP_at v _ hP, ha]), by have := h.few; omega, h.val, h.chn, h.cyc⟩
  rw [ha]
  by_cases hv : v < Z.length
  · have h2 := h.st.1.2 v _ (List.getElem?_eq_getElem hv)
    have h3 := hC1 _ (List.getElem_mem hv)
    omega
  · unfold atI
    rw [List.getD_eq_getElem?_getD, List.getElem?_eq_none (by rw [h.st.1.1]; omega)]
    decide
/-- What is known of a part in memory. -/
theorem part_mem {w : World} {ca : Option Addr} {X : List ChT} {P : List Part} (h : ChR w ca X P) {k : Nat} (hk : k < X.length) : ∃ (p : Part) (xa : Option Addr) (xc b o : Nat), P[k]? = some p ∧ ca = some ⟨b, o, none⟩ ∧ b < w.heap.size ∧ w.cell? ⟨b, o + k * 2, none⟩ = some (.slice xa p.1.length xc) ∧ w.cell? ⟨b, o + k * 2 + 1, none⟩ = some (.int .i64 p.2) ∧ Lst encI w xa (arcsL p.1) := by
  have hkP : k < P.length := by rw [← chR_len h]; exact hk
  have hkp : X[k].2 = partI P[k] := by
    have h1 := congrArg (fun l => l[k]?) h.2.2
    simp only [List.getElem?_map, List.getElem?_eq_getElem hk, List.getElem?_eq_getElem hkP, Option.map_some] at h1
    exact Option.some.inj h1
  obtain ⟨b1, o1, q1, hb1, s1, s2⟩ := chC_at h.1 (List.getElem?_eq_getElem hk)
  have hxl := h.2.1 _ (List.getElem_mem hk)
  generalize X[k] = x at *
  obtain ⟨⟨xa, xc⟩, xl, xk⟩ := x
  injection hkp with e1 e2
  simp only at e1 e2 hxl s1 s2
  refine ⟨P[k], xa, xc, b1, o1, List.getElem?_eq_getElem hkP, q1, hb1, ?_, ?_, ?_⟩
  · rw [s1, e1, arcsL_len]
  · rw [s2, e2]
  · rw [← e1]; exact hxl
theorem sameints_Z (zl : Nat) (A : List Int) (hz : A.length = zl) (aa ab : Option Addr) (ca cb : Nat) (w : World) (ha : Lst encI w aa A) (hb : Lst encI w ab A) (hl : zl ≤ 200000) :
    Calls Try.prog 15 #[.slice aa zl ca, .slice ab zl cb] w fun e w' => e = .returned (.bool true) ∧ Below w.heap.size w w' := by
  subst hz; exact sameints_eq A aa ab ca cb w ha hb hl
section
variable (n : Int) (b : Bool) (ao : Option Addr) (len cap : Nat) (Z : List ArcT)
set_option maxRecDepth 100000 in
set_option maxHeartbeats 8000000 in
theorem whole_law (s t : Int) (fo : Option Addr) (fl fc : Nat) (F : List Int) (w : World) (hl : Z.length = len) (hm : len ≤ maxLen) (hr : Row encA 4 w ao Z) (hl3 : F.length = fl) (hm3 : fl ≤ maxLen) (hf : Lst encI w fo F) (hnil : fo = none → fc = 0) :
    Calls Try.prog 6 #[.agg #[.int .i64 n, .bool b, .slice ao len cap], .int .i64 s, .int .i64 t, .slice fo fl fc] w fun e w' => e = .returned (.bool true) ∧ Below w.heap.size w w' := by
  subst hl
  have hb00 := (Below.refl _ w).alloc (Nat.le_refl _) (.cells #[.int .i64 n, .bool b, .slice ao Z.length cap] 24)
  have HB := Lib.hid hb00
  have HN := Lib.hid (heap_alloc_new w (.cells #[.int .i64 n, .bool b, .slice ao Z.length cap] 24))
  have HR := Lib.hid (hr.below' hb00)
  have HF := Lib.hid (hf.below hb00)
  have HM := Lib.hid hm
  have HNIL := Lib.hid hnil
  have HFM := Lib.hid hm3
  have HFL := Lib.hid hl3
  have x0 := cell_whole HN.out 0
  have x1 := cell_whole HN.out 1
  have x2 := cell_whole HN.out 2
  clear hr hm hf hnil hm3 hl3 hb00
  obtain ⟨e0, he⟩ : ∃ e0, splitE n Z s t F = e0 := ⟨_, rfl⟩
  have HE := Lib.hid he
  by_cases h0 : e0 = 0
  · subst h0
    obtain ⟨hv0, hk0⟩ := splitE_val he
    obtain ⟨N, i, j, rfl, rfl, rfl, hS⟩ := split_is he
    have hA := all_is hS
    have hz2 : Z.length ≤ 200 := (right_iff (b := true)).1 hS.right |>.2.1
    have hN1 := (right_iff (b := true)).1 hS.right |>.1
    have hN2 := nodesE_ok hN1
    simp only at hN2
    obtain ⟨hE1, hZ1, hC1, _, hN50⟩ := netD (b := true) (right_iff.1 hS.right)
    rw [Int.toNat_natCast] at hZ1 hN50
    have hcs : chainsE (N : Int) Z (i : Int) (j : Int) F = chainsF Z N i j F := by unfold chainsE; rw [if_pos he]; rfl
    have hys : cycsE (N : Int) Z (i : Int) (j : Int) F = cycsF Z N F := by unfold cycsE; rw [if_pos he]; rfl
    have hfz : fl = Z.length := by rw [← HFL.out]; exact hS.st.1.1
    obtain ⟨C, hC⟩ : ∃ C, chainsF Z N i j F = C := ⟨_, rfl⟩
    obtain ⟨D, hD⟩ : ∃ D, cycsF Z N F = D := ⟨_, rfl⟩
    obtain ⟨kv, hkv⟩ : ∃ kv, valK (N : Int) Z (i : Int) (j : Int) F = kv := ⟨_, rfl⟩
    have hall : allP Z N i j F = C ++ D := by unfold allP; rw [hC, hD]
    rw [hkv] at hA hk0
    have hfew := hA.few
    rw [hC, hD] at hfew
    have hval := hA.val
    rw [hC] at hval
    have HCH : Hid (∀ p ∈ C, PartIs Z i j p) := Lib.hid (by rw [← hC]; exact hA.chn)
    have HCY : Hid (∀ p ∈ D, ∃ u, PartIs Z u u p) := Lib.hid (by rw [← hD]; exact hA.cyc)
    have HPP : Hid (Parts Z (C ++ D)) := Lib.hid (by rw [← hall]; exact hA.parts)
    have HTP : Hid (∀ v, partAt v (C ++ D) ≤ 1048576) := Lib.hid (by rw [← hall]; exact hA.top)
    have HSM : Hid (sumP Z.length (C ++ D) = F) := Lib.hid (by rw [← hall]; exact hA.sum)
    have HPB : Hid (∀ p ∈ C ++ D, 1 ≤ p.2 ∧ p.2 ≤ 1048576) := Lib.hid (fun p hp => part_le HPP.out hp HTP.out)
    have HCS := Lib.hid (hcs.trans hC)
    have HYS := Lib.hid (hys.trans hD)
    have HVL := Lib.hid hval
    have HK1 := Lib.hid hkv
    have HE1 := Lib.hid hv0
    have HEN := Lib.hid hE1
    have HZN := Lib.hid hZ1
    have hkb : kv ≤ 209715200 := by
      have h1 := (partSum_bd (M := 1048576) (by omega) C (fun p hp => HPB.out p (by simp [hp]))).2
      omega
    have hkn : ¬ kv < 0 := by omega
    have hN5 : 1 ≤ N ∧ N ≤ 50 := ⟨by omega, hN50⟩
    subst hfz
    clear he hv0 hS hA hN1 hE1 hZ1 hC1 hcs hys hC hD hkv hall hval
    have hmk := fun W => run_make_row' (P := Try.prog) 25 3 (.int .i64 0) 8 Try.underlying25 infoInt rfl .i64 .i64 Z.length (by omega) (by omega) W
    have HMK := Lib.hid hmk
    clear hmk
    go_enter Try.func6, Try.ntmps6
    go_wp2_with (first
      | (go_at_call 13; refine (dawake_any _).mono ?_; rintro e wn ⟨rfl, hb⟩; have HR := Lib.hid (HR.out.below' hb); have HF := Lib.hid (HF.out.below hb); have hn := kept_box HN.out hb; have HN := Lib.hid hn; have x0 := cell_whole hn 0; have x1 := cell_whole hn 1; have x2 := cell_whole hn 2; clear hn; have HB := Lib.hid (HB.out.trans (hb.mono HB.out.size)); clear hb)
      | (go_at_call 9; refine (dsplit_one (N : Int) b ao fo cap fc Z.length Z.length Z F (i : Int) (j : Int) _ rfl HFL.out HR.out HF.out HM.out HFM.out).mono ?_; rw [HE.out, HCS.out, HYS.out]; rintro e wn ⟨c1, y1, cc1, yc1, X1, Y1, rfl, hx, hy, hb⟩; have HR := Lib.hid (HR.out.below' hb); have HF := Lib.hid (HF.out.below hb); have hn := kept_box HN.out hb; have HN := Lib.hid hn; have x0 := cell_whole hn 0; have x1 := cell_whole hn 1; have x2 := cell_whole hn 2; clear hn; have HB := Lib.hid (HB.out.trans (hb.mono HB.out.size)); have HX1 := Lib.hid hx; have HY1 := Lib.hid hy; clear hx hy; clear hb))
    refine (rscheck_L (N : Int) b ao fo cap fc Z.length Z (i : Int) (j : Int) F _ HFL.out HR.out HF.out HM.out HFM.out).mono ?_
    rw [HK1.out, HE1.out]
    rintro e wn ⟨rfl, hb⟩
    have HR := Lib.hid (HR.out.below' hb)
    have HF := Lib.hid (HF.out.below hb)
    have HX1 := Lib.hid (HX1.out.below hb)
    have HY1 := Lib.hid (HY1.out.below hb)
    have hn := kept_box HN.out hb
    have HN := Lib.hid hn
    have x0 := cell_whole hn 0
    have x1 := cell_whole hn 1
    have x2 := cell_whole hn 2
    clear hn
    have HB := Lib.hid (HB.out.trans (hb.mono HB.out.size))
    clear hb
    have hxl := chR_len HX1.out
    have hyl := chR_len HY1.out
    have HXN := Lib.hid hxl
    have HYN := Lib.hid hyl
    have hng : ¬ ((X1.length : Int) + (Y1.length : Int) > (Z.length : Int)) := by omega
    have hx2 : C.length ≤ 200 := by omega
    have hy2 : D.length ≤ 200 := by omega
    have hmk := HMK.out
    go_wp2
    clear hng hmk HMK hxl hyl x0 x1 x2
    have hmb := (Below.refl _ wn).alloc (Nat.le_refl _) (.cells (madeCells #[.int .i64 0] Z.length) 3)
    have hmo := madeC wn wn.heap.size Z.length (Nat.le_refl _) (by omega)
    obtain ⟨g3, hg3⟩ : ∃ g3, wn.heap.size = g3 := ⟨_, rfl⟩
    have HG3 := Lib.hid hg3
    have HMB := Lib.hid hmb
    have HMO : Hid (OwnL encI (wn.alloc (.cells (madeCells #[.int .i64 0] Z.length) 3)) wn.heap.size 3 (.slice (some ⟨g3, 0, none⟩) Z.length Z.length) (sumP Z.length ((C ++ D).take 0))) := Lib.hid (by rw [← hg3]; exact hmo)
    clear hmb hmo
    try rw [hg3]
    generalize wn.alloc (.cells (madeCells #[.int .i64 0] Z.length) 3) = w5 at *
    clear hg3
    obtain ⟨g0, hg0⟩ : ∃ g0, w.heap.size = g0 := ⟨_, rfl⟩
    have HG0 := Lib.hid hg0
    rw [hg0] at HN
    try rw [hg0]
    clear hg0
    go_loopw [13, 16] (fun vv iv wr => ∃ k : Nat, k ≤ C.length ∧ iv = .int .i64 (k : Int) ∧ vv = .int .i64 (kv - partSum (C.take k)) ∧ Hid (OwnL encI wr wn.heap.size 3 (.slice (some ⟨g3, 0, none⟩) Z.length Z.length) (sumP Z.length ((C ++ D).take k))) ∧ Hid (Below wn.heap.size wn wr)) (fun _ iv _ => C.length - (intOf iv).toNat)
    case atStart => exact ⟨0, Nat.zero_le _, rfl, by simp [partSum], HMO, HMB⟩
    case round =>
      clear HMO HMB
      obtain ⟨k, hk, rfl, rfl, HO, HW⟩ := hrel
      by_cases hlt : k < C.length
      · have hli : (k : Int) < (C.length : Int) := by omega
        have hnw := kept_box HN.out HW.out
        obtain ⟨p, xa, xc, b1, o1, hkp, q1, hb1, t1, t2, hxl⟩ := part_mem HX1.out (by rw [HXN.out]; exact hlt)
        subst q1
        have hkC : k < (C ++ D).length := by rw [List.length_append]; have := (List.getElem?_eq_some_iff.1 hkp).1; omega
        have hce : (C ++ D)[k] = p := by
          have h1 : (C ++ D)[k]? = some p := by rw [List.getElem?_append_left (List.getElem?_eq_some_iff.1 hkp).1]; exact hkp
          rw [List.getElem?_eq_getElem hkC] at h1
          exact Option.some.inj h1
        have hbd := clean_bd HPP.out HTP.out hkC
        have hTS : sumP Z.length ((C ++ D).take (k + 1)) = takeK (-p.2) (sumP Z.length ((C ++ D).take (k))) p.1 := by
          have e := List.take_succ_eq_append_getElem hkC
          rw [e, sumP_snoc (Z := Z) (by rw [← e]; exact fun q hq => HPP.out q (List.mem_of_mem_take hq)), hce]
        have HSL : Hid ((sumP Z.length ((C ++ D).take (k))).length = Z.length) := Lib.hid (sumP_len _ _)
        rw [hce] at hbd
        obtain ⟨hK1, hK2⟩ := HPB.out p (by rw [← hce]; exact List.getElem_mem hkC)
        have hpi := HCH.out p (List.mem_of_getElem? hkp)
        obtain ⟨l, K⟩ := p
        simp only at hbd hTS hK1 hK2 hpi hxl t1 t2
        have HPI := Lib.hid hpi
        have hMs := part_short hpi
        obtain ⟨M, hlM⟩ : ∃ M, l.length = M := ⟨_, rfl⟩
        simp only at hMs
        rw [hlM] at t1 hbd hMs
        have hl0 : 0 < M := by rw [← hlM]; exact List.length_pos_iff.2 hpi.2.1
        have HALL : Hid (∀ x ∈ l, ∃ p : Nat, x.1 = (p : Int) ∧ p < Z.length) := Lib.hid (fun x hx => isArc_nat (trail_isArc hpi.1 x hx))
        have HTRL := Lib.hid hpi.1
        have HBD := Lib.hid hbd
        have HTS := Lib.hid hTS
        have HLM := Lib.hid hlM
        have HXL := Lib.hid hxl
        have s1 := cell_below HW.out t1
        have s2 := cell_below HW.out t2
        have x0 := cell_whole hnw 0
        have x1 := cell_whole hnw 1
        have x2 := cell_whole hnw 2
        obtain ⟨S, hS⟩ : ∃ S, sumP Z.length ((C ++ D).take (k)) = S := ⟨_, rfl⟩
        rw [hS] at HSL HTS HBD HO
        have hk1 : decide (K < 1) = false := decide_eq_false (by omega)
        have hbd1 := partSum_bd (M := 1048576) (by omega) (C.take k) (fun p hp => HPB.out p (by simp [List.mem_of_mem_take hp]))
        have hlk : (C.take k).length ≤ 200 := by rw [List.length_take]; omega
        obtain ⟨v0, hv0⟩ : ∃ v0, kv - partSum (C.take k) = v0 := ⟨_, rfl⟩
        have HVN : Hid (kv - partSum (C.take (k + 1)) = v0 - K) := Lib.hid (by
          obtain ⟨hq1, hq2⟩ := List.getElem?_eq_some_iff.1 hkp
          rw [List.take_succ_eq_append_getElem hq1, partSum_app, hq2, ← hv0]
          simp only [partSum]
          omega)
        have hw1 : IntKind.i64.wrap (v0 - K) = v0 - K := IntWalk.i64_in _ (by omega)
        rw [hv0]
        clear hbd1 hlk hv0
        clear hbd hTS hlM hxl hpi hce hkC hkp hnw hS
        go_wp2_with fail
        go_cut [108] (fun pv wc => pv = .bool false ∧ Hid (OwnL encI wc wn.heap.size 3 (.slice (some ⟨g3, 0, none⟩) Z.length Z.length) S) ∧ Hid (Below wn.heap.size wn wc))
        case first =>
          have bD := Lib.hid (below_drew (Below.refl wr.heap.size wr))
          have HRx := Lib.hid (HR.out.below' (HW.out.trans (bD.out.mono HW.out.size)))
          have HLx := Lib.hid (HXL.out.below (HW.out.trans (bD.out.mono HW.out.size)))
          have HWx := Lib.hid (HW.out.trans (bD.out.mono HW.out.size))
          have HOx := Lib.hid (HO.out.below bD.out)
          have z0 := cell_below bD.out x0
          have z1 := cell_below bD.out x1
          have z2 := cell_below bD.out x2
          have z3 := cell_below bD.out s1
          have z4 := cell_below bD.out s2
          go_region_held3 (fun W => W.cell? ⟨g0, 0, none⟩ = some (.int .i64 (N : Int)) ∧ W.cell? ⟨g0, 1, none⟩ = some (.bool b) ∧ W.cell? ⟨g0, 2, none⟩ = some (.slice ao Z.length cap) ∧ W.cell? ⟨b1, o1 + k * 2, none⟩ = some (.slice xa M xc) ∧ W.cell? ⟨b1, o1 + k * 2 + 1, none⟩ = some (.int .i64 K)) (first | exact ⟨x0, x1, x2, s1, s2⟩ | exact ⟨z0, z1, z2, z3, z4⟩ | go_keep)
            (first | (go_at_call 22; refine (once_at N b ao xa cap xc M Z.length Z l K i j _ HRx.out HLx.out HLM.out rfl hz2 hN5 HEN.out HZN.out HPI.out).mono ?_; rintro e w7 ⟨rfl, b6⟩; have HWx := Lib.hid (HWx.out.trans (b6.mono HWx.out.size)); have HOx := Lib.hid (HOx.out.below b6); have z0 := cell_below b6 z0; have z1 := cell_below b6 z1; have z2 := cell_below b6 z2; have z3 := cell_below b6 z3; have z4 := cell_below b6 z4; clear b6))
          all_goals
            go_wp2
            go_meet
            exact ⟨rfl, HOx, HWx⟩
        case rest =>
          obtain ⟨rfl, HOC, HWC⟩ := hcut
          clear x0 x1 x2 s1 s2
          have hnw := kept_box HN.out HWC.out
          have x0 := cell_whole hnw 0
          have x1 := cell_whole hnw 1
          have x2 := cell_whole hnw 2
          have s1 := cell_below HWC.out t1
          have s2 := cell_below HWC.out t2
          clear hnw HO HW
          go_wp2
          go_loopw [17] (fun iv wz => ∃ m : Nat, m ≤ M ∧ iv = .int .i64 (m : Int) ∧ Hid (OwnL encI wz wn.heap.size 3 (.slice (some ⟨g3, 0, none⟩) Z.length Z.length) (takeK (-K) S (l.take m))) ∧ Hid (Below wn.heap.size wn wz)) (fun iv _ => M - (intOf iv).toNat)
          case atStart => exact ⟨0, Nat.zero_le _, rfl, HOC, HWC⟩
          case round =>
            clear HOC HWC x0 x1 x2 s1 s2
            obtain ⟨m, hm, rfl, HO, HW⟩ := hrel
            have s1 := cell_below HW.out t1
            have s2 := cell_below HW.out t2
            by_cases hlt2 : m < M
            · have hli2 : (m : Int) < (M : Int) := by omega
              have hml : m < l.length := by rw [HLM.out]; exact hlt2
              obtain ⟨p, hp, hpl2⟩ := HALL.out _ (List.getElem_mem hml)
              have hpi : (p : Int) < (Z.length : Int) := by omega
              obtain ⟨ab2, ax2, e1, _, a0⟩ := lst_cell (HXL.out.below HW.out) (arcsL_at hml)
              cases e1
              have HTK := Lib.hid (takeK_snoc (-K) S (l.take m) l[m])
              obtain ⟨d0, d1⟩ := HBD.out m hm p hpl2
              have HFN := Lib.hid (takeK_len (-K) (l.take m) S)
              have HT2 : Hid (l.take (m + 1) = l.take m ++ [l[m]]) := Lib.hid (List.take_succ_eq_append_getElem hml)
              rw [hp] at a0 HTK
              rw [Int.toNat_natCast] at HTK
              have hX := atI_get (d := takeK (-K) S (l.take m)) (v := p) (by rw [HFN.out, HSL.out]; exact hpl2)
              obtain ⟨cy, fy⟩ := HO.out.cell hX
              unfold encI at cy a0
              have HST : Hid (takeK (-K) S (l.take (m + 1)) = (takeK (-K) S (l.take m)).set p (atI (takeK (-K) S (l.take m)) p + K)) := Lib.hid (by rw [HT2.out, HTK.out, Int.sub_neg])
              clear hX hp hml HTK HT2
              generalize takeK (-K) S (l.take m) = G at *
              generalize atI G p = y at *
              have hwr : IntKind.i64.wrap (y + K) = y + K := IntWalk.i64_in _ (by omega)
              have hgb : wn.heap.size ≤ g3 := by rw [HG3.out]; exact Nat.le_refl _
              go_wp2_with fail
              go_region
              go_wp2
              go_roundw
              case rel => exact ⟨m + 1, by omega, by go_num, Lib.hid (by rw [HST.out]; exact (HO.out.put p _).below (below_drew (Below.refl _ _))), Lib.hid (below_drew (below_set HW.out hgb _))⟩
              case measure => simp [intOf]; omega
            · have hli2 : ¬ (m : Int) < (M : Int) := by omega
              have HTE : Hid (takeK (-K) S (l.take m) = takeK (-K) S l) := Lib.hid (by rw [List.take_of_length_le (by rw [HLM.out]; omega)])
              rw [HTE.out] at HO
              go_wp2
              go_roundw
              case rel => exact ⟨k + 1, by omega, by go_num, by rw [HVN.out], Lib.hid (by rw [HTS.out]; exact HO.out), HW⟩
              case measure => simp [intOf]; omega
      · have hli : ¬ (k : Int) < (C.length : Int) := by omega
        obtain rfl : k = C.length := by omega
        have hv0 : kv - partSum (C.take C.length) = 0 := by rw [List.take_length, HVL.out]; omega
        rw [hv0]
        have HOA : Hid (OwnL encI wr wn.heap.size 3 (.slice (some ⟨g3, 0, none⟩) Z.length Z.length) (sumP Z.length ((C ++ D).take (C.length + 0)))) := HO
        have HWA := HW
        clear HO HW hv0
        go_wp2
        go_loopw [18] (fun iv wr => ∃ k : Nat, k ≤ D.length ∧ iv = .int .i64 (k : Int) ∧ Hid (OwnL encI wr wn.heap.size 3 (.slice (some ⟨g3, 0, none⟩) Z.length Z.length) (sumP Z.length ((C ++ D).take (C.length + k)))) ∧ Hid (Below wn.heap.size wn wr)) (fun iv _ => D.length - (intOf iv).toNat)
        case atStart => exact ⟨0, Nat.zero_le _, rfl, HOA, HWA⟩
        case round =>
          clear HOA HWA
          obtain ⟨k, hk, rfl, HO, HW⟩ := hrel
          by_cases hlt : k < D.length
          · have hli : (k : Int) < (D.length : Int) := by omega
            have hnw := kept_box HN.out HW.out
            obtain ⟨p, xa, xc, b1, o1, hkp, q1, hb1, t1, t2, hxl⟩ := part_mem HY1.out (by rw [HYN.out]; exact hlt)
            subst q1
            have hkC : C.length + k < (C ++ D).length := by rw [List.length_append]; have := (List.getElem?_eq_some_iff.1 hkp).1; omega
            have hce : (C ++ D)[C.length + k] = p := by
              have h1 : (C ++ D)[C.length + k]? = some p := by rw [List.getElem?_append_right (by omega), Nat.add_sub_cancel_left]; exact hkp
              rw [List.getElem?_eq_getElem hkC] at h1
              exact Option.some.inj h1
            have hbd := clean_bd HPP.out HTP.out hkC
            have hTS : sumP Z.length ((C ++ D).take (C.length + k + 1)) = takeK (-p.2) (sumP Z.length ((C ++ D).take (C.length + k))) p.1 := by
              have e := List.take_succ_eq_append_getElem hkC
              rw [e, sumP_snoc (Z := Z) (by rw [← e]; exact fun q hq => HPP.out q (List.mem_of_mem_take hq)), hce]
            have HSL : Hid ((sumP Z.length ((C ++ D).take (C.length + k))).length = Z.length) := Lib.hid (sumP_len _ _)
            rw [hce] at hbd
            obtain ⟨hK1, hK2⟩ := HPB.out p (by rw [← hce]; exact List.getElem_mem hkC)
            obtain ⟨u, hpi⟩ := HCY.out p (List.mem_of_getElem? hkp)
            obtain ⟨l, K⟩ := p
            simp only at hbd hTS hK1 hK2 hpi hxl t1 t2
            have HPI := Lib.hid hpi
            have hMs := part_short hpi
            obtain ⟨M, hlM⟩ : ∃ M, l.length = M := ⟨_, rfl⟩
            simp only at hMs
            rw [hlM] at t1 hbd hMs
            have hl0 : 0 < M := by rw [← hlM]; exact List.length_pos_iff.2 hpi.2.1
            have HALL : Hid (∀ x ∈ l, ∃ p : Nat, x.1 = (p : Int) ∧ p < Z.length) := Lib.hid (fun x hx => isArc_nat (trail_isArc hpi.1 x hx))
            have HTRL := Lib.hid hpi.1
            have HBD := Lib.hid hbd
            have HTS := Lib.hid hTS
            have HLM := Lib.hid hlM
            have HXL := Lib.hid hxl
            have s1 := cell_below HW.out t1
            have s2 := cell_below HW.out t2
            have x0 := cell_whole hnw 0
            have x1 := cell_whole hnw 1
            have x2 := cell_whole hnw 2
            obtain ⟨S, hS⟩ : ∃ S, sumP Z.length ((C ++ D).take (C.length + k)) = S := ⟨_, rfl⟩
            rw [hS] at HSL HTS HBD HO
            have hk1 : decide (K < 1) = false := decide_eq_false (by omega)
            clear hbd hTS hlM hxl hpi hce hkC hkp hnw hS
            have ha0 : 0 < l.length := by rw [HLM.out]; exact hl0
            obtain ⟨hq1, hq2, p0, hp0, hpz0⟩ := part_at (N := N) HPI.out ha0
            clear hq1 hq2
            have hpi0 : (p0 : Int) < (Z.length : Int) := by omega
            have hfr0 : fromS Z l[0] = u := (trail_at HTRL.out ha0).1
            obtain ⟨lb, lx, e, _, a0⟩ := lst_cell (HXL.out.below HW.out) (arcsL_at ha0)
            subst e
            obtain ⟨ab, ax, e, hab, d0, d1, d2, d3⟩ := (HR.out.below' HW.out).arc hpz0
            subst e
            obtain ⟨a1, a2⟩ := HEN.out _ (List.getElem_mem hpz0)
            rw [hp0, (fromS_at (List.getElem?_eq_getElem hpz0)).1] at hfr0
            rw [hp0] at a0
            unfold encI at a0
            simp only at a0
            have a00 : wr.cell? ⟨lb, lx, none⟩ = some (.int .i64 (p0 : Int)) := a0
            have a01 : wr.cell? ⟨lb, lx + 0, none⟩ = some (.int .i64 (p0 : Int)) := a0
            rw [a1, hfr0] at d0
            have t5 : decide ((p0 : Int) < 0) = false := decide_eq_false (by omega)
            have t6 : decide (Z.length ≤ p0) = false := decide_eq_false (by omega)
            have t7 : ((M : Int) == 0) = false := by simp; omega
            have t8 : decide (M = 0) = false := decide_eq_false (by omega)
            clear hfr0 d1 d2 d3 a1 a2 hab hp0 ha0 hpz0
            go_wp2_with fail
            go_quiet (fail)
            go_wp2_with fail
            go_quiet (fail)
            go_wp2_with fail
            generalize hwd : (wr.drewN _).drewN _ = wd
            have HW := Lib.hid (show Below wn.heap.size wn wd by rw [← hwd]; exact below_drewN (below_drewN HW.out _) _)
            have HO := Lib.hid (show OwnL encI wd wn.heap.size 3 (.slice (some ⟨g3, 0, none⟩) Z.length Z.length) S by rw [← hwd]; exact (HO.out.below (below_drewN (Below.refl _ _) _)).below (below_drewN (Below.refl _ _) _))
            clear hwd x0 x1 x2 s1 s2 a0 a00 a01 d0
            have hnw := kept_box HN.out HW.out
            have x0 := cell_whole hnw 0
            have x1 := cell_whole hnw 1
            have x2 := cell_whole hnw 2
            have s1 := cell_below HW.out t1
            have s2 := cell_below HW.out t2
            clear hnw
            go_cut [218] (fun pv wc => pv = .bool false ∧ Hid (OwnL encI wc wn.heap.size 3 (.slice (some ⟨g3, 0, none⟩) Z.length Z.length) S) ∧ Hid (Below wn.heap.size wn wc))
            case first =>
              have bD := Lib.hid (below_drew (Below.refl wd.heap.size wd))
              have HRx := Lib.hid (HR.out.below' (HW.out.trans (bD.out.mono HW.out.size)))
              have HLx := Lib.hid (HXL.out.below (HW.out.trans (bD.out.mono HW.out.size)))
              have HWx := Lib.hid (HW.out.trans (bD.out.mono HW.out.size))
              have HOx := Lib.hid (HO.out.below bD.out)
              have z0 := cell_below bD.out x0
              have z1 := cell_below bD.out x1
              have z2 := cell_below bD.out x2
              have z3 := cell_below bD.out s1
              have z4 := cell_below bD.out s2
              go_region_held3 (fun W => W.cell? ⟨g0, 0, none⟩ = some (.int .i64 (N : Int)) ∧ W.cell? ⟨g0, 1, none⟩ = some (.bool b) ∧ W.cell? ⟨g0, 2, none⟩ = some (.slice (some ⟨ab, ax, none⟩) Z.length cap) ∧ W.cell? ⟨b1, o1 + k * 2, none⟩ = some (.slice (some ⟨lb, lx, none⟩) M xc) ∧ W.cell? ⟨b1, o1 + k * 2 + 1, none⟩ = some (.int .i64 K)) (first | exact ⟨x0, x1, x2, s1, s2⟩ | exact ⟨z0, z1, z2, z3, z4⟩ | go_keep)
                (first | (go_at_call 22; refine (once_at N b (some ⟨ab, ax, none⟩) (some ⟨lb, lx, none⟩) cap xc M Z.length Z l K u u _ HRx.out HLx.out HLM.out rfl hz2 hN5 HEN.out HZN.out HPI.out).mono ?_; rintro e w7 ⟨rfl, b6⟩; have HWx := Lib.hid (HWx.out.trans (b6.mono HWx.out.size)); have HOx := Lib.hid (HOx.out.below b6); have z0 := cell_below b6 z0; have z1 := cell_below b6 z1; have z2 := cell_below b6 z2; have z3 := cell_below b6 z3; have z4 := cell_below b6 z4; clear b6))
              all_goals
                go_wp2
                go_meet
                exact ⟨rfl, HOx, HWx⟩
            case rest =>
              obtain ⟨rfl, HOC, HWC⟩ := hcut
              clear x0 x1 x2 s1 s2
              have hnw := kept_box HN.out HWC.out
              have x0 := cell_whole hnw 0
              have x1 := cell_whole hnw 1
              have x2 := cell_whole hnw 2
              have s1 := cell_below HWC.out t1
              have s2 := cell_below HWC.out t2
              clear hnw HO HW
              go_wp2
              go_loopw [20] (fun iv wz => ∃ m : Nat, m ≤ M ∧ iv = .int .i64 (m : Int) ∧ Hid (OwnL encI wz wn.heap.size 3 (.slice (some ⟨g3, 0, none⟩) Z.length Z.length) (takeK (-K) S (l.take m))) ∧ Hid (Below wn.heap.size wn wz)) (fun iv _ => M - (intOf iv).toNat)
              case atStart => exact ⟨0, Nat.zero_le _, rfl, HOC, HWC⟩
              case round =>
                clear HOC HWC x0 x1 x2 s1 s2
                obtain ⟨m, hm, rfl, HO, HW⟩ := hrel
                have s1 := cell_below HW.out t1
                have s2 := cell_below HW.out t2
                by_cases hlt2 : m < M
                · have hli2 : (m : Int) < (M : Int) := by omega
                  have hml : m < l.length := by rw [HLM.out]; exact hlt2
                  obtain ⟨p, hp, hpl2⟩ := HALL.out _ (List.getElem_mem hml)
                  have hpi : (p : Int) < (Z.length : Int) := by omega
                  obtain ⟨ab2, ax2, e1, _, a0⟩ := lst_cell (HXL.out.below HW.out) (arcsL_at hml)
                  cases e1
                  have HTK := Lib.hid (takeK_snoc (-K) S (l.take m) l[m])
                  obtain ⟨d0, d1⟩ := HBD.out m hm p hpl2
                  have HFN := Lib.hid (takeK_len (-K) (l.take m) S)
                  have HT2 : Hid (l.take (m + 1) = l.take m ++ [l[m]]) := Lib.hid (List.take_succ_eq_append_getElem hml)
                  rw [hp] at a0 HTK
                  rw [Int.toNat_natCast] at HTK
                  have hX := atI_get (d := takeK (-K) S (l.take m)) (v := p) (by rw [HFN.out, HSL.out]; exact hpl2)
                  obtain ⟨cy, fy⟩ := HO.out.cell hX
                  unfold encI at cy a0
                  have HST : Hid (takeK (-K) S (l.take (m + 1)) = (takeK (-K) S (l.take m)).set p (atI (takeK (-K) S (l.take m)) p + K)) := Lib.hid (by rw [HT2.out, HTK.out, Int.sub_neg])
                  clear hX hp hml HTK HT2
                  generalize takeK (-K) S (l.take m) = G at *
                  generalize atI G p = y at *
                  have hwr : IntKind.i64.wrap (y + K) = y + K := IntWalk.i64_in _ (by omega)
                  have hgb : wn.heap.size ≤ g3 := by rw [HG3.out]; exact Nat.le_refl _
                  go_wp2_with fail
                  go_region
                  go_wp2
                  go_roundw
                  case rel => exact ⟨m + 1, by omega, by go_num, Lib.hid (by rw [HST.out]; exact (HO.out.put p _).below (below_drew (Below.refl _ _))), Lib.hid (below_drew (below_set HW.out hgb _))⟩
                  case measure => simp [intOf]; omega
                · have hli2 : ¬ (m : Int) < (M : Int) := by omega
                  have HTE : Hid (takeK (-K) S (l.take m) = takeK (-K) S l) := Lib.hid (by rw [List.take_of_length_le (by rw [HLM.out]; omega)])
                  rw [HTE.out] at HO
                  go_wp2
                  go_roundw
                  case rel => exact ⟨k + 1, by omega, by go_num, Lib.hid (by rw [← Nat.add_assoc, HTS.out]; exact HO.out), HW⟩
                  case measure => simp [intOf]; omega
          · have hli : ¬ (k : Int) < (D.length : Int) := by omega
            obtain rfl : k = D.length := by omega
            have HOE : Hid (OwnL encI wr wn.heap.size 3 (.slice (some ⟨g3, 0, none⟩) Z.length Z.length) F) := Lib.hid (by have h1 := HO.out; rwa [List.take_of_length_le (by rw [List.length_append]; exact Nat.le_refl _), HSM.out] at h1)
            clear HO
            go_wp2_with (first | (go_at_call 15; refine (sameints_Z Z.length F HFL.out (some ⟨g3, 0, none⟩) fo Z.length fc _ HOE.out.lstK (HF.out.below HW.out) (by omega)).mono ?_; rintro e w9 ⟨rfl, hb⟩; have HW9 := Lib.hid (HW.out.trans (hb.mono HW.out.size)); clear hb))
            go_ret
            exact ⟨by simp, HB.out.trans (HW9.out.mono HB.out.size)⟩
  · skip
    have hf1 : (e0 != 0) = true := by simpa using h0
    have hf2 : (e0 == 0) = false := by simpa using h0
    have HC0 : Hid (chainsE n Z s t F = []) := Lib.hid (by unfold chainsE; rw [if_neg (by rw [he]; exact h0)])
    have HY0 : Hid (cycsE n Z s t F = []) := Lib.hid (by unfold cycsE; rw [if_neg (by rw [he]; exact h0)])
    obtain ⟨e1, he1⟩ : ∃ e1, valE n Z s t F = e1 := ⟨_, rfl⟩
    obtain ⟨k1, hk1⟩ : ∃ k1, valK n Z s t F = k1 := ⟨_, rfl⟩
    have HE1 := Lib.hid he1
    have HK1 := Lib.hid hk1
    by_cases h1 : e1 = 0
    · subst h1
      have hk0 : k1 < 0 := by
        refine Classical.byContradiction fun hk => h0 ?_
        rw [← he]
        unfold splitE
        rw [if_pos he1, hk1, if_neg hk]
      have H0 := Lib.hid h0
      clear h0 he he1 hk1
      go_enter Try.func6, Try.ntmps6
      go_wp2_with (first
        | (go_at_call 13; refine (dawake_any _).mono ?_; rintro e wn ⟨rfl, hb⟩; have HR := Lib.hid (HR.out.below' hb); have HF := Lib.hid (HF.out.below hb); have hn := kept_box HN.out hb; have HN := Lib.hid hn; have x0 := cell_whole hn 0; have x1 := cell_whole hn 1; have x2 := cell_whole hn 2; clear hn; have HB := Lib.hid (HB.out.trans (hb.mono HB.out.size)); clear hb)
        | (go_at_call 9; refine (dsplit_one n b ao fo cap fc Z.length fl Z F s t _ rfl HFL.out HR.out HF.out HM.out HFM.out).mono ?_; rw [HE.out]; rintro e wn ⟨c1, y1, cc1, yc1, X1, Y1, rfl, hx, hy, hb⟩; have HR := Lib.hid (HR.out.below' hb); have HF := Lib.hid (HF.out.below hb); have hn := kept_box HN.out hb; have HN := Lib.hid hn; have x0 := cell_whole hn 0; have x1 := cell_whole hn 1; have x2 := cell_whole hn 2; clear hn; have HB := Lib.hid (HB.out.trans (hb.mono HB.out.size)); have HX1 := Lib.hid hx; have HY1 := Lib.hid hy; clear hx hy; clear hb)
        | (go_at_call 21; refine (rscheck_L n b ao fo cap fc fl Z s t F _ HFL.out HR.out HF.out HM.out HFM.out).mono ?_; rw [HK1.out, HE1.out]; rintro e wn ⟨rfl, hb⟩; have HR := Lib.hid (HR.out.below' hb); have HF := Lib.hid (HF.out.below hb); have HX1 := Lib.hid (HX1.out.below hb); have HY1 := Lib.hid (HY1.out.below hb); have hn := kept_box HN.out hb; have HN := Lib.hid hn; have x0 := cell_whole hn 0; have x1 := cell_whole hn 1; have x2 := cell_whole hn 2; clear hn; have HB := Lib.hid (HB.out.trans (hb.mono HB.out.size)); clear hb))
      have e1 := chR_len HX1.out
      have e2 := chR_len HY1.out
      rw [HC0.out, List.length_nil] at e1
      rw [HY0.out, List.length_nil] at e2
      go_ret
      exact ⟨by simp [e1, e2, show wrap64 0 = 0 by unfold wrap64; omega], HB.out⟩
    · have hs1 : e0 = e1 := by rw [← he, ← he1]; unfold splitE; rw [if_neg (by rw [he1]; exact h1)]
      subst hs1
      clear h0 he he1 hk1
      have q1 : (e0 == e0) = true := by simp
      go_enter Try.func6, Try.ntmps6
      go_wp2_with (first
        | (go_at_call 13; refine (dawake_any _).mono ?_; rintro e wn ⟨rfl, hb⟩; have HR := Lib.hid (HR.out.below' hb); have HF := Lib.hid (HF.out.below hb); have hn := kept_box HN.out hb; have HN := Lib.hid hn; have x0 := cell_whole hn 0; have x1 := cell_whole hn 1; have x2 := cell_whole hn 2; clear hn; have HB := Lib.hid (HB.out.trans (hb.mono HB.out.size)); clear hb)
        | (go_at_call 9; refine (dsplit_one n b ao fo cap fc Z.length fl Z F s t _ rfl HFL.out HR.out HF.out HM.out HFM.out).mono ?_; rw [HE.out]; rintro e wn ⟨c1, y1, cc1, yc1, X1, Y1, rfl, hx, hy, hb⟩; have HR := Lib.hid (HR.out.below' hb); have HF := Lib.hid (HF.out.below hb); have hn := kept_box HN.out hb; have HN := Lib.hid hn; have x0 := cell_whole hn 0; have x1 := cell_whole hn 1; have x2 := cell_whole hn 2; clear hn; have HB := Lib.hid (HB.out.trans (hb.mono HB.out.size)); have HX1 := Lib.hid hx; have HY1 := Lib.hid hy; clear hx hy; clear hb)
        | (go_at_call 21; refine (rscheck_L n b ao fo cap fc fl Z s t F _ HFL.out HR.out HF.out HM.out HFM.out).mono ?_; rw [HK1.out, HE1.out]; rintro e wn ⟨rfl, hb⟩; have HR := Lib.hid (HR.out.below' hb); have HF := Lib.hid (HF.out.below hb); have HX1 := Lib.hid (HX1.out.below hb); have HY1 := Lib.hid (HY1.out.below hb); have hn := kept_box HN.out hb; have HN := Lib.hid hn; have x0 := cell_whole hn 0; have x1 := cell_whole hn 1; have x2 := cell_whole hn 2; clear hn; have HB := Lib.hid (HB.out.trans (hb.mono HB.out.size)); clear hb))
      have e1 := chR_len HX1.out
      have e2 := chR_len HY1.out
      rw [HC0.out, List.length_nil] at e1
      rw [HY0.out, List.length_nil] at e2
      go_ret
      exact ⟨by simp [e1, e2, show wrap64 0 = 0 by unfold wrap64; omega], HB.out⟩
end
end Go.Proofs.Ytmflleifglefiaa
