/- ExpandRuns. -/
import Derived.Test.YtbkmfjegbmjknaaSup
import Derived.Test.YtbkmfjegbmjknaaUSmf
import Derived.Test.YtbkmfjegbmjknaaCD
import Derived.Test.YtbkmfjegbmjknaaBY
import Derived.Test.YtbkmfjegbmjknaaCG
import Derived.Test.YtbkmfjegbmjknaaCC
import Derived.Test.YtbkmfjegbmjknaaXBest
namespace Go.Proofs.Ytbkmfjegbmjknaa
open Go.RowKit
set_option linter.unusedVariables false
theorem wide_exp {E : Exp} (hG : E.Good) (hW : SpanNet E.Z E.N) (hl : E.kinds.length ≤ 50000) (hn : E.last + 1 ≤ 100000) : WideNet E.net (E.last + 1) where
  ends := fun a ha => by
    unfold Exp.net at ha
    obtain ⟨k, hk, rfl⟩ := List.mem_map.1 ha
    rcases Exp.kinds_cases hk with ⟨i, u, rfl, ho⟩ | ⟨v, u, _, rfl, _⟩ | ⟨u, _, rfl⟩ | ⟨u, _, rfl⟩
    · obtain ⟨a, ha, _⟩ := E.ok_arc ho
      have e4 : E.arcKd (Kd.mv i u) = ((E.slot (frN a) u : Int), (E.slot (toN a) (u + tmN a) : Int), capN a, 0) := by simp only [Exp.arcKd, ha]
      rw [e4]
      exact ⟨rfl, rfl⟩
    · exact ⟨rfl, rfl⟩
    · exact ⟨rfl, rfl⟩
    · exact ⟨rfl, rfl⟩
  lt := Exp.net_ends hG
  caps := fun a ha => by
    unfold Exp.net at ha
    obtain ⟨k, hk, rfl⟩ := List.mem_map.1 ha
    rcases Exp.kinds_cases hk with ⟨i, u, rfl, ho⟩ | ⟨v, u, _, rfl, _⟩ | ⟨u, _, rfl⟩ | ⟨u, _, rfl⟩
    · obtain ⟨a, ha, _⟩ := E.ok_arc ho
      have e4 : E.arcKd (Kd.mv i u) = ((E.slot (frN a) u : Int), (E.slot (toN a) (u + tmN a) : Int), capN a, 0) := by simp only [Exp.arcKd, ha]
      rw [e4]
      have := hW.caps a (List.mem_of_getElem? ha)
      show 0 ≤ capN a ∧ capN a ≤ _
      omega
    · exact (show (0 : Int) ≤ 1099511627776 ∧ (1099511627776 : Int) ≤ 4398046511104 from ⟨by decide, by decide⟩)
    · exact (show (0 : Int) ≤ 1099511627776 ∧ (1099511627776 : Int) ≤ 4398046511104 from ⟨by decide, by decide⟩)
    · exact (show (0 : Int) ≤ 1099511627776 ∧ (1099511627776 : Int) ≤ 4398046511104 from ⟨by decide, by decide⟩)
  len := by unfold Exp.net; rw [List.length_map]; exact hl
  nodes := hn
theorem not_first {E : Exp} (hG : E.Good) : ∀ a ∈ E.net, toN a ≠ E.first := by
  intro a ha
  have hf := Exp.first_lt (E := E)
  unfold Exp.net at ha
  obtain ⟨k, hk, rfl⟩ := List.mem_map.1 ha
  rcases Exp.kinds_cases hk with ⟨i, u, rfl, h⟩ | ⟨v, u, hv, rfl, h⟩ | ⟨u, h1, rfl⟩ | ⟨u, h1, rfl⟩
  · have := Exp.mv_ends hG h; omega
  · have := Exp.wt_ends hv h; omega
  · have := Exp.so_ends hG (u := u) h1; omega
  · have := Exp.si_ends hG (u := u) h1; omega
structure RunF (Z : List ArcT) (N i j H : Nat) (b : Bool) (A : List ArcT) (q : Nat) : Prop where
  wide : WideNet A (q + 2)
  len : A.length ≤ 200
  none : ∀ a ∈ A, toN a ≠ q
  run : ∀ F k, FlowST A (q + 2) q (q + 1) F k → movE (N : Int) Z (i : Int) (j : Int) (H : Int) b F = 0 ∧ plnE (N : Int) Z (i : Int) (j : Int) (H : Int) b (movV (N : Int) Z (i : Int) (j : Int) (H : Int) b F) = 0 ∧ plnV (N : Int) Z (i : Int) (j : Int) (H : Int) b (movV (N : Int) Z (i : Int) (j : Int) (H : Int) b F) = k ∧ (∀ m ∈ movV (N : Int) Z (i : Int) (j : Int) (H : Int) b F, okK m) ∧ (movV (N : Int) Z (i : Int) (j : Int) (H : Int) b F).length ≤ 200
theorem run_facts {A N i j H : Nat} {Z : List ArcT} (h : SmF A N i j H Z) (hA : A ≤ 8) (b : Bool) {q : Nat} (hq : (H + 1) * N = q) : RunF Z N i j H b (⟨Z, N, i, j, H, b⟩ : Exp).net q := by
  have hx := h.xpe hA
  obtain ⟨N', i', j', K', e1, e2, e3, e4, hi, hj, hij, hW, hK, hm1, hm2⟩ := xpE_nat hx
  obtain rfl : N = N' := by omega
  obtain rfl : i = i' := by omega
  obtain rfl : j = j' := by omega
  obtain rfl : H = K' := by omega
  have hG : (⟨Z, N, i, j, H, b⟩ : Exp).Good := Exp.good_of hW hi hj hij
  have hf : (⟨Z, N, i, j, H, b⟩ : Exp).first = q := hq
  have hl : (⟨Z, N, i, j, H, b⟩ : Exp).last = q + 1 := by show (H + 1) * N + 1 = q + 1; rw [hq]
  have hk := h.kinds hA b
  have h40 : q ≤ 40 := by rw [← hq]; exact Nat.le_trans (Nat.mul_le_mul (show H + 1 ≤ 8 by have := h.hor; omega) h.nodes.2) (by omega)
  have e0 : bldA (N : Int) Z (i : Int) (j : Int) (H : Int) b = (⟨Z, N, i, j, H, b⟩ : Exp).net := by unfold bldA; rw [if_pos hx]; rfl
  refine ⟨?_, ?_, ?_, ?_⟩
  · have := wide_exp hG hW (by omega) (by rw [hl]; omega)
    rw [hl] at this; exact this
  · unfold Exp.net; rw [List.length_map]; exact hk
  · have := not_first hG
    rw [hf] at this; exact this
  · intro F k hF
    have hb : isfB (⟨Z, N, i, j, H, b⟩ : Exp).net F = true := isfB_is.2 ⟨hF.1.1, fun p a x ha hx => by
      have h1 := hF.1.2 p a ha
      have e : atI F p = x := by unfold atI; rw [List.getD_eq_getElem?_getD, hx]; rfl
      rw [e] at h1
      exact h1⟩
    have e1 : movE (N : Int) Z (i : Int) (j : Int) (H : Int) b F = 0 := by unfold movE; rw [if_pos hx, e0, if_pos hb]
    have e2 : movV (N : Int) Z (i : Int) (j : Int) (H : Int) b F = mvsL (⟨Z, N, i, j, H, b⟩ : Exp).kinds F := by unfold movV; rw [e0, if_pos ⟨hx, hb⟩]; rfl
    rw [e1, e2]
    have h2 := runs_plan (E := ⟨Z, N, i, j, H, b⟩) hW hi hj hij (F := F) (k := k) (by rw [hf, hl]; exact hF) (h.ask hA)
    refine ⟨rfl, h2.1, h2.2, mvs_fit hk (isf_bd (E := ⟨Z, N, i, j, H, b⟩) hW hb).2 (fun p i' u' hp => ?_), Nat.le_trans (mvsL_len _ _) hk⟩
    rcases Exp.kinds_cases (List.mem_of_getElem? hp) with ⟨i2, u2, e, ho⟩ | ⟨v, u2, _, e, _⟩ | ⟨u2, _, e⟩ | ⟨u2, _, e⟩
    · have e1 : i' = i2 := congrArg (fun k : Kd => k.2.1) e
      have e2 : u' = u2 := congrArg (fun k : Kd => k.2.2) e
      have := Exp.ok_lt ho
      have := hW.len
      simp only at *
      omega
    · exact absurd (Prod.mk.inj e).1 (by decide)
    · exact absurd (Prod.mk.inj e).1 (by decide)
    · exact absurd (Prod.mk.inj e).1 (by decide)
theorem flow_in {A : List ArcT} {N s t : Nat} {F : List Int} {k : Int} (hW : WideNet A N) (h : FlowST A N s t F k) (hl : A.length ≤ 200) : ∀ p, -879609302220800 ≤ balK A F s p ∧ balK A F s p ≤ 879609302220800 := by
  intro p
  have hb : ∀ p a, A[p]? = some a → 0 ≤ atI F p ∧ atI F p ≤ 4398046511104 := fun p a ha => by
    have h1 := h.1.2 p a ha
    have h2 := (hW.caps a (List.mem_of_getElem? ha)).2
    omega
  by_cases hp : p ≤ 200
  · have := balK_bd (M := 4398046511104) (by omega) hb s p
    omega
  · have e : ∀ d, balK A F s (200 + d) = balK A F s 200 := by
      intro d
      induction d with
      | zero => rfl
      | succ d ih =>
        have hz : A[200 + d]? = none := List.getElem?_eq_none (by omega)
        have : balK A F s (200 + d + 1) = balK A F s (200 + d) := by show balK A F s (200 + d) + _ = _; rw [hz]; simp
        rw [show 200 + (d + 1) = 200 + d + 1 by omega, this, ih]
    have := balK_bd (M := 4398046511104) (by omega) hb s 200
    have e2 := e (p - 200)
    rw [show 200 + (p - 200) = p by omega] at e2
    rw [e2]
    omega
set_option maxRecDepth 100000 in
set_option maxHeartbeats 16000000 in
theorem uruns_law (nn s t sp : Int) (hold : Bool) (ba : Option Addr) (bc : Nat) (B : List BitT) (w : World) (hr : Row encBit 4 w ba B) (hB : ∀ x ∈ B, BitOk x) (hbl : B.length ≤ maxLen) (hn : ByteB nn) (hs : ByteB s) (ht : ByteB t) (hp : ByteB sp) :
    Calls Try.prog 9 #[.agg #[.int .u8 nn, .bool hold, .slice ba B.length bc, .int .u8 s, .int .u8 t, .int .u8 sp]] w fun e w' => e = .returned (.bool true) ∧ Below w.heap.size w w' := by
  have hb00 := (Below.refl _ w).alloc (Nat.le_refl _) (.cells #[.int .u8 nn, .bool hold, .slice ba B.length bc, .int .u8 s, .int .u8 t, .int .u8 sp] 41)
  have HB := Lib.hid hb00
  have HX := Lib.hid (heap_alloc_new w (.cells #[.int .u8 nn, .bool hold, .slice ba B.length bc, .int .u8 s, .int .u8 t, .int .u8 sp] 41))
  have HR := Lib.hid (hr.below' hb00)
  have x0 := cell_whole HX.out 0
  have x1 := cell_whole HX.out 1
  have x2 := cell_whole HX.out 2
  have x3 := cell_whole HX.out 3
  have x4 := cell_whole HX.out 4
  have x5 := cell_whole HX.out 5
  have HBB := Lib.hid hB
  have HNN := Lib.hid (And.intro hn (And.intro hs (And.intro ht hp)))
  have HBL := Lib.hid hbl
  obtain ⟨N, i, j, H, Z, e1, e2, e3, e4, e5, hF0⟩ := sm_facts 6 nn s t sp B
  have E1 := Lib.hid e1
  have E2 := Lib.hid e2
  have E3 := Lib.hid e3
  have E4 := Lib.hid e4
  have E5 := Lib.hid e5
  have HS := Lib.hid hF0
  clear hr hb00 hB hbl hn hs ht hp e1 e2 e3 e4 e5 hF0
  obtain ⟨zl, hzl⟩ : ∃ zl, Z.length = zl := ⟨_, rfl⟩
  have HZL := Lib.hid hzl
  clear hzl
  obtain ⟨q, hq⟩ : ∃ q : Nat, (H + 1) * N = q := ⟨_, rfl⟩
  have HBN : Hid (bldN (N : Int) Z (i : Int) (j : Int) (H : Int) = (q : Int) + 2 ∧ bldA (N : Int) Z (i : Int) (j : Int) (H : Int) hold = (⟨Z, N, i, j, H, hold⟩ : Exp).net ∧ xpE (N : Int) Z (i : Int) (j : Int) (H : Int) = 0) := Lib.hid (by
    have h0 := HS.out.xpe (by omega)
    unfold bldN bldA
    rw [if_pos h0, if_pos h0]
    refine ⟨?_, rfl, h0⟩
    rw [← hq]; simp)
  have hq40 : q ≤ 40 := by
    rw [← hq]
    exact Nat.le_trans (Nat.mul_le_mul (show H + 1 ≤ 8 by have := HS.out.hor; omega) (show N ≤ 5 from HS.out.nodes.2)) (by omega)
  have HEX := Lib.hid (run_facts HS.out (by omega) hold hq)
  have HQM : Hid (((H : Int) + 1) * (N : Int) = (q : Int)) := Lib.hid (by rw [← hq]; simp)
  have hH7 := HS.out.hor
  have hw0 : IntKind.i64.wrap ((H : Int) + 1) = (H : Int) + 1 := IntWalk.i64_in _ (by omega)
  have hw1 : IntKind.i64.wrap (((H : Int) + 1) * (N : Int)) = (q : Int) := by rw [HQM.out]; exact IntWalk.i64_in _ (by omega)
  have hw2 : IntKind.i64.wrap ((q : Int) + 2) = (q : Int) + 2 := IntWalk.i64_in _ (by omega)
  have hw3 : IntKind.i64.wrap ((q : Int) + 2 - 2) = (q : Int) := by rw [show (q : Int) + 2 - 2 = (q : Int) by omega]; exact IntWalk.i64_in _ (by omega)
  obtain ⟨r, hr⟩ : ∃ r, q + 1 = r := ⟨_, rfl⟩
  have hw4 : IntKind.i64.wrap ((q : Int) + 2 - 1) = (r : Int) := by rw [show (q : Int) + 2 - 1 = (r : Int) by omega]; exact IntWalk.i64_in _ (by omega)
  have HRQ := Lib.hid hr
  generalize (⟨Z, N, i, j, H, hold⟩ : Exp).net = A at *
  obtain ⟨al, hal⟩ : ∃ al, A.length = al := ⟨_, rfl⟩
  have HAL := Lib.hid hal
  have hal2 : al ≤ 200 := by rw [← hal]; exact HEX.out.len
  have HBEST : Hid (∀ (oa : Option Addr) (oc : Nat) (W : World), Row encA 4 W oa A → Calls Try.prog 31 #[.agg #[.int .i64 ((q : Int) + 2), .bool false, .slice oa al oc], .int .i64 (q : Int), .int .i64 (r : Int)] W fun e w' => ∃ fo fc F k, e = .returned (.slice fo F.length fc) ∧ Lst encI w' fo F ∧ FlowST A (q + 2) q (q + 1) F k ∧ Below W.heap.size W w') := Lib.hid (fun oa oc W hW => by
    rw [← hal, ← hr]
    refine (rbest_any ((q : Int) + 2) false oa oc A (q + 2) q (q + 1) W hW HEX.out.wide (by omega) (by omega) (by omega)).mono ?_
    rintro e w' ⟨fo, fc, F, k, rfl, h1, _, h2, _, _, h3⟩
    exact ⟨fo, fc, F, k, rfl, h1, h2, h3⟩)
  have HAE : Hid (∀ a ∈ A, (0 ≤ a.1 ∧ a.1 < (q : Int) + 2) ∧ (0 ≤ a.2.1 ∧ a.2.1 < (q : Int) + 2) ∧ 0 ≤ a.2.2.1) := Lib.hid (fun a ha => by
    have h1 := HEX.out.wide.ends a ha
    have h2 := HEX.out.wide.lt a ha
    have h3 := (HEX.out.wide.caps a ha).1
    unfold capN at h3
    omega)
  clear hq hal hr
  go_enter Try.func9, Try.ntmps9
  go_wp2_with (first
    | (go_at_call 14; refine (uawake_any _).mono ?_; rintro e w1 ⟨rfl, hb⟩; have HR := Lib.hid (HR.out.below' hb); have hn := kept_box HX.out hb; have HX := Lib.hid hn; have x0 := cell_whole hn 0; have x1 := cell_whole hn 1; have x2 := cell_whole hn 2; have x3 := cell_whole hn 3; have x4 := cell_whole hn 4; have x5 := cell_whole hn 5; have HB := Lib.hid (HB.out.trans (hb.mono HB.out.size)); clear hb hn)
    | (go_at_call 20; refine (read12_any 6 nn s t sp hold ba bc B _ HR.out HBB.out HBL.out (by omega) HNN.out.1 HNN.out.2.1 HNN.out.2.2.1 HNN.out.2.2.2).mono ?_; rw [E5.out, E1.out, E2.out, E3.out, E4.out]; rintro e wr1 ⟨za, zc, rfl, hz, hb⟩; rw [HZL.out]; have hal := (Below.refl _ wr1).alloc (Nat.le_refl _) (.cells #[.int .i64 (N : Int), .bool hold, .slice za zl zc] 24); have HNT := Lib.hid (heap_alloc_new wr1 (.cells #[.int .i64 (N : Int), .bool hold, .slice za zl zc] 24)); have HZ := Lib.hid (hz.below' hal); have hb := hb.trans (hal.mono hb.size); have HB := Lib.hid (HB.out.trans (hb.mono HB.out.size)); have n0 := cell_whole HNT.out 0; have n1 := cell_whole HNT.out 1; have n2 := cell_whole HNT.out 2; clear x0 x1 x2 x3 x4 x5 hz hb hal HX HR)
    | (go_at_call 17; refine (ubuild_any (N : Int) hold za zl zc Z (i : Int) (j : Int) (H : Int) _ HZ.out HZL.out (by rw [HZL.out]; have := HS.out.arcs; rw [HZL.out] at this; omega)).mono ?_; unfold BldRes; rw [HBN.out.1, HBN.out.2.1, HBN.out.2.2, HAL.out]; rintro e w3 ⟨oa, oc, rfl, hra, hb⟩; have HZ := Lib.hid (HZ.out.below' hb); have hn := kept_box HNT.out hb; have HNT := Lib.hid hn; have n0 := cell_whole hn 0; have n1 := cell_whole hn 1; have n2 := cell_whole hn 2; have HB := Lib.hid (HB.out.trans (hb.mono HB.out.size)); clear hn; have HG := Lib.hid hra; clear hb hra)
    | ((with_reducible show wpList _ _ _ (Oper.mk none (Op.store 24 _ _) _ _ _ _ :: _) _ _); refine wpList_store_box sizeNet15 rfl _ _ rfl w3.heap.size _ [.int .i64 ((q : Int) + 2), .bool false, .slice oa al oc] rfl rfl (heap_alloc_new w3 _) rfl rfl (net_one _ _ _ _ _) ?_; intro w4 hg3 hk3; have hb : Below w3.heap.size w3 w4 := ((Below.refl _ w3).alloc (Nat.le_refl _) _).trans (hk3.below (by simp) (fun i e => by have e2 : i = w3.heap.size := e; omega)); have HZ := Lib.hid (HZ.out.below' hb); have hn := kept_box HNT.out hb; have HNT := Lib.hid hn; have n0 := cell_whole hn 0; have n1 := cell_whole hn 1; have n2 := cell_whole hn 2; have HB := Lib.hid (HB.out.trans (hb.mono HB.out.size)); clear hn; have HG := Lib.hid (HG.out.below' hb); have HGB := Lib.hid hg3; have g0 := cell_whole hg3 0; have g1 := cell_whole hg3 1; have g2 := cell_whole hg3 2; clear hb hg3 hk3))
  clear n0 n1 n2 g0 g1 g2
  go_loopw [10] (fun iv wr => ∃ p : Nat, p ≤ al ∧ iv = .int .i64 (p : Int) ∧ Hid (Below w4.heap.size w4 wr)) (fun iv _ => al - (intOf iv).toNat)
  case atStart => exact ⟨0, Nat.zero_le _, rfl, Lib.hid (Below.refl _ _)⟩
  case round =>
    obtain ⟨p, hp, rfl, HW⟩ := hrel
    have hg := kept_box HGB.out HW.out
    have g0 := cell_whole hg 0
    have g1 := cell_whole hg 1
    have g2 := cell_whole hg 2
    by_cases hlt : p < al
    · have hli : (p : Int) < (al : Int) := by omega
      have h1 : p < A.length := by rw [HAL.out]; exact hlt
      obtain ⟨ab, ax, e, hab, d0, d1, d2, d3⟩ := arc_at (HG.out.below' HW.out) (List.getElem?_eq_getElem h1)
      subst e
      obtain ⟨⟨b1, b2⟩, ⟨b3, b4⟩, b5⟩ := HAE.out _ (List.getElem_mem h1)
      generalize A[p] = a at *
      obtain ⟨a1, a2, a3, a4⟩ := a
      simp only at d0 d1 d2 d3 b1 b2 b3 b4 b5
      have f1 : decide (a1 < 0) = false := decide_eq_false (by omega)
      have f2 : decide ((q : Int) + 2 ≤ a1) = false := decide_eq_false (by omega)
      have f3 : decide (a2 < 0) = false := decide_eq_false (by omega)
      have f4 : decide ((q : Int) + 2 ≤ a2) = false := decide_eq_false (by omega)
      have f5 : decide (a3 < 0) = false := decide_eq_false (by omega)
      have hal0 := (Below.refl wr.heap.size wr).alloc (Nat.le_refl _) (.cells #[.int .i64 a1, .int .i64 a2, .int .i64 a3, .int .i64 a4] 64)
      have hg' := kept_box hg hal0
      have g0' := cell_whole hg' 0
      have HWn := Lib.hid (HW.out.trans (hal0.mono HW.out.size))
      clear h1 hab hal0 hg hg'
      go_wp2_with fail
      go_roundw
      case rel => exact ⟨p + 1, by omega, by go_num, HWn⟩
      case measure => simp [intOf]; omega
    · have hli : ¬ (p : Int) < (al : Int) := by omega
      have hb := HW.out
      have HZ := Lib.hid (HZ.out.below' hb); have hn := kept_box HNT.out hb; have HNT := Lib.hid hn; have n0 := cell_whole hn 0; have n1 := cell_whole hn 1; have n2 := cell_whole hn 2; have HB := Lib.hid (HB.out.trans (hb.mono HB.out.size)); clear hn;
      have HG := Lib.hid (HG.out.below' hb)
      have HGB := Lib.hid hg
      clear hb hg
      go_wp2_with (go_at_call 31; refine (HBEST.out oa oc _ HG.out).mono ?_; rintro e w5 ⟨fo, fc, F, k, rfl, hf, hst, hb⟩; have HZ := Lib.hid (HZ.out.below' hb); have hn := kept_box HNT.out hb; have HNT := Lib.hid hn; have n0 := cell_whole hn 0; have n1 := cell_whole hn 1; have n2 := cell_whole hn 2; have HB := Lib.hid (HB.out.trans (hb.mono HB.out.size)); clear hn; have HG := Lib.hid (HG.out.below' hb); have hg := kept_box HGB.out hb; have HGB := Lib.hid hg; have g0 := cell_whole hg 0; have g1 := cell_whole hg 1; have g2 := cell_whole hg 2; clear hg; have HF := Lib.hid hf; have HST := Lib.hid hst; have HFLX : Hid (F.length = al) := Lib.hid (by rw [hst.1.1]; exact HAL.out); (rw [HFLX.out]); clear hb hf hst)
      have HBD := Lib.hid (flow_in HEX.out.wide HST.out HEX.out.len)
      clear n0 n1 n2 g0 g1 g2
      go_loopw [13, 14] (fun vv iv wr => ∃ p : Nat, p ≤ al ∧ iv = .int .i64 (p : Int) ∧ vv = .int .i64 (balK A F q p) ∧ Hid (Below w5.heap.size w5 wr)) (fun _ iv _ => al - (intOf iv).toNat)
      case atStart => exact ⟨0, Nat.zero_le _, rfl, rfl, Lib.hid (Below.refl _ _)⟩
      case round =>
        obtain ⟨p, hp, rfl, rfl, HW⟩ := hrel
        have hg := kept_box HGB.out HW.out
        have g0 := cell_whole hg 0
        have g1 := cell_whole hg 1
        have g2 := cell_whole hg 2
        by_cases hlt : p < al
        · have hli : (p : Int) < (al : Int) := by omega
          have h1 : p < A.length := by rw [HAL.out]; exact hlt
          have h2 : p < F.length := by rw [HFLX.out]; exact hlt
          obtain ⟨ab, ax, e, hab, d0, _, _, _⟩ := arc_at (HG.out.below' HW.out) (List.getElem?_eq_getElem h1)
          subst e
          obtain ⟨fb, fx, e, hfb, hf⟩ := lst_cell (HF.out.below HW.out) (List.getElem?_eq_getElem h2)
          subst e
          unfold encI at hf
          have he := (HEX.out.wide.ends _ (List.getElem_mem h1)).1
          have hno := HEX.out.none _ (List.getElem_mem h1)
          have hsx : balK A F q (p + 1) = balK A F q p + if (A[p]).1 = (q : Int) then F[p] else 0 := by
            rw [balK_succ (List.getElem?_eq_getElem h1)]
            congr 1
            have e2 : atI F p = F[p] := by unfold atI; rw [List.getD_eq_getElem?_getD, List.getElem?_eq_getElem h2]; rfl
            rw [e2]
            unfold share
            rw [if_neg hno]
            by_cases e3 : frN A[p] = q
            · rw [if_pos e3, if_pos (by omega)]; omega
            · rw [if_neg e3, if_neg (by omega)]; rfl
          have HSX := Lib.hid hsx
          have hd0 := HBD.out p
          have hd1 := HBD.out (p + 1)
          obtain ⟨s0, hs0⟩ : ∃ s0, balK A F q p = s0 := ⟨_, rfl⟩
          obtain ⟨s1, hs1⟩ : ∃ s1, balK A F q (p + 1) = s1 := ⟨_, rfl⟩
          rw [hs0] at HSX hd0
          rw [hs1] at HSX hd1
          rw [hs0]
          have HS1 := Lib.hid hs1
          generalize A[p] = a at *
          generalize F[p] = x at *
          obtain ⟨a1, a2, a3, a4⟩ := a
          simp only at d0 HSX
          clear h1 h2 hab hfb he hno hsx hs0 hs1
          have hb0 : ∀ nq, Below wr.heap.size wr (wr.drewN nq) := fun nq => below_drewN (Below.refl _ _) nq
          by_cases hq1 : a1 = (q : Int)
          · have hq2 : (a1 == (q : Int)) = true := by simpa using hq1
            have hq3 : decide (a1 = (q : Int)) = true := decide_eq_true hq1
            have hwx : IntKind.i64.wrap (s0 + x) = s1 := by rw [HSX.out, if_pos hq1]; exact IntWalk.i64_in _ (by have := HSX.out; rw [if_pos hq1] at this; omega)
            clear hq1
            go_wp2_with fail
            go_quiet (fail)
            go_wp2
            go_roundw
            case rel => exact ⟨p + 1, by omega, by go_num, by rw [HS1.out], Lib.hid (below_drewN HW.out _)⟩
            case measure => simp [intOf]; omega
          · have hq2 : (a1 == (q : Int)) = false := by simpa using hq1
            have hq3 : decide (a1 = (q : Int)) = false := decide_eq_false hq1
            have hwx : s1 = s0 := by rw [HSX.out, if_neg hq1]; omega
            have HWX := Lib.hid hwx
            clear hq1 hwx
            go_wp2_with fail
            go_quiet (fail)
            go_wp2
            go_roundw
            case rel => exact ⟨p + 1, by omega, by go_num, by rw [HS1.out, HWX.out], Lib.hid (below_drewN HW.out _)⟩
            case measure => simp [intOf]; omega
        · have hli : ¬ (p : Int) < (al : Int) := by omega
          obtain rfl : p = al := by omega
          have HV : Hid (balK A F q p = k) := Lib.hid (by have := HST.out.2.2; unfold bal at this; rw [HAL.out] at this; exact this)
          rw [HV.out]
          obtain ⟨hm1, hm2, hm3, hm4, hm5⟩ := HEX.out.run F k HST.out
          obtain ⟨V, hV⟩ : ∃ V, movV (N : Int) Z (i : Int) (j : Int) (H : Int) hold F = V := ⟨_, rfl⟩
          rw [hV] at hm2 hm3 hm4 hm5
          obtain ⟨vl, hvl⟩ : ∃ vl, V.length = vl := ⟨_, rfl⟩
          have HM1 := Lib.hid hm1
          have HM2 := Lib.hid hm2
          have HM3 := Lib.hid hm3
          have HM4 := Lib.hid hm4
          have HM5 := Lib.hid hm5
          have HVV := Lib.hid hV
          have HVL := Lib.hid hvl
          have HZM : Hid (Z.length ≤ 4398046511104) := Lib.hid (by have := HS.out.arcs; omega)
          have hb := HW.out
          have HZ := Lib.hid (HZ.out.below' hb); have hn := kept_box HNT.out hb; have HNT := Lib.hid hn; have n0 := cell_whole hn 0; have n1 := cell_whole hn 1; have n2 := cell_whole hn 2; have HB := Lib.hid (HB.out.trans (hb.mono HB.out.size)); clear hn;
          have HF := Lib.hid (HF.out.below hb)
          clear hb hg hm1 hm2 hm3 hm4 hm5 hV hvl g0 g1 g2
          go_wp2_with (first
            | (go_at_call 21; refine (umoves_sm hold za fo zl zc p fc Z N i j H F _ HZ.out HZL.out HF.out HFLX.out HS.out (by omega)).mono ?_; unfold MovRes; rw [HVV.out, HM1.out, HVL.out]; rintro e w6 ⟨ma, mc, rfl, hmv, hb⟩; have HZ := Lib.hid (HZ.out.below' hb); have hn := kept_box HNT.out hb; have HNT := Lib.hid hn; have n0 := cell_whole hn 0; have n1 := cell_whole hn 1; have n2 := cell_whole hn 2; have HB := Lib.hid (HB.out.trans (hb.mono HB.out.size)); clear hn; have HMV := Lib.hid hmv; clear hb hmv)
            | (go_at_call 29; refine (rchk14_any (N : Int) hold za zc zl Z (i : Int) (j : Int) (H : Int) ma mc vl V _ HZ.out HZM.out HMV.out HM4.out HM5.out HZL.out HVL.out).mono ?_; rw [HM3.out, HM2.out]; rintro e w7 ⟨rfl, hb⟩; have HB := Lib.hid (HB.out.trans (hb.mono HB.out.size)); clear hb))
          go_ret
          exact ⟨by simp, HB.out⟩
end Go.Proofs.Ytbkmfjegbmjknaa
