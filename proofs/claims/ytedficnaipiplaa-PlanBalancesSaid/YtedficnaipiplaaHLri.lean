/- PlanRises. -/
import Derived.Test.YtedficnaipiplaaHLsc
namespace Go.Proofs.Ytedficnaipiplaa
open Go.RowKit
set_option linter.unusedVariables false

theorem sum_leL {α : Type} {f g : α → Int} : ∀ {K : List α}, (∀ x ∈ K, f x ≤ g x) → (K.map f).sum ≤ (K.map g).sum
  | [], _ => Int.le_refl _
  | x :: r, h => by
    simp only [List.map_cons, List.sum_cons]
    have h1 := h x List.mem_cons_self
    have h2 := sum_leL (f := f) (g := g) (K := r) (fun y hy => h y (List.mem_cons_of_mem _ hy))
    omega
theorem arcI_time {Z : List ArcT} (hZ : ∀ a ∈ Z, 0 ≤ a.2.2.2) (i : Int) : 0 ≤ (arcI Z i).2.2.2 := by
  unfold arcI
  rw [List.getD_eq_getElem?_getD]
  cases h : Z[i.toNat]? with
  | none => simp
  | some a => exact hZ a (List.mem_of_getElem? h)
theorem okM_out {Z : List ArcT} {s t H : Int} {x : MoveT} (h : okM Z s t H x = true) : 0 ≤ x.1 ∧ x.1 < (Z.length : Int) ∧ 0 ≤ x.2.1 ∧ x.2.1 + (arcI Z x.1).2.2.2 ≤ H ∧ 0 ≤ x.2.2 ∧ x.2.2 ≤ (arcI Z x.1).2.2.1 ∧ (arcI Z x.1).2.1 ≠ s ∧ (arcI Z x.1).1 ≠ t := of_decide_eq_true h
theorem okM_more {Z : List ArcT} {s t H : Int} {x : MoveT} (h : okM Z s t H x = true) : okM Z s t (H + 1) x = true := by
  have := okM_out h
  exact decide_eq_true (by omega)
theorem wgt_t {Z : List ArcT} {t u : Int} {p : Int × Int} (h : (arcI Z p.2).1 ≠ t) : wgt Z t u p = if (arcI Z p.2).2.1 = t ∧ p.1 + (arcI Z p.2).2.2.2 ≤ u then 1 else 0 := by
  have h1 : ¬ ((arcI Z p.2).1 = t ∧ p.1 ≤ u) := fun e => h e.1
  unfold wgt
  rw [if_neg h1, Int.sub_zero]
/-- What is at t never becomes less. -/
theorem stk_mono {Z : List ArcT} {L : List MoveT} {s t H : Int} (hv : ∀ x ∈ mvs L, okM Z s t H x = true) {u u' : Int} (hu : u ≤ u') : stk Z L t u ≤ stk Z L t u' := by
  rw [← stk_merged Z L t u, ← stk_merged Z L t u']
  unfold stk
  apply sum_leL
  intro x hx
  have h1 := okM_out (hv x hx)
  have h2 : wgt Z t u (x.2.1, x.1) ≤ wgt Z t u' (x.2.1, x.1) := by
    rw [wgt_t (p := (x.2.1, x.1)) h1.2.2.2.2.2.2.2, wgt_t (p := (x.2.1, x.1)) h1.2.2.2.2.2.2.2]
    simp only
    by_cases h3 : (arcI Z x.1).2.1 = t ∧ x.2.1 + (arcI Z x.1).2.2.2 ≤ u
    · rw [if_pos h3, if_pos ⟨h3.1, by omega⟩]; omega
    · rw [if_neg h3]; split <;> omega
  exact Int.mul_le_mul_of_nonneg_left h2 h1.2.2.2.2.1
theorem stk_nonneg {Z : List ArcT} {L : List MoveT} {s t H : Int} (hv : ∀ x ∈ mvs L, okM Z s t H x = true) (u : Int) : 0 ≤ stk Z L t u := by
  rw [← stk_merged Z L t u]
  unfold stk
  rw [← sum_zeroL (f := fun _ : MoveT => (0 : Int)) (K := mvs L) (fun _ _ => rfl)]
  apply sum_leL
  intro x hx
  have h1 := okM_out (hv x hx)
  refine Int.mul_nonneg h1.2.2.2.2.1 ?_
  rw [wgt_t (p := (x.2.1, x.1)) h1.2.2.2.2.2.2.2]
  split <;> omega
/-- Nothing happens behind the horizon. -/
theorem stk_late {Z : List ArcT} {L : List MoveT} {s t H : Int} (hZ : ∀ a ∈ Z, 0 ≤ a.2.2.2) (hv : ∀ x ∈ mvs L, okM Z s t H x = true) (v : Int) : stk Z L v (H + 1) = stk Z L v H := by
  rw [← stk_merged Z L v H, ← stk_merged Z L v (H + 1)]
  unfold stk
  congr 1
  apply List.map_congr_left
  intro x hx
  have h1 := okM_out (hv x hx)
  have h2 := arcI_time hZ x.1
  congr 1
  unfold wgt
  simp only
  congr 1
  · by_cases h3 : (arcI Z x.1).2.1 = v
    · rw [if_pos ⟨h3, by omega⟩, if_pos ⟨h3, by omega⟩]
    · rw [if_neg (fun h => h3 h.1), if_neg (fun h => h3 h.1)]
  · by_cases h3 : (arcI Z x.1).1 = v
    · rw [if_pos ⟨h3, by omega⟩, if_pos ⟨h3, by omega⟩]
    · rw [if_neg (fun h => h3 h.1), if_neg (fun h => h3 h.1)]
theorem pln_mv {n : Int} {Z : List ArcT} {s t H : Int} {b : Bool} {L : List MoveT} (h : plnE n Z s t H b L = 0) : mvE n Z s t H L = 0 := by
  by_cases he : mvE n Z s t H L = 0
  · exact he
  · rw [plnE_bad he] at h; exact h
theorem pln_is {N i j H : Nat} {Z : List ArcT} {b : Bool} {L : List MoveT} (h : plnE (N : Int) Z (i : Int) (j : Int) (H : Int) b L = 0) : mvE (N : Int) Z (i : Int) (j : Int) (H : Int) L = 0 ∧ planB Z L N i j H b = true := by
  have hm := pln_mv h
  refine ⟨hm, ?_⟩
  rw [plnE_good hm] at h
  split at h
  · assumption
  · cases h
/-- With a greater horizon a plan stays one, of the same value. -/
theorem pln_rises {N i j H : Nat} {Z : List ArcT} {b : Bool} {L : List MoveT} (hF : CaseF N i j H Z L) (h : plnE (N : Int) Z (i : Int) (j : Int) (H : Int) b L = 0) :
    plnE (N : Int) Z (i : Int) (j : Int) ((H : Int) + 1) b L = 0 ∧ plnV (N : Int) Z (i : Int) (j : Int) ((H : Int) + 1) b L = stkN Z L H j ∧ plnV (N : Int) Z (i : Int) (j : Int) (H : Int) b L = stkN Z L H j := by
  obtain ⟨hm, hp⟩ := pln_is h
  obtain ⟨h1, h2, h3⟩ := mvE_ok.1 hm
  have hZ : ∀ a ∈ Z, 0 ≤ a.2.2.2 := fun a ha => (hF.small a ha).2.2.2.1
  have hm2 : mvE (N : Int) Z (i : Int) (j : Int) ((H + 1 : Nat) : Int) L = 0 := mvE_ok.2 ⟨small_ask hF.ends (by omega) (by have := hF.hor; omega), h2, fun x hx => okM_more (h3 x hx)⟩
  have hl : ∀ v : Nat, stkN Z L (H + 1) v = stkN Z L H v := fun v => stk_late hZ h3 (v : Int)
  have hp2 : planB Z L N i j (H + 1) b = true := by
    refine planG_is.2 fun u hu v hv hs ht => ?_
    by_cases hu2 : u ≤ H
    · obtain ⟨h4, h5⟩ := planG_is.1 hp u hu2 v hv hs ht
      exact ⟨h4, h5.imp_right (fun e => ⟨e.1, by omega⟩)⟩
    · obtain rfl : u = H + 1 := by omega
      obtain ⟨h4, h5⟩ := planG_is.1 hp H (Nat.le_refl _) v hv hs ht
      rw [hl v]
      exact ⟨h4, .inl (h5.resolve_right (fun e => absurd e.2 (Nat.lt_irrefl _)))⟩
  have hE2 : plnE (N : Int) Z (i : Int) (j : Int) ((H + 1 : Nat) : Int) b L = 0 := by rw [plnE_good hm2, hp2]; rfl
  have hc : ((H + 1 : Nat) : Int) = (H : Int) + 1 := by omega
  rw [hc] at hE2
  refine ⟨hE2, ?_, ?_⟩
  · unfold plnV
    rw [if_pos hE2]
    exact stk_late hZ h3 (j : Int)
  · unfold plnV
    rw [if_pos h]
    rfl
theorem arr_good {N i j H : Nat} {Z : List ArcT} {b : Bool} {L : List MoveT} (h : plnE (N : Int) Z (i : Int) (j : Int) (H : Int) b L = 0) : arrV (N : Int) Z (i : Int) (j : Int) (H : Int) b L = (List.range (H + 1)).map fun u => stkN Z L u j := by
  unfold arrV
  rw [if_pos h]
  rfl
/-- What PlanRises asks of what is told. -/
structure RiseF (H : Nat) (A : List Int) (S : Nat → Int) (v0 e1 v1 : Int) : Prop where
  len : A.length = H + 1
  at_ : ∀ k, k ≤ H → A[k]? = some (S k)
  mono : ∀ k, 1 ≤ k → k ≤ H → S (k - 1) ≤ S k
  zero : 0 ≤ S 0
  val : v0 = S H
  more : e1 = 0 ∧ v1 = S H
theorem rise_facts {N i j H : Nat} {Z : List ArcT} {b : Bool} {L : List MoveT} (hF : CaseF N i j H Z L) (h : plnE (N : Int) Z (i : Int) (j : Int) (H : Int) b L = 0) :
    RiseF H (arrV (N : Int) Z (i : Int) (j : Int) (H : Int) b L) (fun u => stkN Z L u j) (plnV (N : Int) Z (i : Int) (j : Int) (H : Int) b L) (plnE (N : Int) Z (i : Int) (j : Int) ((H : Int) + 1) b L) (plnV (N : Int) Z (i : Int) (j : Int) ((H : Int) + 1) b L) := by
  obtain ⟨g1, g2, g3⟩ := pln_rises hF h
  have hv := (mvE_ok.1 (pln_is h).1).2.2
  rw [arr_good h]
  exact ⟨by simp, fun k hk => by rw [List.getElem?_map, List.getElem?_range (by omega)]; rfl, fun k h1 h2 => stk_mono hv (by omega), stk_nonneg hv _, g3, g1, g2⟩
theorem rise_no {n : Int} {Z : List ArcT} {s t H : Int} {b : Bool} {L : List MoveT} (h : plnE n Z s t H b L ≠ 0) : arrV n Z s t H b L = [] := by unfold arrV; rw [if_neg h]
set_option maxRecDepth 100000 in
set_option maxHeartbeats 8000000 in
theorem nrises_law (nn s t sp : Int) (hold : Bool) (ba : Option Addr) (bc : Nat) (B : List BitT) (la : Option Addr) (lc : Nat) (K : List ByT) (w : World) (hr : Row encBit 4 w ba B) (hB : ∀ x ∈ B, BitOk x) (hbl : B.length ≤ maxLen) (hn : ByteB nn) (hs : ByteB s) (ht : ByteB t) (hp : ByteB sp) (hkl : K.length ≤ maxLen) (hk : Row encBy 3 w la K) (hK : ∀ x ∈ K, ByOk x) :
    Calls Try.prog 7 #[.agg #[.int .u8 nn, .bool hold, .slice ba B.length bc, .int .u8 s, .int .u8 t, .int .u8 sp, .slice la K.length lc]] w fun e w' => e = .returned (.bool true) ∧ Below w.heap.size w w' := by
  have hb00 := (Below.refl _ w).alloc (Nat.le_refl _) (.cells #[.int .u8 nn, .bool hold, .slice ba B.length bc, .int .u8 s, .int .u8 t, .int .u8 sp, .slice la K.length lc] 46)
  have HB := Lib.hid hb00
  have HX := Lib.hid (heap_alloc_new w (.cells #[.int .u8 nn, .bool hold, .slice ba B.length bc, .int .u8 s, .int .u8 t, .int .u8 sp, .slice la K.length lc] 46))
  have HR := Lib.hid (hr.below' hb00)
  have HK := Lib.hid (hk.below' hb00)
  have x0 := cell_whole HX.out 0
  have x1 := cell_whole HX.out 1
  have x2 := cell_whole HX.out 2
  have x3 := cell_whole HX.out 3
  have x4 := cell_whole HX.out 4
  have x5 := cell_whole HX.out 5
  have x6 := cell_whole HX.out 6
  have HBB := Lib.hid hB
  have HKK := Lib.hid hK
  have HKL := Lib.hid hkl
  have HNN := Lib.hid (And.intro hn (And.intro hs (And.intro ht hp)))
  have HBL := Lib.hid hbl
  obtain ⟨N, i, j, H, Z, L, e1, e2, e3, e4, e5, e6, hF⟩ := case_facts nn s t sp B K
  have E1 := Lib.hid e1
  have E2 := Lib.hid e2
  have E3 := Lib.hid e3
  have E4 := Lib.hid e4
  have E5 := Lib.hid e5
  have E6 := Lib.hid e6
  have HF := Lib.hid hF
  have hH7 := hF.hor
  have HZ4 : Hid (Z.length ≤ 4398046511104) := Lib.hid (by have := hF.arcs; omega)
  have HOK := Lib.hid hF.okK
  have HL2 : Hid (L.length ≤ 200) := Lib.hid (by have := hF.len; omega)
  clear hr hb00 hB hbl hn hs ht hp e1 e2 e3 e4 e5 e6 hF hk hK hkl
  have hcs : (plnE (N : Int) Z (i : Int) (j : Int) (H : Int) hold L ≠ 0 ∧ (arrV (N : Int) Z (i : Int) (j : Int) (H : Int) hold L).length = 0) ∨ (plnE (N : Int) Z (i : Int) (j : Int) (H : Int) hold L = 0 ∧ ∃ S : Nat → Int, RiseF H (arrV (N : Int) Z (i : Int) (j : Int) (H : Int) hold L) S (plnV (N : Int) Z (i : Int) (j : Int) (H : Int) hold L) (plnE (N : Int) Z (i : Int) (j : Int) ((H : Int) + 1) hold L) (plnV (N : Int) Z (i : Int) (j : Int) ((H : Int) + 1) hold L)) := by
    by_cases h0 : plnE (N : Int) Z (i : Int) (j : Int) (H : Int) hold L = 0
    · exact .inr ⟨h0, _, rise_facts HF.out h0⟩
    · exact .inl ⟨h0, by rw [rise_no h0]; rfl⟩
  obtain ⟨a0, ha0⟩ : ∃ a0, arrV (N : Int) Z (i : Int) (j : Int) (H : Int) hold L = a0 := ⟨_, rfl⟩
  have HA0 := Lib.hid ha0
  obtain ⟨v0, hv0⟩ : ∃ v0, plnV (N : Int) Z (i : Int) (j : Int) (H : Int) hold L = v0 := ⟨_, rfl⟩
  have HV0 := Lib.hid hv0
  obtain ⟨f0, hf0⟩ : ∃ f0, plnE (N : Int) Z (i : Int) (j : Int) (H : Int) hold L = f0 := ⟨_, rfl⟩
  have HF0 := Lib.hid hf0
  obtain ⟨v1, hv1⟩ : ∃ v1, plnV (N : Int) Z (i : Int) (j : Int) ((H : Int) + 1) hold L = v1 := ⟨_, rfl⟩
  have HV1 := Lib.hid hv1
  obtain ⟨f1, hf1⟩ : ∃ f1, plnE (N : Int) Z (i : Int) (j : Int) ((H : Int) + 1) hold L = f1 := ⟨_, rfl⟩
  have HF1 := Lib.hid hf1
  clear ha0 hv0 hf0 hv1 hf1
  rw [HA0.out, HV0.out, HF0.out, HV1.out, HF1.out] at hcs
  have w1 : IntKind.i64.wrap ((H : Int) + 1) = (H : Int) + 1 := IntWalk.i64_in _ (by omega)
  rcases hcs with ⟨h0, hal⟩ | ⟨rfl, S, hS⟩
  · have q1 : (f0 != 0) = true := by simpa using h0
    have q2 : (f0 == f0) = true := by simp
    have HAL := Lib.hid hal
    clear hal
    go_enter Try.func7, Try.ntmps7
    go_wp2_with (first
      | (go_at_call 10; refine (nawake_any _).mono ?_; rintro e wn ⟨rfl, hb⟩; have HR := Lib.hid (HR.out.below' hb); have HK := Lib.hid (HK.out.below' hb); have hn := kept_box HX.out hb; have HX := Lib.hid hn; have x0 := cell_whole hn 0; have x1 := cell_whole hn 1; have x2 := cell_whole hn 2; have x3 := cell_whole hn 3; have x4 := cell_whole hn 4; have x5 := cell_whole hn 5; have x6 := cell_whole hn 6; have HB := Lib.hid (HB.out.trans (hb.mono HB.out.size)); clear hb hn)
      | (go_at_call 21; refine (read14_any nn s t sp hold ba bc B la lc K _ HR.out HBB.out HBL.out HNN.out.1 HNN.out.2.1 HNN.out.2.2.1 HNN.out.2.2.2 HK.out HKK.out HKL.out N i j H Z E1.out E2.out E3.out E4.out E5.out).mono ?_; rw [E6.out]; rintro e wr ⟨za, zc, ka, kc, rfl, hz, hkr, hb⟩; clear x0 x1 x2 x3 x4 x5 x6; have hal := (Below.refl _ wr).alloc (Nat.le_refl _) (.cells #[.int .i64 (N : Int), .bool hold, .slice za Z.length zc] 24); have HNT := Lib.hid (heap_alloc_new wr (.cells #[.int .i64 (N : Int), .bool hold, .slice za Z.length zc] 24)); have HZ := Lib.hid (hz.below' hal); have HL := Lib.hid (hkr.below' hal); have HBR := Lib.hid (HB.out.trans (hb.mono HB.out.size)); have HB := Lib.hid ((HB.out.trans (hb.mono HB.out.size)).trans (hal.mono (by have h1 := HB.out.size; have h2 := hb.size; omega))); have n0 := cell_whole HNT.out 0; have n1 := cell_whole HNT.out 1; have n2 := cell_whole HNT.out 2; have HZ0 := Lib.hid hz; have HL0 := Lib.hid hkr; have HGS : Hid (w.heap.size ≤ wr.heap.size) := Lib.hid (by have h1 := HB.out.size; have h2 := HBR.out.size; omega); clear hz hkr hb hal HX HR HK))
    refine (nchk14_any (N : Int) hold za zc Z.length Z (i : Int) (j : Int) (H : Int) ka kc L.length L _ HZ.out HZ4.out HL.out HOK.out HL2.out rfl rfl).mono ?_
    rw [HV0.out, HF0.out]
    rintro e wn ⟨rfl, hb⟩
    have HZ := Lib.hid (HZ.out.below' hb)
    have HL := Lib.hid (HL.out.below' hb)
    have hn := kept_box HNT.out hb
    have HNT := Lib.hid hn
    have n0 := cell_whole hn 0
    have n1 := cell_whole hn 1
    have n2 := cell_whole hn 2
    have HB := Lib.hid (HB.out.trans (hb.mono HB.out.size))
    clear hb hn
    go_wp2_with (fail)
    refine (narrived_any (N : Int) hold za zc Z.length Z (i : Int) (j : Int) (H : Int) ka kc L.length L _ HZ.out HZ4.out HL.out HOK.out HL2.out rfl rfl).mono ?_
    rw [HA0.out, HF0.out]
    rintro e wn ⟨aa, al, ac, rfl, hgl, hir, hb⟩
    have HZ := Lib.hid (HZ.out.below' hb)
    have HL := Lib.hid (HL.out.below' hb)
    have hn := kept_box HNT.out hb
    have HNT := Lib.hid hn
    have n0 := cell_whole hn 0
    have n1 := cell_whole hn 1
    have n2 := cell_whole hn 2
    have HB := Lib.hid (HB.out.trans (hb.mono HB.out.size))
    have HP := Lib.hid hir
    have HLP := Lib.hid hgl
    clear hir hgl
    clear hb hn
    obtain rfl : al = 0 := by have h1 := HLP.out; have h2 := HAL.out; omega
    go_wp2_with (fail)
    go_ret
    exact ⟨by simp, HB.out⟩
  · have HS := Lib.hid hS
    obtain ⟨rfl, rfl⟩ := hS.more
    clear hS
    go_enter Try.func7, Try.ntmps7
    go_wp2_with (first
      | (go_at_call 10; refine (nawake_any _).mono ?_; rintro e wn ⟨rfl, hb⟩; have HR := Lib.hid (HR.out.below' hb); have HK := Lib.hid (HK.out.below' hb); have hn := kept_box HX.out hb; have HX := Lib.hid hn; have x0 := cell_whole hn 0; have x1 := cell_whole hn 1; have x2 := cell_whole hn 2; have x3 := cell_whole hn 3; have x4 := cell_whole hn 4; have x5 := cell_whole hn 5; have x6 := cell_whole hn 6; have HB := Lib.hid (HB.out.trans (hb.mono HB.out.size)); clear hb hn)
      | (go_at_call 21; refine (read14_any nn s t sp hold ba bc B la lc K _ HR.out HBB.out HBL.out HNN.out.1 HNN.out.2.1 HNN.out.2.2.1 HNN.out.2.2.2 HK.out HKK.out HKL.out N i j H Z E1.out E2.out E3.out E4.out E5.out).mono ?_; rw [E6.out]; rintro e wr ⟨za, zc, ka, kc, rfl, hz, hkr, hb⟩; clear x0 x1 x2 x3 x4 x5 x6; have hal := (Below.refl _ wr).alloc (Nat.le_refl _) (.cells #[.int .i64 (N : Int), .bool hold, .slice za Z.length zc] 24); have HNT := Lib.hid (heap_alloc_new wr (.cells #[.int .i64 (N : Int), .bool hold, .slice za Z.length zc] 24)); have HZ := Lib.hid (hz.below' hal); have HL := Lib.hid (hkr.below' hal); have HBR := Lib.hid (HB.out.trans (hb.mono HB.out.size)); have HB := Lib.hid ((HB.out.trans (hb.mono HB.out.size)).trans (hal.mono (by have h1 := HB.out.size; have h2 := hb.size; omega))); have n0 := cell_whole HNT.out 0; have n1 := cell_whole HNT.out 1; have n2 := cell_whole HNT.out 2; have HZ0 := Lib.hid hz; have HL0 := Lib.hid hkr; have HGS : Hid (w.heap.size ≤ wr.heap.size) := Lib.hid (by have h1 := HB.out.size; have h2 := HBR.out.size; omega); clear hz hkr hb hal HX HR HK))
    refine (nchk14_any (N : Int) hold za zc Z.length Z (i : Int) (j : Int) (H : Int) ka kc L.length L _ HZ.out HZ4.out HL.out HOK.out HL2.out rfl rfl).mono ?_
    rw [HV0.out, HF0.out]
    rintro e wn ⟨rfl, hb⟩
    have HZ := Lib.hid (HZ.out.below' hb)
    have HL := Lib.hid (HL.out.below' hb)
    have hn := kept_box HNT.out hb
    have HNT := Lib.hid hn
    have n0 := cell_whole hn 0
    have n1 := cell_whole hn 1
    have n2 := cell_whole hn 2
    have HB := Lib.hid (HB.out.trans (hb.mono HB.out.size))
    clear hb hn
    go_wp2_with (fail)
    refine (narrived_any (N : Int) hold za zc Z.length Z (i : Int) (j : Int) (H : Int) ka kc L.length L _ HZ.out HZ4.out HL.out HOK.out HL2.out rfl rfl).mono ?_
    rw [HA0.out, HF0.out]
    rintro e wn ⟨aa, al, ac, rfl, hgl, hir, hb⟩
    have HZ := Lib.hid (HZ.out.below' hb)
    have HL := Lib.hid (HL.out.below' hb)
    have hn := kept_box HNT.out hb
    have HNT := Lib.hid hn
    have n0 := cell_whole hn 0
    have n1 := cell_whole hn 1
    have n2 := cell_whole hn 2
    have HB := Lib.hid (HB.out.trans (hb.mono HB.out.size))
    have HP := Lib.hid hir
    have HLP := Lib.hid hgl
    clear hir hgl
    clear hb hn
    have HW := Lib.hid (Below.refl wn.heap.size wn)
    obtain ⟨ab, ax, e, _, cH⟩ := lst_cell HP.out (HS.out.at_ H (Nat.le_refl _))
    subst e
    obtain ⟨ab2, ax2, e, _, c0⟩ := lst_cell HP.out (HS.out.at_ 0 (Nat.zero_le _))
    cases e
    have hal : (al : Int) = (H : Int) + 1 := by have h1 := HLP.out; have h2 := HS.out.len; omega
    have hq1 : ((al : Int) != (H : Int) + 1) = false := by simp [hal]
    have hi1 : (H : Int) < (al : Int) := by omega
    have hi0 : (0 : Int) < (al : Int) := by omega
    have hv0 := HS.out.val
    subst hv0
    have hz0 : decide (S 0 < 0) = false := decide_eq_false (by have := HS.out.zero; omega)
    have hz1 : (S H != S H) = false := by simp
    unfold encI at cH c0
    rw [Nat.add_zero] at c0
    go_wp2_with (fail)
    clear cH c0 hz0
    go_loopw [13] (fun iv wl => ∃ k : Nat, 1 ≤ k ∧ k ≤ H + 1 ∧ iv = .int .i64 (k : Int) ∧ Hid (Below wn.heap.size wn wl)) (fun iv _ => H + 1 - (intOf iv).toNat)
    case atStart => exact ⟨1, by omega, by omega, rfl, HW⟩
    case round =>
      clear HW
      obtain ⟨k, hk1, hk2, rfl, HW⟩ := hrel
      by_cases hlt : k ≤ H
      · have hli : (k : Int) ≤ (H : Int) := by omega
        obtain ⟨ab2, ax2, e, _, ck⟩ := lst_cell HP.out (HS.out.at_ k hlt)
        cases e
        obtain ⟨ab2, ax2, e, _, cm⟩ := lst_cell HP.out (HS.out.at_ (k - 1) (by omega))
        cases e
        have ck := cell_below HW.out ck
        have cm := cell_below HW.out cm
        have hmo : ¬ S k < S (k - 1) := by have := HS.out.mono k hk1 hlt; omega
        have hmo2 : decide (S k < S (k - 1)) = false := decide_eq_false hmo
        have wk : IntKind.i64.wrap ((k : Int) - 1) = (k : Int) - 1 := IntWalk.i64_in _ (by omega)
        have tk : ((k : Int) - 1).toNat = k - 1 := by omega
        have hb1 : (k : Int) < (al : Int) := by omega
        have hb2 : (k : Int) - 1 < (al : Int) := by omega
        have hb3 : 0 ≤ (k : Int) - 1 := by omega
        have hb4 : ¬ (k : Int) - 1 < 0 := by omega
        unfold encI at ck cm
        go_wp2_with (fail)
        go_quiet (fail)
        go_wp2_with (fail)
        go_roundw
        case rel => exact ⟨k + 1, by omega, by omega, by go_num, Lib.hid (below_drewN HW.out _)⟩
        case measure => simp [intOf]; omega
      · have hli : ¬ (k : Int) ≤ (H : Int) := by omega
        have HZ := Lib.hid (HZ.out.below' HW.out)
        have HL := Lib.hid (HL.out.below' HW.out)
        have hnq := kept_box HNT.out HW.out
        have HNT := Lib.hid hnq
        have n0 := cell_whole hnq 0
        have n1 := cell_whole hnq 1
        have n2 := cell_whole hnq 2
        have HB := Lib.hid (HB.out.trans (HW.out.mono HB.out.size))
        go_wp2_with (fail)
        refine (nchk14_any (N : Int) hold za zc Z.length Z (i : Int) (j : Int) ((H : Int) + 1) ka kc L.length L _ HZ.out HZ4.out HL.out HOK.out HL2.out rfl rfl).mono ?_
        rw [HV1.out, HF1.out]
        rintro e wn ⟨rfl, hb⟩
        have HZ := Lib.hid (HZ.out.below' hb)
        have HL := Lib.hid (HL.out.below' hb)
        have hn := kept_box HNT.out hb
        have HNT := Lib.hid hn
        have n0 := cell_whole hn 0
        have n1 := cell_whole hn 1
        have n2 := cell_whole hn 2
        have HB := Lib.hid (HB.out.trans (hb.mono HB.out.size))
        clear hb hn
        go_wp2_with (fail)
        go_ret
        exact ⟨by simp, HB.out⟩
end Go.Proofs.Ytedficnaipiplaa
