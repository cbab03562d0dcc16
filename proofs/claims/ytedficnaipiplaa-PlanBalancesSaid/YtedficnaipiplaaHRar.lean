/- The document's answer: what has arrived, and whether nobody waits. -/
import Derived.Test.YtedficnaipiplaaHRch
namespace Go.Proofs.Ytedficnaipiplaa
open Go.RowKit
set_option linter.unusedVariables false

section
variable (n : Int) (b : Bool) (ao : Option Addr) (cap nl : Nat) (Z : List ArcT) (s t H : Int) (lo : Option Addr) (lc ll : Nat) (L : List MoveT)
theorem rchk14_any (w : World) (h : Row encA 4 w ao Z) (hz : Z.length ≤ 4398046511104) (hl : Row encK 3 w lo L) (hok : ∀ x ∈ L, okK x) (hn : L.length ≤ 200) (hnl : Z.length = nl) (hll : L.length = ll) :
    Calls Try.prog 15 #[.agg #[.int .i64 n, .bool b, .slice ao nl cap], .int .i64 s, .int .i64 t, .int .i64 H, .slice lo ll lc] w fun e w' => e = .returned (.tuple #[.int .i64 (plnV n Z s t H b L), .int .i64 (plnE n Z s t H b L)]) ∧ Below w.heap.size w w' := by
  by_cases he : mvE n Z s t H L = 0
  · obtain ⟨N, i, j, hh, rfl, rfl, rfl, rfl⟩ := good_nat he
    exact rchk_good b ao cap nl Z N i j hh lo lc ll L w h hz hl hok hn hnl hll he
  · rw [plnV_is (by rw [plnE_bad he]; exact he), plnE_bad he]
    exact rchk_bad n b ao cap nl Z s t H lo lc ll L _ w h hz hl hok hn hnl hll rfl he
theorem rchk14_is (v0 e0 : Int) (w : World) (h : Row encA 4 w ao Z) (hz : Z.length ≤ 4398046511104) (hl : Row encK 3 w lo L) (hok : ∀ x ∈ L, okK x) (hn : L.length ≤ 200) (hnl : Z.length = nl) (hll : L.length = ll) (hv : plnV n Z s t H b L = v0) (he : plnE n Z s t H b L = e0) :
    Calls Try.prog 15 #[.agg #[.int .i64 n, .bool b, .slice ao nl cap], .int .i64 s, .int .i64 t, .int .i64 H, .slice lo ll lc] w fun e w' => e = .returned (.tuple #[.int .i64 v0, .int .i64 e0]) ∧ Below w.heap.size w w' := by
  subst hv he
  exact rchk14_any n b ao cap nl Z s t H lo lc ll L w h hz hl hok hn hnl hll
set_option maxRecDepth 100000 in
set_option maxHeartbeats 4000000 in
theorem rstill14_any (w : World) (h : Row encA 4 w ao Z) (hz : Z.length ≤ 4398046511104) (hl : Row encK 3 w lo L) (hok : ∀ x ∈ L, okK x) (hn : L.length ≤ 200) (hnl : Z.length = nl) (hll : L.length = ll) :
    Calls Try.prog 19 #[.agg #[.int .i64 n, .bool b, .slice ao nl cap], .int .i64 s, .int .i64 t, .int .i64 H, .slice lo ll lc] w fun e w' => e = .returned (.tuple #[.bool (stiV n Z s t H L), .int .i64 (plnE n Z s t H true L)]) ∧ Below w.heap.size w w' := by
  have hb00 := (Below.refl _ w).alloc (Nat.le_refl _) (.cells #[.int .i64 n, .bool true, .slice ao nl cap] 24)
  have hn00 := heap_alloc_new w (.cells #[.int .i64 n, .bool true, .slice ao nl cap] 24)
  have HB := Lib.hid hb00
  have HNB := Lib.hid hn00
  have HR := Lib.hid (h.below' hb00)
  have HL := Lib.hid (hl.below' hb00)
  have HRL := Lib.hid h.lt
  have HLL := Lib.hid hl.lt
  have c0 := cell_whole hn00 0
  have c1 := cell_whole hn00 1
  have c2 := cell_whole hn00 2
  obtain ⟨v1, hv1⟩ : ∃ v1, plnV n Z s t H true L = v1 := ⟨_, rfl⟩
  obtain ⟨e1, he1⟩ : ∃ e1, plnE n Z s t H true L = e1 := ⟨_, rfl⟩
  obtain ⟨v2, hv2⟩ : ∃ v2, plnV n Z s t H false L = v2 := ⟨_, rfl⟩
  obtain ⟨e2, he2⟩ : ∃ e2, plnE n Z s t H false L = e2 := ⟨_, rfl⟩
  have HC1 := Lib.hid (fun W hr hm => rchk14_is n true ao cap nl Z s t H lo lc ll L v1 e1 W hr hz hm hok hn hnl hll hv1 he1)
  have HC2 := Lib.hid (fun W hr hm => rchk14_is n false ao cap nl Z s t H lo lc ll L v2 e2 W hr hz hm hok hn hnl hll hv2 he2)
  have HST : Hid (stiV n Z s t H L = (decide (e1 = 0) && decide (e2 = 0))) := Lib.hid (by unfold stiV; rw [he1, he2])
  rw [he1, HST.out]
  clear h hb00 hn00 hz hl hok hnl hll hv1 he1 hv2 he2
  by_cases h0 : e1 = 0
  · subst h0
    have hq : (decide ((0 : Int) = 0) && decide (e2 = 0)) = (e2 == 0) := by simp; rfl
    rw [hq]
    clear hq
    go_enter Try.func19, Try.ntmps19
    go_wp2_with (go_at_call 15; have hc1 := HC1.out; refine (hc1 _ HR.out HL.out).mono ?_; clear hc1; rintro e w2 ⟨rfl, hb2⟩; have HB2 := Lib.hid (HB.out.trans (hb2.mono HB.out.size)); have hn2 := kept_box HNB.out hb2; have HN2 := Lib.hid hn2; have z0 := cell_whole hn2 0; have z1 := cell_whole hn2 1; have z2 := cell_whole hn2 2; have f1 := frozen_whole hn2 1; have hn3 := set_whole hn2 1 (.bool false); have y0 := cell_whole hn3 0; have y1 := cell_whole hn3 1; have y2 := cell_whole hn3 2; have hk3 : Kept (fun i => i = w.heap.size) w2 (w2.setCell ⟨w.heap.size, 1, none⟩ (.bool false)) := (Kept.refl (fun i => i = w.heap.size) w2).set (j := 1) (.inl rfl) _; have HK3 := Lib.hid hk3; have HR3 := Lib.hid (rowOffO (HR.out.below' hb2) hk3 (fun ad e h0 q => by have h1 := HRL.out ad e h0; have h2 : ad.block = w.heap.size := q; omega)); have HL3 := Lib.hid (rowOffO (HL.out.below' hb2) hk3 (fun ad e h0 q => by have h1 := HLL.out ad e h0; have h2 : ad.block = w.heap.size := q; omega)); clear HC1 hb2 hn2 hn3 hk3)
    refine (HC2.out _ HR3.out HL3.out).mono ?_
    rintro e w4 ⟨rfl, hb4⟩
    have HB4 := Lib.hid ((HB2.out.trans (HK3.out.below HB2.out.size (fun i e => by have e2 : i = w.heap.size := e; omega))).trans (hb4.mono (by simp; exact HB2.out.size)))
    clear hb4
    go_wp2_with fail
    go_ret2
    exact ⟨rfl, HB4.out⟩
  · have hf1 : (e1 != 0) = true := by simpa using h0
    have hf2 : (e1 == 0) = false := by simpa using h0
    have hq : (decide (e1 = 0) && decide (e2 = 0)) = false := by rw [decide_eq_false h0]; rfl
    rw [hq]
    clear hq h0
    go_enter Try.func19, Try.ntmps19
    go_wp2_with (go_at_call 15; refine (HC1.out _ HR.out HL.out).mono ?_; rintro e w2 ⟨rfl, hb2⟩; have HB2 := Lib.hid (HB.out.trans (hb2.mono HB.out.size)); clear hb2)
    go_ret2
    exact ⟨rfl, HB2.out⟩
end
end Go.Proofs.Ytedficnaipiplaa
