/- The network with the flow of zeros, as package span makes it; Best and Most. -/
import Derived.Test.YtekcnglkfglbfaaGAll
import Derived.Test.YtekcnglkfglbfaaGPrg
import Derived.Test.YtekcnglkfglbfaaGBds
namespace Go.Proofs.Ytekcnglkfglbfaa
open Go.RowKit
set_option linter.unusedVariables false

theorem spw_make {w1 : World} {N : Nat} {b : Bool} {ao : Option Addr} {cap : Nat} {Z : List ArcT} {s t : Nat} (ha : Row encA 4 w1 ao Z) (hz : Z.length ≤ 200) :
    SpW ((w1.alloc (.cells (madeCells #[.int .i64 0] Z.length) 3)).alloc (.cells #[.int .i64 (N : Int), .bool b, .slice ao Z.length cap, .int .i64 (s : Int), .int .i64 (t : Int), .slice (some ⟨w1.heap.size, 0, none⟩) Z.length Z.length, .int .i64 0, .bool false, .slice none 0 0] 64)) (w1.heap.size + 1) N b ao cap Z s t (some ⟨w1.heap.size, 0, none⟩) Z.length (List.replicate Z.length 0) 0 false none 0 [] ∧
    Below w1.heap.size w1 ((w1.alloc (.cells (madeCells #[.int .i64 0] Z.length) 3)).alloc (.cells #[.int .i64 (N : Int), .bool b, .slice ao Z.length cap, .int .i64 (s : Int), .int .i64 (t : Int), .slice (some ⟨w1.heap.size, 0, none⟩) Z.length Z.length, .int .i64 0, .bool false, .slice none 0 0] 64)) := by
  have hb := ((Below.refl _ w1).alloc (Nat.le_refl _) (.cells (madeCells #[.int .i64 0] Z.length) 3)).alloc (by simp) (.cells #[.int .i64 (N : Int), .bool b, .slice ao Z.length cap, .int .i64 (s : Int), .int .i64 (t : Int), .slice (some ⟨w1.heap.size, 0, none⟩) Z.length Z.length, .int .i64 0, .bool false, .slice none 0 0] 64)
  have hf := ((madeI w1 w1.heap.size Z.length (Nat.le_refl _) (by omega)).alloc (.cells #[.int .i64 (N : Int), .bool b, .slice ao Z.length cap, .int .i64 (s : Int), .int .i64 (t : Int), .slice (some ⟨w1.heap.size, 0, none⟩) Z.length Z.length, .int .i64 0, .bool false, .slice none 0 0] 64)).lstK
  refine ⟨⟨?_, ha.below' hb, fun ad e h0 => ?_, hf, fun ad e h0 => ?_, Row.nil _ _, fun ad e h0 => by cases e⟩, hb⟩
  · rw [List.length_replicate]
    have h := heap_alloc_new (w1.alloc (.cells (madeCells #[.int .i64 0] Z.length) 3)) (.cells #[.int .i64 (N : Int), .bool b, .slice ao Z.length cap, .int .i64 (s : Int), .int .i64 (t : Int), .slice (some ⟨w1.heap.size, 0, none⟩) Z.length Z.length, .int .i64 0, .bool false, .slice none 0 0] 64)
    have e1 : (w1.alloc (.cells (madeCells #[.int .i64 0] Z.length) 3)).heap.size = w1.heap.size + 1 := by simp
    rw [e1] at h
    exact h
  · obtain ⟨b', o', e', hb', _⟩ := ha 0 h0
    rw [e'] at e
    cases e
    show b' ≠ _
    omega
  · cases e
    show w1.heap.size ≠ w1.heap.size + 1
    omega
section
variable (b : Bool) (ao : Option Addr) (cap : Nat) (Z : List ArcT)
set_option maxRecDepth 100000 in
set_option maxHeartbeats 4000000 in
theorem pempty_at (N s t : Nat) (w : World) (h : Row encA 4 w ao Z) (hz : Z.length ≤ 200) :
    Calls Try.prog 28 #[.agg #[.int .i64 (N : Int), .bool b, .slice ao Z.length cap], .int .i64 (s : Int), .int .i64 (t : Int)] w fun e w' => ∃ p fb, e = .returned (.pointer (some ⟨p, 0, none⟩)) ∧ w.heap.size ≤ p ∧ SpW w' p N b ao cap Z s t (some ⟨fb, 0, none⟩) Z.length (List.replicate Z.length 0) 0 false none 0 [] ∧ Below w.heap.size w w' := by
  have hb00 := (Below.refl _ w).alloc (Nat.le_refl _) (.cells #[.int .i64 (N : Int), .bool b, .slice ao Z.length cap] 24)
  have HB0 := Lib.hid hb00
  have HN0 := Lib.hid (heap_alloc_new w (.cells #[.int .i64 (N : Int), .bool b, .slice ao Z.length cap] 24))
  have c0 := cell_whole HN0.out 0
  have c1 := cell_whole HN0.out 1
  have c2 := cell_whole HN0.out 2
  have HR0 := Lib.hid h
  clear h hb00
  have hmk := fun W => run_make_row' (P := Try.prog) 25 3 (.int .i64 0) 8 Try.underlying25 infoInt rfl .i64 .i64 Z.length (by omega) (by omega) W
  go_enter Try.func28, Try.ntmps28
  go_wp2
  go_region
  go_wp2
  go_ret
  have hs1 : (w.alloc (.cells #[.int .i64 (N : Int), .bool b, .slice ao Z.length cap] 24)).heap.size = w.heap.size + 1 := by simp
  have hm := spw_make (N := N) (b := b) (cap := cap) (s := s) (t := t) (HR0.out.below' HB0.out) (by omega)
  rw [hs1] at hm
  exact ⟨_, _, rfl, by omega, hm.1.drew, below_drew (HB0.out.trans (hm.2.mono (by omega)))⟩
/-- What Best tells. -/
def Best12 (n : Int) (Z : List ArcT) (s t H : Int) (w : World) (e : Ending) (w' : World) : Prop :=
  ∃ fo fc F m, e = .returned (.tuple #[.slice fo F.length fc, .int .i64 m, .int .i64 (askE n Z s t H)]) ∧ Lst encI w' fo F ∧
    (askE n Z s t H = 0 → ∃ N i j : Nat, n = (N : Int) ∧ s = (i : Int) ∧ t = (j : Int) ∧ (i < N ∧ j < N ∧ i ≠ j) ∧ SpanNet Z N ∧ ∃ k, BestI Z N i j H F k ∧ (∀ x, getO (dN Z F N i N) j = some x → H < x) ∧ worthK Z H F k = m ∧ IsBest Z N i j H m) ∧
    (askE n Z s t H ≠ 0 → F = [] ∧ m = 0) ∧ Below w.heap.size w w'
set_option maxRecDepth 100000 in
set_option maxHeartbeats 8000000 in
theorem pbest_any (n s t H : Int) (w : World) (h : Row encA 4 w ao Z) (hz : Z.length ≤ maxLen) :
    Calls Try.prog 19 #[.agg #[.int .i64 n, .bool b, .slice ao Z.length cap], .int .i64 s, .int .i64 t, .int .i64 H] w (Best12 n Z s t H w) := by
  have hb00 := (Below.refl _ w).alloc (Nat.le_refl _) (.cells #[.int .i64 n, .bool b, .slice ao Z.length cap] 24)
  have HB0 := Lib.hid hb00
  have HN0 := Lib.hid (heap_alloc_new w (.cells #[.int .i64 n, .bool b, .slice ao Z.length cap] 24))
  have c0 := cell_whole HN0.out 0
  have c1 := cell_whole HN0.out 1
  have c2 := cell_whole HN0.out 2
  have HR := Lib.hid (h.below' hb00)
  have HZ := Lib.hid hz
  clear h hz hb00
  obtain ⟨e0, he⟩ : ∃ e0, askE n Z s t H = e0 := ⟨_, rfl⟩
  have HE := Lib.hid he
  by_cases h0 : e0 = 0
  · subst h0
    obtain ⟨N, i, j, rfl, rfl, rfl, hi, hj, hij, hW, hH1, hH2⟩ := ask_net he
    have HWN := Lib.hid hW
    have HIJ := Lib.hid hij
    have HZ2 : Hid (Z.length ≤ 200) := Lib.hid hW.len
    have HEN := Lib.hid (askE_ok he).1
    clear he hW hij
    go_enter Try.func19, Try.ntmps19
    go_wp2_with (first
      | (go_at_call 13; refine (pcheck_is (N : Int) b ao cap Z 0 (i : Int) (j : Int) H _ HR.out HZ.out HE.out).mono ?_; rintro e w1 ⟨rfl, hb1⟩; have HB1 := Lib.hid (HB0.out.trans (hb1.mono HB0.out.size)); have hn1 := kept_box HN0.out hb1; have HN1 := Lib.hid hn1; have HR1 := Lib.hid (HR.out.below' hb1); have c0 := cell_whole hn1 0; have c1 := cell_whole hn1 1; have c2 := cell_whole hn1 2; clear hb1 hn1)
      | (go_at_call 28; refine (pempty_at b ao cap Z N i j _ HR1.out HZ2.out).mono ?_; rintro e w2 ⟨p, fb, rfl, hp, hw2, hb2⟩; have HB2 := Lib.hid (HB1.out.trans (hb2.mono HB1.out.size)); have HW2 := Lib.hid hw2; have HR2 := Lib.hid (HR1.out.below' hb2); have HN2 := Lib.hid (kept_box HN1.out hb2); have HPT : Hid (w.heap.size < p) := Lib.hid (by have := lt_whole HN1.out; omega); clear hp hw2 hb2 c0 c1 c2)
      | (go_at_call 29; refine (pfillall_at p N b ao cap Z i j H (some ⟨fb, 0, none⟩) Z.length (List.replicate Z.length 0) 0 0 false none 0 [] _ HW2.out HEN.out (BestI.start HWN.out hH1)).mono ?_; rintro e w3 ⟨fo, fc, F, k, m, z, xo, xc, X, rfl, hw3, hk3, hi3, hd3⟩; have HW3 := Lib.hid hw3; have HB3 := Lib.hid (HB2.out.trans (hk3.below HB2.out.size (fun i e => by have e2 : i = p := e; have := HPT.out; omega))); have HN3 := Lib.hid (hk3.old HN2.out (fun e => by have e2 : w.heap.size = p := e; have := HPT.out; omega)); have HI3 := Lib.hid hi3; have HD3 := Lib.hid hd3; clear hw3 hk3 hi3 hd3))
    have HVE := Lib.hid (wor_st HE.out HI3.out.flow)
    have HFM : Hid (F.length ≤ maxLen) := Lib.hid (by have := HI3.out.flow.1.1; rw [this]; exact HZ.out)
    obtain ⟨⟨_, _, _, _, _, k5, _, _, _⟩, _⟩ := c9Cells HW3.out.box
    have c0 := cell_whole HN3.out 0
    have c1 := cell_whole HN3.out 1
    have c2 := cell_whole HN3.out 2
    go_region_held3 (fun W => W.cell? ⟨w.heap.size, 0, none⟩ = some (.int .i64 (N : Int)) ∧ W.cell? ⟨w.heap.size, 1, none⟩ = some (.bool b) ∧ W.cell? ⟨w.heap.size, 2, none⟩ = some (.slice ao Z.length cap) ∧ W.cell? ⟨p, 5, none⟩ = some (.slice fo F.length fc)) (first | exact ⟨c0, c1, c2, k5⟩ | exact ⟨z0, z1, z2, z5⟩ | go_keep)
      (first | (go_at_call 7; refine (pworth_any (N : Int) b ao fo cap fc Z F (i : Int) (j : Int) H w3.drew HW3.out.drew.arcs HW3.out.drew.flow HZ.out HFM.out).mono ?_; rw [HVE.out.1, HVE.out.2]; rintro e w4 ⟨rfl, b4⟩; have HW4 := Lib.hid (HW3.out.drew.next b4); have z0 := cell_below (w := w3.drew) b4 c0; have z1 := cell_below (w := w3.drew) b4 c1; have z2 := cell_below (w := w3.drew) b4 c2; have z5 := cell_below (w := w3.drew) b4 k5; have HB4 := Lib.hid ((below_drew HB3.out).trans (b4.mono HB3.out.size)); clear b4))
    all_goals
      go_wp2
      go_ret3
      exact ⟨fo, fc, F, worthK Z H F k, by rw [HE.out]; rfl, HW4.out.flow, fun _ => ⟨N, i, j, rfl, rfl, rfl, ⟨hi, hj, HIJ.out⟩, HWN.out, k, HI3.out, HD3.out, rfl, HI3.out.done HWN.out hi hj HIJ.out HD3.out⟩, fun h => absurd HE.out h, HB4.out⟩
  · have hf1 : (e0 != 0) = true := by simpa using h0
    have hf2 : (e0 == 0) = false := by simpa using h0
    have H0 := Lib.hid h0
    clear he h0
    go_enter Try.func19, Try.ntmps19
    go_wp2_with (first
      | (go_at_call 13; refine (pcheck_is n b ao cap Z e0 s t H _ HR.out HZ.out HE.out).mono ?_; rintro e w1 ⟨rfl, hb1⟩; have HB1 := Lib.hid (HB0.out.trans (hb1.mono HB0.out.size)); clear hb1))
    go_ret3
    exact ⟨none, 0, [], 0, by rw [HE.out]; rfl, Lst.nil _ _, fun h => absurd (HE.out.symm.trans h) H0.out, fun _ => ⟨rfl, rfl⟩, HB1.out⟩
theorem pmost_any (n s t H : Int) (w : World) (h : Row encA 4 w ao Z) (hz : Z.length ≤ maxLen) :
    Calls Try.prog 11 #[.agg #[.int .i64 n, .bool b, .slice ao Z.length cap], .int .i64 s, .int .i64 t, .int .i64 H] w (Most12 n Z s t H w) := by
  have hb00 := (Below.refl _ w).alloc (Nat.le_refl _) (.cells #[.int .i64 n, .bool b, .slice ao Z.length cap] 24)
  have HB0 := Lib.hid hb00
  have HR := Lib.hid (h.below' hb00)
  have HZ := Lib.hid hz
  clear h hz hb00
  go_enter Try.func11, Try.ntmps11
  go_wp2_with fail
  refine (pbest_any b ao cap Z n s t H _ HR.out HZ.out).mono ?_
  rintro e w1 ⟨fo, fc, F, m, rfl, hf, h1, h2, hb1⟩
  obtain ⟨e0, he⟩ : ∃ e0, askE n Z s t H = e0 := ⟨_, rfl⟩
  rw [he] at h1 h2 ⊢
  have HE := Lib.hid he
  have H1 := Lib.hid h1
  have H2 := Lib.hid h2
  have HB1 := Lib.hid (HB0.out.trans (hb1.mono HB0.out.size))
  clear hf hb1 he h1 h2
  go_wp2
  go_ret2
  refine ⟨m, by rw [HE.out]; rfl, fun h => ?_, fun h => (H2.out (by rw [← HE.out]; exact h)).2, HB1.out⟩
  obtain ⟨N, i, j, a1, a2, a3, ⟨a4, a5, a6⟩, a7, k, _, _, _, a8⟩ := H1.out (by rw [← HE.out]; exact h)
  exact ⟨N, i, j, a1, a2, a3, a4, a5, a6, a7, a8⟩
end
end Go.Proofs.Ytekcnglkfglbfaa
