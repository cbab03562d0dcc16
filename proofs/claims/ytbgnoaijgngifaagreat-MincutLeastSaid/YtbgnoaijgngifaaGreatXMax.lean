/- Max and Most of package maxflow: a flow of the greatest value, and the value. -/
import Derived.Test.YtbgnoaijgngifaaGreatXFull
namespace Go.Proofs.YtbgnoaijgngifaaGreat
open Go.RowKit
set_option linter.unusedVariables false

/-- What Max answers. -/
def MaxRes (n : Int) (Z : List ArcT) (s t : Int) (w : World) (e : Ending) (w' : World) : Prop :=
  (endsE n Z s t = 0 ∧ ∃ fo fc F k N i j, n = ((N : Nat) : Int) ∧ s = ((i : Nat) : Int) ∧ t = ((j : Nat) : Int) ∧ (i < N ∧ j < N ∧ i ≠ j) ∧ e = .returned (.tuple #[.slice fo F.length fc, .int .i64 k, .int .i64 0]) ∧ Lst encI w' fo F ∧ FlowST Z N i j F k ∧ IsMost Z N i j k ∧ j ∉ keysX (seekN Z F N i) ∧ Below w.heap.size w w') ∨
  (endsE n Z s t ≠ 0 ∧ e = .returned (.tuple #[.slice none 0 0, .int .i64 0, .int .i64 (endsE n Z s t)]) ∧ Below w.heap.size w w')
section
variable (n : Int) (b : Bool) (ao : Option Addr) (cap : Nat) (Z : List ArcT)
set_option maxRecDepth 100000 in
set_option maxHeartbeats 4000000 in
theorem xmax_any (s t : Int) (w : World) (h : Row encA 4 w ao Z) (hz : Z.length ≤ maxLen) :
    Calls Tryz.prog 9 #[.agg #[.int .i64 n, .bool b, .slice ao Z.length cap], .int .i64 s, .int .i64 t] w (MaxRes n Z s t w) := by
  have hb00 := (Below.refl _ w).alloc (Nat.le_refl _) (.cells #[.int .i64 n, .bool b, .slice ao Z.length cap] 24)
  have HB0 := Lib.hid hb00
  have HN0 := Lib.hid (heap_alloc_new w (.cells #[.int .i64 n, .bool b, .slice ao Z.length cap] 24))
  have c0 := cell_whole HN0.out 0
  have c1 := cell_whole HN0.out 1
  have c2 := cell_whole HN0.out 2
  have HR := Lib.hid (h.below' hb00)
  have HZ := Lib.hid hz
  clear h hz hb00
  obtain ⟨e0, he⟩ : ∃ e0, endsE n Z s t = e0 := ⟨_, rfl⟩
  have HE := Lib.hid he
  by_cases h0 : e0 = 0
  · subst h0
    obtain ⟨hc, i, j, rfl, rfl, hi, hj, hij⟩ := endsE_ok he
    have hR : Right (n, b, Z) := right_iff.1 hc
    have hn := nodesE_ok hR.1
    have hzl : Z.length ≤ 200 := hR.2.1
    simp only at hn
    obtain ⟨N, rfl⟩ : ∃ N : Nat, n = (N : Int) := ⟨n.toNat, by omega⟩
    rw [Int.toNat_natCast] at hi hj
    have HC := Lib.hid hc
    have HCP := Lib.hid (arcs_lt he).2
    clear he hc hR
    go_enter Tryz.func9, Tryz.ntmps9
    go_wp2_with (first
      | (go_at_call 17; refine (ends_is (N : Int) b ao cap Z (i : Int) (j : Int) 0 _ HR.out HZ.out HE.out).mono ?_; rintro e w1 ⟨rfl, hb1⟩; have HB1 := Lib.hid (HB0.out.trans (hb1.mono HB0.out.size)); have HR1 := Lib.hid (HR.out.below' hb1); have HN1 := Lib.hid (kept_box HN0.out hb1); have c0 := cell_below hb1 c0; have c1 := cell_below hb1 c1; have c2 := cell_below hb1 c2; clear hb1)
      | (go_at_call 18; refine (xempty_at b ao cap Z N _ HR1.out HC.out).mono ?_; rintro e w2 ⟨p, tb, sg, fb, rfl, hp, htb, hw2, hb2⟩; have HB2 := Lib.hid (HB1.out.trans (hb2.mono HB1.out.size)); have HW2 := Lib.hid hw2; have HR2 := Lib.hid (HR1.out.below' hb2); have HN2 := Lib.hid (kept_box HN1.out hb2); have HPT : Hid (w.heap.size < p ∧ w.heap.size < tb) := Lib.hid (by have := lt_whole HN1.out; omega); clear hp htb hw2 hb2 c0 c1 c2)
      | (go_at_call 19; refine (xfillall_at p tb sg N b ao cap Z N N (some ⟨fb, 0, none⟩) Z.length _ none 0 [] _ 0 i j _ HW2.out HE.out (zero_flow Z HCP.out N i j) (TI.start Z N)).mono ?_; rintro e w3 ⟨fo, fc, F, lo, lc, L, T, k, rfl, hw3, hk3, hv3, hm3, hn3⟩; have HW3 := Lib.hid hw3; have HB3 := Lib.hid (HB2.out.trans (hk3.below HB2.out.size (fun i e => by have := HPT.out; omega))); have HN3 := Lib.hid (hk3.old HN2.out (fun e => by have := HPT.out; omega)); have HV3 := Lib.hid hv3; have HM3 := Lib.hid hm3; have HX3 := Lib.hid hn3; clear hw3 hk3 hv3 hm3 hn3))
    have HVE := Lib.hid (of_st HE.out HV3.out)
    have HFM : Hid (F.length ≤ maxLen) := Lib.hid (by have := HV3.out.1.1; unfold maxLen; omega)
    have HR3 := Lib.hid HW3.out.arcs
    obtain ⟨⟨_, _, _, _, k4, _, _⟩, _⟩ := c7Cells HW3.out.box
    have c0 := cell_whole HN3.out 0
    have c1 := cell_whole HN3.out 1
    have c2 := cell_whole HN3.out 2
    go_region_held3 (fun W => W.cell? ⟨w.heap.size, 0, none⟩ = some (.int .i64 (N : Int)) ∧ W.cell? ⟨w.heap.size, 1, none⟩ = some (.bool b) ∧ W.cell? ⟨w.heap.size, 2, none⟩ = some (.slice ao Z.length cap) ∧ W.cell? ⟨p, 4, none⟩ = some (.slice fo F.length fc)) (first | exact ⟨c0, c1, c2, k4⟩ | exact ⟨z0, z1, z2, z4⟩ | go_keep)
      (first | (go_at_call 20; refine (scheck_any (N : Int) b ao fo cap fc Z (i : Int) (j : Int) F w3.drew HW3.out.drew.arcs HW3.out.drew.flow HZ.out HFM.out).mono ?_; rw [HVE.out.1, HVE.out.2]; rintro e w4 ⟨rfl, b4⟩; have HW4 := Lib.hid (HW3.out.drew.next b4); have z0 := cell_below (w := w3.drew) b4 c0; have z1 := cell_below (w := w3.drew) b4 c1; have z2 := cell_below (w := w3.drew) b4 c2; have z4 := cell_below (w := w3.drew) b4 k4; have HB4 := Lib.hid ((below_drew HB3.out).trans (b4.mono HB3.out.size)); clear b4))
    all_goals
      go_wp2
      go_ret3
      exact .inl ⟨HE.out, fo, fc, F, k, N, i, j, rfl, rfl, rfl, ⟨hi, hj, hij⟩, rfl, HW4.out.flow, HV3.out, HM3.out, HX3.out, HB4.out⟩
  · have H0 := Lib.hid h0
    have hf1 : (e0 != 0) = true := by simpa using h0
    have hf2 : (e0 == 0) = false := by simpa using h0
    clear h0 he
    go_enter Tryz.func9, Tryz.ntmps9
    go_wp2_with (first
      | (go_at_call 17; refine (ends_is n b ao cap Z s t e0 _ HR.out HZ.out HE.out).mono ?_; rintro e w1 ⟨rfl, hb1⟩; have HB1 := Lib.hid (HB0.out.trans (hb1.mono HB0.out.size)); clear hb1))
    go_ret3
    exact .inr ⟨by rw [HE.out]; exact H0.out, by rw [HE.out]; rfl, HB1.out⟩
/-- What Most answers. -/
def MostRes (n : Int) (Z : List ArcT) (s t : Int) (w : World) (e : Ending) (w' : World) : Prop :=
  (endsE n Z s t = 0 ∧ ∃ k N i j, n = ((N : Nat) : Int) ∧ s = ((i : Nat) : Int) ∧ t = ((j : Nat) : Int) ∧ (i < N ∧ j < N ∧ i ≠ j) ∧ e = .returned (.tuple #[.int .i64 k, .int .i64 0]) ∧ IsMost Z N i j k ∧ Below w.heap.size w w') ∨
  (endsE n Z s t ≠ 0 ∧ e = .returned (.tuple #[.int .i64 0, .int .i64 (endsE n Z s t)]) ∧ Below w.heap.size w w')
end
end Go.Proofs.YtbgnoaijgngifaaGreat
