/- Most of package ebbtideref09. -/
import Derived.Test.YthmighfbldhifaaXBest
import Derived.Test.YthmighfbldhifaaXMax
namespace Go.Proofs.Ythmighfbldhifaa
open Go.RowKit
set_option linter.unusedVariables false

section
variable (n : Int) (b : Bool) (ao : Option Addr) (cap : Nat) (Z : List ArcT)
set_option maxRecDepth 100000 in
set_option maxHeartbeats 4000000 in
theorem rmost_any (s t : Int) (w : World) (h : Row encA 4 w ao Z) (hz : Z.length ≤ maxLen) :
    Calls Try.prog 11 #[.agg #[.int .i64 n, .bool b, .slice ao Z.length cap], .int .i64 s, .int .i64 t] w (MostRes n Z s t w) := by
  have hb00 := (Below.refl _ w).alloc (Nat.le_refl _) (.cells #[.int .i64 n, .bool b, .slice ao Z.length cap] 24)
  have HB0 := Lib.hid hb00
  have HN0 := Lib.hid (heap_alloc_new w (.cells #[.int .i64 n, .bool b, .slice ao Z.length cap] 24))
  have HR := Lib.hid (h.below' hb00)
  have HZ := Lib.hid hz
  clear h hz hb00
  obtain ⟨e0, he⟩ : ∃ e0, endsE n Z s t = e0 := ⟨_, rfl⟩
  have HE := Lib.hid he
  by_cases h0 : e0 = 0
  · subst h0
    obtain ⟨hc, i, j, rfl, rfl, hi, hj, hij⟩ := endsE_ok he
    have HWN := Lib.hid (wide_of hc)
    have hn := nodesE_ok (right_iff.1 hc : Right (n, b, Z)).1
    simp only at hn
    obtain ⟨N, rfl⟩ : ∃ N : Nat, n = (N : Int) := ⟨n.toNat, by omega⟩
    rw [Int.toNat_natCast] at hi hj HWN
    have hzl := HWN.out.len
    clear he hc
    go_enter Try.func11, Try.ntmps11
    go_wp2_with (first
      | (go_at_call 14; refine (rends_is (N : Int) b ao cap Z (i : Int) (j : Int) 0 _ HR.out HZ.out HE.out).mono ?_; rintro e w1 ⟨rfl, hb1⟩; have HB1 := Lib.hid (HB0.out.trans (hb1.mono HB0.out.size)); have HR1 := Lib.hid (HR.out.below' hb1); have hn1 := kept_box HN0.out hb1; have c0 := cell_whole hn1 0; have c1 := cell_whole hn1 1; have c2 := cell_whole hn1 2; clear hb1 hn1))
    go_region_held3 (fun W => W.cell? ⟨w.heap.size, 0, none⟩ = some (.int .i64 (N : Int)) ∧ W.cell? ⟨w.heap.size, 1, none⟩ = some (.bool b) ∧ W.cell? ⟨w.heap.size, 2, none⟩ = some (.slice ao Z.length cap)) (first | exact ⟨c0, c1, c2⟩ | exact ⟨z0, z1, z2⟩ | go_keep)
      (first
        | (go_at_call 19; refine (rbest_any (N : Int) b ao cap Z N i j w1.drew (HR1.out.below' (below_drew (Below.refl w1.heap.size w1))) HWN.out hi hj hij).mono ?_; rintro e w3 ⟨fo, fc, F, k, rfl, hf3, _, hv3, hm3, _, hb3⟩; have HB3 := Lib.hid ((below_drew HB1.out).trans (hb3.mono HB1.out.size)); have HR3 := Lib.hid ((HR1.out.below' (below_drew (Below.refl w1.heap.size w1))).below' hb3); have HF3 := Lib.hid hf3; have HV3 := Lib.hid hv3; have HM3 := Lib.hid hm3; have HBA : Hid (balK Z F i Z.length = k) := Lib.hid hv3.2.2; have z0 := cell_below (w := w1.drew) hb3 c0; have z1 := cell_below (w := w1.drew) hb3 c1; have z2 := cell_below (w := w1.drew) hb3 c2; clear hb3 hf3 hv3 hm3)
        | (go_at_call 18; refine (rleaves_gen (N : Int) b ao fo cap fc Z F i _ HR3.out HF3.out HWN.out.ends HV3.out.1.1 (fun i a ha => by have h1 := HV3.out.1.2 i a ha; have h2 := HWN.out.caps a (List.mem_of_getElem? ha); omega) (by omega)).mono ?_; rw [HBA.out]; rintro e w5 ⟨rfl, hb5⟩; have HB5 := Lib.hid (HB3.out.trans (hb5.mono HB3.out.size)); have z0 := cell_below hb5 z0; have z1 := cell_below hb5 z1; have z2 := cell_below hb5 z2; clear hb5))
    all_goals
      go_wp2
      go_ret2
      exact .inl ⟨HE.out, k, N, i, j, rfl, rfl, rfl, ⟨hi, hj, hij⟩, rfl, HM3.out, HB5.out⟩
  · have H0 := Lib.hid h0
    have hf1 : (e0 != 0) = true := by simpa using h0
    have hf2 : (e0 == 0) = false := by simpa using h0
    clear h0 he
    go_enter Try.func11, Try.ntmps11
    go_wp2_with (first
      | (go_at_call 14; refine (rends_is n b ao cap Z s t e0 _ HR.out HZ.out HE.out).mono ?_; rintro e w1 ⟨rfl, hb1⟩; have HB1 := Lib.hid (HB0.out.trans (hb1.mono HB0.out.size)); clear hb1))
    go_ret2
    exact .inr ⟨by rw [HE.out]; exact H0.out, by rw [HE.out]; rfl, HB1.out⟩
end
end Go.Proofs.Ythmighfbldhifaa
