/- Levels and Path of package ebbtideref08. -/
import Derived.Test.YthmighfbldhifaaVWay
import Derived.Test.YthmighfbldhifaaBC
namespace Go.Proofs.Ythmighfbldhifaa
open Go.RowKit
set_option linter.unusedVariables false

theorem way_far {Z : List ArcT} {F : List Int} {N s v : Nat} (hs : s < N) (hT : ∀ y ∈ stepsK Z F Z.length, toS Z y < N) :
    farX (seekK (fromS Z) (toS Z) (stepsK Z F Z.length) s N) v = match wayK (fromS Z) (toS Z) (stepsK Z F Z.length) N s v with | some p => (p.length : Int) | none => -1 := by
  have hsk := seek_full (fr := fromS Z) (l := stepsK Z F Z.length) hs hT
  cases hw : wayK (fromS Z) (toS Z) (stepsK Z F Z.length) N s v with
  | none => exact farX_none (wayK_none hw)
  | some p =>
    obtain ⟨c, r, r1, r2, rfl⟩ := wayK_some hw
    have := farX_some hsk r1
    rw [r2] at this
    exact this
theorem farsL_take (x : List Ent) (N k : Nat) (hk : k < N) : (farsL x N).take (k + 1) = (farsL x N).take k ++ [farX x k] := by
  have hl : k < (farsL x N).length := by rw [farsL_len]; exact hk
  rw [List.take_succ_eq_append_getElem hl]
  simp [farsL]
section
variable (n : Int) (b : Bool) (ao fo : Option Addr) (cap fc : Nat) (Z : List ArcT) (F : List Int)
set_option maxRecDepth 100000 in
set_option maxHeartbeats 4000000 in
theorem rvpath_any (s t : Int) (w : World) (h : Row encA 4 w ao Z) (hf : Lst encI w fo F) (hz : Z.length ≤ maxLen) (hfl : F.length ≤ maxLen) :
    Calls Try.prog 16 #[.agg #[.int .i64 n, .bool b, .slice ao Z.length cap], .slice fo F.length fc, .int .i64 s, .int .i64 t] w (PathRes n Z F s t w) := by
  have hb00 := (Below.refl _ w).alloc (Nat.le_refl _) (.cells #[.int .i64 n, .bool b, .slice ao Z.length cap] 24)
  have HB0 := Lib.hid hb00
  have c0 := cell_new w #[.int .i64 n, .bool b, .slice ao Z.length cap] 24 0
  have c1 := cell_new w #[.int .i64 n, .bool b, .slice ao Z.length cap] 24 1
  have c2 := cell_new w #[.int .i64 n, .bool b, .slice ao Z.length cap] 24 2
  have HR := Lib.hid (h.below' hb00)
  have HF := Lib.hid (hf.below hb00)
  have HZ := Lib.hid hz
  have HFL := Lib.hid hfl
  clear h hf hz hfl hb00
  obtain ⟨e0, he⟩ : ∃ e0, flowE n Z F = e0 := ⟨_, rfl⟩
  have HE := Lib.hid he
  by_cases h0 : e0 = 0
  · subst h0
    obtain ⟨hR, hFl, hz2, hfz, hn1, hn2⟩ := flow_facts (b := b) he
    obtain ⟨N, rfl⟩ : ∃ N : Nat, n = (N : Int) := ⟨n.toNat, by omega⟩
    have HA := Lib.hid (flow_arcs he)
    have HTT := Lib.hid (flow_to he)
    rw [Int.toNat_natCast] at HA HTT
    have HFZ := Lib.hid hfz
    obtain ⟨e1, he1⟩ : ∃ e1, endsE (N : Int) Z s t = e1 := ⟨_, rfl⟩
    have HE1 := Lib.hid he1
    have HL : Hid (pathE (N : Int) Z F s t = e1) := Lib.hid (by unfold pathE; rw [if_pos HE.out, HE1.out])
    have hsl := stepsK_len Z F Z.length
    clear he hR hFl hfz he1
    by_cases h1 : e1 = 0
    · subst h1
      obtain ⟨_, i, j, rfl, rfl, hi, hj, hij⟩ := endsE_ok HE1.out
      rw [Int.toNat_natCast] at hi hj
      have HWF : Hid (wayF (N : Int) Z F (i : Int) (j : Int) = wayK (fromS Z) (toS Z) (stepsK Z F Z.length) N i j) := Lib.hid (by unfold wayF; rw [if_pos HL.out, Int.toNat_natCast, Int.toNat_natCast, Int.toNat_natCast])
      go_enter Try.func16, Try.ntmps16
      go_wp2_with (first
        | (go_at_call 26; refine (rasked_is (N : Int) b ao fo cap fc Z F 0 _ HR.out HF.out HZ.out HFL.out HE.out).mono ?_; rintro e w1 ⟨rfl, hb1⟩; have HB1 := Lib.hid (HB0.out.trans (hb1.mono HB0.out.size)); have HR1 := Lib.hid (HR.out.below' hb1); have HF1 := Lib.hid (HF.out.below hb1); have d0 := cell_below hb1 c0; have d1 := cell_below hb1 c1; have d2 := cell_below hb1 c2; clear hb1 c0 c1 c2)
        | (go_at_call 14; refine (rends_is (N : Int) b ao cap Z (i : Int) (j : Int) 0 _ HR1.out HZ.out HE1.out).mono ?_; rintro e w2 ⟨rfl, hb2⟩; have HB2 := Lib.hid (HB1.out.trans (hb2.mono HB1.out.size)); have HR2 := Lib.hid (HR1.out.below' hb2); have HF2 := Lib.hid (HF1.out.below hb2); have e0 := cell_below hb2 d0; have e1 := cell_below hb2 d1; have e2 := cell_below hb2 d2; clear hb2 d0 d1 d2))
      go_region_held3 (fun W => W.cell? ⟨w.heap.size, 0, none⟩ = some (.int .i64 (N : Int)) ∧ W.cell? ⟨w.heap.size, 1, none⟩ = some (.bool b) ∧ W.cell? ⟨w.heap.size, 2, none⟩ = some (.slice ao Z.length cap)) (first | exact ⟨e0, e1, e2⟩ | exact ⟨z0, z1, z2⟩ | go_keep)
        (first
          | (go_at_call 28; refine (rsteps_any (N : Int) b ao fo cap fc Z F w2.drew (HR2.out.below' (below_drew (Below.refl w2.heap.size w2))) (HF2.out.below (below_drew (Below.refl w2.heap.size w2))) HFZ.out (by omega)).mono ?_; rintro e w3 ⟨a3, c3, rfl, hr3, hb3⟩; have HB3 := Lib.hid ((below_drew HB2.out).trans (hb3.mono HB2.out.size)); have HR3 := Lib.hid ((HR2.out.below' (below_drew (Below.refl w2.heap.size w2))).below' hb3); have HS3 := Lib.hid hr3; have z0 := cell_below (w := w2.drew) hb3 e0; have z1 := cell_below (w := w2.drew) hb3 e1; have z2 := cell_below (w := w2.drew) hb3 e2; clear hb3 hr3)
          | (go_at_call 27; refine (rway_any (N : Int) b ao a3 cap c3 Z (stepsK Z F Z.length) N i j _ HR3.out HS3.out (by omega) (by omega) (by omega) hi HTT.out (fun y hy => stepsK_arc hy) HA.out.1).mono ?_; rintro e w5 ⟨a5, c5, rfl, hr5, hb5⟩; have HB5 := Lib.hid (HB3.out.trans (hb5.mono HB3.out.size)); have HR5 := Lib.hid hr5; have z0 := cell_below hb5 z0; have z1 := cell_below hb5 z1; have z2 := cell_below hb5 z2; clear hb5 hr5))
      all_goals
        go_wp2
        refine bodyPost_ret (v := .tuple #[.slice a5 ((wayK (fromS Z) (toS Z) (stepsK Z F Z.length) N i j).getD []).length c5, .bool (wayK (fromS Z) (toS Z) (stepsK Z F Z.length) N i j).isSome, .int .i64 0]) (by simp [results, Try.results16, go_sem]) rfl ?_
        refine ⟨a5, c5, ?_, ?_, HB5.out⟩
        · rw [HL.out]; unfold wayL wayB; rw [HWF.out]
        · unfold wayL; rw [HWF.out]; exact HR5.out
    · have H1 := Lib.hid h1
      have hf1 : (e1 != 0) = true := by simpa using h1
      have hf2 : (e1 == 0) = false := by simpa using h1
      clear h1
      go_enter Try.func16, Try.ntmps16
      go_wp2_with (first
        | (go_at_call 26; refine (rasked_is (N : Int) b ao fo cap fc Z F 0 _ HR.out HF.out HZ.out HFL.out HE.out).mono ?_; rintro e w1 ⟨rfl, hb1⟩; have HB1 := Lib.hid (HB0.out.trans (hb1.mono HB0.out.size)); have HR1 := Lib.hid (HR.out.below' hb1); have d0 := cell_below hb1 c0; have d1 := cell_below hb1 c1; have d2 := cell_below hb1 c2; clear hb1 c0 c1 c2)
        | (go_at_call 14; refine (rends_is (N : Int) b ao cap Z s t e1 _ HR1.out HZ.out HE1.out).mono ?_; rintro e w2 ⟨rfl, hb2⟩; have HB2 := Lib.hid (HB1.out.trans (hb2.mono HB1.out.size)); clear hb2))
      refine bodyPost_ret (v := .tuple #[.slice none 0 0, .bool false, .int .i64 e1]) (by simp [results, Try.results16, go_sem]) rfl ?_
      exact path_no (N : Int) Z F HL.out H1.out HB2.out
  · have hf1 : (e0 != 0) = true := by simpa using h0
    have hf2 : (e0 == 0) = false := by simpa using h0
    have HL : Hid (pathE n Z F s t = e0) := Lib.hid (by unfold pathE; rw [if_neg (by rw [he]; exact h0), he])
    have H0 := Lib.hid h0
    clear he h0
    go_enter Try.func16, Try.ntmps16
    go_wp2_with (first
      | (go_at_call 26; refine (rasked_is n b ao fo cap fc Z F e0 _ HR.out HF.out HZ.out HFL.out HE.out).mono ?_; rintro e w1 ⟨rfl, hb1⟩; have HB1 := Lib.hid (HB0.out.trans (hb1.mono HB0.out.size)); clear hb1))
    refine bodyPost_ret (v := .tuple #[.slice none 0 0, .bool false, .int .i64 e0]) (by simp [results, Try.results16, go_sem]) rfl ?_
    exact path_no n Z F HL.out H0.out HB1.out
end
end Go.Proofs.Ythmighfbldhifaa
