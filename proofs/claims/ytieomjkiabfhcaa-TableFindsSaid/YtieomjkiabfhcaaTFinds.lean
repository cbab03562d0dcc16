/- The walk of statement TableFinds. -/
import Derived.Test.YtieomjkiabfhcaaTAwake
namespace Go.Proofs.Ytieomjkiabfhcaa
open Go.RowKit
set_option linter.unusedVariables false

set_option maxRecDepth 100000 in
set_option maxHeartbeats 2000000 in
theorem finds_law (w : World) (ao : Option Addr) (len cap : Nat) (Z : List ArcT) (hl : Z.length = len) (hm : len ≤ maxLen) (hr : Row encA 4 w ao Z) (hk : OkA Z) (k : Int × Int × Int) (hkk : okK k) :
    Calls Try.prog 3 #[.slice ao len cap, .agg #[.int .i64 k.1, .int .i64 k.2.1, .int .i64 k.2.2]] w fun e w' => e = .returned (.bool true) ∧ Below w.heap.size w w' := by
  unfold maxLen at hm
  subst hl
  have HR := Lib.hid hr
  have HK := Lib.hid hk
  clear hr hk hkk
  obtain ⟨x, y, z⟩ := k
  simp only
  by_cases h : 200 < Z.length
  · have hb0 := Lib.hid ((Below.refl _ w).alloc (Nat.le_refl _) (.cells #[.int .i64 x, .int .i64 y, .int .i64 z] 24))
    go_enter Try.func3, Try.ntmps3
    go_wp2_with (go_at_call 13; refine (awake_any _).mono ?_; rintro e w1 ⟨rfl, hb1⟩; have HB1 := Lib.hid (hb0.out.trans (hb1.mono (by simp))); clear hb1)
    go_ret
    exact ⟨rfl, HB1.out⟩
  · have hs : Z.length ≤ 200 := by omega
    have hb0 := (Below.refl _ w).alloc (Nat.le_refl _) (.cells #[.int .i64 x, .int .i64 y, .int .i64 z] 24)
    have HB0 := Lib.hid hb0
    have m0 : (w.alloc (.cells #[.int .i64 x, .int .i64 y, .int .i64 z] 24)).cell? ⟨w.heap.size, 0, none⟩ = some (.int .i64 x) := cell_new _ _ _ 0
    have m1 : (w.alloc (.cells #[.int .i64 x, .int .i64 y, .int .i64 z] 24)).cell? ⟨w.heap.size, 1, none⟩ = some (.int .i64 y) := cell_new _ _ _ 1
    have m2 : (w.alloc (.cells #[.int .i64 x, .int .i64 y, .int .i64 z] 24)).cell? ⟨w.heap.size, 2, none⟩ = some (.int .i64 z) := cell_new _ _ _ 2
    have HR0 := Lib.hid (row_alloc HR.out (.cells #[.int .i64 x, .int .i64 y, .int .i64 z] 24))
    have M0 := Lib.hid m0
    have M1 := Lib.hid m1
    have M2 := Lib.hid m2
    clear hb0 m0 m1 m2
    obtain ⟨F, hF⟩ : ∃ F, fnd (Z.map kOf) (x, y, z) = F := ⟨_, rfl⟩
    have HF := Lib.hid hF
    clear hF
    go_enter Try.func3, Try.ntmps3
    go_wp2_with fail
    have m0 := M0.out
    have m1 := M1.out
    have m2 := M2.out
    clear M0 M1 M2
    generalize w.alloc (.cells #[.int .i64 x, .int .i64 y, .int .i64 z] 24) = w1 at *
    go_region_held3 (fun W => W.cell? ⟨w.heap.size, 0, none⟩ = some (.int .i64 x) ∧ W.cell? ⟨w.heap.size, 1, none⟩ = some (.int .i64 y) ∧ W.cell? ⟨w.heap.size, 2, none⟩ = some (.int .i64 z)) (first | go_keep | exact ⟨z40, z41, z42⟩ | exact ⟨z30, z31, z32⟩ | exact ⟨z20, z21, z22⟩)
      (first
        | (go_at_call 13; refine (awake_any _).mono ?_; rintro e w2 ⟨rfl, hb2⟩; have z20 := cell_below hb2 m0; have z21 := cell_below hb2 m1; have z22 := cell_below hb2 m2; have HB2 := Lib.hid ((below_drew HB0.out).trans (hb2.mono HB0.out.size)); have HR2 := Lib.hid (HR0.out.below' (w' := w2) ⟨hb2.os, hb2.tape, hb2.output, hb2.size, hb2.block⟩); clear hb2)
        | (go_at_call 14; refine (find_any ao cap Z (x, y, z) _ HR2.out hs).mono ?_; rintro e w3 ⟨rfl, hb3⟩; rw [HF.out]; have z30 := cell_below hb3 z20; have z31 := cell_below hb3 z21; have z32 := cell_below hb3 z22; have HB3 := Lib.hid (HB2.out.trans (hb3.mono HB2.out.size)); have HR3 := Lib.hid (HR2.out.below' hb3); clear hb3)
        | (go_at_call 15; refine (rfind_any ao cap Z (x, y, z) _ HR3.out hs).mono ?_; rintro e w4 ⟨rfl, hb4⟩; rw [HF.out]; have z40 := cell_below hb4 z30; have z41 := cell_below hb4 z31; have z42 := cell_below hb4 z32; have HB4 := Lib.hid (HB3.out.trans (hb4.mono HB3.out.size)); clear hb4))
    all_goals
      go_wp2
      go_ret
      exact ⟨by simp, HB4.out⟩
end Go.Proofs.Ytieomjkiabfhcaa
