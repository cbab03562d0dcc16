/- Levels and Path of package ebbtideref08. -/
import Derived.Test.YtbgnoaijgngifaaGreatVWay
import Derived.Test.YtbgnoaijgngifaaGreatBC
namespace Go.Proofs.YtbgnoaijgngifaaGreat
open Go.RowKit
set_option linter.unusedVariables false

theorem way_far {Z : List ArcT} {F : List Int} {N s v : Nat} (hs : s < N) (hT : ∀ y ∈ stepsK Z F Z.length, toS Z y < N) :
    farX (seekK (fromS Z) (toS Z) (stepsK Z F Z.length) s N) v = match wayK (fromS Z) (toS Z) (stepsK Z F Z.length) N s v with | some p => (p.length : Int) | none => -1 := by
  have hsk := seek_full (fr := fromS Z) (l := stepsK Z F Z.length) hs hT
  cases hw : wayK (fromS Z) (toS Z) (stepsK Z F Z.length) N s v with
  | none => exact farX_none (wayK_none hw)
  | some p =>
    obtain ⟨c, r, r1, r2, rfl⟩ := wayK_some hw
    have := farX_some hsk r1
    rw [r2] at this
    exact this
theorem farsL_take (x : List Ent) (N k : Nat) (hk : k < N) : (farsL x N).take (k + 1) = (farsL x N).take k ++ [farX x k] := by
  have hl : k < (farsL x N).length := by rw [farsL_len]; exact hk
  rw [List.take_succ_eq_append_getElem hl]
  simp [farsL]
section
variable (n : Int) (b : Bool) (ao fo : Option Addr) (cap fc : Nat) (Z : List ArcT) (F : List Int)
set_option maxRecDepth 100000 in
set_option maxHeartbeats 4000000 in
theorem rlevels_any (s : Int) (w : World) (h : Row encA 4 w ao Z) (hf : Lst encI w fo F) (hz : Z.length ≤ maxLen) (hfl : F.length ≤ maxLen) :
    Calls Tryz.prog 26 #[.agg #[.int .i64 n, .bool b, .slice ao Z.length cap], .slice fo F.length fc, .int .i64 s] w (LevRes n Z F s w) := by
  have hb00 := (Below.refl _ w).alloc (Nat.le_refl _) (.cells #[.int .i64 n, .bool b, .slice ao Z.length cap] 24)
  have HB0 := Lib.hid hb00
  have c0 := cell_new w #[.int .i64 n, .bool b, .slice ao Z.length cap] 24 0
  have c1 := cell_new w #[.int .i64 n, .bool b, .slice ao Z.length cap] 24 1
  have c2 := cell_new w #[.int .i64 n, .bool b, .slice ao Z.length cap] 24 2
  have HR := Lib.hid (h.below' hb00)
  have HF := Lib.hid (hf.below hb00)
  have HZ := Lib.hid hz
  have HFL := Lib.hid hfl
  clear h hf hz hfl hb00
  obtain ⟨e0, he⟩ : ∃ e0, flowE n Z F = e0 := ⟨_, rfl⟩
  have HE := Lib.hid he
  by_cases h0 : e0 = 0
  · subst h0
    obtain ⟨hR, hFl, hz2, hfz, hn1, hn2⟩ := flow_facts (b := b) he
    obtain ⟨N, rfl⟩ : ∃ N : Nat, n = (N : Int) := ⟨n.toNat, by omega⟩
    have HA := Lib.hid (flow_arcs he)
    have HTT := Lib.hid (flow_to he)
    rw [Int.toNat_natCast] at HA HTT
    have HFZ := Lib.hid hfz
    obtain ⟨q, hq⟩ : ∃ q, nodeB (N : Int) s = q := ⟨_, rfl⟩
    have HQ := Lib.hid hq
    clear he hR hFl hfz hq
    cases q
    · have HL : Hid (levE (N : Int) Z F s = 1) := Lib.hid (by unfold levE; rw [if_pos HE.out, HQ.out]; rfl)
      go_enter Tryz.func26, Tryz.ntmps26
      go_wp2_with (first
        | (go_at_call 43; refine (rasked_is (N : Int) b ao fo cap fc Z F 0 _ HR.out HF.out HZ.out HFL.out HE.out).mono ?_; rintro e w1 ⟨rfl, hb1⟩; have HB1 := Lib.hid (HB0.out.trans (hb1.mono HB0.out.size)); have d0 := cell_below hb1 c0; have d1 := cell_below hb1 c1; have d2 := cell_below hb1 c2; clear hb1 c0 c1 c2)
        | (go_at_call 25; refine (rnode_is (N : Int) b _ s false _ HQ.out).mono ?_; rintro e w2 ⟨rfl, hb2⟩; have HB2 := Lib.hid (HB1.out.trans (hb2.mono HB1.out.size)); clear hb2))
      go_ret2
      exact lev_no (N : Int) Z F HL.out (by decide) HB2.out
    · obtain ⟨_, _, i, rfl, hi⟩ := levE_ok (n := (N : Int)) (Z := Z) (F := F) (s := s) (by unfold levE; rw [if_pos HE.out, HQ.out]; rfl)
      rw [Int.toNat_natCast] at hi
      have HL : Hid (levE (N : Int) Z F (i : Int) = 0) := Lib.hid (by unfold levE; rw [if_pos HE.out, HQ.out]; rfl)
      have HLL : Hid (levL (N : Int) Z F (i : Int) = farsL (seekK (fromS Z) (toS Z) (stepsK Z F Z.length) i N) N) := Lib.hid (by unfold levL seekF; rw [if_pos HL.out, Int.toNat_natCast, Int.toNat_natCast])
      have hsl := stepsK_len Z F Z.length
      go_enter Tryz.func26, Tryz.ntmps26
      go_wp2_with (first
        | (go_at_call 43; refine (rasked_is (N : Int) b ao fo cap fc Z F 0 _ HR.out HF.out HZ.out HFL.out HE.out).mono ?_; rintro e w1 ⟨rfl, hb1⟩; have HB1 := Lib.hid (HB0.out.trans (hb1.mono HB0.out.size)); have HR1 := Lib.hid (HR.out.below' hb1); have HF1 := Lib.hid (HF.out.below hb1); have d0 := cell_below hb1 c0; have d1 := cell_below hb1 c1; have d2 := cell_below hb1 c2; clear hb1 c0 c1 c2)
        | (go_at_call 25; refine (rnode_is (N : Int) b _ (i : Int) true _ HQ.out).mono ?_; rintro e w2 ⟨rfl, hb2⟩; have HB2 := Lib.hid (HB1.out.trans (hb2.mono HB1.out.size)); have HR2 := Lib.hid (HR1.out.below' hb2); have HF2 := Lib.hid (HF1.out.below hb2); have e0 := cell_below hb2 d0; have e1 := cell_below hb2 d1; have e2 := cell_below hb2 d2; clear hb2 d0 d1 d2)
        | (go_at_call 28; refine (rsteps_any (N : Int) b ao fo cap fc Z F _ HR2.out HF2.out HFZ.out (by omega)).mono ?_; rintro e w3 ⟨a3, c3, rfl, hr3, hb3⟩; have HB3 := Lib.hid (HB2.out.trans (hb3.mono HB2.out.size)); have HR3 := Lib.hid (HR2.out.below' hb3); have HS3 := Lib.hid hr3; have f0 := cell_below hb3 e0; have f1 := cell_below hb3 e1; have f2 := cell_below hb3 e2; clear hb3 hr3 e0 e1 e2))
      go_loopw [10, 11] (fun ov iv wr => ∃ k : Nat, k ≤ N ∧ iv = .int .i64 (k : Int) ∧ Hid (OwnL encI wr w3.heap.size 3 ov ((farsL (seekK (fromS Z) (toS Z) (stepsK Z F Z.length) i N) N).take k)) ∧ Hid (Below w3.heap.size w3 wr)) (fun _ iv _ => N - (intOf iv).toNat)
      case atStart => exact ⟨0, Nat.zero_le _, rfl, Lib.hid (OwnL.nil _ _ _), Lib.hid (Below.refl _ _)⟩
      case round =>
        obtain ⟨k, hk, rfl, HO, HB⟩ := hrel
        obtain ⟨oa, oc, hov, holst⟩ := HO.out.lst
        have hlx := farsL_len (seekK (fromS Z) (toS Z) (stepsK Z F Z.length) i N) N
        by_cases hlt : k < N
        · have hli : (k : Int) < (N : Int) := by omega
          have HTK := Lib.hid (farsL_take (seekK (fromS Z) (toS Z) (stepsK Z F Z.length) i N) N k hlt)
          have HWF := Lib.hid (way_far (v := k) hi HTT.out)
          have g0 := cell_below' HB.out f0 (block_lt_of_cell f0)
          have g1 := cell_below' HB.out f1 (block_lt_of_cell f1)
          have g2 := cell_below' HB.out f2 (block_lt_of_cell f2)
          have hroom : ((farsL (seekK (fromS Z) (toS Z) (stepsK Z F Z.length) i N) N).take k).length ≤ 200000 := by rw [List.length_take]; omega
          generalize (farsL (seekK (fromS Z) (toS Z) (stepsK Z F Z.length) i N) N).take k = A at *
          generalize farX (seekK (fromS Z) (toS Z) (stepsK Z F Z.length) i N) k = fv at *
          clear holst hlx
          subst hov
          have hsz := HB.out.size
          cases hw : wayK (fromS Z) (toS Z) (stepsK Z F Z.length) N i k with
          | none =>
            have HW := Lib.hid hw
            have HFV : Hid (fv = -1) := Lib.hid (by rw [HWF.out, hw])
            clear hw
            go_wp2_with (first
              | (go_at_call 27; refine (rway_any (N : Int) b ao a3 cap c3 Z (stepsK Z F Z.length) N i k _ (HR3.out.below' HB.out) (HS3.out.below' HB.out) (by omega) (by omega) (by omega) hi HTT.out (fun y hy => stepsK_arc hy) HA.out.1).mono ?_; rw [HW.out]; rintro e w5 ⟨a5, c5, rfl, _, hb5⟩; have HO5 := Lib.hid (OwnL.below HO.out hb5); have HB5 := Lib.hid (HB.out.trans (hb5.mono HB.out.size)); clear hb5)
              | (at_builtin; refine wpList_append_one (enc := encI) Tryz.underlying33 infoInt rfl (by omega) rfl _ _ rfl w3.heap.size _ A (-1) rfl rfl (HO5.out.alloc _) _ 1 rfl (cell_new' (by simp) _ _ 0) hroom (by have := HB5.out.size; simp; omega) ?_; intro g8 cap8 w8 ho8 hg8 hl8 hb8 hlt8; have HO8 := Lib.hid ho8; have HB8 := Lib.hid (below_grown (HB5.out.alloc HB5.out.size (.cells #[.int .i64 (-1)] 3)) (by have := HB5.out.size; simp; omega) hg8 (fun g e => own_block HO5.out e)); clear ho8 hg8 hl8))
            go_roundw
            case rel => exact ⟨k + 1, by omega, by go_num, Lib.hid (by rw [HTK.out, HFV.out]; exact HO8.out), HB8⟩
            case measure => simp [intOf]; omega
          | some p =>
            have HW := Lib.hid hw
            have HFV : Hid (fv = (p.length : Int)) := Lib.hid (by rw [HWF.out, hw])
            clear hw
            go_wp2_with (first
              | (go_at_call 27; refine (rway_any (N : Int) b ao a3 cap c3 Z (stepsK Z F Z.length) N i k _ (HR3.out.below' HB.out) (HS3.out.below' HB.out) (by omega) (by omega) (by omega) hi HTT.out (fun y hy => stepsK_arc hy) HA.out.1).mono ?_; rw [HW.out]; rintro e w5 ⟨a5, c5, rfl, _, hb5⟩; have HO5 := Lib.hid (OwnL.below HO.out hb5); have HB5 := Lib.hid (HB.out.trans (hb5.mono HB.out.size)); clear hb5)
              | (at_builtin; refine wpList_append_one (enc := encI) Tryz.underlying33 infoInt rfl (by omega) rfl _ _ rfl w3.heap.size _ A (p.length : Int) rfl rfl (HO5.out.alloc _) _ 1 rfl (cell_new' (by simp) _ _ 0) hroom (by have := HB5.out.size; simp; omega) ?_; intro g8 cap8 w8 ho8 hg8 hl8 hb8 hlt8; have HO8 := Lib.hid ho8; have HB8 := Lib.hid (below_grown (HB5.out.alloc HB5.out.size (.cells #[.int .i64 (p.length : Int)] 3)) (by have := HB5.out.size; simp; omega) hg8 (fun g e => own_block HO5.out e)); clear ho8 hg8 hl8))
            go_roundw
            case rel => exact ⟨k + 1, by omega, by go_num, Lib.hid (by rw [HTK.out, HFV.out]; exact HO8.out), HB8⟩
            case measure => simp [intOf]; omega
        · have hli : ¬ (k : Int) < (N : Int) := by omega
          obtain rfl : k = N := by omega
          have g0 := cell_below' HB.out f0 (block_lt_of_cell f0)
          have ho2 := HO.out
          rw [List.take_of_length_le (by rw [hlx]; exact Nat.le_refl _), ← HLL.out] at ho2
          have HO2 := Lib.hid ho2
          clear ho2
          clear hov holst hlx
          obtain ⟨oa, oc, hov, holst⟩ := HO2.out.lst
          have HOL := Lib.hid holst
          clear holst
          subst hov
          go_wp2
          go_ret2
          exact ⟨oa, oc, by rw [HL.out]; rfl, HOL.out, HB3.out.trans (HB.out.mono HB3.out.size)⟩
  · have hf1 : (e0 != 0) = true := by simpa using h0
    have hf2 : (e0 == 0) = false := by simpa using h0
    have HL : Hid (levE n Z F s = e0) := Lib.hid (by unfold levE; rw [if_neg (by rw [he]; exact h0), he])
    have H0 := Lib.hid h0
    clear he h0
    go_enter Tryz.func26, Tryz.ntmps26
    go_wp2_with (first
      | (go_at_call 43; refine (rasked_is n b ao fo cap fc Z F e0 _ HR.out HF.out HZ.out HFL.out HE.out).mono ?_; rintro e w1 ⟨rfl, hb1⟩; have HB1 := Lib.hid (HB0.out.trans (hb1.mono HB0.out.size)); clear hb1))
    go_ret2
    exact lev_no n Z F HL.out H0.out HB1.out
end
end Go.Proofs.YtbgnoaijgngifaaGreat
