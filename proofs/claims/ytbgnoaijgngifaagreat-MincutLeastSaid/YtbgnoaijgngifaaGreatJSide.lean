/- The document's Side. -/
import Derived.Test.YtbgnoaijgngifaaGreatXBest
import Derived.Test.YtbgnoaijgngifaaGreatVRef
import Derived.Test.YtbgnoaijgngifaaGreatARord
namespace Go.Proofs.YtbgnoaijgngifaaGreat
open Go.RowKit
set_option linter.unusedVariables false

/-- The side that is come to. -/
def sideL (n : Int) (Z : List ArcT) (F : List Int) (s : Int) : List Bool := (levL n Z F s).map fun d => decide (0 ≤ d)
/-- What Side answers. -/
def SideRes (n : Int) (Z : List ArcT) (F : List Int) (s : Int) (w : World) (e : Ending) (w' : World) : Prop :=
  ∃ a c, e = .returned (.tuple #[.slice a (sideL n Z F s).length c, .int .i64 (levE n Z F s)]) ∧ Lst encB w' a (sideL n Z F s) ∧ Below w.heap.size w w'
theorem levL_few {n : Int} {Z : List ArcT} {F : List Int} {s : Int} (h : levE n Z F s = 0) : (levL n Z F s).length = n.toNat ∧ n.toNat ≤ 50 := by
  obtain ⟨hf, _, i, _, hi⟩ := levE_ok h
  obtain ⟨hR, _, _, _, hn1, hn2⟩ := flow_facts (b := true) hf
  refine ⟨?_, by omega⟩
  unfold levL
  rw [if_pos h, farsL_len]
section
variable (n : Int) (b : Bool) (ao fo : Option Addr) (cap fc : Nat) (Z : List ArcT) (F : List Int)
set_option maxRecDepth 100000 in
set_option maxHeartbeats 4000000 in
theorem rside_any (s : Int) (w : World) (h : Row encA 4 w ao Z) (hf : Lst encI w fo F) (hz : Z.length ≤ maxLen) (hfl : F.length ≤ maxLen) :
    Calls Tryz.prog 13 #[.agg #[.int .i64 n, .bool b, .slice ao Z.length cap], .slice fo F.length fc, .int .i64 s] w (SideRes n Z F s w) := by
  have hb00 := (Below.refl _ w).alloc (Nat.le_refl _) (.cells #[.int .i64 n, .bool b, .slice ao Z.length cap] 24)
  have HB0 := Lib.hid hb00
  have x0 := cell_new w #[.int .i64 n, .bool b, .slice ao Z.length cap] 24 0
  have x1 := cell_new w #[.int .i64 n, .bool b, .slice ao Z.length cap] 24 1
  have x2 := cell_new w #[.int .i64 n, .bool b, .slice ao Z.length cap] 24 2
  have HR := Lib.hid (h.below' hb00)
  have HF := Lib.hid (hf.below hb00)
  have HZ := Lib.hid hz
  have HFL := Lib.hid hfl
  clear h hf hz hfl hb00
  obtain ⟨e0, he⟩ : ∃ e0, levE n Z F s = e0 := ⟨_, rfl⟩
  obtain ⟨D, hD⟩ : ∃ D, levL n Z F s = D := ⟨_, rfl⟩
  have HE := Lib.hid he
  have HD := Lib.hid hD
  by_cases h0 : e0 = 0
  · subst h0
    have hl := levL_few he
    rw [hD] at hl
    have hdl : D.length ≤ 50 := by omega
    have HSD : Hid (sideL n Z F s = D.map fun d => decide (0 ≤ d)) := Lib.hid (by unfold sideL; rw [hD])
    clear he hD hl
    go_enter Tryz.func13, Tryz.ntmps13
    go_wp2_with (first
      | (go_at_call 26; refine (rlevels_any n b ao fo cap fc Z F s _ HR.out HF.out HZ.out HFL.out).mono ?_; rintro e w1 ⟨da, dc, rfl, hd1, hb1⟩; rw [HE.out]; rw [HD.out] at hd1; rw [HD.out]; have HB1 := Lib.hid (HB0.out.trans (hb1.mono HB0.out.size)); have HD1 := Lib.hid hd1; clear hb1 hd1))
    go_loopw [10, 11] (fun ov iv wr => ∃ m : Nat, m ≤ D.length ∧ iv = .int .i64 (m : Int) ∧ Hid (OwnL encB wr w1.heap.size 4 ov ((D.take m).map fun d => decide (0 ≤ d))) ∧ Hid (Below w1.heap.size w1 wr)) (fun _ iv _ => D.length - (intOf iv).toNat)
    case atStart => exact ⟨0, Nat.zero_le _, rfl, Lib.hid (OwnL.nil _ _ _), Lib.hid (Below.refl _ _)⟩
    case round =>
      obtain ⟨m, hm, rfl, HO, HB⟩ := hrel
      have HML : Hid (((D.take m).map fun d => decide (0 ≤ d)).length = m) := Lib.hid (by rw [List.length_map, List.length_take]; omega)
      obtain ⟨oa, oc, hov, holst⟩ := HO.out.lst
      rw [HML.out] at hov
      subst hov
      by_cases hlt : m < D.length
      · have hli : (m : Int) < (D.length : Int) := by omega
        have HTK : Hid ((D.take (m + 1)).map (fun d => decide (0 ≤ d)) = (D.take m).map (fun d => decide (0 ≤ d)) ++ [decide (0 ≤ D[m])]) := Lib.hid (by rw [List.take_succ_eq_append_getElem hlt, List.map_append]; rfl)
        obtain ⟨db, dx, e, hdb, d0⟩ := (HD1.out.below HB.out) m hlt
        cases e
        have hsz := HB.out.size
        clear holst
        unfold encI at d0
        generalize D[m] = x at *
        have HBA := Lib.hid (HB.out.alloc HB.out.size (.cells #[.bool (decide (0 ≤ x))] 4))
        have HOA := Lib.hid (HO.out.below ((Below.refl _ wr).alloc (Nat.le_refl _) (.cells #[.bool (decide (0 ≤ x))] 4)))
        go_wp2_with (first
          | (at_builtin; refine wpList_append_one (enc := encB) Tryz.underlying26 infoBool rfl (by omega) rfl _ _ rfl w1.heap.size _ ((D.take m).map fun d => decide (0 ≤ d)) (decide (0 ≤ x)) rfl rfl HOA.out _ 1 rfl (cell_new' (by simp) _ _ 0) (by rw [HML.out]; omega) (by simp; omega) ?_; rw [HML.out]; intro g4 cap4 w4 ho4 hg4 hl4 hb4 hlt4; have HO4 : Hid (OwnL encB w4 w1.heap.size 4 (.slice (some ⟨g4, 0, none⟩) (m + 1) cap4) ((D.take (m + 1)).map fun d => decide (0 ≤ d))) := Lib.hid (by rw [HTK.out]; exact ho4); have HB4 := Lib.hid (below_grown HBA.out (by simp; omega) hg4 (fun g e => own_block HOA.out e)); clear ho4 hg4 hl4))
        go_roundw
        case rel => exact ⟨m + 1, by omega, by go_num, HO4, HB4⟩
        case measure => simp [intOf]; omega
      · have hli : ¬ (m : Int) < (D.length : Int) := by omega
        obtain rfl : m = D.length := by omega
        rw [List.take_length] at holst
        have HLS := Lib.hid holst
        clear holst
        go_wp2
        go_ret2
        exact ⟨oa, oc, by rw [HSD.out, HE.out, List.length_map]; rfl, by rw [HSD.out]; exact HLS.out, HB1.out.trans (HB.out.mono HB1.out.size)⟩
  · have H0 := Lib.hid h0
    have hf1 : (e0 != 0) = true := by simpa using h0
    have hD0 : D = [] := by rw [← hD]; unfold levL; rw [if_neg (by rw [he]; exact h0)]
    have HSD : Hid (sideL n Z F s = []) := Lib.hid (by unfold sideL; rw [hD, hD0]; rfl)
    clear he hD h0
    subst hD0
    go_enter Tryz.func13, Tryz.ntmps13
    go_wp2_with (first
      | (go_at_call 26; refine (rlevels_any n b ao fo cap fc Z F s _ HR.out HF.out HZ.out HFL.out).mono ?_; rintro e w1 ⟨da, dc, rfl, hd1, hb1⟩; rw [HE.out]; rw [HD.out]; have HB1 := Lib.hid (HB0.out.trans (hb1.mono HB0.out.size)); clear hb1 hd1))
    go_ret2
    exact ⟨none, 0, by rw [HSD.out, HE.out]; rfl, by rw [HSD.out]; exact Lst.nil _ _, HB1.out⟩
end
end Go.Proofs.YtbgnoaijgngifaaGreat
