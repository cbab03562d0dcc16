/- The rest of a flow from which nothing has been removed: package decomp's whole. -/
import Derived.Test.YtmflleifglefiaaDLoc
import Derived.Test.YtmflleifglefiaaDClw
namespace Go.Proofs.Ytmflleifglefiaa
open Go.RowKit
set_option linter.unusedVariables false

def mixK (F C : List Int) (k : Nat) : List Int := F.take k ++ C.drop k
theorem mixK_len {F C : List Int} {k : Nat} (h : F.length = C.length) (hk : k ≤ F.length) : (mixK F C k).length = C.length := by unfold mixK; rw [List.length_append, List.length_take, List.length_drop]; omega
theorem mixK_at {F C : List Int} {k : Nat} (h : F.length = C.length) (hk : k < F.length) : (mixK F C k)[k]? = C[k]? := by
  unfold mixK
  rw [List.getElem?_append_right (by rw [List.length_take]; omega), List.length_take, List.getElem?_drop, show k + (k - min k F.length) = k by omega]
theorem mixK_set {F C : List Int} {k : Nat} {x : Int} (h : F.length = C.length) (hx : F[k]? = some x) : (mixK F C k).set k x = mixK F C (k + 1) := by
  obtain ⟨hk, rfl⟩ := List.getElem?_eq_some_iff.1 hx
  unfold mixK
  rw [List.set_append_right _ _ (by rw [List.length_take]; omega), List.length_take, show k - min k F.length = 0 by omega, List.drop_eq_getElem_cons (show k < C.length by omega), List.set_cons_zero, List.take_succ_eq_append_getElem hk, List.append_assoc]
  rfl
section
variable (N : Nat) (b : Bool) (ao fo : Option Addr) (cap fc : Nat) (Z : List ArcT) (F : List Int)
set_option maxRecDepth 100000 in
set_option maxHeartbeats 8000000 in
theorem dwhole_at (w : World) (h : Row encA 4 w ao Z) (hf : Lst encI w fo F) (hfl : Flow Z F) (hz : Z.length ≤ 200) :
    Calls Try.prog 25 #[.agg #[.int .i64 (N : Int), .bool b, .slice ao Z.length cap], .slice fo F.length fc] w fun e w' =>
      ∃ xo xc zo, e = .returned (.agg #[.int .i64 (N : Int), .bool b, .slice xo Z.length xc, .slice zo Z.length Z.length]) ∧ RstW w' w.heap.size xo xc zo Z.length Z F ∧ Below w.heap.size w w' := by
  have hb00 := ((Below.refl _ w).alloc (Nat.le_refl _) (.cells #[.int .i64 (N : Int), .bool b, .slice ao Z.length cap] 24)).alloc (by simp) (.cells #[.int .i64 0, .bool false, .slice none 0 0, .slice none 0 0] 57)
  have hn00 := wholeD (heap_alloc_new w (.cells #[.int .i64 (N : Int), .bool b, .slice ao Z.length cap] 24)) (.cells #[.int .i64 0, .bool false, .slice none 0 0, .slice none 0 0] 57)
  have hx00 := heap_alloc_new (w.alloc (.cells #[.int .i64 (N : Int), .bool b, .slice ao Z.length cap] 24)) (.cells #[.int .i64 0, .bool false, .slice none 0 0, .slice none 0 0] 57)
  rw [show (w.alloc (.cells #[.int .i64 (N : Int), .bool b, .slice ao Z.length cap] 24)).heap.size = w.heap.size + 1 by simp] at hx00
  obtain ⟨g0, hg0⟩ : ∃ g0, w.heap.size = g0 := ⟨_, rfl⟩
  have HG0 := Lib.hid hg0
  have HB0 := Lib.hid hb00
  have HR0 := Lib.hid (h.below' hb00)
  have HF0 := Lib.hid (hf.below hb00)
  have HFW := Lib.hid hfl
  have HFB : Hid (∀ ad, fo = some ad → 0 < F.length → ad.block < g0) := Lib.hid (fun ad e h0 => by rw [← hg0]; exact hf.lt ad e h0)
  have HN0 := Lib.hid hn00
  have HX0 := Lib.hid hx00
  rw [hg0] at HN0 HX0
  have hfz : F.length = Z.length := hfl.1
  have HFZ := Lib.hid hfz
  have hmk := fun W => run_make_row' (P := Try.prog) 25 3 (.int .i64 0) 8 Try.underlying25 infoInt rfl .i64 .i64 Z.length (by omega) (by omega) W
  have HMK := Lib.hid hmk
  have c2 := cell_whole HN0.out 2
  have f2 := frozen_whole HN0.out 2
  have HCL := Lib.hid (pclone_any ao cap Z _ HR0.out hz)
  rw [← hg0] at c2 f2
  clear h hf hfl hb00 hn00 hx00 hmk
  go_enter Try.func25, Try.ntmps25
  go_wp2_with (first
    | (go_at_call 46; refine HCL.out.mono ?_; rintro e w2 ⟨v2, rfl, ho2, hb2⟩; obtain ⟨xo, xc, hv2, _⟩ := ho2.row; subst hv2; have HO2 := Lib.hid ho2; have HB2 := Lib.hid hb2; have hnb := kept_box HN0.out hb2; have HN2 := Lib.hid hnb; have c2 := cell_whole hnb 2; have f2 := frozen_whole hnb 2; have HX2 := Lib.hid (kept_box HX0.out hb2); clear ho2 hb2 hnb))
  try rw [hg0]
  clear HCL
  have hg02 : g0 < w2.heap.size := lt_whole HN2.out
  have HN3 : Hid ((w2.setCell ⟨g0, 2, none⟩ (.slice xo Z.length xc)).heap[g0]? = some (.cells #[.int .i64 (N : Int), .bool b, .slice xo Z.length xc] 24 (0, 0))) := Lib.hid (set_whole HN2.out 2 (.slice xo Z.length xc))
  have HX3 := Lib.hid (set_other HX2.out (show g0 + 1 ≠ g0 by omega) 2 (.slice xo Z.length xc))
  obtain ⟨B1, hB1⟩ : ∃ B1, ((w.alloc (.cells #[.int .i64 (N : Int), .bool b, .slice ao Z.length cap] 24)).alloc (.cells #[.int .i64 0, .bool false, .slice none 0 0, .slice none 0 0] 57)).heap.size = B1 := ⟨_, rfl⟩
  have hB1g : B1 = g0 + 1 + 1 := by rw [← hB1, ← hg0]; simp
  rw [hB1] at HO2 HB2
  have HO3 : Hid (OwnC (w2.setCell ⟨g0, 2, none⟩ (.slice xo Z.length xc)) B1 (.slice xo Z.length xc) Z) := Lib.hid (ownsRow_setCell_below HO2.out (a := ⟨g0, 2, none⟩) (show g0 < B1 by omega) _)
  have HK2 : Hid (Kept (fun i => i = g0) w2 (w2.setCell ⟨g0, 2, none⟩ (.slice xo Z.length xc))) := Lib.hid ((Kept.refl (fun i => i = g0) w2).set (.inl rfl) _)
  have HF3 : Hid (Lst encI (w2.setCell ⟨g0, 2, none⟩ (.slice xo Z.length xc)) fo F) := Lib.hid (lst_keptD (HF0.out.below (by rw [hB1]; exact HB2.out)) HK2.out (fun ad e h0 q => by have h1 := HFB.out ad e h0; have h2 : ad.block = g0 := q; omega))
  have HB3 : Hid (Below w.heap.size w (w2.setCell ⟨g0, 2, none⟩ (.slice xo Z.length xc))) := Lib.hid (below_set (HB0.out.trans (HB2.out.mono (by omega))) (by omega) _)
  have hB13 : B1 ≤ (w2.setCell ⟨g0, 2, none⟩ (.slice xo Z.length xc)).heap.size := by
    have h2 := HB2.out.size
    rw [hB1] at h2
    exact Nat.le_trans h2 HK2.out.size
  clear HN2 HX2 HO2 HB2 HK2 HF0 HR0 HN0 HX0 HB0 hB1
  generalize w2.setCell ⟨g0, 2, none⟩ (.slice xo Z.length xc) = w3 at *
  have HCL : Hid ((Z.map capN).length = Z.length) := Lib.hid (by simp)
  go_loopw [13] (fun iv wr => ∃ k : Nat, k ≤ F.length ∧ iv = .int .i64 (k : Int) ∧ Hid (OwnC wr B1 (.slice xo Z.length xc) (restZ Z (mixK F (Z.map capN) k))) ∧ Hid (Kept (OwnB (.slice xo Z.length xc)) w3 wr)) (fun iv _ => F.length - (intOf iv).toNat)
  case atStart => exact ⟨0, Nat.zero_le _, rfl, Lib.hid (by show OwnC w3 B1 _ (restZ Z (Z.map capN)); rw [restZ_caps]; exact HO3.out), Lib.hid (Kept.refl _ _)⟩
  case round =>
    obtain ⟨k, hk, rfl, HO, HK⟩ := hrel
    have hob : ∀ q, OwnB (.slice xo Z.length xc) q → B1 ≤ q := fun q hq => own_block HO3.out hq
    have hbn := HK.out.old HN3.out (fun q => by have := hob _ q; omega)
    have n2 := cell_whole hbn 2
    by_cases hlt : k < F.length
    · have hli : (k : Int) < (F.length : Int) := by omega
      have hkz : k < Z.length := by omega
      have hkzi : (k : Int) < (Z.length : Int) := by omega
      obtain ⟨g, rfl, hgB, hgw⟩ := HO.out.someL (by rw [restZ_len (by rw [mixK_len (by rw [HCL.out]; exact HFZ.out) hk, HCL.out])]) (by omega)
      have HF := Lib.hid (lst_keptD HF3.out HK.out (fun ad e h0 q => by have h1 := HFB.out ad e h0; have h2 := hob _ q; omega))
      obtain ⟨fb, fx, e, hfb, d0⟩ := lst_cell HF.out (atI_get (d := F) (v := k) hlt)
      subst e
      unfold encI at d0
      obtain ⟨az, haz⟩ : ∃ a, Z[k]? = some a := ⟨_, List.getElem?_eq_getElem hkz⟩
      have hmx : (mixK F (Z.map capN) k)[k]? = some (capN az) := by rw [mixK_at (by rw [HCL.out]; exact HFZ.out) hlt, List.getElem?_map, haz]; rfl
      have hrl : (restZ Z (mixK F (Z.map capN) k)).length = Z.length := restZ_len (by rw [mixK_len (by rw [HCL.out]; exact HFZ.out) hk, HCL.out])
      obtain ⟨c2, c2f⟩ := HO.out.capL hrl (restZ_get haz hmx)
      simp only at c2
      have HCUT := Lib.hid (fun c => HO.out.cutL hrl (restZ_get haz hmx) c)
      have HSET := Lib.hid (restZ_set Z (mixK F (Z.map capN) k) k az (atI F k) haz)
      have HMS := Lib.hid (mixK_set (F := F) (C := Z.map capN) (by rw [HCL.out]; exact HFZ.out) (atI_get (d := F) (v := k) hlt))
      generalize atI F k = u at *
      clear haz hmx hrl hbn
      go_wp2
      go_roundw
      case rel => exact ⟨k + 1, by omega, by go_num, Lib.hid (by rw [← HMS.out, ← HSET.out]; exact HCUT.out _), Lib.hid (HK.out.set (.inl rfl) _)⟩
      case measure => simp [intOf]; omega
    · have hli : ¬ (k : Int) < (F.length : Int) := by omega
      obtain rfl : k = F.length := by omega
      have HOF : Hid (OwnC wr B1 (.slice xo Z.length xc) (restZ Z F)) := Lib.hid (by
        have h1 := HO.out
        rwa [show mixK F (Z.map capN) F.length = F by unfold mixK; rw [List.take_length, List.drop_eq_nil_of_le (by rw [HCL.out]; omega), List.append_nil]] at h1)
      have hbx := HK.out.old HX3.out (fun q => by have := hob _ q; omega)
      have n0 := cell_whole hbn 0
      have n1 := cell_whole hbn 1
      have x0 := cell_whole hbx 0
      have x1 := cell_whole hbx 1
      have x2 := cell_whole hbx 2
      have x3 := cell_whole hbx 3
      have y0 := frozen_whole hbx 0
      have y1 := frozen_whole hbx 1
      have y2 := frozen_whole hbx 2
      have y3 := frozen_whole hbx 3
      have hbn2 := alloc_whole hbn (.cells (madeCells #[.int .i64 0] Z.length) 3)
      have hbx2 := alloc_whole hbx (.cells (madeCells #[.int .i64 0] Z.length) 3)
      have m0 := cell_whole hbn2 0
      have m1 := cell_whole hbn2 1
      have m2 := cell_whole hbn2 2
      have u0 := cell_whole hbx2 0
      have u1 := cell_whole hbx2 1
      have u2 := cell_whole hbx2 2
      have u3 := cell_whole hbx2 3
      have v0 := frozen_whole hbx2 0
      have v1 := frozen_whole hbx2 1
      have v2 := frozen_whole hbx2 2
      have v3 := frozen_whole hbx2 3
      have hmk := HMK.out
      go_wp2
      go_region
      have hw0 : w.heap.size = g0 := HG0.out
      have hs3 := HB3.out.size
      have hsr := HK.out.size
      have hrz : B1 ≤ wr.heap.size := by omega
      have hba := (Below.refl wr.heap.size wr).alloc (Nat.le_refl _) (.cells (madeCells #[.int .i64 0] Z.length) 3)
      have hob2 : ∀ q, OwnB (.slice xo Z.length xc) q → q < wr.heap.size := fun q hq => own_lt HOF.out hq
      have hz0 := madeC wr wr.heap.size Z.length (Nat.le_refl _) (by omega)
      obtain ⟨zb, hzb⟩ : ∃ zb, wr.heap.size = zb := ⟨_, rfl⟩
      have HFI := Lib.hid (set_whole (set_whole (set_whole (set_whole hbx2 0 (.int .i64 (N : Int))) 1 (.bool b)) 2 (.slice xo Z.length xc)) 3 (.slice (some ⟨zb, 0, none⟩) Z.length Z.length))
      have HOZ : Hid (OwnC (((((wr.alloc (.cells (madeCells #[.int .i64 0] Z.length) 3)).setCell ⟨g0 + 1, 0, none⟩ (.int .i64 (N : Int))).setCell ⟨g0 + 1, 1, none⟩ (.bool b)).setCell ⟨g0 + 1, 2, none⟩ (.slice xo Z.length xc)).setCell ⟨g0 + 1, 3, none⟩ (.slice (some ⟨zb, 0, none⟩) Z.length Z.length)) B1 (.slice xo Z.length xc) (restZ Z F)) :=
        Lib.hid (ownsRow_setCell_below (ownsRow_setCell_below (ownsRow_setCell_below (ownsRow_setCell_below (own_below HOF.out hba) (a := ⟨g0 + 1, 0, none⟩) (show g0 + 1 < B1 by omega) _) (a := ⟨g0 + 1, 1, none⟩) (show g0 + 1 < B1 by omega) _) (a := ⟨g0 + 1, 2, none⟩) (show g0 + 1 < B1 by omega) _) (a := ⟨g0 + 1, 3, none⟩) (show g0 + 1 < B1 by omega) _)
      have HZZ : Hid (OwnL encI (((((wr.alloc (.cells (madeCells #[.int .i64 0] Z.length) 3)).setCell ⟨g0 + 1, 0, none⟩ (.int .i64 (N : Int))).setCell ⟨g0 + 1, 1, none⟩ (.bool b)).setCell ⟨g0 + 1, 2, none⟩ (.slice xo Z.length xc)).setCell ⟨g0 + 1, 3, none⟩ (.slice (some ⟨zb, 0, none⟩) Z.length Z.length)) wr.heap.size 3 (.slice (some ⟨zb, 0, none⟩) Z.length Z.length) (List.replicate Z.length 0)) :=
        Lib.hid (by
          rw [← hzb]
          exact ownsRow_setCell_below (ownsRow_setCell_below (ownsRow_setCell_below (ownsRow_setCell_below hz0 (a := ⟨g0 + 1, 0, none⟩) (show g0 + 1 < wr.heap.size by omega) _) (a := ⟨g0 + 1, 1, none⟩) (show g0 + 1 < wr.heap.size by omega) _) (a := ⟨g0 + 1, 2, none⟩) (show g0 + 1 < wr.heap.size by omega) _) (a := ⟨g0 + 1, 3, none⟩) (show g0 + 1 < wr.heap.size by omega) _)
      have HBB : Hid (Below w.heap.size w (((((wr.alloc (.cells (madeCells #[.int .i64 0] Z.length) 3)).setCell ⟨g0 + 1, 0, none⟩ (.int .i64 (N : Int))).setCell ⟨g0 + 1, 1, none⟩ (.bool b)).setCell ⟨g0 + 1, 2, none⟩ (.slice xo Z.length xc)).setCell ⟨g0 + 1, 3, none⟩ (.slice (some ⟨zb, 0, none⟩) Z.length Z.length))) :=
        Lib.hid (by
          have h1 := HB3.out.trans (HK.out.below (B := w.heap.size) hs3 (fun q hq => by have := hob q hq; omega))
          exact below_set (below_set (below_set (below_set (h1.trans (hba.mono (by omega))) (by omega) _) (by omega) _) (by omega) _) (by omega) _)
      rw [hzb]
      generalize (((((wr.alloc (.cells (madeCells #[.int .i64 0] Z.length) 3)).setCell ⟨g0 + 1, 0, none⟩ (.int .i64 (N : Int))).setCell ⟨g0 + 1, 1, none⟩ (.bool b)).setCell ⟨g0 + 1, 2, none⟩ (.slice xo Z.length xc)).setCell ⟨g0 + 1, 3, none⟩ (.slice (some ⟨zb, 0, none⟩) Z.length Z.length)) = wz at *
      go_wp2
      have z0 := cell_whole HFI.out 0
      have z1 := cell_whole HFI.out 1
      have z2 := cell_whole HFI.out 2
      have z3 := cell_whole HFI.out 3
      refine bodyPost_ret (v := .agg #[.int .i64 (N : Int), .bool b, .slice xo Z.length xc, .slice (some ⟨zb, 0, none⟩) Z.length Z.length]) (by simp [results, Try.results25, go_sem, z0, z1, z2, z3]) rfl ?_
      refine ⟨xo, xc, some ⟨zb, 0, none⟩, rfl, ⟨rfl, HFW.out, own_mono (own_below HOZ.out (below_drew (Below.refl _ _))) (by omega), HZZ.out.lstK.below (below_drew (Below.refl _ _)), fun ad e h0 q => ?_⟩, below_drew HBB.out⟩
      cases e
      have h1 := hob2 _ q
      simp only at h1
      omega
end
end Go.Proofs.Ytmflleifglefiaa
