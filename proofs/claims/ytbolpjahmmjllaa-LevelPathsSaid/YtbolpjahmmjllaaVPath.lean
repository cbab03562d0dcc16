/- path of package level: the steps by which a node was found, the first one first. -/
import Derived.Test.YtbolpjahmmjllaaVSearch
import Derived.Deep.RegionHeld3
namespace Go.Proofs.Ytbolpjahmmjllaa
open Go.RowKit
set_option linter.unusedVariables false

theorem rep_set {α : Type} (z s : α) (k : Nat) (suf : List α) : (List.replicate (k + 1) z ++ suf).set k s = List.replicate k z ++ (s :: suf) := by
  rw [List.replicate_succ', List.append_assoc, List.set_append_right _ _ (by simp), List.length_replicate, Nat.sub_self]
  rfl
section
variable (b : Bool) (ao fo : Option Addr) (cap fc : Nat) (Z : List ArcT) (F : List Int) (g1 c1 g2 c2 N : Nat)
set_option maxRecDepth 100000 in
set_option maxHeartbeats 8000000 in
theorem vtreepath_at (gd gb : Nat) (x : List Ent) (B : List StepT) (l : List StepT) (s i0 : Nat) (P : List StepT) (w0 : World) (j0 : Nat) (q0 : Ent) (w : World) (h : TR w0 w gd gb N (farsL x N) B) (hr : Row encA 4 w ao Z) (hsk : SK (fromS Z) (toS Z) l s x i0 P) (hby : ByX N x B) (hq : x[j0]? = some q0) (hk : ∀ v ∈ keysX x, v < N) (hN : N ≤ 50) (hz : Z.length ≤ 200)
    (hl : ∀ y ∈ l, ∃ (p : Nat) (a : ArcT) (q : Bool), Z[p]? = some a ∧ y = ((p : Int), q)) (hE : ∀ a ∈ Z, a.1 = (frN a : Int) ∧ a.2.1 = (toN a : Int)) (hL : (pathX x j0).length ≤ 50) :
    Calls Try.prog 30 #[.agg #[.int .i64 (N : Int), .bool b, .slice ao Z.length cap, .slice fo F.length fc, .slice (some ⟨g1, 0, none⟩) N c1, .slice (some ⟨g2, 0, none⟩) N c2, .slice (some ⟨gd, 0, none⟩) N N, .slice (some ⟨gb, 0, none⟩) N N], .int .i64 (q0.1 : Int)] w (StepsV (pathX x j0) w) := by
  have hb00 := (Below.refl _ w).alloc (Nat.le_refl _) (.cells #[.int .i64 (N : Int), .bool b, .slice ao Z.length cap, .slice fo F.length fc, .slice (some ⟨g1, 0, none⟩) N c1, .slice (some ⟨g2, 0, none⟩) N c2, .slice (some ⟨gd, 0, none⟩) N N, .slice (some ⟨gb, 0, none⟩) N N] 55)
  have HB0 := Lib.hid hb00
  have hn1 := heap_alloc_new w (.cells #[.int .i64 (N : Int), .bool b, .slice ao Z.length cap, .slice fo F.length fc, .slice (some ⟨g1, 0, none⟩) N c1, .slice (some ⟨g2, 0, none⟩) N c2, .slice (some ⟨gd, 0, none⟩) N N, .slice (some ⟨gb, 0, none⟩) N N] 55)
  have HX := Lib.hid hn1
  obtain ⟨⟨k0, k1, k2, k3, k4, k5, k6, k7⟩, _⟩ := t8Cells hn1
  have HT := Lib.hid (h.next hb00)
  have HR := Lib.hid (hr.below' hb00)
  have HSK := Lib.hid hsk
  have HBY := Lib.hid hby
  have HK := Lib.hid hk
  have HE := Lib.hid hE
  have HL := Lib.hid hl
  have HQ := Lib.hid hq
  have hq0N : q0.1 < N := hk _ (keysX_mem.2 ⟨j0, q0, hq, rfl⟩)
  have hqi : (q0.1 : Int) < (N : Int) := by omega
  have hgl := h.lt
  obtain ⟨dv, dvf⟩ := HT.out.lev.cell (atI_get (v := q0.1) (by rw [farsL_len]; exact hq0N))
  rw [farsL_at x hq0N, farX_some hsk hq] at dv
  unfold encI at dv
  obtain ⟨L0, hL0⟩ : ∃ L0, (pathX x j0).length = L0 := ⟨_, rfl⟩
  have HL0 := Lib.hid hL0
  rw [hL0] at dv hL
  obtain ⟨R, hR⟩ : ∃ R, pathX x j0 = R := ⟨_, rfl⟩
  rw [hR]
  have HRR := Lib.hid hR
  obtain ⟨v0, hv0⟩ : ∃ v0, q0.1 = v0 := ⟨_, rfl⟩
  have HV0 := Lib.hid hv0
  rw [hv0] at dv dvf hqi hq0N ⊢
  have HSZ : Hid ((w.alloc (.cells #[.int .i64 (N : Int), .bool b, .slice ao Z.length cap, .slice fo F.length fc, .slice (some ⟨g1, 0, none⟩) N c1, .slice (some ⟨g2, 0, none⟩) N c2, .slice (some ⟨gd, 0, none⟩) N N, .slice (some ⟨gb, 0, none⟩) N N] 55)).heap.size = w.heap.size + 1) := Lib.hid (by simp)
  clear h hr hsk hby hk hE hl hq hb00 hn1 hL0 hR hv0
  go_enter Try.func30, Try.ntmps30
  go_wp2_with (first
    | (at_make; refine wpList_make_steps rfl _ _ rfl L0 rfl rfl (by omega) ?_; intro w2 ho2 hb2; have HO2 := Lib.hid ho2; have HB2 := Lib.hid hb2; clear ho2 hb2 k6 dv dvf))
  generalize w.alloc (.cells #[.int .i64 (N : Int), .bool b, .slice ao Z.length cap, .slice fo F.length fc, .slice (some ⟨g1, 0, none⟩) N c1, .slice (some ⟨g2, 0, none⟩) N c2, .slice (some ⟨gd, 0, none⟩) N N, .slice (some ⟨gb, 0, none⟩) N N] 55) = w1 at *
  have hx1 := lt_whole HX.out
  obtain ⟨g, hg⟩ : ∃ g, w.heap.size + 1 = g := ⟨_, rfl⟩
  have hg2 : w1.heap.size = g := by rw [HSZ.out, hg]
  rw [hg2] at HO2
  rw [hg]
  go_loopw [1, 6] (fun nv lv wr => ∃ (m j : Nat) (q : Ent) (suf : List StepT), nv = .int .i64 (q.1 : Int) ∧ lv = .int .i64 (m : Int) ∧ m ≤ L0 ∧ Hid (x[j]? = some q) ∧ Hid ((pathX x j).length = m) ∧ Hid (R = pathX x j ++ suf) ∧ Hid (OwnS wr w1.heap.size (.slice (some ⟨g, 0, none⟩) L0 L0) (List.replicate m (0, false) ++ suf)) ∧ Hid (Below w1.heap.size w1 wr)) (fun _ lv _ => (intOf lv).toNat)
  case atStart => exact ⟨L0, j0, q0, [], by rw [HV0.out], rfl, Nat.le_refl _, HQ, HL0, Lib.hid (by rw [HRR.out]; simp), Lib.hid (by rw [List.append_nil, hg2]; exact HO2.out), HB2⟩
  case round =>
    obtain ⟨m, j, q, suf, rfl, rfl, hm, HQJ, HPL, HRS, HO, HB⟩ := hrel
    cases m with
    | zero =>
      obtain rfl : j = 0 := by
        refine Classical.byContradiction fun h0 => ?_
        have h1 := pathX_succ HSK.out HQJ.out (by omega)
        have h2 := HPL.out
        rw [h1] at h2
        simp at h2
      have HRE : Hid (R = suf) := Lib.hid (by rw [HRS.out, pathX_zero, List.nil_append])
      go_wp2
      go_ret
      have ho := HO.out
      rw [List.replicate_zero, List.nil_append, ← HRE.out] at ho
      have hl0 : R.length = L0 := by rw [← HRR.out, HL0.out]
      exact ⟨some ⟨g, 0, none⟩, L0, by rw [hl0]; rfl, own_rowK encS_len ho, HB0.out.trans (HB.out.mono HB0.out.size)⟩
    | succ k =>
      have hj0 : 0 < j := by
        refine Classical.byContradiction fun h0 => ?_
        obtain rfl : j = 0 := by omega
        have h2 := HPL.out
        rw [pathX_zero] at h2
        simp at h2
      obtain ⟨hyl, hyt, hjl, _, q', hq', hqf⟩ := HSK.out.par j q HQJ.out hj0
      have hps := pathX_succ HSK.out HQJ.out hj0
      have hB := HBY.out.2 j q HQJ.out hj0
      have hqN := HK.out _ (keysX_mem.2 ⟨j, q, HQJ.out, rfl⟩)
      have hqi2 : (q.1 : Int) < (N : Int) := by omega
      obtain ⟨p, a, dir, ha, hy⟩ := HL.out _ hyl
      have HFR : Hid (begI a dir = (q'.1 : Int)) := Lib.hid (by rw [hqf, hy]; exact (begI_fromE ha (HE.out a (List.mem_of_getElem? ha)) dir).1)
      have HRS2 : Hid (R = pathX x q.2.2 ++ ((p : Int), dir) :: suf) := Lib.hid (by rw [HRS.out, hps, hy, List.append_assoc]; rfl)
      have HPL2 : Hid ((pathX x q.2.2).length = k) := Lib.hid (by have := HPL.out; rw [hps, List.length_append] at this; simpa using this)
      rw [hy] at hB
      have HA := Lib.hid ha
      have HQ' := Lib.hid hq'
      have HBq := Lib.hid hB
      have hTw := HT.out.next HB.out
      obtain ⟨⟨d0, d1⟩, _, _⟩ := hTw.byy.cell hB
      have hOl : k < (List.replicate (k + 1) ((0, false) : StepT) ++ suf).length := by simp; omega
      obtain ⟨⟨s0, s1⟩, s2, s3⟩ := HO.out.cell (List.getElem?_eq_getElem hOl)
      have hki : (k : Int) < (L0 : Int) := by omega
      have m0 := cell_below' HB.out k0 hx1
      have m1 := cell_below' HB.out k1 hx1
      have m2 := cell_below' HB.out k2 hx1
      have m7 := cell_below' HB.out k7 hx1
      have hO2 := HO.out.put hOl (p : Int) dir
      rw [rep_set] at hO2
      have hB2 : Below w1.heap.size w1 ((wr.setCell ⟨g, k * 2, none⟩ (.int .i64 (p : Int))).setCell ⟨g, k * 2 + 1, none⟩ (.bool dir)) := below_set (below_set HB.out (by omega) _) (by omega) _
      have HO2 := Lib.hid hO2
      have HB2 := Lib.hid hB2
      generalize q.1 = v at *
      clear hps hyl hyt hy ha hq' hqf hB hTw hO2 hB2 HQJ HPL HRS
      go_wp2_with fail
      generalize (wr.setCell ⟨g, k * 2, none⟩ (.int .i64 (p : Int))).setCell ⟨g, k * 2 + 1, none⟩ (.bool dir) = W at *
      clear m0 m1 m2 m7 d0 d1 s0 s1 s2 s3 hOl
      have hT2 := HT.out.next HB2.out
      have hgbl := hT2.lt.2.2
      obtain ⟨⟨d0, d1⟩, _, _⟩ := hT2.byy.cell HBq.out
      have m0 := cell_below' HB2.out k0 hx1
      have m1 := cell_below' HB2.out k1 hx1
      have m2 := cell_below' HB2.out k2 hx1
      have m7 := cell_below' HB2.out k7 hx1
      have HRW := Lib.hid (HR.out.below' HB2.out)
      clear hT2
      have HCALL := Lib.hid (vbegin_at (N : Int) b ao cap Z p dir a W.drew (HRW.out.below' (below_drew (Below.refl W.heap.size W))) HA.out hz)
      go_region_held3 (fun W => W.cell? ⟨w.heap.size, 0, none⟩ = some (.int .i64 (N : Int)) ∧ W.cell? ⟨w.heap.size, 1, none⟩ = some (.bool b) ∧ W.cell? ⟨w.heap.size, 2, none⟩ = some (.slice ao Z.length cap) ∧ W.cell? ⟨w.heap.size, 7, none⟩ = some (.slice (some ⟨gb, 0, none⟩) N N) ∧ W.cell? ⟨gb, v * 2, none⟩ = some (.int .i64 (p : Int)) ∧ W.cell? ⟨gb, v * 2 + 1, none⟩ = some (.bool dir)) (first | exact ⟨m0, m1, m2, m7, d0, d1⟩ | exact ⟨z0, z1, z2, z3, z4, z5⟩ | go_keep)
        (first | (go_at_call 51; go_loud (refine HCALL.out.mono ?_; rintro e w6 ⟨rfl, b6⟩; rw [HFR.out]; have z0 := cell_below (w := W.drew) b6 m0; have z1 := cell_below (w := W.drew) b6 m1; have z2 := cell_below (w := W.drew) b6 m2; have z3 := cell_below (w := W.drew) b6 m7; have z4 := cell_below (w := W.drew) b6 d0; have z5 := cell_below (w := W.drew) b6 d1; have HO6 := Lib.hid (OwnS.below (w := W.drew) HO2.out b6); have HB6 := Lib.hid ((below_drew HB2.out).trans (b6.mono HB2.out.size)); clear b6)))
      all_goals
        go_wp2
        go_roundw
        case rel => exact ⟨k, q.2.2, q', ((p : Int), dir) :: suf, rfl, by go_num, by omega, HQ', HPL2, HRS2, HO6, HB6⟩
        case measure => simp [intOf]
end
end Go.Proofs.Ytbolpjahmmjllaa
