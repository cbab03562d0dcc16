/- LevelWays: the way has as many steps as the sink's level, one behind the other, each one level further, each with room. -/
import Derived.Test.YtbolpjahmmjllaaVMore
import Derived.Test.YtbolpjahmmjllaaSRoom
import Derived.Deep.RegionHeld3
namespace Go.Proofs.Ytbolpjahmmjllaa
open Go.RowKit
set_option linter.unusedVariables false

/-- The nodes along a way. -/
def nodeW (t0 : StepT → Nat) (u : Nat) (p : List StepT) : Nat → Nat
  | 0 => u
  | i + 1 => match p[i]? with | some y => t0 y | none => u
theorem walk_nodes {fr t0 : StepT → Nat} : ∀ {p : List StepT} {u v : Nat}, Walk fr t0 u p v → (∀ k (h : k < p.length), fr p[k] = nodeW t0 u p k ∧ t0 p[k] = nodeW t0 u p (k + 1)) ∧ nodeW t0 u p p.length = v
  | [], u, v, h => ⟨fun k hk => by simp at hk, h⟩
  | y :: r, u, v, h => by
    obtain ⟨h1, h2⟩ := h
    obtain ⟨i1, i2⟩ := walk_nodes h2
    have e : ∀ k, k ≤ r.length → nodeW t0 u (y :: r) (k + 1) = nodeW t0 (t0 y) r k := by
      intro k hk
      cases k with
      | zero => simp [nodeW]
      | succ k =>
        have hk2 : k < r.length := by omega
        simp [nodeW, List.getElem?_eq_getElem hk2]
    refine ⟨fun k hk => ?_, ?_⟩
    · cases k with
      | zero => exact ⟨h1, by simp [nodeW]⟩
      | succ k =>
        have hk2 : k < r.length := by simpa using hk
        obtain ⟨j1, j2⟩ := i1 k hk2
        refine ⟨?_, ?_⟩
        · rw [e k (by omega)]; simpa using j1
        · rw [e (k + 1) (by omega)]; simpa using j2
    · rw [List.length_cons, e r.length (Nat.le_refl _)]
      exact i2
theorem farsL_get {x : List Ent} {N v : Nat} (h : v < N) : (farsL x N)[v]? = some (farX x v) := by
  have := atI_get (d := farsL x N) (v := v) (by rw [farsL_len]; exact h)
  rw [this, farsL_at x h]
theorem ways_plain {n : Int} {Z : List ArcT} {F : List Int} {s t : Int} (hp : pathE n Z F s t = 0) :
    levE n Z F s = 0 ∧ flowE n Z F = 0 ∧ ∃ N j : Nat, n = (N : Int) ∧ t = (j : Int) ∧ j < N ∧ N ≤ 50 ∧ (levL n Z F s).length = N ∧
      (wayB n Z F s t = false → wayL n Z F s t = [] ∧ (levL n Z F s)[j]? = some (-1)) ∧
      (wayB n Z F s t = true → wayL n Z F s t ≠ [] ∧ (levL n Z F s)[j]? = some ((wayL n Z F s t).length : Int) ∧ ∃ nd : Nat → Nat, (nd 0 : Int) = s ∧ (nd (wayL n Z F s t).length : Int) = t ∧
        ∀ k (h : k < (wayL n Z F s t).length), fromS Z (wayL n Z F s t)[k] = nd k ∧ toS Z (wayL n Z F s t)[k] = nd (k + 1) ∧ nd (k + 1) < N ∧ (levL n Z F s)[nd (k + 1)]? = some ((k : Int) + 1) ∧ isArc Z (wayL n Z F s t)[k] ∧ 0 < leftS Z F (wayL n Z F s t)[k]) := by
  obtain ⟨N, i, j, rfl, rfl, rfl, hi, hj, hij, hN, hf, hw⟩ := wayF_ok hp
  have hT := flow_to hf
  rw [Int.toNat_natCast] at hT
  have hlev : levE (N : Int) Z F (i : Int) = 0 := by
    unfold levE
    rw [if_pos hf, if_pos (by unfold nodeB; rw [decide_eq_true_eq]; omega)]
  have hll : levL (N : Int) Z F (i : Int) = farsL (seekK (fromS Z) (toS Z) (stepsK Z F Z.length) i N) N := by
    unfold levL seekF
    rw [if_pos hlev, Int.toNat_natCast, Int.toNat_natCast]
  have hwl : wayL (N : Int) Z F (i : Int) (j : Int) = (wayK (fromS Z) (toS Z) (stepsK Z F Z.length) N i j).getD [] := by unfold wayL; rw [hw]
  have hwb : wayB (N : Int) Z F (i : Int) (j : Int) = (wayK (fromS Z) (toS Z) (stepsK Z F Z.length) N i j).isSome := by unfold wayB; rw [hw]
  have hfar := way_far (v := j) hi hT
  refine ⟨hlev, hf, N, j, rfl, rfl, hj, hN, by rw [hll, farsL_len], ?_, ?_⟩
  · intro h
    rw [hwb] at h
    have hk : wayK (fromS Z) (toS Z) (stepsK Z F Z.length) N i j = none := by
      cases hk : wayK (fromS Z) (toS Z) (stepsK Z F Z.length) N i j with
      | none => rfl
      | some p => rw [hk] at h; cases h
    rw [hwl, hll, hk, farsL_get hj, hfar, hk]
    exact ⟨rfl, rfl⟩
  · intro h
    rw [hwb] at h
    obtain ⟨p, hk⟩ := Option.isSome_iff_exists.1 h
    rw [hk] at hwl hfar
    rw [Option.getD_some] at hwl
    rw [hwl, hll]
    obtain ⟨w1, w2, w3, w4⟩ := way_props hi hT hk
    obtain ⟨n1, n2⟩ := walk_nodes w1
    obtain ⟨c, r, r1, r2, rfl⟩ := wayK_some hk
    have hsk := seek_full (fr := fromS Z) (l := stepsK Z F Z.length) hi hT
    refine ⟨?_, by rw [farsL_get hj, hfar], nodeW (toS Z) i (pathX (seekK (fromS Z) (toS Z) (stepsK Z F Z.length) i N) c), rfl, by rw [n2], fun k hkl => ?_⟩
    · intro he
      rw [he] at w1
      exact hij w1
    · obtain ⟨a1, a2⟩ := n1 k hkl
      have hm := List.getElem_mem hkl
      have hlt := hT _ (w2 _ hm)
      obtain ⟨_, o2, o3⟩ := step_okK hf (w2 _ hm)
      have hpl := path_level hsk r1 hkl
      exact ⟨a1, a2, by rw [← a2]; exact hlt, by rw [← a2, farsL_get hlt, hpl], o2, o3⟩
section
variable (n : Int) (b : Bool) (ao fo : Option Addr) (len cap fl fc : Nat) (Z : List ArcT) (F : List Int)
set_option maxRecDepth 100000 in
set_option maxHeartbeats 4000000 in
theorem ways_law (s t : Int) (w : World) (hl : Z.length = len) (hm : len ≤ maxLen) (hr : Row encA 4 w ao Z) (hl2 : F.length = fl) (hm2 : fl ≤ maxLen) (hf : Lst encI w fo F) :
    Calls Try.prog 5 #[.agg #[.int .i64 n, .bool b, .slice ao len cap], .slice fo fl fc, .int .i64 s, .int .i64 t] w fun e w' => e = .returned (.bool true) ∧ Below w.heap.size w w' := by
  subst hl
  subst hl2
  have hb00 := (Below.refl _ w).alloc (Nat.le_refl _) (.cells #[.int .i64 n, .bool b, .slice ao Z.length cap] 24)
  have HB := Lib.hid hb00
  have hn0 := heap_alloc_new w (.cells #[.int .i64 n, .bool b, .slice ao Z.length cap] 24)
  have HN := Lib.hid hn0
  have HR := Lib.hid (hr.below' hb00)
  have HF := Lib.hid (hf.below hb00)
  have HM := Lib.hid hm
  have HM2 := Lib.hid hm2
  obtain ⟨e0, he⟩ : ∃ e0, pathE n Z F s t = e0 := ⟨_, rfl⟩
  have HE := Lib.hid he
  have x0 := cell_whole hn0 0
  have y0 := cell_whole hn0 1
  have z0 := cell_whole hn0 2
  clear hr hf hm hm2 hb00 hn0
  by_cases h0 : e0 = 0
  · subst h0
    obtain ⟨hlev, hfe, N, j, hnN, htj, hj, hN, hlen, hno, hyes⟩ := ways_plain he
    have HLE := Lib.hid hlev
    obtain ⟨D, hD⟩ : ∃ D, levL n Z F s = D := ⟨_, rfl⟩
    have hLb := wayL_bd n Z F s t
    obtain ⟨L, hL⟩ : ∃ L, wayL n Z F s t = L := ⟨_, rfl⟩
    rw [hL] at hLb
    obtain ⟨qb, hqb⟩ : ∃ qb, wayB n Z F s t = qb := ⟨_, rfl⟩
    have HLL := Lib.hid hL
    have HDD := Lib.hid hD
    have HQB := Lib.hid hqb
    rw [hD] at hlen hno hyes
    rw [hL] at hno hyes
    rw [hqb] at hno hyes
    subst hnN
    subst htj
    have hji : (j : Int) < (N : Int) := by omega
    have hjd : (j : Int) < (D.length : Int) := by omega
    have HDN : Hid (D.length = N) := Lib.hid hlen
    have hq1 : ((D.length : Int) != (N : Int)) = false := by simp; omega
    have hq2 : ((D.length : Int) == (N : Int)) = true := by simp; omega
    clear he hlev hlen hD hL hqb
    cases qb
    · obtain ⟨hL0, hDj⟩ := hno rfl
      subst hL0
      have HDj := Lib.hid hDj
      clear hno hyes hDj
      go_enter Try.func5, Try.ntmps5
      go_wp2_with (first
        | (go_at_call 10; refine (vawake_any _).mono ?_; rintro e w3 ⟨rfl, hb3⟩; have hn1 := kept_box HN.out hb3; have HN := Lib.hid hn1; have HB := Lib.hid (HB.out.trans (hb3.mono HB.out.size)); have HR := Lib.hid (HR.out.below' hb3); have HF := Lib.hid (HF.out.below hb3); have x1 := cell_whole hn1 0; have y1 := cell_whole hn1 1; have z1 := cell_whole hn1 2; clear hb3 hn1 x0 y0 z0)
        | (go_at_call 12; refine (vpath_any (N : Int) b ao fo cap fc Z F s (j : Int) _ HR.out HF.out HM.out HM2.out).mono ?_; rintro e w4 ⟨a1, c1, rfl, hl1, hb4⟩; rw [HLL.out] at hl1 ⊢; rw [HE.out, HQB.out]; have hn1 := kept_box HN.out hb4; have HN := Lib.hid hn1; have HR := Lib.hid (HR.out.below' hb4); have HF := Lib.hid (HF.out.below hb4); have HB := Lib.hid (HB.out.trans (hb4.mono HB.out.size)); have HL1 := Lib.hid hl1; have x2 := cell_whole hn1 0; have y2 := cell_whole hn1 1; have z2 := cell_whole hn1 2; clear hn1 hl1 hb4 x1 y1 z1)
        | (go_at_call 8; refine (levels_any (N : Int) b ao fo cap fc Z F s _ HR.out HF.out HM.out HM2.out).mono ?_; rintro e w5 ⟨da, dc, rfl, hd5, hb5⟩; rw [HDD.out] at hd5 ⊢; rw [HLE.out]; have hn1 := kept_box HN.out hb5; have HB := Lib.hid (HB.out.trans (hb5.mono HB.out.size)); obtain ⟨db, dx, hde, hdb, dj⟩ := lst_cell hd5 HDj.out; unfold encI at dj; subst hde; have x3 := cell_whole hn1 0; clear hn1 hb5 hd5 x2 y2 z2))
      go_ret
      exact ⟨by simp, HB.out⟩
    · obtain ⟨hL0, hDj, nd, hnd0, hndl, hall⟩ := hyes rfl
      have HDj := Lib.hid hDj
      have HND0 := Lib.hid hnd0
      have HNDL := Lib.hid hndl
      have HALL := Lib.hid hall
      have hLp : 0 < L.length := List.length_pos_iff.2 hL0
      have hLi : ((L.length : Int) == 0) = false := by simp; omega
      have hLe : ((L.length : Int) != (L.length : Int)) = false := by simp
      have HFE := Lib.hid hfe
      clear hno hyes hDj hnd0 hndl hall hL0 hfe
      go_enter Try.func5, Try.ntmps5
      go_wp2_with (first
        | (go_at_call 10; refine (vawake_any _).mono ?_; rintro e w3 ⟨rfl, hb3⟩; have hn1 := kept_box HN.out hb3; have HN := Lib.hid hn1; have HB := Lib.hid (HB.out.trans (hb3.mono HB.out.size)); have HR := Lib.hid (HR.out.below' hb3); have HF := Lib.hid (HF.out.below hb3); have x1 := cell_whole hn1 0; have y1 := cell_whole hn1 1; have z1 := cell_whole hn1 2; clear hb3 hn1 x0 y0 z0)
        | (go_at_call 12; refine (vpath_any (N : Int) b ao fo cap fc Z F s (j : Int) _ HR.out HF.out HM.out HM2.out).mono ?_; rintro e w4 ⟨a1, c1, rfl, hl1, hb4⟩; rw [HLL.out] at hl1 ⊢; rw [HE.out, HQB.out]; have hn1 := kept_box HN.out hb4; have HN := Lib.hid hn1; have HR := Lib.hid (HR.out.below' hb4); have HF := Lib.hid (HF.out.below hb4); have HB := Lib.hid (HB.out.trans (hb4.mono HB.out.size)); have HL1 := Lib.hid hl1; have x2 := cell_whole hn1 0; have y2 := cell_whole hn1 1; have z2 := cell_whole hn1 2; clear hn1 hl1 hb4 x1 y1 z1)
        | (go_at_call 8; refine (levels_any (N : Int) b ao fo cap fc Z F s _ HR.out HF.out HM.out HM2.out).mono ?_; rintro e w5 ⟨da, dc, rfl, hd5, hb5⟩; rw [HDD.out] at hd5 ⊢; rw [HLE.out]; have hn1 := kept_box HN.out hb5; have HN := Lib.hid hn1; have HR := Lib.hid (HR.out.below' hb5); have HF := Lib.hid (HF.out.below hb5); have HB := Lib.hid (HB.out.trans (hb5.mono HB.out.size)); have HL1 := Lib.hid (HL1.out.below' hb5); obtain ⟨db, dx, hde, hdb, dj⟩ := lst_cell hd5 HDj.out; unfold encI at dj; subst hde; have HD5 := Lib.hid hd5; have x3 := cell_whole hn1 0; have y3 := cell_whole hn1 1; have z3 := cell_whole hn1 2; clear hn1 hb5 hd5 x2 y2 z2))
      go_loopw [15, 16] (fun av iv wr => ∃ k : Nat, k ≤ L.length ∧ iv = .int .i64 (k : Int) ∧ av = .int .i64 (nd k : Int) ∧ Hid (Below w5.heap.size w5 wr)) (fun _ iv _ => L.length - (intOf iv).toNat)
      case atStart => exact ⟨0, Nat.zero_le _, rfl, by rw [HND0.out], Lib.hid (Below.refl _ _)⟩
      case round =>
        obtain ⟨k, hk, rfl, rfl, HW⟩ := hrel
        by_cases hlt : k < L.length
        · have hli : (k : Int) < (L.length : Int) := by omega
          obtain ⟨lb, lx, e, hlb, s0, s1⟩ := step_at (HL1.out.below' HW.out) (List.getElem?_eq_getElem hlt)
          cases e
          obtain ⟨hfr, hto, hnN, hnD, harc, hroom⟩ := HALL.out k hlt
          have ha0 := arcOf_at harc
          have hi0 := harc
          unfold isArc at hi0
          obtain ⟨p, hpz⟩ : ∃ p : Nat, (L[k]).1 = (p : Int) := ⟨(L[k]).1.toNat, by omega⟩
          have hrE := roomE_yes HFE.out harc
          have hrK : roomK (N : Int) Z F L[k] = leftS Z F L[k] := by unfold roomK; rw [if_pos hrE]
          have hR := (flow_facts (b := b) HFE.out).1
          generalize L[k] = y at *
          obtain ⟨y1, q⟩ := y
          simp only at hpz
          subst hpz
          simp only [Int.toNat_natCast] at ha0
          simp only at s0 s1
          generalize arcOf Z ((p : Int), q) = a at *
          obtain ⟨hB, hE⟩ := begI_fromE ha0 ⟨(right_arc hR (List.mem_of_getElem? ha0)).1, (right_arc hR (List.mem_of_getElem? ha0)).2.1⟩ q
          rw [hfr] at hB
          rw [hto] at hE
          obtain ⟨rm, hrm⟩ : ∃ rm, leftS Z F ((p : Int), q) = rm := ⟨_, rfl⟩
          rw [hrm] at hrK hroom
          have hz1 : (rm == 0) = false := by simp; omega
          have hz2 : (rm != 0) = true := by simp; omega
          have HRE := Lib.hid hrE
          have HRK := Lib.hid hrK
          have HBB := Lib.hid hB
          have HEE := Lib.hid hE
          have HA := Lib.hid ha0
          have HND := Lib.hid hnD
          have hq3 : ((nd k : Int) != (nd k : Int)) = false := by simp
          have v0 := cell_below' HW.out x3 (block_lt_of_cell x3)
          have v1 := cell_below' HW.out y3 (block_lt_of_cell y3)
          have v2 := cell_below' HW.out z3 (block_lt_of_cell z3)
          have HRW := Lib.hid (HR.out.below' HW.out)
          have HFW := Lib.hid (HF.out.below HW.out)
          have h200 : Z.length ≤ 200 := hR.2.1
          have hz200 : Z.length ≤ 200000 := by omega
          have hwk : IntKind.i64.wrap ((k : Int) + 1) = (k : Int) + 1 := IntWalk.i64_in _ (by omega)
          have hni : (nd (k + 1) : Int) < (D.length : Int) := by rw [HDN.out]; omega
          clear hfr hto hnD harc hi0 ha0 hrE hrK hB hE hrm hR
          go_wp2_with fail
          go_region_held3 (fun W => W.cell? ⟨w.heap.size, 0, none⟩ = some (.int .i64 (N : Int)) ∧ W.cell? ⟨w.heap.size, 1, none⟩ = some (.bool b) ∧ W.cell? ⟨w.heap.size, 2, none⟩ = some (.slice ao Z.length cap) ∧ W.cell? ⟨lb, lx + k * 2, none⟩ = some (.int .i64 (p : Int)) ∧ W.cell? ⟨lb, lx + k * 2 + 1, none⟩ = some (.bool q)) (first | exact ⟨v0, v1, v2, s0, s1⟩ | exact ⟨u0, u1, u2, u3, u4⟩ | go_keep)
            (first | (go_at_call 15; refine (rroom_any (N : Int) b ao fo cap fc Z F (p : Int) q wr.drew (HRW.out.below' (below_drew (Below.refl wr.heap.size wr))) (HFW.out.below (below_drew (Below.refl wr.heap.size wr))) HM.out HM2.out).mono ?_; rintro e w6 ⟨rfl, b6⟩; rw [HRK.out, HRE.out]; have u0 := cell_below (w := wr.drew) b6 v0; have u1 := cell_below (w := wr.drew) b6 v1; have u2 := cell_below (w := wr.drew) b6 v2; have u3 := cell_below (w := wr.drew) b6 s0; have u4 := cell_below (w := wr.drew) b6 s1; have HW6 := Lib.hid ((below_drew HW.out).trans (b6.mono HW.out.size)); have HR6 := Lib.hid ((HRW.out.below' (below_drew (Below.refl wr.heap.size wr))).below' b6); clear b6))
          all_goals
            go_wp2_with fail
            go_region_held3 (fun W => W.cell? ⟨w.heap.size, 0, none⟩ = some (.int .i64 (N : Int)) ∧ W.cell? ⟨w.heap.size, 1, none⟩ = some (.bool b) ∧ W.cell? ⟨w.heap.size, 2, none⟩ = some (.slice ao Z.length cap) ∧ W.cell? ⟨lb, lx + k * 2, none⟩ = some (.int .i64 (p : Int)) ∧ W.cell? ⟨lb, lx + k * 2 + 1, none⟩ = some (.bool q)) (first | exact ⟨u0, u1, u2, u3, u4⟩ | exact ⟨r0, r1, r2, r3, r4⟩ | go_keep)
              (first | (go_at_call 16; refine (rfrom_at (N : Int) b ao cap Z p q a w6.drew (HR6.out.below' (below_drew (Below.refl w6.heap.size w6))) HA.out hz200).mono ?_; rintro e w7 ⟨rfl, b6⟩; rw [HBB.out]; have r0 := cell_below (w := w6.drew) b6 u0; have r1 := cell_below (w := w6.drew) b6 u1; have r2 := cell_below (w := w6.drew) b6 u2; have r3 := cell_below (w := w6.drew) b6 u3; have r4 := cell_below (w := w6.drew) b6 u4; have HW7 := Lib.hid ((below_drew HW6.out).trans (b6.mono HW6.out.size)); have HR7 := Lib.hid ((HR6.out.below' (below_drew (Below.refl w6.heap.size w6))).below' b6); clear b6))
            all_goals
              go_wp2_with fail
              go_region_held3 (fun W => W.cell? ⟨w.heap.size, 0, none⟩ = some (.int .i64 (N : Int)) ∧ W.cell? ⟨w.heap.size, 1, none⟩ = some (.bool b) ∧ W.cell? ⟨w.heap.size, 2, none⟩ = some (.slice ao Z.length cap) ∧ W.cell? ⟨lb, lx + k * 2, none⟩ = some (.int .i64 (p : Int)) ∧ W.cell? ⟨lb, lx + k * 2 + 1, none⟩ = some (.bool q)) (first | exact ⟨r0, r1, r2, r3, r4⟩ | exact ⟨t0, t1, t2, t3, t4⟩ | go_keep)
                (first | (go_at_call 17; refine (rto_at (N : Int) b ao cap Z p q a w7.drew (HR7.out.below' (below_drew (Below.refl w7.heap.size w7))) HA.out hz200).mono ?_; rintro e w8 ⟨rfl, b6⟩; rw [HEE.out]; have t0 := cell_below (w := w7.drew) b6 r0; have t1 := cell_below (w := w7.drew) b6 r1; have t2 := cell_below (w := w7.drew) b6 r2; have t3 := cell_below (w := w7.drew) b6 r3; have t4 := cell_below (w := w7.drew) b6 r4; have HW8 := Lib.hid ((below_drew HW7.out).trans (b6.mono HW7.out.size)); clear b6))
              all_goals
                obtain ⟨db2, dx2, hde2, hdb2, dk⟩ := lst_cell (HD5.out.below HW8.out) HND.out
                cases hde2
                unfold encI at dk
                have hq4 : (((k : Int) + 1) != ((k : Int) + 1)) = false := by simp
                go_wp2
                go_roundw
                case rel => exact ⟨k + 1, by omega, by go_num, rfl, HW8⟩
                case measure => simp [intOf]; omega
        · have hli : ¬ (k : Int) < (L.length : Int) := by omega
          obtain rfl : k = L.length := by omega
          have HB := Lib.hid (HB.out.trans (HW.out.mono HB.out.size))
          rw [HNDL.out]
          go_wp2
          go_ret
          exact ⟨by simp, HB.out⟩
  · have q1 : (e0 != 0) = true := by simpa using h0
    have q2 : (e0 == 0) = false := by simpa using h0
    have HLL : Hid (wayL n Z F s t = []) := Lib.hid (by unfold wayL; rw [wayF_no (by rw [he]; exact h0)]; rfl)
    have HQB : Hid (wayB n Z F s t = false) := Lib.hid (by unfold wayB; rw [wayF_no (by rw [he]; exact h0)]; rfl)
    clear he h0
    go_enter Try.func5, Try.ntmps5
    go_wp2_with (first
      | (go_at_call 10; refine (vawake_any _).mono ?_; rintro e w3 ⟨rfl, hb3⟩; have hn1 := kept_box HN.out hb3; have HB := Lib.hid (HB.out.trans (hb3.mono HB.out.size)); have HR := Lib.hid (HR.out.below' hb3); have HF := Lib.hid (HF.out.below hb3); have x1 := cell_whole hn1 0; have y1 := cell_whole hn1 1; have z1 := cell_whole hn1 2; clear hb3 hn1 x0 y0 z0)
      | (go_at_call 12; refine (vpath_any n b ao fo cap fc Z F s t _ HR.out HF.out HM.out HM2.out).mono ?_; rintro e w4 ⟨a1, c1, rfl, hl1, hb4⟩; rw [HLL.out, HE.out, HQB.out]; have HB := Lib.hid (HB.out.trans (hb4.mono HB.out.size)); clear hl1 hb4 x1 y1 z1))
    go_ret
    exact ⟨by simp, HB.out⟩
end
end Go.Proofs.Ytbolpjahmmjllaa
