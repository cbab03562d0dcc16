/- Lemmas of the layers below, several texts in one. -/
import Derived.Test.YtlkbohpnlbfopaaGreatBH
import Derived.Deep.LoopGhost
import Derived.Test.YtlkbohpnlbfopaaGreatBC
import Derived.Test.YtlkbohpnlbfopaaGreatBD
import Derived.IntWalk
import Derived.BigQuiet
import Derived.Deep.QuietTactic
namespace Go.Proofs.YtlkbohpnlbfopaaGreat
open Go.RowKit
set_option linter.unusedVariables false
theorem hasI_key {fr t0 : StepT → Nat} {l : List StepT} {s i j : Nat} {P : List StepT} {x : List Ent} {q : Ent} (h : SK fr t0 l s x i P) (hq : x[j]? = some q) : hasI (keysX x) q.1 = (j : Int) := by
  have hj := (List.getElem?_eq_some_iff.1 hq).1
  have hk : (keysX x)[j]'(by rw [keysX_len]; exact hj) = q.1 := by
    simp [keysX]
    rw [(List.getElem?_eq_some_iff.1 hq).2]
  refine hasI_some (by rw [keysX_len]; exact hj) hk (fun m hm e => ?_)
  have h1 := List.nodup_iff_pairwise_ne.1 h.nd
  rw [List.pairwise_iff_getElem] at h1
  exact h1 m j (by rw [keysX_len]; omega) (by rw [keysX_len]; exact hj) hm (by rw [e, hk])
theorem path_le {fr t0 : StepT → Nat} {l : List StepT} {s i : Nat} {P : List StepT} {x : List Ent} (h : SK fr t0 l s x i P) : ∀ (n j : Nat), j ≤ n → j < x.length → (pathX x j).length ≤ j
  | 0, j, hj, _ => by
    obtain rfl : j = 0 := by omega
    simp [pathX_zero]
  | n + 1, j, hj, hjl => by
    by_cases h0 : j = 0
    · subst h0; simp [pathX_zero]
    · have he := List.getElem?_eq_getElem hjl
      rw [pathX_succ h he (by omega), List.length_append]
      have h3 := (h.par j _ he (by omega)).2.2.1
      have := path_le h n _ (by omega) (by omega : x[j].2.2 < x.length)
      simp only [List.length_singleton]
      omega
theorem key_first {fr t0 : StepT → Nat} {l : List StepT} {s i j : Nat} {P : List StepT} {x : List Ent} {q : Ent} (h : SK fr t0 l s x i P) (hq : x[j]? = some q) (h0 : 0 < j) : q.1 ≠ s := by
  intro e
  have h1 := hasI_key h hq
  have h2 := hasI_key h h.hd
  rw [e] at h1
  rw [h1] at h2
  omega
def WayRes (o : Option (List StepT)) (w : World) (e : Ending) (w' : World) : Prop :=
  ∃ a c, e = .returned (.tuple #[.slice a (o.getD []).length c, .bool o.isSome]) ∧ Row encS 2 w' a (o.getD []) ∧ Below w.heap.size w w'
section
variable (n : Int) (b : Bool) (ao lo : Option Addr) (cap lc : Nat) (Z : List ArcT) (L : List StepT) (N : Nat)
set_option maxRecDepth 100000 in
set_option maxHeartbeats 8000000 in
theorem rway_any (s t : Nat) (w : World) (h : Row encA 4 w ao Z) (hl : Row encS 2 w lo L) (hz : Z.length ≤ 200000) (hll : L.length ≤ 200000) (hN : N ≤ 100000) (hs : s < N) (hto : ∀ y ∈ L, toS Z y < N) (hok : ∀ y ∈ L, ∃ (p : Nat) (a : ArcT) (q : Bool), Z[p]? = some a ∧ y = ((p : Int), q)) (hE : ∀ a ∈ Z, a.1 = (frN a : Int) ∧ a.2.1 = (toN a : Int)) :
    Calls Tryz.prog 34 #[.agg #[.int .i64 n, .bool b, .slice ao Z.length cap], .int .i64 (s : Int), .int .i64 (t : Int), .slice lo L.length lc] w (WayRes (wayK (fromS Z) (toS Z) L N s t) w) := by
  have hb00 := (Below.refl _ w).alloc (Nat.le_refl _) (.cells #[.int .i64 n, .bool b, .slice ao Z.length cap] 27)
  have HB0 := Lib.hid hb00
  have hn1 := heap_alloc_new w (.cells #[.int .i64 n, .bool b, .slice ao Z.length cap] 27)
  have k0 := cell_whole hn1 0
  have k1 := cell_whole hn1 1
  have k2 := cell_whole hn1 2
  have hx1 := lt_whole hn1
  have HR := Lib.hid (h.below' hb00)
  have HLR := Lib.hid (hl.below' hb00)
  have HE := Lib.hid hE
  have HT := Lib.hid hto
  have HOK := Lib.hid hok
  have hsk := seek_full (fr := fromS Z) (l := L) hs hto
  have hxN := seek_len hsk hs hto
  obtain ⟨X, hX⟩ : ∃ X, seekK (fromS Z) (toS Z) L s N = X := ⟨_, rfl⟩
  rw [hX] at hsk hxN
  have HSK := Lib.hid hsk
  have HXX := Lib.hid hX
  obtain ⟨hI, hhI⟩ : ∃ hI, hasI (keysX X) t = hI := ⟨_, rfl⟩
  have HHI := Lib.hid hhI
  have hneg : hI < 0 ↔ t ∉ keysX X := by rw [← hhI]; exact hasI_neg
  have HYL : Hid ((keysX X).length = X.length) := Lib.hid (keysX_len X)
  have HBL : Hid ((byX X).length = X.length) := Lib.hid (byX_len X)
  clear h hl hb00 hn1 hE hto hok hsk hX hhI
  by_cases hnew : hI < 0
  · have hdn : decide (hI < 0) = true := decide_eq_true hnew
    have HW : Hid (wayK (fromS Z) (toS Z) L N s t = none) := Lib.hid (by
      cases hw : wayK (fromS Z) (toS Z) L N s t with
      | none => rfl
      | some p =>
        obtain ⟨c, r, r1, r2, _⟩ := wayK_some hw
        rw [HXX.out] at r1
        exact absurd (keysX_mem.2 ⟨c, r, r1, r2⟩) (hneg.1 hnew))
    clear hneg
    go_enter Tryz.func34, Tryz.ntmps34
    go_wp2_with (first
      | (go_at_call 55; refine (rsought_any n b ao lo cap lc Z L N s _ HR.out HLR.out hz hll hN hs HT.out HOK.out HE.out).mono ?_; rw [HXX.out]; rintro e w2 ⟨gn, nc, gs, bc, rfl, hln, hls, hb2⟩; have HLN := Lib.hid (hln.below ((Below.refl _ w2).alloc (Nat.le_refl _) (.cells #[.slice (some ⟨gn, 0, none⟩) X.length nc, .slice (some ⟨gs, 0, none⟩) X.length bc] 111))); have HB2 := Lib.hid (HB0.out.trans (hb2.mono HB0.out.size)); have HB3 := Lib.hid (HB2.out.alloc HB2.out.size (.cells #[.slice (some ⟨gn, 0, none⟩) X.length nc, .slice (some ⟨gs, 0, none⟩) X.length bc] 111)); clear hln hls hb2)
      | (go_at_call 56; refine (rhas_len (some ⟨gn, 0, none⟩) (some ⟨gs, 0, none⟩) nc X.length bc X.length (keysX X) t hI _ HLN.out HYL.out (by omega) HHI.out).mono ?_; rintro e w4 ⟨rfl, hb4⟩; have HB4 := Lib.hid (HB3.out.trans (hb4.mono HB3.out.size)); clear hb4))
    go_ret2
    exact ⟨none, 0, by rw [HW.out]; rfl, by rw [HW.out]; exact Row.nil _ _, HB4.out⟩
  · have hdn : decide (hI < 0) = false := decide_eq_false hnew
    have hin : t ∈ keysX X := Classical.byContradiction fun h => hnew (hneg.2 h)
    obtain ⟨b0, q0, hb0, hq0⟩ := keysX_mem.1 hin
    have HW : Hid (wayK (fromS Z) (toS Z) L N s t = some (pathX X b0)) := Lib.hid (by
      have := wayK_mk (N := N) hs HT.out (by rw [HXX.out]; exact hb0) hq0
      rw [HXX.out] at this
      exact this)
    have HQ0 := Lib.hid hb0
    have HQT := Lib.hid hq0
    clear hneg hin hb0 hq0
    go_enter Tryz.func34, Tryz.ntmps34
    go_wp2_with (first
      | (go_at_call 55; refine (rsought_any n b ao lo cap lc Z L N s _ HR.out HLR.out hz hll hN hs HT.out HOK.out HE.out).mono ?_; rw [HXX.out]; rintro e w2 ⟨gn, nc, gs, bc, rfl, hln, hls, hb2⟩; have HLN := Lib.hid (hln.below ((Below.refl _ w2).alloc (Nat.le_refl _) (.cells #[.slice (some ⟨gn, 0, none⟩) X.length nc, .slice (some ⟨gs, 0, none⟩) X.length bc] 111))); have HLS := Lib.hid (hls.below' ((Below.refl _ w2).alloc (Nat.le_refl _) (.cells #[.slice (some ⟨gn, 0, none⟩) X.length nc, .slice (some ⟨gs, 0, none⟩) X.length bc] 111))); have hk3 := hb2.trans (((Below.refl _ w2).alloc (Nat.le_refl _) (.cells #[.slice (some ⟨gn, 0, none⟩) X.length nc, .slice (some ⟨gs, 0, none⟩) X.length bc] 111)).mono hb2.size); have l0 := cell_below' hk3 k0 hx1; have l1 := cell_below' hk3 k1 hx1; have l2 := cell_below' hk3 k2 hx1; have HR3 := Lib.hid (HR.out.below' hk3); have HB3 := Lib.hid (HB0.out.trans (hk3.mono HB0.out.size)); have HV3 := Lib.hid (heap_alloc_new w2 (.cells #[.slice (some ⟨gn, 0, none⟩) X.length nc, .slice (some ⟨gs, 0, none⟩) X.length bc] 111)); clear hln hls hb2 hk3 k0 k1 k2)
      | (go_at_call 56; refine (rhas_len (some ⟨gn, 0, none⟩) (some ⟨gs, 0, none⟩) nc X.length bc X.length (keysX X) t hI _ HLN.out HYL.out (by omega) HHI.out).mono ?_; rintro e w4 ⟨rfl, hb4⟩; have HB4 := Lib.hid (HB3.out.trans (hb4.mono HB3.out.size)); have hx3 := block_lt_of_cell l0; have m0 := cell_below hb4 l0; have m1 := cell_below hb4 l1; have m2 := cell_below hb4 l2; have HR4 := Lib.hid (HR3.out.below' hb4); have HV4 := Lib.hid (kept_box HV3.out hb4); have HLN4 := Lib.hid (HLN.out.below hb4); have HLS4 := Lib.hid (HLS.out.below' hb4); clear hb4 l0 l1 l2))
    obtain ⟨gx, hgx⟩ : ∃ gx, w2.heap.size = gx := ⟨_, rfl⟩
    rw [hgx] at HV4 ⊢
    have hxv := lt_whole HV4.out
    have hb0l := (List.getElem?_eq_some_iff.1 HQ0.out).1
    have hpl := path_le HSK.out b0 b0 (Nat.le_refl _) hb0l
    obtain ⟨R, hR⟩ : ∃ R, pathX X b0 = R := ⟨_, rfl⟩
    have HRR := Lib.hid hR
    rw [hR] at HW hpl
    clear hR hgx
    go_loopg [11, 12] b0 (fun kk bv vv wr => ∃ (q : Ent) (bk : List StepT), vv = .int .i64 (q.1 : Int) ∧ Hid (X[kk]? = some q) ∧ Hid (R = pathX X kk ++ bk.reverse) ∧ Hid (OwnS wr w4.heap.size bv bk) ∧ Hid (Below w4.heap.size w4 wr))
    case atStart => exact ⟨q0, [], by rw [HQT.out], HQ0, Lib.hid (by rw [HRR.out]; simp), Lib.hid (OwnS.nil _ _), Lib.hid (Below.refl _ _)⟩
    case round =>
      obtain ⟨q, bk, rfl, HQ, HRK, HO, HB⟩ := hrel
      obtain ⟨j, hjk⟩ : ∃ j, j = gk := ⟨_, rfl⟩
      subst hjk
      obtain ⟨wo, hwo⟩ : ∃ wo, wo = wr := ⟨_, rfl⟩
      subst hwo
      have hjl := (List.getElem?_eq_some_iff.1 HQ.out).1
      have hbl : bk.length ≤ R.length := by rw [HRK.out]; simp
      obtain ⟨la, lcp, hlv, hbrow⟩ := HO.out.row
      by_cases hj0 : j = 0
      · subst hj0
        have hqs : q.1 = s := by
          have h1 := HQ.out
          rw [HSK.out.hd] at h1
          cases h1
          rfl
        have hf1 : ((q.1 : Int) != (s : Int)) = false := by simp [hqs]
        have hf2 : ((q.1 : Int) == (s : Int)) = true := by simp [hqs]
        have HRB : Hid (R = bk.reverse) := Lib.hid (by rw [HRK.out, pathX_zero, List.nil_append])
        clear hqs
        generalize q.1 = qv at *
        subst hlv
        go_wp2
        have HRO := Lib.hid hbrow
        clear hbrow
        go_loopw [14, 15] (fun ov iv wi => ∃ m : Nat, m ≤ bk.length ∧ iv = .int .i64 ((m : Int) - 1) ∧ Hid (OwnS wi wo.heap.size ov ((bk.drop m).reverse)) ∧ Hid (Below wo.heap.size wo wi)) (fun _ iv _ => (intOf iv + 1).toNat)
        case atStart => exact ⟨bk.length, Nat.le_refl _, rfl, Lib.hid (by rw [List.drop_length]; exact OwnS.nil _ _), Lib.hid (Below.refl _ _)⟩
        case round =>
          obtain ⟨m, hm, rfl, HOO, HBB⟩ := hrel
          obtain ⟨oa, oc, hov, horow⟩ := HOO.out.row
          cases m with
          | zero =>
            rw [show (((0 : Nat) : Int) - 1) = -1 from rfl]
            have HRW := Lib.hid horow
            clear horow
            subst hov
            go_wp2
            go_ret2
            have hl0 : (bk.drop 0).reverse = R := by rw [List.drop_zero, HRB.out]
            refine ⟨oa, oc, ?_, ?_, HB4.out.trans ((HB.out.trans (HBB.out.mono HB.out.size)).mono HB4.out.size)⟩
            · rw [HW.out, hl0]; rfl
            · rw [HW.out]; have := HRW.out; rw [hl0] at this; exact this
          | succ k =>
            have e1 : (((k + 1 : Nat) : Int) - 1) = (k : Int) := by omega
            rw [e1]
            have hlt : k < bk.length := by omega
            have hli : (k : Int) < (bk.length : Int) := by omega
            have HD : Hid ((bk.drop k).reverse = (bk.drop (k + 1)).reverse ++ [bk[k]]) := Lib.hid (by rw [List.drop_eq_getElem_cons hlt, List.reverse_cons])
            obtain ⟨eb, eo, ee, heb, y0, y1⟩ := step_at (HRO.out.below' HBB.out) (List.getElem?_eq_getElem hlt)
            cases ee
            have hroom : ((bk.drop (k + 1)).reverse).length ≤ 200000 := by rw [List.length_reverse, List.length_drop]; omega
            have hsz := HBB.out.size
            clear horow
            generalize bk[k] = z at *
            obtain ⟨p, dir⟩ := z
            simp only at y0 y1
            generalize (bk.drop (k + 1)).reverse = A at *
            subst hov
            go_wp2_with (first
              | (at_builtin; refine wpList_append_step rfl _ _ rfl wo.heap.size _ A (p, dir) rfl (HOO.out.alloc (.cells #[.int .i64 p, .bool dir] 73)) _ 1 rfl (cells2 _ _ _ (by simp) _ _) hroom (by simp; omega) ?_; intro g8 cap8 w8 ho8 hg8 hl8 hb8 hlt8; have HO8 := Lib.hid ho8; have HB8 := Lib.hid (below_grown (HBB.out.alloc HBB.out.size (.cells #[.int .i64 p, .bool dir] 73)) (by simp; omega) hg8 (fun g e => own_block HOO.out e)); clear ho8 hg8 hl8))
            go_roundw
            case rel => exact ⟨k, by omega, by first | rfl | go_num, Lib.hid (by rw [HD.out]; exact HO8.out), HB8⟩
            case measure => simp [intOf]
      · obtain ⟨hyl, hyt, hjp, _, q', hq', hqf⟩ := HSK.out.par j q HQ.out (by omega)
        have hps := pathX_succ HSK.out HQ.out (by omega)
        have hne := key_first HSK.out HQ.out (by omega)
        have hf1 : ((q.1 : Int) != (s : Int)) = true := by simp; omega
        have hf2 : ((q.1 : Int) == (s : Int)) = false := by simp; omega
        obtain ⟨p, a, dir, ha, hy⟩ := HOK.out _ hyl
        have HFR : Hid (begI a dir = (q'.1 : Int)) := Lib.hid (by rw [hqf, hy]; exact (begI_fromE ha (HE.out a (List.mem_of_getElem? ha)) dir).1)
        have HR2 : Hid (R = pathX X q.2.2 ++ (bk ++ [((p : Int), dir)]).reverse) := Lib.hid (by rw [HRK.out, hps, hy, List.append_assoc]; simp)
        have HA := Lib.hid ha
        have HQ' := Lib.hid hq'
        have hbyj : (byX X)[j]? = some ((p : Int), dir) := by unfold byX; rw [List.getElem?_map, HQ.out, ← hy]; rfl
        obtain ⟨eb, eo, ee, heb, y0, y1⟩ := step_at (HLS4.out.below' HB.out) hbyj
        cases ee
        rw [Nat.zero_add] at y0 y1
        have hv := kept_box HV4.out HB.out
        have hgx1 : ¬ gx = wo.heap.size := by have := lt_whole hv; omega
        have hgs1 : ¬ gs = wo.heap.size := by omega
        have x0 := cell_whole hv 0
        have x1 := cell_whole hv 1
        have hji : (j : Int) < (X.length : Int) := by omega
        have HC1 := Lib.hid (rhas_len (some ⟨gn, 0, none⟩) (some ⟨gs, 0, none⟩) nc X.length bc X.length (keysX X) q.1 (j : Int) wo.drew ((HLN4.out.below HB.out).below (below_drew (Below.refl _ wo))) HYL.out (by omega) (hasI_key HSK.out HQ.out))
        have HC2 := Lib.hid (rhas_len (some ⟨gn, 0, none⟩) (some ⟨gs, 0, none⟩) nc X.length bc X.length (keysX X) q.1 (j : Int) (wo.alloc (.cells #[.int .i64 0, .bool false] 73)).drew ((HLN4.out.below HB.out).below (below_drew ((Below.refl _ wo).alloc (Nat.le_refl _) _))) HYL.out (by omega) (hasI_key HSK.out HQ.out))
        have hsz := HB.out.size
        obtain ⟨j2, hj2⟩ : ∃ j2, q.2.2 = j2 := ⟨_, rfl⟩
        rw [hj2] at hjp HQ' HR2
        clear hps hyl hyt hy ha hq' hqf hbyj hne hj2
        generalize q.1 = qv at *
        subst hlv
        go_wp2_with fail
        go_cut [13] (fun v13 wc => ∃ g13, v13 = .pointer (some ⟨g13, 0, none⟩) ∧ wo.heap.size ≤ g13 ∧ Hid (wc.heap[g13]? = some (.cells #[.int .i64 (p : Int), .bool dir] 73 (0, 0))) ∧ Hid (Below wo.heap.size wo wc))
        case first =>
          go_region_held3 (fun W => W.cell? ⟨gx, 0, none⟩ = some (.slice (some ⟨gn, 0, none⟩) X.length nc) ∧ W.cell? ⟨gx, 1, none⟩ = some (.slice (some ⟨gs, 0, none⟩) X.length bc) ∧ W.cell? ⟨gs, j * 2, none⟩ = some (.int .i64 (p : Int)) ∧ W.cell? ⟨gs, j * 2 + 1, none⟩ = some (.bool dir)) (first | exact ⟨x0, x1, y0, y1⟩ | exact ⟨z0, z1, z2, z3⟩ | exact ⟨q0, q1, q2, q3⟩ | exact ⟨cell_alloc x0 _, cell_alloc x1 _, cell_alloc y0 _, cell_alloc y1 _⟩ | exact ⟨cell_alloc z0 _, cell_alloc z1 _, cell_alloc z2 _, cell_alloc z3 _⟩ | go_keep)
            (first
              | (go_at_call 56; refine HC1.out.mono ?_; rintro e w5 ⟨rfl, b5⟩; have z0 := cell_below (w := wo.drew) b5 x0; have z1 := cell_below (w := wo.drew) b5 x1; have z2 := cell_below (w := wo.drew) b5 y0; have z3 := cell_below (w := wo.drew) b5 y1; have HB5 := Lib.hid ((below_drew (Below.refl wo.heap.size wo)).trans b5); clear b5)
              | (go_at_call 56; refine HC2.out.mono ?_; rintro e w5 ⟨rfl, b5⟩; have z0 := cell_below (w := (wo.alloc (.cells #[.int .i64 0, .bool false] 73)).drew) b5 (cell_alloc x0 _); have z1 := cell_below (w := (wo.alloc (.cells #[.int .i64 0, .bool false] 73)).drew) b5 (cell_alloc x1 _); have z2 := cell_below (w := (wo.alloc (.cells #[.int .i64 0, .bool false] 73)).drew) b5 (cell_alloc y0 _); have z3 := cell_below (w := (wo.alloc (.cells #[.int .i64 0, .bool false] 73)).drew) b5 (cell_alloc y1 _); have hg5 : w5.heap[wo.heap.size]? = some (.cells #[.int .i64 0, .bool false] 73 (0, 0)) := kept_box (w := (wo.alloc (.cells #[.int .i64 0, .bool false] 73)).drew) (heap_alloc_new wo _) b5; have c50 := cell_whole hg5 0; have c51 := cell_whole hg5 1; have f50 := frozen_whole hg5 0; have f51 := frozen_whole hg5 1; have HG5 := Lib.hid hg5; have hkS : Kept (fun i => i = wo.heap.size) w5 ((w5.setCell ⟨wo.heap.size, 0, none⟩ (.int .i64 (p : Int))).setCell ⟨wo.heap.size, 1, none⟩ (.bool dir)) := ((Kept.refl (fun i => i = wo.heap.size) w5).set (.inl rfl) _).set (.inl rfl) _; have q0 := (cell_of_block (o := 0) (hkS.block gx (block_lt_of_cell z0) hgx1)).trans z0; have q1 := (cell_of_block (o := 1) (hkS.block gx (block_lt_of_cell z0) hgx1)).trans z1; have q2 := (cell_of_block (o := j * 2) (hkS.block gs (block_lt_of_cell z2) hgs1)).trans z2; have q3 := (cell_of_block (o := j * 2 + 1) (hkS.block gs (block_lt_of_cell z2) hgs1)).trans z3; have HKS := Lib.hid hkS; clear hkS; have HB5 := Lib.hid ((below_drew ((Below.refl wo.heap.size wo).alloc (Nat.le_refl _) (.cells #[.int .i64 0, .bool false] 73))).trans (b5.mono (by simp))); clear b5 hg5))
          all_goals
            go_wp2
            go_meet
            first
              | exact ⟨_, rfl, by have := HB5.out.size; omega, Lib.hid (heap_alloc_new _ _), Lib.hid (HB5.out.alloc HB5.out.size _)⟩
              | exact ⟨_, rfl, Nat.le_refl _, Lib.hid (set_whole (set_whole HG5.out 0 _) 1 _), Lib.hid (below_set (below_set HB5.out (Nat.le_refl _) _) (Nat.le_refl _) _)⟩
        case rest =>
          obtain ⟨g13, rfl, hg13, HG, HBc⟩ := hcut
          have hg := HG.out
          have s0 := cell_whole hg 0
          have s1 := cell_whole hg 1
          have hgl := lt_whole hg
          have HBW := Lib.hid (HB.out.trans (HBc.out.mono hsz))
          have HOc := Lib.hid (OwnS.below HO.out HBc.out)
          have HOw := HO
          clear hg x0 x1 y0 y1 HC1 HC2
          have hroom : bk.length ≤ 200000 := by omega
          go_wp2_with (first
            | (at_builtin; refine wpList_append_step rfl _ _ rfl w4.heap.size _ bk ((p : Int), dir) rfl (HOc.out.alloc (.cells #[.int .i64 (p : Int), .bool dir] 73)) _ 1 rfl (cells2 _ _ _ (by simp) _ _) hroom (by have := HBW.out.size; simp; omega) ?_; intro g8 cap8 w8 ho8 hg8 hl8 hb8 hlt8; have HO8 := Lib.hid ho8; have hbw8 := below_grown (HBW.out.alloc HBW.out.size (.cells #[.int .i64 (p : Int), .bool dir] 73)) (by simp; have := HBW.out.size; omega) hg8 (fun g e => own_block HOc.out e); have HB8 := Lib.hid hbw8; have hk8 : Kept (fun i => (Value.slice la bk.length lcp).ownBlock = some i) _ w8 := Kept.of_grown hg8 (fun k e => e); have v8 := hk8.old (alloc_whole HG.out _) (fun e => absurd (own_lt HOw.out e) (by omega)); have t0 := cell_whole v8 0; have t1 := cell_whole v8 1; have n0 := cell_below' hbw8 m0 (block_lt_of_cell m0); have n1 := cell_below' hbw8 m1 (block_lt_of_cell m1); have n2 := cell_below' hbw8 m2 (block_lt_of_cell m2); clear ho8 hg8 hl8 hk8 v8 hbw8)
            | (go_at_call 57; refine (rfrom_at n b ao cap Z p dir a _ (HR4.out.below' HB8.out) HA.out hz).mono ?_; rintro e w9 ⟨rfl, hb9⟩; rw [HFR.out]; have HO9 := Lib.hid (OwnS.below HO8.out hb9); have HB9 := Lib.hid (HB8.out.trans (hb9.mono HB8.out.size)); clear hb9))
          go_roundg j2
          case measure => omega
          case rel => exact ⟨q', bk ++ [((p : Int), dir)], rfl, HQ', HR2, HO9, HB9⟩
end
end Go.Proofs.YtlkbohpnlbfopaaGreat
namespace Go.Proofs.YtlkbohpnlbfopaaGreat
open Go.RowKit
set_option linter.unusedVariables false
section
variable (n : Int) (b : Bool) (ao fo : Option Addr) (cap fc : Nat) (Z : List ArcT) (F : List Int)
end
end Go.Proofs.YtlkbohpnlbfopaaGreat
namespace Go.Proofs.YtlkbohpnlbfopaaGreat
open Go.RowKit
set_option linter.unusedVariables false
end Go.Proofs.YtlkbohpnlbfopaaGreat
namespace Go.Proofs.YtlkbohpnlbfopaaGreat
open Go.RowKit
set_option linter.unusedVariables false
section
variable (n : Int) (b : Bool) (ao fo : Option Addr) (len cap fl fc : Nat) (Z : List ArcT) (F : List Int)
end
end Go.Proofs.YtlkbohpnlbfopaaGreat
namespace Go.Proofs.YtlkbohpnlbfopaaGreat
open Go.RowKit
set_option linter.unusedVariables false
section
variable (n : Int) (b : Bool) (ao fo : Option Addr) (len cap fl fc : Nat) (Z : List ArcT) (F : List Int)
end
end Go.Proofs.YtlkbohpnlbfopaaGreat
