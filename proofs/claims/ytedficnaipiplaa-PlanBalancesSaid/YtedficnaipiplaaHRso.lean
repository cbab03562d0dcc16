/- The document's answer: the stocks of all nodes at all points of time. -/
import Derived.Test.YtedficnaipiplaaHRst
import Derived.Test.YtedficnaipiplaaHSto
namespace Go.Proofs.Ytedficnaipiplaa
open Go.RowKit
set_option linter.unusedVariables false

section
variable (n : Int) (b : Bool) (ao : Option Addr) (cap nl : Nat) (Z : List ArcT) (s t H : Int) (lo : Option Addr) (lc ll : Nat) (L : List MoveT)
theorem rmerged_any (w : World) (h : Row encA 4 w ao Z) (hz : Z.length ≤ 4398046511104) (hl : Row encK 3 w lo L) (hok : ∀ x ∈ L, okK x) (hn : L.length ≤ 200) :
    Calls Try.prog 27 #[.agg #[.int .i64 n, .bool b, .slice ao Z.length cap], .int .i64 s, .int .i64 t, .int .i64 H, .slice lo L.length lc] w (MrgRes n Z s t H L w) := by
  by_cases he : askE n Z s t H = 0
  · exact rmerged_ok n b ao cap Z s t H lo lc Z.length L w h hl hok hn rfl he
  · exact rmerged_no n b ao cap Z s t H lo lc L w h (by unfold maxLen; omega) he
theorem rmerged_bad (e0 : Int) (w : World) (h : Row encA 4 w ao Z) (hz : Z.length ≤ 4398046511104) (hl : Row encK 3 w lo L) (hok : ∀ x ∈ L, okK x) (hn : L.length ≤ 200) (hnl : Z.length = nl) (hll : L.length = ll) (he : mvE n Z s t H L = e0) (h0 : e0 ≠ 0) :
    Calls Try.prog 27 #[.agg #[.int .i64 n, .bool b, .slice ao nl cap], .int .i64 s, .int .i64 t, .int .i64 H, .slice lo ll lc] w fun e w' => e = .returned (.tuple #[.slice none 0 0, .int .i64 e0]) ∧ Below w.heap.size w w' := by
  subst hnl hll
  refine (rmerged_any n b ao cap Z s t H lo lc L w h hz hl hok hn).mono ?_
  rintro e w' (⟨h1, _⟩ | ⟨_, h2, h3⟩)
  · exact absurd (he ▸ h1) h0
  · rw [he] at h2; exact ⟨h2, h3⟩
theorem rmerged_good (w : World) (h : Row encA 4 w ao Z) (hz : Z.length ≤ 4398046511104) (hl : Row encK 3 w lo L) (hok : ∀ x ∈ L, okK x) (hn : L.length ≤ 200) (hnl : Z.length = nl) (hll : L.length = ll) (he : mvE n Z s t H L = 0) :
    Calls Try.prog 27 #[.agg #[.int .i64 n, .bool b, .slice ao nl cap], .int .i64 s, .int .i64 t, .int .i64 H, .slice lo ll lc] w fun e w' => ∃ (mo : Option Addr) (mc ml : Nat) (M : List MoveT), e = .returned (.tuple #[.slice mo ml mc, .int .i64 0]) ∧ M.length = ml ∧ Row encK 3 w' mo M ∧ M.Perm (mvs L) ∧ Below w.heap.size w w' := by
  subst hnl hll
  refine (rmerged_any n b ao cap Z s t H lo lc L w h hz hl hok hn).mono ?_
  rintro e w' (⟨_, mo, mc, M, h2, h3, h4, h5⟩ | ⟨h1, _⟩)
  · exact ⟨mo, mc, M.length, M, h2, rfl, h3, h4, h5⟩
  · exact absurd he h1
set_option maxRecDepth 100000 in
set_option maxHeartbeats 4000000 in
theorem rstocks_bad (e0 : Int) (w : World) (h : Row encA 4 w ao Z) (hz : Z.length ≤ 4398046511104) (hl : Row encK 3 w lo L) (hok : ∀ x ∈ L, okK x) (hn : L.length ≤ 200) (hnl : Z.length = nl) (hll : L.length = ll) (he : mvE n Z s t H L = e0) (h0 : e0 ≠ 0) :
    Calls Try.prog 12 #[.agg #[.int .i64 n, .bool b, .slice ao nl cap], .int .i64 s, .int .i64 t, .int .i64 H, .slice lo ll lc] w fun e w' => e = .returned (.tuple #[.slice none 0 0, .int .i64 e0]) ∧ Below w.heap.size w w' := by
  have hb00 := (Below.refl _ w).alloc (Nat.le_refl _) (.cells #[.int .i64 n, .bool b, .slice ao nl cap] 24)
  have hn00 := heap_alloc_new w (.cells #[.int .i64 n, .bool b, .slice ao nl cap] 24)
  have HB := Lib.hid hb00
  have c0 := cell_whole hn00 0
  have c1 := cell_whole hn00 1
  have c2 := cell_whole hn00 2
  have hf1 : (e0 != 0) = true := by simpa using h0
  have hf2 : (e0 == 0) = false := by simpa using h0
  have HCALL := Lib.hid (rmerged_bad n b ao cap nl Z s t H lo lc ll L e0 _ (h.below' hb00) hz (hl.below' hb00) hok hn hnl hll he h0)
  clear h hb00 hn00 hz hl hok hnl hll he h0
  go_enter Try.func12, Try.ntmps12
  go_wp2_with (go_at_call 27; refine HCALL.out.mono ?_; rintro e w2 ⟨rfl, hb2⟩; have HB2 := Lib.hid (HB.out.trans (hb2.mono HB.out.size)); clear hb2)
  go_ret2
  exact ⟨rfl, HB2.out⟩
end
section
variable (b : Bool) (ao : Option Addr) (cap nl : Nat) (Z : List ArcT) (N i j hh : Nat) (lo : Option Addr) (lc ll : Nat) (L : List MoveT)
set_option maxRecDepth 100000 in
set_option maxHeartbeats 8000000 in
theorem rstocks_good (w : World) (h : Row encA 4 w ao Z) (hz : Z.length ≤ 4398046511104) (hl : Row encK 3 w lo L) (hok : ∀ x ∈ L, okK x) (hn : L.length ≤ 200) (hnl : Z.length = nl) (hll : L.length = ll) (he : mvE (N : Int) Z (i : Int) (j : Int) (hh : Int) L = 0) :
    Calls Try.prog 12 #[.agg #[.int .i64 (N : Int), .bool b, .slice ao nl cap], .int .i64 (i : Int), .int .i64 (j : Int), .int .i64 (hh : Int), .slice lo ll lc] w fun e w' => ∃ aa ac, e = .returned (.tuple #[.slice aa (hh + 1) ac, .int .i64 0]) ∧ IRow w' aa ((List.range (hh + 1)).map fun u => rowT Z L N u) ∧ Below w.heap.size w w' := by
  have hb00 := (Below.refl _ w).alloc (Nat.le_refl _) (.cells #[.int .i64 (N : Int), .bool b, .slice ao nl cap] 24)
  have hn00 := heap_alloc_new w (.cells #[.int .i64 (N : Int), .bool b, .slice ao nl cap] 24)
  have HB := Lib.hid hb00
  have HNB := Lib.hid hn00
  have HR := Lib.hid (h.below' hb00)
  have c0 := cell_whole hn00 0
  have c1 := cell_whole hn00 1
  have c2 := cell_whole hn00 2
  have HNL := Lib.hid hnl
  obtain ⟨⟨hiN, hjN, hij⟩, hW, hH, hM⟩ := good_net Z N i j hh L he
  have hN50 := hW.nodes
  have HW := Lib.hid hW
  have HM := Lib.hid hM
  have HCALL := Lib.hid (rmerged_good (N : Int) b ao cap nl Z (i : Int) (j : Int) (hh : Int) lo lc ll L _ (h.below' hb00) hz (hl.below' hb00) hok hn hnl hll he)
  obtain ⟨n1, hn1⟩ : ∃ n1, n1 = hh + 1 := ⟨_, rfl⟩
  have HN1 := Lib.hid hn1
  rw [← hn1]
  clear h hb00 hn00 hz hl hok hnl hll he hW hM hn1
  go_enter Try.func12, Try.ntmps12
  go_wp2_with (go_at_call 27; refine HCALL.out.mono ?_; rintro e w2 ⟨mo, mc, ml, M, rfl, hml, hrow, hperm, hb2⟩; have HML := Lib.hid hml; have HROW := Lib.hid hrow; have HMP := Lib.hid hperm; have HB2 := Lib.hid (HB.out.trans (hb2.mono HB.out.size)); have HN2 := Lib.hid (kept_box HNB.out hb2); have HR2 := Lib.hid (HR.out.below' hb2); clear hb2 hml hrow hperm)
  have hm2 : ml ≤ 200 := by rw [← HML.out, HMP.out.length_eq]; exact Nat.le_trans (mvs_len L) hn
  have HOM : Hid (∀ x ∈ M, okM Z (i : Int) (j : Int) (hh : Int) x = true) := Lib.hid (fun x hx => HM.out x (HMP.out.mem_iff.1 hx))
  clear HCALL c0 c1 c2
  go_loopw [14, 15] (fun ov iv wr => ∃ u : Nat, u ≤ hh + 1 ∧ iv = .int .i64 (u : Int) ∧ Hid (RIw w2 wr ov ((List.range u).map fun u => rowT Z L N u)) ∧ Hid (Below w2.heap.size w2 wr)) (fun _ iv _ => hh + 1 - (intOf iv).toNat)
  case atStart => exact ⟨0, Nat.zero_le _, rfl, Lib.hid ⟨[], OwnL.nil _ _ _, rfl, fun i hi => absurd hi (by simp)⟩, Lib.hid (Below.refl _ _)⟩
  case round =>
    obtain ⟨u, hu, rfl, HRI, HWR⟩ := hrel
    by_cases hlt : u < hh + 1
    · have hli : (u : Int) ≤ (hh : Int) := by omega
      obtain ⟨wo, hwo⟩ : ∃ wo, wo = wr := ⟨_, rfl⟩
      subst hwo
      go_wp2_with fail
      go_loopw [16, 17] (fun rv jv wz => ∃ v : Nat, v ≤ N ∧ jv = .int .i64 (v : Int) ∧ Hid (OwnL encI wz wo.heap.size 3 rv ((List.range v).map fun v => stkN Z L u v)) ∧ Hid (Below wo.heap.size wo wz)) (fun _ jv _ => N - (intOf jv).toNat)
      case atStart => exact ⟨0, Nat.zero_le _, rfl, Lib.hid (OwnL.nil _ _ _), Lib.hid (Below.refl _ _)⟩
      case round =>
        obtain ⟨v, hv, rfl, HO, HWZ⟩ := hrel
        have HB2Z := Lib.hid (HWR.out.trans (HWZ.out.mono HWR.out.size))
        have hbn := kept_box HN2.out HB2Z.out
        have c0 := cell_whole hbn 0
        have c1 := cell_whole hbn 1
        have c2 := cell_whole hbn 2
        by_cases hlv : v < N
        · have hlj : (v : Int) < (N : Int) := by omega
          have HRZ := Lib.hid (HR2.out.below' HB2Z.out)
          have HMZ := Lib.hid (HROW.out.below' HB2Z.out)
          have HSK : Hid (stk Z M (v : Int) (u : Int) = stkN Z L u v) := Lib.hid (stk_of HMP.out (v : Int) (u : Int))
          have HST := Lib.hid (range_step (fun v => stkN Z L u v) v)
          have HAL := Lib.hid (range_lenM (fun v => stkN Z L u v) v)
          obtain ⟨x, hx⟩ : ∃ x, stkN Z L u v = x := ⟨_, rfl⟩
          rw [hx] at HST HSK
          have HX := Lib.hid hx
          generalize (List.range v).map (fun v => stkN Z L u v) = A at *
          clear hx hbn
          go_wp2_with (first
            | (go_at_call 28; refine (rstock14_any (N : Int) b ao nl cap Z (i : Int) (j : Int) hh N mo mc ml M v u _ HRZ.out HNL.out HMZ.out HML.out hm2 HW.out hH HOM.out).mono ?_; rw [HSK.out]; rintro e w5 ⟨rfl, hb5⟩; have HB5 := Lib.hid (HWZ.out.trans (hb5.mono HWZ.out.size)); have HO5 := Lib.hid (HO.out.below hb5); clear hb5)
            | (at_builtin; refine wpList_append_one Try.underlying35 infoInt rfl (by omega) rfl _ _ rfl wo.heap.size _ A x rfl rfl (HO5.out.alloc _) _ 1 rfl (cell_new' (by simp) _ _ 0) (by have := HAL.out; omega) (by have h1 := HB5.out.size; simp; omega) ?_; intro ga ca w8 ho hg hl8 hb8 hlt8; have HO8 := Lib.hid ho; have HG8 := Lib.hid hg; clear ho hg hl8 hb8 hlt8))
          go_roundw
          case rel => exact ⟨v + 1, by omega, by go_num, by rw [HST.out]; exact HO8, Lib.hid (below_grown (HB5.out.alloc HB5.out.size _) (by have h1 := HB5.out.size; simp; omega) HG8.out (fun k e => own_block HO5.out e))⟩
          case measure => simp [intOf]; omega
        · have hlj : ¬ (v : Int) < (N : Int) := by omega
          obtain rfl : v = N := by omega
          have hri := HRI.out.below HWZ.out
          have HRL := Lib.hid hri.lt
          have HRLO := Lib.hid HRI.out.lt
          have HST := Lib.hid (range_step (fun u => rowT Z L v u) u)
          have HAL := Lib.hid (range_lenM (fun u => rowT Z L v u) u)
          generalize (List.range u).map (fun u => rowT Z L v u) = A at *
          obtain ⟨vs, ho8, hv2, hv3⟩ := hri
          have HV := Lib.hid (And.intro hv2 hv3)
          have hvN : vs.length ≤ 200000 := by have := HAL.out; omega
          obtain ⟨la, lc8, hrv, hls⟩ := HO.out.lst
          rw [range_lenM] at hrv
          subst hrv
          have HLS : Hid (Lst encI wr la (rowT Z L v u)) := Lib.hid hls
          have HBL : Hid (∀ ad, la = some ad → wo.heap.size ≤ ad.block) := Lib.hid (fun ad e => by subst e; exact own_block HO.out rfl)
          have HO8 := Lib.hid (ho8.alloc (.cells #[.slice la v lc8] 35))
          clear ho8 hv2 hv3 hls hbn
          go_wp2_with (at_builtin; refine wpList_append_one (enc := encV) Try.underlying27 infoInts rfl (by omega) rfl _ _ rfl w2.heap.size _ vs (.slice la v lc8) rfl rfl HO8.out _ 1 rfl (cell_new' (by simp) _ _ 0) hvN (by have h1 := HB2Z.out.size; simp; omega) ?_; intro g4 cap4 w9 ho9 hg9 hl9 hb9 hlt9; have HO9 := Lib.hid ho9; have HG9 := Lib.hid hg9; have HL9 := Lib.hid hl9; clear ho9 hg9 hl9 hb9 hlt9)
          have ba := (Below.refl wr.heap.size wr).alloc (Nat.le_refl _) (.cells #[.slice la v lc8] 35)
          have HQ : Hid (RIw w2 w9 (.slice (some ⟨g4, 0, none⟩) (vs.length + 1) cap4) ((List.range (u + 1)).map fun u => rowT Z L v u)) := Lib.hid (by
            rw [HST.out]
            have hrl := rowT_len Z L v u
            refine RIw.push (w := wr.alloc (.cells #[.slice la v lc8] 35)) (c := lc8) (a := la) (g := rowT Z L v u) HV.out.1 (fun i hi => ?_) (HLS.out.below ba) (fun ad e h0 e2 => ?_) (by rw [hrl]; exact HO9.out) HG9.out HL9.out
            · obtain ⟨ao', c', q1, q2, q3⟩ := HV.out.2 i hi
              exact ⟨ao', c', q1, q2.below ba, q3⟩
            · have q1 := HBL.out ad e
              have q2 := HRLO.out _ e2.symm
              omega)
          have HWQ : Hid (Below w2.heap.size w2 w9) := Lib.hid (by
            have h1 := HB2Z.out.size
            exact below_grown (HB2Z.out.alloc h1 _) (by simp; omega) HG9.out (fun k e => own_block HO8.out e))
          go_roundw
          case rel => exact ⟨u + 1, by omega, by go_num, HQ, HWQ⟩
          case measure => simp [intOf]; omega
    · have hli : ¬ (u : Int) ≤ (hh : Int) := by omega
      obtain rfl : u = hh + 1 := by omega
      obtain ⟨aa, ac, hv, hls⟩ := HRI.out.row
      rw [range_lenM, ← HN1.out] at hv
      rw [← HN1.out] at hls
      subst hv
      have HLS := Lib.hid hls
      clear hls
      go_wp2
      go_ret2
      exact ⟨aa, ⟨ac, rfl⟩, HLS.out, HB2.out.trans (HWR.out.mono HB2.out.size)⟩
end
end Go.Proofs.Ytedficnaipiplaa
