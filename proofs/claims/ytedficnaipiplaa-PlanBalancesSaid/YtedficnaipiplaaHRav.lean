/- The document's answer: what has arrived; and what both tell of stocks, of any movements. -/
import Derived.Test.YtedficnaipiplaaHRar
namespace Go.Proofs.Ytedficnaipiplaa
open Go.RowKit
set_option linter.unusedVariables false

theorem stoV_good {N i j hh : Nat} {Z : List ArcT} {L : List MoveT} (h : mvE (N : Int) Z (i : Int) (j : Int) (hh : Int) L = 0) : stoV (N : Int) Z (i : Int) (j : Int) (hh : Int) L = (List.range (hh + 1)).map fun u => rowT Z L N u := by
  unfold stoV
  rw [if_pos h]
  rfl
theorem stoV_bad {n : Int} {Z : List ArcT} {s t H : Int} {L : List MoveT} (h : mvE n Z s t H L ≠ 0) : stoV n Z s t H L = [] := by unfold stoV; rw [if_neg h]
theorem IRow.nil (w : World) (ga : Option Addr) : IRow w ga [] := fun i hi => absurd hi (by simp)
section
variable (n : Int) (b : Bool) (ao : Option Addr) (cap nl : Nat) (Z : List ArcT) (s t H : Int) (lo : Option Addr) (lc ll : Nat) (L : List MoveT)
/-- What is told of stocks. -/
def StoRes (w : World) (e : Ending) (w' : World) : Prop := ∃ aa al ac, e = .returned (.tuple #[.slice aa al ac, .int .i64 (mvE n Z s t H L)]) ∧ (stoV n Z s t H L).length = al ∧ IRow w' aa (stoV n Z s t H L) ∧ Below w.heap.size w w'
theorem nstocks_any (w : World) (h : Row encA 4 w ao Z) (hz : Z.length ≤ 4398046511104) (hl : Row encK 3 w lo L) (hok : ∀ x ∈ L, okK x) (hn : L.length ≤ 200) (hnl : Z.length = nl) (hll : L.length = ll) :
    Calls Try.prog 11 #[.agg #[.int .i64 n, .bool b, .slice ao nl cap], .int .i64 s, .int .i64 t, .int .i64 H, .slice lo ll lc] w (StoRes n Z s t H L w) := by
  by_cases he : mvE n Z s t H L = 0
  · obtain ⟨N, i, j, hh, rfl, rfl, rfl, rfl⟩ := good_nat he
    refine (nstocks_good b ao cap nl Z N i j hh lo lc ll L w h hz hl hok hn hnl hll he).mono ?_
    rintro e w' ⟨aa, ac, rfl, hr, hb⟩
    exact ⟨aa, hh + 1, ac, by rw [he], by rw [stoV_good he, range_lenM], by rw [stoV_good he]; exact hr, hb⟩
  · refine (nstocks_bad n b ao cap nl Z s t H lo lc ll L _ w h hz hl hok hn hnl hll rfl he).mono ?_
    rintro e w' ⟨rfl, hb⟩
    exact ⟨_, _, _, rfl, by rw [stoV_bad he]; rfl, by rw [stoV_bad he]; exact IRow.nil _ _, hb⟩
theorem rstocks_any (w : World) (h : Row encA 4 w ao Z) (hz : Z.length ≤ 4398046511104) (hl : Row encK 3 w lo L) (hok : ∀ x ∈ L, okK x) (hn : L.length ≤ 200) (hnl : Z.length = nl) (hll : L.length = ll) :
    Calls Try.prog 12 #[.agg #[.int .i64 n, .bool b, .slice ao nl cap], .int .i64 s, .int .i64 t, .int .i64 H, .slice lo ll lc] w (StoRes n Z s t H L w) := by
  by_cases he : mvE n Z s t H L = 0
  · obtain ⟨N, i, j, hh, rfl, rfl, rfl, rfl⟩ := good_nat he
    refine (rstocks_good b ao cap nl Z N i j hh lo lc ll L w h hz hl hok hn hnl hll he).mono ?_
    rintro e w' ⟨aa, ac, rfl, hr, hb⟩
    exact ⟨aa, hh + 1, ac, by rw [he], by rw [stoV_good he, range_lenM], by rw [stoV_good he]; exact hr, hb⟩
  · refine (rstocks_bad n b ao cap nl Z s t H lo lc ll L _ w h hz hl hok hn hnl hll rfl he).mono ?_
    rintro e w' ⟨rfl, hb⟩
    exact ⟨_, _, _, rfl, by rw [stoV_bad he]; rfl, by rw [stoV_bad he]; exact IRow.nil _ _, hb⟩
set_option maxRecDepth 100000 in
set_option maxHeartbeats 4000000 in
theorem rarr_bad (e0 : Int) (w : World) (h : Row encA 4 w ao Z) (hz : Z.length ≤ 4398046511104) (hl : Row encK 3 w lo L) (hok : ∀ x ∈ L, okK x) (hn : L.length ≤ 200) (hnl : Z.length = nl) (hll : L.length = ll) (he : plnE n Z s t H b L = e0) (h0 : e0 ≠ 0) :
    Calls Try.prog 17 #[.agg #[.int .i64 n, .bool b, .slice ao nl cap], .int .i64 s, .int .i64 t, .int .i64 H, .slice lo ll lc] w fun e w' => e = .returned (.tuple #[.slice none 0 0, .int .i64 e0]) ∧ Below w.heap.size w w' := by
  have hb00 := (Below.refl _ w).alloc (Nat.le_refl _) (.cells #[.int .i64 n, .bool b, .slice ao nl cap] 24)
  have hn00 := heap_alloc_new w (.cells #[.int .i64 n, .bool b, .slice ao nl cap] 24)
  have HB := Lib.hid hb00
  have c0 := cell_whole hn00 0
  have c1 := cell_whole hn00 1
  have c2 := cell_whole hn00 2
  have hf1 : (e0 != 0) = true := by simpa using h0
  have hf2 : (e0 == 0) = false := by simpa using h0
  have HCALL := Lib.hid (rchk14_is n b ao cap nl Z s t H lo lc ll L _ e0 _ (h.below' hb00) hz (hl.below' hb00) hok hn hnl hll rfl he)
  generalize plnV n Z s t H b L = v0 at *
  clear h hb00 hn00 hz hl hok hnl hll he h0
  go_enter Try.func17, Try.ntmps17
  go_wp2_with (go_at_call 15; refine HCALL.out.mono ?_; rintro e w2 ⟨rfl, hb2⟩; have HB2 := Lib.hid (HB.out.trans (hb2.mono HB.out.size)); clear hb2)
  go_ret2
  exact ⟨rfl, HB2.out⟩
end
section
variable (b : Bool) (ao : Option Addr) (cap nl : Nat) (Z : List ArcT) (N i j hh : Nat) (lo : Option Addr) (lc ll : Nat) (L : List MoveT)
set_option maxRecDepth 100000 in
set_option maxHeartbeats 8000000 in
theorem rarr_yes (w : World) (h : Row encA 4 w ao Z) (hz : Z.length ≤ 4398046511104) (hl : Row encK 3 w lo L) (hok : ∀ x ∈ L, okK x) (hn : L.length ≤ 200) (hnl : Z.length = nl) (hll : L.length = ll) (he : mvE (N : Int) Z (i : Int) (j : Int) (hh : Int) L = 0) (hp : planB Z L N i j hh b = true) :
    Calls Try.prog 17 #[.agg #[.int .i64 (N : Int), .bool b, .slice ao nl cap], .int .i64 (i : Int), .int .i64 (j : Int), .int .i64 (hh : Int), .slice lo ll lc] w fun e w' => ∃ aa ac, e = .returned (.tuple #[.slice aa (hh + 1) ac, .int .i64 0]) ∧ Lst encI w' aa ((List.range (hh + 1)).map fun u => stkN Z L u j) ∧ Below w.heap.size w w' := by
  have hb00 := (Below.refl _ w).alloc (Nat.le_refl _) (.cells #[.int .i64 (N : Int), .bool b, .slice ao nl cap] 24)
  have hn00 := heap_alloc_new w (.cells #[.int .i64 (N : Int), .bool b, .slice ao nl cap] 24)
  have HB := Lib.hid hb00
  have HNB := Lib.hid hn00
  have HR := Lib.hid (h.below' hb00)
  have HL := Lib.hid (hl.below' hb00)
  have c0 := cell_whole hn00 0
  have c1 := cell_whole hn00 1
  have c2 := cell_whole hn00 2
  obtain ⟨⟨hiN, hjN, hij⟩, hW, hH, hM⟩ := good_net Z N i j hh L he
  have hpe : plnE (N : Int) Z (i : Int) (j : Int) (hh : Int) b L = 0 := by rw [plnE_good he, hp]; rfl
  have HCALL := Lib.hid (rchk14_is (N : Int) b ao cap nl Z (i : Int) (j : Int) (hh : Int) lo lc ll L _ 0 _ (h.below' hb00) hz (hl.below' hb00) hok hn hnl hll rfl hpe)
  have HSTO := Lib.hid (fun W hr hm => rstocks_good b ao cap nl Z N i j hh lo lc ll L W hr hz hm hok hn hnl hll he)
  generalize plnV (N : Int) Z (i : Int) (j : Int) (hh : Int) b L = v0 at *
  obtain ⟨n1, hn1⟩ : ∃ n1, n1 = hh + 1 := ⟨_, rfl⟩
  have HN1 := Lib.hid hn1
  rw [← hn1]
  clear h hb00 hn00 hz hl hok hnl hll he hp hpe hW hM hn1
  go_enter Try.func17, Try.ntmps17
  go_wp2_with (first
    | (go_at_call 15; refine HCALL.out.mono ?_; rintro e w2 ⟨rfl, hb2⟩; have HB2 := Lib.hid (HB.out.trans (hb2.mono HB.out.size)); have hn2 := kept_box HNB.out hb2; have HR2 := Lib.hid (HR.out.below' hb2); have HL2 := Lib.hid (HL.out.below' hb2); have z0 := cell_whole hn2 0; have z1 := cell_whole hn2 1; have z2 := cell_whole hn2 2; clear hb2 hn2)
    | (go_at_call 12; refine (HSTO.out _ HR2.out HL2.out).mono ?_; rintro e w4 ⟨sa, sc, rfl, hls, hb4⟩; have HLS := Lib.hid hls; have HB4 := Lib.hid (HB2.out.trans (hb4.mono HB2.out.size)); clear hb4 hls))
  have HGET : Hid (∀ u, u < hh + 1 → ∃ g2 o2 a2 x2 k2, sa = some ⟨g2, o2, none⟩ ∧ w4.cell? ⟨g2, o2 + u, none⟩ = some (.slice (some ⟨a2, x2, none⟩) N k2) ∧ w4.cell? ⟨a2, x2 + j, none⟩ = some (.int .i64 (stkN Z L u j))) := Lib.hid (fun u hu => by
    obtain ⟨g2, o2, a2, x2, q2, k2, e1, e2, e3, e4⟩ := irow_num HLS.out (i := u) (v := j) (g := rowT Z L N u) (x := stkN Z L u j) (by rw [List.getElem?_map, List.getElem?_range hu]; rfl) (by unfold rowT; rw [List.getElem?_map, List.getElem?_range hjN]; rfl)
    exact ⟨g2, o2, a2, x2, k2, e1, by rw [e2, e3, rowT_len], e4⟩)
  clear HCALL HSTO c0 c1 c2 z0 z1 z2
  go_loopw [16, 17] (fun av iv wr => ∃ u : Nat, u ≤ hh + 1 ∧ iv = .int .i64 (u : Int) ∧ Hid (OwnL encI wr w4.heap.size 3 av ((List.range u).map fun u => stkN Z L u j)) ∧ Hid (Below w4.heap.size w4 wr)) (fun _ iv _ => hh + 1 - (intOf iv).toNat)
  case atStart => exact ⟨0, Nat.zero_le _, rfl, Lib.hid (OwnL.nil _ _ _), Lib.hid (Below.refl _ _)⟩
  case round =>
    obtain ⟨u, hu, rfl, HO, HW4⟩ := hrel
    by_cases hlt : u < hh + 1
    · have hli : (u : Int) ≤ (hh : Int) := by omega
      have hli2 : (u : Int) < (hh : Int) + 1 := by omega
      have hji : (j : Int) < (N : Int) := by omega
      obtain ⟨g2, o2, a2, x2, k2, e1, e2, e4⟩ := HGET.out u hlt
      subst e1
      have d1 := cell_below' HW4.out e2 (block_lt_of_cell e2)
      have d2 := cell_below' HW4.out e4 (block_lt_of_cell e4)
      obtain ⟨x, hx⟩ : ∃ x, stkN Z L u j = x := ⟨_, rfl⟩
      have HST := Lib.hid (range_step (fun u => stkN Z L u j) u)
      have HAL := Lib.hid (range_lenM (fun u => stkN Z L u j) u)
      rw [hx] at HST d2
      generalize (List.range u).map (fun u => stkN Z L u j) = A at *
      clear hx e2 e4
      go_wp2_with (at_builtin; refine wpList_append_one Try.underlying35 infoInt rfl (by omega) rfl _ _ rfl w4.heap.size _ A x rfl rfl (HO.out.alloc _) _ 1 rfl (cell_new' (by simp) _ _ 0) (by have := HAL.out; omega) (by have h1 := HW4.out.size; simp; omega) ?_; intro ga ca w8 ho hg hl8 hb8 hlt8; have HO8 := Lib.hid ho; have HG8 := Lib.hid hg; clear ho hg hl8 hb8 hlt8)
      go_roundw
      case rel => exact ⟨u + 1, by omega, by go_num, by rw [HST.out]; exact HO8, Lib.hid (below_grown (HW4.out.alloc HW4.out.size _) (by have h1 := HW4.out.size; simp; omega) HG8.out (fun k e => own_block HO.out e))⟩
      case measure => simp [intOf]; omega
    · have hli : ¬ (u : Int) ≤ (hh : Int) := by omega
      obtain rfl : u = hh + 1 := by omega
      obtain ⟨aa, ac, hv, hls⟩ := HO.out.lst
      rw [range_lenM, ← HN1.out] at hv
      rw [← HN1.out] at hls
      subst hv
      have HLA := Lib.hid hls
      clear hls
      go_wp2
      go_ret2
      exact ⟨aa, ⟨ac, rfl⟩, HLA.out, HB4.out.trans (HW4.out.mono HB4.out.size)⟩
end
section
variable (n : Int) (b : Bool) (ao : Option Addr) (cap nl : Nat) (Z : List ArcT) (s t H : Int) (lo : Option Addr) (lc ll : Nat) (L : List MoveT)
theorem rarr14_any (w : World) (h : Row encA 4 w ao Z) (hz : Z.length ≤ 4398046511104) (hl : Row encK 3 w lo L) (hok : ∀ x ∈ L, okK x) (hn : L.length ≤ 200) (hnl : Z.length = nl) (hll : L.length = ll) :
    Calls Try.prog 17 #[.agg #[.int .i64 n, .bool b, .slice ao nl cap], .int .i64 s, .int .i64 t, .int .i64 H, .slice lo ll lc] w fun e w' => ∃ aa al ac, e = .returned (.tuple #[.slice aa al ac, .int .i64 (plnE n Z s t H b L)]) ∧ (arrV n Z s t H b L).length = al ∧ Lst encI w' aa (arrV n Z s t H b L) ∧ Below w.heap.size w w' := by
  by_cases h0 : plnE n Z s t H b L = 0
  · have hm : mvE n Z s t H L = 0 := by
      by_cases hm : mvE n Z s t H L = 0
      · exact hm
      · rw [plnE_bad hm] at h0; exact absurd h0 hm
    obtain ⟨N, i, j, hh, rfl, rfl, rfl, rfl⟩ := good_nat hm
    have hp : planB Z L N i j hh b = true := by
      rw [plnE_good hm] at h0
      cases hq : planB Z L N i j hh b with
      | true => rfl
      | false => rw [hq] at h0; simp at h0
    have h2 : arrV (N : Int) Z (i : Int) (j : Int) (hh : Int) b L = (List.range (hh + 1)).map fun u => stkN Z L u j := by unfold arrV; rw [if_pos h0]; rfl
    refine (rarr_yes b ao cap nl Z N i j hh lo lc ll L w h hz hl hok hn hnl hll hm hp).mono ?_
    rintro e w' ⟨aa, ac, rfl, hr, hb⟩
    rw [h0, h2]
    exact ⟨aa, _, ac, rfl, range_lenM _ _, hr, hb⟩
  · have h2 : arrV n Z s t H b L = [] := by unfold arrV; rw [if_neg h0]
    refine (rarr_bad n b ao cap nl Z s t H lo lc ll L _ w h hz hl hok hn hnl hll rfl h0).mono ?_
    rintro e w' ⟨rfl, hb⟩
    rw [h2]
    exact ⟨_, _, _, rfl, rfl, Lst.nil _ _, hb⟩
end
end Go.Proofs.Ytedficnaipiplaa
