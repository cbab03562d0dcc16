/- What package plan's Still, Arrived and Check tell of any movements. -/
import Derived.Test.YtbkmfjegbmjknaaHArr
namespace Go.Proofs.Ytbkmfjegbmjknaa
open Go.RowKit
set_option linter.unusedVariables false

theorem plnV_is {n : Int} {Z : List ArcT} {s t H : Int} {hold : Bool} {L : List MoveT} (h : plnE n Z s t H hold L ≠ 0) : plnV n Z s t H hold L = 0 := by unfold plnV; rw [if_neg h]
theorem good_nat {n : Int} {Z : List ArcT} {s t H : Int} {L : List MoveT} (h : mvE n Z s t H L = 0) : ∃ N i j hh : Nat, n = (N : Int) ∧ s = (i : Int) ∧ t = (j : Int) ∧ H = (hh : Int) := by
  obtain ⟨h1, _, _⟩ := mvE_ok.1 h
  obtain ⟨N, i, j, e1, e2, e3, _, _, _, _, h4, _⟩ := ask_net h1
  exact ⟨N, i, j, H.toNat, e1, e2, e3, by omega⟩
section
variable (n : Int) (b : Bool) (ao : Option Addr) (cap nl : Nat) (Z : List ArcT) (s t H : Int) (lo : Option Addr) (lc ll : Nat) (L : List MoveT)
theorem narrived_any (w : World) (h : Row encA 4 w ao Z) (hz : Z.length ≤ 4398046511104) (hl : Row encK 3 w lo L) (hok : ∀ x ∈ L, okK x) (hn : L.length ≤ 200) (hnl : Z.length = nl) (hll : L.length = ll) :
    Calls Try.prog 71 #[.agg #[.int .i64 n, .bool b, .slice ao nl cap], .int .i64 s, .int .i64 t, .int .i64 H, .slice lo ll lc] w fun e w' => ∃ aa al ac, e = .returned (.tuple #[.slice aa al ac, .int .i64 (plnE n Z s t H b L)]) ∧ (arrV n Z s t H b L).length = al ∧ Lst encI w' aa (arrV n Z s t H b L) ∧ Below w.heap.size w w' := by
  by_cases he : mvE n Z s t H L = 0
  · obtain ⟨N, i, j, hh, rfl, rfl, rfl, rfl⟩ := good_nat he
    cases hp : planB Z L N i j hh b with
    | false =>
      have h1 : plnE (N : Int) Z (i : Int) (j : Int) (hh : Int) b L = 141 := by rw [plnE_good he, hp]; rfl
      have h2 : arrV (N : Int) Z (i : Int) (j : Int) (hh : Int) b L = [] := by unfold arrV; rw [h1]; rfl
      refine (narrived_no b ao cap nl Z N i j hh lo lc ll L w h hz hl hok hn hnl hll he hp).mono ?_
      rintro e w' ⟨rfl, hb⟩
      rw [h1, h2]
      exact ⟨_, _, _, rfl, rfl, Lst.nil _ _, hb⟩
    | true =>
      have h1 : plnE (N : Int) Z (i : Int) (j : Int) (hh : Int) b L = 0 := by rw [plnE_good he, hp]; rfl
      have h2 : arrV (N : Int) Z (i : Int) (j : Int) (hh : Int) b L = (List.range (hh + 1)).map fun u => stkN Z L u j := by unfold arrV; rw [if_pos h1]; rfl
      refine (narrived_yes b ao cap nl Z N i j hh lo lc ll L w h hz hl hok hn hnl hll he hp).mono ?_
      rintro e w' ⟨aa, ac, rfl, hr, hb⟩
      rw [h1, h2]
      exact ⟨aa, _, ac, rfl, range_lenM _ _, hr, hb⟩
  · have h1 := plnE_bad (hold := b) he
    have h2 : arrV n Z s t H b L = [] := by unfold arrV; rw [if_neg (by rw [h1]; exact he)]
    refine (narrived_bad n b ao cap nl Z s t H lo lc ll L _ w h hz hl hok hn hnl hll rfl he).mono ?_
    rintro e w' ⟨rfl, hb⟩
    rw [h1, h2]
    exact ⟨_, _, _, rfl, rfl, Lst.nil _ _, hb⟩
set_option maxRecDepth 100000 in
set_option maxHeartbeats 4000000 in
theorem nchk14_any (w : World) (h : Row encA 4 w ao Z) (hz : Z.length ≤ 4398046511104) (hl : Row encK 3 w lo L) (hok : ∀ x ∈ L, okK x) (hn : L.length ≤ 200) (hnl : Z.length = nl) (hll : L.length = ll) :
    Calls Try.prog 47 #[.agg #[.int .i64 n, .bool b, .slice ao nl cap], .int .i64 s, .int .i64 t, .int .i64 H, .slice lo ll lc] w fun e w' => e = .returned (.tuple #[.int .i64 (plnV n Z s t H b L), .int .i64 (plnE n Z s t H b L)]) ∧ Below w.heap.size w w' := by
  have hb00 := (Below.refl _ w).alloc (Nat.le_refl _) (.cells #[.int .i64 n, .bool b, .slice ao nl cap] 24)
  have hn00 := heap_alloc_new w (.cells #[.int .i64 n, .bool b, .slice ao nl cap] 24)
  have HB := Lib.hid hb00
  have c0 := cell_whole hn00 0
  have c1 := cell_whole hn00 1
  have c2 := cell_whole hn00 2
  have HCALL := Lib.hid (narrived_any n b ao cap nl Z s t H lo lc ll L _ (h.below' hb00) hz (hl.below' hb00) hok hn hnl hll)
  have HVZ : Hid (plnE n Z s t H b L ≠ 0 → plnV n Z s t H b L = 0) := Lib.hid plnV_is
  have HVG : Hid (plnE n Z s t H b L = 0 → ∃ hh : Nat, H = (hh : Int) ∧ hh ≤ 1024 ∧ (arrV n Z s t H b L)[hh]? = some (plnV n Z s t H b L)) := Lib.hid (fun he => by
    have hm : mvE n Z s t H L = 0 := by
      by_cases hm : mvE n Z s t H L = 0
      · exact hm
      · rw [plnE_bad hm] at he; exact absurd he hm
    obtain ⟨N, i, j, hh, rfl, rfl, rfl, rfl⟩ := good_nat hm
    refine ⟨hh, rfl, (good_net Z N i j hh L hm).2.2.1, ?_⟩
    unfold arrV plnV
    rw [if_pos he, if_pos he, List.getElem?_map, List.getElem?_range (by rw [Int.toNat_natCast]; omega)]
    rfl)
  obtain ⟨e0, he0⟩ : ∃ e0, plnE n Z s t H b L = e0 := ⟨_, rfl⟩
  obtain ⟨v0, hv0⟩ : ∃ v0, plnV n Z s t H b L = v0 := ⟨_, rfl⟩
  rw [he0] at HCALL HVZ HVG ⊢
  rw [hv0] at HVZ HVG ⊢
  generalize arrV n Z s t H b L = A at *
  clear h hb00 hn00 hz hl hok hnl hll he0 hv0
  by_cases h0 : e0 = 0
  · subst h0
    obtain ⟨hh, rfl, hh2, hat⟩ := HVG.out rfl
    have HAT := Lib.hid hat
    have hlt := (List.getElem?_eq_some_iff.1 hat).1
    have HLT := Lib.hid hlt
    clear hat hlt
    go_enter Try.func47, Try.ntmps47
    go_wp2_with (go_at_call 71; refine HCALL.out.mono ?_; rintro e w2 ⟨aa, al, ac, rfl, hal, hls, hb2⟩; have HB2 := Lib.hid (HB.out.trans (hb2.mono HB.out.size)); obtain ⟨ab, ax, e1, _, a0⟩ := lst_cell hls HAT.out; subst e1; unfold encI at a0; have hli : (hh : Int) < (al : Int) := (by have := HLT.out; omega); clear hb2 hal hls)
    go_ret2
    exact ⟨rfl, HB2.out⟩
  · have hf1 : (e0 != 0) = true := by simpa using h0
    have hf2 : (e0 == 0) = false := by simpa using h0
    have HV0 := Lib.hid (HVZ.out h0)
    clear h0
    go_enter Try.func47, Try.ntmps47
    go_wp2_with (go_at_call 71; refine HCALL.out.mono ?_; rintro e w2 ⟨aa, al, ac, rfl, hal, hls, hb2⟩; have HB2 := Lib.hid (HB.out.trans (hb2.mono HB.out.size)); clear hb2 hal hls)
    go_ret2
    exact ⟨by rw [HV0.out]; rfl, HB2.out⟩
end
end Go.Proofs.Ytbkmfjegbmjknaa
