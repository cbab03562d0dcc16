/- What package plan tells of movements that may not be; of those that may be: the course, its stocks, and whether they are a plan's. -/
import Derived.Test.YtbkmfjegbmjknaaHIrw
namespace Go.Proofs.Ytbkmfjegbmjknaa
open Go.RowKit
set_option linter.unusedVariables false

/-- What is told of stocks, of what has arrived, and of who waits. -/
def stoV (n : Int) (Z : List ArcT) (s t H : Int) (L : List MoveT) : List (List Int) := if mvE n Z s t H L = 0 then (List.range (H.toNat + 1)).map fun u => (List.range n.toNat).map fun v => stkN Z L u v else []
def arrV (n : Int) (Z : List ArcT) (s t H : Int) (hold : Bool) (L : List MoveT) : List Int := if plnE n Z s t H hold L = 0 then (List.range (H.toNat + 1)).map fun u => stkN Z L u t.toNat else []
def stiV (n : Int) (Z : List ArcT) (s t H : Int) (L : List MoveT) : Bool := decide (plnE n Z s t H true L = 0) && decide (plnE n Z s t H false L = 0)
theorem plnE_bad {n : Int} {Z : List ArcT} {s t H : Int} {hold : Bool} {L : List MoveT} (h : mvE n Z s t H L ≠ 0) : plnE n Z s t H hold L = mvE n Z s t H L := by unfold plnE; rw [if_neg h]
theorem plnE_good {N i j hh : Nat} {Z : List ArcT} {hold : Bool} {L : List MoveT} (h : mvE (N : Int) Z (i : Int) (j : Int) (hh : Int) L = 0) : plnE (N : Int) Z (i : Int) (j : Int) (hh : Int) hold L = if planB Z L N i j hh hold = true then 0 else 141 := by
  unfold plnE
  rw [if_pos h]
  rfl
section
variable (n : Int) (b : Bool) (ao : Option Addr) (cap nl : Nat) (Z : List ArcT) (s t H : Int) (lo : Option Addr) (lc ll : Nat) (L : List MoveT)
theorem nfollow_any (w : World) (h : Row encA 4 w ao Z) (hz : Z.length ≤ 4398046511104) (hl : Row encK 3 w lo L) (hok : ∀ x ∈ L, okK x) (hn : L.length ≤ 200) :
    Calls Try.prog 78 #[.agg #[.int .i64 n, .bool b, .slice ao Z.length cap], .int .i64 s, .int .i64 t, .int .i64 H, .slice lo L.length lc] w (FolRes n b ao cap Z s t H L w) := by
  by_cases he : askE n Z s t H = 0
  · exact nfollow_ok n b ao cap Z s t H lo lc Z.length L w h hl hok hn rfl he
  · exact nfollow_no n b ao cap Z s t H lo lc L w h hz he
theorem nfollow_bad (e0 : Int) (w : World) (h : Row encA 4 w ao Z) (hz : Z.length ≤ 4398046511104) (hl : Row encK 3 w lo L) (hok : ∀ x ∈ L, okK x) (hn : L.length ≤ 200) (hnl : Z.length = nl) (hll : L.length = ll) (he : mvE n Z s t H L = e0) (h0 : e0 ≠ 0) :
    Calls Try.prog 78 #[.agg #[.int .i64 n, .bool b, .slice ao nl cap], .int .i64 s, .int .i64 t, .int .i64 H, .slice lo ll lc] w fun e w' => e = .returned (.tuple #[crs0, .int .i64 e0]) ∧ Below w.heap.size w w' := by
  subst hnl hll
  refine (nfollow_any n b ao cap Z s t H lo lc L w h hz hl hok hn).mono ?_
  rintro e w' (⟨h1, _⟩ | ⟨_, h2, h3⟩)
  · exact absurd (he ▸ h1) h0
  · rw [he] at h2; exact ⟨h2, h3⟩
theorem nfollow_good (w : World) (h : Row encA 4 w ao Z) (hz : Z.length ≤ 4398046511104) (hl : Row encK 3 w lo L) (hok : ∀ x ∈ L, okK x) (hn : L.length ≤ 200) (hnl : Z.length = nl) (hll : L.length = ll) (he : mvE n Z s t H L = 0) :
    Calls Try.prog 78 #[.agg #[.int .i64 n, .bool b, .slice ao nl cap], .int .i64 s, .int .i64 t, .int .i64 H, .slice lo ll lc] w fun e w' => ∃ bm m, e = .returned (.tuple #[crsV n b ao nl cap s t H bm, .int .i64 0]) ∧ w.heap.size ≤ bm ∧ AmtIs w' bm m (nOf (mvs L)) ∧ Below w.heap.size w w' := by
  subst hnl hll
  refine (nfollow_any n b ao cap Z s t H lo lc L w h hz hl hok hn).mono ?_
  rintro e w' (⟨_, h2⟩ | ⟨h1, _⟩)
  · exact h2
  · exact absurd he h1
end
section
variable (b : Bool) (ao : Option Addr) (cap nl : Nat) (Z : List ArcT) (N i j hh : Nat) (L : List MoveT)
theorem good_net (h : mvE (N : Int) Z (i : Int) (j : Int) (hh : Int) L = 0) : (i < N ∧ j < N ∧ i ≠ j) ∧ SpanNet Z N ∧ hh ≤ 1024 ∧ ∀ x ∈ mvs L, okM Z (i : Int) (j : Int) (hh : Int) x = true := by
  obtain ⟨h1, _, h3⟩ := mvE_ok.1 h
  obtain ⟨N', i', j', e1, e2, e3, g1, g2, g3, hW, _, g4⟩ := ask_net h1
  obtain rfl : N = N' := by omega
  obtain rfl : i = i' := by omega
  obtain rfl : j = j' := by omega
  exact ⟨⟨g1, g2, g3⟩, hW, by omega, h3⟩
theorem ncstocks_good (bm m : Nat) (w : World) (h : Row encA 4 w ao Z) (hnl : Z.length = nl) (he : mvE (N : Int) Z (i : Int) (j : Int) (hh : Int) L = 0) (hA : AmtIs w bm m (nOf (mvs L))) :
    Calls Try.prog 79 #[crsV (N : Int) b ao nl cap (i : Int) (j : Int) (hh : Int) bm] w fun e w' => ∃ g, e = .returned (.slice (some ⟨g, 0, none⟩) (hh + 1) (hh + 1)) ∧ w.heap.size ≤ g ∧ GridW w' g (hh + 1) (stkN Z L) ∧ Below w.heap.size w w' := by
  obtain ⟨_, hW, hH, hM⟩ := good_net Z N i j hh L he
  have hf := nOf_bd (c := 1048576) (by omega) (mvs_nodup L) (fun x hx => by
    obtain ⟨h1, h2, _, _, h5, h6, _⟩ := okM_yes.1 (hM x hx)
    refine ⟨h5, Int.le_trans h6 ?_⟩
    obtain ⟨p, hp⟩ : ∃ p : Nat, x.1 = (p : Int) := ⟨x.1.toNat, by omega⟩
    have hpl : p < Z.length := by omega
    rw [hp, arcI_at hpl]
    exact (hW.caps _ (List.getElem_mem hpl)).2)
  refine (ncstocks_any (N : Int) b ao nl cap Z (i : Int) (j : Int) bm N hh m (nOf (mvs L)) w h hnl hW hH hA hf).mono ?_
  rintro e w' ⟨g, rfl, h1, h2, h3⟩
  refine ⟨g, rfl, h1, h2.congr (fun a v _ _ => ?_), h3⟩
  have := allC_stk (H := hh) (s := (i : Int)) (t := (j : Int)) hW a v hM
  unfold allC at this
  rw [hnl] at this
  rw [this, stk_merged]
  rfl
theorem nisplan_good (bm g : Nat) (hold : Bool) (w : World) (he : mvE (N : Int) Z (i : Int) (j : Int) (hh : Int) L = 0) (hg : GridW w g (hh + 1) (stkN Z L)) :
    Calls Try.prog 94 #[crsV (N : Int) b ao nl cap (i : Int) (j : Int) (hh : Int) bm, .slice (some ⟨g, 0, none⟩) (hh + 1) (hh + 1), .bool hold] w fun e w' => e = .returned (.bool (planB Z L N i j hh hold)) ∧ Below w.heap.size w w' := by
  obtain ⟨_, hW, hH, hM⟩ := good_net Z N i j hh L he
  have h1 := nisplan_any (N : Int) b ao nl cap bm i j hh g hold (stkN Z L) w hg hH
  rw [plan_same (L := L) hW hM (fun a v _ => by unfold stkN; rw [stk_merged]) (fun v u => stk_merged Z L v u)] at h1
  exact h1
end
section
variable (n : Int) (b : Bool) (ao : Option Addr) (cap nl : Nat) (Z : List ArcT) (s t H : Int) (lo : Option Addr) (lc ll : Nat) (L : List MoveT)
set_option maxRecDepth 100000 in
set_option maxHeartbeats 4000000 in
theorem nstocks_bad (e0 : Int) (w : World) (h : Row encA 4 w ao Z) (hz : Z.length ≤ 4398046511104) (hl : Row encK 3 w lo L) (hok : ∀ x ∈ L, okK x) (hn : L.length ≤ 200) (hnl : Z.length = nl) (hll : L.length = ll) (he : mvE n Z s t H L = e0) (h0 : e0 ≠ 0) :
    Calls Try.prog 49 #[.agg #[.int .i64 n, .bool b, .slice ao nl cap], .int .i64 s, .int .i64 t, .int .i64 H, .slice lo ll lc] w fun e w' => e = .returned (.tuple #[.slice none 0 0, .int .i64 e0]) ∧ Below w.heap.size w w' := by
  have hb00 := (Below.refl _ w).alloc (Nat.le_refl _) (.cells #[.int .i64 n, .bool b, .slice ao nl cap] 24)
  have hn00 := heap_alloc_new w (.cells #[.int .i64 n, .bool b, .slice ao nl cap] 24)
  have HB := Lib.hid hb00
  have HR := Lib.hid (h.below' hb00)
  have HL := Lib.hid (hl.below' hb00)
  have c0 := cell_whole hn00 0
  have c1 := cell_whole hn00 1
  have c2 := cell_whole hn00 2
  have hf1 : (e0 != 0) = true := by simpa using h0
  have hf2 : (e0 == 0) = false := by simpa using h0
  have HZ := Lib.hid hz
  have HOK := Lib.hid hok
  have HNL := Lib.hid hnl
  have HLL := Lib.hid hll
  have HE := Lib.hid he
  have HN0 := Lib.hid h0
  clear h hb00 hn00 hz hl hok hnl hll he h0
  go_enter Try.func49, Try.ntmps49
  go_wp2_with (first
    | (go_at_call 78; refine (nfollow_bad n b ao cap nl Z s t H lo lc ll L e0 _ HR.out HZ.out HL.out HOK.out hn HNL.out HLL.out HE.out HN0.out).mono ?_; rintro e w2 ⟨rfl, hb2⟩; unfold crs0; have HB2 := Lib.hid (HB.out.trans (hb2.mono HB.out.size)); clear hb2)
    | ((with_reducible show wpList _ _ _ (Oper.mk none (Op.store 134 (Operand.tmp 12) _) _ _ _ _ :: _) _ _); refine wpList_store_course rfl _ _ rfl _ _ crs0L rfl rfl (heap_alloc_new _ _) rfl rfl crs0L_one ?_; intro w3 hg3 hk3; have HK3 : Hid (Below w2.heap.size w2 w3) := Lib.hid (((Below.refl _ w2).alloc (Nat.le_refl _) _).trans (hk3.below (by simp) (fun i e => Nat.le_of_eq (Eq.symm e)))); clear hg3 hk3))
  go_ret2
  exact ⟨rfl, HB2.out.trans (HK3.out.mono HB2.out.size)⟩
set_option maxRecDepth 100000 in
set_option maxHeartbeats 4000000 in
theorem narrived_bad (e0 : Int) (w : World) (h : Row encA 4 w ao Z) (hz : Z.length ≤ 4398046511104) (hl : Row encK 3 w lo L) (hok : ∀ x ∈ L, okK x) (hn : L.length ≤ 200) (hnl : Z.length = nl) (hll : L.length = ll) (he : mvE n Z s t H L = e0) (h0 : e0 ≠ 0) :
    Calls Try.prog 71 #[.agg #[.int .i64 n, .bool b, .slice ao nl cap], .int .i64 s, .int .i64 t, .int .i64 H, .slice lo ll lc] w fun e w' => e = .returned (.tuple #[.slice none 0 0, .int .i64 e0]) ∧ Below w.heap.size w w' := by
  have hb00 := (Below.refl _ w).alloc (Nat.le_refl _) (.cells #[.int .i64 n, .bool b, .slice ao nl cap] 24)
  have hn00 := heap_alloc_new w (.cells #[.int .i64 n, .bool b, .slice ao nl cap] 24)
  have HB := Lib.hid hb00
  have HR := Lib.hid (h.below' hb00)
  have HL := Lib.hid (hl.below' hb00)
  have c0 := cell_whole hn00 0
  have c1 := cell_whole hn00 1
  have c2 := cell_whole hn00 2
  have hf1 : (e0 != 0) = true := by simpa using h0
  have hf2 : (e0 == 0) = false := by simpa using h0
  have HZ := Lib.hid hz
  have HOK := Lib.hid hok
  have HNL := Lib.hid hnl
  have HLL := Lib.hid hll
  have HE := Lib.hid he
  have HN0 := Lib.hid h0
  clear h hb00 hn00 hz hl hok hnl hll he h0
  go_enter Try.func71, Try.ntmps71
  go_wp2_with (first
    | (go_at_call 78; refine (nfollow_bad n b ao cap nl Z s t H lo lc ll L e0 _ HR.out HZ.out HL.out HOK.out hn HNL.out HLL.out HE.out HN0.out).mono ?_; rintro e w2 ⟨rfl, hb2⟩; unfold crs0; have HB2 := Lib.hid (HB.out.trans (hb2.mono HB.out.size)); clear hb2)
    | ((with_reducible show wpList _ _ _ (Oper.mk none (Op.store 134 (Operand.tmp 12) _) _ _ _ _ :: _) _ _); refine wpList_store_course rfl _ _ rfl _ _ crs0L rfl rfl (heap_alloc_new _ _) rfl rfl crs0L_one ?_; intro w3 hg3 hk3; have HK3 : Hid (Below w2.heap.size w2 w3) := Lib.hid (((Below.refl _ w2).alloc (Nat.le_refl _) _).trans (hk3.below (by simp) (fun i e => Nat.le_of_eq (Eq.symm e)))); clear hg3 hk3))
  go_ret2
  exact ⟨rfl, HB2.out.trans (HK3.out.mono HB2.out.size)⟩
end
end Go.Proofs.Ytbkmfjegbmjknaa
