/- What load refuses; a copy of a flow, and what a step makes of it: apart and push of the program. -/
import Derived.Test.YtbolpjahmmjllaaSLoad
import Derived.Laws.CopyOwn
import Derived.Laws.AppendOwnNone
namespace Go.Proofs.Ytbolpjahmmjllaa
open Go.RowKit
set_option linter.unusedVariables false

section
variable (n : Int) (b : Bool) (ao fo : Option Addr) (cap fc : Nat) (Z : List ArcT) (F : List Int)
set_option maxRecDepth 100000 in
set_option maxHeartbeats 2000000 in
theorem load_no (e0 : Int) (w : World) (h : Row encA 4 w ao Z) (hf : Lst encI w fo F) (hz : Z.length ≤ maxLen) (hfl : F.length ≤ maxLen) (he : flowE n Z F = e0) (h0 : e0 ≠ 0) :
    Calls Try.prog 53 #[.agg #[.int .i64 n, .bool b, .slice ao Z.length cap], .slice fo F.length fc] w fun e w' => e = .returned (.tuple #[.agg #[.int .i64 0, .bool false, .slice none 0 0, .slice none 0 0], .int .i64 e0]) ∧ Below w.heap.size w w' := by
  have hb00 := ((Below.refl _ w).alloc (Nat.le_refl _) (.cells #[.int .i64 n, .bool b, .slice ao Z.length cap] 24)).alloc (by simp) (.cells #[.int .i64 0, .bool false, .slice none 0 0, .slice none 0 0] 88)
  have HB0 := Lib.hid hb00
  have HN := Lib.hid (alloc_whole (heap_alloc_new w (.cells #[.int .i64 n, .bool b, .slice ao Z.length cap] 24)) (.cells #[.int .i64 0, .bool false, .slice none 0 0, .slice none 0 0] 88))
  have HL := Lib.hid (new_whole1 w (.cells #[.int .i64 n, .bool b, .slice ao Z.length cap] 24) (.cells #[.int .i64 0, .bool false, .slice none 0 0, .slice none 0 0] 88))
  have HR := Lib.hid (h.below' hb00)
  have HF := Lib.hid (hf.below hb00)
  have HZ := Lib.hid hz
  have HFL := Lib.hid hfl
  clear h hf hz hfl hb00
  by_cases hc : checkE n Z = 0
  · have hq : flowB Z F = false := by
      cases hq : flowB Z F with
      | false => rfl
      | true => rw [flowE_mk hc hq] at he; exact absurd he.symm h0
    obtain rfl : e0 = 71 := by rw [← he]; exact flowE_bad hc hq
    have HC := Lib.hid hc
    have HQ := Lib.hid hq
    clear hc hq he h0
    go_enter Try.func53, Try.ntmps53
    go_wp2_with (first
      | (go_at_call 49; refine (ncheck_is n b ao cap Z 0 _ HR.out HZ.out HC.out).mono ?_; rintro e w1 ⟨rfl, hb1⟩; have hn1 := kept_box HN.out hb1; have HN1 := Lib.hid hn1; have HL1 := Lib.hid (kept_box HL.out hb1); have HR1 := Lib.hid (HR.out.below' hb1); have HF1 := Lib.hid (HF.out.below hb1); have HB1 := Lib.hid (HB0.out.trans (hb1.mono HB0.out.size)); have z1 := cell_whole hn1 2; clear hb1 hn1)
      | (go_at_call 67; refine (isflow_is ao fo cap fc Z F false _ HR1.out HF1.out HZ.out HFL.out HQ.out).mono ?_; rintro e w2 ⟨rfl, hb2⟩; have hl2 := kept_box HL1.out hb2; have HB2 := Lib.hid (HB1.out.trans (hb2.mono HB1.out.size)); have HL2 := Lib.hid hl2; obtain ⟨⟨k0, k1, k2, k3⟩, f0, f1, f2, f3⟩ := ldCells hl2; clear hb2 hl2 z1))
    obtain ⟨hs, hb⟩ := ldSet HL2.out HB2.out (by omega) (.int .i64 0) (.bool false) (.slice none 0 0) (.slice none 0 0)
    clear k0 k1 k2 k3 f0 f1 f2 f3
    generalize World.setCell (World.setCell (World.setCell (World.setCell _ _ _) _ _) _ _) _ _ = W at *
    obtain ⟨⟨k0, k1, k2, k3⟩, _⟩ := ldCells hs
    refine bodyPost_ret (v := .tuple #[.agg #[.int .i64 0, .bool false, .slice none 0 0, .slice none 0 0], .int .i64 71]) (by simp [results, Try.results53, go_sem, k0, k1, k2, k3]) rfl ⟨rfl, hb⟩
  · obtain rfl : e0 = checkE n Z := by rw [← he]; exact flowE_net hc
    obtain ⟨e0, he0⟩ : ∃ e0, checkE n Z = e0 := ⟨_, rfl⟩
    rw [he0]
    rw [he0] at h0
    have HC := Lib.hid he0
    have hf2 : (e0 != 0) = true := by simpa using h0
    have hf1 : (e0 == 0) = false := by simpa using h0
    clear hc he0 he h0
    go_enter Try.func53, Try.ntmps53
    go_wp2_with (first
      | (go_at_call 49; refine (ncheck_is n b ao cap Z e0 _ HR.out HZ.out HC.out).mono ?_; rintro e w1 ⟨rfl, hb1⟩; have hl2 := kept_box HL.out hb1; have HL2 := Lib.hid hl2; have HB2 := Lib.hid (HB0.out.trans (hb1.mono HB0.out.size)); obtain ⟨⟨k0, k1, k2, k3⟩, f0, f1, f2, f3⟩ := ldCells hl2; clear hb1 hl2))
    obtain ⟨hs, hb⟩ := ldSet HL2.out HB2.out (by omega) (.int .i64 0) (.bool false) (.slice none 0 0) (.slice none 0 0)
    clear k0 k1 k2 k3 f0 f1 f2 f3
    generalize World.setCell (World.setCell (World.setCell (World.setCell _ _ _) _ _) _ _) _ _ = W at *
    obtain ⟨⟨k0, k1, k2, k3⟩, _⟩ := ldCells hs
    refine bodyPost_ret (v := .tuple #[.agg #[.int .i64 0, .bool false, .slice none 0 0, .slice none 0 0], .int .i64 e0]) (by simp [results, Try.results53, go_sem, k0, k1, k2, k3]) rfl ⟨rfl, hb⟩
/-- A network with a flow of its own. -/
def ApartV (w : World) (e : Ending) (w' : World) : Prop :=
  ∃ g, e = .returned (.agg #[.int .i64 n, .bool b, .slice ao Z.length cap, .slice (some ⟨g, 0, none⟩) F.length F.length]) ∧ w.heap.size ≤ g ∧ OwnL encI w' w.heap.size 3 (.slice (some ⟨g, 0, none⟩) F.length F.length) F ∧ Below w.heap.size w w'
theorem own_full {α : Type} {enc : α → Value} {w : World} {base g N : Nat} {e : TypeId} {L : List α} (h : OwnL enc w base e (.slice (some ⟨g, 0, none⟩) N N) L) : w.heap[g]? = some (.cells (L.map enc).toArray e (0, 0)) ∧ L.length = N := by
  rcases h.2 with ⟨h0, _⟩ | ⟨g', cap', cur, e1, hb, hg, h1, h2, h3, h4⟩
  · cases h0
  · injection e1 with e2 e3 e4
    injection e2 with e2
    have hg' : g' = g := by injection e2 with q; exact q.symm
    subst hg'
    have hc : cur.toList = L.map enc := by
      rw [← h4, List.take_of_length_le]
      rw [Array.length_toList]; omega
    refine ⟨by rw [hg, ← hc], by omega⟩
theorem own_of_full {α : Type} {enc : α → Value} {w : World} {base g : Nat} {e : TypeId} {L : List α} (h : w.heap[g]? = some (.cells (L.map enc).toArray e (0, 0))) (hb : base ≤ g) (hl : L.length ≤ 200000) : OwnL enc w base e (.slice (some ⟨g, 0, none⟩) L.length L.length) L :=
  ⟨by simp, .inr ⟨g, L.length, _, rfl, hb, h, Nat.le_refl _, by unfold maxLen; omega, by simp, by simp [List.take_of_length_le]⟩⟩
theorem lst_src {w : World} {fo : Option Addr} {F : List Int} {CS : List Value} (h : Lst encI w fo F) (e : F.map encI = CS) (h0 : 0 < CS.length) : ∃ ad, fo = some ad ∧ ∀ j v, CS[j]? = some v → w.cell? (ad.add j) = some v := by
  subst e
  have hF : 0 < F.length := by simpa using h0
  obtain ⟨b, o, e, _, _⟩ := h 0 hF
  refine ⟨_, e, fun j v hj => ?_⟩
  rw [List.getElem?_map] at hj
  cases hj2 : F[j]? with
  | none => rw [hj2] at hj; cases hj
  | some x =>
    rw [hj2] at hj
    obtain ⟨b2, o2, e2, _, hc⟩ := lst_cell h hj2
    rw [e] at e2; cases e2
    rw [Addr.add_lit, hc]; exact hj
theorem encI_ones {F : List Int} {CS : List Value} (e : F.map encI = CS) : ∀ v ∈ CS, v.oneCell' = true := by
  subst e
  intro v hv
  obtain ⟨x, _, rfl⟩ := List.mem_map.1 hv
  rfl
theorem infoInt1 : (Try.prog.info? 3).map (·.size) = some 1 := by kernel_rfl
theorem splice_all {L cs : List Value} (h : cs.length = L.length) : splice L 0 cs = cs := by
  unfold splice
  rw [List.take_zero, List.nil_append, Nat.zero_add, h, List.drop_length, List.append_nil]
end
end Go.Proofs.Ytbolpjahmmjllaa
