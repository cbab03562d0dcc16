/- The document's Far and Free. -/
import Derived.Test.YtfklkcnopngpgaaORch
import Derived.Test.YtfklkcnopngpgaaBD
namespace Go.Proofs.Ytfklkcnopngpgaa
open Go.RowKit
set_option linter.unusedVariables false

theorem time_of {n : Int} {b : Bool} {Z : List ArcT} (hR : Right (n, b, Z)) : TimeNet Z n.toNat := by
  have hn := nodesE_ok hR.1
  simp only at hn
  refine ⟨fun a ha => ?_, fun a ha => ?_, Nat.le_trans hR.2.1 (by omega), by omega, fun a ha => ?_⟩ <;> obtain ⟨h1, h2, h3, h4, h5, h6⟩ := right_arc hR ha
  · exact ⟨h1, h2⟩
  · exact ⟨h3, h4⟩
  · omega
/-- What is wrong with what Far is asked. -/
def farE (n : Int) (Z : List ArcT) (F : List Int) (s : Int) : Int := if flowE n Z F = 0 then (if nodeB n s = true then (if calmN Z F n.toNat s.toNat = true then 0 else 110) else 1) else flowE n Z F
/-- The times that Far tells. -/
def farO (n : Int) (Z : List ArcT) (F : List Int) (s : Int) : List (Option Int) := if farE n Z F s = 0 then dN Z F n.toNat s.toNat n.toNat else []
/-- What Far answers. -/
def FarRes (n : Int) (Z : List ArcT) (F : List Int) (s : Int) (w : World) (e : Ending) (w' : World) : Prop :=
  ∃ a c a2 c2, e = .returned (.tuple #[.slice a (farO n Z F s).length c, .slice a2 (farO n Z F s).length c2, .int .i64 (farE n Z F s)]) ∧ Lst encI w' a (valsO (farO n Z F s)) ∧ Lst encB w' a2 (isO (farO n Z F s)) ∧ Below w.heap.size w w'
theorem far_no {n : Int} {Z : List ArcT} {F : List Int} {s e0 : Int} (h : farE n Z F s = e0) (h0 : e0 ≠ 0) {w w' : World} (hb : Below w.heap.size w w') : FarRes n Z F s w (.returned (.tuple #[.slice none 0 0, .slice none 0 0, .int .i64 e0])) w' := by
  have hn : farO n Z F s = [] := by unfold farO; rw [if_neg (by rw [h]; exact h0)]
  refine ⟨none, 0, none, 0, by rw [hn, h]; rfl, ?_, ?_, hb⟩
  · rw [hn]; exact Lst.nil _ _
  · rw [hn]; exact Lst.nil _ _
/-- What Free tells. -/
def freeB (n : Int) (Z : List ArcT) (F : List Int) : Bool := if flowE n Z F = 0 then (List.range n.toNat).all (calmN Z F n.toNat) else false
theorem free_iff {n : Int} {Z : List ArcT} {F : List Int} (h : flowE n Z F = 0) : freeB n Z F = true ↔ ∀ v, v < n.toNat → calmN Z F n.toNat v = true := by
  unfold freeB
  rw [if_pos h, List.all_eq_true]
  simp
section
variable (n : Int) (b : Bool) (ao fo : Option Addr) (cap fc : Nat) (Z : List ArcT) (F : List Int)
set_option maxRecDepth 100000 in
set_option maxHeartbeats 4000000 in
theorem rfar_any (s : Int) (w : World) (h : Row encA 4 w ao Z) (hf : Lst encI w fo F) (hz : Z.length ≤ maxLen) (hfl : F.length ≤ maxLen) :
    Calls Try.prog 10 #[.agg #[.int .i64 n, .bool b, .slice ao Z.length cap], .slice fo F.length fc, .int .i64 s] w (FarRes n Z F s w) := by
  have hb00 := (Below.refl _ w).alloc (Nat.le_refl _) (.cells #[.int .i64 n, .bool b, .slice ao Z.length cap] 24)
  have HB0 := Lib.hid hb00
  have HN0 := Lib.hid (heap_alloc_new w (.cells #[.int .i64 n, .bool b, .slice ao Z.length cap] 24))
  have c0 := cell_whole HN0.out 0
  have c1 := cell_whole HN0.out 1
  have c2 := cell_whole HN0.out 2
  have HR := Lib.hid (h.below' hb00)
  have HF := Lib.hid (hf.below hb00)
  have HZ := Lib.hid hz
  have HFL := Lib.hid hfl
  clear h hf hz hfl hb00
  obtain ⟨e0, he⟩ : ∃ e0, flowE n Z F = e0 := ⟨_, rfl⟩
  have HE := Lib.hid he
  by_cases h0 : e0 = 0
  · subst h0
    obtain ⟨hR, hFl, hz2, hfz, hn1, hn2⟩ := flow_facts (b := b) he
    have HTN := Lib.hid (time_of hR)
    obtain ⟨N, rfl⟩ : ∃ N : Nat, n = (N : Int) := ⟨n.toNat, by omega⟩
    rw [Int.toNat_natCast] at HTN
    have HFZ := Lib.hid hfz
    obtain ⟨q, hq⟩ : ∃ q, nodeB (N : Int) s = q := ⟨_, rfl⟩
    have HQ := Lib.hid hq
    clear he hR hFl hfz hq
    cases q
    · have HL : Hid (farE (N : Int) Z F s = 1) := Lib.hid (by unfold farE; rw [if_pos HE.out, HQ.out]; rfl)
      go_enter Try.func10, Try.ntmps10
      go_wp2_with (first
        | (go_at_call 29; refine (rasked_is (N : Int) b ao fo cap fc Z F 0 _ HR.out HF.out HZ.out HFL.out HE.out).mono ?_; rintro e w1 ⟨rfl, hb1⟩; have HB1 := Lib.hid (HB0.out.trans (hb1.mono HB0.out.size)); have hn1 := kept_box HN0.out hb1; have c0 := cell_whole hn1 0; have c1 := cell_whole hn1 1; have c2 := cell_whole hn1 2; clear hb1 hn1)
        | (go_at_call 30; refine (rnode_is (N : Int) b _ s false _ HQ.out).mono ?_; rintro e w2 ⟨rfl, hb2⟩; have HB2 := Lib.hid (HB1.out.trans (hb2.mono HB1.out.size)); clear hb2))
      go_ret3
      exact far_no HL.out (by decide) HB2.out
    · have hi : ∃ i : Nat, s = (i : Int) ∧ i < N := by
        have := HQ.out
        unfold nodeB at this
        rw [decide_eq_true_eq] at this
        exact ⟨s.toNat, by omega, by omega⟩
      obtain ⟨i, rfl, hiN⟩ := hi
      obtain ⟨g, hg⟩ : ∃ g, calmN Z F N i = g := ⟨_, rfl⟩
      have HG := Lib.hid hg
      have hfe : farE (N : Int) Z F (i : Int) = if g = true then 0 else 110 := by unfold farE; rw [if_pos HE.out, if_pos HQ.out, Int.toNat_natCast, Int.toNat_natCast, hg]
      have HFE := Lib.hid hfe
      clear hg hfe
      cases g
      · go_enter Try.func10, Try.ntmps10
        go_wp2_with (first
          | (go_at_call 29; refine (rasked_is (N : Int) b ao fo cap fc Z F 0 _ HR.out HF.out HZ.out HFL.out HE.out).mono ?_; rintro e w1 ⟨rfl, hb1⟩; have HB1 := Lib.hid (HB0.out.trans (hb1.mono HB0.out.size)); have hn1 := kept_box HN0.out hb1; have HN1 := Lib.hid hn1; have HR1 := Lib.hid (HR.out.below' hb1); have HF1 := Lib.hid (HF.out.below hb1); have c0 := cell_whole hn1 0; have c1 := cell_whole hn1 1; have c2 := cell_whole hn1 2; clear hb1 hn1)
          | (go_at_call 30; refine (rnode_is (N : Int) b _ (i : Int) true _ HQ.out).mono ?_; rintro e w2 ⟨rfl, hb2⟩; have HB2 := Lib.hid (HB1.out.trans (hb2.mono HB1.out.size)); have hn2 := kept_box HN1.out hb2; have HR2 := Lib.hid (HR1.out.below' hb2); have HF2 := Lib.hid (HF1.out.below hb2); have c0 := cell_whole hn2 0; have c1 := cell_whole hn2 1; have c2 := cell_whole hn2 2; clear hb2 hn2)
          | (go_at_call 31; refine (rreach_any b ao fo cap fc Z F N i _ HR2.out HF2.out HFZ.out HTN.out hiN).mono ?_; rintro e w3 ⟨gd, gi, rfl, hd, hi, hb3⟩; rw [HG.out]; have HB3 := Lib.hid (HB2.out.trans (hb3.mono HB2.out.size)); have HB4 := Lib.hid (HB3.out.alloc HB3.out.size (.cells #[.slice (some ⟨gd, 0, none⟩) N N, .slice (some ⟨gi, 0, none⟩) N N, .bool false] 58)); have k2 := cell_new w3 #[.slice (some ⟨gd, 0, none⟩) N N, .slice (some ⟨gi, 0, none⟩) N N, .bool false] 58 2; clear hb3 hd hi))
        go_ret3
        exact far_no HFE.out (by decide) HB4.out
      · have HFO : Hid (farO (N : Int) Z F (i : Int) = dN Z F N i (N + 1)) := Lib.hid (by
          unfold farO
          rw [if_pos (by rw [HFE.out]; rfl), Int.toNat_natCast, Int.toNat_natCast]
          exact (calmN_far HTN.out.lt hiN HG.out).1.symm)
        have HLN : Hid ((dN Z F N i (N + 1)).length = N) := Lib.hid (bellK_len _)
        go_enter Try.func10, Try.ntmps10
        go_wp2_with (first
          | (go_at_call 29; refine (rasked_is (N : Int) b ao fo cap fc Z F 0 _ HR.out HF.out HZ.out HFL.out HE.out).mono ?_; rintro e w1 ⟨rfl, hb1⟩; have HB1 := Lib.hid (HB0.out.trans (hb1.mono HB0.out.size)); have hn1 := kept_box HN0.out hb1; have HN1 := Lib.hid hn1; have HR1 := Lib.hid (HR.out.below' hb1); have HF1 := Lib.hid (HF.out.below hb1); have c0 := cell_whole hn1 0; have c1 := cell_whole hn1 1; have c2 := cell_whole hn1 2; clear hb1 hn1)
          | (go_at_call 30; refine (rnode_is (N : Int) b _ (i : Int) true _ HQ.out).mono ?_; rintro e w2 ⟨rfl, hb2⟩; have HB2 := Lib.hid (HB1.out.trans (hb2.mono HB1.out.size)); have hn2 := kept_box HN1.out hb2; have HR2 := Lib.hid (HR1.out.below' hb2); have HF2 := Lib.hid (HF1.out.below hb2); have c0 := cell_whole hn2 0; have c1 := cell_whole hn2 1; have c2 := cell_whole hn2 2; clear hb2 hn2)
          | (go_at_call 31; refine (rreach_any b ao fo cap fc Z F N i _ HR2.out HF2.out HFZ.out HTN.out hiN).mono ?_; rintro e w3 ⟨gd, gi, rfl, hd, hi, hb3⟩; rw [HG.out]; have HB3 := Lib.hid (HB2.out.trans (hb3.mono HB2.out.size)); have HB4 := Lib.hid (HB3.out.alloc HB3.out.size (.cells #[.slice (some ⟨gd, 0, none⟩) N N, .slice (some ⟨gi, 0, none⟩) N N, .bool true] 58)); have HD4 := Lib.hid (hd.below ((Below.refl _ w3).alloc (Nat.le_refl _) (.cells #[.slice (some ⟨gd, 0, none⟩) N N, .slice (some ⟨gi, 0, none⟩) N N, .bool true] 58))); have HI4 := Lib.hid (hi.below ((Below.refl _ w3).alloc (Nat.le_refl _) (.cells #[.slice (some ⟨gd, 0, none⟩) N N, .slice (some ⟨gi, 0, none⟩) N N, .bool true] 58))); have k0 := cell_new w3 #[.slice (some ⟨gd, 0, none⟩) N N, .slice (some ⟨gi, 0, none⟩) N N, .bool true] 58 0; have k1 := cell_new w3 #[.slice (some ⟨gd, 0, none⟩) N N, .slice (some ⟨gi, 0, none⟩) N N, .bool true] 58 1; have k2 := cell_new w3 #[.slice (some ⟨gd, 0, none⟩) N N, .slice (some ⟨gi, 0, none⟩) N N, .bool true] 58 2; clear hb3 hd hi))
        go_quiet (fail)
        go_wp2
        go_ret3
        refine ⟨some ⟨gd, 0, none⟩, N, some ⟨gi, 0, none⟩, N, by rw [HFO.out, HLN.out, HFE.out]; rfl, ?_, ?_, below_drewN HB4.out _⟩
        · rw [HFO.out]; exact HD4.out.below (below_drewN (Below.refl _ _) _)
        · rw [HFO.out]; exact HI4.out.below (below_drewN (Below.refl _ _) _)
  · have hf1 : (e0 != 0) = true := by simpa using h0
    have hf2 : (e0 == 0) = false := by simpa using h0
    have HL : Hid (farE n Z F s = e0) := Lib.hid (by unfold farE; rw [if_neg (by rw [he]; exact h0), he])
    have H0 := Lib.hid h0
    clear he h0
    go_enter Try.func10, Try.ntmps10
    go_wp2_with (first
      | (go_at_call 29; refine (rasked_is n b ao fo cap fc Z F e0 _ HR.out HF.out HZ.out HFL.out HE.out).mono ?_; rintro e w1 ⟨rfl, hb1⟩; have HB1 := Lib.hid (HB0.out.trans (hb1.mono HB0.out.size)); clear hb1))
    go_ret3
    exact far_no HL.out H0.out HB1.out
theorem field_reach (x y z : Value) (W : World) : (Instr.field 58 (.agg #[x, y, z]) 2).run Try.prog W = .ok z W := by kernel_rfl
set_option maxRecDepth 100000 in
set_option maxHeartbeats 4000000 in
theorem rfree_any (w : World) (h : Row encA 4 w ao Z) (hf : Lst encI w fo F) (hz : Z.length ≤ maxLen) (hfl : F.length ≤ maxLen) :
    Calls Try.prog 17 #[.agg #[.int .i64 n, .bool b, .slice ao Z.length cap], .slice fo F.length fc] w fun e w' => e = .returned (.tuple #[.bool (freeB n Z F), .int .i64 (flowE n Z F)]) ∧ Below w.heap.size w w' := by
  have hb00 := (Below.refl _ w).alloc (Nat.le_refl _) (.cells #[.int .i64 n, .bool b, .slice ao Z.length cap] 24)
  have HB0 := Lib.hid hb00
  have HN0 := Lib.hid (heap_alloc_new w (.cells #[.int .i64 n, .bool b, .slice ao Z.length cap] 24))
  have c0 := cell_whole HN0.out 0
  have c1 := cell_whole HN0.out 1
  have c2 := cell_whole HN0.out 2
  have HR := Lib.hid (h.below' hb00)
  have HF := Lib.hid (hf.below hb00)
  have HZ := Lib.hid hz
  have HFL := Lib.hid hfl
  clear h hf hz hfl hb00
  obtain ⟨e0, he⟩ : ∃ e0, flowE n Z F = e0 := ⟨_, rfl⟩
  have HE := Lib.hid he
  by_cases h0 : e0 = 0
  · subst h0
    obtain ⟨hR, hFl, hz2, hfz, hn1, hn2⟩ := flow_facts (b := b) he
    have HTN := Lib.hid (time_of hR)
    have HFI := Lib.hid (free_iff he)
    obtain ⟨N, rfl⟩ : ∃ N : Nat, n = (N : Int) := ⟨n.toNat, by omega⟩
    rw [Int.toNat_natCast] at HTN HFI
    have HFZ := Lib.hid hfz
    have hfl := field_reach
    clear he hR hFl hfz
    go_enter Try.func17, Try.ntmps17
    go_wp2_with (first
      | (go_at_call 29; refine (rasked_is (N : Int) b ao fo cap fc Z F 0 _ HR.out HF.out HZ.out HFL.out HE.out).mono ?_; rintro e w1 ⟨rfl, hb1⟩; have HB1 := Lib.hid (HB0.out.trans (hb1.mono HB0.out.size)); have hn1 := kept_box HN0.out hb1; have HN1 := Lib.hid hn1; have HR1 := Lib.hid (HR.out.below' hb1); have HF1 := Lib.hid (HF.out.below hb1); clear hb1 hn1 c0 c1 c2))
    go_loopw [7] (fun iv wr => ∃ v : Nat, v ≤ N ∧ iv = .int .i64 (v : Int) ∧ Hid (∀ u, u < v → calmN Z F N u = true) ∧ Hid (Below w1.heap.size w1 wr)) (fun iv _ => N - (intOf iv).toNat)
    case atStart => exact ⟨0, Nat.zero_le _, rfl, Lib.hid (fun u h => by omega), Lib.hid (Below.refl _ _)⟩
    case round =>
      obtain ⟨v, hv, rfl, HA, HB⟩ := hrel
      have hn2 := kept_box HN1.out HB.out
      have c0 := cell_whole hn2 0
      have c1 := cell_whole hn2 1
      have c2 := cell_whole hn2 2
      have HRr := Lib.hid (HR1.out.below' HB.out)
      have HFr := Lib.hid (HF1.out.below HB.out)
      clear hn2
      by_cases hlt : v < N
      · have hli : (v : Int) < (N : Int) := by omega
        obtain ⟨g, hg⟩ : ∃ g, calmN Z F N v = g := ⟨_, rfl⟩
        have HG := Lib.hid hg
        clear hg
        cases g
        · have HFB : Hid (freeB (N : Int) Z F = false) := Lib.hid (by
            cases hb : freeB (N : Int) Z F with
            | false => rfl
            | true => have := HFI.out.1 hb v hlt; rw [HG.out] at this; cases this)
          go_wp2_with (first
            | (go_at_call 31; refine (rreach_any b ao fo cap fc Z F N v _ HRr.out HFr.out HFZ.out HTN.out hlt).mono ?_; rintro e w3 ⟨gd, gi, rfl, hd, hi, hb3⟩; rw [HG.out]; have HB3 := Lib.hid (HB.out.trans (hb3.mono HB.out.size)); clear hb3 hd hi))
          go_ret2
          exact ⟨by rw [HFB.out, HE.out]; rfl, HB1.out.trans (HB3.out.mono HB1.out.size)⟩
        · go_wp2_with (first
            | (go_at_call 31; refine (rreach_any b ao fo cap fc Z F N v _ HRr.out HFr.out HFZ.out HTN.out hlt).mono ?_; rintro e w3 ⟨gd, gi, rfl, hd, hi, hb3⟩; rw [HG.out]; have HB3 := Lib.hid (HB.out.trans (hb3.mono HB.out.size)); clear hb3 hd hi))
          go_roundw
          case rel => exact ⟨v + 1, by omega, by go_num, Lib.hid (fun u h => by
            by_cases e : u = v
            · subst e; exact HG.out
            · exact HA.out u (by omega)), HB3⟩
          case measure => simp [intOf]; omega
      · have hli : ¬ (v : Int) < (N : Int) := by omega
        obtain rfl : v = N := by omega
        have HFB : Hid (freeB (v : Int) Z F = true) := Lib.hid (HFI.out.2 HA.out)
        go_wp2
        go_ret2
        exact ⟨by rw [HFB.out, HE.out]; rfl, HB1.out.trans (HB.out.mono HB1.out.size)⟩
  · have hf1 : (e0 != 0) = true := by simpa using h0
    have hf2 : (e0 == 0) = false := by simpa using h0
    have HFB : Hid (freeB n Z F = false) := Lib.hid (by unfold freeB; rw [if_neg (by rw [he]; exact h0)])
    clear he h0
    go_enter Try.func17, Try.ntmps17
    go_wp2_with (first
      | (go_at_call 29; refine (rasked_is n b ao fo cap fc Z F e0 _ HR.out HF.out HZ.out HFL.out HE.out).mono ?_; rintro e w1 ⟨rfl, hb1⟩; have HB1 := Lib.hid (HB0.out.trans (hb1.mono HB0.out.size)); clear hb1))
    go_ret2
    exact ⟨by rw [HFB.out, HE.out]; rfl, HB1.out⟩
end
end Go.Proofs.Ytfklkcnopngpgaa
