/- AdjOnce: each arc leaves one node and comes to one. -/
import Derived.Test.YtfnafdjcncgcnaaALaws
namespace Go.Proofs.Ytfnafdjcncgcnaa
open Go.RowKit
set_option linter.unusedVariables false

/-- How often each arc has been met: those of the nodes below v, and the first k of v's. -/
def metB (f : ArcT → Nat) (Z : List ArcT) (v k p : Nat) : Bool := match Z[p]? with | some a => decide (f a < v) || ((places f Z v).take k).contains p | none => false
def onceL (f : ArcT → Nat) (Z : List ArcT) (v k : Nat) : List Int := (List.range Z.length).map fun p => if metB f Z v k p then 1 else 0
theorem onceL_len (f : ArcT → Nat) (Z : List ArcT) (v k : Nat) : (onceL f Z v k).length = Z.length := by simp [onceL]
theorem onceL_at (f : ArcT → Nat) (Z : List ArcT) (v k : Nat) {p : Nat} (h : p < Z.length) : (onceL f Z v k)[p]? = some (if metB f Z v k p then 1 else 0) := by simp [onceL, h]
theorem onceL_start (f : ArcT → Nat) (Z : List ArcT) : onceL f Z 0 0 = List.replicate Z.length 0 := by
  apply List.ext_getElem
  · simp [onceL]
  · intro i h1 h2
    have hi : i < Z.length := by simpa [onceL] using h1
    simp [onceL, metB, List.getElem?_eq_getElem hi]
theorem places_nodup (f : ArcT → Nat) (Z : List ArcT) (v : Nat) : (places f Z v).Nodup := List.Nodup.sublist List.filter_sublist List.nodup_range
theorem take_new {l : List Nat} (hn : l.Nodup) {k : Nat} (hk : k < l.length) : l[k] ∉ l.take k := by
  intro hm
  have h2 := hn.sublist (List.take_sublist (k + 1) l)
  rw [List.take_succ_eq_append_getElem hk, List.nodup_append] at h2
  exact h2.2.2 _ hm _ (by simp) rfl
theorem met_new {f : ArcT → Nat} {Z : List ArcT} {v k : Nat} (hk : k < (places f Z v).length) : metB f Z v k (places f Z v)[k] = false := by
  obtain ⟨a, ha, hf⟩ := places_mem.1 (List.getElem_mem hk)
  have h1 := take_new (places_nodup f Z v) hk
  unfold metB
  rw [ha]
  simp only [hf]
  simp [h1]
theorem onceL_succ {f : ArcT → Nat} {Z : List ArcT} {v k : Nat} (hk : k < (places f Z v).length) : onceL f Z v (k + 1) = (onceL f Z v k).set (places f Z v)[k] 1 := by
  apply List.ext_getElem
  · simp [onceL]
  · intro i h1 h2
    have hi : i < Z.length := by simpa [onceL] using h1
    rw [List.getElem_set]
    simp only [onceL, List.getElem_map, List.getElem_range, metB, List.getElem?_eq_getElem hi]
    have hmem : i ∈ (places f Z v).take (k + 1) ↔ i ∈ (places f Z v).take k ∨ i = (places f Z v)[k] := by
      rw [List.take_succ_eq_append_getElem hk, List.mem_append, List.mem_singleton]
    by_cases e : (places f Z v)[k] = i
    · have hm := hmem.2 (.inr e.symm)
      rw [if_pos e]; simp [hm]
    · have e2 : ¬ i = (places f Z v)[k] := fun q => e q.symm
      have hm : i ∈ (places f Z v).take (k + 1) ↔ i ∈ (places f Z v).take k := by rw [hmem]; simp [e2]
      rw [if_neg e]; simp [hm]
theorem onceL_next (f : ArcT → Nat) (Z : List ArcT) (v : Nat) : onceL f Z v (places f Z v).length = onceL f Z (v + 1) 0 := by
  apply List.ext_getElem
  · simp [onceL]
  · intro i h1 h2
    have hi : i < Z.length := by simpa [onceL] using h1
    simp only [onceL, List.getElem_map, List.getElem_range, metB, List.getElem?_eq_getElem hi, List.take_length]
    have h3 : i ∈ places f Z v ↔ f Z[i] = v := by
      rw [places_mem]
      constructor
      · rintro ⟨a, ha, hf⟩
        rw [List.getElem?_eq_getElem hi] at ha
        cases ha
        exact hf
      · intro h; exact ⟨_, List.getElem?_eq_getElem hi, h⟩
    by_cases hm : f Z[i] = v
    · have h4 := h3.2 hm
      simp [hm, h4]
    · have h4 : i ∉ places f Z v := fun h => hm (h3.1 h)
      by_cases h5 : f Z[i] < v
      · have h6 : f Z[i] < v + 1 := by omega
        simp [h5, h6]
      · have h6 : ¬ f Z[i] < v + 1 := by omega
        simp [h4, h5, h6]
theorem onceL_end {f : ArcT → Nat} {Z : List ArcT} {N : Nat} (h : ∀ a ∈ Z, f a < N) {p : Nat} (hp : p < Z.length) : (onceL f Z N 0)[p]? = some 1 := by
  rw [onceL_at f Z N 0 hp]
  unfold metB
  rw [List.getElem?_eq_getElem hp]
  simp [h _ (List.getElem_mem hp)]
/-- Two rows of numbers of the call's own, in memory of their own. -/
structure TW (w2 wr : World) (g1 g2 M : Nat) (x y : List Int) : Prop where
  below : Below w2.heap.size w2 wr
  one : OwnL encI wr w2.heap.size 3 (.slice (some ⟨g1, 0, none⟩) M M) x
  two : OwnL encI wr w2.heap.size 3 (.slice (some ⟨g2, 0, none⟩) M M) y
  ne : g1 ≠ g2
section
variable {w2 wr w3 : World} {g1 g2 M : Nat} {x y : List Int}
theorem TW.put1 (h : TW w2 wr g1 g2 M x y) (j : Nat) (z : Int) : TW w2 (wr.setCell ⟨g1, j, none⟩ (.int .i64 z)) g1 g2 M (x.set j z) y :=
  ⟨below_set h.below (own_lt2 h.one rfl).1 _, h.one.put j z, ownL_kept h.two ((Kept.refl (fun i => i = g1) wr).set (.inl rfl) _) (fun g e e2 => by simp [Value.ownBlock] at e; exact h.ne (by omega)), h.ne⟩
theorem TW.put2 (h : TW w2 wr g1 g2 M x y) (j : Nat) (z : Int) : TW w2 (wr.setCell ⟨g2, j, none⟩ (.int .i64 z)) g1 g2 M x (y.set j z) :=
  ⟨below_set h.below (own_lt2 h.two rfl).1 _, ownL_kept h.one ((Kept.refl (fun i => i = g2) wr).set (.inl rfl) _) (fun g e e2 => by simp [Value.ownBlock] at e; exact h.ne (by omega)), h.two.put j z, h.ne⟩
end
theorem below_two2 (w : World) (x y : Obj) : Below w.heap.size w ((w.alloc x).alloc y) := ((Below.refl _ w).alloc (Nat.le_refl _) x).alloc (by simp) y
theorem made_own (w : World) (B M : Nat) (hB : B ≤ w.heap.size) (hM : M ≤ 200000) : OwnL encI (w.alloc (.cells (madeCells #[.int .i64 0] M) 3)) B 3 (.slice (some ⟨w.heap.size, 0, none⟩) M M) (List.replicate M 0) := by
  refine ⟨by simp, .inr ⟨w.heap.size, M, _, by rw [List.length_replicate], hB, heap_alloc_new _ _, by simp, by unfold maxLen; omega, by simp [madeCells], ?_⟩⟩
  have h := made_one (.int .i64 0) rfl M
  rw [Nat.mul_one] at h
  rw [show (madeCells #[Value.int .i64 0] M) = madeCells (Value.int .i64 0).cells M from rfl, h]
  simp [encI]
set_option maxRecDepth 100000 in
set_option maxHeartbeats 4000000 in
theorem once_law (n : Int) (b : Bool) (ao : Option Addr) (len cap : Nat) (Z : List ArcT) (w : World) (hl : Z.length = len) (hm : len ≤ maxLen) (hr : Row encA 4 w ao Z) :
    Calls Try.prog 7 #[.agg #[.int .i64 n, .bool b, .slice ao len cap]] w fun e w' => e = .returned (.bool true) ∧ Below w.heap.size w w' := by
  subst hl
  have HM := Lib.hid hm
  have HR := Lib.hid (row_alloc hr (.cells #[.int .i64 n, .bool b, .slice ao Z.length cap] 24))
  have HB0 : Hid (Below w.heap.size w (w.alloc (.cells #[.int .i64 n, .bool b, .slice ao Z.length cap] 24))) := Lib.hid ((Below.refl _ w).alloc (Nat.le_refl _) _)
  have HN := Lib.hid (heap_alloc_new w (.cells #[.int .i64 n, .bool b, .slice ao Z.length cap] 24))
  clear hr hm
  by_cases hc : checkE n Z = 0
  · have hR : Right (n, b, Z) := right_iff.1 hc
    have hn := nodesE_ok hR.1
    have hzl : Z.length ≤ 200 := hR.2.1
    simp only at hn
    obtain ⟨N, rfl⟩ : ∃ N : Nat, n = (N : Int) := ⟨n.toNat, by omega⟩
    have HRT := Lib.hid hR
    have HC := Lib.hid hc
    clear hc hR
    go_enter Try.func7, Try.ntmps7
    go_wp2_with (first
      | (go_at_call 14; refine (awake_any _).mono ?_; rintro e w1 ⟨rfl, hb1⟩; have HB1 := Lib.hid (HB0.out.trans (hb1.mono HB0.out.size)); have HR1 := Lib.hid (HR.out.below' hb1); have hn1 := box_kept HN.out hb1; have HN1 := Lib.hid hn1; have x1 := cell_whole hn1 0; have y1 := cell_whole hn1 1; have z1 := cell_whole hn1 2; clear hb1 hn1)
      | (go_at_call 24; refine (rcheck_any (N : Int) b ao cap Z _ HR1.out HM.out).mono ?_; rintro e w2 ⟨rfl, hb2⟩; rw [HC.out]; have HB2 := Lib.hid (HB1.out.trans (hb2.mono HB1.out.size)); have HR2 := Lib.hid (HR1.out.below' hb2); have hn2 := box_kept HN1.out hb2; have HN2 := Lib.hid hn2; have x2 := cell_whole hn2 0; have y2 := cell_whole hn2 1; have z2 := cell_whole hn2 2; clear hb2 hn2 x1 y1 z1)
      | (go_at_call 10; refine (out_ok (N : Int) b ao cap Z _ HR2.out HC.out).mono ?_; rintro e w3 ⟨g3, c3, rfl, hg3, hb3⟩; rw [Int.toNat_natCast] at hg3 ⊢; have HB3 := Lib.hid (HB2.out.trans (hb3.mono HB2.out.size)); have HR3 := Lib.hid (HR2.out.below' hb3); have hn3 := box_kept HN2.out hb3; have HN3 := Lib.hid hn3; have x3 := cell_whole hn3 0; have y3 := cell_whole hn3 1; have z3 := cell_whole hn3 2; have HG3 := Lib.hid hg3; clear hb3 hn3 hg3 x2 y2 z2)
      | (go_at_call 12; refine (into_ok (N : Int) b ao cap Z _ HR3.out HC.out).mono ?_; rintro e w4 ⟨g4, c4, rfl, hg4, hb4⟩; rw [Int.toNat_natCast] at hg4 ⊢; have HB4 := Lib.hid (HB3.out.trans (hb4.mono HB3.out.size)); have HR4 := Lib.hid (HR3.out.below' hb4); have hn4 := box_kept HN3.out hb4; have HN4 := Lib.hid hn4; have x4 := cell_whole hn4 0; have z4 := cell_whole hn4 2; have HG4 := Lib.hid hg4; have HG3 := Lib.hid (HG3.out.below hb4); clear hb4 hn4 hg4 x3 y3 z3))
    have hmk := fun W => run_make_row' (P := Try.prog) 32 3 (.int .i64 0) 8 Try.underlying32 infoInt rfl .i64 .i64 Z.length (by omega) (by omega) W
    have hz4 := block_lt_of_cell z4
    have hz4n : w.heap.size ≠ w4.heap.size := by simp only at hz4; omega
    have hz4m : w.heap.size ≠ w4.heap.size + 1 := by simp only at hz4; omega
    go_region
    · have hA := (made_own w4 w4.heap.size Z.length (Nat.le_refl _) (by omega)).alloc (.cells (madeCells #[.int .i64 0] Z.length) 3)
      have hBm := made_own (w4.alloc (.cells (madeCells #[.int .i64 0] Z.length) 3)) w4.heap.size Z.length (by simp) (by omega)
      rw [show (w4.alloc (.cells (madeCells #[.int .i64 0] Z.length) 3)).heap.size = w4.heap.size + 1 by simp] at hBm
      have HT : Hid (TW w4 (((w4.alloc (.cells (madeCells #[.int .i64 0] Z.length) 3)).alloc (.cells (madeCells #[.int .i64 0] Z.length) 3)).drew) (w4.heap.size) (w4.heap.size + 1) Z.length (List.replicate Z.length 0) (List.replicate Z.length 0)) := Lib.hid ⟨below_drew (below_two2 _ _ _), hA, hBm, by omega⟩
      clear hA hBm hmk hz4n hz4m
      generalize ((w4.alloc (.cells (madeCells #[.int .i64 0] Z.length) 3)).alloc (.cells (madeCells #[.int .i64 0] Z.length) 3)).drew = w5 at *
      obtain ⟨gB, hgB⟩ : ∃ g, w4.heap.size + 1 = g := ⟨_, rfl⟩
      rw [hgB] at HT ⊢
      obtain ⟨gA, hgA⟩ : ∃ g, w4.heap.size = g := ⟨_, rfl⟩
      rw [hgA] at HT ⊢
      clear hgA hgB
      go_wp2
      go_loopw [10] (fun i wr => ∃ v : Nat, v ≤ N ∧ i = .int .i64 (v : Int) ∧ Hid (TW w4 wr gA gB Z.length (onceL frN Z v 0) (onceL toN Z v 0))) (fun i _ => N - (intOf i).toNat)
      case atStart => exact ⟨0, Nat.zero_le _, rfl, Lib.hid (by rw [onceL_start, onceL_start]; exact HT.out)⟩
      case round =>
        clear HT
        obtain ⟨v, hv, rfl, HT⟩ := hrel
        have e0 := cell_below' HT.out.below x4 (block_lt_of_cell x4)
        by_cases hlt : v < N
        · have hli : (v : Int) < (N : Int) := by omega
          go_wp2
          obtain ⟨aos, caps, hglt, hcg, hls⟩ := HG3.out.at hlt
          have HLs := Lib.hid hls
          have hpl := places_len frN Z v
          obtain ⟨P, hP⟩ : ∃ P, places frN Z v = P := ⟨_, rfl⟩
          rw [hP] at hcg hpl
          have HP := Lib.hid hP
          clear hls hP
          go_loopw [11] (fun i wi => ∃ k : Nat, k ≤ P.length ∧ i = .int .i64 (k : Int) ∧ Hid (TW w4 wi gA gB Z.length (onceL frN Z v k) (onceL toN Z v 0))) (fun i _ => P.length - (intOf i).toNat)
          case atStart => exact ⟨0, Nat.zero_le _, rfl, HT⟩
          case round =>
            clear HT
            obtain ⟨k, hk, rfl, HT⟩ := hrel
            have e2 := cell_below' HT.out.below z4 (block_lt_of_cell z4)
            have eg := cell_below' HT.out.below hcg hglt
            by_cases hlt2 : k < P.length
            · have hli2 : (k : Int) < (P.length : Int) := by omega
              have hlt3 : k < (places frN Z v).length := by rw [HP.out]; exact hlt2
              obtain ⟨bb, oo, e, hbb, hcp⟩ := lst_cell HLs.out (natI_at hlt3)
              cases e
              have hcp' := cell_below' HT.out.below hcp hbb
              unfold encI at hcp'
              obtain ⟨a, hpa, hfa⟩ := places_mem.1 (List.getElem_mem hlt3)
              have HSU := Lib.hid (onceL_succ hlt3)
              have hmn := met_new hlt3
              generalize (places frN Z v)[k] = p at *
              obtain ⟨h1, h2, h3, h4, h5, h6⟩ := right_arc HRT.out (List.mem_of_getElem? hpa)
              obtain ⟨ab, ax, e, hab, a0, a1, _, _⟩ := arc_at (HR4.out.below' HT.out.below) hpa
              cases e
              rw [h1, hfa] at a0
              have hpz : p < Z.length := (List.getElem?_eq_some_iff.1 hpa).1
              have hpi : (p : Int) < (Z.length : Int) := by omega
              have hat := onceL_at frN Z v k hpz
              rw [hmn] at hat
              simp only [Bool.false_eq_true, if_false] at hat
              obtain ⟨hcx, hfx⟩ := HT.out.one.cell hat
              unfold encI at hcx
              have hd1 : decide (Z.length ≤ p) = false := decide_eq_false (by omega)
              have HTS := Lib.hid (HT.out.put1 p 1)
              clear hcp hpa hfa h1 h2 h3 h4 h5 h6 hat hmn a1
              go_wp2
              go_roundw
              case rel => exact ⟨k + 1, by omega, by go_num, Lib.hid (by rw [HSU.out]; exact HTS.out)⟩
              case measure => simp [intOf]; omega
            · have hli2 : ¬ (k : Int) < (P.length : Int) := by omega
              obtain rfl : k = P.length := by omega
              have hT := HT.out
              rw [← HP.out, onceL_next] at hT
              have HTN := Lib.hid hT
              clear hT
              go_wp2
              clear HLs hcg hglt eg hpl hk hli2 hlt2 HT
              have HT := HTN
              clear HTN
              obtain ⟨aos, caps, hglt, hcg, hls⟩ := HG4.out.at hlt
              have HLs := Lib.hid hls
              have hpl := places_len toN Z v
              obtain ⟨PT, hP⟩ : ∃ PT, places toN Z v = PT := ⟨_, rfl⟩
              rw [hP] at hcg hpl
              have HPT := Lib.hid hP
              clear hls hP
              go_loopw [13] (fun i wi => ∃ k : Nat, k ≤ PT.length ∧ i = .int .i64 (k : Int) ∧ Hid (TW w4 wi gA gB Z.length (onceL frN Z (v + 1) 0) (onceL toN Z v k))) (fun i _ => PT.length - (intOf i).toNat)
              case atStart => exact ⟨0, Nat.zero_le _, rfl, HT⟩
              case round =>
                clear HT
                obtain ⟨k, hk, rfl, HT⟩ := hrel
                have e2 := cell_below' HT.out.below z4 (block_lt_of_cell z4)
                have eg := cell_below' HT.out.below hcg hglt
                by_cases hlt2 : k < PT.length
                · have hli2 : (k : Int) < (PT.length : Int) := by omega
                  have hlt3 : k < (places toN Z v).length := by rw [HPT.out]; exact hlt2
                  obtain ⟨bb, oo, e, hbb, hcp⟩ := lst_cell HLs.out (natI_at hlt3)
                  cases e
                  have hcp' := cell_below' HT.out.below hcp hbb
                  unfold encI at hcp'
                  obtain ⟨a, hpa, hfa⟩ := places_mem.1 (List.getElem_mem hlt3)
                  have HSU := Lib.hid (onceL_succ hlt3)
                  have hmn := met_new hlt3
                  generalize (places toN Z v)[k] = p at *
                  obtain ⟨h1, h2, h3, h4, h5, h6⟩ := right_arc HRT.out (List.mem_of_getElem? hpa)
                  obtain ⟨ab, ax, e, hab, a0, a1, _, _⟩ := arc_at (HR4.out.below' HT.out.below) hpa
                  cases e
                  rw [h2, hfa] at a1
                  have hpz : p < Z.length := (List.getElem?_eq_some_iff.1 hpa).1
                  have hpi : (p : Int) < (Z.length : Int) := by omega
                  have hat := onceL_at toN Z v k hpz
                  rw [hmn] at hat
                  simp only [Bool.false_eq_true, if_false] at hat
                  obtain ⟨hcx, hfx⟩ := HT.out.two.cell hat
                  unfold encI at hcx
                  have hd1 : decide (Z.length ≤ p) = false := decide_eq_false (by omega)
                  have HTS := Lib.hid (HT.out.put2 p 1)
                  clear hcp hpa hfa h1 h2 h3 h4 h5 h6 hat hmn a0
                  go_wp2
                  go_roundw
                  case rel => exact ⟨k + 1, by omega, by go_num, Lib.hid (by rw [HSU.out]; exact HTS.out)⟩
                  case measure => simp [intOf]; omega
                · have hli2 : ¬ (k : Int) < (PT.length : Int) := by omega
                  obtain rfl : k = PT.length := by omega
                  have hT := HT.out
                  rw [← HPT.out, onceL_next] at hT
                  have HTN := Lib.hid hT
                  clear hT
                  go_wp2
                  go_roundw
                  case rel => exact ⟨v + 1, by omega, by go_num, HTN⟩
                  case measure => simp [intOf]; omega
        · have hli : ¬ (v : Int) < (N : Int) := by omega
          obtain rfl : v = N := by omega
          go_wp2
          go_loopw [15] (fun i wr => ∃ k : Nat, k ≤ Z.length ∧ i = .int .i64 (k : Int) ∧ Hid (TW w4 wr gA gB Z.length (onceL frN Z v 0) (onceL toN Z v 0))) (fun i _ => Z.length - (intOf i).toNat)
          case atStart => exact ⟨0, Nat.zero_le _, rfl, HT⟩
          case round =>
            clear HT e0
            obtain ⟨k, hk, rfl, HT⟩ := hrel
            by_cases hlt2 : k < Z.length
            · have hli2 : (k : Int) < (Z.length : Int) := by omega
              obtain ⟨hc1, _⟩ := HT.out.one.cell (onceL_end (fun a ha => by have := (right_ends HRT.out a ha).1; rwa [Int.toNat_natCast] at this) hlt2)
              obtain ⟨hc2, _⟩ := HT.out.two.cell (onceL_end (fun a ha => by have := (right_ends HRT.out a ha).2; rwa [Int.toNat_natCast] at this) hlt2)
              unfold encI at hc1 hc2
              go_wp2
              go_roundw
              case rel => exact ⟨k + 1, by omega, by go_num, HT⟩
              case measure => simp [intOf]; omega
            · have hli2 : ¬ (k : Int) < (Z.length : Int) := by omega
              obtain rfl : k = Z.length := by omega
              go_wp2
              go_ret
              exact ⟨rfl, HB4.out.trans (HT.out.below.mono HB4.out.size)⟩
    · have hA := (made_own w4 w4.heap.size Z.length (Nat.le_refl _) (by omega)).alloc (.cells (madeCells #[.int .i64 0] Z.length) 3)
      have hBm := made_own (w4.alloc (.cells (madeCells #[.int .i64 0] Z.length) 3)) w4.heap.size Z.length (by simp) (by omega)
      rw [show (w4.alloc (.cells (madeCells #[.int .i64 0] Z.length) 3)).heap.size = w4.heap.size + 1 by simp] at hBm
      have HT : Hid (TW w4 (((w4.alloc (.cells (madeCells #[.int .i64 0] Z.length) 3)).alloc (.cells (madeCells #[.int .i64 0] Z.length) 3)).drew) (w4.heap.size + 1) (w4.heap.size) Z.length (List.replicate Z.length 0) (List.replicate Z.length 0)) := Lib.hid ⟨below_drew (below_two2 _ _ _), hBm, hA, by omega⟩
      clear hA hBm hmk hz4n hz4m
      generalize ((w4.alloc (.cells (madeCells #[.int .i64 0] Z.length) 3)).alloc (.cells (madeCells #[.int .i64 0] Z.length) 3)).drew = w5 at *
      obtain ⟨gB, hgB⟩ : ∃ g, w4.heap.size + 1 = g := ⟨_, rfl⟩
      rw [hgB] at HT ⊢
      obtain ⟨gA, hgA⟩ : ∃ g, w4.heap.size = g := ⟨_, rfl⟩
      rw [hgA] at HT ⊢
      clear hgA hgB
      go_wp2
      go_loopw [10] (fun i wr => ∃ v : Nat, v ≤ N ∧ i = .int .i64 (v : Int) ∧ Hid (TW w4 wr gB gA Z.length (onceL frN Z v 0) (onceL toN Z v 0))) (fun i _ => N - (intOf i).toNat)
      case atStart => exact ⟨0, Nat.zero_le _, rfl, Lib.hid (by rw [onceL_start, onceL_start]; exact HT.out)⟩
      case round =>
        clear HT
        obtain ⟨v, hv, rfl, HT⟩ := hrel
        have e0 := cell_below' HT.out.below x4 (block_lt_of_cell x4)
        by_cases hlt : v < N
        · have hli : (v : Int) < (N : Int) := by omega
          go_wp2
          obtain ⟨aos, caps, hglt, hcg, hls⟩ := HG3.out.at hlt
          have HLs := Lib.hid hls
          have hpl := places_len frN Z v
          obtain ⟨P, hP⟩ : ∃ P, places frN Z v = P := ⟨_, rfl⟩
          rw [hP] at hcg hpl
          have HP := Lib.hid hP
          clear hls hP
          go_loopw [11] (fun i wi => ∃ k : Nat, k ≤ P.length ∧ i = .int .i64 (k : Int) ∧ Hid (TW w4 wi gB gA Z.length (onceL frN Z v k) (onceL toN Z v 0))) (fun i _ => P.length - (intOf i).toNat)
          case atStart => exact ⟨0, Nat.zero_le _, rfl, HT⟩
          case round =>
            clear HT
            obtain ⟨k, hk, rfl, HT⟩ := hrel
            have e2 := cell_below' HT.out.below z4 (block_lt_of_cell z4)
            have eg := cell_below' HT.out.below hcg hglt
            by_cases hlt2 : k < P.length
            · have hli2 : (k : Int) < (P.length : Int) := by omega
              have hlt3 : k < (places frN Z v).length := by rw [HP.out]; exact hlt2
              obtain ⟨bb, oo, e, hbb, hcp⟩ := lst_cell HLs.out (natI_at hlt3)
              cases e
              have hcp' := cell_below' HT.out.below hcp hbb
              unfold encI at hcp'
              obtain ⟨a, hpa, hfa⟩ := places_mem.1 (List.getElem_mem hlt3)
              have HSU := Lib.hid (onceL_succ hlt3)
              have hmn := met_new hlt3
              generalize (places frN Z v)[k] = p at *
              obtain ⟨h1, h2, h3, h4, h5, h6⟩ := right_arc HRT.out (List.mem_of_getElem? hpa)
              obtain ⟨ab, ax, e, hab, a0, a1, _, _⟩ := arc_at (HR4.out.below' HT.out.below) hpa
              cases e
              rw [h1, hfa] at a0
              have hpz : p < Z.length := (List.getElem?_eq_some_iff.1 hpa).1
              have hpi : (p : Int) < (Z.length : Int) := by omega
              have hat := onceL_at frN Z v k hpz
              rw [hmn] at hat
              simp only [Bool.false_eq_true, if_false] at hat
              obtain ⟨hcx, hfx⟩ := HT.out.one.cell hat
              unfold encI at hcx
              have hd1 : decide (Z.length ≤ p) = false := decide_eq_false (by omega)
              have HTS := Lib.hid (HT.out.put1 p 1)
              clear hcp hpa hfa h1 h2 h3 h4 h5 h6 hat hmn a1
              go_wp2
              go_roundw
              case rel => exact ⟨k + 1, by omega, by go_num, Lib.hid (by rw [HSU.out]; exact HTS.out)⟩
              case measure => simp [intOf]; omega
            · have hli2 : ¬ (k : Int) < (P.length : Int) := by omega
              obtain rfl : k = P.length := by omega
              have hT := HT.out
              rw [← HP.out, onceL_next] at hT
              have HTN := Lib.hid hT
              clear hT
              go_wp2
              clear HLs hcg hglt eg hpl hk hli2 hlt2 HT
              have HT := HTN
              clear HTN
              obtain ⟨aos, caps, hglt, hcg, hls⟩ := HG4.out.at hlt
              have HLs := Lib.hid hls
              have hpl := places_len toN Z v
              obtain ⟨PT, hP⟩ : ∃ PT, places toN Z v = PT := ⟨_, rfl⟩
              rw [hP] at hcg hpl
              have HPT := Lib.hid hP
              clear hls hP
              go_loopw [13] (fun i wi => ∃ k : Nat, k ≤ PT.length ∧ i = .int .i64 (k : Int) ∧ Hid (TW w4 wi gB gA Z.length (onceL frN Z (v + 1) 0) (onceL toN Z v k))) (fun i _ => PT.length - (intOf i).toNat)
              case atStart => exact ⟨0, Nat.zero_le _, rfl, HT⟩
              case round =>
                clear HT
                obtain ⟨k, hk, rfl, HT⟩ := hrel
                have e2 := cell_below' HT.out.below z4 (block_lt_of_cell z4)
                have eg := cell_below' HT.out.below hcg hglt
                by_cases hlt2 : k < PT.length
                · have hli2 : (k : Int) < (PT.length : Int) := by omega
                  have hlt3 : k < (places toN Z v).length := by rw [HPT.out]; exact hlt2
                  obtain ⟨bb, oo, e, hbb, hcp⟩ := lst_cell HLs.out (natI_at hlt3)
                  cases e
                  have hcp' := cell_below' HT.out.below hcp hbb
                  unfold encI at hcp'
                  obtain ⟨a, hpa, hfa⟩ := places_mem.1 (List.getElem_mem hlt3)
                  have HSU := Lib.hid (onceL_succ hlt3)
                  have hmn := met_new hlt3
                  generalize (places toN Z v)[k] = p at *
                  obtain ⟨h1, h2, h3, h4, h5, h6⟩ := right_arc HRT.out (List.mem_of_getElem? hpa)
                  obtain ⟨ab, ax, e, hab, a0, a1, _, _⟩ := arc_at (HR4.out.below' HT.out.below) hpa
                  cases e
                  rw [h2, hfa] at a1
                  have hpz : p < Z.length := (List.getElem?_eq_some_iff.1 hpa).1
                  have hpi : (p : Int) < (Z.length : Int) := by omega
                  have hat := onceL_at toN Z v k hpz
                  rw [hmn] at hat
                  simp only [Bool.false_eq_true, if_false] at hat
                  obtain ⟨hcx, hfx⟩ := HT.out.two.cell hat
                  unfold encI at hcx
                  have hd1 : decide (Z.length ≤ p) = false := decide_eq_false (by omega)
                  have HTS := Lib.hid (HT.out.put2 p 1)
                  clear hcp hpa hfa h1 h2 h3 h4 h5 h6 hat hmn a0
                  go_wp2
                  go_roundw
                  case rel => exact ⟨k + 1, by omega, by go_num, Lib.hid (by rw [HSU.out]; exact HTS.out)⟩
                  case measure => simp [intOf]; omega
                · have hli2 : ¬ (k : Int) < (PT.length : Int) := by omega
                  obtain rfl : k = PT.length := by omega
                  have hT := HT.out
                  rw [← HPT.out, onceL_next] at hT
                  have HTN := Lib.hid hT
                  clear hT
                  go_wp2
                  go_roundw
                  case rel => exact ⟨v + 1, by omega, by go_num, HTN⟩
                  case measure => simp [intOf]; omega
        · have hli : ¬ (v : Int) < (N : Int) := by omega
          obtain rfl : v = N := by omega
          go_wp2
          go_loopw [15] (fun i wr => ∃ k : Nat, k ≤ Z.length ∧ i = .int .i64 (k : Int) ∧ Hid (TW w4 wr gB gA Z.length (onceL frN Z v 0) (onceL toN Z v 0))) (fun i _ => Z.length - (intOf i).toNat)
          case atStart => exact ⟨0, Nat.zero_le _, rfl, HT⟩
          case round =>
            clear HT e0
            obtain ⟨k, hk, rfl, HT⟩ := hrel
            by_cases hlt2 : k < Z.length
            · have hli2 : (k : Int) < (Z.length : Int) := by omega
              obtain ⟨hc1, _⟩ := HT.out.one.cell (onceL_end (fun a ha => by have := (right_ends HRT.out a ha).1; rwa [Int.toNat_natCast] at this) hlt2)
              obtain ⟨hc2, _⟩ := HT.out.two.cell (onceL_end (fun a ha => by have := (right_ends HRT.out a ha).2; rwa [Int.toNat_natCast] at this) hlt2)
              unfold encI at hc1 hc2
              go_wp2
              go_roundw
              case rel => exact ⟨k + 1, by omega, by go_num, HT⟩
              case measure => simp [intOf]; omega
            · have hli2 : ¬ (k : Int) < (Z.length : Int) := by omega
              obtain rfl : k = Z.length := by omega
              go_wp2
              go_ret
              exact ⟨rfl, HB4.out.trans (HT.out.below.mono HB4.out.size)⟩
  · obtain ⟨ce, hce⟩ : ∃ ce, checkE n Z = ce := ⟨_, rfl⟩
    have HC := Lib.hid hce
    rw [hce] at hc
    have hf2 : (ce != 0) = true := by simpa using hc
    have hf1 : (ce == 0) = false := by simpa using hc
    clear hce hc
    go_enter Try.func7, Try.ntmps7
    go_wp2_with (first
      | (go_at_call 14; refine (awake_any _).mono ?_; rintro e w1 ⟨rfl, hb1⟩; have HB1 := Lib.hid (HB0.out.trans (hb1.mono HB0.out.size)); have HR1 := Lib.hid (HR.out.below' hb1); have hn1 := box_kept HN.out hb1; have HN1 := Lib.hid hn1; have x1 := cell_whole hn1 0; have y1 := cell_whole hn1 1; have z1 := cell_whole hn1 2; clear hb1 hn1)
      | (go_at_call 24; refine (rcheck_any n b ao cap Z _ HR1.out HM.out).mono ?_; rintro e w2 ⟨rfl, hb2⟩; rw [HC.out]; have HB2 := Lib.hid (HB1.out.trans (hb2.mono HB1.out.size)); clear hb2 x1 y1 z1))
    go_ret
    exact ⟨rfl, HB2.out⟩
end Go.Proofs.Ytfnafdjcncgcnaa
