/- What a search from a node begins with: the lists of arcs, and the distances while only the node itself is reached. -/
import Derived.Test.YtfnafdjcncgcnaaAOut
import Derived.Test.YtfnafdjcncgcnaaAKahn
namespace Go.Proofs.Ytfnafdjcncgcnaa
open Go.RowKit
set_option linter.unusedVariables false

def fillD (t N : Nat) : List Int := List.replicate t (-1) ++ List.replicate (N - t) 0
theorem fillD_len {t N : Nat} (h : t ≤ N) : (fillD t N).length = N := by simp [fillD]; omega
theorem fillD_set {t N : Nat} (h : t < N) : (fillD t N).set t (-1) = fillD (t + 1) N := by
  unfold fillD
  rw [List.set_append_right _ _ (by simp), List.length_replicate, Nat.sub_self, show N - t = (N - (t + 1)) + 1 by omega, List.replicate_succ, List.set_cons_zero, List.replicate_succ' (n := t), List.append_assoc]
  rfl
theorem fillD_zero (N : Nat) : fillD 0 N = List.replicate N 0 := by simp [fillD]
theorem fillD_full (N : Nat) : fillD N N = List.replicate N (-1) := by simp [fillD]
theorem fillD_at {t N : Nat} (h : t < N) : (fillD t N)[t]? = some 0 := by
  unfold fillD
  rw [List.getElem?_append_right (by simp), List.length_replicate, Nat.sub_self, List.getElem?_replicate, if_pos (by omega)]
def StartRes (n : Int) (Z : List ArcT) (s : Nat) (w : World) (e : Ending) (w' : World) : Prop :=
  ∃ w1 g1 gc gd, e = .returned (.tuple #[.slice (some ⟨g1, 0, none⟩) n.toNat gc, .slice (some ⟨gd, 0, none⟩) n.toNat n.toNat, .int .i64 0]) ∧ Below w.heap.size w w1 ∧ GRow w1 (some ⟨g1, 0, none⟩) (lists frN Z n.toNat) ∧ w1.heap.size ≤ gd ∧
    OwnL encI w' w1.heap.size 3 (.slice (some ⟨gd, 0, none⟩) n.toNat n.toNat) (startD n.toNat s) ∧ Below w1.heap.size w1 w'
set_option maxRecDepth 100000 in
set_option maxHeartbeats 2000000 in
theorem start_ok (n : Int) (b : Bool) (ao : Option Addr) (cap : Nat) (Z : List ArcT) (s : Nat) (w : World) (h : Row encA 4 w ao Z) (hc : checkE n Z = 0) (hs : s < n.toNat) :
    Calls Try.prog 28 #[.agg #[.int .i64 n, .bool b, .slice ao Z.length cap], .int .i64 (s : Int)] w (StartRes n Z s w) := by
  have hR : Right (n, b, Z) := right_iff.1 hc
  have hn := nodesE_ok hR.1
  simp only at hn
  obtain ⟨N, rfl⟩ : ∃ N : Nat, n = (N : Int) := ⟨n.toNat, by omega⟩
  have hsN : s < N := by simpa using hs
  have HC := Lib.hid hc
  have HR := Lib.hid (row_alloc h (.cells #[.int .i64 (N : Int), .bool b, .slice ao Z.length cap] 24))
  clear h hc hR hs
  go_enter Try.func28, Try.ntmps28
  have c0 := cell_new w #[.int .i64 (N : Int), .bool b, .slice ao Z.length cap] 24 0
  have HB0 : Hid (Below w.heap.size w (w.alloc (.cells #[.int .i64 (N : Int), .bool b, .slice ao Z.length cap] 24))) := Lib.hid ((Below.refl _ w).alloc (Nat.le_refl _) _)
  have hd1 : decide (N ≤ s) = false := decide_eq_false (by omega)
  have hd2 : ¬ (N : Int) ≤ (s : Int) := by omega
  go_wp2_with (first
    | (go_at_call 10; refine (out_ok (N : Int) b ao cap Z _ HR.out HC.out).mono ?_; rintro e w1 ⟨g1, cg1, rfl, hg1, hb1⟩; rw [Int.toNat_natCast] at hg1 ⊢; have d0 := cell_below hb1 c0; have HG1 := Lib.hid hg1; have HB1 := Lib.hid (HB0.out.trans (hb1.mono (by simp))); clear hb1 hg1 c0)
    | (at_make; refine wpList_make_L (enc := encI) 0 Try.underlying32 infoInt rfl (by omega) rfl _ _ rfl N rfl rfl (by omega) ?_; intro w2 ho2 hb2; have c0 := cell_below hb2 d0; have HO2 := Lib.hid ho2; have HB2 := Lib.hid hb2; clear ho2 hb2 d0))
  have hgs := (own_lt2 HO2.out rfl).2
  go_loopw [29] (fun i wr => ∃ t : Nat, t ≤ N ∧ i = .int .i64 (t : Int) ∧ Hid (Below w1.heap.size w1 wr) ∧ Hid (OwnL encI wr w1.heap.size 3 (.slice (some ⟨w1.heap.size, 0, none⟩) N N) (fillD t N))) (fun i _ => N - (intOf i).toNat)
  case atStart => exact ⟨0, Nat.zero_le _, rfl, HB2, Lib.hid (by rw [fillD_zero]; exact HO2.out)⟩
  case round =>
    obtain ⟨t, ht, rfl, HB, HO⟩ := hrel
    by_cases hlt : t < N
    · have hli : (t : Int) < (N : Int) := by omega
      obtain ⟨hc3, hf3⟩ := HO.out.cell (fillD_at hlt)
      unfold encI at hc3
      go_wp2
      go_roundw
      case rel => exact ⟨t + 1, by omega, by go_num, Lib.hid (below_set HB.out (Nat.le_refl _) _), Lib.hid (by have := HO.out.put t (-1); rw [fillD_set hlt] at this; exact this)⟩
      case measure => simp [intOf]; omega
    · have hli : ¬ (t : Int) < (N : Int) := by omega
      obtain rfl : t = N := by omega
      obtain ⟨hc3, hf3⟩ := HO.out.cell (j := s) (x := -1) (by rw [fillD_full, List.getElem?_replicate, if_pos hsN])
      unfold encI at hc3
      have hsi : (s : Int) < (t : Int) := by omega
      go_wp2
      refine bodyPost_ret (v := .tuple #[.slice (some ⟨g1, 0, none⟩) t cg1, .slice (some ⟨w1.heap.size, 0, none⟩) t t, .int .i64 0]) (by simp [results, Try.results28, go_sem]) rfl ?_
      refine ⟨w1, g1, cg1, w1.heap.size, by simp, HB1.out, by simpa using HG1.out, Nat.le_refl _, ?_, below_set HB.out (Nat.le_refl _) _⟩
      have := HO.out.put s 0
      rw [fillD_full] at this
      rw [Int.toNat_natCast]
      exact this
theorem start_arg (n : Int) (b : Bool) (ao : Option Addr) (cap : Nat) (Z : List ArcT) (s : Int) (w : World) (h : Row encA 4 w ao Z) (hc : checkE n Z = 0) (hs : s < 0 ∨ n ≤ s) :
    Calls Try.prog 28 #[.agg #[.int .i64 n, .bool b, .slice ao Z.length cap], .int .i64 s] w fun e w' => e = .returned (.tuple #[.slice none 0 0, .slice none 0 0, .int .i64 1]) ∧ Below w.heap.size w w' := by
  have HC := Lib.hid hc
  have HR := Lib.hid (row_alloc h (.cells #[.int .i64 n, .bool b, .slice ao Z.length cap] 24))
  clear h hc
  have c0 := cell_new w #[.int .i64 n, .bool b, .slice ao Z.length cap] 24 0
  have HB0 : Hid (Below w.heap.size w (w.alloc (.cells #[.int .i64 n, .bool b, .slice ao Z.length cap] 24))) := Lib.hid ((Below.refl _ w).alloc (Nat.le_refl _) _)
  by_cases h0 : s < 0
  · clear hs
    go_enter Try.func28, Try.ntmps28
    go_wp2_with (first
      | (go_at_call 10; refine (out_ok n b ao cap Z _ HR.out HC.out).mono ?_; rintro e w1 ⟨g1, cg1, rfl, hg1, hb1⟩; have d0 := cell_below hb1 c0; have HB1 := Lib.hid (HB0.out.trans (hb1.mono (by simp))); clear hb1 hg1 c0))
    exact bodyPost_ret (v := .tuple #[.slice none 0 0, .slice none 0 0, .int .i64 1]) (by simp [results, Try.results28, go_sem]) rfl ⟨rfl, HB1.out⟩
  · have h1 : n ≤ s := by omega
    have h2 : 0 ≤ s := by omega
    clear hs
    go_enter Try.func28, Try.ntmps28
    go_wp2_with (first
      | (go_at_call 10; refine (out_ok n b ao cap Z _ HR.out HC.out).mono ?_; rintro e w1 ⟨g1, cg1, rfl, hg1, hb1⟩; have d0 := cell_below hb1 c0; have HB1 := Lib.hid (HB0.out.trans (hb1.mono (by simp))); clear hb1 hg1 c0))
    exact bodyPost_ret (v := .tuple #[.slice none 0 0, .slice none 0 0, .int .i64 1]) (by simp [results, Try.results28, go_sem]) rfl ⟨rfl, HB1.out⟩
theorem start_no (n : Int) (b : Bool) (ao : Option Addr) (cap : Nat) (Z : List ArcT) (s : Int) (w : World) (e0 : Int) (h : Row encA 4 w ao Z) (hm : Z.length ≤ maxLen) (he : checkE n Z = e0) (h0 : e0 ≠ 0) :
    Calls Try.prog 28 #[.agg #[.int .i64 n, .bool b, .slice ao Z.length cap], .int .i64 s] w fun e w' => e = .returned (.tuple #[.slice none 0 0, .slice none 0 0, .int .i64 e0]) ∧ Below w.heap.size w w' := by
  have HE := Lib.hid he
  have H0 := Lib.hid h0
  have HM := Lib.hid hm
  have HR := Lib.hid (row_alloc h (.cells #[.int .i64 n, .bool b, .slice ao Z.length cap] 24))
  have hf2 : (e0 != 0) = true := by simpa using h0
  have hf1 : (e0 == 0) = false := by simpa using h0
  clear h he h0 hm
  have HB0 : Hid (Below w.heap.size w (w.alloc (.cells #[.int .i64 n, .bool b, .slice ao Z.length cap] 24))) := Lib.hid ((Below.refl _ w).alloc (Nat.le_refl _) _)
  go_enter Try.func28, Try.ntmps28
  go_wp2_with (go_at_call 10; refine (out_no n b ao cap Z _ e0 HR.out HM.out HE.out H0.out).mono ?_; rintro e w1 ⟨rfl, hb1⟩; have HB1 := Lib.hid (HB0.out.trans (hb1.mono (by simp))); clear hb1)
  exact bodyPost_ret (v := .tuple #[.slice none 0 0, .slice none 0 0, .int .i64 e0]) (by simp [results, Try.results28, go_sem]) rfl ⟨rfl, HB1.out⟩
end Go.Proofs.Ytfnafdjcncgcnaa
