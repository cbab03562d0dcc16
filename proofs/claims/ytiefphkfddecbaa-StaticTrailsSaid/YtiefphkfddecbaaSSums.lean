/- StaticSums: balances add up to 0. -/
import Derived.Test.YtiefphkfddecbaaSLaws
namespace Go.Proofs.Ytiefphkfddecbaa
open Go.RowKit
set_option linter.unusedVariables false

theorem sumTo_bd {g : Nat → Int} {M : Int} (h : ∀ v, -M ≤ g v ∧ g v ≤ M) : ∀ n : Nat, -(n * M) ≤ sumTo g n ∧ sumTo g n ≤ n * M
  | 0 => by simp [sumTo]
  | n + 1 => by
    have ih := sumTo_bd h n
    have h1 := h n
    rw [Int.natCast_add, Int.add_mul]
    simp only [sumTo]
    simp
    omega
theorem bals_at {n : Int} {Z : List ArcT} {F L : List Int} {N : Nat} (h : flowE n Z F = 0) (hL : balsL n Z F = L) (hN : n = (N : Int)) : L.length = N ∧ ∀ v, v < N → L[v]? = some (bal Z F v) := by
  have e : L = balL Z F N Z.length := by rw [← hL]; unfold balsL; rw [if_pos h, hN, Int.toNat_natCast]
  refine ⟨by rw [e, balL_len], fun v hv => ?_⟩
  have := atI_get (d := L) (v := v) (by rw [e, balL_len]; exact hv)
  rw [e] at this ⊢
  rw [this, balL_at _ _ _ hv]; rfl
section
variable (n : Int) (b : Bool) (ao fo : Option Addr) (len cap fl fc : Nat) (Z : List ArcT) (F : List Int)
set_option maxRecDepth 100000 in
set_option maxHeartbeats 4000000 in
theorem sums_law (s t : Int) (w : World) (hl : Z.length = len) (hm : len ≤ maxLen) (hr : Row encA 4 w ao Z) (hl2 : F.length = fl) (hm2 : fl ≤ maxLen) (hf : Lst encI w fo F) :
    Calls Try.prog 6 #[.agg #[.int .i64 n, .bool b, .slice ao len cap], .int .i64 s, .int .i64 t, .slice fo fl fc] w fun e w' => e = .returned (.bool true) ∧ Below w.heap.size w w' := by
  subst hl
  subst hl2
  have hb00 := (Below.refl _ w).alloc (Nat.le_refl _) (.cells #[.int .i64 n, .bool b, .slice ao Z.length cap] 24)
  have HB := Lib.hid hb00
  have HN := Lib.hid (heap_alloc_new w (.cells #[.int .i64 n, .bool b, .slice ao Z.length cap] 24))
  have HR := Lib.hid (hr.below' hb00)
  have HF := Lib.hid (hf.below hb00)
  have HM := Lib.hid hm
  have HM2 := Lib.hid hm2
  obtain ⟨L, hL⟩ : ∃ k, balsL n Z F = k := ⟨_, rfl⟩
  have HL := Lib.hid hL
  clear hr hf hm hm2 hb00
  by_cases h1 : flowE n Z F = 0
  · have HE := Lib.hid h1
    obtain ⟨hR, hF, hzl, hfl, hn1, hn2⟩ := flow_facts (b := b) h1
    obtain ⟨N, rfl⟩ : ∃ N : Nat, n = (N : Int) := ⟨n.toNat, by omega⟩
    obtain ⟨hLN, hLat⟩ := bals_at h1 hL rfl
    have hsum : sumTo (bal Z F) N = 0 := bal_sum (by have := right_ends hR; simpa using this)
    have HSUM := Lib.hid hsum
    have HLA := Lib.hid hLat
    have HBD : Hid (∀ v, -209715200 ≤ bal Z F v ∧ bal Z F v ≤ 209715200) := Lib.hid (fun v => bal_bd hR hF v (Nat.le_refl _))
    obtain ⟨vk, hvk⟩ : ∃ k, valK (N : Int) Z s t F = k := ⟨_, rfl⟩
    obtain ⟨ve, hve⟩ : ∃ k, valE (N : Int) Z s t F = k := ⟨_, rfl⟩
    have HVK := Lib.hid hvk
    have HVE := Lib.hid hve
    have HLN := Lib.hid hLN
    have hLl : L.length ≤ 50 := by omega
    have hLb : (L.length : Int) = (N : Int) := by rw [hLN]
    have q1 : ((L.length : Int) != (N : Int)) = false := by simp; omega
    have q2 : (L.length != N) = false := by simp; omega
    clear h1 hL hR hF hsum hLat hfl hLN hLb
    have HC : Hid (ve = 0 → ∃ i j : Nat, s = (i : Int) ∧ t = (j : Int) ∧ i < N ∧ j < N ∧ bal Z F i = vk ∧ bal Z F j = - vk) := Lib.hid (fun h0 => by
      obtain ⟨h2, h3, h4⟩ := valE_ok (hve.trans h0)
      obtain ⟨_, i, j, rfl, rfl, hi, hj, hij⟩ := endsE_ok h2
      rw [Int.toNat_natCast] at hi hj
      have e1 : bal Z F i = vk := by rw [← hvk]; unfold valK; rw [if_pos (hve.trans h0), Int.toNat_natCast]
      have e2 := sum_two (g := bal Z F) hi hj hij (fun v hv h5 h6 => by
        have := restB_at h4 v (bal Z F v) (by rw [HL.out]; exact HLA.out v hv)
        rw [Nat.zero_add] at this
        omega)
      rw [HSUM.out] at e2
      exact ⟨i, j, rfl, rfl, hi, hj, e1, by omega⟩)
    have HK0 : Hid (ve ≠ 0 → vk = 0) := Lib.hid (fun h0 => by rw [← hvk]; exact valK_no (by rw [hve]; exact h0))
    clear hvk hve
    go_enter Try.func6, Try.ntmps6
    go_wp2_with (first
      | (go_at_call 12; refine (sawake_any _).mono ?_; rintro e w1 ⟨rfl, hb1⟩; have hn1 := kept_box HN.out hb1; have HN := Lib.hid hn1; have HR := Lib.hid (HR.out.below' hb1); have HF := Lib.hid (HF.out.below hb1); have HB := Lib.hid (HB.out.trans (hb1.mono HB.out.size)); have x1 := cell_whole hn1 0; have y1 := cell_whole hn1 1; have z1 := cell_whole hn1 2; clear hb1 hn1)
      | (go_at_call 8; refine (balance_is (N : Int) b ao fo cap fc Z F 0 L _ HR.out HF.out HM.out HM2.out HE.out HL.out).mono ?_; rintro e w2 ⟨a1, c1, rfl, hl1, hb1⟩; have hn1 := kept_box HN.out hb1; have HN := Lib.hid hn1; have HR := Lib.hid (HR.out.below' hb1); have HF := Lib.hid (HF.out.below hb1); have HB := Lib.hid (HB.out.trans (hb1.mono HB.out.size)); have x2 := cell_whole hn1 0; have y2 := cell_whole hn1 1; have z2 := cell_whole hn1 2; have HL1 := Lib.hid hl1; clear hb1 hn1 hl1 x1 y1 z1))
    go_loop [12, 13] (fun x i => ∃ v : Nat, v ≤ L.length ∧ i = .int .i64 (v : Int) ∧ x = .int .i64 (sumTo (bal Z F) v)) (fun _ i => L.length - (intOf i).toNat)
    case atStart => exact ⟨0, Nat.zero_le _, rfl, rfl⟩
    case round =>
      obtain ⟨v, hv, rfl, rfl⟩ := hrel
      have hbd := sumTo_bd HBD.out v
      by_cases hlt : v < L.length
      · have hli : (v : Int) < (L.length : Int) := by omega
        have hvN : v < N := by rw [← HLN.out]; exact hlt
        obtain ⟨lb, lx, e, hlb, d0⟩ := lst_cell HL1.out (HLA.out v hvN)
        cases e
        unfold encI at d0
        have hb2 := HBD.out v
        have HS : Hid (sumTo (bal Z F) (v + 1) = sumTo (bal Z F) v + bal Z F v) := Lib.hid rfl
        generalize bal Z F v = y at *
        generalize sumTo (bal Z F) v = x at *
        have g1 : -10485760000 ≤ x := by omega
        have g2 : x ≤ 10485760000 := by omega
        have g3 := hb2.1
        have g4 := hb2.2
        clear hb2 hbd
        go_wp2
        go_round
        case rel => exact ⟨v + 1, by omega, by go_num, by rw [HS.out]⟩
        case measure => simp [intOf]; omega
      · have hli : ¬ (v : Int) < (L.length : Int) := by omega
        obtain rfl : v = L.length := by omega
        rw [HLN.out, HSUM.out]
        rw [← HLN.out]
        clear hbd
        by_cases h0 : ve = 0
        · subst h0
          obtain ⟨i, j, rfl, rfl, hi, hj, e1, e2⟩ := HC.out rfl
          obtain ⟨lb, lx, e, hlb, d0⟩ := lst_cell HL1.out (HLA.out i hi)
          cases e
          obtain ⟨lb2, lx2, e, hlb2, d1⟩ := lst_cell HL1.out (HLA.out j hj)
          cases e
          unfold encI at d0 d1
          rw [e1] at d0
          rw [e2] at d1
          have hkb := HBD.out i
          rw [e1] at hkb
          have g1 := hkb.1
          have g2 := hkb.2
          have hil : (i : Int) < (L.length : Int) := by rw [HLN.out]; omega
          have hjl : (j : Int) < (L.length : Int) := by rw [HLN.out]; omega
          have hil2 : i < L.length := by omega
          have hjl2 : j < L.length := by omega
          clear e1 e2 hkb HC HK0
          go_wp2_with (first
            | (go_at_call 10; refine (scheck_any (N : Int) b ao fo cap fc Z (i : Int) (j : Int) F _ HR.out HF.out HM.out HM2.out).mono ?_; rintro e w3 ⟨rfl, hb2⟩; rw [HVK.out, HVE.out]; have f0 := cell_below hb2 d0; have f1 := cell_below hb2 d1; have HB := Lib.hid (HB.out.trans (hb2.mono HB.out.size)); clear hb2 d0 d1))
          go_ret
          exact ⟨by simp, HB.out⟩
        · have hvk0 := HK0.out h0
          subst hvk0
          have hf2 : (ve != 0) = true := by simpa using h0
          have hf1 : (ve == 0) = false := by simpa using h0
          clear h0 HC HK0
          go_wp2_with (first
            | (go_at_call 10; refine (scheck_any (N : Int) b ao fo cap fc Z s t F _ HR.out HF.out HM.out HM2.out).mono ?_; rintro e w3 ⟨rfl, hb2⟩; rw [HVK.out, HVE.out]; have HB := Lib.hid (HB.out.trans (hb2.mono HB.out.size)); clear hb2))
          go_ret
          exact ⟨rfl, HB.out⟩
  · have HL0 : Hid (L.length = 0) := Lib.hid (by rw [← hL]; unfold balsL; rw [if_neg h1]; rfl)
    obtain ⟨e0, he0⟩ : ∃ k, flowE n Z F = k := ⟨_, rfl⟩
    rw [he0] at h1
    have HE := Lib.hid he0
    have hf2 : (e0 != 0) = true := by simpa using h1
    have hf1 : (e0 == 0) = false := by simpa using h1
    clear hL h1 he0
    go_enter Try.func6, Try.ntmps6
    go_wp2_with (first
      | (go_at_call 12; refine (sawake_any _).mono ?_; rintro e w1 ⟨rfl, hb1⟩; have hn1 := kept_box HN.out hb1; have HR := Lib.hid (HR.out.below' hb1); have HF := Lib.hid (HF.out.below hb1); have HB := Lib.hid (HB.out.trans (hb1.mono HB.out.size)); have x1 := cell_whole hn1 0; have y1 := cell_whole hn1 1; have z1 := cell_whole hn1 2; clear hb1 hn1)
      | (go_at_call 8; refine (balance_is n b ao fo cap fc Z F e0 L _ HR.out HF.out HM.out HM2.out HE.out HL.out).mono ?_; rintro e w2 ⟨a1, c1, rfl, hl1, hb1⟩; rw [HL0.out]; have HB := Lib.hid (HB.out.trans (hb1.mono HB.out.size)); clear hb1 hl1 x1 y1 z1))
    go_ret
    exact ⟨rfl, HB.out⟩
end
end Go.Proofs.Ytiefphkfddecbaa
