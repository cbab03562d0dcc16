/- The document's Same of layer 13: two rows of chains. -/
import Derived.Test.YtmflleifglefiaaDRow
import Derived.BigQuiet
import Derived.Deep.QuietTactic
namespace Go.Proofs.Ytmflleifglefiaa
open Go.RowKit
set_option linter.unusedVariables false

theorem chC_at {w : World} {ra : Option Addr} {X : List ChT} (h : Row encC 2 w ra X) {i : Nat} {x : ChT} (hx : X[i]? = some x) : ∃ b o, ra = some ⟨b, o, none⟩ ∧ b < w.heap.size ∧ w.cell? ⟨b, o + i * 2, none⟩ = some (.slice x.1.1 x.2.1.length x.1.2) ∧ w.cell? ⟨b, o + i * 2 + 1, none⟩ = some (.int .i64 x.2.2) := by
  obtain ⟨hi, rfl⟩ := List.getElem?_eq_some_iff.1 hx
  obtain ⟨b, o, e, hb, hc⟩ := h i hi
  exact ⟨b, o, e, hb, hc 0 (by decide), hc 1 (by decide)⟩
/-- What a chain says, apart from where it lies. -/
def sayL (X : List ChT) : List (List Int × Int) := X.map fun x => x.2
theorem say_at {X : List ChT} {i : Nat} (h : i < X.length) : (sayL X)[i]? = some X[i].2 := by unfold sayL; rw [List.getElem?_map, List.getElem?_eq_getElem h]; rfl
theorem say_ne {A B : List ChT} {i : Nat} (ha : i < A.length) (hb : i < B.length) (h : A[i].2 ≠ B[i].2) : decide (sayL A = sayL B) = false := decide_eq_false (fun e => by
  have h1 := say_at ha
  rw [e, say_at hb] at h1
  exact h (Option.some.inj h1).symm)
set_option maxRecDepth 100000 in
set_option maxHeartbeats 8000000 in
theorem rsame13_any (A B : List ChT) (ra rb : Option Addr) (ca cb : Nat) (w : World) (hra : Row encC 2 w ra A) (hrb : Row encC 2 w rb B) (hla : ∀ x ∈ A, Lst encI w x.1.1 x.2.1 ∧ x.2.1.length ≤ 200000) (hlb : ∀ x ∈ B, Lst encI w x.1.1 x.2.1 ∧ x.2.1.length ≤ 200000) (hl : A.length ≤ 200000) (hl2 : B.length ≤ 200000) :
    Calls Try.prog 14 #[.slice ra A.length ca, .slice rb B.length cb] w fun e w' => e = .returned (.bool (decide (sayL A = sayL B))) ∧ Below w.heap.size w w' := by
  have HRA := Lib.hid hra
  have HRB := Lib.hid hrb
  have HLA := Lib.hid hla
  have HLB := Lib.hid hlb
  clear hra hrb hla hlb
  by_cases hn : A.length = B.length
  · have HEX := Lib.hid (fun (h : ∀ i, i < A.length → (sayL A)[i]? = (sayL B)[i]?) => show sayL A = sayL B from List.ext_getElem? (fun i => by
      by_cases hi : i < A.length
      · exact h i hi
      · rw [List.getElem?_eq_none (by unfold sayL; rw [List.length_map]; omega), List.getElem?_eq_none (by unfold sayL; rw [List.length_map]; omega)]))
    obtain ⟨N, hN⟩ : ∃ N, A.length = N := ⟨_, rfl⟩
    rw [hN] at hn hl HEX
    have HNB := Lib.hid hn
    have HNA := Lib.hid hN
    rw [← hn, hN]
    clear hn hN hl2
    go_enter Try.func14, Try.ntmps14
    go_wp2
    go_loopw [5] (fun i wr => ∃ k : Nat, k ≤ N ∧ i = .int .i64 (k : Int) ∧ Hid (∀ i, i < k → (sayL A)[i]? = (sayL B)[i]?) ∧ Hid (Below w.heap.size w wr)) (fun i _ => N - (intOf i).toNat)
    case atStart => exact ⟨0, Nat.zero_le _, rfl, Lib.hid (fun i h => by omega), Lib.hid (Below.refl _ _)⟩
    case round =>
      obtain ⟨k, hk, rfl, HS, HW⟩ := hrel
      by_cases hlt : k < N
      · have hli : (k : Int) < (N : Int) := by omega
        have h1 : k < A.length := by rw [HNA.out]; exact hlt
        have h2 : k < B.length := by rw [← HNB.out]; exact hlt
        obtain ⟨b1, o1, q1, hb1, s1, s2⟩ := chC_at (HRA.out.below' HW.out) (List.getElem?_eq_getElem h1)
        obtain ⟨b2, o2, q2, hb2, t1, t2⟩ := chC_at (HRB.out.below' HW.out) (List.getElem?_eq_getElem h2)
        cases q1
        cases q2
        obtain ⟨l1, m1⟩ := HLA.out _ (List.getElem_mem h1)
        obtain ⟨l2, m2⟩ := HLB.out _ (List.getElem_mem h2)
        have HL1 := Lib.hid (l1.below HW.out)
        have HL2 := Lib.hid (l2.below HW.out)
        have HNE := Lib.hid (fun h => say_ne h1 h2 h)
        have HX := Lib.hid (say_at h1)
        have HY := Lib.hid (say_at h2)
        generalize A[k] = x at *
        generalize B[k] = y at *
        obtain ⟨⟨xa, xc⟩, xl, xn⟩ := x
        obtain ⟨⟨ya, yc⟩, yl, yn⟩ := y
        simp only at s1 s2 t1 t2 m1 m2
        clear h1 h2 l1 l2
        by_cases hnn : xn = yn
        · subst hnn
          by_cases hll : xl.length = yl.length
          · obtain ⟨M, hM⟩ : ∃ M, xl.length = M := ⟨_, rfl⟩
            have HM1 := Lib.hid hM
            have HM2 : Hid (yl.length = M) := Lib.hid (by rw [← hll]; exact hM)
            rw [hM] at s1 m1
            rw [HM2.out] at t1
            clear hM hll m2
            go_wp2_with fail
            go_quiet (fail)
            go_wp2
            obtain ⟨wq, hwq⟩ : ∃ wq, wq = wr.drewN nq := ⟨_, rfl⟩
            rw [← hwq]
            have s1 : wq.cell? ⟨b1, o1 + k * 2, none⟩ = some (.slice xa M xc) := by rw [hwq]; exact s1
            have t1 : wq.cell? ⟨b2, o2 + k * 2, none⟩ = some (.slice ya M yc) := by rw [hwq]; exact t1
            have HWQ : Hid (Below w.heap.size w wq) := Lib.hid (by rw [hwq]; exact below_drewN HW.out _)
            have HL3 : Hid (Lst encI wq xa xl) := Lib.hid (by rw [hwq]; exact HL1.out.below (below_drewN (Below.refl _ _) _))
            have HL4 : Hid (Lst encI wq ya yl) := Lib.hid (by rw [hwq]; exact HL2.out.below (below_drewN (Below.refl _ _) _))
            clear hwq s2 t2
            go_loopw [6] (fun iv wz => ∃ m : Nat, m ≤ M ∧ iv = .int .i64 (m : Int) ∧ Hid (∀ i, i < m → xl[i]? = yl[i]?) ∧ Hid (Below wq.heap.size wq wz)) (fun iv _ => M - (intOf iv).toNat)
            case atStart => exact ⟨0, Nat.zero_le _, rfl, Lib.hid (fun i h => by omega), Lib.hid (Below.refl _ _)⟩
            case round =>
              obtain ⟨m, hm, rfl, HS2, HZ⟩ := hrel
              have s1 := cell_below HZ.out s1
              have t1 := cell_below HZ.out t1
              have HWZ := Lib.hid (HWQ.out.trans (HZ.out.mono HWQ.out.size))
              by_cases hmt : m < M
              · have hmi : (m : Int) < (M : Int) := by omega
                have h3 : m < xl.length := by rw [HM1.out]; exact hmt
                have h4 : m < yl.length := by rw [HM2.out]; exact hmt
                obtain ⟨b3, o3, q3, hb3, c3⟩ := lst_cell (HL3.out.below HZ.out) (List.getElem?_eq_getElem h3)
                obtain ⟨b4, o4, q4, hb4, c4⟩ := lst_cell (HL4.out.below HZ.out) (List.getElem?_eq_getElem h4)
                cases q3
                cases q4
                unfold encI at c3 c4
                have HX2 := Lib.hid (List.getElem?_eq_getElem h3)
                have HY2 := Lib.hid (List.getElem?_eq_getElem h4)
                generalize xl[m] = u at *
                generalize yl[m] = v at *
                clear h3 h4
                by_cases huv : u = v
                · subst huv
                  have HS3 : Hid (∀ i, i < m + 1 → xl[i]? = yl[i]?) := Lib.hid (fun i hi => by
                    by_cases e : i = m
                    · subst e; rw [HX2.out, HY2.out]
                    · exact HS2.out i (by omega))
                  go_wp2_with fail
                  go_quiet (fail)
                  go_wp2
                  go_roundw
                  case rel => exact ⟨m + 1, by omega, by go_num, HS3, Lib.hid (below_drewN HZ.out _)⟩
                  case measure => simp [intOf]; omega
                · have hne : (u != v) = true := by simpa using huv
                  have HF : Hid (decide (sayL A = sayL B) = false) := Lib.hid (HNE.out (fun e => by
                    have e2 : xl = yl := congrArg Prod.fst e
                    have h5 := HX2.out
                    rw [e2, HY2.out] at h5
                    exact huv (Option.some.inj h5).symm))
                  go_wp2_with fail
                  go_quiet (fail)
                  go_wp2
                  go_ret
                  exact ⟨by rw [HF.out]; rfl, below_drewN HWZ.out _⟩
              · have hmi : ¬ (m : Int) < (M : Int) := by omega
                have HEQ : Hid (xl = yl) := Lib.hid (List.ext_getElem? (fun i => by
                  by_cases hi : i < m
                  · exact HS2.out i hi
                  · rw [List.getElem?_eq_none (by rw [HM1.out]; omega), List.getElem?_eq_none (by rw [HM2.out]; omega)]))
                have HS4 : Hid (∀ i, i < k + 1 → (sayL A)[i]? = (sayL B)[i]?) := Lib.hid (fun i hi => by
                  by_cases e : i = k
                  · subst e; rw [HX.out, HY.out, HEQ.out]
                  · exact HS.out i (by omega))
                go_wp2
                go_roundw
                case rel => exact ⟨k + 1, by omega, by go_num, HS4, HWZ⟩
                case measure => simp [intOf]; omega
          · have hne : ((xl.length : Int) != (yl.length : Int)) = true := by simp; omega
            have hne2 : (xl.length != yl.length) = true := by simpa using hll
            have HF : Hid (decide (sayL A = sayL B) = false) := Lib.hid (HNE.out (fun e => hll (by rw [show xl = yl from congrArg Prod.fst e])))
            go_wp2_with fail
            go_quiet (fail)
            go_wp2
            go_ret
            exact ⟨by rw [HF.out]; rfl, below_drewN HW.out _⟩
        · have hne : (xn != yn) = true := by simpa using hnn
          have HF : Hid (decide (sayL A = sayL B) = false) := Lib.hid (HNE.out (fun e => hnn (congrArg Prod.snd e)))
          go_wp2_with fail
          go_quiet (fail)
          go_wp2
          go_ret
          exact ⟨by rw [HF.out]; rfl, below_drewN HW.out _⟩
      · have hli : ¬ (k : Int) < (N : Int) := by omega
        obtain rfl : k = N := by omega
        have HT : Hid (decide (sayL A = sayL B) = true) := Lib.hid (decide_eq_true (HEX.out HS.out))
        go_wp2
        go_ret
        exact ⟨by rw [HT.out]; rfl, HW.out⟩
  · have HF : Hid (decide (sayL A = sayL B) = false) := Lib.hid (decide_eq_false (fun e => hn (by have := congrArg List.length e; unfold sayL at this; rw [List.length_map, List.length_map] at this; exact this)))
    have hf : ((A.length : Int) != (B.length : Int)) = true := by simp; omega
    have hf2 : (A.length != B.length) = true := by simpa using hn
    generalize A.length = x at *
    generalize B.length = y at *
    go_enter Try.func14, Try.ntmps14
    go_wp2
    go_ret
    exact ⟨by rw [HF.out]; rfl, Below.refl _ _⟩
end Go.Proofs.Ytmflleifglefiaa
