/- Steps one behind the other, of any numbers: the statement's own Trail. -/
import Derived.Test.YtiefphkfddecbaaSStps
import Derived.Test.YtiefphkfddecbaaSLaws
namespace Go.Proofs.Ytiefphkfddecbaa
open Go.RowKit
set_option linter.unusedVariables false

theorem begI_from {n : Int} {b : Bool} {Z : List ArcT} (hR : Right (n, b, Z)) {j : Nat} {a : ArcT} (ha : Z[j]? = some a) (q : Bool) : begI a q = (fromS Z ((j : Int), q) : Int) ∧ endI a q = (toS Z ((j : Int), q) : Int) := by
  have e : arcOf Z ((j : Int), q) = a := by unfold arcOf; simp [List.getD_eq_getElem?_getD, ha]
  obtain ⟨h1, h2, _⟩ := right_arc hR (List.mem_of_getElem? ha)
  unfold fromS toS
  rw [e]
  cases q
  · exact ⟨by simp [begI]; exact h1, by simp [endI]; exact h2⟩
  · exact ⟨by simp [begI]; exact h2, by simp [endI]; exact h1⟩
theorem pick_and (p : Int) : ∃ r : Nat, r < 1024 ∧ bits .and .i64 p 1023 = (r : Int) := by
  have h := i64_and_mask p 10 (by omega)
  have b1 := Int.emod_nonneg p (show ((2 ^ 10 : Nat) : Int) ≠ 0 by omega)
  have b2 := Int.emod_lt_of_pos p (show (0 : Int) < ((2 ^ 10 : Nat) : Int) by omega)
  refine ⟨(p % ((2 ^ 10 : Nat) : Int)).toNat, by omega, ?_⟩
  have e : bits .and .i64 p 1023 = p % ((2 ^ 10 : Nat) : Int) := h
  rw [e]; omega
theorem OwnS.rowK {w : World} {base : Nat} {ao : Option Addr} {n cap : Nat} {L : List StepT} (h : OwnS w base (.slice ao n cap) L) : Row encS 2 w ao L := by
  obtain ⟨ao', cap', e, hl⟩ := h.row
  injection e with h1 h2 h3
  subst h1
  exact hl
def TrailV (Z : List ArcT) (u : Nat) (w : World) (e : Ending) (w' : World) : Prop :=
  ∃ (L : List StepT) (v : Nat) (a : Option Addr) (c : Nat), e = .returned (.tuple #[.slice a L.length c, .int .i64 (v : Int)]) ∧ Row encS 2 w' a L ∧ L.length ≤ 20 ∧ Trail Z u L v ∧ Below w.heap.size w w'
section
variable (n : Int) (b : Bool) (ao fo po : Option Addr) (cap fc pc : Nat) (Z : List ArcT) (F P : List Int)
set_option maxRecDepth 100000 in
set_option maxHeartbeats 8000000 in
theorem trail_any (u : Nat) (w : World) (h : Row encA 4 w ao Z) (hf : Lst encI w fo F) (hp : Lst encI w po P) (hpl : P.length ≤ maxLen) (he : flowE n Z F = 0) :
    Calls Try.prog 22 #[.agg #[.int .i64 n, .bool b, .slice ao Z.length cap], .slice fo F.length fc, .int .i64 (u : Int), .slice po P.length pc] w (TrailV Z u w) := by
  obtain ⟨hR, hF, hzl, hfl, hn1, hn2⟩ := flow_facts (b := b) he
  unfold maxLen at hpl
  have hb00 := (Below.refl _ w).alloc (Nat.le_refl _) (.cells #[.int .i64 n, .bool b, .slice ao Z.length cap] 24)
  have HB0 := Lib.hid hb00
  have c0 := cell_new w #[.int .i64 n, .bool b, .slice ao Z.length cap] 24 0
  have c1 := cell_new w #[.int .i64 n, .bool b, .slice ao Z.length cap] 24 1
  have c2 := cell_new w #[.int .i64 n, .bool b, .slice ao Z.length cap] 24 2
  have HR := Lib.hid (h.below' hb00)
  have HF := Lib.hid (hf.below hb00)
  have HP := Lib.hid (hp.below hb00)
  have HRT := Lib.hid hR
  have HFL := Lib.hid hF
  have HL := Lib.hid hfl
  obtain ⟨A, hA⟩ : ∃ A, stepsK Z F Z.length = A := ⟨_, rfl⟩
  have HA := Lib.hid hA
  have hAl : A.length ≤ 400 := by rw [← hA]; have := stepsK_len Z F Z.length; omega
  have HAM : Hid (∀ x ∈ A, isArc Z x) := Lib.hid (fun x hx => by rw [← hA] at hx; exact ((stepsK_mem (Nat.le_refl _)).1 hx).1)
  clear h hf hp hb00 hR hF hfl hA he
  go_enter Try.func22, Try.ntmps22
  go_wp2
  generalize w.alloc (.cells #[.int .i64 n, .bool b, .slice ao Z.length cap] 24) = w1 at *
  have hcc := block_lt_of_cell c0
  simp only at hcc
  go_loopw [10, 11, 12] (fun ov av iv wr => ∃ (m : Nat) (L : List StepT) (v : Nat), m ≤ 20 ∧ m ≤ P.length ∧ iv = .int .i64 (m : Int) ∧ av = .int .i64 (v : Int) ∧ Hid (Below w1.heap.size w1 wr) ∧ Hid (OwnS wr w1.heap.size ov L) ∧ Hid (Trail Z u L v) ∧ L.length ≤ m) (fun _ _ iv _ => 20 - (intOf iv).toNat)
  case atStart => exact ⟨0, [], u, Nat.zero_le _, Nat.zero_le _, rfl, rfl, Lib.hid (Below.refl _ _), Lib.hid (OwnS.nil _ _), Lib.hid rfl, Nat.le_refl _⟩
  case round =>
    obtain ⟨m, L, v, hm, hmP, rfl, rfl, HB, HO, HT, hLm⟩ := hrel
    obtain ⟨wo, hwo⟩ : ∃ wo, wo = wr := ⟨_, rfl⟩
    subst hwo
    have hso := HB.out.size
    have d0 := cell_below' HB.out c0 hcc
    have d1 := cell_below' HB.out c1 hcc
    have d2 := cell_below' HB.out c2 hcc
    obtain ⟨oa, oc, hov, horow⟩ := HO.out.row
    by_cases hlt : m < P.length ∧ m < 20
    · obtain ⟨hlP, hl20⟩ := hlt
      have hlPi : (m : Int) < (P.length : Int) := by omega
      have hl20i : (m : Int) < 20 := by omega
      subst hov
      clear horow
      go_wp2_with (first
        | (go_at_call 39; refine (rsteps_any n b ao fo cap fc Z F _ (HR.out.below' HB.out) (HF.out.below HB.out) HL.out (by omega)).mono ?_; rintro e w2 ⟨sa, sc, rfl, hsr, hb2⟩; rw [HA.out] at hsr ⊢; have HSR := Lib.hid hsr; have HB2 := Lib.hid (HB.out.trans (hb2.mono hso)); have HO2 := Lib.hid (HO.out.below hb2); have hs2 := hb2.size; clear hsr hb2))
      have e0 := cell_below' HB2.out c0 hcc
      have e1 := cell_below' HB2.out c1 hcc
      have e2 := cell_below' HB2.out c2 hcc
      have hcc2 : w.heap.size < w2.heap.size := by omega
      clear d0 d1 d2
      go_loopw [13, 15] (fun lv kv wi => ∃ (k : Nat) (M : List StepT), k ≤ A.length ∧ kv = .int .i64 (k : Int) ∧ Hid (Below w2.heap.size w2 wi) ∧ Hid (OwnS wi w2.heap.size lv M) ∧ Hid (∀ y ∈ M, isArc Z y ∧ fromS Z y = v) ∧ M.length ≤ k) (fun _ kv _ => A.length - (intOf kv).toNat)
      case atStart => exact ⟨0, [], Nat.zero_le _, rfl, Lib.hid (Below.refl _ _), Lib.hid (OwnS.nil _ _), Lib.hid (fun y hy => by cases hy), Nat.le_refl _⟩
      case round =>
        obtain ⟨k, M, hk, rfl, HBI, HOI, HMM, hMk⟩ := hrel
        have hsi := HBI.out.size
        have f0 := cell_below' HBI.out e0 hcc2
        have f1 := cell_below' HBI.out e1 hcc2
        have f2 := cell_below' HBI.out e2 hcc2
        obtain ⟨la, lc, hlv, hlrow⟩ := HOI.out.row
        subst hlv
        by_cases hkA : k < A.length
        · have hkAi : (k : Int) < (A.length : Int) := by omega
          obtain ⟨sb, sx, e, hsb, s0, s1⟩ := step_at (HSR.out.below' HBI.out) (List.getElem?_eq_getElem hkA)
          cases e
          have hisA := HAM.out _ (List.getElem_mem hkA)
          have HHR := Lib.hid ((HR.out.below' HB2.out).below' HBI.out)
          generalize A[k] = y at *
          obtain ⟨yi, q⟩ := y
          obtain ⟨j, hyj, hj⟩ := isArc_nat hisA
          subst hyj
          simp only at s0 s1
          have ha : Z[j]? = some Z[j] := List.getElem?_eq_getElem hj
          have HAJ := Lib.hid ha
          have HBE := Lib.hid (begI_from HRT.out ha q).1
          have HIS := Lib.hid hisA
          generalize Z[j] = a at *
          obtain ⟨x, hx⟩ : ∃ x, fromS Z ((j : Int), q) = x := ⟨_, rfl⟩
          rw [hx] at HBE
          have HX := Lib.hid hx
          have hMl : M.length ≤ 200000 := by omega
          have r0 : wr.drew.cell? ⟨w.heap.size, 0, none⟩ = some (.int .i64 n) := f0
          have r1 : wr.drew.cell? ⟨w.heap.size, 1, none⟩ = some (.bool b) := f1
          have r2 : wr.drew.cell? ⟨w.heap.size, 2, none⟩ = some (.slice ao Z.length cap) := f2
          have r3 : wr.drew.cell? ⟨sb, sx + k * 2, none⟩ = some (.int .i64 (j : Int)) := s0
          have r4 : wr.drew.cell? ⟨sb, sx + k * 2 + 1, none⟩ = some (.bool q) := s1
          have HBx := Lib.hid (below_drew HBI.out)
          have HRx : Hid (Row encA 4 wr.drew ao Z) := Lib.hid (HHR.out.below' (below_drew (Below.refl _ _)))
          have HOx : Hid (OwnS wr.drew w2.heap.size (.slice la M.length lc) M) := Lib.hid (HOI.out.below (below_drew (Below.refl _ _)))
          clear hisA ha hx hlrow HHR
          go_wp2_with fail
          go_region_held3 (fun W => W.cell? ⟨w.heap.size, 0, none⟩ = some (.int .i64 n) ∧ W.cell? ⟨w.heap.size, 1, none⟩ = some (.bool b) ∧ W.cell? ⟨w.heap.size, 2, none⟩ = some (.slice ao Z.length cap) ∧ W.cell? ⟨sb, sx + k * 2, none⟩ = some (.int .i64 (j : Int)) ∧ W.cell? ⟨sb, sx + k * 2 + 1, none⟩ = some (.bool q)) (first | exact ⟨f0, f1, f2, s0, s1⟩ | exact ⟨r0, r1, r2, r3, r4⟩ | go_keep)
            (first | (go_at_call 40; refine (rfrom_at n b ao cap Z j q a _ HRx.out HAJ.out hzl).mono ?_; rintro e w6 ⟨rfl, b6⟩; rw [HBE.out]; have r0 := cell_below b6 r0; have r1 := cell_below b6 r1; have r2 := cell_below b6 r2; have r3 := cell_below b6 r3; have r4 := cell_below b6 r4; have HBx := Lib.hid (HBx.out.trans (b6.mono HBx.out.size)); have HOx := Lib.hid (HOx.out.below b6); clear b6))
          all_goals
            clear f0 f1 f2 s0 s1
            by_cases hxv : x = v
            · subst hxv
              have HO7 := Lib.hid (HOx.out.alloc (.cells #[.int .i64 (j : Int), .bool q] 36))
              have hs6 := HBx.out.size
              go_wp2_with (first
                | (at_builtin; refine wpList_append_step rfl _ _ rfl w2.heap.size _ M ((j : Int), q) rfl HO7.out _ 1 rfl (cells2 _ _ _ (by simp) _ _) hMl (by simp; omega) ?_; intro g8 cap8 w8 ho8 hg8 hl8 hb8 hlt8; have HO8 := Lib.hid ho8; have HB8 := Lib.hid (below_grown (HBx.out.alloc hs6 (.cells #[.int .i64 (j : Int), .bool q] 36)) (by simp; omega) hg8 (fun g e => own_block HO7.out e)); clear ho8 hg8 hl8))
              go_roundw
              case rel => exact ⟨k + 1, _, by omega, by go_num, HB8, HO8, Lib.hid (fun y hy => by rw [List.mem_append, List.mem_singleton] at hy; rcases hy with hy | rfl; exact HMM.out y hy; exact ⟨HIS.out, HX.out⟩), by simp; omega⟩
              case measure => simp [intOf]; omega
            · have g1 : ((x : Int) == (v : Int)) = false := by simp; omega
              have g2 : (x == v) = false := by simp; omega
              clear hxv
              go_wp2
              go_roundw
              case rel => exact ⟨k + 1, M, by omega, by go_num, HBx, HOx, HMM, by omega⟩
              case measure => simp [intOf]; omega
        · have hkAi : ¬ (k : Int) < (A.length : Int) := by omega
          have HOw := Lib.hid (HO2.out.below HBI.out)
          have HBw := Lib.hid (HB2.out.trans (HBI.out.mono HB2.out.size))
          by_cases hM0 : M.length = 0
          · have hM1 : ((M.length : Int) == 0) = true := by rw [hM0]; rfl
            have hM2 : (M.length : Int) = 0 := by omega
            have HM0 := Lib.hid hM0
            clear hM0 hM2 hlrow
            obtain rfl : M = [] := List.eq_nil_of_length_eq_zero HM0.out
            go_wp2
            go_ret2
            exact ⟨L, v, oa, oc, rfl, HOw.out.rowK, by omega, HT.out, HB0.out.trans (HBw.out.mono HB0.out.size)⟩
          · have hM1 : ((M.length : Int) == 0) = false := by rw [beq_eq_false_iff_ne]; omega
            have hM3 : ¬ M = [] := fun e => hM0 (by rw [e]; rfl)
            have hMp : 0 < M.length := by omega
            obtain ⟨pb, px, e, hpb, p0⟩ := lst_cell (HP.out.below HBw.out) (List.getElem?_eq_getElem hlP)
            cases e
            unfold encI at p0
            generalize P[m] = pv at *
            obtain ⟨r, hr, hand⟩ := pick_and pv
            obtain ⟨y, hy⟩ : ∃ y, r % M.length = y := ⟨_, rfl⟩
            have hyM : y < M.length := by rw [← hy]; exact Nat.mod_lt _ hMp
            have hyi : (y : Int) < (M.length : Int) := by omega
            have hmod1 : ((r : Nat) : Int) % (M.length : Int) = (y : Int) := by rw [← hy]; simp
            have hmod2 : ((r : Nat) : Int).tmod (M.length : Int) = (y : Int) := by rw [Int.tmod_eq_emod_of_nonneg (by omega)]; exact hmod1
            obtain ⟨lb, lx, e, hlb, s0, s1⟩ := step_at hlrow (List.getElem?_eq_getElem hyM)
            cases e
            have hmy := HMM.out _ (List.getElem_mem hyM)
            generalize M[y] = z at *
            obtain ⟨zi, q⟩ := z
            obtain ⟨hisA, hfv⟩ := hmy
            obtain ⟨j, hzj, hj⟩ := isArc_nat hisA
            subst hzj
            simp only at s0 s1
            have ha : Z[j]? = some Z[j] := List.getElem?_eq_getElem hj
            have HAJ := Lib.hid ha
            have HEN := Lib.hid (begI_from HRT.out ha q).2
            have HTS := Lib.hid (trail_snoc HT.out hfv hisA)
            generalize Z[j] = a at *
            generalize toS Z ((j : Int), q) = v2 at *
            have hroom : L.length ≤ 200000 := by omega
            have hob : ∀ g, (Value.slice oa L.length oc).ownBlock = some g → w1.heap.size ≤ g ∧ g < wr.heap.size := fun g e => ⟨own_block HOw.out e, own_lt HOw.out e⟩
            have HOB := Lib.hid hob
            have HX0 := Lib.hid (alloc_whole (heap_alloc_new wr (.cells #[.int .i64 (j : Int), .bool q] 36)) (.cells #[.int .i64 (j : Int), .bool q] 36))
            have HO9 := Lib.hid ((HOw.out.alloc (.cells #[.int .i64 (j : Int), .bool q] 36)).alloc (.cells #[.int .i64 (j : Int), .bool q] 36))
            have hsw := HBw.out.size
            clear hM0 hy hlrow hfv hisA ha hob
            go_wp2_with (first
              | (at_builtin; refine wpList_append_step rfl _ _ rfl w1.heap.size _ L ((j : Int), q) rfl HO9.out _ 1 rfl (cells2 _ _ _ (by simp) _ _) hroom (by simp; omega) ?_; intro g8 cap8 w8 ho8 hg8 hl8 hb8 hlt8; have HOA := Lib.hid ho8; have HBA := Lib.hid (below_grown ((HBw.out.alloc hsw (.cells #[.int .i64 (j : Int), .bool q] 36)).alloc (by simp; omega) (.cells #[.int .i64 (j : Int), .bool q] 36)) (by simp; omega) hg8 (fun g e => (HOB.out g e).1)); have hx8 := (hg8.block wr.heap.size (by simp; omega) (fun e => by have := (HOB.out _ e.symm).2; omega)).trans HX0.out; have t0 := cell_whole hx8 0; have t1 := cell_whole hx8 1; have n0 := cell_below' HBA.out c0 hcc; have n1 := cell_below' HBA.out c1 hcc; have n2 := cell_below' HBA.out c2 hcc; clear ho8 hg8 hl8 hx8)
              | (go_at_call 41; refine (rto_at n b ao cap Z j q a _ (HR.out.below' HBA.out) HAJ.out hzl).mono ?_; rintro e w9 ⟨rfl, b9⟩; rw [HEN.out]; have HBB := Lib.hid (HBA.out.trans (b9.mono HBA.out.size)); have HOC := Lib.hid (HOA.out.below b9); clear b9))
            go_roundw
            case rel => exact ⟨m + 1, _, v2, by omega, by omega, by go_num, rfl, HBB, HOC, HTS, by simp; omega⟩
            case measure => simp [intOf]; omega
    · subst hov
      have HRW := Lib.hid horow
      clear horow d0 d1 d2
      by_cases hlP : m < P.length
      · have hlPi : (m : Int) < (P.length : Int) := by omega
        have hl20i : ¬ (m : Int) < 20 := by omega
        clear hlt
        go_wp2
        go_ret2
        exact ⟨L, v, oa, oc, rfl, HRW.out, by omega, HT.out, HB0.out.trans (HB.out.mono HB0.out.size)⟩
      · have hlPi : ¬ (m : Int) < (P.length : Int) := by omega
        clear hlt
        go_wp2
        go_ret2
        exact ⟨L, v, oa, oc, rfl, HRW.out, by omega, HT.out, HB0.out.trans (HB.out.mono HB0.out.size)⟩
end
end Go.Proofs.Ytiefphkfddecbaa
