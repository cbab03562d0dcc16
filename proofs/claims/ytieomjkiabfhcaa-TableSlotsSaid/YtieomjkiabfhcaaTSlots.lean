/- What the document's Slots does, and the walk of statement TableSlots. -/
import Derived.Test.YtieomjkiabfhcaaTRslots
import Derived.IntWalk
namespace Go.Proofs.Ytieomjkiabfhcaa
open Go.RowKit
set_option linter.unusedVariables false

theorem beq2 {a b x y : Int} (h : (a, b) = (x, y)) : (a == x && b == y) = true := by cases h; simp
theorem beq2n {a b x y : Int} (h : (a, b) ≠ (x, y)) : (a == x && b == y) = false := by
  rw [Bool.eq_false_iff]; intro e; simp at e; apply h; rw [e.1, e.2]
theorem ltS_iff (a b x y : Int) : ltK (kS (a, b)) (kS (x, y)) = true ↔ (b < y ∨ b = y ∧ a < x) := by rw [ltK_iff]; simp [kS]
def memB (x : Int × Int) (l : List (Int × Int)) : Bool := decide (x ∈ l)
theorem memB_yes {x : Int × Int} {l : List (Int × Int)} : memB x l = true ↔ x ∈ l := by unfold memB; exact decide_eq_true_iff
theorem memB_no {x : Int × Int} {l : List (Int × Int)} : memB x l = false ↔ x ∉ l := by unfold memB; exact decide_eq_false_iff_not
theorem memB_step {l : List (Int × Int)} {k : Nat} {y x : Int × Int} (h : l[k]? = some y) : (y = x → memB x (l.take (k + 1)) = true) ∧ (y ≠ x → memB x (l.take (k + 1)) = memB x (l.take k)) ∧ (memB x (l.take k) = true → memB x (l.take (k + 1)) = true) := by
  rw [take_snoc' h]
  refine ⟨fun e => memB_yes.2 (by simp [e]), fun e => ?_, fun e => memB_yes.2 (List.mem_append_left _ (memB_yes.1 e))⟩
  rw [Bool.eq_iff_iff, memB_yes, memB_yes]
  simp [Ne.symm e]
set_option maxRecDepth 100000 in
set_option maxHeartbeats 4000000 in
theorem rslots_some (ad : Addr) (cap : Nat) (Z : List (Int × Int)) (w : World) (h : Row encP 2 w (some ad) Z) (hn : Z.length ≤ 200) :
    Calls Try.prog 28 #[.slice (some ad) Z.length cap] w (SlotsRes Z w) := by
  have HR := Lib.hid h
  clear h
  go_enter Try.func28, Try.ntmps28
  go_wp2
  go_loopw [3, 4] (fun ov si wr => ∃ (i : Nat) (M : List (Int × Int)), i ≤ Z.length ∧ M.length ≤ i ∧ Hid (Below w.heap.size w wr) ∧ Hid (wr.ownsRow w.heap.size 74 2 ov M.length (M.flatMap encP)) ∧ Hid (M.Perm (firsts (Z.take i))) ∧ Hid (Sorted kS M) ∧ si = .int .i64 (i : Int)) (fun _ si _ => Z.length - (intOf si).toNat)
  case atStart => exact ⟨0, [], by omega, by simp, Lib.hid (Below.refl _ _), Lib.hid (World.ownsRow_nil _ _ _ _), Lib.hid (List.Perm.refl _), Lib.hid List.Pairwise.nil, rfl⟩
  case round =>
    obtain ⟨i, M, hi, hMi, HB, HO, HP, HSO, rfl⟩ := hrel
    obtain ⟨wo, hwo⟩ : ∃ wo, wo = wr := ⟨_, rfl⟩
    subst hwo
    obtain ⟨oa, oc, rfl, hor, hof⟩ := own_row encP_len HO.out
    have HOR := Lib.hid hor
    clear hor hof
    by_cases hlt : i < Z.length
    · have hli : (i : Int) < (Z.length : Int) := by omega
      obtain ⟨ab, ax, e, hab, d0, d1⟩ := (HR.out.below' HB.out).pair hlt
      cases e
      have hez : Z[i]? = some Z[i] := List.getElem?_eq_getElem hlt
      generalize Z[i] = z at *
      obtain ⟨xn, xa⟩ := z
      simp only at d0 d1
      have HEZ := Lib.hid hez
      clear hez
      go_wp2
      go_loopw [5, 6] (fun hv sk wi => ∃ (k q : Nat) (hd : Bool), k ≤ M.length ∧ Hid (hd = memB (xn, xa) (M.take k)) ∧ Hid (wi = wo.drewN q) ∧ hv = .bool hd ∧ sk = .int .i64 (k : Int)) (fun _ sk _ => M.length - (intOf sk).toNat)
      case atStart => exact ⟨0, 0, false, by omega, Lib.hid (memB_no.2 (by simp)).symm, Lib.hid rfl, rfl, rfl⟩
      case round =>
        obtain ⟨k, q, hd, hk, HD, HQ, rfl, rfl⟩ := hrel
        by_cases hlk : k < M.length
        · have hlkI : (k : Int) < (M.length : Int) := by omega
          have HMS := Lib.hid (memB_step (x := (xn, xa)) (List.getElem?_eq_getElem hlk))
          obtain ⟨ob, ox, e, _, c0, c1⟩ := HOR.out.pair hlk
          cases e
          generalize M[k] = y at *
          obtain ⟨yn, ya⟩ := y
          simp only at c0 c1
          have c0' := cell_drew HQ.out c0
          have c1' := cell_drew HQ.out c1
          have d0' := cell_drew HQ.out d0
          have d1' := cell_drew HQ.out d1
          have eqs := fun W => eq_slot yn ya xn xa W
          cases hd
          · have e1 : (yn, ya) = (xn, xa) ∨ (yn, ya) ≠ (xn, xa) := Decidable.em _
            rcases e1 with e1 | e1
            · have e2 := beq2 e1
              have HD2 : Hid (true = memB (xn, xa) (M.take (k + 1))) := Lib.hid (HMS.out.1 e1).symm
              clear e1 HMS
              go_wp2
              go_quiet (fail)
              go_wp2
              go_roundw
              case rel => exact ⟨k + 1, q + nq, true, by omega, HD2, Lib.hid (by rw [HQ.out, World.drewN_drewN]), rfl, by go_num⟩
              case measure => simp [intOf]; omega
            · have e2 := beq2n e1
              have HD2 : Hid (false = memB (xn, xa) (M.take (k + 1))) := Lib.hid (by rw [HMS.out.2.1 e1]; exact HD.out)
              clear e1 HMS
              go_wp2
              go_quiet (fail)
              go_wp2
              go_roundw
              case rel => exact ⟨k + 1, q + nq, false, by omega, HD2, Lib.hid (by rw [HQ.out, World.drewN_drewN]), rfl, by go_num⟩
              case measure => simp [intOf]; omega
          · have HD2 : Hid (true = memB (xn, xa) (M.take (k + 1))) := Lib.hid (HMS.out.2.2 HD.out.symm).symm
            clear HMS
            go_wp2
            go_quiet (fail)
            go_wp2
            go_roundw
            case rel => exact ⟨k + 1, q + nq, true, by omega, HD2, Lib.hid (by rw [HQ.out, World.drewN_drewN]), rfl, by go_num⟩
            case measure => simp [intOf]; omega
        · obtain rfl : k = M.length := by omega
          have hdm := HD.out
          rw [List.take_length] at hdm
          have HB2 : Hid (Below w.heap.size w wr) := Lib.hid (by rw [HQ.out]; exact ⟨HB.out.os, HB.out.tape, HB.out.output, HB.out.size, HB.out.block⟩)
          have HO2 : Hid (wr.ownsRow w.heap.size 74 2 (.slice oa M.length oc) M.length (M.flatMap encP)) := Lib.hid (by rw [HQ.out]; exact HO.out)
          have d0' := cell_drew HQ.out d0
          have d1' := cell_drew HQ.out d1
          clear HD HQ HB HO HOR d0 d1
          cases hd
          · have hnm : (xn, xa) ∉ M := memB_no.1 hdm.symm
            have hnz : (xn, xa) ∉ Z.take i := fun h => hnm (HP.out.mem_iff.2 (mem_firsts.2 h))
            have HF : Hid (firsts (Z.take (i + 1)) = firsts (Z.take i) ++ [(xn, xa)]) := Lib.hid (by rw [take_snoc' HEZ.out, firsts_new hnz])
            clear hdm hnm hnz
            have HO3 := Lib.hid (HO2.out.alloc (.cells #[.int .i64 xn, .int .i64 xa] 74))
            have HB3 := Lib.hid (HB2.out.alloc HB2.out.size (.cells #[.int .i64 xn, .int .i64 xa] 74))
            go_wp2_with (at_builtin; refine wpList_append_row (enc := encP) Try.underlying41 infoSlot rfl (by omega) (by omega) encP_len rfl _ _ rfl w.heap.size _ M (xn, xa) (encP_one _) rfl HO3.out _ 1 rfl (fun i hi => cell_newL rfl (encP (xn, xa)) 74 i) (by omega) HB3.out.size ?_; intro g7 cap7 w7 ho7 hg7 hl7 hb7 hlt7; have HO7 := Lib.hid ho7; have HB7 := Lib.hid (HB3.out.grown hg7 HB3.out.size (fun k hk => (HO3.out.lt k hk).1)); have hw7 := hb7; clear ho7 hg7 hl7)
            have HI0 : Hid (w7.ownsRow w.heap.size 74 2 (.slice (some ⟨g7, 0, none⟩) (M.length + 1) cap7) (insAt M (xn, xa) M.length).length ((insAt M (xn, xa) M.length).flatMap encP)) := Lib.hid (by rw [insAt_end]; exact HO7.out)
            clear HO7 HO2 HO3 HB2 HB3 d0' d1'
            go_loopw [7] (fun sk wi => ∃ (k : Nat), k ≤ M.length ∧ Hid (Below w.heap.size w wi) ∧ Hid (wi.ownsRow w.heap.size 74 2 (.slice (some ⟨g7, 0, none⟩) (M.length + 1) cap7) (insAt M (xn, xa) k).length ((insAt M (xn, xa) k).flatMap encP)) ∧ Hid (∀ j (hj : j < M.length), k ≤ j → ltK (kS (xn, xa)) (kS M[j]) = true) ∧ sk = .int .i64 (k : Int)) (fun sk _ => (intOf sk).toNat)
            case atStart => exact ⟨M.length, by omega, HB7, HI0, Lib.hid (fun j hj h => by omega), rfl⟩
            case round =>
              clear HI0 HB7
              obtain ⟨k, hk, HBk, HOk, HLk, rfl⟩ := hrel
              have hend : ∀ W : World, Below w.heap.size w W → W.ownsRow w.heap.size 74 2 (.slice (some ⟨g7, 0, none⟩) (M.length + 1) cap7) (insAt M (xn, xa) k).length ((insAt M (xn, xa) k).flatMap encP) → (∀ (hj : k - 1 < M.length), 0 < k → ltK (kS (xn, xa)) (kS M[k - 1]) = false) → ∃ (i' : Nat) (M' : List (Int × Int)), i' = i + 1 ∧ M'.length ≤ i' ∧ Hid (Below w.heap.size w W) ∧ Hid (W.ownsRow w.heap.size 74 2 (.slice (some ⟨g7, 0, none⟩) (M.length + 1) cap7) M'.length (M'.flatMap encP)) ∧ Hid (M'.Perm (firsts (Z.take i'))) ∧ Hid (Sorted kS M') := by
                intro W h1 h2 h3
                refine ⟨i + 1, insAt M (xn, xa) k, rfl, by rw [insAt_len]; omega, Lib.hid h1, Lib.hid h2, Lib.hid ?_, Lib.hid (insAt_sorted HSO.out hk HLk.out h3)⟩
                rw [HF.out]
                exact (insAt_perm M (xn, xa) k).trans ((HP.out.cons _).trans (List.perm_append_singleton _ _).symm)
              have HEND := Lib.hid hend
              clear hend
              cases k with
              | zero =>
                have hg : decide ((0 : Int) < 0) = false := by decide
                go_wp2_with fail
                go_quiet (fail)
                obtain ⟨i', M', hi', hl', HE1, HE2, HE3, HE4⟩ := HEND.out (wr.drewN nq) ⟨HBk.out.os, HBk.out.tape, HBk.out.output, HBk.out.size, HBk.out.block⟩ HOk.out (fun _ h0 => absurd h0 (by omega))
                subst hi'
                clear HEND HBk HOk HLk
                go_wp2
                go_roundw
                case rel => exact ⟨i + 1, M', by omega, hl', HE1, HE2, HE3, HE4, by go_num⟩
                case measure => simp [intOf]; omega
              | succ k =>
                have hkl : k < M.length := by omega
                have hy : M[k]? = some M[k] := List.getElem?_eq_getElem hkl
                have HSTP := Lib.hid (insAt_step (x := (xn, xa)) hk hy)
                obtain ⟨p0, p1, fp0, fp1⟩ := own_cells HOk.out (insAt_at (x := (xn, xa)) hk)
                obtain ⟨q0, q1, fq0, fq1⟩ := own_cells HOk.out ((insAt_ahead (x := (xn, xa)) (show k < k + 1 by omega) hk).trans hy)
                have HL2 : Hid (ltK (kS (xn, xa)) (kS M[k]) = true → ∀ j (hj : j < M.length), k ≤ j → ltK (kS (xn, xa)) (kS M[j]) = true) := Lib.hid (fun h j hj hkj => by
                  rcases Nat.eq_or_lt_of_le hkj with e | e
                  · subst e; exact h
                  · exact HLk.out j hj (by omega))
                have HL3 : Hid (ltK (kS (xn, xa)) (kS M[k]) = false → ∀ (hj : k + 1 - 1 < M.length), 0 < k + 1 → ltK (kS (xn, xa)) (kS M[k + 1 - 1]) = false) := Lib.hid (fun h _ _ => h)
                have HLT := Lib.hid (ltS_iff xn xa)
                generalize hyy : M[k] = y at *
                obtain ⟨yn, ya⟩ := y
                simp only at p0 p1 q0 q1
                clear hy hyy
                have hpos : (0 : Int) < (k : Int) + 1 := by omega
                have hposd : decide ((0 : Int) < (k : Int) + 1) = true := decide_eq_true hpos
                have hb1 : (k : Int) + 1 < (M.length : Int) + 1 := by omega
                have hb2 : (k : Int) < (M.length : Int) + 1 := by omega
                have s1 : IntKind.i64.wrap ((k : Int) + 1 - 1) = (k : Int) := by rw [show (k : Int) + 1 - 1 = (k : Int) by omega]; exact IntWalk.i64_in _ (by omega)
                have n1 : (k + 1) * 2 ≠ k * 2 := by omega
                have n2 : (k + 1) * 2 ≠ k * 2 + 1 := by omega
                have n3 : k * 2 ≠ (k + 1) * 2 + 1 := by omega
                have n4 : k * 2 ≠ (k + 1) * 2 := by omega
                by_cases h1 : xa < ya
                · have HL4 := Lib.hid (HL2.out ((HLT.out yn ya).2 (.inl h1)))
                  clear HL2 HL3 HLk HLT
                  go_wp2_with fail
                  go_quiet (fail)
                  have P0 : (wr.drewN nq).cell? ⟨g7, (k + 1) * 2, none⟩ = some (.int .i64 xn) := p0
                  have P1 : (wr.drewN nq).cell? ⟨g7, (k + 1) * 2 + 1, none⟩ = some (.int .i64 xa) := p1
                  have Q0 : (wr.drewN nq).cell? ⟨g7, k * 2, none⟩ = some (.int .i64 yn) := q0
                  have Q1 : (wr.drewN nq).cell? ⟨g7, k * 2 + 1, none⟩ = some (.int .i64 ya) := q1
                  have FP0 : (wr.drewN nq).frozen? ⟨g7, (k + 1) * 2, none⟩ = false := fp0
                  have FP1 : (wr.drewN nq).frozen? ⟨g7, (k + 1) * 2 + 1, none⟩ = false := fp1
                  have FQ0 : (wr.drewN nq).frozen? ⟨g7, k * 2, none⟩ = false := fq0
                  have FQ1 : (wr.drewN nq).frozen? ⟨g7, k * 2 + 1, none⟩ = false := fq1
                  have HBq : Hid (Below w.heap.size w (wr.drewN nq)) := Lib.hid ⟨HBk.out.os, HBk.out.tape, HBk.out.output, HBk.out.size, HBk.out.block⟩
                  have HOq : Hid ((wr.drewN nq).ownsRow w.heap.size 74 2 (.slice (some ⟨g7, 0, none⟩) (M.length + 1) cap7) (insAt M (xn, xa) (k + 1)).length ((insAt M (xn, xa) (k + 1)).flatMap encP)) := Lib.hid HOk.out
                  clear p0 p1 q0 q1 fp0 fp1 fq0 fq1 HBk HOk HEND
                  generalize wr.drewN nq = wq at *
                  go_wp2_with fail
                  have hn1 := own_put2 (j := k) (own_put2 (j := k + 1) HOq.out (yn, ya)) (xn, xa)
                  rw [HSTP.out] at hn1
                  have HON := Lib.hid hn1
                  have HBN := Lib.hid ((((HBq.out.setCell (p := ⟨g7, (k + 1) * 2, none⟩) hw7 (.int .i64 yn)).setCell (p := ⟨g7, (k + 1) * 2 + 1, none⟩) hw7 (.int .i64 ya)).setCell (p := ⟨g7, k * 2, none⟩) hw7 (.int .i64 xn)).setCell (p := ⟨g7, k * 2 + 1, none⟩) hw7 (.int .i64 xa))
                  clear hn1 HOq HBq
                  go_region
                  go_wp2
                  go_roundw
                  case rel => exact ⟨k, by omega, Lib.hid (below_drew HBN.out), Lib.hid HON.out.drew, HL4, by go_num⟩
                  case measure => simp [intOf]
                · have hd1 : decide (xa < ya) = false := decide_eq_false h1
                  by_cases h2 : xa = ya
                  · subst h2
                    have he1 : (xa == xa) = true := by simp
                    by_cases h3 : xn < yn
                    · have HL4 := Lib.hid (HL2.out ((HLT.out yn xa).2 (.inr ⟨rfl, h3⟩)))
                      clear HL2 HL3 HLk HLT h1
                      go_wp2_with fail
                      go_quiet (fail)
                      have P0 : (wr.drewN nq).cell? ⟨g7, (k + 1) * 2, none⟩ = some (.int .i64 xn) := p0
                      have P1 : (wr.drewN nq).cell? ⟨g7, (k + 1) * 2 + 1, none⟩ = some (.int .i64 xa) := p1
                      have Q0 : (wr.drewN nq).cell? ⟨g7, k * 2, none⟩ = some (.int .i64 yn) := q0
                      have Q1 : (wr.drewN nq).cell? ⟨g7, k * 2 + 1, none⟩ = some (.int .i64 xa) := q1
                      have FP0 : (wr.drewN nq).frozen? ⟨g7, (k + 1) * 2, none⟩ = false := fp0
                      have FP1 : (wr.drewN nq).frozen? ⟨g7, (k + 1) * 2 + 1, none⟩ = false := fp1
                      have FQ0 : (wr.drewN nq).frozen? ⟨g7, k * 2, none⟩ = false := fq0
                      have FQ1 : (wr.drewN nq).frozen? ⟨g7, k * 2 + 1, none⟩ = false := fq1
                      have HBq : Hid (Below w.heap.size w (wr.drewN nq)) := Lib.hid ⟨HBk.out.os, HBk.out.tape, HBk.out.output, HBk.out.size, HBk.out.block⟩
                      have HOq : Hid ((wr.drewN nq).ownsRow w.heap.size 74 2 (.slice (some ⟨g7, 0, none⟩) (M.length + 1) cap7) (insAt M (xn, xa) (k + 1)).length ((insAt M (xn, xa) (k + 1)).flatMap encP)) := Lib.hid HOk.out
                      clear p0 p1 q0 q1 fp0 fp1 fq0 fq1 HBk HOk HEND
                      generalize wr.drewN nq = wq at *
                      go_wp2_with fail
                      have hn1 := own_put2 (j := k) (own_put2 (j := k + 1) HOq.out (yn, xa)) (xn, xa)
                      rw [HSTP.out] at hn1
                      have HON := Lib.hid hn1
                      have HBN := Lib.hid ((((HBq.out.setCell (p := ⟨g7, (k + 1) * 2, none⟩) hw7 (.int .i64 yn)).setCell (p := ⟨g7, (k + 1) * 2 + 1, none⟩) hw7 (.int .i64 xa)).setCell (p := ⟨g7, k * 2, none⟩) hw7 (.int .i64 xn)).setCell (p := ⟨g7, k * 2 + 1, none⟩) hw7 (.int .i64 xa))
                      clear hn1 HOq HBq
                      go_region
                      go_wp2
                      go_roundw
                      case rel => exact ⟨k, by omega, Lib.hid (below_drew HBN.out), Lib.hid HON.out.drew, HL4, by go_num⟩
                      case measure => simp [intOf]

                    · have hd3 : decide (xn < yn) = false := decide_eq_false h3
                      have HL4 := Lib.hid (HL3.out (Bool.eq_false_iff.2 (fun h => by rcases (HLT.out yn xa).1 h with h | h <;> omega)))
                      clear HL2 HL3 HLk HLT h1
                      go_wp2_with fail
                      go_quiet (fail)
                      obtain ⟨i', M', hi', hl', HE1, HE2, HE3, HE4⟩ := HEND.out (wr.drewN nq) ⟨HBk.out.os, HBk.out.tape, HBk.out.output, HBk.out.size, HBk.out.block⟩ HOk.out HL4.out
                      subst hi'
                      clear HEND HBk HOk
                      go_wp2
                      go_roundw
                      case rel => exact ⟨i + 1, M', by omega, hl', HE1, HE2, HE3, HE4, by go_num⟩
                      case measure => simp [intOf]; omega

                  · have he1 : (xa == ya) = false := by simpa using h2
                    have HL4 := Lib.hid (HL3.out (Bool.eq_false_iff.2 (fun h => by rcases (HLT.out yn ya).1 h with h | h <;> omega)))
                    clear HL2 HL3 HLk HLT h1 h2
                    go_wp2_with fail
                    go_quiet (fail)
                    obtain ⟨i', M', hi', hl', HE1, HE2, HE3, HE4⟩ := HEND.out (wr.drewN nq) ⟨HBk.out.os, HBk.out.tape, HBk.out.output, HBk.out.size, HBk.out.block⟩ HOk.out HL4.out
                    subst hi'
                    clear HEND HBk HOk
                    go_wp2
                    go_roundw
                    case rel => exact ⟨i + 1, M', by omega, hl', HE1, HE2, HE3, HE4, by go_num⟩
                    case measure => simp [intOf]; omega

          · have hmm : (xn, xa) ∈ M := memB_yes.1 hdm.symm
            have hmz : (xn, xa) ∈ Z.take i := mem_firsts.1 (HP.out.mem_iff.1 hmm)
            have HF : Hid (firsts (Z.take (i + 1)) = firsts (Z.take i)) := Lib.hid (by rw [take_snoc' HEZ.out, firsts_old hmz])
            clear hdm hmm hmz
            go_wp2
            go_roundw
            case rel => exact ⟨i + 1, M, by omega, by omega, HB2, HO2, Lib.hid (by rw [HF.out]; exact HP.out), HSO, by go_num⟩
            case measure => simp [intOf]; omega
    · obtain rfl : i = Z.length := by omega
      have hp := HP.out
      rw [List.take_length] at hp
      have HP2 := Lib.hid hp
      clear hp HP
      go_wp2
      go_ret
      exact ⟨oa, oc, M, rfl, HOR.out, HP2.out, HSO.out, HB.out⟩
end Go.Proofs.Ytieomjkiabfhcaa
