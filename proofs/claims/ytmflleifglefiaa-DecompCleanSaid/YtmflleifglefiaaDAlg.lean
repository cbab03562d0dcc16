/- The document's along and places of layer 13: the steps along arcs that have something; the arcs of steps. -/
import Derived.Test.YtmflleifglefiaaBN
import Derived.Test.YtmflleifglefiaaBF
import Derived.Test.YtmflleifglefiaaBD
namespace Go.Proofs.Ytmflleifglefiaa
open Go.RowKit
set_option linter.unusedVariables false

theorem alongK_len (f : List Int) : ∀ i, (alongK f i).length ≤ i
  | 0 => Nat.zero_le _
  | i + 1 => by
    have ih := alongK_len f i
    unfold alongK
    rw [List.length_append]
    split <;> simp <;> omega
section
variable (fo : Option Addr) (fc : Nat) (F : List Int)
set_option maxRecDepth 100000 in
set_option maxHeartbeats 4000000 in
theorem ralong_any (w : World) (hf : Lst encI w fo F) (hl : F.length ≤ 200000) :
    Calls Try.prog 31 #[.slice fo F.length fc] w (StepsV (alongL F) w) := by
  have HF := Lib.hid hf
  have HLA := Lib.hid (alongK_len F)
  clear hf
  go_enter Try.func31, Try.ntmps31
  go_wp2
  go_loopw [3, 4] (fun ov i wr => ∃ k : Nat, k ≤ F.length ∧ i = .int .i64 (k : Int) ∧ Hid (Below w.heap.size w wr) ∧ Hid (OwnS wr w.heap.size ov (alongK F k))) (fun _ i _ => F.length - (intOf i).toNat)
  case atStart => exact ⟨0, Nat.zero_le _, rfl, Lib.hid (Below.refl _ _), Lib.hid (OwnS.nil _ _)⟩
  case round =>
    obtain ⟨k, hk, rfl, HB, HO⟩ := hrel
    obtain ⟨la, lc, hlv, _⟩ := HO.out.row
    have hsz := HB.out.size
    by_cases hlf : k < F.length
    · have hlfi : (k : Int) < (F.length : Int) := by omega
      obtain ⟨fb, fx, e, hfb, d0⟩ := lst_cell (HF.out.below HB.out) (atI_get (d := F) (v := k) hlf)
      cases e
      unfold encI at d0
      have hSl : (alongK F k).length ≤ 200000 := by have := HLA.out k; omega
      have HS : Hid (alongK F (k + 1) = alongK F k ++ if 0 < atI F k then [((k : Int), false)] else []) := Lib.hid rfl
      generalize atI F k = u at *
      generalize alongK F k = S at *
      subst hlv
      by_cases h1 : 0 < u
      · have HH : Hid (alongK F (k + 1) = S ++ [((k : Int), false)]) := Lib.hid (by rw [HS.out, if_pos h1])
        go_wp2_with (first
          | (at_builtin; refine wpList_append_step rfl _ _ rfl w.heap.size _ S ((k : Int), false) rfl (HO.out.below ((Below.refl _ _).alloc (Nat.le_refl _) (.cells #[.int .i64 (k : Int), .bool false] 90))) _ 1 rfl (cells2 _ _ _ rfl _ _) hSl (by simp; omega) ?_; intro g4 cap4 w4 ho4 hg4 hl4 hb4 hlt4; have HO4 := Lib.hid ho4; have HB4 := Lib.hid (below_grown (HB.out.alloc hsz (.cells #[.int .i64 (k : Int), .bool false] 90)) (by simp; omega) hg4 (fun g e => own_block HO.out e)); clear ho4 hg4 hl4))
        go_roundw
        case rel => exact ⟨k + 1, by omega, by go_num, HB4, Lib.hid (by rw [HH.out]; exact HO4.out)⟩
        case measure => simp [intOf]; omega
      · have HH : Hid (alongK F (k + 1) = S) := Lib.hid (by rw [HS.out, if_neg h1, List.append_nil])
        go_wp2
        go_roundw
        case rel => exact ⟨k + 1, by omega, by go_num, HB, Lib.hid (by rw [HH.out]; exact HO.out)⟩
        case measure => simp [intOf]; omega
    · have hlfi : ¬ (k : Int) < (F.length : Int) := by omega
      obtain rfl : k = F.length := by omega
      have HE : Hid (alongK F F.length = alongL F) := Lib.hid rfl
      rw [HE.out] at HO hlv
      subst hlv
      obtain ⟨oa2, oc2, e, hrow⟩ := HO.out.row
      injection e with e1 e2 e3
      subst e1
      have HRW := Lib.hid hrow
      clear hrow e2 e3
      go_wp2
      go_ret
      exact ⟨la, lc, rfl, HRW.out, HB.out⟩
end
/-- The arcs of steps. -/
def arcsL (l : List StepT) : List Int := l.map fun x => x.1
theorem arcsL_len (l : List StepT) : (arcsL l).length = l.length := by simp [arcsL]
theorem arcsL_take {l : List StepT} {k : Nat} (h : k < l.length) : arcsL (l.take (k + 1)) = arcsL (l.take k) ++ [l[k].1] := by
  unfold arcsL
  rw [List.take_succ_eq_append_getElem h, List.map_append]
  rfl
section
variable (lo : Option Addr) (lc : Nat) (L : List StepT)
set_option maxRecDepth 100000 in
set_option maxHeartbeats 4000000 in
theorem rplaces_any (w : World) (h : Row encS 2 w lo L) (hl : L.length ≤ 200000) :
    Calls Try.prog 32 #[.slice lo L.length lc] w fun e w' => ∃ v, e = .returned v ∧ OwnL encI w' w.heap.size 3 v (arcsL L) ∧ Below w.heap.size w w' := by
  have HL := Lib.hid h
  clear h
  go_enter Try.func32, Try.ntmps32
  go_wp2
  go_loopw [3, 4] (fun ov i wr => ∃ k : Nat, k ≤ L.length ∧ i = .int .i64 (k : Int) ∧ Hid (Below w.heap.size w wr) ∧ Hid (OwnL encI wr w.heap.size 3 ov (arcsL (L.take k)))) (fun _ i _ => L.length - (intOf i).toNat)
  case atStart => exact ⟨0, Nat.zero_le _, rfl, Lib.hid (Below.refl _ _), Lib.hid (OwnL.nil _ _ _)⟩
  case round =>
    obtain ⟨k, hk, rfl, HB, HO⟩ := hrel
    obtain ⟨la, lc2, hlv, _⟩ := HO.out.lst
    have hsz := HB.out.size
    by_cases hlt : k < L.length
    · have hli : (k : Int) < (L.length : Int) := by omega
      obtain ⟨lb, lx, e, hlb, s0, s1⟩ := step_at (HL.out.below' HB.out) (List.getElem?_eq_getElem hlt)
      cases e
      have hSl : (arcsL (L.take k)).length ≤ 200000 := by rw [arcsL_len, List.length_take]; omega
      have HS := Lib.hid (arcsL_take hlt)
      generalize L[k] = y at *
      generalize arcsL (L.take k) = S at *
      subst hlv
      obtain ⟨p, q⟩ := y
      simp only at s0 s1
      go_wp2_with (first
        | (at_builtin; refine wpList_append_one (enc := encI) Try.underlying25 infoInt rfl (by omega) rfl _ _ rfl w.heap.size _ S p rfl rfl (HO.out.alloc (.cells #[.int .i64 p] 3)) _ 1 rfl (cell_new _ _ _ 0) hSl (by simp; omega) ?_; intro g4 cap4 w4 ho4 hg4 hl4 hb4 hlt4; have HO4 := Lib.hid ho4; have HB4 := Lib.hid (below_grown (HB.out.alloc hsz (.cells #[.int .i64 p] 3)) (by simp; omega) hg4 (fun g e => own_block HO.out e)); clear ho4 hg4 hl4))
      go_roundw
      case rel => exact ⟨k + 1, by omega, by go_num, HB4, Lib.hid (by rw [HS.out]; exact HO4.out)⟩
      case measure => simp [intOf]; omega
    · have hli : ¬ (k : Int) < (L.length : Int) := by omega
      obtain rfl : k = L.length := by omega
      rw [List.take_length] at HO hlv
      subst hlv
      go_wp2
      go_ret
      exact ⟨_, rfl, HO.out, HB.out⟩
end
end Go.Proofs.Ytmflleifglefiaa
