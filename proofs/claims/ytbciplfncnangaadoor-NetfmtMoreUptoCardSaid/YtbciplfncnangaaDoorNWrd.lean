/- What the program asks of a line's words. -/
import Derived.Test.YtbciplfncnangaaDoorNSpl
namespace Go.Proofs.YtbciplfncnangaaDoor
open Go.RowKit Go.Shelf
set_option linter.unusedVariables false

theorem isbegun_any (n : Int) (b : Bool) (ao : Option Addr) (len cap : Nat) (w : World) : Calls Tryd.prog 33 #[.agg #[.int .i64 n, .bool b, .slice ao len cap]] w fun e w' => e = .returned (.bool (decide (0 < n))) ∧ Below w.heap.size w w' := by
  go_enter Tryd.func33, Tryd.ntmps33
  go_wp2
  go_ret
  exact ⟨rfl, (Below.refl _ w).alloc (Nat.le_refl _) _⟩
theorem isign_any (ao : Option Addr) (cap : Nat) (A : List (List UInt8)) (w : World) (hl : Lst strV w ao A) (hm : A.length ≤ 1099511627776) :
    Calls Tryd.prog 45 #[.slice ao A.length cap] w fun e w' => e = .returned (.bool (idleB A)) ∧ w = w' := by
  cases A with
  | nil =>
    go_enter Tryd.func45, Tryd.ntmps45
    go_wp2
    go_ret
    exact ⟨rfl, rfl⟩
  | cons x r =>
    obtain ⟨b, o, rfl, hb, hc⟩ := hl 0 (by simp)
    rw [List.getElem_cons_zero, Nat.add_zero] at hc
    have hlen : (0 : Int) < ((x :: r).length : Int) := by rw [List.length_cons]; omega
    have hne : (((x :: r).length : Int) == 0) = false := by rw [List.length_cons]; simp; omega
    generalize (x :: r).length = len at *
    unfold strV at hc
    go_enter Tryd.func45, Tryd.ntmps45
    go_wp2_with (go_at_call 56; refine (Tryd.strings_HasPrefix _ _ _).mono ?_; rintro e w' ⟨rfl, rfl⟩)
    go_ret
    exact ⟨rfl, rfl⟩
/-- Do the words have the form of a first line, or of an arc's? -/
def netLineB : List (List UInt8) → Bool
  | [a, b, c] => a == netB && (c == holdB || c == freeB)
  | _ => false
def arcLineB : List (List UInt8) → Bool
  | [a, b, c, d, e] => a == arcB
  | _ => false
theorem three {α : Type} {A : List α} (h : A.length = 3) : ∃ a b c, A = [a, b, c] := by
  match A, h with
  | [a, b, c], _ => exact ⟨a, b, c, rfl⟩
theorem five {α : Type} {A : List α} (h : A.length = 5) : ∃ a b c d e, A = [a, b, c, d, e] := by
  match A, h with
  | [a, b, c, d, e], _ => exact ⟨a, b, c, d, e, rfl⟩
theorem netLineB_no {A : List (List UInt8)} (h : A.length ≠ 3) : netLineB A = false := by
  unfold netLineB; split
  · exact absurd rfl h
  · rfl
theorem arcLineB_no {A : List (List UInt8)} (h : A.length ≠ 5) : arcLineB A = false := by
  unfold arcLineB; split
  · exact absurd rfl h
  · rfl
theorem isarc_any (ao : Option Addr) (cap : Nat) (A : List (List UInt8)) (w : World) (hl : Lst strV w ao A) (hm : A.length ≤ 1099511627776) :
    Calls Tryd.prog 48 #[.slice ao A.length cap] w fun e w' => e = .returned (.bool (arcLineB A)) ∧ w = w' := by
  by_cases h5 : A.length = 5
  · obtain ⟨a, b', c, d, e, rfl⟩ := five h5
    obtain ⟨b, o, rfl, hb, hc⟩ := lst_cell (i := 0) hl rfl
    rw [Nat.add_zero] at hc
    unfold strV at hc
    show Calls Tryd.prog 48 #[.slice _ 5 cap] w _
    go_enter Tryd.func48, Tryd.ntmps48
    go_wp2
    go_ret
    exact ⟨rfl, rfl⟩
  · rw [arcLineB_no h5]
    have hne : ((A.length : Int) == 5) = false := by simp; omega
    generalize A.length = len at *
    go_enter Tryd.func48, Tryd.ntmps48
    go_wp2
    go_ret
    exact ⟨rfl, rfl⟩
theorem isnet_any (ao : Option Addr) (cap : Nat) (A : List (List UInt8)) (w : World) (hl : Lst strV w ao A) (hm : A.length ≤ 1099511627776) :
    Calls Tryd.prog 46 #[.slice ao A.length cap] w fun e w' => e = .returned (.bool (netLineB A)) ∧ w = w' := by
  by_cases h3 : A.length = 3
  · obtain ⟨a, b', c, rfl⟩ := three h3
    obtain ⟨b, o, rfl, hb, hc⟩ := lst_cell (i := 0) hl rfl
    obtain ⟨b2, o2, e2, hb2, hc2⟩ := lst_cell (i := 2) hl rfl
    cases e2
    rw [Nat.add_zero] at hc
    unfold strV at hc hc2
    show Calls Tryd.prog 46 #[.slice _ 3 cap] w _
    rcases ha : (a == netB) with _ | _
    · have HA := Lib.hid ha
      unfold netB at ha
      go_enter Tryd.func46, Tryd.ntmps46
      go_wp2
      go_ret
      exact ⟨ret_bool (by unfold netLineB; simp only; rw [HA.out]; rfl), rfl⟩
    · rcases hh : (c == holdB) with _ | _
      all_goals
        have HA := Lib.hid ha
        have HH := Lib.hid hh
        unfold netB at ha
        unfold holdB at hh
        go_enter Tryd.func46, Tryd.ntmps46
        go_wp2
        go_ret
        exact ⟨ret_bool (by unfold netLineB; simp only; rw [HA.out, HH.out]; rfl), rfl⟩
  · rw [netLineB_no h3]
    have hne : ((A.length : Int) == 3) = false := by simp; omega
    generalize A.length = len at *
    go_enter Tryd.func46, Tryd.ntmps46
    go_wp2
    go_ret
    exact ⟨rfl, rfl⟩
theorem headL_no {A : List (List UInt8)} (h : netLineB A = false) : headL A = (zeroN, 50) := by
  unfold headL
  split
  · next a b c =>
    rw [if_neg]
    intro ⟨h1, h2⟩
    unfold netLineB at h
    subst h1
    rcases h2 with rfl | rfl <;> simp at h
  · rfl
theorem headL_yes {a b c : List UInt8} (h : netLineB [a, b, c] = true) : headL [a, b, c] = (if (numL b).2 = 0 then (if nodesE (numL b).1 = 0 then (((numL b).1, decide (c = holdB), []), 0) else (zeroN, nodesE (numL b).1)) else (zeroN, (numL b).2)) := by
  unfold headL
  simp only
  rw [if_pos]
  unfold netLineB at h
  simpa using h
theorem tailL_no {n : NetT} {A : List (List UInt8)} (h : arcLineB A = false) : tailL n A = (zeroN, 50) := by
  unfold tailL
  split
  · next a b c d e =>
    rw [if_neg]
    intro h1
    unfold arcLineB at h
    subst h1
    simp at h
  · rfl
theorem tailL_yes {n : NetT} {a b c d e : List UInt8} (h : arcLineB [a, b, c, d, e] = true) : tailL n [a, b, c, d, e] = (if errOf [b, c, d, e] = 0 then
        (if arcE n.1 (arcOf b c d e) = 0 then (if 200 ≤ n.2.2.length then (zeroN, 2) else ((n.1, n.2.1, n.2.2 ++ [arcOf b c d e]), 0)) else (zeroN, arcE n.1 (arcOf b c d e)))
      else (zeroN, errOf [b, c, d, e])) := by
  unfold tailL
  simp only
  rw [if_pos]
  unfold arcLineB at h
  simpa using h
theorem netLine_three {A : List (List UInt8)} (h : netLineB A = true) : ∃ a b c, A = [a, b, c] := by
  unfold netLineB at h
  split at h
  · exact ⟨_, _, _, rfl⟩
  · cases h
theorem arcLine_five {A : List (List UInt8)} (h : arcLineB A = true) : ∃ a b c d e, A = [a, b, c, d, e] := by
  unfold arcLineB at h
  split at h
  · exact ⟨_, _, _, _, _, rfl⟩
  · cases h
end Go.Proofs.YtbciplfncnangaaDoor
