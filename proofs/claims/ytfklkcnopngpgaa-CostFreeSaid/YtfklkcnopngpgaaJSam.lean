/- The document's Same, at two like sides. -/
import Derived.Test.YtfklkcnopngpgaaARord
namespace Go.Proofs.Ytfklkcnopngpgaa
open Go.RowKit
set_option linter.unusedVariables false

set_option maxRecDepth 100000 in
set_option maxHeartbeats 1000000 in
theorem rsameb_eq (S : List Bool) (aa ab : Option Addr) (ca cb : Nat) (w : World) (ha : Lst encB w aa S) (hb : Lst encB w ab S) (hl : S.length ≤ maxLen) :
    Calls Try.prog 13 #[.slice aa S.length ca, .slice ab S.length cb] w fun e w' => e = .returned (.bool true) ∧ Below w.heap.size w w' := by
  have HA := Lib.hid ha
  have HB := Lib.hid hb
  unfold maxLen at hl
  clear ha hb
  go_enter Try.func13, Try.ntmps13
  go_wp2
  go_loopw [5] (fun i wr => ∃ k : Nat, k ≤ S.length ∧ i = .int .i64 (k : Int) ∧ Hid (Below w.heap.size w wr)) (fun i _ => S.length - (intOf i).toNat)
  case atStart => exact ⟨0, Nat.zero_le _, rfl, Lib.hid (Below.refl _ _)⟩
  case round =>
    obtain ⟨k, hk, rfl, HW⟩ := hrel
    by_cases hlt : k < S.length
    · have hli : (k : Int) < (S.length : Int) := by omega
      obtain ⟨b1, o1, q1, hb1, x1⟩ := (HA.out.below HW.out) k hlt
      obtain ⟨b2, o2, q2, hb2, x2⟩ := (HB.out.below HW.out) k hlt
      cases q1
      cases q2
      unfold encB at x1 x2
      generalize S[k] = x at *
      cases x <;>
      · go_wp2
        go_quiet (fail)
        go_wp2
        go_roundw
        case rel => exact ⟨k + 1, by omega, by go_num, Lib.hid (below_drewN HW.out _)⟩
        case measure => simp [intOf]; omega
    · have hli : ¬ (k : Int) < (S.length : Int) := by omega
      obtain rfl : k = S.length := by omega
      go_wp2
      go_ret
      exact ⟨rfl, HW.out⟩
end Go.Proofs.Ytfklkcnopngpgaa
