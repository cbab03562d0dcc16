/- Lemmas of the layers below, several texts in one. -/
import Derived.Test.YtlkbohpnlbfopaaBX
import Derived.Test.YtlkbohpnlbfopaaBR
import Derived.Test.YtlkbohpnlbfopaaBY
import Derived.BigQuiet
import Derived.Deep.QuietTactic
import Derived.Deep.RegionHeld3
namespace Go.Proofs.Ytlkbohpnlbfopaa
open Go.RowKit
set_option linter.unusedVariables false
theorem ne_move (x1 x2 x3 y1 y2 y3 : Int) (w : World) : (binOp .neq 78 (.agg #[.int .i64 x1, .int .i64 x2, .int .i64 x3]) (.agg #[.int .i64 y1, .int .i64 y2, .int .i64 y3])).run Try.prog w = .ok (.bool (!(x1 == y1 && x2 == y2 && x3 == y3))) w := by
  have u3 := Try.underlying3
  have a3 := Try.isAgg3
  have z3 := Try.sizeOf3
  have hS : Try.prog.underlying 78 = some (.struct (Try.prog.fieldsOf 78)) := by kernel_rfl
  have hp : Try.prog.stoodInHeld 78 = false := by kernel_rfl
  rw [run_neq_struct, show (10000 : Nat) = 9999 + 1 from rfl, run_equalIn_agg w 9999 78 _ _ hS hp]
  simp only [Program.fieldsOf, Try.underlying78]
  go_simp
  by_cases h1 : x1 = y1 <;> by_cases h2 : x2 = y2 <;> by_cases h3 : x3 = y3 <;> simp [h1, h2, h3]
set_option maxHeartbeats 1000000 in
theorem samemoves_some (a b : Addr) (ca cb : Nat) (Z : List (Int × Int × Int)) (w : World) (ha : Row encK 3 w (some a) Z) (hb : Row encK 3 w (some b) Z) (hs : Z.length ≤ 65536) :
    Calls Try.prog 15 #[.slice (some a) Z.length ca, .slice (some b) Z.length cb] w fun e w' => e = .returned (.bool true) ∧ ∃ n, w' = w.drewN n := by
  have HA := Lib.hid ha
  have HB := Lib.hid hb
  clear ha hb
  go_enter Try.func15, Try.ntmps15
  go_wp2
  go_loopw [5] (fun si wr => ∃ (i n : Nat), i ≤ Z.length ∧ Hid (wr = w.drewN n) ∧ si = .int .i64 (i : Int)) (fun si _ => Z.length - (intOf si).toNat)
  case atStart => exact ⟨0, 0, by omega, Lib.hid rfl, rfl⟩
  case round =>
    obtain ⟨i, n, hi, HW, rfl⟩ := hrel
    by_cases hlt : i < Z.length
    · have hli : (i : Int) < (Z.length : Int) := by omega
      obtain ⟨ab, ax, e, _, c0, c1, c2⟩ := HA.out.tri hlt
      cases e
      obtain ⟨bb, bx, e, _, d0, d1, d2⟩ := HB.out.tri hlt
      cases e
      generalize Z[i] = x at *
      have c0' := cell_drew HW.out c0
      have c1' := cell_drew HW.out c1
      have c2' := cell_drew HW.out c2
      have d0' := cell_drew HW.out d0
      have d1' := cell_drew HW.out d1
      have d2' := cell_drew HW.out d2
      clear c0 c1 c2 d0 d1 d2
      have e1 := fun W => ne_move x.1 x.2.1 x.2.2 x.1 x.2.1 x.2.2 W
      have e2 : (!(x.1 == x.1 && x.2.1 == x.2.1 && x.2.2 == x.2.2)) = false := by simp
      go_wp2
      go_quiet (fail)
      go_wp2
      go_roundw
      case rel => exact ⟨i + 1, n + nq, by omega, Lib.hid (by rw [HW.out, World.drewN_drewN]), by go_num⟩
      case measure => simp [intOf]; omega
    · have hli : (Z.length : Int) ≤ (i : Int) := by omega
      go_wp2
      go_ret
      exact ⟨rfl, n, HW.out⟩
theorem samemoves_nil (a b : Option Addr) (ca cb : Nat) (w : World) : Calls Try.prog 15 #[.slice a 0 ca, .slice b 0 cb] w fun e w' => e = .returned (.bool true) ∧ ∃ n, w' = w.drewN n := by
  go_enter Try.func15, Try.ntmps15
  go_wp2
  refine wp_loop_rounds 1 ?_
  rw [rounds_succ]
  go_wp2
  go_ret
  exact ⟨rfl, 0, rfl⟩
theorem samemoves_any (a b : Option Addr) (la lb ca cb : Nat) (Z : List (Int × Int × Int)) (w : World) (hla : Z.length = la) (hlb : Z.length = lb) (ha : Row encK 3 w a Z) (hb : Row encK 3 w b Z) (hs : Z.length ≤ 65536) :
    Calls Try.prog 15 #[.slice a la ca, .slice b lb cb] w fun e w' => e = .returned (.bool true) ∧ ∃ n, w' = w.drewN n := by
  subst hla
  subst hlb
  cases Z with
  | nil => exact samemoves_nil a b ca cb w
  | cons z Z =>
    obtain ⟨b1, o1, rfl, _⟩ := ha 0 (by simp)
    obtain ⟨b2, o2, rfl, _⟩ := hb 0 (by simp)
    exact samemoves_some _ _ ca cb _ w ha hb hs
end Go.Proofs.Ytlkbohpnlbfopaa
namespace Go.Proofs.Ytlkbohpnlbfopaa
open Go.RowKit
set_option linter.unusedVariables false
theorem timeK_len (E : Exp) : ∀ u, (E.timeK u).length ≤ u * (E.Z.length + E.N)
  | 0 => by simp [Exp.timeK]
  | u + 1 => by
    show (E.timeK u ++ (E.mvK u E.Z.length ++ E.wtK u E.N)).length ≤ _
    rw [List.length_append, List.length_append, Nat.succ_mul]
    have h1 := timeK_len E u
    have h2 := mvK_len E u E.Z.length
    have h3 := wtK_len E u E.N
    omega
theorem soK_len : ∀ u, (Exp.soK u).length = u
  | 0 => rfl
  | u + 1 => by show (Exp.soK u ++ [Kd.so u]).length = _; rw [List.length_append, soK_len u]; rfl
theorem siK_len : ∀ u, (Exp.siK u).length = u
  | 0 => rfl
  | u + 1 => by show (Exp.siK u ++ [Kd.si u]).length = _; rw [List.length_append, siK_len u]; rfl
theorem kinds_len (E : Exp) : E.kinds.length ≤ (E.H + 1) * E.Z.length + (E.H + 1) * E.N + 2 * (E.H + 1) := by
  unfold Exp.kinds
  rw [List.length_append, List.length_append, soK_len, siK_len]
  have h1 := timeK_len E (E.H + 1)
  rw [Nat.mul_add] at h1
  omega
end Go.Proofs.Ytlkbohpnlbfopaa
