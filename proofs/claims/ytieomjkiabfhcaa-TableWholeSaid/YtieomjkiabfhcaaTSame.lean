/- SameArcs, SameSlots, SameMoves and SameInts of the document say of two lists of the same elements that they are the same. -/
import Derived.Test.YtieomjkiabfhcaaTEq
import Derived.Test.YtieomjkiabfhcaaTClo
namespace Go.Proofs.Ytieomjkiabfhcaa
open Go.RowKit
set_option linter.unusedVariables false

set_option maxHeartbeats 1000000 in
theorem samearcs_some (a b : Addr) (ca cb : Nat) (Z : List (Int × Int × Int × Int)) (w : World) (ha : Row encA 4 w (some a) Z) (hb : Row encA 4 w (some b) Z) (hs : Z.length ≤ 65536) :
    Calls Try.prog 21 #[.slice (some a) Z.length ca, .slice (some b) Z.length cb] w fun e w' => e = .returned (.bool true) ∧ ∃ n, w' = w.drewN n := by
  have HA := Lib.hid ha
  have HB := Lib.hid hb
  clear ha hb
  go_enter Try.func21, Try.ntmps21
  go_wp2
  go_loopw [5] (fun si wr => ∃ (i n : Nat), i ≤ Z.length ∧ Hid (wr = w.drewN n) ∧ si = .int .i64 (i : Int)) (fun si _ => Z.length - (intOf si).toNat)
  case atStart => exact ⟨0, 0, by omega, Lib.hid rfl, rfl⟩
  case round =>
    obtain ⟨i, n, hi, HW, rfl⟩ := hrel
    by_cases hlt : i < Z.length
    · have hli : (i : Int) < (Z.length : Int) := by omega
      obtain ⟨ab, ax, e, _, c0, c1, c2, c3⟩ := HA.out.arc hlt
      cases e
      obtain ⟨bb, bx, e, _, d0, d1, d2, d3⟩ := HB.out.arc hlt
      cases e
      generalize Z[i] = x at *
      have c0' := cell_drew HW.out c0
      have c1' := cell_drew HW.out c1
      have c2' := cell_drew HW.out c2
      have c3' := cell_drew HW.out c3
      have d0' := cell_drew HW.out d0
      have d1' := cell_drew HW.out d1
      have d2' := cell_drew HW.out d2
      have d3' := cell_drew HW.out d3
      clear c0 c1 c2 c3 d0 d1 d2 d3
      have e1 := fun W => ne_arc x.1 x.2.1 x.2.2.1 x.2.2.2 x.1 x.2.1 x.2.2.1 x.2.2.2 W
      have e2 : (!(x.1 == x.1 && x.2.1 == x.2.1 && x.2.2.1 == x.2.2.1 && x.2.2.2 == x.2.2.2)) = false := by simp
      go_wp2
      go_quiet (fail)
      go_wp2
      go_roundw
      case rel => exact ⟨i + 1, n + nq, by omega, Lib.hid (by rw [HW.out, World.drewN_drewN]), by go_num⟩
      case measure => simp [intOf]; omega
    · have hli : (Z.length : Int) ≤ (i : Int) := by omega
      go_wp2
      go_ret
      exact ⟨rfl, n, HW.out⟩
theorem samearcs_nil (a b : Option Addr) (ca cb : Nat) (w : World) : Calls Try.prog 21 #[.slice a 0 ca, .slice b 0 cb] w fun e w' => e = .returned (.bool true) ∧ ∃ n, w' = w.drewN n := by
  go_enter Try.func21, Try.ntmps21
  go_wp2
  refine wp_loop_rounds 1 ?_
  rw [rounds_succ]
  go_wp2
  go_ret
  exact ⟨rfl, 0, rfl⟩
theorem samearcs_any (a b : Option Addr) (la lb ca cb : Nat) (Z : List (Int × Int × Int × Int)) (w : World) (hla : Z.length = la) (hlb : Z.length = lb) (ha : Row encA 4 w a Z) (hb : Row encA 4 w b Z) (hs : Z.length ≤ 65536) :
    Calls Try.prog 21 #[.slice a la ca, .slice b lb cb] w fun e w' => e = .returned (.bool true) ∧ ∃ n, w' = w.drewN n := by
  subst hla
  subst hlb
  cases Z with
  | nil => exact samearcs_nil a b ca cb w
  | cons z Z =>
    obtain ⟨b1, o1, rfl, _⟩ := ha 0 (by simp)
    obtain ⟨b2, o2, rfl, _⟩ := hb 0 (by simp)
    exact samearcs_some _ _ ca cb _ w ha hb hs
set_option maxHeartbeats 1000000 in
theorem samemoves_some (a b : Addr) (ca cb : Nat) (Z : List (Int × Int × Int)) (w : World) (ha : Row encK 3 w (some a) Z) (hb : Row encK 3 w (some b) Z) (hs : Z.length ≤ 65536) :
    Calls Try.prog 31 #[.slice (some a) Z.length ca, .slice (some b) Z.length cb] w fun e w' => e = .returned (.bool true) ∧ ∃ n, w' = w.drewN n := by
  have HA := Lib.hid ha
  have HB := Lib.hid hb
  clear ha hb
  go_enter Try.func31, Try.ntmps31
  go_wp2
  go_loopw [5] (fun si wr => ∃ (i n : Nat), i ≤ Z.length ∧ Hid (wr = w.drewN n) ∧ si = .int .i64 (i : Int)) (fun si _ => Z.length - (intOf si).toNat)
  case atStart => exact ⟨0, 0, by omega, Lib.hid rfl, rfl⟩
  case round =>
    obtain ⟨i, n, hi, HW, rfl⟩ := hrel
    by_cases hlt : i < Z.length
    · have hli : (i : Int) < (Z.length : Int) := by omega
      obtain ⟨ab, ax, e, _, c0, c1, c2⟩ := HA.out.tri hlt
      cases e
      obtain ⟨bb, bx, e, _, d0, d1, d2⟩ := HB.out.tri hlt
      cases e
      generalize Z[i] = x at *
      have c0' := cell_drew HW.out c0
      have c1' := cell_drew HW.out c1
      have c2' := cell_drew HW.out c2
      have d0' := cell_drew HW.out d0
      have d1' := cell_drew HW.out d1
      have d2' := cell_drew HW.out d2
      clear c0 c1 c2 d0 d1 d2
      have e1 := fun W => ne_move x.1 x.2.1 x.2.2 x.1 x.2.1 x.2.2 W
      have e2 : (!(x.1 == x.1 && x.2.1 == x.2.1 && x.2.2 == x.2.2)) = false := by simp
      go_wp2
      go_quiet (fail)
      go_wp2
      go_roundw
      case rel => exact ⟨i + 1, n + nq, by omega, Lib.hid (by rw [HW.out, World.drewN_drewN]), by go_num⟩
      case measure => simp [intOf]; omega
    · have hli : (Z.length : Int) ≤ (i : Int) := by omega
      go_wp2
      go_ret
      exact ⟨rfl, n, HW.out⟩
theorem samemoves_nil (a b : Option Addr) (ca cb : Nat) (w : World) : Calls Try.prog 31 #[.slice a 0 ca, .slice b 0 cb] w fun e w' => e = .returned (.bool true) ∧ ∃ n, w' = w.drewN n := by
  go_enter Try.func31, Try.ntmps31
  go_wp2
  refine wp_loop_rounds 1 ?_
  rw [rounds_succ]
  go_wp2
  go_ret
  exact ⟨rfl, 0, rfl⟩
theorem samemoves_any (a b : Option Addr) (la lb ca cb : Nat) (Z : List (Int × Int × Int)) (w : World) (hla : Z.length = la) (hlb : Z.length = lb) (ha : Row encK 3 w a Z) (hb : Row encK 3 w b Z) (hs : Z.length ≤ 65536) :
    Calls Try.prog 31 #[.slice a la ca, .slice b lb cb] w fun e w' => e = .returned (.bool true) ∧ ∃ n, w' = w.drewN n := by
  subst hla
  subst hlb
  cases Z with
  | nil => exact samemoves_nil a b ca cb w
  | cons z Z =>
    obtain ⟨b1, o1, rfl, _⟩ := ha 0 (by simp)
    obtain ⟨b2, o2, rfl, _⟩ := hb 0 (by simp)
    exact samemoves_some _ _ ca cb _ w ha hb hs
set_option maxHeartbeats 1000000 in
theorem sameslots_some (a b : Addr) (ca cb : Nat) (Z : List (Int × Int)) (w : World) (ha : Row encP 2 w (some a) Z) (hb : Row encP 2 w (some b) Z) (hs : Z.length ≤ 65536) :
    Calls Try.prog 26 #[.slice (some a) Z.length ca, .slice (some b) Z.length cb] w fun e w' => e = .returned (.bool true) ∧ ∃ n, w' = w.drewN n := by
  have HA := Lib.hid ha
  have HB := Lib.hid hb
  clear ha hb
  go_enter Try.func26, Try.ntmps26
  go_wp2
  go_loopw [5] (fun si wr => ∃ (i n : Nat), i ≤ Z.length ∧ Hid (wr = w.drewN n) ∧ si = .int .i64 (i : Int)) (fun si _ => Z.length - (intOf si).toNat)
  case atStart => exact ⟨0, 0, by omega, Lib.hid rfl, rfl⟩
  case round =>
    obtain ⟨i, n, hi, HW, rfl⟩ := hrel
    by_cases hlt : i < Z.length
    · have hli : (i : Int) < (Z.length : Int) := by omega
      obtain ⟨ab, ax, e, _, c0, c1⟩ := HA.out.pair hlt
      cases e
      obtain ⟨bb, bx, e, _, d0, d1⟩ := HB.out.pair hlt
      cases e
      generalize Z[i] = x at *
      have c0' := cell_drew HW.out c0
      have c1' := cell_drew HW.out c1
      have d0' := cell_drew HW.out d0
      have d1' := cell_drew HW.out d1
      clear c0 c1 d0 d1
      have e1 := fun W => ne_slot x.1 x.2 x.1 x.2 W
      have e2 : (!(x.1 == x.1 && x.2 == x.2)) = false := by simp
      go_wp2
      go_quiet (fail)
      go_wp2
      go_roundw
      case rel => exact ⟨i + 1, n + nq, by omega, Lib.hid (by rw [HW.out, World.drewN_drewN]), by go_num⟩
      case measure => simp [intOf]; omega
    · have hli : (Z.length : Int) ≤ (i : Int) := by omega
      go_wp2
      go_ret
      exact ⟨rfl, n, HW.out⟩
theorem sameslots_nil (a b : Option Addr) (ca cb : Nat) (w : World) : Calls Try.prog 26 #[.slice a 0 ca, .slice b 0 cb] w fun e w' => e = .returned (.bool true) ∧ ∃ n, w' = w.drewN n := by
  go_enter Try.func26, Try.ntmps26
  go_wp2
  refine wp_loop_rounds 1 ?_
  rw [rounds_succ]
  go_wp2
  go_ret
  exact ⟨rfl, 0, rfl⟩
theorem sameslots_any (a b : Option Addr) (la lb ca cb : Nat) (Z : List (Int × Int)) (w : World) (hla : Z.length = la) (hlb : Z.length = lb) (ha : Row encP 2 w a Z) (hb : Row encP 2 w b Z) (hs : Z.length ≤ 65536) :
    Calls Try.prog 26 #[.slice a la ca, .slice b lb cb] w fun e w' => e = .returned (.bool true) ∧ ∃ n, w' = w.drewN n := by
  subst hla
  subst hlb
  cases Z with
  | nil => exact sameslots_nil a b ca cb w
  | cons z Z =>
    obtain ⟨b1, o1, rfl, _⟩ := ha 0 (by simp)
    obtain ⟨b2, o2, rfl, _⟩ := hb 0 (by simp)
    exact sameslots_some _ _ ca cb _ w ha hb hs
set_option maxHeartbeats 1000000 in
theorem sameints_some (a b : Addr) (ca cb : Nat) (Z : List (Int)) (w : World) (ha : Row encI 1 w (some a) Z) (hb : Row encI 1 w (some b) Z) (hs : Z.length ≤ 65536) :
    Calls Try.prog 18 #[.slice (some a) Z.length ca, .slice (some b) Z.length cb] w fun e w' => e = .returned (.bool true) ∧ ∃ n, w' = w.drewN n := by
  have HA := Lib.hid ha
  have HB := Lib.hid hb
  clear ha hb
  go_enter Try.func18, Try.ntmps18
  go_wp2
  go_loopw [5] (fun si wr => ∃ (i n : Nat), i ≤ Z.length ∧ Hid (wr = w.drewN n) ∧ si = .int .i64 (i : Int)) (fun si _ => Z.length - (intOf si).toNat)
  case atStart => exact ⟨0, 0, by omega, Lib.hid rfl, rfl⟩
  case round =>
    obtain ⟨i, n, hi, HW, rfl⟩ := hrel
    by_cases hlt : i < Z.length
    · have hli : (i : Int) < (Z.length : Int) := by omega
      obtain ⟨ab, ax, e, _, c0⟩ := HA.out.num hlt
      cases e
      obtain ⟨bb, bx, e, _, d0⟩ := HB.out.num hlt
      cases e
      generalize Z[i] = x at *
      have c0' := cell_drew HW.out c0
      have d0' := cell_drew HW.out d0
      clear c0 d0
      have e2 : (x == x) = true := by simp
      have e3 : (x != x) = false := by simp
      go_wp2
      go_quiet (fail)
      go_wp2
      go_roundw
      case rel => exact ⟨i + 1, n + nq, by omega, Lib.hid (by rw [HW.out, World.drewN_drewN]), by go_num⟩
      case measure => simp [intOf]; omega
    · have hli : (Z.length : Int) ≤ (i : Int) := by omega
      go_wp2
      go_ret
      exact ⟨rfl, n, HW.out⟩
theorem sameints_nil (a b : Option Addr) (ca cb : Nat) (w : World) : Calls Try.prog 18 #[.slice a 0 ca, .slice b 0 cb] w fun e w' => e = .returned (.bool true) ∧ ∃ n, w' = w.drewN n := by
  go_enter Try.func18, Try.ntmps18
  go_wp2
  refine wp_loop_rounds 1 ?_
  rw [rounds_succ]
  go_wp2
  go_ret
  exact ⟨rfl, 0, rfl⟩
theorem sameints_any (a b : Option Addr) (la lb ca cb : Nat) (Z : List (Int)) (w : World) (hla : Z.length = la) (hlb : Z.length = lb) (ha : Row encI 1 w a Z) (hb : Row encI 1 w b Z) (hs : Z.length ≤ 65536) :
    Calls Try.prog 18 #[.slice a la ca, .slice b lb cb] w fun e w' => e = .returned (.bool true) ∧ ∃ n, w' = w.drewN n := by
  subst hla
  subst hlb
  cases Z with
  | nil => exact sameints_nil a b ca cb w
  | cons z Z =>
    obtain ⟨b1, o1, rfl, _⟩ := ha 0 (by simp)
    obtain ⟨b2, o2, rfl, _⟩ := hb 0 (by simp)
    exact sameints_some _ _ ca cb _ w ha hb hs
end Go.Proofs.Ytieomjkiabfhcaa
