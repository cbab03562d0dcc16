/- Plain numbers, without any program: when a whole number fits into a signed 64-bit word, and what is told of it. No conditions beyond those in each line. -/
import Derived.WalkKit
namespace Go.Proofs.Ytieomjkiabfhcaa
open Go.RowKit

/-- Does the number fit into 64 bits, signed? -/
def fitB (x : Int) : Bool := decide (-9223372036854775808 ≤ x ∧ x ≤ 9223372036854775807)
/-- The number, if it fits, else 0. -/
def fitV (x : Int) : Int := if fitB x = true then x else 0

theorem fitB_yes {x : Int} (h : -9223372036854775808 ≤ x ∧ x ≤ 9223372036854775807) : fitB x = true := by unfold fitB; exact decide_eq_true h
theorem fitB_no {x : Int} (h : ¬ (-9223372036854775808 ≤ x ∧ x ≤ 9223372036854775807)) : fitB x = false := by unfold fitB; exact decide_eq_false h
theorem fitV_yes {x : Int} (h : -9223372036854775808 ≤ x ∧ x ≤ 9223372036854775807) : fitV x = x := by unfold fitV; rw [fitB_yes h]; rfl
theorem fitV_no {x : Int} (h : ¬ (-9223372036854775808 ≤ x ∧ x ≤ 9223372036854775807)) : fitV x = 0 := by unfold fitV; rw [fitB_no h]; rfl
theorem fitB_iff {x : Int} : fitB x = true ↔ (-9223372036854775808 ≤ x ∧ x ≤ 9223372036854775807) := by unfold fitB; exact decide_eq_true_iff

/-- What a pair (number, does it fit) is in memory. -/
def fitR (x : Int) : Value := .tuple #[.int .i64 (fitV x), .bool (fitB x)]
theorem fitR_yes {x : Int} (h : -9223372036854775808 ≤ x ∧ x ≤ 9223372036854775807) : fitR x = .tuple #[.int .i64 x, .bool true] := by unfold fitR; rw [fitV_yes h, fitB_yes h]
theorem fitR_no {x : Int} (h : ¬ (-9223372036854775808 ≤ x ∧ x ≤ 9223372036854775807)) : fitR x = .tuple #[.int .i64 0, .bool false] := by unfold fitR; rw [fitV_no h, fitB_no h]

theorem wf_i64 {a : Int} (h : (Lit.int .i64 a).wf = true) : -9223372036854775808 ≤ a ∧ a ≤ 9223372036854775807 := by
  simp only [Lit.wf, IntKind.min, IntKind.max, IntKind.signed, IntKind.bits, Bool.and_eq_true, decide_eq_true_eq, if_true] at h
  omega

theorem wf_i32 {a : Int} (h : (Lit.int .i32 a).wf = true) : -2147483648 ≤ a ∧ a ≤ 2147483647 := by
  simp only [Lit.wf, IntKind.min, IntKind.max, IntKind.signed, IntKind.bits, Bool.and_eq_true, decide_eq_true_eq, if_true] at h
  omega
theorem tup_eq {a b : Int} {t : Value} (h : a = b) : Value.tuple #[.int .i64 a, t] = .tuple #[.int .i64 b, t] := by rw [h]
theorem ret_eq {a b : Value} (h : a = b) : Ending.returned a = .returned b := by rw [h]

/-- How often 2^64 was lost when the number (a sum of two that fit) was wrapped. -/
def wr (x : Int) : Int := if 9223372036854775807 < x then 1 else if x < -9223372036854775808 then -1 else 0
/-- The wrapped number. -/
def wv (x : Int) : Int := x - 18446744073709551616 * wr x
theorem wr_in {x : Int} (h1 : -9223372036854775808 ≤ x) (h2 : x ≤ 9223372036854775807) : wr x = 0 := by unfold wr; rw [if_neg (by omega), if_neg (by omega)]
theorem wr_up {x : Int} (h : 9223372036854775807 < x) : wr x = 1 := by unfold wr; rw [if_pos h]
theorem wr_dn {x : Int} (h : x < -9223372036854775808) : wr x = -1 := by unfold wr; rw [if_neg (by omega), if_pos h]
theorem wv_in {x : Int} (h1 : -9223372036854775808 ≤ x) (h2 : x ≤ 9223372036854775807) : wv x = x := by unfold wv; rw [wr_in h1 h2]; omega
theorem wv_wrap {x : Int} (h1 : -18446744073709551616 ≤ x) (h2 : x ≤ 18446744073709551614) : wv x = wrap64 x := by
  unfold wv wr wrap64; (repeat split) <;> omega
theorem wv_bd {x : Int} (h1 : -18446744073709551616 ≤ x) (h2 : x ≤ 18446744073709551614) : -9223372036854775808 ≤ wv x ∧ wv x ≤ 9223372036854775807 := by
  unfold wv wr; (repeat split) <;> omega
theorem wr_bd (x : Int) : -1 ≤ wr x ∧ wr x ≤ 1 := by unfold wr; (repeat split) <;> omega
theorem wr_ne {x : Int} (h : ¬ (-9223372036854775808 ≤ x ∧ x ≤ 9223372036854775807)) : wr x ≠ 0 := by unfold wr; (repeat split) <;> omega
def wrR (x : Int) : Value := .tuple #[.int .i64 (wv x), .int .i64 (wr x)]
theorem wrR_in {x : Int} (h1 : -9223372036854775808 ≤ x) (h2 : x ≤ 9223372036854775807) : wrR x = .tuple #[.int .i64 x, .int .i64 0] := by unfold wrR; rw [wv_in h1 h2, wr_in h1 h2]
theorem wrR_up {x : Int} (h : 9223372036854775807 < x) (h2 : x ≤ 18446744073709551614) : wrR x = .tuple #[.int .i64 (wrap64 x), .int .i64 1] := by unfold wrR; rw [wv_wrap (by omega) h2, wr_up h]
theorem wrR_dn {x : Int} (h : x < -9223372036854775808) (h2 : -18446744073709551616 ≤ x) : wrR x = .tuple #[.int .i64 (wrap64 x), .int .i64 (-1)] := by unfold wrR; rw [wv_wrap h2 (by omega), wr_dn h]
theorem wrap_up {a b : Int} (h : 9223372036854775807 < a + b) (ha2 : a ≤ 9223372036854775807) (hb2 : b ≤ 9223372036854775807) : wrap64 (a + b) < a := by unfold wrap64; omega
theorem wrap_dn {a b : Int} (h : a + b < -9223372036854775808) (ha2 : -9223372036854775808 ≤ a) (hb2 : -9223372036854775808 ≤ b) : a < wrap64 (a + b) := by unfold wrap64; omega
theorem wrap_subup {a b : Int} (h : 9223372036854775807 < a - b) (ha2 : a ≤ 9223372036854775807) (hb2 : -9223372036854775808 ≤ b) : wrap64 (a - b) < a := by unfold wrap64; omega
theorem wrap_subdn {a b : Int} (h : a - b < -9223372036854775808) (ha2 : -9223372036854775808 ≤ a) (hb2 : b ≤ 9223372036854775807) : a < wrap64 (a - b) := by unfold wrap64; omega
end Go.Proofs.Ytieomjkiabfhcaa
