/- Plain numbers, without any program: shifts, narrowing to so many bits, halves, products. No conditions beyond those in each line. -/
import Derived.Test.YtieomjkiabfhcaaNum
import Derived.Laws.BitsLemmas
import Derived.Laws.BitsAllLaws
import Derived.Laws.Bits128
namespace Go.Proofs.Ytieomjkiabfhcaa
open Go.RowKit

/-- A pair (number, is there one): the number, or 0. -/
def okV (b : Bool) (v : Int) : Int := if b = true then v else 0
def okR (b : Bool) (v : Int) : Value := .tuple #[.int .i64 (okV b v), .bool b]
theorem okR_yes {b : Bool} {v : Int} (h : b = true) : okR b v = .tuple #[.int .i64 v, .bool true] := by subst h; rfl
theorem okR_no {b : Bool} {v : Int} (h : b = false) : okR b v = .tuple #[.int .i64 0, .bool false] := by subst h; rfl
theorem fitR_ok (x : Int) : fitR x = okR (fitB x) x := rfl

theorem pow_pos2 (k : Nat) : 1 ≤ (2 : Int) ^ k := by
  have : (0 : Int) < 2 ^ k := Int.pow_pos (by omega)
  omega
theorem pow_le2 {k m : Nat} (h : k ≤ m) : (2 : Int) ^ k ≤ 2 ^ m := by
  obtain ⟨d, rfl⟩ := Nat.exists_eq_add_of_le h
  rw [Int.pow_add]
  have h1 := pow_pos2 d
  have h2 := pow_pos2 k
  have := Int.mul_le_mul_of_nonneg_left h1 (by omega : (0 : Int) ≤ 2 ^ k)
  omega
theorem pow_split {k m : Nat} (h : k ≤ m) : (2 : Int) ^ m = 2 ^ (m - k) * 2 ^ k := by
  rw [← Int.pow_add, Nat.sub_add_cancel h]
theorem pow_half {k : Nat} (h : 1 ≤ k) : (2 : Int) ^ k = 2 * 2 ^ (k - 1) := by
  rw [pow_split h, Int.pow_succ, Int.pow_zero]; omega

/-! ### Shifts -/
def shB (n : Int) : Bool := decide (0 ≤ n ∧ n ≤ 63)
theorem shB_yes {n : Int} (h1 : 0 ≤ n) (h2 : n ≤ 63) : shB n = true := by unfold shB; exact decide_eq_true ⟨h1, h2⟩
theorem shB_no {n : Int} (h : n < 0 ∨ 63 < n) : shB n = false := by unfold shB; exact decide_eq_false (by omega)
def shlB (a n : Int) : Bool := shB n && fitB (a * 2 ^ n.toNat)
def shlR (a n : Int) : Value := okR (shlB a n) (a * 2 ^ n.toNat)
def shrR (a n : Int) : Value := okR (shB n) (a / 2 ^ n.toNat)
theorem shlR_out {a n : Int} (h : n < 0 ∨ 63 < n) : shlR a n = .tuple #[.int .i64 0, .bool false] := okR_no (by unfold shlB; rw [shB_no h]; rfl)
theorem shlR_no {a n : Int} (h1 : 0 ≤ n) (h2 : n ≤ 63) (h : ¬ (-9223372036854775808 ≤ a * 2 ^ n.toNat ∧ a * 2 ^ n.toNat ≤ 9223372036854775807)) : shlR a n = .tuple #[.int .i64 0, .bool false] := okR_no (by unfold shlB; rw [shB_yes h1 h2, fitB_no h]; rfl)
theorem shlR_yes {a n : Int} (h1 : 0 ≤ n) (h2 : n ≤ 63) (h : -9223372036854775808 ≤ a * 2 ^ n.toNat ∧ a * 2 ^ n.toNat ≤ 9223372036854775807) : shlR a n = .tuple #[.int .i64 (a * 2 ^ n.toNat), .bool true] := okR_yes (by unfold shlB; rw [shB_yes h1 h2, fitB_yes h]; rfl)
theorem shrR_out {a n : Int} (h : n < 0 ∨ 63 < n) : shrR a n = .tuple #[.int .i64 0, .bool false] := okR_no (shB_no h)
theorem shrR_yes {a n : Int} (h1 : 0 ≤ n) (h2 : n ≤ 63) : shrR a n = .tuple #[.int .i64 (a / 2 ^ n.toNat), .bool true] := okR_yes (shB_yes h1 h2)

theorem wrap_shift {a : Int} {k : Nat} (hk : k ≤ 63) : ∃ q : Int, wrap64 (a * 2 ^ k) = a * 2 ^ k - 18446744073709551616 * q ∧ wrap64 (a * 2 ^ k) / 2 ^ k = a - 2 ^ (64 - k) * q := by
  have e : wrap64 (a * 2 ^ k) = a * 2 ^ k - 18446744073709551616 * ((a * 2 ^ k + 9223372036854775808) / 18446744073709551616) := by unfold wrap64; omega
  refine ⟨_, e, ?_⟩
  generalize (a * 2 ^ k + 9223372036854775808) / 18446744073709551616 = q at e
  rw [e]
  have h : (18446744073709551616 : Int) = 2 ^ (64 - k) * 2 ^ k := by rw [← pow_split (by omega : k ≤ 64)]; rfl
  have hp := pow_pos2 k
  rw [h, show a * 2 ^ k - 2 ^ (64 - k) * 2 ^ k * q = (a - 2 ^ (64 - k) * q) * 2 ^ k by rw [Int.sub_mul]; congr 1; rw [Int.mul_assoc, Int.mul_comm (2 ^ k) q, Int.mul_assoc]]
  exact Int.mul_ediv_cancel _ (by omega)
theorem shl_back {a : Int} {k : Nat} (h : -9223372036854775808 ≤ a * 2 ^ k ∧ a * 2 ^ k ≤ 9223372036854775807) : wrap64 (a * 2 ^ k) / 2 ^ k = a := by
  rw [IntWalk.wrap64_in _ h]
  have hp := pow_pos2 k
  exact Int.mul_ediv_cancel _ (by omega)
theorem shl_off {a : Int} {k : Nat} (hk : k ≤ 63) (h : ¬ (-9223372036854775808 ≤ a * 2 ^ k ∧ a * 2 ^ k ≤ 9223372036854775807)) : wrap64 (a * 2 ^ k) / 2 ^ k ≠ a := by
  obtain ⟨q, h1, h2⟩ := wrap_shift (a := a) hk
  rw [h2]
  intro h3
  have hp := pow_pos2 (64 - k)
  have h4 : 2 ^ (64 - k) * q = 0 := by omega
  rcases Int.mul_eq_zero.1 h4 with h5 | h5
  · omega
  · subst h5
    unfold wrap64 at h1
    omega
theorem big_up {y : Int} {j : Nat} (h : ¬ (-9223372036854775808 ≤ y ∧ y ≤ 9223372036854775807)) : ¬ (-9223372036854775808 ≤ y * 2 ^ j ∧ y * 2 ^ j ≤ 9223372036854775807) := by
  have hp := pow_pos2 j
  by_cases hy : 0 ≤ y
  · have := Int.mul_le_mul_of_nonneg_left hp hy; omega
  · have := Int.mul_le_mul_of_nonneg_left hp (by omega : 0 ≤ -y)
    rw [Int.neg_mul y (2 ^ j)] at this; omega

/-! ### So many bits -/
def wiB (n : Int) : Bool := decide (1 ≤ n ∧ n ≤ 64)
theorem wiB_yes {n : Int} (h1 : 1 ≤ n) (h2 : n ≤ 64) : wiB n = true := by unfold wiB; exact decide_eq_true ⟨h1, h2⟩
theorem wiB_no {n : Int} (h : n < 1 ∨ 64 < n) : wiB n = false := by unfold wiB; exact decide_eq_false (by omega)
/-- The number that fits into k bits and differs by a multiple of 2^k. -/
def nar (k : Nat) (a : Int) : Int := (a + 2 ^ (k - 1)) % 2 ^ k - 2 ^ (k - 1)
def narR (a n : Int) : Value := okR (wiB n) (nar n.toNat a)
theorem narR_out {a n : Int} (h : n < 1 ∨ 64 < n) : narR a n = .tuple #[.int .i64 0, .bool false] := okR_no (wiB_no h)
theorem narR_yes {a n : Int} (h1 : 1 ≤ n) (h2 : n ≤ 64) : narR a n = .tuple #[.int .i64 (nar n.toNat a), .bool true] := okR_yes (wiB_yes h1 h2)
theorem nar_bd {k : Nat} (hk : 1 ≤ k) (a : Int) : -2 ^ (k - 1) ≤ nar k a ∧ nar k a ≤ 2 ^ (k - 1) - 1 := by
  unfold nar
  have h := pow_half hk
  have hp := pow_pos2 (k - 1)
  have h1 := Int.emod_nonneg (a + 2 ^ (k - 1)) (by omega : (2 : Int) ^ k ≠ 0)
  have h2 := Int.emod_lt_of_pos (a + 2 ^ (k - 1)) (by omega : (0 : Int) < 2 ^ k)
  omega
theorem nar_in64 {k : Nat} (hk : 1 ≤ k) (hk2 : k ≤ 64) (a : Int) : -9223372036854775808 ≤ nar k a ∧ nar k a ≤ 9223372036854775807 := by
  have h := nar_bd hk a
  have h2 := pow_le2 (by omega : k - 1 ≤ 63)
  have h3 : (2 : Int) ^ 63 = 9223372036854775808 := by decide
  omega
theorem nar_id {k : Nat} (hk : 1 ≤ k) {a : Int} (h1 : -2 ^ (k - 1) ≤ a) (h2 : a ≤ 2 ^ (k - 1) - 1) : nar k a = a := by
  unfold nar
  have h := pow_half hk
  rw [Int.emod_eq_of_lt (by omega) (by omega)]
  omega
theorem nar_off {k : Nat} (hk : 1 ≤ k) {a : Int} (h : ¬ (-2 ^ (k - 1) ≤ a ∧ a ≤ 2 ^ (k - 1) - 1)) : nar k a ≠ a := by
  intro e
  have := nar_bd hk a
  rw [e] at this
  exact h this
theorem nar_shift {a : Int} {k : Nat} (hk : 1 ≤ k) (hk2 : k ≤ 64) : wrap64 (a * 2 ^ (64 - k)) / 2 ^ (64 - k) = nar k a := by
  have hp := pow_pos2 (64 - k)
  have e1 : (18446744073709551616 : Int) = 2 ^ (64 - k) * 2 ^ k := by rw [← pow_split hk2]; rfl
  have e2 : (9223372036854775808 : Int) = 2 ^ (64 - k) * 2 ^ (k - 1) := by rw [← Int.pow_add, show 64 - k + (k - 1) = 63 by omega]; rfl
  unfold wrap64 nar
  rw [e1, e2]
  generalize (2 : Int) ^ (64 - k) = c at hp ⊢
  rw [Int.mul_comm a c, ← Int.mul_add, Int.mul_emod_mul_of_pos _ _ (by omega), ← Int.mul_sub]
  exact Int.mul_ediv_cancel_left _ (by omega)
theorem nar_cong {k : Nat} (a q : Int) : nar k (a + 2 ^ k * q) = nar k a := by
  unfold nar
  rw [show a + 2 ^ k * q + 2 ^ (k - 1) = a + 2 ^ (k - 1) + 2 ^ k * q by omega, Int.add_mul_emod_self_left]

def fitsB (a n : Int) : Bool := wiB n && decide (-2 ^ (n.toNat - 1) ≤ a ∧ a ≤ 2 ^ (n.toNat - 1) - 1)
theorem fitsB_out {a n : Int} (h : n < 1 ∨ 64 < n) : fitsB a n = false := by unfold fitsB; rw [wiB_no h]; rfl
theorem fitsB_yes {a n : Int} (h1 : 1 ≤ n) (h2 : n ≤ 64) (h : -2 ^ (n.toNat - 1) ≤ a ∧ a ≤ 2 ^ (n.toNat - 1) - 1) : fitsB a n = true := by unfold fitsB; rw [wiB_yes h1 h2, decide_eq_true h]; rfl
theorem fitsB_no {a n : Int} (h : ¬ (-2 ^ (n.toNat - 1) ≤ a ∧ a ≤ 2 ^ (n.toNat - 1) - 1)) : fitsB a n = false := by unfold fitsB; rw [decide_eq_false h, Bool.and_false]
theorem fitsB_nar {a n : Int} (h1 : 1 ≤ n) (h2 : n ≤ 64) : fitsB a n = (nar n.toNat a == a) := by
  have hk : 1 ≤ n.toNat := by omega
  by_cases h : -2 ^ (n.toNat - 1) ≤ a ∧ a ≤ 2 ^ (n.toNat - 1) - 1
  · rw [fitsB_yes h1 h2 h, nar_id hk h.1 h.2]; simp
  · rw [fitsB_no h]; have := nar_off hk h; simp [this]

theorem nar_tmod {k : Nat} (hk : 1 ≤ k) (a : Int) : nar k a = (if 2 ^ k / 2 ≤ a % 2 ^ k then a % 2 ^ k - 2 ^ k else a % 2 ^ k) := by
  have h := pow_half hk
  have hp := pow_pos2 (k - 1)
  unfold nar
  have h1 := Int.emod_nonneg a (by omega : (2 : Int) ^ k ≠ 0)
  have h2 := Int.emod_lt_of_pos a (by omega : (0 : Int) < 2 ^ k)
  rw [Int.add_emod, ← Int.emod_emod_of_dvd a (Int.dvd_refl _)]
  rw [Int.emod_eq_of_lt (by omega : (0 : Int) ≤ 2 ^ (k - 1)) (by omega : (2 : Int) ^ (k - 1) < 2 ^ k)]
  simp only [Int.emod_emod]
  generalize a % 2 ^ k = r at h1 h2 ⊢
  split
  · rw [show r + 2 ^ (k - 1) = (r + 2 ^ (k - 1) - 2 ^ k) + 2 ^ k by omega, Int.add_emod_right, Int.emod_eq_of_lt (by omega) (by omega)]; omega
  · rw [Int.emod_eq_of_lt (by omega) (by omega)]; omega
theorem tmod_bd {a p : Int} (hp : 1 ≤ p) : -p < a.tmod p ∧ a.tmod p < p := by
  have h4 : (a.tmod p).natAbs < p.natAbs := by
    rw [Int.natAbs_tmod]; exact Nat.mod_lt _ (by omega)
  omega
theorem tmod_neg {a p : Int} (hp : 1 ≤ p) (h : a.tmod p < 0) : a % p = a.tmod p + p := by
  have e : a % p = (a.tmod p) % p := by
    conv => lhs; rw [← Int.mul_tdiv_add_tmod a p]
    rw [Int.add_comm, Int.add_mul_emod_self_left]
  have := tmod_bd (a := a) hp
  rw [e, show a.tmod p = (a.tmod p + p) - p by omega, Int.sub_emod_right]
  rw [Int.emod_eq_of_lt (by omega) (by omega)]
  omega
theorem tmod_pos {a p : Int} (hp : 1 ≤ p) (h : 0 ≤ a.tmod p) : a % p = a.tmod p := by
  have e : a % p = (a.tmod p) % p := by
    conv => lhs; rw [← Int.mul_tdiv_add_tmod a p]
    rw [Int.add_comm, Int.add_mul_emod_self_left]
  have := tmod_bd (a := a) hp
  rw [e, Int.emod_eq_of_lt (by omega) (by omega)]

/-! ### Bits of two numbers -/
theorem i64_or_join (k : Nat) (x y : Int) (hk : k ≤ 64) (hx : x % 2 ^ k = 0) (hy1 : 0 ≤ y) (hy2 : y < 2 ^ k) (hr : -9223372036854775808 ≤ x + y ∧ x + y ≤ 9223372036854775807) (hy3 : y ≤ 9223372036854775807) : bits .or .i64 x y = x + y := by
  have hyn : (BitVec.ofInt 64 y).toNat = y.toNat := by rw [BitVec.toNat_ofInt]; congr 1; omega
  have hp : ((2 ^ k : Nat) : Int) = 2 ^ k := by simp
  have key : (BitVec.ofInt 64 x ||| BitVec.ofInt 64 y).toNat = (x % ((2 ^ 64 : Nat) : Int)).toNat + y.toNat := by
    rw [BitVec.toNat_or, BitVec.toNat_ofInt, hyn]
    refine nat_join k _ _ ?_ ?_
    · have h1 : x % ((2 ^ 64 : Nat) : Int) % 2 ^ k = 0 := by
        rw [Int.emod_emod_of_dvd _ (by rw [show ((2 ^ 64 : Nat) : Int) = 2 ^ 64 by rfl, pow_split hk]; exact Int.dvd_mul_left _ _), hx]
      have h2 := Int.emod_nonneg x (by decide : ((2 ^ 64 : Nat) : Int) ≠ 0)
      have h3 : (((x % ((2 ^ 64 : Nat) : Int)).toNat % 2 ^ k : Nat) : Int) = 0 := by rw [Int.natCast_emod, hp, Int.toNat_of_nonneg h2]; exact h1
      exact Int.ofNat_eq_zero.1 h3
    · have : ((y.toNat : Nat) : Int) < ((2 ^ k : Nat) : Int) := by rw [hp, Int.toNat_of_nonneg hy1]; exact hy2
      exact Int.ofNat_lt.1 this
  show IntKind.i64.wrap ((BitVec.ofInt 64 x ||| BitVec.ofInt 64 y).toNat : Nat) = x + y
  rw [key, IntKind.wrap_i64]
  omega
theorem i64_and32 (n : Int) : bits .and .i64 n 4294967295 = n % 4294967296 := by
  have h : (BitVec.ofInt 64 4294967295).toNat = 2 ^ 32 - 1 := by decide
  have key : (BitVec.ofInt 64 n &&& BitVec.ofInt 64 4294967295).toNat = (n % ((2 ^ 64 : Nat) : Int)).toNat % 2 ^ 32 := by
    rw [BitVec.toNat_and, BitVec.toNat_ofInt, h, Nat.and_two_pow_sub_one_eq_mod]
  show IntKind.i64.wrap ((BitVec.ofInt 64 n &&& BitVec.ofInt 64 4294967295).toNat : Nat) = n % 4294967296
  rw [key, IntKind.wrap_i64]
  omega
theorem u64_and32 (n : Int) : bits .and .u64 n 4294967295 = n % 4294967296 := by
  have h : (BitVec.ofInt 64 4294967295).toNat = 2 ^ 32 - 1 := by decide
  have key : (BitVec.ofInt 64 n &&& BitVec.ofInt 64 4294967295).toNat = (n % ((2 ^ 64 : Nat) : Int)).toNat % 2 ^ 32 := by
    rw [BitVec.toNat_and, BitVec.toNat_ofInt, h, Nat.and_two_pow_sub_one_eq_mod]
  show IntKind.u64.wrap ((BitVec.ofInt 64 n &&& BitVec.ofInt 64 4294967295).toNat : Nat) = n % 4294967296
  rw [key, IntKind.wrap_u64]
  omega

/-! ### Products -/
theorem mul_back {a b : Int} (h0 : b ≠ 0) (ha : -9223372036854775808 ≤ a ∧ a ≤ 9223372036854775807) (h : -9223372036854775808 ≤ a * b ∧ a * b ≤ 9223372036854775807) : wrap64 ((wrap64 (a * b)).tdiv b) = a := by
  rw [IntWalk.wrap64_in _ h, Int.mul_tdiv_cancel _ h0, IntWalk.wrap64_in _ ha]
theorem tdiv_bd {p b : Int} (h0 : b ≠ 0) (h1 : b ≠ -1) (hp : -9223372036854775808 ≤ p ∧ p ≤ 9223372036854775807) : -9223372036854775808 ≤ p.tdiv b ∧ p.tdiv b ≤ 9223372036854775807 := by
  by_cases e : b = 1
  · subst e; rw [Int.tdiv_one]; exact hp
  have h2 : (p.tdiv b).natAbs = p.natAbs / b.natAbs := Int.natAbs_tdiv p b
  have h3 : p.natAbs / b.natAbs ≤ p.natAbs / 2 := Nat.div_le_div_left (by omega) (by omega)
  omega
theorem mul_off {a b : Int} (h0 : b ≠ 0) (h1 : b ≠ -1) (hb : -9223372036854775808 ≤ b ∧ b ≤ 9223372036854775807) (h : ¬ (-9223372036854775808 ≤ a * b ∧ a * b ≤ 9223372036854775807)) : wrap64 ((wrap64 (a * b)).tdiv b) ≠ a := by
  have hw : -9223372036854775808 ≤ wrap64 (a * b) ∧ wrap64 (a * b) ≤ 9223372036854775807 := by unfold wrap64; omega
  have e : wrap64 (a * b) = a * b - 18446744073709551616 * ((a * b + 9223372036854775808) / 18446744073709551616) := by unfold wrap64; omega
  rw [IntWalk.wrap64_in _ (tdiv_bd h0 h1 hw)]
  intro h2
  have h3 := Int.mul_tdiv_add_tmod (wrap64 (a * b)) b
  rw [h2, Int.mul_comm b a] at h3
  have h4 : ((wrap64 (a * b)).tmod b).natAbs < b.natAbs := by
    rw [Int.natAbs_tmod]; exact Nat.mod_lt _ (by omega)
  generalize (wrap64 (a * b)).tmod b = t at h3 h4
  generalize wrap64 (a * b) = p at *
  generalize a * b = x at *
  omega
end Go.Proofs.Ytieomjkiabfhcaa
