/- What the queue's functions of package pile do, for any queue that NewQueue made: NewQueue, Len, Put and Take. -/
import Derived.Test.YtiefphkfddecbaaPKept
import Derived.Test.YtiefphkfddecbaaRows
import Derived.LoopTactic
import Derived.Deep.QuietTactic
import Derived.BigQuiet
import Derived.Deep.RegionHeld3
import Derived.Deep.OwnRows
namespace Go.Proofs.Ytiefphkfddecbaa
open Go.RowKit
set_option linter.unusedVariables false

def IsPow (R : Nat) : Prop := ∃ k, k ≤ 16 ∧ R = 2 ^ k
theorem IsPow.double {R : Nat} (h : IsPow R) (hr : R < 65536) : IsPow (R * 2) := by
  obtain ⟨k, hk, rfl⟩ := h
  have : k < 16 := (Nat.pow_lt_pow_iff_right (a := 2) (by omega)).1 (by omega)
  exact ⟨k + 1, by omega, by rw [Nat.pow_succ]⟩
theorem IsPow.le {R : Nat} (h : IsPow R) : 1 ≤ R ∧ R ≤ 65536 := by
  obtain ⟨k, hk, rfl⟩ := h
  have h1 : (2 : Nat) ^ k ≤ 2 ^ 16 := Nat.pow_le_pow_right (by omega) hk
  have h2 : 0 < (2 : Nat) ^ k := Nat.pow_pos (by omega)
  omega
def PowRes (n : Int) (w : World) (e : Ending) (w' : World) : Prop := ∃ R : Nat, IsPow R ∧ n ≤ (R : Int) ∧ e = .returned (.int .i64 (R : Int)) ∧ w = w'
theorem Try.infoInt : (Try.prog.info? 3).map (fun i => (i.zero, i.size, i.bytes)) = some (some (.int .i64 0), 1, 8) := by kernel_rfl
theorem u32_sub (taken n : Nat) (h1 : taken < 4294967296) (h2 : n ≤ 65536) : IntKind.u32.wrap ((((taken + n) % 4294967296 : Nat) : Int) - (taken : Int)) = (n : Int) := by
  simp [IntKind.wrap, IntKind.bits, IntKind.signed]; omega
theorem mask {R : Nat} (h : IsPow R) (c : Nat) : bits .and .i64 (c : Int) ((R : Int) - 1) = ((c % R : Nat) : Int) := by
  obtain ⟨k, hk, rfl⟩ := h
  have h0 : 0 < (2 : Nat) ^ k := Nat.pow_pos (by omega)
  have := i64_and_mask (c : Int) k (by omega)
  rw [show ((2 ^ k - 1 : Nat) : Int) = ((2 ^ k : Nat) : Int) - 1 by omega] at this
  rw [this, Int.natCast_emod]
theorem IsPow.dvd {R : Nat} (h : IsPow R) : R ∣ 4294967296 := by
  obtain ⟨k, hk, rfl⟩ := h
  exact Nat.pow_dvd_pow 2 (show k ≤ 32 by omega)
theorem mod_ne {R a i j : Nat} (h : i < j) (hj : j - i < R) : (a + i) % R ≠ (a + j) % R := fun e => by
  have := Nat.sub_mod_eq_zero_of_mod_eq e.symm
  rw [show a + j - (a + i) = j - i by omega, Nat.mod_eq_of_lt hj] at this
  omega
end Go.Proofs.Ytiefphkfddecbaa
