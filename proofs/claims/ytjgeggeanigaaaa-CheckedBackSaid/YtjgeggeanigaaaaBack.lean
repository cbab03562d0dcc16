/- Plain numbers, without any program: a number comes back from its bytes, and bytes from their number. No conditions beyond those in each line. -/
import Derived.Test.YtjgeggeanigaaaaByt
namespace Go.Proofs.Ytjgeggeanigaaaa
open Go.RowKit
set_option linter.unusedVariables false

theorem p256_pos (k : Nat) : 1 ≤ (256 : Int) ^ k := by have : (0 : Int) < 256 ^ k := Int.pow_pos (by omega); omega
theorem fold_shift : ∀ (l : List Int) (x : Int), l.foldl (fun x b => x * 256 + b) x = x * 256 ^ l.length + ubig l := by
  intro l
  induction l with
  | nil => intro x; simp [ubig]
  | cons b l ih =>
    intro x
    unfold ubig
    rw [List.foldl_cons, List.foldl_cons, ih, ih, List.length_cons, Int.pow_succ]
    grind
theorem ubig_cons (x : Int) (l : List Int) : ubig (x :: l) = x * 256 ^ l.length + ubig l := by
  unfold ubig; rw [List.foldl_cons, fold_shift]; unfold ubig; simp
theorem ubig_beL (n : Nat) (a : Int) : ubig (beL n a) = a % 256 ^ n := by
  induction n with
  | zero => rw [beL_zero]; simp [ubig, Int.emod_one]
  | succ n ih =>
    rw [beL_succ, ubig_cons, beL_length, ih]
    unfold byteAt
    have hp := p256_pos n
    have e1 := Int.mul_ediv_add_emod a (256 ^ n)
    have e2 := Int.mul_ediv_add_emod (a / 256 ^ n) 256
    have b1 := Int.emod_nonneg a (by omega : (256 : Int) ^ n ≠ 0)
    have b2 := Int.emod_lt_of_pos a (by omega : (0 : Int) < 256 ^ n)
    have b3 := Int.emod_nonneg (a / 256 ^ n) (by omega : (256 : Int) ≠ 0)
    have b4 := Int.emod_lt_of_pos (a / 256 ^ n) (by omega : (0 : Int) < 256)
    generalize a / 256 ^ n % 256 = r at *
    generalize a / 256 ^ n / 256 = q at *
    generalize a / 256 ^ n = z at *
    generalize a % 256 ^ n = t at *
    rw [Int.pow_succ]
    generalize (256 : Int) ^ n = P at *
    have e3 : a = (r * P + t) + P * 256 * q := by rw [← e1, ← e2]; grind
    rw [e3, Int.add_mul_emod_self_left, Int.emod_eq_of_lt]
    · have := Int.mul_nonneg b3 (by omega : 0 ≤ P); omega
    · have : r * P ≤ 255 * P := Int.mul_le_mul_of_nonneg_right (by omega) (by omega)
      omega
theorem byteAt_cong {n j : Nat} (hj : j < n) (a q : Int) : byteAt (a + 256 ^ n * q) j = byteAt a j := by
  unfold byteAt
  have hp := p256_pos j
  rw [show n = j + (1 + (n - j - 1)) by omega, Int.pow_add, Int.mul_assoc, Int.add_mul_ediv_left _ _ (by omega), Int.pow_add]
  rw [show (256 : Int) ^ 1 = 256 by rfl, Int.mul_assoc, Int.add_mul_emod_self_left]
theorem beL_cong (n : Nat) (a q : Int) : beL n (a + 256 ^ n * q) = beL n a := by
  unfold beL row
  apply List.map_congr_left
  intro j hj
  have hj' := List.mem_range.1 hj
  rw [if_pos (by omega), if_pos (by omega), byteAt_cong (by omega)]
theorem beL_ubig : ∀ (l : List Int), (∀ x ∈ l, 0 ≤ x ∧ x ≤ 255) → beL l.length (ubig l) = l := by
  intro l
  induction l with
  | nil => intro _; rfl
  | cons x l ih =>
    intro h
    have hx := h x (by simp)
    have hl : ∀ y ∈ l, 0 ≤ y ∧ y ≤ 255 := fun y hy => h y (by simp [hy])
    have hb := ubig_bd l hl
    have hp := p256_pos l.length
    rw [List.length_cons, beL_succ, ubig_cons, Int.add_comm, Int.mul_comm, beL_cong, ih hl]
    congr 1
    unfold byteAt
    rw [Int.add_mul_ediv_left _ _ (by omega), Int.ediv_eq_zero_of_lt (by omega) (by omega)]
    omega
theorem nums_str (l : List Int) (h : ∀ x ∈ l, 0 ≤ x ∧ x ≤ 255) : nums (strOfNums l) = l := by
  unfold nums
  rw [strOfNums_data, List.map_map]
  conv => rhs; rw [← List.map_id l]
  apply List.map_congr_left
  intro x hx
  have := h x hx
  simp [UInt8.toNat_ofNat']
  omega
theorem str_nums (s : ByteArray) : strOfNums (nums s) = s := by
  apply ByteArray.ext
  apply Array.ext'
  show ((nums s).map fun n => UInt8.ofNat n.toNat).toArray.toList = _
  unfold nums
  simp [List.map_map, Function.comp_def]
theorem nar_mod {k : Nat} (a : Int) : nar k (a % 2 ^ k) = nar k a := by
  have e : a = a % 2 ^ k + 2 ^ k * (a / 2 ^ k) := by have := Int.mul_ediv_add_emod a (2 ^ k); omega
  conv => rhs; rw [e, nar_cong]
theorem beL_all (n : Nat) (a : Int) : ∀ x ∈ beL n a, 0 ≤ x ∧ x ≤ 255 := fun x hx => row_bd hx
/-- A number that fits comes back from its bytes. -/
theorem ofR_bytes {a n : Int} (h : bytesB a n = true) : ofR (strOfNums (beL n.toNat a)) = .tuple #[.int .i64 a, .bool true] ∧ (strOfNums (beL n.toNat a)).size = n.toNat ∧ 1 ≤ n ∧ n ≤ 8 := by
  have h1 : 1 ≤ n ∧ n ≤ 8 := by
    by_cases h2 : n < 1 ∨ 8 < n
    · rw [bytesB_out h2] at h; cases h
    · omega
  have hf : fitsB a (8 * n) = true := by
    by_cases h2 : fitsB a (8 * n) = true
    · exact h2
    · rw [bytesB_off (by simpa using h2)] at h; cases h
  have hs : (strOfNums (beL n.toNat a)).size = n.toNat := by rw [strOfNums_size, beL_length]
  refine ⟨?_, hs, h1⟩
  rw [ofR_yes (by omega) (by omega)]
  refine tup_eq ?_
  unfold ofN
  rw [hs, nums_str _ (beL_all _ _), ubig_beL, pow256, nar_mod]
  rw [fitsB_nar (by omega) (by omega), show (8 * n).toNat = 8 * n.toNat by omega] at hf
  exact eq_of_beq hf
/-- One to eight bytes come back from their number. -/
theorem bytesR_of {s : ByteArray} (h1 : 1 ≤ s.size) (h2 : s.size ≤ 8) : bytesR (ofN s) s.size = .tuple #[.string s, .bool true] := by
  have hb := nar_bd (k := 8 * s.size) (by omega) (ubig (nums s))
  rw [bytesR_yes (bytesB_yes (by omega) (by omega) (fitsB_yes (by omega) (by omega) (by rw [show (8 * (s.size : Int)).toNat = 8 * s.size by omega]; exact hb)))]
  congr 2
  have e : ofN s = ubig (nums s) + 256 ^ s.size * -((ubig (nums s) + 2 ^ (8 * s.size - 1)) / 2 ^ (8 * s.size)) := by
    unfold ofN nar
    have := Int.mul_ediv_add_emod (ubig (nums s) + 2 ^ (8 * s.size - 1)) (2 ^ (8 * s.size))
    rw [pow256, Int.mul_neg]; omega
  rw [show ((s.size : Int)).toNat = s.size by omega, e, beL_cong]
  have := beL_ubig (nums s) (nums_bd s)
  rw [nums_length] at this
  rw [this, str_nums]
theorem ofN_bd {s : ByteArray} (h1 : 1 ≤ s.size) (h2 : s.size ≤ 8) : -9223372036854775808 ≤ ofN s ∧ ofN s ≤ 9223372036854775807 := nar_in64 (by omega) (by omega) _
theorem pack_back {a : Int} : a / 4294967296 * 4294967296 + wrap32 a % 4294967296 = a := by unfold wrap32; omega
end Go.Proofs.Ytjgeggeanigaaaa
