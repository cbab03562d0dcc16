/- Plain numbers, without any program: the bytes of a number, the most significant one first, and the number of so many bytes. No conditions beyond those in each line. -/
import Derived.Test.YtjgeggeanigaaaaNumb
import Derived.Laws.BytesArg
namespace Go.Proofs.Ytjgeggeanigaaaa
open Go.RowKit
set_option linter.unusedVariables false

def byteAt (a : Int) (j : Nat) : Int := a / 256 ^ j % 256
theorem byteAt_bd (a : Int) (j : Nat) : 0 ≤ byteAt a j ∧ byteAt a j ≤ 255 := by unfold byteAt; omega
/-- The n places, of which the last k are filled. -/
def row (n k : Nat) (a : Int) : List Int := (List.range n).map fun j => if n - 1 - j < k then byteAt a (n - 1 - j) else 0
def beL (n : Nat) (a : Int) : List Int := row n n a
theorem row_length (n k : Nat) (a : Int) : (row n k a).length = n := by simp [row]
theorem row_zero (n : Nat) (a : Int) : row n 0 a = List.replicate n 0 := by
  apply List.ext_getElem
  · simp [row]
  · intro i h1 h2; simp [row]
theorem row_get {n k j : Nat} {a : Int} (hj : j < n) : (row n k a)[j]? = some (if n - 1 - j < k then byteAt a (n - 1 - j) else 0) := by
  simp [row, hj]
theorem row_set {n k : Nat} {a : Int} (hk : k < n) : (row n k a).set (n - 1 - k) (byteAt a k) = row n (k + 1) a := by
  apply List.ext_getElem
  · simp [row]
  · intro i h1 h2
    have hi : i < n := by simpa [row] using h2
    rw [List.getElem_set]
    simp only [row, List.getElem_map, List.getElem_range]
    by_cases h : n - 1 - k = i
    · rw [if_pos h, if_pos (by omega), show n - 1 - i = k by omega]
    · rw [if_neg h]
      by_cases h3 : n - 1 - i < k
      · rw [if_pos h3, if_pos (by omega)]
      · rw [if_neg h3, if_neg (by omega)]
theorem row_bd {n k : Nat} {a x : Int} (h : x ∈ row n k a) : 0 ≤ x ∧ x ≤ 255 := by
  simp only [row, List.mem_map] at h
  obtain ⟨j, _, rfl⟩ := h
  split
  · exact byteAt_bd _ _
  · omega
theorem beL_zero (a : Int) : beL 0 a = [] := rfl
theorem beL_succ (k : Nat) (a : Int) : beL (k + 1) a = byteAt a k :: beL k a := by
  apply List.ext_getElem
  · simp [beL, row]
  · intro i h1 h2
    have hi : i < k + 1 := by simpa [beL, row] using h1
    cases i with
    | zero => simp [beL, row]
    | succ i =>
      simp only [beL, row, List.getElem_map, List.getElem_range, List.getElem_cons_succ]
      rw [if_pos (by omega), if_pos (by omega), show k + 1 - 1 - (i + 1) = k - 1 - i by omega]
theorem beL_length (n : Nat) (a : Int) : (beL n a).length = n := row_length n n a
theorem strOfNums_cons (x : Int) (l : List Int) : strOfNums [x] ++ strOfNums l = strOfNums (x :: l) := by
  apply ByteArray.ext
  simp [strOfNums, ByteArray.data_append]
theorem byte_shift (a : Int) (k : Nat) : a / 2 ^ (8 * k) % 256 = byteAt a k := by
  unfold byteAt
  rw [Int.pow_mul]
  rfl
theorem byte_div (a : Int) (k : Nat) : a / 256 ^ k % 256 = byteAt a k := rfl
theorem div_step (a : Int) (k : Nat) : a / 256 ^ k / 256 = a / 256 ^ (k + 1) := by
  rw [Int.pow_succ, Int.ediv_ediv_of_nonneg (Int.le_of_lt (Int.pow_pos (by omega)))]
theorem div_bd {a : Int} (k : Nat) (h1 : -9223372036854775808 ≤ a) (h2 : a ≤ 9223372036854775807) : -9223372036854775808 ≤ a / 256 ^ k ∧ a / 256 ^ k ≤ 9223372036854775807 := by
  induction k with
  | zero => simp; omega
  | succ k ih => rw [← div_step]; omega

def byB (n : Int) : Bool := decide (1 ≤ n ∧ n ≤ 8)
theorem byB_yes {n : Int} (h1 : 1 ≤ n) (h2 : n ≤ 8) : byB n = true := by unfold byB; exact decide_eq_true ⟨h1, h2⟩
theorem byB_no {n : Int} (h : n < 1 ∨ 8 < n) : byB n = false := by unfold byB; exact decide_eq_false (by omega)
def bytesB (a n : Int) : Bool := byB n && fitsB a (8 * n)
def bytesS (a n : Int) : ByteArray := if bytesB a n = true then strOfNums (beL n.toNat a) else ⟨#[]⟩
def bytesR (a n : Int) : Value := .tuple #[.string (bytesS a n), .bool (bytesB a n)]
theorem bytesR_no {a n : Int} (h : bytesB a n = false) : bytesR a n = .tuple #[.string ⟨#[]⟩, .bool false] := by unfold bytesR bytesS; rw [h]; rfl
theorem bytesR_yes {a n : Int} (h : bytesB a n = true) : bytesR a n = .tuple #[.string (strOfNums (beL n.toNat a)), .bool true] := by unfold bytesR bytesS; rw [h]; rfl
theorem bytesB_out {a n : Int} (h : n < 1 ∨ 8 < n) : bytesB a n = false := by unfold bytesB; rw [byB_no h]; rfl
theorem bytesB_off {a n : Int} (h : fitsB a (8 * n) = false) : bytesB a n = false := by unfold bytesB; rw [h, Bool.and_false]
theorem bytesB_yes {a n : Int} (h1 : 1 ≤ n) (h2 : n ≤ 8) (h : fitsB a (8 * n) = true) : bytesB a n = true := by unfold bytesB; rw [h, byB_yes h1 h2]; rfl
theorem nar8 (a : Int) : narR a 8 = .tuple #[.int .i64 ((a + 128) % 256 - 128), .bool true] := by
  rw [narR_yes (by omega) (by omega)]; rfl
theorem shr8 (a : Int) : shrR a 8 = .tuple #[.int .i64 (a / 256), .bool true] := by
  rw [shrR_yes (by omega) (by omega)]; rfl

/-! ### The number of so many bytes -/
/-- The number whose bytes, none of them a sign, these are. -/
def ubig : List Int → Int := List.foldl (fun x b => x * 256 + b) 0
theorem ubig_snoc (l : List Int) (b : Int) : ubig (l ++ [b]) = ubig l * 256 + b := by simp [ubig]
theorem fold_bd : ∀ (l : List Int) (x : Int), 0 ≤ x → (∀ b ∈ l, 0 ≤ b ∧ b ≤ 255) → 0 ≤ l.foldl (fun x b => x * 256 + b) x ∧ l.foldl (fun x b => x * 256 + b) x + 1 ≤ (x + 1) * 256 ^ l.length := by
  intro l
  induction l with
  | nil => intro x hx _; simp; omega
  | cons b l ih =>
    intro x hx h
    have hb := h b (by simp)
    have h2 := ih (x * 256 + b) (by omega) (fun c hc => h c (by simp [hc]))
    rw [List.foldl_cons, List.length_cons, Int.pow_succ]
    have hp : (0 : Int) < 256 ^ l.length := Int.pow_pos (by omega)
    have h3 : (x * 256 + b + 1) * 256 ^ l.length ≤ ((x + 1) * 256) * 256 ^ l.length := Int.mul_le_mul_of_nonneg_right (by omega) (by omega)
    rw [Int.mul_assoc, Int.mul_comm 256 (256 ^ l.length)] at h3
    omega
theorem ubig_bd (l : List Int) (h : ∀ x ∈ l, 0 ≤ x ∧ x ≤ 255) : 0 ≤ ubig l ∧ ubig l + 1 ≤ 256 ^ l.length := by
  have := fold_bd l 0 (by omega) h
  unfold ubig; omega
/-- The bytes of a text, as numbers. -/
def nums (s : ByteArray) : List Int := s.data.toList.map fun c => (c.toNat : Int)
theorem nums_length (s : ByteArray) : (nums s).length = s.size := by simp [nums]
theorem nums_bd (s : ByteArray) : ∀ x ∈ nums s, 0 ≤ x ∧ x ≤ 255 := by
  intro x hx
  simp only [nums, List.mem_map] at hx
  obtain ⟨c, _, rfl⟩ := hx
  have := c.toNat_lt; omega
theorem take_bd (s : ByteArray) (k : Nat) : ∀ x ∈ (nums s).take k, 0 ≤ x ∧ x ≤ 255 := fun x hx => nums_bd s x (List.mem_of_mem_take hx)
theorem ubig_take (s : ByteArray) {k : Nat} (h : k < s.size) : ubig ((nums s).take (k + 1)) = ubig ((nums s).take k) * 256 + (s[k].toNat : Int) := by
  rw [List.take_succ_eq_append_getElem (by rw [nums_length]; exact h), ubig_snoc]
  simp [nums]
  rfl
theorem ubig_take_bd (s : ByteArray) {k : Nat} (h : k ≤ s.size) : 0 ≤ ubig ((nums s).take k) ∧ ubig ((nums s).take k) + 1 ≤ 256 ^ k := by
  have := ubig_bd _ (take_bd s k)
  rw [List.length_take, nums_length, Nat.min_eq_left h] at this
  exact this
def ofN (s : ByteArray) : Int := nar (8 * s.size) (ubig (nums s))
def ofR (s : ByteArray) : Value := okR (byB s.size) (ofN s)
theorem ofR_out {s : ByteArray} (h : (s.size : Int) < 1 ∨ 8 < (s.size : Int)) : ofR s = .tuple #[.int .i64 0, .bool false] := okR_no (byB_no h)
theorem ofR_yes {s : ByteArray} (h1 : 1 ≤ s.size) (h2 : s.size ≤ 8) : ofR s = .tuple #[.int .i64 (ofN s), .bool true] := okR_yes (byB_yes (by omega) (by omega))
theorem pow256 (k : Nat) : (256 : Int) ^ k = 2 ^ (8 * k) := by rw [Int.pow_mul]; rfl
theorem nar_wrap {k : Nat} (hk : k ≤ 64) (x : Int) : nar k (wrap64 x) = nar k x := by
  have e : wrap64 x = x + 2 ^ k * (2 ^ (64 - k) * -((x + 9223372036854775808) / 18446744073709551616)) := by
    rw [← Int.mul_assoc, Int.mul_comm (2 ^ k) (2 ^ (64 - k)), ← pow_split hk]
    show wrap64 x = x + 18446744073709551616 * -((x + 9223372036854775808) / 18446744073709551616)
    unfold wrap64; omega
  rw [e, nar_cong]
theorem or_byte {x b : Int} (hx1 : 0 ≤ x) (hx2 : x ≤ 72057594037927935) (hb1 : 0 ≤ b) (hb2 : b ≤ 255) : bits .or .i64 (wrap64 (x * 256)) b = wrap64 (x * 256 + b) := by
  rw [i64_or_join 8 (wrap64 (x * 256)) b (by omega) (by show wrap64 (x * 256) % 256 = 0; unfold wrap64; omega) hb1 (by show b < 256; omega) (by unfold wrap64; omega) (by omega)]
  unfold wrap64; omega
theorem p256_7 : (256 : Int) ^ 7 = 72057594037927936 := by decide
theorem pow256_le {k : Nat} (h : k ≤ 7) : (256 : Int) ^ k ≤ 72057594037927936 := by
  rw [pow256]; have := pow_le2 (show 8 * k ≤ 56 by omega); have h2 : (2 : Int) ^ 56 = 72057594037927936 := by decide
  omega
theorem first_big {s : ByteArray} (h : 0 < s.size) : ∀ k, 1 ≤ k → k ≤ s.size → ∃ r, ubig ((nums s).take k) = (s[0].toNat : Int) * 256 ^ (k - 1) + r ∧ 0 ≤ r ∧ r + 1 ≤ 256 ^ (k - 1) := by
  intro k
  induction k with
  | zero => intro h1; omega
  | succ k ih =>
    intro _ h2
    by_cases hk : k = 0
    · subst hk
      refine ⟨0, ?_, by omega, by simp⟩
      rw [ubig_take s h]
      simp [ubig]
    · obtain ⟨r, h3, h4, h5⟩ := ih (by omega) (by omega)
      have hc : s[k].toNat < 256 := s[k].toNat_lt
      refine ⟨r * 256 + s[k].toNat, ?_, by omega, ?_⟩
      · rw [ubig_take s (by omega), h3, show k + 1 - 1 = (k - 1) + 1 by omega, Int.pow_succ, Int.add_mul, Int.mul_assoc]; omega
      · rw [show k + 1 - 1 = (k - 1) + 1 by omega, Int.pow_succ]; omega
/-- What the document's way has after k bytes. -/
def sb (s : ByteArray) (k : Nat) (h : 0 < s.size) : Int := ubig ((nums s).take k) - if 127 < (s[0].toNat : Int) then 256 ^ k else 0
theorem ofN_sb {s : ByteArray} (h : 0 < s.size) (h8 : s.size ≤ 8) : sb s s.size h = ofN s := by
  obtain ⟨r, h3, h4, h5⟩ := first_big h s.size (by omega) (Nat.le_refl _)
  have hc : s[0].toNat < 256 := s[0].toNat_lt
  unfold sb ofN
  rw [List.take_of_length_le (by rw [nums_length]; exact Nat.le_refl _)] at h3 ⊢
  have hp : (256 : Int) ^ s.size = 256 * 256 ^ (s.size - 1) := by rw [← Int.pow_succ', show s.size - 1 + 1 = s.size by omega]
  have hq : (256 : Int) ^ (s.size - 1) ≥ 1 := by have := Int.pow_pos (n := 256) (m := s.size - 1) (by omega); omega
  have h2 : (2 : Int) ^ (8 * s.size - 1) = 128 * 256 ^ (s.size - 1) := by
    rw [pow256, show 8 * s.size - 1 = 7 + 8 * (s.size - 1) by omega, Int.pow_add]; rfl
  have h1 : (2 : Int) ^ (8 * s.size) = 256 * 256 ^ (s.size - 1) := by rw [← pow256, hp]
  generalize (256 : Int) ^ (s.size - 1) = q at *
  generalize ubig (nums s) = U at *
  generalize hcc : (s[0].toNat : Int) = c at *
  have c1 : c * q ≤ 255 * q := Int.mul_le_mul_of_nonneg_right (by omega) (by omega)
  split
  · have c2 : 128 * q ≤ c * q := Int.mul_le_mul_of_nonneg_right (by omega) (by omega)
    have e : U = (U - 256 * q) + 2 ^ (8 * s.size) * 1 := by rw [h1]; omega
    rw [e, nar_cong, nar_id (by omega) (by rw [h2]; omega) (by rw [h2]; omega), hp]
    omega
  · have c2 : c * q ≤ 127 * q := Int.mul_le_mul_of_nonneg_right (by omega) (by omega)
    have c3 : 0 ≤ c * q := Int.mul_nonneg (by omega) (by omega)
    rw [nar_id (by omega) (by rw [h2]; omega) (by rw [h2]; omega)]
    omega
theorem sb_bd {s : ByteArray} (h : 0 < s.size) {k : Nat} (h1 : 1 ≤ k) (h2 : k ≤ s.size) (h7 : k ≤ 7) : -36028797018963968 ≤ sb s k h ∧ sb s k h ≤ 36028797018963967 := by
  obtain ⟨r, h3, h4, h5⟩ := first_big h k h1 h2
  have hc : s[0].toNat < 256 := s[0].toNat_lt
  unfold sb
  rw [h3]
  have hp : (256 : Int) ^ k = 256 * 256 ^ (k - 1) := by rw [← Int.pow_succ', show k - 1 + 1 = k by omega]
  have hq : (256 : Int) ^ (k - 1) ≥ 1 := by have := Int.pow_pos (n := 256) (m := k - 1) (by omega); omega
  have hq2 : (256 : Int) ^ (k - 1) ≤ 281474976710656 := by
    rw [pow256]; have := pow_le2 (show 8 * (k - 1) ≤ 48 by omega); have h2 : (2 : Int) ^ 48 = 281474976710656 := by decide
    omega
  rw [hp]
  generalize (256 : Int) ^ (k - 1) = q at *
  generalize hcc : (s[0].toNat : Int) = c at *
  split
  · have c2 : 128 * q ≤ c * q := Int.mul_le_mul_of_nonneg_right (by omega) (by omega)
    have c1 : c * q ≤ 255 * q := Int.mul_le_mul_of_nonneg_right (by omega) (by omega)
    omega
  · have c2 : c * q ≤ 127 * q := Int.mul_le_mul_of_nonneg_right (by omega) (by omega)
    have c3 : 0 ≤ c * q := Int.mul_nonneg (by omega) (by omega)
    omega
theorem sb_one {s : ByteArray} (h : 0 < s.size) : sb s 1 h = (s[0].toNat : Int) - if 127 < (s[0].toNat : Int) then 256 else 0 := by
  unfold sb
  rw [show (1 : Nat) = 0 + 1 by rfl, ubig_take s h]
  simp [ubig]
theorem sb_step {s : ByteArray} (h : 0 < s.size) {k : Nat} (hk : k < s.size) : sb s k h * 256 + (s[k].toNat : Int) = sb s (k + 1) h := by
  unfold sb
  rw [ubig_take s hk, Int.pow_succ]
  split <;> omega
end Go.Proofs.Ytjgeggeanigaaaa
