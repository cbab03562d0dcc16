/- A number comes back from its text; a text that says a number is that number's. -/
import Derived.Test.YtbciplfncnangaaDoorWLaws
namespace Go.Proofs.YtbciplfncnangaaDoor
open Go.RowKit Go.Shelf
set_option linter.unusedVariables false

theorem dg1_dig (m : Nat) : digB (dg1 m) = true := by
  refine digB_mk ?_
  have := dg1_val m
  omega
theorem dec_all (m : Nat) : (Lib.decDigits m).all digB = true := by
  induction m using Nat.strongRecOn with
  | ind m ih =>
    rw [dec_split, List.all_append]
    have h2 : ([dg1 m]).all digB = true := by simp [dg1_dig]
    rw [h2, Bool.and_true]
    unfold dz
    split
    · rfl
    · next h => exact ih (m / 10) (by omega)
theorem dec_val (m : Nat) : valL (Lib.decDigits m) = (m : Int) := by
  induction m using Nat.strongRecOn with
  | ind m ih =>
    rw [dec_split, valL_snoc, dg1_val]
    unfold dz
    split
    · next h => simp only [valL, List.foldl_nil]; omega
    · next h => rw [ih (m / 10) (by omega)]; omega
theorem dec_ne (m : Nat) : Lib.decDigits m ≠ [] := by rw [dec_split]; simp
theorem dec_head (m : Nat) (h : 0 < m) : Lib.hasPrefix (Lib.decDigits m) [48] = false := by
  induction m using Nat.strongRecOn with
  | ind m ih =>
    rw [dec_split]
    unfold dz
    split
    · next h0 =>
      have h1 : dg1 m ≠ 48 := by
        intro e
        have h2 := dg1_val m
        rw [e] at h2
        have h3 : ((48 : UInt8).toNat : Int) = 48 := rfl
        omega
      simp [Lib.hasPrefix, List.isPrefixOf]
      exact fun e => h1 e.symm
    · next h0 =>
      have h1 := ih (m / 10) (by omega) (by omega)
      have h2 := dec_ne (m / 10)
      cases hd : Lib.decDigits (m / 10) with
      | nil => exact absurd hd h2
      | cons c r => rw [hd] at h1; simpa [Lib.hasPrefix, List.isPrefixOf] using h1
theorem dec_zero : Lib.decDigits 0 = [48] := by rw [Lib.decDigits_one (by decide)]; rfl
theorem dec_nominus (m : Nat) : Lib.hasPrefix (Lib.decDigits m) [45] = false := by
  have h := dec_all m
  cases hd : Lib.decDigits m with
  | nil => rfl
  | cons c r =>
    rw [hd] at h
    simp only [List.all_cons, Bool.and_eq_true] at h
    have h1 := digB_yes h.1
    simp [Lib.hasPrefix, List.isPrefixOf]
    intro e
    subst e
    have : (45 : UInt8).toNat = 45 := rfl
    omega
theorem dec_len_le (m : Nat) : (Lib.decDigits m).length ≤ 18 ↔ m < 1000000000000000000 := by
  rw [Lib.decDigits_length]
  have h1 := Lib.lt_pow_nDigits m
  constructor
  · intro h
    have h2 : 10 ^ Lib.nDigits m ≤ 10 ^ 18 := Nat.pow_le_pow_right (by omega) h
    have h3 : (10 : Nat) ^ 18 = 1000000000000000000 := by decide
    omega
  · intro h
    rcases Nat.lt_or_ge 18 (Lib.nDigits m) with h2 | h2
    · exfalso
      have h4 : ∀ k u : Nat, Lib.nDigits u = k + 1 → 1 ≤ k → 10 ^ k ≤ u := by
        intro k
        induction k with
        | zero => intro u _ hk; omega
        | succ k ih =>
          intro u hu _
          by_cases hu10 : u < 10
          · rw [Lib.nDigits_small hu10] at hu; omega
          · rw [Lib.nDigits_big hu10] at hu
            have hu' : Lib.nDigits (u / 10) = k + 1 := by omega
            rcases Nat.eq_zero_or_pos k with hk0 | hk0
            · subst hk0; omega
            · have := ih (u / 10) hu' hk0
              rw [Nat.pow_succ]; omega
      have h5 := h4 (Lib.nDigits m - 1) m (by omega) (by omega)
      have h6 : 10 ^ 18 ≤ 10 ^ (Lib.nDigits m - 1) := Nat.pow_le_pow_right (by omega) (by omega)
      have h3 : (10 : Nat) ^ 18 = 1000000000000000000 := by decide
      omega
    · exact h2
theorem num_dec (m : Nat) : digsB (Lib.decDigits m) = true := by
  unfold digsB; rw [dec_all, Bool.and_true]
  have := dec_ne m
  cases hd : Lib.decDigits m with
  | nil => exact absurd hd this
  | cons c r => rfl
def smallB (n : Int) : Bool := decide (-1000000000000000000 < n ∧ n < 1000000000000000000)
theorem num_itoa (n : Int) : numL (Lib.itoa n) = if smallB n = true then (n, 0) else (0, 10) := by
  by_cases hn : 0 ≤ n
  · obtain ⟨m, rfl⟩ : ∃ m : Nat, n = (m : Int) := ⟨n.toNat, by omega⟩
    have htr := trim_miss _ (dec_nominus m)
    have hpd : padB (Lib.decDigits m) false = false := by
      rcases Nat.eq_zero_or_pos m with h0 | h0
      · subst h0; rw [dec_zero]; rfl
      · unfold padB; rw [dec_head m h0]; rfl
    have hl := dec_len_le m
    rw [itoa_pos]
    by_cases hs : m < 1000000000000000000
    · rw [numL_ok (by rw [htr, dec_nominus]; exact ⟨num_dec m, hpd⟩) (by rw [htr]; have := hl.2 hs; omega), htr, dec_nominus, dec_val, if_pos (by unfold smallB; exact decide_eq_true (by omega))]; rfl
    · rw [numL_over (by rw [htr, dec_nominus]; exact ⟨num_dec m, hpd⟩) (by rw [htr]; rcases Nat.lt_or_ge 18 (Lib.decDigits m).length with h | h; exact h; exact absurd (hl.1 h) hs), if_neg (by unfold smallB; intro h; have := of_decide_eq_true h; omega)]
  · obtain ⟨m, rfl⟩ : ∃ m : Nat, n = -(m : Int) := ⟨n.natAbs, by omega⟩
    have hm : 1 ≤ m := by omega
    rw [Lib.itoa_neg m hm]
    have hp : Lib.hasPrefix (45 :: Lib.decDigits m) [45] = true := by simp [Lib.hasPrefix, List.isPrefixOf]
    have htr : Lib.trimPrefix (45 :: Lib.decDigits m) [45] = Lib.decDigits m := by unfold Lib.trimPrefix; rw [if_pos hp]; rfl
    have hpd : padB (Lib.decDigits m) true = false := by unfold padB; rw [dec_head m (by omega)]; rfl
    have hl := dec_len_le m
    by_cases hs : m < 1000000000000000000
    · rw [numL_ok (by rw [htr, hp]; exact ⟨num_dec m, hpd⟩) (by rw [htr]; have := hl.2 hs; omega), htr, hp, dec_val, if_pos (by unfold smallB; exact decide_eq_true (by omega))]; rfl
    · rw [numL_over (by rw [htr, hp]; exact ⟨num_dec m, hpd⟩) (by rw [htr]; rcases Nat.lt_or_ge 18 (Lib.decDigits m).length with h | h; exact h; exact absurd (hl.1 h) hs), if_neg (by unfold smallB; intro h; have := of_decide_eq_true h; omega)]
/-- Digits without a zero ahead are the digits of their number. -/
theorem val_dec (l : List UInt8) (hne : l ≠ []) (hall : l.all digB = true) (hp : Lib.hasPrefix l [48] = false ∨ l = [48]) : Lib.decDigits (valL l).toNat = l := by
  revert hne hall hp
  refine snoc_ind (P := fun l => l ≠ [] → l.all digB = true → (Lib.hasPrefix l [48] = false ∨ l = [48]) → Lib.decDigits (valL l).toNat = l) (fun h => absurd rfl h) ?_ l
  intro l c ih _ hall hp
  rw [List.all_append] at hall
  simp only [Bool.and_eq_true, List.all_cons, List.all_nil, Bool.and_true] at hall
  obtain ⟨h1, h2⟩ := hall
  have hc := digB_yes h2
  have hb := valL_bd l h1
  have hd1 : dg1 (valL (l ++ [c])).toNat = c := by
    apply UInt8.toNat_inj.1
    have := dg1_val (valL (l ++ [c])).toNat
    rw [valL_snoc] at this ⊢
    omega
  rw [dec_split, hd1]
  congr 1
  have hdiv : (valL (l ++ [c])).toNat / 10 = (valL l).toNat := by rw [valL_snoc]; omega
  rw [hdiv]
  cases l with
  | nil => rfl
  | cons x r =>
    have hp' : Lib.hasPrefix (x :: r) [48] = false := by
      rcases hp with h | h
      · simpa [Lib.hasPrefix, List.isPrefixOf] using h
      · have := congrArg List.length h; simp at this
    have h3 := ih (by simp) h1 (.inl hp')
    unfold dz
    split
    · next h0 =>
      rw [h0, dec_zero] at h3
      rw [← h3] at hp'
      exact absurd hp' (by decide)
    · exact h3
theorem itoa_num (l : List UInt8) (h : (numL l).2 = 0) : Lib.itoa (numL l).1 = l := by
  by_cases h1 : digsB (Lib.trimPrefix l [45]) = true ∧ padB (Lib.trimPrefix l [45]) (Lib.hasPrefix l [45]) = false
  · by_cases h2 : 18 < (Lib.trimPrefix l [45]).length
    · rw [numL_over h1 h2] at h; exact absurd h (by decide)
    · rw [numL_ok h1 h2]
      obtain ⟨hd, hp⟩ := h1
      have hall := digsB_all hd
      have hne := digsB_ne hd
      have hv := valL_bd _ hall
      rcases hn : Lib.hasPrefix l [45] with _ | _
      · have htr := trim_miss _ hn
        rw [htr] at hall hne hv hp ⊢
        rw [hn] at hp
        have hp2 : Lib.hasPrefix l [48] = false ∨ l = [48] := by
          unfold padB at hp
          rcases h48 : Lib.hasPrefix l [48] with _ | _
          · exact .inl rfl
          · rw [h48] at hp; right; simpa using hp
        have hd2 := val_dec l hne hall hp2
        show Lib.itoa (signed false (valL l)) = l
        unfold signed
        rw [if_neg (by decide)]
        unfold Lib.itoa
        rw [if_neg (by omega)]
        exact hd2
      · have hl : l = 45 :: Lib.trimPrefix l [45] := by
          cases l with
          | nil => simp [Lib.hasPrefix, List.isPrefixOf] at hn
          | cons c r =>
            have hc : c = 45 := by simp [Lib.hasPrefix, List.isPrefixOf] at hn; exact hn.symm
            unfold Lib.trimPrefix; rw [if_pos hn]; rw [hc]; rfl
        have hp2 : Lib.hasPrefix (Lib.trimPrefix l [45]) [48] = false := by
          rw [hn] at hp
          unfold padB at hp
          rcases h48 : Lib.hasPrefix (Lib.trimPrefix l [45]) [48] with _ | _
          · rfl
          · rw [h48] at hp; simp at hp
        have hd2 := val_dec _ hne hall (.inl hp2)
        have hpos : 0 < valL (Lib.trimPrefix l [45]) := by
          rcases Int.lt_or_le 0 (valL (Lib.trimPrefix l [45])) with h | h
          · exact h
          · have h0 : (valL (Lib.trimPrefix l [45])).toNat = 0 := by omega
            rw [h0, dec_zero] at hd2
            rw [← hd2] at hp2
            exact absurd hp2 (by decide)
        show Lib.itoa (signed true (valL (Lib.trimPrefix l [45]))) = l
        unfold signed
        rw [if_pos rfl]
        unfold Lib.itoa
        rw [if_pos (by omega), show (-valL (Lib.trimPrefix l [45])).natAbs = (valL (Lib.trimPrefix l [45])).toNat by omega, hd2]
        exact hl.symm
  · rw [numL_bad h1] at h; exact absurd h (by decide)
theorem num_none {l : List UInt8} (h : (numL l).2 ≠ 0) : (numL l).1 = 0 := by
  by_cases h1 : digsB (Lib.trimPrefix l [45]) = true ∧ padB (Lib.trimPrefix l [45]) (Lib.hasPrefix l [45]) = false
  · by_cases h2 : 18 < (Lib.trimPrefix l [45]).length
    · rw [numL_over h1 h2]
    · rw [numL_ok h1 h2] at h; exact absurd rfl h
  · rw [numL_bad h1]
theorem text_at (n : Int) (X : ByteArray) (w : World) (h0 : -9223372036854775808 ≤ n) (h1 : n ≤ 9223372036854775807) (ht : Tab w) (hX : X.data.toList = Lib.itoa n) :
    Calls Tryd.prog 41 #[.int .i64 n] w fun e w' => e = .returned (.string X) ∧ Below w.heap.size w w' := by
  refine (text_any n w h0 h1 ht).mono ?_
  rintro e w' ⟨rfl, hb⟩
  exact ⟨by rw [← hX, strV_of], hb⟩
end Go.Proofs.YtbciplfncnangaaDoor
