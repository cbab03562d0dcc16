/- The document's Number: the same of any text. -/
import Derived.Test.YtbciplfncnangaaDoorWNum
import Derived.LoopTactic
namespace Go.Proofs.YtbciplfncnangaaDoor
open Go.RowKit
set_option linter.unusedVariables false
def resN (neg : Bool) (l : List UInt8) : Int × Int := if l.all digB = true then (if 18 < l.length then (0, 10) else (signed neg (valL l), 0)) else (0, 40)
theorem resN_bad {neg : Bool} {l : List UInt8} (h : l.all digB = false) : resN neg l = (0, 40) := by unfold resN; rw [h]; rfl
theorem resN_over {neg : Bool} {l : List UInt8} (h : l.all digB = true) (h2 : 18 < l.length) : resN neg l = (0, 10) := by unfold resN; rw [if_pos h, if_pos h2]
theorem resN_ok {neg : Bool} {l : List UInt8} (h : l.all digB = true) (h2 : ¬ 18 < l.length) : resN neg l = (signed neg (valL l), 0) := by unfold resN; rw [if_pos h, if_neg h2]
/-- The three ways on which the document's Number comes to its loop. -/
def Ways (s t : ByteArray) (neg : Bool) : Prop :=
  (∃ (h0 : 0 < s.size) (h1 : 0 < t.size), neg = true ∧ (((s[0]'h0).toNat : Int) == 45) = true ∧ s.extract 1 s.size = t ∧ (((t[0]'h1).toNat : Int) == 48) = false) ∨
  (∃ (h1 : 0 < t.size), neg = false ∧ t = s ∧ (((t[0]'h1).toNat : Int) == 45) = false ∧ (((t[0]'h1).toNat : Int) == 48) = false) ∨
  (∃ (h1 : 0 < t.size), neg = false ∧ t = s ∧ (((t[0]'h1).toNat : Int) == 45) = false ∧ (((t[0]'h1).toNat : Int) == 48) = true ∧ t.size ≤ 1)
theorem nonempty_of (s : ByteArray) (h : 0 < s.size) : s.toList.isEmpty = false ∧ (s.toList = []) = False := by
  have h2 : s.toList ≠ [] := by
    intro e
    rw [Lib.toList_data] at e
    have := congrArg List.length e
    rw [size_data] at this
    rw [List.length_nil] at this; omega
  exact ⟨by simpa using h2, by simpa using h2⟩
set_option maxHeartbeats 4000000 in
theorem rnum_core (s t : ByteArray) (neg : Bool) (w : World) (hs : s.size ≤ maxLen) (ht : t.size ≤ maxLen) (H : Ways s t neg) :
    Calls Tryd.prog 51 #[.string s] w fun e w' => e = .returned (.tuple #[.int .i64 (resN neg t.data.toList).1, .int .i64 (resN neg t.data.toList).2]) ∧ w = w' := by
  unfold maxLen at hs ht
  rcases H with ⟨h0, h1, rfl, hc, hx, hd⟩ | ⟨h1, rfl, hst, hc, hd⟩ | ⟨h1, rfl, hst, hc, hd, hl1⟩
  · obtain ⟨hn1, hn2⟩ := nonempty_of s h0
    obtain ⟨hn3, hn4⟩ := nonempty_of t h1
    go_enter Tryd.func51, Tryd.ntmps51
    go_wp2
    clear hx hc hd hn1 hn2 hn3 hn4
    go_loop [5, 6] (fun n i => ∃ k : Nat, k ≤ t.size ∧ i = .int .i64 k ∧ n = .int .i64 (valL (t.data.toList.take (min k 18))) ∧ Hid ((t.data.toList.take k).all digB = true)) (fun _ i => t.size - (intOf i).toNat)
    case atStart => exact ⟨0, Nat.zero_le _, rfl, rfl, Lib.hid (by simp)⟩
    case round =>
      obtain ⟨k, hk, rfl, rfl, HA⟩ := hrel
      have hbd := valL_small (t.data.toList.take (min k 18)) (by
        have := take_all (k := 18) HA.out
        rwa [List.take_take, Nat.min_comm] at this) (by rw [List.length_take]; omega)
      have hlo := hbd.1
      have hhi := hbd.2
      clear hbd
      obtain ⟨n0, hn0⟩ : ∃ n0, valL (t.data.toList.take (min k 18)) = n0 := ⟨_, rfl⟩
      rw [hn0] at hlo hhi
      have HN0 := Lib.hid hn0
      rw [hn0]
      clear hn0
      by_cases hlt : k < t.size
      · by_cases g1 : 48 ≤ (t[k]'hlt).toNat
        · by_cases g2 : (t[k]'hlt).toNat ≤ 57
          · have hA1 : Hid ((t.data.toList.take (k + 1)).all digB = true) := Lib.hid (by rw [take_snoc' t k hlt, List.all_append, HA.out]; simp [digB_mk ⟨g1, g2⟩])
            by_cases hk18 : k < 18
            · have hst1 : Hid (valL (t.data.toList.take (min (k + 1) 18)) = n0 * 10 + ((t[k]'hlt).toNat : Int) - 48) := Lib.hid (by rw [Nat.min_eq_left (by omega), take_snoc' t k hlt, valL_snoc, ← HN0.out, Nat.min_eq_left (by omega)]; omega)
              have hb2 := (valL_small (t.data.toList.take (min (k + 1) 18)) (by rw [Nat.min_eq_left (by omega)]; exact hA1.out) (by rw [List.length_take]; omega)).2
              rw [hst1.out] at hb2
              have hb3 : n0 * 10 ≤ 1000000000000000000 := by omega
              clear hb2
              go_wp2
              go_round
              case rel => exact ⟨k + 1, by omega, by go_num, by rw [hst1.out], hA1⟩
              case measure => simp [intOf]; omega
            · have hst1 : Hid (valL (t.data.toList.take (min (k + 1) 18)) = n0) := Lib.hid (by rw [← HN0.out, Nat.min_eq_right (by omega), Nat.min_eq_right (by omega)])
              go_wp2
              go_round
              case rel => exact ⟨k + 1, by omega, by go_num, by rw [hst1.out], hA1⟩
              case measure => simp [intOf]; omega
          · go_wp2
            go_ret2
            rw [resN_bad (all_false k hlt (digB_no (by omega)))]
            exact ⟨rfl, rfl⟩
        · go_wp2
          go_ret2
          rw [resN_bad (all_false k hlt (digB_no (by omega)))]
          exact ⟨rfl, rfl⟩
      · have hall : Hid (t.data.toList.all digB = true) := Lib.hid (by
          have := HA.out
          rwa [List.take_of_length_le (by rw [size_data]; omega)] at this)
        by_cases h18 : 18 < t.size
        · go_wp2
          go_ret2
          rw [resN_over hall.out (by rw [size_data]; exact h18)]
          exact ⟨rfl, rfl⟩
        · have hv : Hid (valL t.data.toList = n0) := Lib.hid (by rw [← HN0.out, List.take_of_length_le (by rw [size_data]; omega)])
          go_wp2
          go_ret2
          rw [resN_ok hall.out (by rw [size_data]; exact h18), hv.out]
          exact ⟨rfl, rfl⟩
  · subst hst
    obtain ⟨hn3, hn4⟩ := nonempty_of t h1
    go_enter Tryd.func51, Tryd.ntmps51
    go_wp2
    clear hc hd hn3 hn4
    go_loop [5, 6] (fun n i => ∃ k : Nat, k ≤ t.size ∧ i = .int .i64 k ∧ n = .int .i64 (valL (t.data.toList.take (min k 18))) ∧ Hid ((t.data.toList.take k).all digB = true)) (fun _ i => t.size - (intOf i).toNat)
    case atStart => exact ⟨0, Nat.zero_le _, rfl, rfl, Lib.hid (by simp)⟩
    case round =>
      obtain ⟨k, hk, rfl, rfl, HA⟩ := hrel
      have hbd := valL_small (t.data.toList.take (min k 18)) (by
        have := take_all (k := 18) HA.out
        rwa [List.take_take, Nat.min_comm] at this) (by rw [List.length_take]; omega)
      have hlo := hbd.1
      have hhi := hbd.2
      clear hbd
      obtain ⟨n0, hn0⟩ : ∃ n0, valL (t.data.toList.take (min k 18)) = n0 := ⟨_, rfl⟩
      rw [hn0] at hlo hhi
      have HN0 := Lib.hid hn0
      rw [hn0]
      clear hn0
      by_cases hlt : k < t.size
      · by_cases g1 : 48 ≤ (t[k]'hlt).toNat
        · by_cases g2 : (t[k]'hlt).toNat ≤ 57
          · have hA1 : Hid ((t.data.toList.take (k + 1)).all digB = true) := Lib.hid (by rw [take_snoc' t k hlt, List.all_append, HA.out]; simp [digB_mk ⟨g1, g2⟩])
            by_cases hk18 : k < 18
            · have hst1 : Hid (valL (t.data.toList.take (min (k + 1) 18)) = n0 * 10 + ((t[k]'hlt).toNat : Int) - 48) := Lib.hid (by rw [Nat.min_eq_left (by omega), take_snoc' t k hlt, valL_snoc, ← HN0.out, Nat.min_eq_left (by omega)]; omega)
              have hb2 := (valL_small (t.data.toList.take (min (k + 1) 18)) (by rw [Nat.min_eq_left (by omega)]; exact hA1.out) (by rw [List.length_take]; omega)).2
              rw [hst1.out] at hb2
              have hb3 : n0 * 10 ≤ 1000000000000000000 := by omega
              clear hb2
              go_wp2
              go_round
              case rel => exact ⟨k + 1, by omega, by go_num, by rw [hst1.out], hA1⟩
              case measure => simp [intOf]; omega
            · have hst1 : Hid (valL (t.data.toList.take (min (k + 1) 18)) = n0) := Lib.hid (by rw [← HN0.out, Nat.min_eq_right (by omega), Nat.min_eq_right (by omega)])
              go_wp2
              go_round
              case rel => exact ⟨k + 1, by omega, by go_num, by rw [hst1.out], hA1⟩
              case measure => simp [intOf]; omega
          · go_wp2
            go_ret2
            rw [resN_bad (all_false k hlt (digB_no (by omega)))]
            exact ⟨rfl, rfl⟩
        · go_wp2
          go_ret2
          rw [resN_bad (all_false k hlt (digB_no (by omega)))]
          exact ⟨rfl, rfl⟩
      · have hall : Hid (t.data.toList.all digB = true) := Lib.hid (by
          have := HA.out
          rwa [List.take_of_length_le (by rw [size_data]; omega)] at this)
        by_cases h18 : 18 < t.size
        · go_wp2
          go_ret2
          rw [resN_over hall.out (by rw [size_data]; exact h18)]
          exact ⟨rfl, rfl⟩
        · have hv : Hid (valL t.data.toList = n0) := Lib.hid (by rw [← HN0.out, List.take_of_length_le (by rw [size_data]; omega)])
          go_wp2
          go_ret2
          rw [resN_ok hall.out (by rw [size_data]; exact h18), hv.out]
          exact ⟨rfl, rfl⟩
  · subst hst
    obtain ⟨hn3, hn4⟩ := nonempty_of t h1
    have hl2 : ¬ (1 : Int) < (t.size : Int) := by omega
    go_enter Tryd.func51, Tryd.ntmps51
    go_wp2
    clear hc hd hn3 hn4
    go_loop [5, 6] (fun n i => ∃ k : Nat, k ≤ t.size ∧ i = .int .i64 k ∧ n = .int .i64 (valL (t.data.toList.take (min k 18))) ∧ Hid ((t.data.toList.take k).all digB = true)) (fun _ i => t.size - (intOf i).toNat)
    case atStart => exact ⟨0, Nat.zero_le _, rfl, rfl, Lib.hid (by simp)⟩
    case round =>
      obtain ⟨k, hk, rfl, rfl, HA⟩ := hrel
      have hbd := valL_small (t.data.toList.take (min k 18)) (by
        have := take_all (k := 18) HA.out
        rwa [List.take_take, Nat.min_comm] at this) (by rw [List.length_take]; omega)
      have hlo := hbd.1
      have hhi := hbd.2
      clear hbd
      obtain ⟨n0, hn0⟩ : ∃ n0, valL (t.data.toList.take (min k 18)) = n0 := ⟨_, rfl⟩
      rw [hn0] at hlo hhi
      have HN0 := Lib.hid hn0
      rw [hn0]
      clear hn0
      by_cases hlt : k < t.size
      · by_cases g1 : 48 ≤ (t[k]'hlt).toNat
        · by_cases g2 : (t[k]'hlt).toNat ≤ 57
          · have hA1 : Hid ((t.data.toList.take (k + 1)).all digB = true) := Lib.hid (by rw [take_snoc' t k hlt, List.all_append, HA.out]; simp [digB_mk ⟨g1, g2⟩])
            by_cases hk18 : k < 18
            · have hst1 : Hid (valL (t.data.toList.take (min (k + 1) 18)) = n0 * 10 + ((t[k]'hlt).toNat : Int) - 48) := Lib.hid (by rw [Nat.min_eq_left (by omega), take_snoc' t k hlt, valL_snoc, ← HN0.out, Nat.min_eq_left (by omega)]; omega)
              have hb2 := (valL_small (t.data.toList.take (min (k + 1) 18)) (by rw [Nat.min_eq_left (by omega)]; exact hA1.out) (by rw [List.length_take]; omega)).2
              rw [hst1.out] at hb2
              have hb3 : n0 * 10 ≤ 1000000000000000000 := by omega
              clear hb2
              go_wp2
              go_round
              case rel => exact ⟨k + 1, by omega, by go_num, by rw [hst1.out], hA1⟩
              case measure => simp [intOf]; omega
            · exact absurd hk18 (by omega)
          · go_wp2
            go_ret2
            rw [resN_bad (all_false k hlt (digB_no (by omega)))]
            exact ⟨rfl, rfl⟩
        · go_wp2
          go_ret2
          rw [resN_bad (all_false k hlt (digB_no (by omega)))]
          exact ⟨rfl, rfl⟩
      · have hall : Hid (t.data.toList.all digB = true) := Lib.hid (by
          have := HA.out
          rwa [List.take_of_length_le (by rw [size_data]; omega)] at this)
        by_cases h18 : 18 < t.size
        · exact absurd h18 (by omega)
        · have hv : Hid (valL t.data.toList = n0) := Lib.hid (by rw [← HN0.out, List.take_of_length_le (by rw [size_data]; omega)])
          go_wp2
          go_ret2
          rw [resN_ok hall.out (by rw [size_data]; exact h18), hv.out]
          exact ⟨rfl, rfl⟩
theorem hasP_of (s : ByteArray) (c : UInt8) (h : 0 < s.size) : Lib.hasPrefix s.data.toList [c] = (c == s[0]'h) := by
  have e : s.data.toList = (s[0]'h) :: s.data.toList.tail := by
    have h2 : s.data.toList ≠ [] := by intro e; have := congrArg List.length e; rw [size_data, List.length_nil] at this; omega
    rw [← List.cons_head_tail h2]
    congr 1
    · rw [List.head_eq_getElem]; rfl
  rw [e]; simp [Lib.hasPrefix, List.isPrefixOf]
theorem trim_hit (s : ByteArray) (h : Lib.hasPrefix s.data.toList [45] = true) : (s.extract 1 s.size).data.toList = Lib.trimPrefix s.data.toList [45] := by
  unfold Lib.trimPrefix; rw [if_pos h, Lib.extract_data, List.take_of_length_le (by rw [List.length_drop, size_data]; simp)]; rfl
theorem trim_miss (l : List UInt8) (h : Lib.hasPrefix l [45] = false) : Lib.trimPrefix l [45] = l := by unfold Lib.trimPrefix; rw [h]; rfl
theorem empty_of (s : ByteArray) (h : s.size = 0) : s = ⟨#[]⟩ := by
  have : s.data.toList = [] := List.eq_nil_of_length_eq_zero (by rw [size_data]; exact h)
  cases s with
  | mk d => simp at this; rw [this]
/-- On these ways the document's Number ends ahead of its loop. -/
theorem rnum_none (w : World) : Calls Tryd.prog 51 #[.string ⟨#[]⟩] w fun e w' => e = .returned (.tuple #[.int .i64 0, .int .i64 40]) ∧ w = w' := by
  go_enter Tryd.func51, Tryd.ntmps51
  go_wp2
  go_ret2
  exact ⟨rfl, rfl⟩
theorem rnum_minus (s : ByteArray) (w : World) (hs : s.size ≤ maxLen) (h0 : 0 < s.size) (hc : (((s[0]'h0).toNat : Int) == 45) = true) (hx : s.extract 1 s.size = ⟨#[]⟩) :
    Calls Tryd.prog 51 #[.string s] w fun e w' => e = .returned (.tuple #[.int .i64 0, .int .i64 40]) ∧ w = w' := by
  unfold maxLen at hs
  obtain ⟨hn1, hn2⟩ := nonempty_of s h0
  go_enter Tryd.func51, Tryd.ntmps51
  go_wp2
  go_ret2
  exact ⟨rfl, rfl⟩
theorem rnum_zero (s t : ByteArray) (w : World) (hs : s.size ≤ maxLen) (h0 : 0 < s.size) (h1 : 0 < t.size) (hc : (((s[0]'h0).toNat : Int) == 45) = true) (hx : s.extract 1 s.size = t) (hd : (((t[0]'h1).toNat : Int) == 48) = true) :
    Calls Tryd.prog 51 #[.string s] w fun e w' => e = .returned (.tuple #[.int .i64 0, .int .i64 40]) ∧ w = w' := by
  unfold maxLen at hs
  obtain ⟨hn1, hn2⟩ := nonempty_of s h0
  obtain ⟨hn3, hn4⟩ := nonempty_of t h1
  go_enter Tryd.func51, Tryd.ntmps51
  by_cases hl : (1 : Int) < (t.size : Int)
  all_goals
    go_wp2
    go_ret2
    exact ⟨rfl, rfl⟩
theorem rnum_pad (t : ByteArray) (w : World) (hs : t.size ≤ maxLen) (h1 : 0 < t.size) (hc : (((t[0]'h1).toNat : Int) == 45) = false) (hd : (((t[0]'h1).toNat : Int) == 48) = true) (hl : (1 : Int) < (t.size : Int)) :
    Calls Tryd.prog 51 #[.string t] w fun e w' => e = .returned (.tuple #[.int .i64 0, .int .i64 40]) ∧ w = w' := by
  unfold maxLen at hs
  obtain ⟨hn3, hn4⟩ := nonempty_of t h1
  go_enter Tryd.func51, Tryd.ntmps51
  go_wp2
  go_ret2
  exact ⟨rfl, rfl⟩
theorem eq_byte (a c : UInt8) (n : Int) (hn : (c.toNat : Int) = n) : ((a.toNat : Int) == n) = (c == a) := by
  subst hn
  rcases h : c == a with _ | _
  · have h2 : c ≠ a := by simpa using h
    have : a.toNat ≠ c.toNat := fun e => h2 (UInt8.toNat_inj.1 e.symm)
    simp; omega
  · have h2 : c = a := by simpa using h
    subst h2; simp
theorem numV_bad {l : List UInt8} (h : numL l = (0, 40)) : numV l = .tuple #[.int .i64 0, .int .i64 40] := by unfold numV; rw [h]
theorem numV_res {l : List UInt8} (h : Lib.trimPrefix l [45] ≠ []) (hp : padB (Lib.trimPrefix l [45]) (Lib.hasPrefix l [45]) = false) :
    numV l = .tuple #[.int .i64 (resN (Lib.hasPrefix l [45]) (Lib.trimPrefix l [45])).1, .int .i64 (resN (Lib.hasPrefix l [45]) (Lib.trimPrefix l [45])).2] := by
  have he : (Lib.trimPrefix l [45]).isEmpty = false := by simpa using h
  have hd : digsB (Lib.trimPrefix l [45]) = (Lib.trimPrefix l [45]).all digB := by unfold digsB; rw [he]; rfl
  unfold numV
  have : numL l = resN (Lib.hasPrefix l [45]) (Lib.trimPrefix l [45]) := by
    rcases e : (Lib.trimPrefix l [45]).all digB with _ | _
    · rw [resN_bad e, numL_bad (by rw [hd, e]; simp)]
    · by_cases h18 : 18 < (Lib.trimPrefix l [45]).length
      · rw [resN_over e h18, numL_over ⟨by rw [hd, e], hp⟩ h18]
      · rw [resN_ok e h18, numL_ok ⟨by rw [hd, e], hp⟩ h18]
  rw [this]
/-- The document's Number of any text. -/
theorem rnumber_any (s : ByteArray) (w : World) (hs : s.size ≤ maxLen) :
    Calls Tryd.prog 51 #[.string s] w fun e w' => e = .returned (numV s.data.toList) ∧ w = w' := by
  by_cases h0 : 0 < s.size
  · rcases hn : Lib.hasPrefix s.data.toList [45] with _ | _
    · have hc : (((s[0]'h0).toNat : Int) == 45) = false := by rw [eq_byte _ 45 45 rfl, ← hasP_of s 45 h0]; exact hn
      have htr := trim_miss _ hn
      have hne : s.data.toList ≠ [] := by intro e; have := congrArg List.length e; rw [size_data, List.length_nil] at this; omega
      rcases hz : Lib.hasPrefix s.data.toList [48] with _ | _
      · have hd : (((s[0]'h0).toNat : Int) == 48) = false := by rw [eq_byte _ 48 48 rfl, ← hasP_of s 48 h0]; exact hz
        rw [numV_res (by rw [htr]; exact hne) (by rw [htr, hn]; unfold padB; rw [hz]; rfl), hn, htr]
        exact rnum_core s s false w hs hs (.inr (.inl ⟨h0, rfl, rfl, hc, hd⟩))
      · have hd : (((s[0]'h0).toNat : Int) == 48) = true := by rw [eq_byte _ 48 48 rfl, ← hasP_of s 48 h0]; exact hz
        by_cases hl : 1 < s.size
        · rw [numV_bad (numL_bad (by
            rw [htr, hn]
            intro h
            have h2 := h.2
            unfold padB at h2
            rw [hz] at h2
            have h3 : s.data.toList = [48] := by simpa using h2
            have := congrArg List.length h3
            rw [size_data] at this; simp at this; omega))]
          exact rnum_pad s w hs h0 hc hd (by omega)
        · rw [numV_res (by rw [htr]; exact hne) (by
            rw [htr, hn]; unfold padB; rw [hz]
            have h3 : s.data.toList = [48] := by
              have h4 : s.data.toList.length = 1 := by rw [size_data]; omega
              obtain ⟨x, hx⟩ := List.length_eq_one_iff.1 h4
              rw [hx] at hz ⊢
              simp [Lib.hasPrefix, List.isPrefixOf] at hz
              rw [hz]
            rw [h3]; rfl), hn, htr]
          exact rnum_core s s false w hs hs (.inr (.inr ⟨h0, rfl, rfl, hc, hd, by omega⟩))
    · have hc : (((s[0]'h0).toNat : Int) == 45) = true := by rw [eq_byte _ 45 45 rfl, ← hasP_of s 45 h0]; exact hn
      obtain ⟨t, ht⟩ : ∃ t, s.extract 1 s.size = t := ⟨_, rfl⟩
      have htr : t.data.toList = Lib.trimPrefix s.data.toList [45] := by rw [← ht]; exact trim_hit s hn
      have hts : t.size ≤ maxLen := by
        have := trim_le s.data.toList [45]
        rw [← htr, size_data, size_data] at this
        omega
      by_cases h1 : 0 < t.size
      · rcases hz : Lib.hasPrefix t.data.toList [48] with _ | _
        · have hd : (((t[0]'h1).toNat : Int) == 48) = false := by rw [eq_byte _ 48 48 rfl, ← hasP_of t 48 h1]; exact hz
          rw [numV_res (by rw [← htr]; intro e; have := congrArg List.length e; rw [size_data, List.length_nil] at this; omega) (by rw [← htr, hn]; unfold padB; rw [hz]; rfl), hn, ← htr]
          exact rnum_core s t true w hs hts (.inl ⟨h0, h1, rfl, hc, ht, hd⟩)
        · have hd : (((t[0]'h1).toNat : Int) == 48) = true := by rw [eq_byte _ 48 48 rfl, ← hasP_of t 48 h1]; exact hz
          rw [numV_bad (numL_bad (by rw [← htr, hn]; unfold padB; rw [hz]; simp))]
          exact rnum_zero s t w hs h0 h1 hc ht hd
      · have he := empty_of t (by omega)
        rw [numV_bad (numL_bad (by rw [← htr, he]; simp [digsB]))]
        exact rnum_minus s w hs h0 hc (ht.trans he)
  · have he := empty_of s (by omega)
    subst he
    exact rnum_none w
end Go.Proofs.YtbciplfncnangaaDoor
