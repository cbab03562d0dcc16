/- The document's Words. -/
import Derived.Test.YtbciplfncnangaaDoorWRef
namespace Go.Proofs.YtbciplfncnangaaDoor
open Go.RowKit Go.Shelf
set_option linter.unusedVariables false

/-- What the document's Words has found ahead of a place, and from where on it looks. -/
def WInv (s : ByteArray) (k a : Nat) (Y : List (List UInt8)) : Prop :=
  (k ≤ s.size ∧ a ≤ k ∧ (cut 32 (s.data.toList.take k)).2 = (s.data.toList.take k).drop a ∧ Y = (cut 32 (s.data.toList.take k)).1.filter full) ∨ (k = s.size + 1 ∧ Y = wordsL s.data.toList)
theorem WInv.start (s : ByteArray) : WInv s 0 0 [] := .inl ⟨Nat.zero_le _, Nat.le_refl _, rfl, rfl⟩
theorem WInv.len {s : ByteArray} {k a : Nat} {Y : List (List UInt8)} (h : WInv s k a Y) : Y.length ≤ s.size := by
  rcases h with ⟨h1, h2, h3, rfl⟩ | ⟨rfl, rfl⟩
  · have h4 := cut_len 32 (s.data.toList.take k)
    have h5 : ((cut 32 (s.data.toList.take k)).1.filter full).length ≤ _ := List.length_filter_le _ _
    rw [List.length_take, size_data] at h4
    omega
  · have := wordsL_len s.data.toList
    rwa [size_data] at this
/-- The piece that ends here. -/
def pce (s : ByteArray) (k a : Nat) : List UInt8 := (s.data.toList.take k).drop a
theorem pce_full {s : ByteArray} {k a : Nat} (hk : k ≤ s.size) : full (pce s k a) = decide (a < k) := by
  unfold full pce
  rcases h : ((s.data.toList.take k).drop a).isEmpty with _ | _
  · have h2 : (s.data.toList.take k).drop a ≠ [] := by simpa using h
    have h3 : 0 < ((s.data.toList.take k).drop a).length := List.length_pos_iff.2 h2
    rw [List.length_drop, List.length_take, size_data] at h3
    simp; omega
  · have h2 : (s.data.toList.take k).drop a = [] := by simpa using h
    have h3 := congrArg List.length h2
    rw [List.length_drop, List.length_take, size_data] at h3
    simp at h3 ⊢; omega
def addW (s : ByteArray) (k a : Nat) (Y : List (List UInt8)) : List (List UInt8) := if a < k then Y ++ [pce s k a] else Y
theorem addW_filter {s : ByteArray} {k a : Nat} (hk : k ≤ s.size) (L : List (List UInt8)) : (L ++ [pce s k a]).filter full = addW s k a (L.filter full) := by
  rw [List.filter_append]
  unfold addW
  by_cases h : a < k
  · rw [if_pos h, List.filter_cons, pce_full hk, decide_eq_true h]; rfl
  · rw [if_neg h, List.filter_cons, pce_full hk, decide_eq_false h]; simp
theorem WInv.blank {s : ByteArray} {k a : Nat} {Y : List (List UInt8)} (h : WInv s k a Y) (hk : k < s.size) (hc : s[k]'hk = 32) : WInv s (k + 1) (k + 1) (addW s k a Y) := by
  rcases h with ⟨h1, h2, h3, rfl⟩ | ⟨rfl, rfl⟩
  · have e1 := cut_hit 32 (s.data.toList.take k)
    have e2 := take_snoc' s k hk
    rw [hc] at e2
    rw [← e2] at e1
    refine .inl ⟨by omega, Nat.le_refl _, ?_, ?_⟩
    · rw [e1, List.drop_eq_nil_of_le (by rw [List.length_take]; omega)]
    · rw [e1, h3]; exact (addW_filter h1 _).symm
  · omega
theorem WInv.other {s : ByteArray} {k a : Nat} {Y : List (List UInt8)} (h : WInv s k a Y) (hk : k < s.size) (hc : s[k]'hk ≠ 32) : WInv s (k + 1) a Y := by
  rcases h with ⟨h1, h2, h3, rfl⟩ | ⟨rfl, rfl⟩
  · have e1 := cut_miss 32 (s.data.toList.take k) (s[k]'hk) hc
    rw [← take_snoc' s k hk] at e1
    refine .inl ⟨by omega, by omega, ?_, ?_⟩
    · rw [e1, drop_take_snoc s a k h2 hk, ← h3]
    · rw [e1]
  · omega
theorem WInv.last {s : ByteArray} {a : Nat} {Y : List (List UInt8)} (h : WInv s s.size a Y) : WInv s (s.size + 1) (s.size + 1) (addW s s.size a Y) := by
  rcases h with ⟨h1, h2, h3, rfl⟩ | ⟨h, rfl⟩
  · refine .inr ⟨rfl, ?_⟩
    have htk : s.data.toList.take s.size = s.data.toList := List.take_of_length_le (by rw [size_data]; omega)
    unfold wordsL pcs
    rw [htk] at h3 ⊢
    rw [← addW_filter h1, List.filter_append, List.filter_append]
    congr 1
    unfold pce; rw [htk, ← h3]
    cases (cut 32 s.data.toList).2 with
    | nil => rfl
    | cons c r => rfl
  · omega
theorem WInv.done {s : ByteArray} {k a : Nat} {Y : List (List UInt8)} (h : WInv s k a Y) (hk : s.size < k) : Y = wordsL s.data.toList := by
  rcases h with ⟨h1, h2, h3, rfl⟩ | ⟨rfl, rfl⟩
  · omega
  · rfl
theorem WInv.le {s : ByteArray} {k a : Nat} {Y : List (List UInt8)} (h : WInv s k a Y) (hk : k ≤ s.size) : a ≤ k := by
  rcases h with ⟨h1, h2, h3, rfl⟩ | ⟨rfl, rfl⟩
  · exact h2
  · omega

set_option maxRecDepth 100000 in
set_option maxHeartbeats 4000000 in
theorem rwords_any (s : ByteArray) (w : World) (hs : s.size ≤ 1099511627776) :
    Calls Tryd.prog 35 #[.string s] w fun e w' => ∃ v, e = .returned v ∧ w'.ownsRow w.heap.size 9 1 v (wordsL s.data.toList).length ((wordsL s.data.toList).map strV) ∧ Below w.heap.size w w' := by
  obtain ⟨i0, hi, hz0, hz1, hz2⟩ := info_parts infoStr
  go_enter Tryd.func35, Tryd.ntmps35
  go_wp2
  go_loopw [3, 4, 5] (fun sv st i wr => ∃ (k a : Nat) (v : Value) (Y : List (List UInt8)), sv = v ∧ i = .int .i64 (k : Int) ∧ st = .int .i64 (a : Int) ∧ k ≤ s.size + 1 ∧ a ≤ s.size + 1 ∧ Hid (WInv s k a Y) ∧ Hid (wr.ownsRow w.heap.size 9 1 v Y.length (Y.map strV)) ∧ Below w.heap.size w wr)
    (fun _ _ i _ => s.size + 1 - (intOf i).toNat)
  case atStart =>
    exact ⟨0, 0, _, [], rfl, rfl, rfl, Nat.zero_le _, Nat.zero_le _, Lib.hid (WInv.start s), Lib.hid (World.ownsRow_nil _ _ _ _), Below.refl _ _⟩
  case round =>
    obtain ⟨k, a, v, Y, rfl, rfl, rfl, hk, ha, HI, HO, hbw⟩ := hrel
    have hsz := hbw.size
    have hyl := HI.out.len
    by_cases hle : k ≤ s.size
    · have hle' : (k : Int) ≤ (s.size : Int) := by omega
      have hak := HI.out.le hle
      by_cases hsp : ∃ hlt : k < s.size, s[k]'hlt ≠ 32
      · obtain ⟨hlt, hc⟩ := hsp
        have hc' : (((s[k]'hlt).toNat : Int) == 32) = false := by
          have : (s[k]'hlt).toNat ≠ (32 : UInt8).toNat := fun e => hc (UInt8.toNat_inj.1 e)
          simp at this ⊢; omega
        have hne : ((k : Int) == (s.size : Int)) = false := by simp; omega
        go_wp2
        go_roundw
        case rel => exact ⟨k + 1, a, _, Y, rfl, by go_num, rfl, by omega, by omega, Lib.hid (HI.out.other hlt hc), HO, hbw⟩
        case measure => simp [intOf]; omega
      · have hnext : Hid (WInv s (k + 1) (k + 1) (addW s k a Y)) := by
          by_cases hlt : k < s.size
          · have hc : s[k]'hlt = 32 := Classical.byContradiction fun h => hsp ⟨hlt, h⟩
            exact Lib.hid (HI.out.blank hlt hc)
          · obtain rfl : k = s.size := by omega
            exact Lib.hid HI.out.last
        by_cases hlt : k < s.size
        · have hc : s[k]'hlt = 32 := Classical.byContradiction fun h => hsp ⟨hlt, h⟩
          have hc' : (((s[k]'hlt).toNat : Int) == 32) = true := by rw [hc]; rfl
          have hne : ((k : Int) == (s.size : Int)) = false := by simp; omega
          clear hsp
          by_cases hal : a < k
          · obtain ⟨t, ht⟩ : ∃ t, s.extract a k = t := ⟨_, rfl⟩
            have HX : Hid (strV (pce s k a) = .string t) := Lib.hid (by rw [← ht, extract_is s a k _ rfl]; rfl)
            go_wp2_with (at_builtin; refine wpList_append_own _ rfl _ _ 38 rfl w.heap.size 9 i0 (.string ⟨#[]⟩) 1 16 Tryd.underlying38 hi hz0 hz1 hz2 rfl (by decide) _ _ _ rfl (HO.out.alloc _) ⟨wr.heap.size, 0, none⟩ 1 1 [.string t] rfl rfl (cell_one_new _ _ _) (by simp [Value.oneCell']) (by unfold maxLen; omega) (by omega) (by simp; omega) ?_; intro v' w1 hown' hgrow _)
            have hb1 := app_below hbw HO.out hgrow
            go_roundw
            case rel =>
              refine ⟨k + 1, k + 1, _, _, rfl, by go_num, by go_num, by omega, by omega, hnext, Lib.hid ?_, hb1⟩
              unfold addW; rw [if_pos hal]
              simp only [List.length_append, List.length_singleton, List.map_append, List.map_cons, List.map_nil, HX.out]
              exact hown'
            case measure => simp [intOf]; omega
          · go_wp2
            go_roundw
            case rel =>
              refine ⟨k + 1, k + 1, _, _, rfl, by go_num, by go_num, by omega, by omega, hnext, Lib.hid ?_, hbw⟩
              unfold addW; rw [if_neg hal]; exact HO.out
            case measure => simp [intOf]; omega
        · obtain rfl : k = s.size := by omega
          clear hsp
          by_cases hal : a < s.size
          · obtain ⟨t, ht⟩ : ∃ t, s.extract a s.size = t := ⟨_, rfl⟩
            have HX : Hid (strV (pce s s.size a) = .string t) := Lib.hid (by rw [← ht, extract_is s a s.size _ rfl]; rfl)
            go_wp2_with (at_builtin; refine wpList_append_own _ rfl _ _ 38 rfl w.heap.size 9 i0 (.string ⟨#[]⟩) 1 16 Tryd.underlying38 hi hz0 hz1 hz2 rfl (by decide) _ _ _ rfl (HO.out.alloc _) ⟨wr.heap.size, 0, none⟩ 1 1 [.string t] rfl rfl (cell_one_new _ _ _) (by simp [Value.oneCell']) (by unfold maxLen; omega) (by omega) (by simp; omega) ?_; intro v' w1 hown' hgrow _)
            have hb1 := app_below hbw HO.out hgrow
            go_roundw
            case rel =>
              refine ⟨s.size + 1, s.size + 1, _, _, rfl, by go_num, by go_num, by omega, by omega, hnext, Lib.hid ?_, hb1⟩
              unfold addW; rw [if_pos hal]
              simp only [List.length_append, List.length_singleton, List.map_append, List.map_cons, List.map_nil, HX.out]
              exact hown'
            case measure => simp [intOf]
          · go_wp2
            go_roundw
            case rel =>
              refine ⟨s.size + 1, s.size + 1, _, _, rfl, by go_num, by go_num, by omega, by omega, hnext, Lib.hid ?_, hbw⟩
              unfold addW; rw [if_neg hal]; exact HO.out
            case measure => simp [intOf]
    · have hle' : ¬ (k : Int) ≤ (s.size : Int) := by omega
      have HD := Lib.hid (HI.out.done (by omega))
      go_wp2
      go_ret
      refine ⟨_, rfl, ?_, hbw⟩
      rw [← HD.out]; exact HO.out
end Go.Proofs.YtbciplfncnangaaDoor
