/- What any right program answers is answered: awake of layer 3 returns true. -/
import Derived.Test.YtieomjkiabfhcaaTMerge
import Derived.Test.YtieomjkiabfhcaaTBusy
import Derived.Test.YtieomjkiabfhcaaTFind
import Derived.Test.YtieomjkiabfhcaaTSame
namespace Go.Proofs.Ytieomjkiabfhcaa
open Go.RowKit
set_option linter.unusedVariables false

/-- Two sorted lists of the same elements, no two of one key, are one. -/
theorem sorted_unique {α : Type} {key : α → Int × Int × Int} {a b : List α} (ha : Sorted key a) (hb : Sorted key b) (hp : a.Perm b) (hi : ∀ x ∈ a, ∀ y ∈ a, key x = key y → x = y) : a = b := by
  refine List.Perm.eq_of_pairwise (le := fun x y => ltK (key y) (key x) = false) ?_ ha hb hp
  intro x y hx hy h1 h2
  apply hi x hx y (hp.mem_iff.2 hy)
  rcases Decidable.em (key x = key y) with h | h
  · exact h
  · rcases ltK_total h with h | h
    · rw [h] at h2; cases h2
    · rw [h] at h1; cases h1
theorem row_new {α : Type} {enc : α → List Value} {k : Nat} (hk : ∀ x, (enc x).length = k) {w : World} {n : Nat} (hn : w.heap.size = n) (A : List α) (t : TypeId) : Row enc k (w.alloc (.cells (A.flatMap enc).toArray t)) (some ⟨n, 0, none⟩) A := by
  intro i hi
  refine ⟨n, 0, rfl, by subst hn; simp, fun j hj => ?_⟩
  rw [cell_newL hn, Nat.zero_add, flat_get hk A i j hj, List.getElem?_eq_getElem hi]; rfl
theorem mrg_keys {Z : List ArcT} : (mrg Z).map kOf = firsts (keysOf Z) := by
  unfold mrg; rw [List.map_map]
  conv => rhs; rw [← List.map_id (firsts (keysOf Z))]
  apply List.map_congr_left
  intro x _; rfl
theorem mrg_inj {Z : List ArcT} {x y : ArcT} (hx : x ∈ mrg Z) (hy : y ∈ mrg Z) (h : kOf x = kOf y) : x = y := by
  obtain ⟨k, _, rfl⟩ := List.mem_map.1 hx
  obtain ⟨l, _, rfl⟩ := List.mem_map.1 hy
  have : k = l := h
  rw [this]
def awl : List ArcT := [(1, 2, 5, 1), (0, 1, 3, 2), (1, 2, 4, 1)]
def awm : List ArcT := [(0, 1, 3, 2), (1, 2, 9, 1)]
theorem aw_mrg : mrg awl = [(1, 2, 9, 1), (0, 1, 3, 2)] := by decide
theorem aw_sums : mrgS awl = [9, 3] := by decide
theorem aw_busy : busyR (endsOf awl) = ((1, 2), 2) := by decide
theorem aw_find : fnd (awl.map kOf) (3, 0, 0) = -1 := by decide
theorem aw_ok : OkA awl := by
  intro x hx
  simp [awl] at hx
  rcases hx with rfl | rfl | rfl <;> simp [okA, in64]
set_option maxRecDepth 100000 in
set_option maxHeartbeats 2000000 in
theorem awake_any (w : World) : Calls Try.prog 13 #[] w fun e w' => e = .returned (.bool true) ∧ Below w.heap.size w w' := by
  go_enter Try.func13, Try.ntmps13
  go_wp2_with fail
  have hr1 := row_new encA_len (w := w) rfl awl 52
  have hb1 := (Below.refl _ w).alloc (Nat.le_refl _) (.cells (awl.flatMap encA).toArray 52)
  have HR1 := Lib.hid hr1
  have HB1 := Lib.hid hb1
  clear hr1 hb1
  change Calls Try.prog 19 #[.slice (some ⟨w.heap.size, 0, none⟩) awl.length 3] (w.alloc (.cells (awl.flatMap encA).toArray 52)) _
  generalize w.alloc (.cells (awl.flatMap encA).toArray 52) = w1 at HR1 HB1 ⊢
  refine (merge_any _ 3 awl _ HR1.out aw_ok (by decide)).mono ?_
  rintro e w2 ⟨hb2, ⟨hall, ma, mcap, M, rfl, hmr, hpm, hso⟩ | ⟨hall, rfl⟩⟩
  · have hM : M = awm := by
      have hp2 : M.Perm awm := hpm.trans (by rw [aw_mrg]; exact List.Perm.swap _ _ _)
      refine sorted_unique hso ?_ hp2 (fun x hx y hy h => mrg_inj (hpm.mem_iff.1 hx) (hpm.mem_iff.1 hy) h)
      refine List.pairwise_cons.2 ⟨fun y hy => ?_, List.pairwise_singleton _ _⟩
      simp at hy; subst hy; decide
    subst hM
    have HR2 := Lib.hid (HR1.out.below' hb2)
    have HM2 := Lib.hid hmr
    have HB2 := Lib.hid (HB1.out.trans (hb2.mono HB1.out.size))
    clear hb2 hall hmr hpm hso HR1 HB1
    have eqa := fun W => eq_arr 1 2 1 2 W
    have q1 : ((1 : Int) == 1 && (2 : Int) == 2) = true := by decide
    go_wp2_with fail
    change Calls Try.prog 22 #[.slice (some ⟨w.heap.size, 0, none⟩) awl.length 3] w2 _
    refine (busy_any _ 3 awl _ HR2.out aw_ok (by decide)).mono ?_
    rintro e w3 ⟨he, hb3⟩
    rw [aw_busy] at he
    unfold busyE at he
    subst he
    have HR3 := Lib.hid (HR2.out.below' hb3)
    have HM3 := Lib.hid (HM2.out.below' hb3)
    have HB3 := Lib.hid (HB2.out.trans (hb3.mono HB2.out.size))
    clear hb3 HR2 HM2 HB2
    go_wp2_with fail
    have hm5 := row_alloc (row_alloc HM3.out (.cells #[.int .i64 1, .int .i64 2] 37)) (.cells (awm.flatMap encA).toArray 52)
    have hn5 := row_new encA_len (w := w3.alloc (.cells #[.int .i64 1, .int .i64 2] 37)) (n := w3.heap.size + 1) (by simp) awm 52
    have hb5 := (HB3.out.alloc HB3.out.size (.cells #[.int .i64 1, .int .i64 2] 37)).alloc (by have := HB3.out.size; simp; omega) (.cells (awm.flatMap encA).toArray 52)
    have hr5 := row_alloc (row_alloc HR3.out (.cells #[.int .i64 1, .int .i64 2] 37)) (.cells (awm.flatMap encA).toArray 52)
    have p0 : ((w3.alloc (.cells #[.int .i64 1, .int .i64 2] 37)).alloc (.cells (awm.flatMap encA).toArray 52)).cell? ⟨w3.heap.size, 0, none⟩ = some (.int .i64 1) := box0 w3 _ _ _ _ 0
    have p1 : ((w3.alloc (.cells #[.int .i64 1, .int .i64 2] 37)).alloc (.cells (awm.flatMap encA).toArray 52)).cell? ⟨w3.heap.size, 1, none⟩ = some (.int .i64 2) := box0 w3 _ _ _ _ 1
    change Calls Try.prog 21 _ ((w3.alloc (.cells #[.int .i64 1, .int .i64 2] 37)).alloc (.cells (awm.flatMap encA).toArray 52)) _
    generalize (w3.alloc (.cells #[.int .i64 1, .int .i64 2] 37)).alloc (.cells (awm.flatMap encA).toArray 52) = w5 at hm5 hn5 hb5 hr5 p0 p1 ⊢
    refine (samearcs_any _ _ _ _ _ _ awm _ rfl rfl hm5 hn5 (by decide)).mono ?_
    rintro e w6 ⟨rfl, n6, rfl⟩
    have HB6 : Hid (Below w.heap.size w (w5.drewN n6)) := Lib.hid ⟨hb5.os, hb5.tape, hb5.output, hb5.size, hb5.block⟩
    have HR6 : Hid (Row encA 4 (w5.drewN n6) (some ⟨w.heap.size, 0, none⟩) awl) := Lib.hid hr5
    have r0 : (w5.drewN n6).cell? ⟨w3.heap.size, 0, none⟩ = some (.int .i64 1) := p0
    have r1 : (w5.drewN n6).cell? ⟨w3.heap.size, 1, none⟩ = some (.int .i64 2) := p1
    clear hm5 hn5 hb5 hr5 p0 p1 HB3 HR3 HM3
    generalize w5.drewN n6 = w7 at *
    have HF := Lib.hid aw_find
    go_wp2_with (go_at_call 14; refine (find_any _ 3 awl (3, 0, 0) _ HR6.out (by decide)).mono ?_; rintro e w8 ⟨rfl, hb8⟩; rw [HF.out]; have HB8 := Lib.hid (HB6.out.trans (hb8.mono HB6.out.size)); clear hb8)
    go_ret
    exact ⟨rfl, HB8.out⟩
  · exact absurd (by rw [aw_sums]; intro s hs; simp at hs; rcases hs with rfl | rfl <;> simp [in64]) hall
end Go.Proofs.Ytieomjkiabfhcaa
