/- The walk of statement TableSums. -/
import Derived.Test.YtieomjkiabfhcaaTAwake
namespace Go.Proofs.Ytieomjkiabfhcaa
open Go.RowKit
set_option linter.unusedVariables false

theorem places_step {α : Type} [DecidableEq α] {l : List α} {k : Nat} {y : α} (hk : l[k]? = some y) (x : α) : places (l.take (k + 1)) x = places (l.take k) x ++ if y = x then [k] else [] := by
  obtain ⟨hl, _⟩ := List.getElem?_eq_some_iff.1 hk
  rw [take_snoc' hk, places_snoc, List.length_take, Nat.min_eq_left (by omega)]
theorem merged_keys {Z M : List ArcT} (h : M.Perm (mrg Z)) : ∀ k, k ∈ M.map kOf ↔ k ∈ keysOf Z := by
  intro k
  have := (h.map kOf).mem_iff (a := k)
  rw [mrg_keys, mem_firsts] at this
  exact this
theorem merged_at {Z M : List ArcT} (h : M.Perm (mrg Z)) {k : Int × Int × Int} {j : Nat} (hj : j < M.length) (hk : kOf M[j] = k) : M[j] = mkArc Z k := by
  have hm : M[j] ∈ mrg Z := h.mem_iff.1 (List.getElem_mem hj)
  obtain ⟨q, hq, e⟩ := List.mem_map.1 hm
  rw [← e] at hk ⊢
  have : q = k := hk
  rw [this]
theorem fnd_yes {α : Type} [DecidableEq α] {l : List α} {k : α} (h : k ∈ l) : ∃ j, ∃ hj : j < l.length, fnd l k = (j : Int) ∧ l[j] = k := by
  obtain ⟨i, hi, e⟩ := List.getElem_of_mem h
  have hm : i ∈ places l k := mem_places.2 (by rw [List.getElem?_eq_getElem hi, e])
  unfold fnd
  cases e2 : places l k with
  | nil => rw [e2] at hm; cases hm
  | cons a r =>
    have ha : a ∈ places l k := by rw [e2]; exact List.mem_cons_self
    obtain ⟨h1, h2⟩ := List.getElem?_eq_some_iff.1 (mem_places.1 ha)
    exact ⟨a, h1, rfl, h2⟩
theorem mrg_len (Z : List ArcT) : (mrg Z).length ≤ Z.length := by
  unfold mrg; rw [List.length_map]; have := firsts_len (keysOf Z); unfold keysOf at this ⊢; simpa using this
def allOf (Z : List ArcT) (k : Int × Int × Int) (i : Nat) : List Int := (places ((keysOf Z).take i) k).map (capAt Z)
theorem allOf_step {Z : List ArcT} {k : Int × Int × Int} {i : Nat} (hi : i < Z.length) : allOf Z k (i + 1) = allOf Z k i ++ if kOf Z[i] = k then [Z[i].2.2.1] else [] := by
  unfold allOf
  have hk : (keysOf Z)[i]? = some (kOf Z[i]) := by unfold keysOf; rw [List.getElem?_map, List.getElem?_eq_getElem hi]; rfl
  rw [places_step hk, List.map_append]
  congr 1
  split
  · simp [capAt_eq hi]
  · rfl
theorem allOf_two {Z : List ArcT} {k : Int × Int × Int} {i : Nat} (hi : i < Z.length) : (kOf Z[i] = k → allOf Z k (i + 1) = allOf Z k i ++ [Z[i].2.2.1]) ∧ (kOf Z[i] ≠ k → allOf Z k (i + 1) = allOf Z k i) := by
  rw [allOf_step hi]
  exact ⟨fun h => by rw [if_pos h], fun h => by rw [if_neg h, List.append_nil]⟩
theorem allOf_len (Z : List ArcT) (k : Int × Int × Int) (i : Nat) : (allOf Z k i).length ≤ Z.length := by
  unfold allOf; rw [List.length_map]; have h1 := places_len ((keysOf Z).take i) k; rw [List.length_take] at h1; have h2 : (keysOf Z).length = Z.length := by simp [keysOf]
  omega
theorem allOf_all (Z : List ArcT) (k : Int × Int × Int) : (allOf Z k Z.length).sum = capSum Z k ∧ ((allOf Z k Z.length).length = 0 ↔ k ∉ keysOf Z) := by
  have e : allOf Z k Z.length = (places (keysOf Z) k).map (capAt Z) := by unfold allOf; rw [List.take_of_length_le (by simp [keysOf])]
  rw [e]
  refine ⟨rfl, ?_⟩
  rw [List.length_map]
  constructor
  · intro h hk
    obtain ⟨i, hi, e⟩ := List.getElem_of_mem hk
    have hm : i ∈ places (keysOf Z) k := mem_places.2 (by rw [List.getElem?_eq_getElem hi, e])
    rw [List.eq_nil_of_length_eq_zero h] at hm
    cases hm
  · intro h; rw [places_none h]; rfl
theorem allOf_in {Z : List ArcT} (hk : OkA Z) (k : Int × Int × Int) (i : Nat) : In64 (allOf Z k i) := by
  intro z hz
  obtain ⟨j, hj, rfl⟩ := List.mem_map.1 hz
  have hjl : j < Z.length := by
    have := (List.getElem?_eq_some_iff.1 (mem_places.1 hj)).1
    simp [keysOf] at this; omega
  rw [capAt_eq hjl]
  exact (hk _ (List.getElem_mem hjl)).2.2.1
set_option maxRecDepth 100000 in
set_option maxHeartbeats 4000000 in
theorem lsums_law (w : World) (ao : Option Addr) (len cap : Nat) (Z : List ArcT) (hl : Z.length = len) (hm : len ≤ maxLen) (hr : Row encA 4 w ao Z) (hk : OkA Z) (k : Int × Int × Int) (hkk : okK k) :
    Calls Try.prog 11 #[.slice ao len cap, .agg #[.int .i64 k.1, .int .i64 k.2.1, .int .i64 k.2.2]] w fun e w' => e = .returned (.bool true) ∧ Below w.heap.size w w' := by
  unfold maxLen at hm
  subst hl
  have HR := Lib.hid hr
  have HK := Lib.hid hk
  clear hr hk hkk
  obtain ⟨x, y, z⟩ := k
  simp only
  have hb0 := Lib.hid ((Below.refl _ w).alloc (Nat.le_refl _) (.cells #[.int .i64 x, .int .i64 y, .int .i64 z] 24))
  have hk0 := Lib.hid (heap_alloc_new w (.cells #[.int .i64 x, .int .i64 y, .int .i64 z] 24))
  have hr0 := Lib.hid (row_alloc HR.out (.cells #[.int .i64 x, .int .i64 y, .int .i64 z] 24))
  go_enter Try.func11, Try.ntmps11
  go_wp2_with fail
  generalize w.alloc (.cells #[.int .i64 x, .int .i64 y, .int .i64 z] 24) = w0 at hb0 hk0 hr0 ⊢
  refine (awake_any _).mono ?_
  rintro e w1 ⟨rfl, hb1⟩
  have HB1 := Lib.hid (hb0.out.trans (hb1.mono hb0.out.size))
  have HK1 := Lib.hid ((hb1.block _ (lt_whole hk0.out)).trans hk0.out)
  have HR1 := Lib.hid (hr0.out.below' hb1)
  clear hb1 hb0 hk0 hr0 HR
  by_cases h : 200 < Z.length
  · go_wp2
    go_ret
    exact ⟨rfl, HB1.out⟩
  · have hs : Z.length ≤ 200 := by omega
    clear h
    go_wp2_with fail
    refine (merge_any ao cap Z _ HR1.out HK.out hs).mono ?_
    rintro e w2 ⟨hb2, ⟨hall, ma, mcap, M, rfl, hmr, hpm, hso⟩ | ⟨hall, rfl⟩⟩
    · have HB2 := Lib.hid (HB1.out.trans (hb2.mono HB1.out.size))
      have HK2 := Lib.hid ((hb2.block _ (lt_whole HK1.out)).trans HK1.out)
      have HR2 := Lib.hid (HR1.out.below' hb2)
      have HMR := Lib.hid hmr
      have HPM := Lib.hid hpm
      have HAL : Hid (AllIn ((firsts (keysOf Z)).map (capSum Z))) := Lib.hid (by rw [← mrgS_eq]; exact hall)
      have hml : M.length ≤ 200 := by rw [hpm.length_eq]; have := mrg_len Z; omega
      clear hb2 hall hmr hpm hso HB1 HK1 HR1
      go_wp2_with fail
      go_loopw [8, 9] (fun av si wr => ∃ (i : Nat), i ≤ Z.length ∧ Hid (Below w2.heap.size w2 wr) ∧ Hid (wr.ownsRow w2.heap.size 3 1 av (allOf Z (x, y, z) i).length ((allOf Z (x, y, z) i).flatMap encI)) ∧ si = .int .i64 (i : Int)) (fun _ si _ => Z.length - (intOf si).toNat)
      case atStart => exact ⟨0, by omega, Lib.hid (Below.refl _ _), Lib.hid (World.ownsRow_nil _ _ _ _), rfl⟩
      case round =>
        obtain ⟨i, hi, HB, HO, rfl⟩ := hrel
        by_cases hlt : i < Z.length
        · have hli : (i : Int) < (Z.length : Int) := by omega
          obtain ⟨ab, ax, e, hab, n0, n1, n2, n3⟩ := (HR2.out.below' HB.out).arc hlt
          cases e
          have hst := allOf_two (k := (x, y, z)) hlt
          have hroom : (allOf Z (x, y, z) i).length ≤ 200000 := by have := allOf_len Z (x, y, z) i; omega
          generalize Z[i] = zz at *
          obtain ⟨x1, y1, u1, v1⟩ := zz
          simp only [kOf] at n0 n1 n2 n3 hst
          generalize allOf Z (x, y, z) i = A at *
          have HST := Lib.hid hst
          clear hst
          have hkw := (HB.out.block _ (lt_whole HK2.out)).trans HK2.out
          have HKW := Lib.hid hkw
          have m0 : wr.cell? ⟨w.heap.size, 0, none⟩ = some (.int .i64 x) := cell_whole hkw 0
          have m1 : wr.cell? ⟨w.heap.size, 1, none⟩ = some (.int .i64 y) := cell_whole hkw 1
          have m2 : wr.cell? ⟨w.heap.size, 2, none⟩ = some (.int .i64 z) := cell_whole hkw 2
          clear hkw
          have eq := fun W => eq_key x1 y1 v1 x y z W
          have e1 : (x1, y1, v1) = (x, y, z) ∨ (x1, y1, v1) ≠ (x, y, z) := Decidable.em _
          rcases e1 with e1 | e1
          · have e2 := beq3 e1
            have HT2 : Hid (allOf Z (x, y, z) (i + 1) = A ++ [u1]) := Lib.hid (HST.out.1 e1)
            clear e1 HST
            go_wp2_with fail
            go_region_held3 (fun W => W.cell? ⟨ab, ax + i * 4, none⟩ = some (.int .i64 x1) ∧ W.cell? ⟨ab, ax + i * 4 + 1, none⟩ = some (.int .i64 y1) ∧ W.cell? ⟨ab, ax + i * 4 + 2, none⟩ = some (.int .i64 u1) ∧ W.cell? ⟨ab, ax + i * 4 + 3, none⟩ = some (.int .i64 v1) ∧ W.cell? ⟨w.heap.size, 0, none⟩ = some (.int .i64 x) ∧ W.cell? ⟨w.heap.size, 1, none⟩ = some (.int .i64 y) ∧ W.cell? ⟨w.heap.size, 2, none⟩ = some (.int .i64 z)) (first | exact ⟨n0, n1, n2, n3, m0, m1, m2⟩ | exact ⟨z0, z1, z2, z3, z4, z5, z6⟩ | go_keep)
              (first | (go_at_call 32; refine (of_any x1 y1 u1 v1 _).mono ?_; rintro e w4 ⟨rfl, hb4⟩; have z0 := cell_below hb4 n0; have z1 := cell_below hb4 n1; have z2 := cell_below hb4 n2; have z3 := cell_below hb4 n3; have z4 := cell_below hb4 m0; have z5 := cell_below hb4 m1; have z6 := cell_below hb4 m2; have HB4 := Lib.hid ((below_drew HB.out).trans (hb4.mono HB.out.size)); have HO4 := Lib.hid (own_below (w := wr) HO.out ⟨hb4.os, hb4.tape, hb4.output, hb4.size, hb4.block⟩); clear hb4))
            have HO6 := Lib.hid (HO4.out.alloc (.cells #[.int .i64 u1] 3))
            have HB6 := Lib.hid (HB4.out.alloc HB4.out.size (.cells #[.int .i64 u1] 3))
            go_wp2_with (at_builtin; refine wpList_append_row (enc := encI) Try.underlying31 infoInt rfl (by omega) (by omega) encI_len rfl _ _ rfl w2.heap.size _ A u1 (encI_one _) rfl HO6.out _ 1 rfl (fun i hi => cell_newL rfl (encI u1) 3 i) hroom HB6.out.size ?_; intro g7 cap7 w7 ho7 hg7 hl7 hb7 hlt7; have HO7 := Lib.hid ho7; have HB7 := Lib.hid (HB6.out.grown hg7 HB6.out.size (fun k hk => (HO6.out.lt k hk).1)); clear ho7 hg7 hl7)
            go_roundw
            case rel => exact ⟨i + 1, by omega, HB7, Lib.hid (by rw [HT2.out]; exact HO7.out), by go_num⟩
            case measure => simp [intOf]; omega
          · have e2 := beq3n e1
            have HT2 : Hid (allOf Z (x, y, z) (i + 1) = A) := Lib.hid (HST.out.2 e1)
            clear e1 HST
            go_wp2_with fail
            go_region_held3 (fun W => W.cell? ⟨ab, ax + i * 4, none⟩ = some (.int .i64 x1) ∧ W.cell? ⟨ab, ax + i * 4 + 1, none⟩ = some (.int .i64 y1) ∧ W.cell? ⟨ab, ax + i * 4 + 2, none⟩ = some (.int .i64 u1) ∧ W.cell? ⟨ab, ax + i * 4 + 3, none⟩ = some (.int .i64 v1) ∧ W.cell? ⟨w.heap.size, 0, none⟩ = some (.int .i64 x) ∧ W.cell? ⟨w.heap.size, 1, none⟩ = some (.int .i64 y) ∧ W.cell? ⟨w.heap.size, 2, none⟩ = some (.int .i64 z)) (first | exact ⟨n0, n1, n2, n3, m0, m1, m2⟩ | exact ⟨z0, z1, z2, z3, z4, z5, z6⟩ | go_keep)
              (first | (go_at_call 32; refine (of_any x1 y1 u1 v1 _).mono ?_; rintro e w4 ⟨rfl, hb4⟩; have z0 := cell_below hb4 n0; have z1 := cell_below hb4 n1; have z2 := cell_below hb4 n2; have z3 := cell_below hb4 n3; have z4 := cell_below hb4 m0; have z5 := cell_below hb4 m1; have z6 := cell_below hb4 m2; have HB4 := Lib.hid ((below_drew HB.out).trans (hb4.mono HB.out.size)); have HO4 := Lib.hid (own_below (w := wr) HO.out ⟨hb4.os, hb4.tape, hb4.output, hb4.size, hb4.block⟩); clear hb4))
            go_wp2
            go_roundw
            case rel => exact ⟨i + 1, by omega, HB4, Lib.hid (by rw [HT2.out]; exact HO4.out), by go_num⟩
            case measure => simp [intOf]; omega
        · obtain rfl : i = Z.length := by omega
          have HAI := Lib.hid (allOf_in HK.out (x, y, z) Z.length)
          have hal := allOf_len Z (x, y, z) Z.length
          obtain ⟨hsum, hzero⟩ := allOf_all Z (x, y, z)
          generalize allOf Z (x, y, z) Z.length = A at *
          obtain ⟨aa, ac, rfl, har, haf⟩ := own_row encI_len HO.out
          have HAR := Lib.hid (ri_of_row har)
          have HM3 := Lib.hid (HMR.out.below' HB.out)
          have hkw := (HB.out.block _ (lt_whole HK2.out)).trans HK2.out
          have m0 : wr.cell? ⟨w.heap.size, 0, none⟩ = some (.int .i64 x) := cell_whole hkw 0
          have m1 : wr.cell? ⟨w.heap.size, 1, none⟩ = some (.int .i64 y) := cell_whole hkw 1
          have m2 : wr.cell? ⟨w.heap.size, 2, none⟩ = some (.int .i64 z) := cell_whole hkw 2
          have HBW := Lib.hid (HB2.out.trans (HB.out.mono HB2.out.size))
          clear har haf HO hkw
          by_cases hin : (x, y, z) ∈ keysOf Z
          · have hfit : in64 A.sum := by rw [hsum]; exact HAL.out _ (List.mem_map.2 ⟨_, mem_firsts.2 hin, rfl⟩)
            have HFT := Lib.hid (fitR_yes hfit)
            obtain ⟨j, hj, hf, hje⟩ := fnd_yes ((merged_keys HPM.out _).2 hin)
            have hj2 : j < M.length := by simpa using hj
            have hmj := merged_at HPM.out hj2 (k := (x, y, z)) (by simpa using hje)
            have hA0 : 0 < A.length := by
              rcases Nat.eq_zero_or_pos A.length with h0 | h0
              · exact absurd hin (hzero.1 h0)
              · exact h0
            have HSUM : Hid (A.sum = (mkArc Z (x, y, z)).2.2.1) := Lib.hid hsum
            have HF := Lib.hid hf
            have HMJ := Lib.hid hmj
            clear hsum hzero hfit hin hf hje hmj hj
            go_wp2_with (first
              | (go_at_call 33; refine (sumRef_any aa _ ac A _ rfl HAR.out HAI.out (by omega)).mono ?_; rintro e w3 ⟨rfl, rfl⟩; rw [HFT.out])
              | (go_at_call 14; refine (find_any ma mcap M (x, y, z) _ HM3.out hml).mono ?_; rintro e w4 ⟨rfl, hb4⟩; rw [HF.out]; have HM4 := Lib.hid (HM3.out.below' hb4); have HB4 := Lib.hid (HBW.out.trans (hb4.mono HBW.out.size)); obtain ⟨mb, mo, em, _, q0, q1, q2, q3⟩ := HM4.out.arc hj2; cases em; rw [HMJ.out, ← HSUM.out] at q2; clear q0 q1 q3 hb4))
            go_ret
            exact ⟨by simp, HB4.out⟩
          · have hA0 : A.length = 0 := hzero.2 hin
            have hA1 : A = [] := List.eq_nil_of_length_eq_zero hA0
            subst hA1
            have HF := Lib.hid (fnd_none (fun h => hin ((merged_keys HPM.out _).1 h)))
            have HFT := Lib.hid (fitR_yes (x := ([] : List Int).sum) (by simp))
            clear hsum hzero hin hA0
            go_wp2_with (first
              | (go_at_call 33; refine (sumRef_any aa _ ac [] _ rfl HAR.out HAI.out (by simp)).mono ?_; rintro e w3 ⟨rfl, rfl⟩; rw [HFT.out])
              | (go_at_call 14; refine (find_any ma mcap M (x, y, z) _ HM3.out hml).mono ?_; rintro e w4 ⟨rfl, hb4⟩; rw [HF.out]; have HB4 := Lib.hid (HBW.out.trans (hb4.mono HBW.out.size)); clear hb4))
            go_ret
            exact ⟨rfl, HB4.out⟩
    · have HB2 := Lib.hid (HB1.out.trans (hb2.mono HB1.out.size))
      clear hb2 hall
      go_wp2
      go_ret
      exact ⟨rfl, HB2.out⟩
end Go.Proofs.Ytieomjkiabfhcaa
