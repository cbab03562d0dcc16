/- What Push of a full pile, Least and Pop of package pile do. -/
import Derived.Test.YtfnafdjcncgcnaaPPush
namespace Go.Proofs.Ytfnafdjcncgcnaa
open Go.RowKit Go.Sort
set_option linter.unusedVariables false

set_option maxHeartbeats 1000000 in
theorem push_no (b : Nat) (G : Option Nat) (most : Nat) (L : List (Int × Int)) (x : Int × Int) (w : World) (h : Pl w b G most L) (hm : L.length = most) :
    Calls Try.prog 37 #[.pointer (some ⟨b, 0, none⟩), .agg #[.int .i64 x.1, .int .i64 x.2]] w fun e w' => e = .returned (.int .i64 20) ∧ Below w.heap.size w w' := by
  obtain ⟨d, hp, hh, hperm, hso, hlm, hmo⟩ := h
  have hl : d.size = L.length := by have := hperm.length_eq; simpa using this
  have hd : most ≤ d.size := by omega
  have H := Lib.hid hp
  obtain ⟨hn, v, hb, hv⟩ := hp
  have c0 := cell_whole hb 0
  simp at c0
  have hbs := lt_whole hb
  have hdd : decide (most ≤ d.size) = true := decide_eq_true hd
  clear hn hb hv hh hperm hso hl hm
  go_enter Try.func37, Try.ntmps37
  go_wp2
  generalize hw1 : w.alloc (.cells #[.int .i64 x.1, .int .i64 x.2] 57) = w1
  have hbel : Below w.heap.size w w1 := hw1 ▸ (Below.refl _ w).alloc (Nat.le_refl _) _
  have H1 := Lib.hid (H.out.below hbel)
  have d0 : w1.cell? ⟨b, 0, none⟩ = some (.int .i64 (most : Int)) := (hbel.cell (p := ⟨b, 0, none⟩) hbs).trans c0
  have HBEL := Lib.hid hbel
  clear hw1 c0 hbel
  go_quiet ((go_at_call 35; exact Calls.quiet_of_same (len_any b G most d _ H1.out)))
  go_wp2
  go_ret
  exact ⟨rfl, ⟨HBEL.out.os, HBEL.out.tape, HBEL.out.output, HBEL.out.size, HBEL.out.block⟩⟩
theorem least_no (b : Nat) (G : Option Nat) (most : Nat) (w : World) (h : Pl w b G most []) :
    Calls Try.prog 46 #[.pointer (some ⟨b, 0, none⟩)] w fun e w' => e = .returned (.tuple #[.agg #[.int .i64 0, .int .i64 0], .int .i64 21]) ∧ Below w.heap.size w w' := by
  have H := Lib.hid h
  clear h
  go_enter Try.func46, Try.ntmps46
  go_wp2_with (go_at_call 35; refine (plen_any b G most [] _ (H.out.kept ((Kept.refl (fun _ => False) w).alloc _) (fun h => h) (fun _ _ h => h))).mono ?_; rintro e w' ⟨rfl, rfl⟩)
  refine bodyPost_ret (v := .tuple #[.agg #[.int .i64 0, .int .i64 0], .int .i64 21]) (by simp [results, Try.results46, go_sem]) rfl ⟨rfl, (Below.refl _ w).alloc (Nat.le_refl _) _⟩
set_option maxHeartbeats 1000000 in
theorem least_yes (b : Nat) (G : Option Nat) (most : Nat) (x : Int × Int) (L : List (Int × Int)) (w : World) (h : Pl w b G most (x :: L)) :
    Calls Try.prog 46 #[.pointer (some ⟨b, 0, none⟩)] w fun e w' => e = .returned (.tuple #[.agg #[.int .i64 x.1, .int .i64 x.2], .int .i64 0]) ∧ Below w.heap.size w w' := by
  have H := Lib.hid h
  obtain ⟨d, hp, hh, hperm, hso, hlm, hmo⟩ := h
  have hl : d.size = L.length + 1 := by have := hperm.length_eq; simpa using this
  have h0 := hh.head hperm hso
  obtain ⟨g, cap, cur, rfl, hne, hb, hg, hc1, hc2, hc3, hc⟩ := hp.full (by omega)
  have c2 := cell_whole hb 2
  simp at c2
  have p0 := cell_whole hg 0
  have p1 := cell_whole hg 1
  have hc0 := hc 0 (by omega)
  rw [h0] at hc0
  have q0 : w.cell? ⟨g, 0, none⟩ = some (.int .i64 x.1) := p0.trans hc0.1
  have q1 : w.cell? ⟨g, 1, none⟩ = some (.int .i64 x.2) := p1.trans hc0.2
  have hbs := lt_whole hb
  have hgs := lt_whole hg
  rw [hl] at c2
  have HNE : Hid ((((x :: L).length : Nat) : Int) = (L.length : Int) + 1) := Lib.hid (by simp)
  have hlm' : L.length + 1 ≤ most := by simpa using hlm
  clear hp hh hperm hso hl h0 hb hg hc hc3 p0 p1 hc0 hlm hc1 hc2
  have n1 : b ≠ w.heap.size := by omega
  have n2 : g ≠ w.heap.size := by omega
  go_enter Try.func46, Try.ntmps46
  go_wp2_with (go_at_call 35; refine (plen_any b (some g) most (x :: L) _ (H.out.kept ((Kept.refl (fun _ => False) w).alloc _) (fun h => h) (fun _ _ h => h))).mono ?_; rintro e w' ⟨rfl, rfl⟩; rw [HNE.out])
  exact bodyPost_ret (v := .tuple #[.agg #[.int .i64 x.1, .int .i64 x.2], .int .i64 0]) (by simp [results, Try.results46, go_sem]) rfl ⟨rfl, (Below.refl _ w).alloc (Nat.le_refl _) _⟩
theorem old_block {w w2 : World} {o : Obj} (hb : Below (w.alloc o).heap.size (w.alloc o) w2) : w2.heap[w.heap.size]? = some o := (hb.block _ (by simp)).trans (heap_alloc_new w o)
theorem pop_no (b : Nat) (G : Option Nat) (most : Nat) (w : World) (h : Pl w b G most []) :
    Calls Try.prog 36 #[.pointer (some ⟨b, 0, none⟩)] w fun e w' => e = .returned (.tuple #[.agg #[.int .i64 0, .int .i64 0], .int .i64 21]) ∧ Below w.heap.size w w' := by
  have H := Lib.hid h
  clear h
  go_enter Try.func36, Try.ntmps36
  go_wp2_with (go_at_call 46; refine (least_no b G most _ (H.out.kept ((Kept.refl (fun _ => False) w).alloc _) (fun h => h) (fun _ _ h => h))).mono ?_; rintro e w2 ⟨rfl, hb2⟩; have hr := old_block hb2; have r0 := cell_whole hr 0; have r1 := cell_whole hr 1; have f0 := frozen_whole hr 0; have f1 := frozen_whole hr 1; simp at r0 r1; have hsz := lt_whole hr; have hsn : w.heap.size ≠ w2.heap.size := (by omega); have HB2 := Lib.hid hb2; clear hb2 hr)
  exact bodyPost_ret (v := .tuple #[.agg #[.int .i64 0, .int .i64 0], .int .i64 21]) (by simp [results, Try.results36, go_sem, r0, r1, hsz]) rfl ⟨rfl, (((((Below.refl _ w).alloc (Nat.le_refl _) _).trans (HB2.out.mono (by simp))).setCell (Nat.le_refl _) _).setCell (Nat.le_refl _) _).alloc (by simp [World.setCell]; omega) _⟩
/-- The last pair of a row goes ahead, and the row is one shorter. -/
theorem swp_pop (d : Array (Int × Int)) (h : 0 < d.size) : (swp d 0 (d.size - 1)).toList = (swp d 0 (d.size - 1)).pop.toList ++ [d[0]!] := by
  have hs : (swp d 0 (d.size - 1)).size = d.size := swp_size _ _ _
  apply List.ext_getElem?
  intro t
  by_cases ht : t < d.size - 1
  · rw [List.getElem?_append_left (by simp [hs]; omega)]
    simp [hs, ht]
  · by_cases e : t = d.size - 1
    · rw [List.getElem?_append_right (by simp [hs]; omega)]
      have h1 := swp_get d h (show d.size - 1 < d.size by omega) t
      rw [if_pos e, getElem!_pos _ _ (by omega)] at h1
      rw [show t - ((swp d 0 (d.size - 1)).pop.toList).length = 0 by simp [hs]; omega, Array.getElem?_toList, Array.getElem?_eq_getElem (by omega), h1]
      rfl
    · rw [List.getElem?_eq_none (by simp [hs]; omega), List.getElem?_eq_none (by simp [hs]; omega)]
theorem Heap.popped {d : Array (Int × Int)} (h : Heap d) (hd : 0 < d.size) : Down (swp d 0 (d.size - 1)).pop 0 := by
  have hs : (swp d 0 (d.size - 1)).size = d.size := swp_size _ _ _
  have get : ∀ t, 1 ≤ t → t < d.size - 1 → ((swp d 0 (d.size - 1)).pop)[t]! = d[t]! := fun t h1 ht => by
    rw [getElem!_pos _ t (by simp [hs]; omega), Array.getElem_pop]
    have := swp_get d hd (show d.size - 1 < d.size by omega) t
    rw [if_neg (by omega), if_neg (by omega), getElem!_pos _ t (by omega)] at this
    exact this
  refine ⟨fun t h1 h2 hn => ?_, fun t h1 h2 he h0 => by omega⟩
  have h2' : t < d.size - 1 := by simpa [hs] using h2
  have hp : par t < t := by unfold par; omega
  rw [get t h1 h2', get _ (by omega) (by omega)]
  exact h t h1 (by omega)
def Popped (b most : Nat) (G : Option Nat) (x : Int × Int) (L : List (Int × Int)) (w : World) (e : Ending) (w' : World) : Prop :=
  e = .returned (.tuple #[.agg #[.int .i64 x.1, .int .i64 x.2], .int .i64 0]) ∧ Pl w' b G most L ∧ Kept (fun i => i = b ∨ some i = G) w w'
theorem PIs.pop {w : World} {b g most cap : Nat} {d : Array (Int × Int)} {cur : Array Value} {n : Nat} (hne : g ≠ b) (hn : n = d.size - 1)
    (hb : w.heap[b]? = some (.cells #[.int .i64 (most : Int), .func (.func 50) #[] #[], .slice (some ⟨g, 0, none⟩) d.size cap] 75 (0, 0))) (hg : w.heap[g]? = some (.cells cur 57 (0, 0))) (hc1 : d.size ≤ cap) (hc2 : cap ≤ maxLen) (hc3 : cur.size = cap * 2)
    (hc : ∀ j, j < d.size → cur[j * 2]? = some (.int .i64 d[j]!.1) ∧ cur[j * 2 + 1]? = some (.int .i64 d[j]!.2)) :
    PIs (w.setCell ⟨b, 2, none⟩ (.slice (some ⟨g, 0, none⟩) n cap)) b (some g) most d.pop := by
  subst hn
  refine ⟨fun e => hne (Option.some.inj e), _, set_whole hb _ _, .inr ⟨g, cap, cur, rfl, by simp, set_other hg hne _ _, by simp; omega, hc2, hc3, fun j hj => ?_⟩⟩
  have hj' : j < d.size - 1 := by simpa using hj
  have := hc j (by omega)
  rw [getElem!_pos d j (by omega)] at this
  rw [getElem!_pos d.pop j hj, Array.getElem_pop]
  exact this
set_option maxHeartbeats 2000000 in
theorem pop_yes (b : Nat) (G : Option Nat) (most : Nat) (x : Int × Int) (L : List (Int × Int)) (w : World) (h : Pl w b G most (x :: L)) :
    Calls Try.prog 36 #[.pointer (some ⟨b, 0, none⟩)] w (Popped b most G x L w) := by
  have H := Lib.hid h
  obtain ⟨d, hp, hh, hperm, hso, hlm, hmo⟩ := h
  have hl : d.size = L.length + 1 := by have := hperm.length_eq; simpa using this
  have h0 := hh.head hperm hso
  have hlt := hp.lt
  obtain ⟨g, cap, cur, rfl, hne, _⟩ := hp.full (by omega)
  have hgs := hlt.2 g rfl
  have hbs := hlt.1
  have HP := Lib.hid hp
  have HH := Lib.hid hh
  have HPM := Lib.hid hperm
  have HSO := Lib.hid hso
  have H0 := Lib.hid h0
  have HLL := Lib.hid hl
  have hlm' : L.length + 1 ≤ most := by simpa using hlm
  have hds : d.size ≤ 65536 := by omega
  have hpos : 0 < d.size := by omega
  clear hp hh hperm hso h0 hl hlt hlm
  have n1 : b ≠ w.heap.size := by omega
  have n2 : g ≠ w.heap.size := by omega
  go_enter Try.func36, Try.ntmps36
  go_wp2_with (first
    | (go_at_call 46; refine (least_yes b (some g) most x L _ (H.out.kept ((Kept.refl (fun _ => False) w).alloc _) (fun h => h) (fun _ _ h => h))).mono ?_; rintro e w2 ⟨rfl, hb2⟩
       have hr := old_block hb2
       have hsz := lt_whole hr
       have HB2 := Lib.hid (((Below.refl _ w).alloc (Nat.le_refl _) (.cells #[.int .i64 0, .int .i64 0] 57)).trans (hb2.mono (by simp)))
       have HR2 := Lib.hid hr
       have HP2 := Lib.hid (HP.out.below HB2.out)
       clear hb2 hr)
    | (go_at_call 35; refine (len_any b (some g) most d _ (HP2.out.below ((Below.refl _ w2).alloc (Nat.le_refl _) _))).mono ?_; rintro e w' ⟨rfl, rfl⟩)
    | (go_at_call 47; refine (swap_at b (some g) most d 0 (d.size - 1) _ _ _ (HP2.out.below ((Below.refl _ w2).alloc (Nat.le_refl _) _)) (by omega) (by omega) (by omega) (by omega) hds).mono ?_; rintro e w5 ⟨rfl, hp5, hk5⟩
       obtain ⟨g5, cap5, cur5, hg5, hne5, hb5, hgg5, hc51, hc52, hc53, hc5⟩ := hp5.full (by rw [swp_size]; omega)
       obtain rfl : g = g5 := Option.some.inj hg5
       have c5 := cell_whole hb5 2
       have f5 := frozen_whole hb5 2
       simp [swp_size] at c5
       have hc51' : d.size ≤ cap5 := (by rw [swp_size] at hc51; exact hc51)
       have HR5 := Lib.hid (hk5.old (alloc_whole HR2.out _) (fun e => n2 (Option.some.inj e).symm))
       have HL5 := Lib.hid (hk5.old (heap_alloc_new w2 _) (fun e => by have := Option.some.inj e; omega))
       have HPP := Lib.hid (PIs.pop (n := d.size - 1) hne5 (by rw [swp_size]) hb5 hgg5 hc51 hc52 hc53 hc5)
       have HK5 := Lib.hid (((Kept.of_below (S := fun i => i = b ∨ some i = some g) HB2.out).alloc (.cells #[.int .i64 x.1, .int .i64 x.2] 57)).trans hk5 (fun i _ h => .inr h))
       have hs5 := lt_whole HL5.out
       clear hp5 hk5 hg5 hb5 hgg5 hc51 hc52 hc53 hc5)
    | (go_at_call 48; refine (settle_any b (some g) most (swp d 0 (d.size - 1)).pop 0 _ _ HPP.out (HH.out.popped hpos) (by omega) (by omega) (by simp [swp_size]; omega)).mono ?_; rintro e w7 ⟨d', rfl, hp7, hh7, hm7, hk7⟩
       have hr7 := hk7.old (set_other HR5.out (fun e => n1 e.symm) 2 (.slice (some ⟨g, 0, none⟩) (d.size - 1) cap5)) (fun e => n2 (Option.some.inj e).symm)
       have hl7 := hk7.old (set_other HL5.out (fun e => by omega) 2 (.slice (some ⟨g, 0, none⟩) (d.size - 1) cap5)) (fun e => by have := Option.some.inj e; omega)
       have r0 := cell_whole hr7 0
       have r1 := cell_whole hr7 1
       have l0 := cell_whole hl7 0
       have l1 := cell_whole hl7 1
       simp at r0 r1 l0 l1
       have f0 := frozen_whole hr7 0
       have f1 := frozen_whole hr7 1
       have HP7 := Lib.hid hp7
       have HH7 := Lib.hid hh7
       have HM7 := Lib.hid hm7
       have HK7 := Lib.hid ((HK5.out.set (g := b) (j := 2) (.inl (.inl rfl)) (.slice (some ⟨g, 0, none⟩) (d.size - 1) cap5)).trans hk7 (fun i _ h => .inr h))
       clear hr7 hl7 hp7 hh7 hm7 hk7))
  refine bodyPost_ret (v := .tuple #[.agg #[.int .i64 x.1, .int .i64 x.2], .int .i64 0]) (by simp [results, Try.results36, go_sem, r0, r1]) rfl ⟨rfl, ⟨d', ?_, HH7.out, ?_, List.Pairwise.of_cons HSO.out, by omega, hmo⟩, ?_⟩
  · exact HP7.out.kept (((Kept.refl (fun i => i = w.heap.size) w7).set (.inl rfl) _).set (.inl rfl) _) n1 (fun g' e h => n2 ((Option.some.inj e).trans h))
  · refine HM7.out.trans ?_
    have h1 := (swp_perm d hpos (show d.size - 1 < d.size by omega)).trans HPM.out
    rw [swp_pop d hpos, H0.out] at h1
    exact ((List.perm_append_singleton x _).symm.trans h1).cons_inv
  · exact (HK7.out.set (.inr (Nat.le_refl _)) _).set (.inr (Nat.le_refl _)) _
end Go.Proofs.Ytfnafdjcncgcnaa
