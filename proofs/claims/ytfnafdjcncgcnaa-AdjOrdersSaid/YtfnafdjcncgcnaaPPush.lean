/- What New, Push, Least and Pop of package pile do: a pile holds pairs, of which the first in their order is told and taken first. -/
import Derived.Test.YtfnafdjcncgcnaaPRise
import Derived.Test.YtfnafdjcncgcnaaPQueue
import Derived.Deep.AppendLies
import Derived.Deep.RegionLaw
namespace Go.Proofs.Ytfnafdjcncgcnaa
open Go.RowKit Go.Sort
set_option linter.unusedVariables false

/-- The cells of pairs, one behind the other. -/
def flatP : List (Int × Int) → List Value
  | [] => []
  | x :: l => .int .i64 x.1 :: .int .i64 x.2 :: flatP l
theorem flatP_length : ∀ l : List (Int × Int), (flatP l).length = l.length * 2
  | [] => rfl
  | x :: l => by simp only [flatP, List.length_cons, flatP_length l]; omega
theorem flatP_append : ∀ l m : List (Int × Int), flatP (l ++ m) = flatP l ++ flatP m
  | [], m => rfl
  | x :: l, m => by simp only [flatP, List.cons_append, flatP_append l m]
theorem flatP_get : ∀ (l : List (Int × Int)) (j : Nat) (h : j < l.length), (flatP l)[j * 2]? = some (.int .i64 l[j].1) ∧ (flatP l)[j * 2 + 1]? = some (.int .i64 l[j].2)
  | [], j, h => by simp at h
  | x :: l, 0, h => ⟨rfl, rfl⟩
  | x :: l, j + 1, h => by
    have := flatP_get l j (by simpa using h)
    simp only [flatP, show (j + 1) * 2 = j * 2 + 1 + 1 by omega, List.getElem?_cons_succ, List.getElem_cons_succ]
    exact this
theorem flatP_one (l : List (Int × Int)) : ∀ u ∈ flatP l, u.oneCell' = true := by
  induction l with
  | nil => intro u hu; cases hu
  | cons x l ih =>
    intro u hu
    simp only [flatP, List.mem_cons] at hu
    rcases hu with rfl | rfl | hu
    · rfl
    · rfl
    · exact ih u hu
theorem RowP.own {w : World} {G : Option Nat} {v : Value} {d : Array (Int × Int)} (h : RowP w G v d) : w.ownsRow 0 57 2 v d.size (flatP d.toList) := by
  refine ⟨by rw [flatP_length]; simp, ?_⟩
  rcases h with ⟨rfl, rfl, _⟩ | ⟨g, cap, cur, _, rfl, hg, h1, h2, h3, h4⟩
  · exact .inl ⟨rfl, rfl⟩
  · refine .inr ⟨g, cap, cur, rfl, Nat.zero_le _, hg, h1, h2, h3, ?_⟩
    apply List.ext_getElem?
    intro t
    rw [List.getElem?_take]
    by_cases ht : t < d.size * 2
    · rw [if_pos ht, Array.getElem?_toList]
      have hj : t / 2 < d.size := by omega
      obtain ⟨a, b⟩ := h4 (t / 2) hj
      obtain ⟨c, e⟩ := flatP_get d.toList (t / 2) (by simpa using hj)
      rw [getElem!_pos d _ hj] at a b
      have em : t = t / 2 * 2 ∨ t = t / 2 * 2 + 1 := by omega
      rcases em with em | em
      · rw [em, show t / 2 * 2 / 2 = t / 2 by omega] at *; rw [a, c]; simp
      · rw [em, show (t / 2 * 2 + 1) / 2 = t / 2 by omega] at *; rw [b, e]; simp
    · rw [if_neg ht, List.getElem?_eq_none (by rw [flatP_length]; simp; omega)]
theorem RowP.blk {w : World} {G : Option Nat} {v : Value} {d : Array (Int × Int)} (h : RowP w G v d) : v.ownBlock = G := by
  rcases h with ⟨rfl, rfl, rfl⟩ | ⟨g, cap, cur, rfl, rfl, _⟩ <;> rfl
theorem row_of_own {w : World} {base g n cap : Nat} {l : List (Int × Int)} (h : w.ownsRow base 57 2 (.slice (some ⟨g, 0, none⟩) n cap) n (flatP l)) (d : Array (Int × Int)) (hd : d.toList = l) :
    RowP w (some g) (.slice (some ⟨g, 0, none⟩) n cap) d ∧ n = d.size := by
  subst hd
  have hl : d.size = n := by have := h.1; rw [flatP_length] at this; simp at this; omega
  subst hl
  rcases h.2 with ⟨h0, _⟩ | ⟨g', cap', cur, hv, hb, hg, hnc, hcm, hcs, ht⟩
  · cases h0
  · cases hv
    refine ⟨.inr ⟨g, cap, cur, rfl, rfl, hg, hnc, hcm, hcs, fun j hj => ?_⟩, rfl⟩
    have key : ∀ t, t < d.size * 2 → cur[t]? = (flatP d.toList)[t]? := fun t h => by
      rw [← ht, List.getElem?_take, if_pos h, Array.getElem?_toList]
    obtain ⟨c, e⟩ := flatP_get d.toList j (by simpa using hj)
    rw [key _ (by omega), key _ (by omega), getElem!_pos d _ hj]
    simp at c e
    exact ⟨c, e⟩
theorem Try.infoPair : (Try.prog.info? 57).map (fun i => (i.zero, i.size, i.bytes)) = some (some (.agg #[.int .i64 0, .int .i64 0]), 2, 16) := by kernel_rfl

theorem Heap.push {d : Array (Int × Int)} (h : Heap d) (x : Int × Int) : Up (d.push x) d.size := by
  have get : ∀ t, t < d.size → (d.push x)[t]! = d[t]! := fun t ht => by
    rw [getElem!_pos (d.push x) t (by simp; omega), getElem!_pos d t ht, Array.getElem_push_lt]
  refine ⟨fun t h1 h2 hn => ?_, fun t h1 h2 he _ => ?_⟩
  · have h2' : t < d.size := by simp at h2; omega
    have hp : par t < t := by unfold par; omega
    rw [get t h2', get _ (by omega)]
    exact h t h1 h2'
  · have hp : par t < t := by unfold par; omega
    simp at h2
    omega
/-- A pile that holds the pairs L, told in their order. -/
def Pl (w : World) (b : Nat) (G : Option Nat) (most : Nat) (L : List (Int × Int)) : Prop :=
  ∃ d, PIs w b G most d ∧ Heap d ∧ d.toList.Perm L ∧ SortedP L ∧ L.length ≤ most ∧ most ≤ 65536
theorem Pl.kept {S : Nat → Prop} {w w' : World} {b : Nat} {G : Option Nat} {most : Nat} {L : List (Int × Int)} (h : Pl w b G most L) (k : Kept S w w') (hb : ¬ S b) (hg : ∀ g, G = some g → ¬ S g) : Pl w' b G most L := by
  obtain ⟨d, h1, h2⟩ := h
  exact ⟨d, h1.kept k hb hg, h2⟩
theorem Pl.lt {w : World} {b : Nat} {G : Option Nat} {most : Nat} {L : List (Int × Int)} (h : Pl w b G most L) : b < w.heap.size ∧ (∀ g, G = some g → g < w.heap.size) ∧ G ≠ some b ∧ L.length ≤ most ∧ most ≤ 65536 := by
  obtain ⟨d, h1, h2, h3, h4, h5, h6⟩ := h
  exact ⟨h1.lt.1, h1.lt.2, h1.1, h5, h6⟩
def NewP (most : Nat) (w : World) (e : Ending) (w' : World) : Prop :=
  ∃ b, w.heap.size ≤ b ∧ e = .returned (.tuple #[.pointer (some ⟨b, 0, none⟩), .int .i64 0]) ∧ Pl w' b none most [] ∧ Below w.heap.size w w'
theorem new_yes (most : Nat) (w : World) (h1 : most ≤ 65536) : Calls Try.prog 39 #[.int .i64 (most : Int)] w (NewP most w) := by
  go_enter Try.func39, Try.ntmps39
  go_wp2_with (first | (go_at_call 43; refine (isroom_yes _ _ (by omega) (by omega)).mono ?_; rintro e w' ⟨rfl, rfl⟩))
  go_ret2
  refine ⟨w.heap.size, by omega, rfl, ⟨#[], ⟨by simp, _, heap_alloc_new _ _, .inl ⟨rfl, rfl, rfl⟩⟩, fun t h1 h2 => by simp at h2, List.Perm.refl _, List.Pairwise.nil, by simp, h1⟩, (Below.refl _ _).alloc (Nat.le_refl _) _⟩
theorem new_no (n : Int) (w : World) (h : n < 0 ∨ 65536 < n) : Calls Try.prog 39 #[.int .i64 n] w fun e w' => e = .returned (.tuple #[.pointer none, .int .i64 1]) ∧ w = w' := by
  go_enter Try.func39, Try.ntmps39
  go_wp2_with (go_at_call 43; refine (isroom_no _ _ h).mono ?_; rintro e w' ⟨rfl, rfl⟩)
  go_ret2
  exact ⟨rfl, rfl⟩
theorem plen_any (b : Nat) (G : Option Nat) (most : Nat) (L : List (Int × Int)) (w : World) (h : Pl w b G most L) : Calls Try.prog 35 #[.pointer (some ⟨b, 0, none⟩)] w fun e w' => e = .returned (.int .i64 (L.length : Int)) ∧ w' = w := by
  obtain ⟨d, h1, h2, h3, h4, h5, h6⟩ := h
  have hl : L.length = d.size := by have := h3.length_eq; simpa using this.symm
  rw [hl]
  exact len_any b G most d w h1
def Pushed (b most : Nat) (G : Option Nat) (L : List (Int × Int)) (w : World) (e : Ending) (w' : World) : Prop :=
  ∃ G', e = .returned (.int .i64 0) ∧ Pl w' b G' most L ∧ Kept (fun i => i = b ∨ some i = G) w w' ∧ (G' = G ∨ ∃ k, G' = some k ∧ w.heap.size ≤ k)
set_option maxHeartbeats 2000000 in
theorem push_yes (b : Nat) (G : Option Nat) (most : Nat) (L : List (Int × Int)) (x : Int × Int) (w : World) (h : Pl w b G most L) (hm : L.length < most) :
    Calls Try.prog 37 #[.pointer (some ⟨b, 0, none⟩), .agg #[.int .i64 x.1, .int .i64 x.2]] w (Pushed b most G (insP x L) w) := by
  obtain ⟨d, hp, hh, hperm, hso, hlm, hmo⟩ := h
  have hl : d.size = L.length := by have := hperm.length_eq; simpa using this
  have hd : d.size < most := by omega
  have H := Lib.hid hp
  obtain ⟨hn, v, hb, hv⟩ := hp
  obtain ⟨ao, cap, rfl⟩ := hv.len
  have c0 := cell_whole hb 0
  have c2 := cell_whole hb 2
  simp at c0 c2
  have f2 := frozen_whole hb 2
  have hbs := lt_whole hb
  have HB := Lib.hid hb
  have HV := Lib.hid hv
  have HN := Lib.hid hn
  have HH := Lib.hid hh
  have HPM := Lib.hid hperm
  have HSO := Lib.hid hso
  have HLL := Lib.hid hl
  have hdd : decide (most ≤ d.size) = false := decide_eq_false (by omega)
  clear hn hb hv hh hperm hso hl
  obtain ⟨i0, hi0, hz0, hz1, hz2⟩ := info_parts Try.infoPair
  have HI := Lib.hid (And.intro hi0 (And.intro hz0 (And.intro hz1 hz2)))
  clear hi0 hz0 hz1 hz2
  go_enter Try.func37, Try.ntmps37
  go_wp2
  generalize hw1 : w.alloc (.cells #[.int .i64 x.1, .int .i64 x.2] 57) = w1
  have hbel : Below w.heap.size w w1 := hw1 ▸ (Below.refl _ w).alloc (Nat.le_refl _) _
  have hx1 : w1.heap[w.heap.size]? = some (.cells #[.int .i64 x.1, .int .i64 x.2] 57 (0, 0)) := hw1 ▸ heap_alloc_new w _
  have H1 := Lib.hid (H.out.below hbel)
  have d0 : w1.cell? ⟨b, 0, none⟩ = some (.int .i64 (most : Int)) := (hbel.cell (p := ⟨b, 0, none⟩) hbs).trans c0
  have HW1 := Lib.hid hw1
  have HBEL := Lib.hid hbel
  have HX1 := Lib.hid hx1
  clear hw1 c0 hbel hx1
  go_quiet ((go_at_call 35; exact Calls.quiet_of_same (len_any b G most d _ H1.out)))
  go_wp2
  clear d0
  generalize hwq : w1.drewN nq = wq
  have hbq : Below w.heap.size w wq := hwq ▸ ⟨HBEL.out.os, HBEL.out.tape, HBEL.out.output, HBEL.out.size, HBEL.out.block⟩
  have xq : wq.heap[w.heap.size]? = some (.cells #[.int .i64 x.1, .int .i64 x.2] 57 (0, 0)) := hwq ▸ HX1.out
  have q2 : wq.cell? ⟨b, 2, none⟩ = some (.slice ao d.size cap) := (hbq.cell (p := ⟨b, 2, none⟩) hbs).trans c2
  have qb : wq.heap[b]? = some (.cells #[.int .i64 (most : Int), .func (.func 50) #[] #[], .slice ao d.size cap] 75 (0, 0)) := (hbq.block b hbs).trans HB.out
  have fq := frozen_whole qb 2
  have x0 := cell_whole xq 0
  have x1 := cell_whole xq 1
  simp at x0 x1
  have hsq := lt_whole xq
  have hrq := HV.out.kept (Kept.of_below (S := fun _ => False) hbq) (fun _ _ h => h)
  have OWN := Lib.hid hrq.own
  have HBLK := Lib.hid hrq.blk
  have HRQ := Lib.hid hrq
  have HBQ := Lib.hid hbq
  have HQB := Lib.hid qb
  have HWQ := Lib.hid hwq
  have HXQ := Lib.hid xq
  clear hwq hbq qb xq hrq c2 f2 hdd
  have q2a : (wq.alloc (.cells #[.int .i64 x.1, .int .i64 x.2] 57)).cell? ⟨b, 2, none⟩ = some (.slice ao d.size cap) := by
    have h := cell_whole (alloc_whole HQB.out (.cells #[.int .i64 x.1, .int .i64 x.2] 57)) 2
    simpa using h
  have hne : b ≠ w.heap.size := by omega
  have hne2 : b ≠ wq.heap.size := by omega
  have hne3 : wq.heap.size ≠ b := by omega
  go_region_law ((refine step_append_lies _ (by rfl) _ _ _ (by rfl) 0 57 i0 _ 2 16 Try.underlying73 HI.out.1 HI.out.2.1 HI.out.2.2.1 HI.out.2.2.2 rfl (by omega) (.slice ao d.size cap) d.size (flatP d.toList) (by rfl) ((OWN.out.alloc _).drew) ⟨wq.heap.size, 0, none⟩ 1 1 [.int .i64 x.1, .int .i64 x.2] (by rfl) (by rfl) (World.news_of_block (cs := #[.int .i64 x.1, .int .i64 x.2]) (t := 57) (fr := (0, 0)) (heap_alloc_new wq _)) (by simp [Value.oneCell']) (by omega) (by unfold maxLen; omega) (by omega) (by omega) (wq.heap.size + 1) (by simp) ?_; intro gg cap2 w2 hown2 hgrow hat hlt; have hk2 : Kept (fun i => some i = G) wq w2 := (((Kept.refl (fun i => some i = G) wq).alloc _).drew).trans (Kept.of_grown (S := fun i => some i = G) hgrow (fun k hk => (hk.symm.trans HBLK.out))) (fun _ _ h => h); have qb2 := hk2.old HQB.out (fun e => HN.out e.symm); have q22 := cell_whole qb2 2; simp at q22; have fq2 := frozen_whole qb2 2; have HQB2 := Lib.hid qb2; have HOWN2 := Lib.hid hown2; have HK2 := Lib.hid hk2; have HAT := Lib.hid hat; clear qb2 hown2 hk2 hat hgrow))
  all_goals
    have hgb : gg ≠ b := by
      rcases HAT.out with h | h
      · intro e; rw [HBLK.out, e] at h; exact HN.out h
      · omega
    have hGG : some gg = G ∨ w.heap.size ≤ gg := by
      rcases HAT.out with h | h
      · left; rw [← h]; exact HBLK.out
      · right; omega
    have hro := (row_of_own (l := d.toList ++ [x]) (by rw [flatP_append]; exact HOWN2.out) (d.push x) (by simp)).1
    have hp3 : PIs (w2.setCell ⟨b, 2, none⟩ (.slice (some ⟨gg, 0, none⟩) (d.size + 1) cap2)) b (some gg) most (d.push x) :=
      ⟨fun e => hgb (Option.some.inj e), _, set_whole HQB2.out _ _, hro.kept ((Kept.refl (fun i => i = b) w2).set (.inl rfl) _) (fun g hg e => hgb (by rw [← e]; exact Option.some.inj hg))⟩
    have hk3 : Kept (fun i => i = b ∨ some i = G) w (w2.setCell ⟨b, 2, none⟩ (.slice (some ⟨gg, 0, none⟩) (d.size + 1) cap2)) :=
      ((Kept.of_below HBQ.out).trans HK2.out (fun i _ h => .inr h)).set (.inl (.inl rfl)) _
    have HP3 := Lib.hid hp3
    have HK3 := Lib.hid hk3
    have HUP := Lib.hid (HH.out.push x)
    have HGG := Lib.hid hGG
    have hps : (d.push x).size ≤ 65536 := by simp; omega
    clear hro hp3 hk3 hGG
    go_wp2_with (first | (go_at_call 35; refine (len_any b (some gg) most (d.push x) _ HP3.out).mono ?_; rintro e w' ⟨rfl, rfl⟩) | (go_at_call 49; refine (rise_any b (some gg) most (d.push x) d.size _ _ HP3.out HUP.out (by simp) (by simp) hps).mono ?_; rintro e w4 ⟨d', rfl, hp4, hh4, hm4, hk4⟩; have HP4 := Lib.hid hp4; have HH4 := Lib.hid hh4; have HM4 := Lib.hid hm4; have HK4 := Lib.hid (HK3.out.trans hk4 (fun i hi h => by have h := Option.some.inj h; subst h; rcases HGG.out with e | e; exact .inr e; omega)); clear hp4 hh4 hm4 hk4))
    go_ret
    refine ⟨some gg, rfl, ⟨d', HP4.out, HH4.out, ?_, insP_sorted x L HSO.out, by rw [insP_length]; omega, hmo⟩, HK4.out, ?_⟩
    · refine HM4.out.trans ?_
      rw [Array.toList_push]
      exact (List.perm_append_singleton x d.toList).trans ((HPM.out.cons x).trans (insP_perm x L).symm)
    · rcases HGG.out with e | e
      · exact .inl e
      · exact .inr ⟨gg, rfl, e⟩
end Go.Proofs.Ytfnafdjcncgcnaa
