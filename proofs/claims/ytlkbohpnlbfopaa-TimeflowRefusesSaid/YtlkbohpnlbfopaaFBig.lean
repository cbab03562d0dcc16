/- Package table's Moves for up to 20000 movements. -/
import Derived.Test.YtlkbohpnlbfopaaBS
import Derived.LoopTactic
import Derived.Carry
import Derived.OwnWalk
import Derived.Maps.AppendAt
namespace Go.Proofs.Ytlkbohpnlbfopaa
open Go.RowKit Go.Sort Go.Shelf
set_option linter.unusedVariables false
set_option maxRecDepth 100000 in
set_option maxHeartbeats 8000000 in
theorem moves1_big (i p : Nat) (ao : Option Addr) (cap : Nat) (Z : List (Int × Int × Int)) (w : World) (hp : w.cell? ⟨p, 0, none⟩ = some (.slice ao Z.length cap)) (h : Row encK 3 w ao Z) (hi : i < Z.length) (hs : Z.length ≤ 20000) :
    Calls Try.prog 70 #[.int .i64 (i : Int), .pointer (some ⟨p, 0, none⟩)] w fun e w' => e = .returned (.agg (encPQ (Z[i].2.1, Z[i].1)).toArray) ∧ Below w.heap.size w w' := by
  obtain ⟨b, o, rfl, hb, c0, c1, c2⟩ := h.tri hi
  obtain ⟨⟨x, y, u⟩, hx⟩ : ∃ x, Z[i] = x := ⟨_, rfl⟩
  rw [hx] at c0 c1 c2
  rw [hx]
  have hpb := block_lt_of_cell hp
  have hli : (i : Int) < (Z.length : Int) := by omega
  have hp' := cell_allocQ hp (.cells #[.int .i64 0, .int .i64 0] 137)
  have a' := cell_allocQ c1 (.cells #[.int .i64 0, .int .i64 0] 137)
  have b' := cell_allocQ c0 (.cells #[.int .i64 0, .int .i64 0] 137)
  have g0 := cell_new w #[.int .i64 0, .int .i64 0] 137 0
  have g1 := cell_new w #[.int .i64 0, .int .i64 0] 137 1
  have hn := heap_alloc_new w (.cells #[.int .i64 0, .int .i64 0] 137)
  have f0 := frozen_whole hn 0
  have f1 := frozen_whole hn 1
  have hb1 := (Below.refl _ w).alloc (Nat.le_refl _) (.cells #[.int .i64 0, .int .i64 0] 137)
  have G0 : Hid ((w.alloc (.cells #[.int .i64 0, .int .i64 0] 137)).cell? ⟨w.heap.size, 0, none⟩ = some (.int .i64 0)) := Lib.hid g0
  have G1 : Hid ((w.alloc (.cells #[.int .i64 0, .int .i64 0] 137)).cell? ⟨w.heap.size, 1, none⟩ = some (.int .i64 0)) := Lib.hid g1
  have HN := Lib.hid hn
  have HB1 := Lib.hid hb1
  clear h hx hp c0 c1 c2 g0 g1 hn hb1
  go_enter Try.func70, Try.ntmps70
  go_wp2
  have g0 := G0.out
  have g1 := G1.out
  clear G0 G1
  generalize w.alloc (.cells #[.int .i64 0, .int .i64 0] 137) = w1 at *
  refine wp_region_still_tail 11 (by kernel_rfl) (by kernel_rfl) ?_
  change wpStill _ _ w1.drew _ _ _
  simp only [List.take_succ_cons, List.take_zero, List.drop_succ_cons, List.drop_zero]
  repeat still_step
  refine wpStill_nil ?_
  change wpList _ _ _ _ _ w1.drew
  have HN2 : Hid (w1.drew.heap[w.heap.size]? = some (.cells #[.int .i64 0, .int .i64 0] 137)) := Lib.hid HN.out
  have HB2 : Hid (Below w.heap.size w w1.drew) := Lib.hid ⟨HB1.out.os, HB1.out.tape, HB1.out.output, HB1.out.size, HB1.out.block⟩
  have g0' : w1.drew.cell? ⟨w.heap.size, 0, none⟩ = some (.int .i64 0) := g0
  have g1' : w1.drew.cell? ⟨w.heap.size, 1, none⟩ = some (.int .i64 0) := g1
  have f0' : w1.drew.frozen? ⟨w.heap.size, 0, none⟩ = false := f0
  have f1' : w1.drew.frozen? ⟨w.heap.size, 1, none⟩ = false := f1
  generalize w1.drew = w2 at *
  clear HN HB1 hp' a' b' g0 g1 f0 f1
  go_wp2
  have q := set_whole (set_whole HN2.out 0 (.int .i64 y)) 1 (.int .i64 x)
  have q0 := cell_whole q 0
  have q1 := cell_whole q 1
  simp only [setArr20, setArr21] at q0 q1
  have hb3 := (HB2.out.setCell (p := ⟨w.heap.size, 0, none⟩) (Nat.le_refl _) (.int .i64 y)).setCell (p := ⟨w.heap.size, 1, none⟩) (Nat.le_refl _) (.int .i64 x)
  clear q
  generalize (w2.setCell ⟨w.heap.size, 0, none⟩ (.int .i64 y)).setCell ⟨w.heap.size, 1, none⟩ (.int .i64 x) = w3 at *
  exact bodyPost_ret (v := .agg #[.int .i64 y, .int .i64 x]) (by simp [results, Try.results70, go_sem, q0, q1]) rfl ⟨rfl, hb3⟩
set_option maxRecDepth 100000 in
set_option maxHeartbeats 8000000 in
theorem moves2_big (i p : Nat) (ao : Option Addr) (cap : Nat) (Z : List (Int × Int × Int)) (w : World) (hp : w.cell? ⟨p, 0, none⟩ = some (.slice ao Z.length cap)) (h : Row encK 3 w ao Z) (hi : i < Z.length) (hs : Z.length ≤ 20000) :
    Calls Try.prog 72 #[.int .i64 (i : Int), .pointer (some ⟨p, 0, none⟩)] w fun e w' => e = .returned (.int .i64 Z[i].2.2) ∧ Below w.heap.size w w' := by
  obtain ⟨b, o, rfl, hb, c0, c1, c2⟩ := h.tri hi
  generalize Z[i] = x at *
  have hli : (i : Int) < (Z.length : Int) := by omega
  clear h
  go_enter Try.func72, Try.ntmps72
  go_wp2
  go_ret
  exact ⟨rfl, Below.refl _ _⟩
set_option maxRecDepth 100000 in
set_option maxHeartbeats 8000000 in
theorem gatherp_big (K : Nat) (cp : Array Value) (L : List (Int × Int)) (w : World) (hL : ∀ x ∈ L, okP x) (hn : L.length ≤ 20000) (hen : ∀ args w, (callFunc K args).run Try.prog w = .ok (.enter K args) w)
    (hclo : ∀ i (hi : i < L.length) W, Below w.heap.size w W → Calls Try.prog K (#[.int .i64 (i : Int)] ++ cp) W fun e W' => e = .returned (.agg (encPQ L[i]).toArray) ∧ Below W.heap.size W W') :
    Calls Try.prog 69 #[.int .i64 (L.length : Int), .func (.func K) #[] cp] w (Gat 137 encPQ 2 w L) := by
  have HC := Lib.hid hclo
  have HL := Lib.hid hL
  clear hclo hL
  have hmm := @run_makeMap Try.prog
  go_enter Try.func69, Try.ntmps69
  go_wp2
  have H0 : Hid (∃ vs own, GIx 137 encPQ 2 w (w.alloc (.map #[] 0)) w.heap.size (.slice none 0 0) (.slice none 0 0) (firsts (L.take 0)) (firsts (L.take 0)) (grps (L.take 0)) vs own) := Lib.hid (GIx.start w)
  generalize w.alloc (.map #[] 0) = w1 at H0 ⊢
  generalize hB : w.heap.size = B at H0 ⊢
  have HB := Lib.hid hB
  clear hB
  go_loopw [4, 5, 13] (fun ks gs si wr => ∃ (t : Nat), t ≤ L.length ∧ Hid (∃ vs own, GIx 137 encPQ 2 w wr B ks gs (firsts (L.take t)) (firsts (L.take t)) (grps (L.take t)) vs own) ∧ si = .int .i64 (t : Int)) (fun _ _ si _ => L.length - (intOf si).toNat)
  case atStart => exact ⟨0, by omega, H0, rfl⟩
  case round =>
    clear H0
    obtain ⟨t, ht, HG, rfl⟩ := hrel
    by_cases hlt : t < L.length
    · have hli : (t : Int) < (L.length : Int) := by omega
      obtain ⟨vs, own, hG⟩ := HG.out
      obtain ⟨⟨a, b⟩, hx⟩ : ∃ x, L[t] = x := ⟨_, rfl⟩
      have hok : okP (a, b) := hx ▸ HL.out _ (List.getElem_mem hlt)
      obtain ⟨kl, hkl⟩ := keyOf_arr hok
      have HKL := Lib.hid hkl
      have HCT : Hid (Calls Try.prog K (#[.int .i64 (t : Int)] ++ cp) wr fun e W' => e = .returned (.agg #[.int .i64 a, .int .i64 b]) ∧ Below wr.heap.size wr W') := Lib.hid (by have := HC.out t hlt wr hG.below; rw [hx] at this; exact this)
      have HT : Hid (L.take (t + 1) = L.take t ++ [(a, b)]) := Lib.hid (by rw [take_snoc L hlt, hx])
      have hfl := firsts_len (L.take t)
      have htl : (L.take t).length = t := by simp; omega
      have HTL := Lib.hid htl
      have hfl2 : (firsts (L.take t)).length ≤ 20000 := by omega
      have HGX := Lib.hid hG
      clear hG hkl hx htl hfl HG hok
      have hgl : (grps (L.take t)).length = (firsts (L.take t)).length := grps_len _
      have HGL := Lib.hid hgl
      clear hgl
      by_cases hmem : (a, b) ∈ firsts (L.take t)
      · have HM := Lib.hid hmem
        have h0 : 0 < (grps (L.take t)).length := by rw [HGL.out]; exact List.length_pos_of_mem hmem
        obtain ⟨g, cap, egs, _⟩ := HGX.out.slot h0
        subst egs
        clear hmem
        go_wp2_with fail
        refine HCT.out.mono ?_
        rintro e w2 ⟨rfl, hb2⟩
        have HG2 := Lib.hid ((HGX.out.step hb2).step ((Below.refl _ w2).alloc (Nat.le_refl _) (.cells #[.int .i64 a, .int .i64 b] 137)))
        clear hb2 HGX HCT
        go_wp2_with (first
          | (at_lookup; refine wpList_look_yes lawArr Try.underlying152 rfl _ _ rfl B (firsts (L.take t)) (a, b) HG2.out.map HM.out kl HKL.out rfl rfl ?_; intro j hj; have hjl : j < (grps (L.take t)).length := (by rw [HGL.out]; exact (List.getElem?_eq_some_iff.1 hj).1); obtain ⟨g', cap', e', hc, hf, _, _⟩ := HG2.out.slot hjl; cases e'; have hroom : (natI (placesQ (L.take t) (a, b))).length ≤ 200000 := (by rw [natI_len]; have := places_lenQ (L.take t) (a, b); rw [HTL.out] at this; omega); have HJ := Lib.hid hj; clear hj hf; obtain ⟨v, hv⟩ : ∃ v, vs.getD j nilS = v := ⟨_, rfl⟩; rw [hv] at hc; have HG3 := Lib.hid (HG2.out.step ((Below.refl _ (w2.alloc (.cells #[.int .i64 a, .int .i64 b] 137))).alloc (Nat.le_refl _) (.cells #[.int .i64 (t : Int)] 3))); have hin := HG3.out.inn j hjl; rw [hv, grps_getD HJ.out] at hin; have HIN := Lib.hid hin; have HV := Lib.hid hv; clear hv hin)
          | (at_builtin; refine wpList_append_row (enc := encIQ) Try.underlying65 infoInt rfl (by omega) (by omega) encI_len rfl _ _ rfl w.heap.size v (natI (placesQ (L.take t) (a, b))) (t : Int) (encI_one _) rfl HIN.out _ 1 rfl (fun i hi => by obtain rfl : i = 0 := (by omega); exact cell_new' (by simp) _ _ 0) hroom HG3.out.below.size ?_; intro p cap4 w4 ho4 hg4 hl4 hb4 hlt4; obtain ⟨hc4, hf4, own4, hG4⟩ := HG3.out.add hjl rfl (t := t) (by rw [grps_getD HJ.out, natI_snoc]; exact ho4) (by rw [HV.out]; exact hg4) (by rw [HV.out]; exact hl4) hb4; have HG4 := Lib.hid hG4; clear hG4 ho4 hg4 hl4 HG3 HIN hc; rw [HV.out] at hc4))
        go_roundw
        case rel => exact ⟨t + 1, by omega, Lib.hid ⟨_, own4, by
          have h := HG4.out
          rw [HT.out, firsts_old (mem_firsts.1 HM.out), grps_old HJ.out, HTL.out]
          rw [grps_getD HJ.out] at h
          exact h⟩, by go_num⟩
        case measure => simp [intOf]; omega
      · have HM := Lib.hid hmem
        obtain ⟨ka, kcap, rfl, _, _⟩ := own_rowQ encP_lenQ HGX.out.kr
        obtain ⟨ga, gcap, rfl, _, _⟩ := own_rowQ encV_len HGX.out.gr
        clear hmem
        go_wp2_with fail
        refine HCT.out.mono ?_
        rintro e w2 ⟨rfl, hb2⟩
        have HG2 := Lib.hid ((HGX.out.step hb2).step ((Below.refl _ w2).alloc (Nat.le_refl _) (.cells #[.int .i64 a, .int .i64 b] 137)))
        have kc0 := cell_new w2 #[.int .i64 a, .int .i64 b] 137 0
        have kc1 := cell_new w2 #[.int .i64 a, .int .i64 b] 137 1
        have hwo := heap_alloc_new w2 (.cells #[.int .i64 a, .int .i64 b] 137)
        have hBl := (HGX.out.step hb2).map.lt
        have HWO := Lib.hid hwo
        have hvl : vs.length = (firsts (L.take t)).length := by rw [HG2.out.len, HGL.out]
        have hv200 : vs.length ≤ 200000 := by omega
        have hidx : (firsts (L.take t)).length < vs.length + 1 := by omega
        have HVL := Lib.hid hvl
        clear hb2 HGX HCT hwo hvl kc0 kc1
        go_wp2_with (first
          | (at_lookup; refine wpList_look_no lawArr Try.underlying152 rfl _ _ rfl B (firsts (L.take t)) (a, b) HG2.out.map HM.out kl HKL.out rfl rfl ?_)
          | (at_mapUpdate; refine wpList_store_key lawArr Try.underlying152 encP_inj rfl _ _ _ rfl B (firsts (L.take t)) (a, b) HG2.out.map HM.out (by omega) kl HKL.out rfl rfl rfl ?_; intro w3 hm3 hg3; have hkb := (hg3.block w2.heap.size (by simp) (by simp; omega)).trans HWO.out; have kc0 := cell_whole hkb 0; have kc1 := cell_whole hkb 1; simp at kc0 kc1; have HG3 := Lib.hid ((HG2.out.store hm3 hg3).step ((Below.refl _ w3).alloc (Nat.le_refl _) (.cells #[.int .i64 a, .int .i64 b] 137))); clear hm3 hg3 hkb HG2)
          | (at_builtin; refine wpList_append_row (enc := encPQ) Try.underlying134 infoArr rfl (by omega) (by omega) encP_lenQ rfl _ _ rfl w.heap.size _ (firsts (L.take t)) (a, b) (encP_oneQ _) rfl HG3.out.kr _ 1 rfl (fun i hi => cell_newL rfl (encPQ (a, b)) 137 i) (by omega) HG3.out.below.size ?_; intro gk capk w4 ho4 hg4 hl4 hb4 hlt4; obtain ⟨own4, hG4⟩ := HG3.out.key ho4 hg4 hl4 hb4; have HG4 := Lib.hid (hG4.step ((Below.refl _ w4).alloc (Nat.le_refl _) (.cells #[.slice none 0 0] 65))); clear hG4 ho4 hg4 hl4 HG3)
          | (at_builtin; refine wpList_append_row (enc := encVQ) Try.underlying74 infoInts rfl (by omega) (by omega) encV_len rfl _ _ rfl w.heap.size _ vs nilS (by intro u hu; simp [encVQ] at hu; subst hu; rfl) rfl HG4.out.gr _ 1 rfl (fun i hi => cell_newL rfl (encVQ nilS) 65 i) hv200 HG4.out.below.size ?_; intro gg capg w5 ho5 hg5 hl5 hb5 hlt5; obtain ⟨own5, hG5⟩ := HG4.out.group ho5 hg5 hl5 hb5; have hc := (hG5.cell (j := (firsts (L.take t)).length) (by simp [HGL.out]) rfl).1; rw [getD_end _ _ _ HVL.out] at hc; unfold nilS at hc; have HG5 := Lib.hid (hG5.step ((Below.refl _ w5).alloc (Nat.le_refl _) (.cells #[.int .i64 (t : Int)] 3))); clear hG5 ho5 hg5 hl5 HG4)
          | (at_builtin; refine wpList_append_row (enc := encIQ) Try.underlying65 infoInt rfl (by omega) (by omega) encI_len rfl _ _ rfl w.heap.size _ [] (t : Int) (encI_one _) rfl (World.ownsRow_nil _ _ _ _) _ 1 rfl (fun i hi => cell_newL rfl (encIQ (t : Int)) 3 i) (by simp) HG5.out.below.size ?_; intro p cap6 w6 ho6 hg6 hl6 hb6 hlt6; obtain ⟨hc6, hf6, own6, hG6⟩ := HG5.out.add (j := (firsts (L.take t)).length) (by simp [HGL.out]) rfl (t := t) (by rw [getD_end _ _ _ HGL.out]; exact ho6) (by rw [getD_end _ _ _ HVL.out]; exact hg6) (by rw [getD_end _ _ _ HVL.out]; exact hl6) hb6; have HG6 := Lib.hid hG6; clear hG6 ho6 hg6 hl6 HG5 hc; rw [getD_end _ _ _ HVL.out] at hc6; unfold nilS at hc6))
        go_roundw
        case rel => exact ⟨t + 1, by omega, Lib.hid ⟨_, own6, by
          have h := HG6.out
          have hnm : (a, b) ∉ L.take t := fun h => HM.out (mem_firsts.2 h)
          rw [HT.out, firsts_new hnm, grps_new hnm, HTL.out]
          rw [getD_end _ _ _ HGL.out, set_end _ _ _ HGL.out] at h
          exact h⟩, by go_num⟩
        case measure => simp [intOf]; omega
    · obtain rfl : t = L.length := by omega
      obtain ⟨vs, own, hG⟩ := HG.out
      rw [List.take_length] at hG
      have HG2 := Lib.hid hG
      clear hG HG
      go_wp2
      go_ret2
      exact ⟨_, _, vs, own, B, rfl, HG2.out⟩
set_option maxRecDepth 100000 in
set_option maxHeartbeats 8000000 in
theorem sums_some_big (K : Nat) (cp : Array Value) (ad : Addr) (gcap : Nat) (G : List (List Nat)) (f : Nat → Int) (w : World) (hG : GRowQ w (some ad) G) (hn : G.length ≤ 20000) (hm : ∀ g ∈ G, g.length ≤ 20000) (hen : ∀ args w, (callFunc K args).run Try.prog w = .ok (.enter K args) w)
    (hclo : ∀ g ∈ G, ∀ i ∈ g, ∀ W, Below w.heap.size w W → Calls Try.prog K (#[.int .i64 (i : Int)] ++ cp) W fun e W' => e = .returned (.int .i64 (f i)) ∧ Below W.heap.size W W') (hf : ∀ g ∈ G, ∀ i ∈ g, in64 (f i)) :
    Calls Try.prog 71 #[.slice (some ad) G.length gcap, .func (.func K) #[] cp] w (SumsRes (tots f G) w) := by
  have HG := Lib.hid hG
  have HM := Lib.hid hm
  have HC := Lib.hid hclo
  have HF := Lib.hid hf
  clear hG hm hclo hf
  go_enter Try.func71, Try.ntmps71
  go_wp2_with (at_make; refine wpList_make_row Try.underlying65 infoInt (by omega) encIQ rfl _ _ rfl w.heap.size G.length rfl rfl (by omega) (Nat.le_refl _) ?_; intro w1 ho1 hb1; have HO1 := Lib.hid ho1; have HB1 := Lib.hid hb1; clear ho1 hb1)
  go_loopw [6, 19] (fun tot si wr => ∃ (i : Nat), i ≤ G.length ∧ Hid (Below w.heap.size w wr) ∧ Hid (wr.ownsRow w.heap.size 3 1 tot ((tots f G).take i).length (((tots f G).take i).flatMap encIQ)) ∧ Hid (AllIn ((tots f G).take i)) ∧ si = .int .i64 (i : Int)) (fun _ si _ => G.length - (intOf si).toNat)
  case atStart => exact ⟨0, by omega, HB1, HO1, Lib.hid (fun s hs => by simp at hs), rfl⟩
  case round =>
    clear HO1 HB1
    obtain ⟨i, hi, HB, HO, HA, rfl⟩ := hrel
    obtain ⟨wo, hwo⟩ : ∃ wo, wo = wr := ⟨_, rfl⟩
    subst hwo
    by_cases hlt : i < G.length
    · have hli : (i : Int) < (G.length : Int) := by omega
      obtain ⟨gb, go, ao, cap, e, hgb, hgc, hrow⟩ := (HG.out.below' HB.out) i hlt
      cases e
      obtain ⟨g, hg⟩ : ∃ g, G[i] = g := ⟨_, rfl⟩
      rw [hg] at hgc hrow
      have hgm : g ∈ G := hg ▸ List.getElem_mem hlt
      have hgl := HM.out g hgm
      have HGM := Lib.hid hgm
      have HGE := Lib.hid hg
      have HR := Lib.hid hrow
      clear hg hgm hrow
      go_wp2_with (at_make; refine wpList_make_row Try.underlying65 infoInt (by omega) encIQ rfl _ _ rfl wo.heap.size g.length rfl rfl (by omega) (Nat.le_refl _) ?_; intro w2 ho2 hb2; have HO2 := Lib.hid ho2; have HB2 := Lib.hid hb2; clear ho2 hb2)
      go_loopw [9, 28] (fun am sj wi => ∃ (j : Nat), j ≤ g.length ∧ Hid (Below wo.heap.size wo wi) ∧ Hid (wi.ownsRow wo.heap.size 3 1 am ((g.take j).map f).length (((g.take j).map f).flatMap encIQ)) ∧ sj = .int .i64 (j : Int)) (fun _ sj _ => g.length - (intOf sj).toNat)
      case atStart => exact ⟨0, by omega, HB2, HO2, rfl⟩
      case round =>
        clear HO2 HB2
        obtain ⟨j, hj, HBi, HOi, rfl⟩ := hrel
        by_cases hlj : j < g.length
        · have hljI : (j : Int) < (g.length : Int) := by omega
          obtain ⟨b2, o2, e2, hb2, hc2⟩ := (HR.out.below' HBi.out).num (i := j) (by rw [natI_len]; exact hlj)
          cases e2
          obtain ⟨p, hp⟩ : ∃ p, g[j] = p := ⟨_, rfl⟩
          have hpm : p ∈ g := hp ▸ List.getElem_mem hlj
          have hcv : (natI g)[j]'(by rw [natI_len]; exact hlj) = (p : Int) := by simp [natI, hp]
          rw [hcv] at hc2
          have HBw : Hid (Below w.heap.size w wr) := Lib.hid (HB.out.trans (HBi.out.mono HB.out.size))
          have HCT := Lib.hid (HC.out g HGM.out p hpm wr HBw.out)
          have htk : (g.take (j + 1)).map f = (g.take j).map f ++ [f p] := by rw [take_snoc g hlj, hp, List.map_append]; rfl
          have hroom : ((g.take j).map f).length ≤ 200000 := by simp; omega
          generalize (g.take j).map f = A at *
          have HTK := Lib.hid htk
          clear hp hpm hcv htk
          go_wp2_with fail
          refine HCT.out.mono ?_
          rintro e w3 ⟨rfl, hb3⟩
          have HO3 := Lib.hid ((own_belowQ HOi.out hb3).alloc (.cells #[.int .i64 (f p)] 3))
          have HB3 := Lib.hid ((HBi.out.trans (hb3.mono HBi.out.size)).alloc (Nat.le_trans HBi.out.size hb3.size) (.cells #[.int .i64 (f p)] 3))
          clear hb3 HCT HOi HBi
          go_wp2_with (at_builtin; refine wpList_append_row (enc := encIQ) Try.underlying65 infoInt rfl (by omega) (by omega) encI_len rfl _ _ rfl wo.heap.size _ A (f p) (encI_one _) rfl HO3.out _ 1 rfl (fun i hi => cell_newL rfl (encIQ (f p)) 3 i) hroom HB3.out.size ?_; intro g4 cap4 w4 ho4 hg4 hl4 hb4 hlt4; have HO4 := Lib.hid ho4; have HB4 := Lib.hid (HB3.out.grown hg4 HB3.out.size (fun k hk => (HO3.out.lt k hk).1)); clear ho4 hg4 hl4)
          go_roundw
          case rel => exact ⟨j + 1, by omega, HB4, Lib.hid (by rw [HTK.out]; exact HO4.out), by go_num⟩
          case measure => simp [intOf]; omega
        · obtain rfl : j = g.length := by omega
          rw [List.take_length] at HOi
          have HIN : Hid (In64Q (g.map f)) := Lib.hid (fun z hz => by obtain ⟨q, hq, rfl⟩ := List.mem_map.1 hz; exact HF.out g HGM.out q hq)
          have hgl2 : (g.map f).length ≤ 20000 := by simpa using hgl
          have HBw : Hid (Below w.heap.size w wr) := Lib.hid (HB.out.trans (HBi.out.mono HB.out.size))
          have HOw := Lib.hid (own_belowQ HO.out HBi.out)
          have htt : (tots f G).take (i + 1) = (tots f G).take i ++ [(g.map f).sum] := by
            rw [take_snoc _ (by rw [tots_len]; exact hlt)]; congr 1; simp [tots, HGE.out]
          have hroom : ((tots f G).take i).length ≤ 200000 := by rw [List.length_take, tots_len]; omega
          clear HBi HO HB
          generalize g.map f = A at *
          generalize (tots f G).take i = T at *
          have HTT := Lib.hid htt
          obtain ⟨aa, ac, rfl, har, haf⟩ := own_rowQ encI_len HOi.out
          have HRI := Lib.hid (ri_of_row har)
          clear har haf HOi htt
          by_cases hfit : in64 A.sum
          · have HFT := Lib.hid (fitR_yes hfit)
            have HFI := Lib.hid hfit
            clear hfit
            go_wp2_with (first
              | (go_at_call 79; refine (sum_any aa _ ac A _ rfl HRI.out HIN.out (by omega)).mono ?_; rintro e w3 ⟨rfl, rfl⟩; rw [HFT.out]; have HO3 := Lib.hid (HOw.out.alloc (.cells #[.int .i64 A.sum] 3)); have HB3 := Lib.hid (HBw.out.alloc HBw.out.size (.cells #[.int .i64 A.sum] 3)))
              | (at_builtin; refine wpList_append_row (enc := encIQ) Try.underlying65 infoInt rfl (by omega) (by omega) encI_len rfl _ _ rfl w.heap.size _ T A.sum (encI_one _) rfl HO3.out _ 1 rfl (fun i hi => cell_newL rfl (encIQ A.sum) 3 i) hroom HB3.out.size ?_; intro g4 cap4 w4 ho4 hg4 hl4 hb4 hlt4; have HO4 := Lib.hid ho4; have HB4 := Lib.hid (HB3.out.grown hg4 HB3.out.size (fun k hk => (HO3.out.lt k hk).1)); clear ho4 hg4 hl4))
            go_roundw
            case rel => exact ⟨i + 1, by omega, HB4, Lib.hid (by rw [HTT.out]; exact HO4.out), Lib.hid (by
              rw [HTT.out]; intro s hs
              rcases List.mem_append.1 hs with hs | hs
              · exact HA.out s hs
              · simp at hs; rw [hs]; exact HFI.out), by go_num⟩
            case measure => simp [intOf]; omega
          · have HFT := Lib.hid (fitR_no hfit)
            have HFI := Lib.hid hfit
            clear hfit
            go_wp2_with (go_at_call 79; refine (sum_any aa _ ac A _ rfl HRI.out HIN.out (by omega)).mono ?_; rintro e w3 ⟨rfl, rfl⟩; rw [HFT.out])
            go_ret2
            exact ⟨HBw.out, .inr ⟨fun h => HFI.out (h _ (List.mem_of_mem_take (i := i + 1) (by rw [HTT.out]; simp))), rfl⟩⟩
    · obtain rfl : i = G.length := by omega
      have htl : (tots f G).take G.length = tots f G := List.take_of_length_le (by rw [tots_len]; omega)
      rw [htl] at HO HA
      generalize tots f G = T at *
      obtain ⟨aa, ac, rfl, har, haf⟩ := own_rowQ encI_len HO.out
      have HR := Lib.hid har
      clear har haf HO htl
      go_wp2
      go_ret2
      exact ⟨HB.out, .inl ⟨HA.out, aa, ac, rfl, HR.out⟩⟩
set_option maxRecDepth 100000 in
set_option maxHeartbeats 8000000 in
theorem sums_big (K : Nat) (cp : Array Value) (ga : Option Addr) (gcap : Nat) (G : List (List Nat)) (f : Nat → Int) (w : World) (hG : GRowQ w ga G) (hn : G.length ≤ 20000) (hm : ∀ g ∈ G, g.length ≤ 20000) (hen : ∀ args w, (callFunc K args).run Try.prog w = .ok (.enter K args) w)
    (hclo : ∀ g ∈ G, ∀ i ∈ g, ∀ W, Below w.heap.size w W → Calls Try.prog K (#[.int .i64 (i : Int)] ++ cp) W fun e W' => e = .returned (.int .i64 (f i)) ∧ Below W.heap.size W W') (hf : ∀ g ∈ G, ∀ i ∈ g, in64 (f i)) :
    Calls Try.prog 71 #[.slice ga G.length gcap, .func (.func K) #[] cp] w (SumsRes (tots f G) w) := by
  cases G with
  | nil => exact sums_nil K cp ga gcap w
  | cons g G =>
    obtain ⟨b, o, ao, cap, rfl, _⟩ := hG 0 (by simp)
    exact sums_some_big K cp _ gcap _ f w hG hn hm hen hclo hf
set_option maxRecDepth 100000 in
set_option maxHeartbeats 8000000 in
theorem moves_big (ao : Option Addr) (cap : Nat) (Z : List MoveT) (w : World) (h : Row encK 3 w ao Z) (hok : ∀ x ∈ Z, okK x) (hn : Z.length ≤ 20000) :
    Calls Try.prog 58 #[.slice ao Z.length cap] w (MovesRes Z w) := by
  have HR := Lib.hid h
  have HK := Lib.hid hok
  clear h hok
  have hmf : ∀ (fn : Fn) (first cap : Array Value) (w : World), (Instr.makeFunc fn first cap).run Try.prog w = .ok (.func fn first cap) w := fun _ _ _ _ => rfl
  have hkl : (pairsOf Z).length = Z.length := by simp [pairsOf]
  have HKL := Lib.hid hkl
  have HKO : Hid (∀ x ∈ pairsOf Z, okP x) := Lib.hid (fun x hx => by
    obtain ⟨a, ha, rfl⟩ := List.mem_map.1 hx
    exact ⟨(HK.out a ha).2.1, (HK.out a ha).1⟩)
  have e1 : ∀ args w, (callFunc 70 args).run Try.prog w = .ok (.enter 70 args) w := enters_of Try.func70 (by kernel_rfl) rfl
  have e2 : ∀ args w, (callFunc 72 args).run Try.prog w = .ok (.enter 72 args) w := enters_of Try.func72 (by kernel_rfl) rfl
  have E1 := Lib.hid e1
  have E2 := Lib.hid e2
  clear hkl e1 e2
  go_enter Try.func58, Try.ntmps58
  go_wp2_with fail
  have hb0 := (Below.refl _ w).alloc (Nat.le_refl _) (.cells #[.slice ao Z.length cap] 30)
  have hc0 : (w.alloc (.cells #[.slice ao Z.length cap] 30)).cell? ⟨w.heap.size, 0, none⟩ = some (.slice ao Z.length cap) := cell_new _ _ _ 0
  have hr0 := row_allocQ HR.out (.cells #[.slice ao Z.length cap] 30)
  have hsz0 : (w.alloc (.cells #[.slice ao Z.length cap] 30)).heap.size = w.heap.size + 1 := by simp
  generalize w.alloc (.cells #[.slice ao Z.length cap] 30) = w1 at *
  have HB0 := Lib.hid hb0
  have HC0 := Lib.hid hc0
  have HR0 := Lib.hid hr0
  have HS0 := Lib.hid hsz0
  clear hb0 hc0 hr0 hsz0
  have hcp : ∀ W, Below w1.heap.size w1 W → W.cell? ⟨w.heap.size, 0, none⟩ = some (.slice ao Z.length cap) := fun W hW => by rw [hW.cell (p := ⟨w.heap.size, 0, none⟩) (by rw [HS0.out]; exact Nat.lt_succ_self _)]; exact HC0.out
  have HCP := Lib.hid hcp
  clear hcp
  have hgat := gatherp_big 70 #[.pointer (some ⟨w.heap.size, 0, none⟩)] (pairsOf Z) w1 HKO.out (by rw [HKL.out]; exact hn) E1.out (fun i hi W hW => by
    have hi' : i < Z.length := by rw [← HKL.out]; exact hi
    have := moves1_big i w.heap.size ao cap Z W (HCP.out W hW) (HR0.out.below' hW) hi' hn
    have e : (pairsOf Z)[i] = (Z[i].2.1, Z[i].1) := by simp [pairsOf]
    rw [e]; exact this)
  rw [HKL.out] at hgat
  refine hgat.mono ?_
  rintro e w2 ⟨ks, gs, vs, own, B, rfl, hG⟩
  clear hgat
  obtain ⟨ga, gcap, rfl, hgr⟩ := GRowQ.of hG
  obtain ⟨ka, kcap, rfl, hkr, hka⟩ := own_rowQ encP_lenQ hG.kr
  clear hka
  have HG := Lib.hid hgr
  have HKR := Lib.hid hkr
  have HB2 := Lib.hid hG.below
  clear hgr hkr hG
  go_wp2_with fail
  have hsum := sums_big 72 #[.pointer (some ⟨w.heap.size, 0, none⟩)] ga gcap (grps (pairsOf Z)) (nAt Z) w2 HG.out (by rw [grps_len]; have := firsts_len (pairsOf Z); rw [HKL.out] at this; omega) (fun g hg => by have := group_lenQ hg; rw [HKL.out] at this; omega) E2.out (fun g hg i hi W hW => by
    have hi' : i < Z.length := by rw [← HKL.out]; exact place_ltQ hg hi
    have := moves2_big i w.heap.size ao cap Z W (HCP.out W (HB2.out.trans (hW.mono HB2.out.size))) (HR0.out.below' (HB2.out.trans (hW.mono HB2.out.size))) hi' hn
    rw [nAt_eq hi']; exact this) (fun g hg i hi => by
    have hi' : i < Z.length := by rw [← HKL.out]; exact place_ltQ hg hi
    rw [nAt_eq hi']; exact (HK.out _ (List.getElem_mem hi')).2.2)
  refine hsum.mono ?_
  clear hsum
  rintro e w3 ⟨hb3, ⟨hall, ta, tcap, rfl, htr⟩ | ⟨hall, rfl⟩⟩
  · have hsl : (tots (nAt Z) (grps (pairsOf Z))).length = (firsts (pairsOf Z)).length := by rw [tots_len, grps_len]
    have hfl : (firsts (pairsOf Z)).length ≤ 20000 := by have := firsts_len (pairsOf Z); rw [HKL.out] at this; omega
    have hmi : ∀ (i : Nat) (p : Int × Int) (s : Int), (firsts (pairsOf Z))[i]? = some p → (tots (nAt Z) (grps (pairsOf Z)))[i]? = some s → nSum Z p = s ∧ mvTo Z (i + 1) = mvTo Z i ++ if nSum Z p = 0 then [] else [(p.2, p.1, nSum Z p)] := by
      intro i p s hp hs
      have e := mvS_eq Z
      unfold mvS at e
      rw [e, List.getElem?_map, hp] at hs
      cases hs
      exact ⟨rfl, mvTo_step hp⟩
    have HMI := Lib.hid hmi
    have HMA := Lib.hid (mvTo_all Z)
    have HML : Hid (∀ i, (mvTo Z i).length ≤ 20000) := Lib.hid (fun i => Nat.le_trans (mvTo_len Z i) hfl)
    have HALL : Hid (AllIn (mvS Z)) := Lib.hid hall
    have HTR := Lib.hid htr
    have HB3 := Lib.hid (HB0.out.trans ((HB2.out.trans (hb3.mono HB2.out.size)).mono HB0.out.size))
    have HKR3 := Lib.hid (HKR.out.below' hb3)
    have HSL := Lib.hid hsl
    clear hall hmi htr hb3 HG HKR HB2 HR0 HC0 HCP HB0 HR hsl
    generalize hKE : firsts (pairsOf Z) = KL at *
    generalize tots (nAt Z) (grps (pairsOf Z)) = SL at *
    clear hKE
    rw [HSL.out]
    go_wp2_with fail
    go_loopw [8, 28] (fun mv si wr => ∃ (i : Nat), i ≤ KL.length ∧ Hid (Below w3.heap.size w3 wr) ∧ Hid (wr.ownsRow w3.heap.size 78 3 mv (mvTo Z i).length ((mvTo Z i).flatMap encK)) ∧ si = .int .i64 (i : Int)) (fun _ si _ => KL.length - (intOf si).toNat)
    case atStart => exact ⟨0, by omega, Lib.hid (Below.refl _ _), Lib.hid (World.ownsRow_nil _ _ _ _), rfl⟩
    case round =>
      obtain ⟨i, hi, HB, HO, rfl⟩ := hrel
      by_cases hlt : i < KL.length
      · have hli : (i : Int) < (KL.length : Int) := by omega
        obtain ⟨kb, ko, e, hkb, k0, k1⟩ := (HKR3.out.below' HB.out).pair hlt
        cases e
        obtain ⟨tb, to, e, htb, t0⟩ := (HTR.out.below' HB.out).num (i := i) (by rw [HSL.out]; exact hlt)
        cases e
        obtain ⟨hs1, htk⟩ := HMI.out i _ _ (List.getElem?_eq_getElem hlt) (List.getElem?_eq_getElem (by rw [HSL.out]; exact hlt))
        rw [hs1] at htk
        have hroom : (mvTo Z i).length ≤ 200000 := by have := HML.out i; omega
        clear hs1
        generalize SL[i]'(by rw [HSL.out]; exact hlt) = s at *
        generalize KL[i] = kk at *
        obtain ⟨a, b⟩ := kk
        simp only at k0 k1 htk
        generalize mvTo Z i = A at *
        have HTK := Lib.hid htk
        have htb2 : tb ≠ wr.heap.size := by omega
        clear htk
        by_cases hs0 : s = 0
        · subst hs0
          have q0 : ((0 : Int) != 0) = false := by simp
          have HT2 : Hid (mvTo Z (i + 1) = A) := Lib.hid (by rw [HTK.out, if_pos rfl, List.append_nil])
          have HO2 := Lib.hid (HO.out.alloc (.cells #[.int .i64 a, .int .i64 b] 137))
          have HB2 := Lib.hid (HB.out.alloc HB.out.size (.cells #[.int .i64 a, .int .i64 b] 137))
          go_wp2
          go_roundw
          case rel => exact ⟨i + 1, by omega, HB2, Lib.hid (by rw [HT2.out]; exact HO2.out), by go_num⟩
          case measure => simp [intOf]; omega
        · have q0 : (s != 0) = true := by simpa using hs0
          have q1 : (s == 0) = false := by simpa using hs0
          have HT2 : Hid (mvTo Z (i + 1) = A ++ [(b, a, s)]) := Lib.hid (by rw [HTK.out, if_neg hs0])
          clear hs0
          go_wp2_with fail
          have n0 : (wr.alloc (.cells #[.int .i64 a, .int .i64 b] 137)).cell? ⟨wr.heap.size, 0, none⟩ = some (.int .i64 a) := cell_new _ _ _ 0
          have n1 : (wr.alloc (.cells #[.int .i64 a, .int .i64 b] 137)).cell? ⟨wr.heap.size, 1, none⟩ = some (.int .i64 b) := cell_new _ _ _ 1
          have t1 := cell_allocQ t0 (.cells #[.int .i64 a, .int .i64 b] 137)
          have HO5 := Lib.hid (HO.out.alloc (.cells #[.int .i64 a, .int .i64 b] 137))
          have HB5 := Lib.hid (HB.out.alloc HB.out.size (.cells #[.int .i64 a, .int .i64 b] 137))
          have hs5 := HB5.out.size
          obtain ⟨i0, hi0, hz0, hz1, hz2⟩ := info_parts infoMove
          have HI := Lib.hid (And.intro hi0 (And.intro hz0 (And.intro hz1 hz2)))
          clear t0 k0 k1 HO HB hi0 hz0 hz1 hz2 q0 q1
          generalize wr.alloc (.cells #[.int .i64 a, .int .i64 b] 137) = w5 at *
          go_region_law ((refine step_append_lies _ (by rfl) _ _ _ (by rfl) w3.heap.size 78 i0 _ 3 24 Try.underlying30 HI.out.1 HI.out.2.1 HI.out.2.2.1 HI.out.2.2.2 rfl (by omega) u8 A.length (A.flatMap encK) (by rfl) ((HO5.out.alloc _).drew) ⟨w5.heap.size, 0, none⟩ 1 1 (encK (b, a, s)) (by rfl) (by rfl) (World.news_of_block (cs := #[.int .i64 b, .int .i64 a, .int .i64 s]) (t := 78) (fr := (0, 0)) (heap_alloc_new w5 _)) (encK_one _) (by omega) (by unfold maxLen; omega) (by omega) (by simp; omega) (w5.heap.size + 1) (by simp) ?_; intro g7 cap7 w7 ho7 hg7 hl7 hlt7; have ho7' : w7.ownsRow w3.heap.size 78 3 (.slice (some ⟨g7, 0, none⟩) (A.length + 1) cap7) (A ++ [(b, a, s)]).length ((A ++ [(b, a, s)]).flatMap encK) := (by rw [List.length_append, List.flatMap_append]; simpa using ho7); have HO7 := Lib.hid ho7'; have hb6 := HB5.out.alloc HB5.out.size (.cells #[.int .i64 b, .int .i64 a, .int .i64 s] 78); have hb6' : Below w3.heap.size w3 (w5.alloc (.cells #[.int .i64 b, .int .i64 a, .int .i64 s] 78)).drew := ⟨hb6.os, hb6.tape, hb6.output, hb6.size, hb6.block⟩; have HB7 := Lib.hid (hb6'.grown hg7 hb6'.size (fun k hk => (HO5.out.lt k hk).1)); clear ho7 ho7' hg7 hl7 hb6 hb6'))
          all_goals
            go_wp2
            go_roundw
            case rel => exact ⟨i + 1, by omega, HB7, Lib.hid (by rw [HT2.out]; exact HO7.out), by go_num⟩
            case measure => simp [intOf]; omega
      · obtain rfl : i = KL.length := by omega
        rw [HMA.out] at HO
        have hml2 : (mvs Z).length ≤ 20000 := by have := HML.out KL.length; rwa [HMA.out] at this
        have HBM := Lib.hid (HB3.out.trans (HB.out.mono HB3.out.size))
        have hcase := HO.out.2
        rcases hcase with ⟨rfl, hz⟩ | ⟨g, cp, cur, rfl, hbg, _⟩
        · have hz0 : mvs Z = [] := List.eq_nil_of_length_eq_zero hz
          have HZ0 := Lib.hid hz0
          clear HO hz hz0 hml2
          go_wp2_with (go_at_call 73; refine (sortm_nil _).mono ?_; rintro e w5 ⟨rfl, rfl⟩)
          go_ret2
          exact ⟨HBM.out, .inl ⟨HALL.out, none, 0, [], rfl, Row.nil _ _, by rw [HZ0.out], List.Pairwise.nil⟩⟩
        · have HBG := Lib.hid hbg
          clear hbg
          go_wp2_with (go_at_call 73; refine (sortm_row g cp w3.heap.size (mvs Z) _ HO.out (by omega)).mono ?_; rintro e w5 ⟨rfl, M, hpm, hso, hrw, hkp⟩; have HPM := Lib.hid hpm; have HSO := Lib.hid hso; have HRW := Lib.hid hrw; have HKP := Lib.hid (HBM.out.trans (hkp.below HBM.out.size (fun i hi => by rw [hi]; exact Nat.le_trans HB3.out.size HBG.out))); clear hpm hso hrw hkp)
          go_ret2
          exact ⟨HKP.out, .inl ⟨HALL.out, _, cp, M, by rw [HPM.out.length_eq]; rfl, HRW.out, HPM.out, HSO.out⟩⟩
  · have HB3 := Lib.hid (HB0.out.trans ((HB2.out.trans (hb3.mono HB2.out.size)).mono HB0.out.size))
    have HALL : Hid (¬ AllIn (mvS Z)) := Lib.hid hall
    clear hall hb3
    go_wp2
    go_ret2
    exact ⟨HB3.out, .inr ⟨HALL.out, rfl⟩⟩
end Go.Proofs.Ytlkbohpnlbfopaa
