/- What gather of package table does for keys of three numbers: each key once, in the order of the first places, and the places of each. -/
import Derived.Test.YtieomjkiabfhcaaTGi
import Derived.LoopTactic
import Derived.Carry
import Derived.OwnWalk
import Derived.Maps.AppendAt
namespace Go.Proofs.Ytieomjkiabfhcaa
open Go.RowKit
set_option linter.unusedVariables false

set_option maxRecDepth 100000 in
set_option maxHeartbeats 1000000 in
theorem gatherk_any (K : Nat) (cp : Array Value) (L : List (Int × Int × Int)) (w : World) (hL : ∀ x ∈ L, okK x) (hn : L.length ≤ 200) (hen : ∀ args w, (callFunc K args).run Try.prog w = .ok (.enter K args) w)
    (hclo : ∀ i (hi : i < L.length) W, Below w.heap.size w W → Calls Try.prog K (#[.int .i64 (i : Int)] ++ cp) W fun e W' => e = .returned (.agg (encK L[i]).toArray) ∧ Below W.heap.size W W') :
    Calls Try.prog 35 #[.int .i64 (L.length : Int), .func (.func K) #[] cp] w (Gat 24 encK 3 w L) := by
  have HC := Lib.hid hclo
  have HL := Lib.hid hL
  clear hclo hL
  have hmm := @run_makeMap Try.prog
  go_enter Try.func35, Try.ntmps35
  go_wp2
  have H0 : Hid (∃ vs own, GIx 24 encK 3 w (w.alloc (.map #[] 0)) w.heap.size (.slice none 0 0) (.slice none 0 0) (firsts (L.take 0)) (firsts (L.take 0)) (grps (L.take 0)) vs own) := Lib.hid (GIx.start w)
  generalize w.alloc (.map #[] 0) = w1 at H0 ⊢
  generalize hB : w.heap.size = B at H0 ⊢
  have HB := Lib.hid hB
  clear hB
  go_loopw [4, 5, 13] (fun ks gs si wr => ∃ (t : Nat), t ≤ L.length ∧ Hid (∃ vs own, GIx 24 encK 3 w wr B ks gs (firsts (L.take t)) (firsts (L.take t)) (grps (L.take t)) vs own) ∧ si = .int .i64 (t : Int)) (fun _ _ si _ => L.length - (intOf si).toNat)
  case atStart => exact ⟨0, by omega, H0, rfl⟩
  case round =>
    clear H0
    obtain ⟨t, ht, HG, rfl⟩ := hrel
    by_cases hlt : t < L.length
    · have hli : (t : Int) < (L.length : Int) := by omega
      obtain ⟨vs, own, hG⟩ := HG.out
      obtain ⟨⟨a, b, c⟩, hx⟩ : ∃ x, L[t] = x := ⟨_, rfl⟩
      have hok : okK (a, b, c) := hx ▸ HL.out _ (List.getElem_mem hlt)
      obtain ⟨kl, hkl⟩ := keyOf_key hok
      have HKL := Lib.hid hkl
      have HCT : Hid (Calls Try.prog K (#[.int .i64 (t : Int)] ++ cp) wr fun e W' => e = .returned (.agg #[.int .i64 a, .int .i64 b, .int .i64 c]) ∧ Below wr.heap.size wr W') := Lib.hid (by have := HC.out t hlt wr hG.below; rw [hx] at this; exact this)
      have HT : Hid (L.take (t + 1) = L.take t ++ [(a, b, c)]) := Lib.hid (by rw [take_snoc L hlt, hx])
      have hfl := firsts_len (L.take t)
      have htl : (L.take t).length = t := by simp; omega
      have HTL := Lib.hid htl
      have hfl2 : (firsts (L.take t)).length ≤ 200 := by omega
      have HGX := Lib.hid hG
      clear hG hkl hx htl hfl HG hok
      have hgl : (grps (L.take t)).length = (firsts (L.take t)).length := grps_len _
      have HGL := Lib.hid hgl
      clear hgl
      by_cases hmem : (a, b, c) ∈ firsts (L.take t)
      · have HM := Lib.hid hmem
        have h0 : 0 < (grps (L.take t)).length := by rw [HGL.out]; exact List.length_pos_of_mem hmem
        obtain ⟨g, cap, egs, _⟩ := HGX.out.slot h0
        subst egs
        clear hmem
        go_wp2_with fail
        refine HCT.out.mono ?_
        rintro e w2 ⟨rfl, hb2⟩
        have HG2 := Lib.hid ((HGX.out.step hb2).step ((Below.refl _ w2).alloc (Nat.le_refl _) (.cells #[.int .i64 a, .int .i64 b, .int .i64 c] 24)))
        clear hb2 HGX HCT
        go_wp2_with (first
          | (at_lookup; refine wpList_look_yes lawKey Try.underlying83 rfl _ _ rfl B (firsts (L.take t)) (a, b, c) HG2.out.map HM.out kl HKL.out rfl rfl ?_; intro j hj; have hjl : j < (grps (L.take t)).length := (by rw [HGL.out]; exact (List.getElem?_eq_some_iff.1 hj).1); obtain ⟨g', cap', e', hc, hf, _, _⟩ := HG2.out.slot hjl; cases e'; have hroom : (natI (places (L.take t) (a, b, c))).length ≤ 200000 := (by rw [natI_len]; have := places_len (L.take t) (a, b, c); rw [HTL.out] at this; omega); have HJ := Lib.hid hj; clear hj hf; obtain ⟨v, hv⟩ : ∃ v, vs.getD j nilS = v := ⟨_, rfl⟩; rw [hv] at hc; have HG3 := Lib.hid (HG2.out.step ((Below.refl _ (w2.alloc (.cells #[.int .i64 a, .int .i64 b, .int .i64 c] 24))).alloc (Nat.le_refl _) (.cells #[.int .i64 (t : Int)] 3))); have hin := HG3.out.inn j hjl; rw [hv, grps_getD HJ.out] at hin; have HIN := Lib.hid hin; have HV := Lib.hid hv; clear hv hin)
          | (at_builtin; refine wpList_append_row (enc := encI) Try.underlying31 infoInt rfl (by omega) (by omega) encI_len rfl _ _ rfl w.heap.size v (natI (places (L.take t) (a, b, c))) (t : Int) (encI_one _) rfl HIN.out _ 1 rfl (fun i hi => by obtain rfl : i = 0 := (by omega); exact cell_new' (by simp) _ _ 0) hroom HG3.out.below.size ?_; intro p cap4 w4 ho4 hg4 hl4 hb4 hlt4; obtain ⟨hc4, hf4, own4, hG4⟩ := HG3.out.add hjl rfl (t := t) (by rw [grps_getD HJ.out, natI_snoc]; exact ho4) (by rw [HV.out]; exact hg4) (by rw [HV.out]; exact hl4) hb4; have HG4 := Lib.hid hG4; clear hG4 ho4 hg4 hl4 HG3 HIN hc; rw [HV.out] at hc4))
        go_roundw
        case rel => exact ⟨t + 1, by omega, Lib.hid ⟨_, own4, by
          have h := HG4.out
          rw [HT.out, firsts_old (mem_firsts.1 HM.out), grps_old HJ.out, HTL.out]
          rw [grps_getD HJ.out] at h
          exact h⟩, by go_num⟩
        case measure => simp [intOf]; omega
      · have HM := Lib.hid hmem
        obtain ⟨ka, kcap, rfl, _, _⟩ := own_row encK_len HGX.out.kr
        obtain ⟨ga, gcap, rfl, _, _⟩ := own_row encV_len HGX.out.gr
        clear hmem
        go_wp2_with fail
        refine HCT.out.mono ?_
        rintro e w2 ⟨rfl, hb2⟩
        have HG2 := Lib.hid ((HGX.out.step hb2).step ((Below.refl _ w2).alloc (Nat.le_refl _) (.cells #[.int .i64 a, .int .i64 b, .int .i64 c] 24)))
        have kc0 := cell_new w2 #[.int .i64 a, .int .i64 b, .int .i64 c] 24 0
        have kc1 := cell_new w2 #[.int .i64 a, .int .i64 b, .int .i64 c] 24 1
        have kc2 := cell_new w2 #[.int .i64 a, .int .i64 b, .int .i64 c] 24 2
        have hwo := heap_alloc_new w2 (.cells #[.int .i64 a, .int .i64 b, .int .i64 c] 24)
        have hBl := (HGX.out.step hb2).map.lt
        have HWO := Lib.hid hwo
        have hvl : vs.length = (firsts (L.take t)).length := by rw [HG2.out.len, HGL.out]
        have hv200 : vs.length ≤ 200000 := by omega
        have hidx : (firsts (L.take t)).length < vs.length + 1 := by omega
        have HVL := Lib.hid hvl
        clear hb2 HGX HCT hwo hvl kc0 kc1 kc2
        go_wp2_with (first
          | (at_lookup; refine wpList_look_no lawKey Try.underlying83 rfl _ _ rfl B (firsts (L.take t)) (a, b, c) HG2.out.map HM.out kl HKL.out rfl rfl ?_)
          | (at_mapUpdate; refine wpList_store_key lawKey Try.underlying83 encK_inj rfl _ _ _ rfl B (firsts (L.take t)) (a, b, c) HG2.out.map HM.out (by omega) kl HKL.out rfl rfl rfl ?_; intro w3 hm3 hg3; have hkb := (hg3.block w2.heap.size (by simp) (by simp; omega)).trans HWO.out; have kc0 := cell_whole hkb 0; have kc1 := cell_whole hkb 1; have kc2 := cell_whole hkb 2; simp at kc0 kc1 kc2; have HG3 := Lib.hid ((HG2.out.store hm3 hg3).step ((Below.refl _ w3).alloc (Nat.le_refl _) (.cells #[.int .i64 a, .int .i64 b, .int .i64 c] 24))); clear hm3 hg3 hkb HG2)
          | (at_builtin; refine wpList_append_row (enc := encK) Try.underlying58 infoKey rfl (by omega) (by omega) encK_len rfl _ _ rfl w.heap.size _ (firsts (L.take t)) (a, b, c) (encK_one _) rfl HG3.out.kr _ 1 rfl (fun i hi => cell_newL rfl (encK (a, b, c)) 24 i) (by omega) HG3.out.below.size ?_; intro gk capk w4 ho4 hg4 hl4 hb4 hlt4; obtain ⟨own4, hG4⟩ := HG3.out.key ho4 hg4 hl4 hb4; have HG4 := Lib.hid (hG4.step ((Below.refl _ w4).alloc (Nat.le_refl _) (.cells #[.slice none 0 0] 31))); clear hG4 ho4 hg4 hl4 HG3)
          | (at_builtin; refine wpList_append_row (enc := encV) Try.underlying28 infoInts rfl (by omega) (by omega) encV_len rfl _ _ rfl w.heap.size _ vs nilS (by intro u hu; simp [encV] at hu; subst hu; rfl) rfl HG4.out.gr _ 1 rfl (fun i hi => cell_newL rfl (encV nilS) 31 i) hv200 HG4.out.below.size ?_; intro gg capg w5 ho5 hg5 hl5 hb5 hlt5; obtain ⟨own5, hG5⟩ := HG4.out.group ho5 hg5 hl5 hb5; have hc := (hG5.cell (j := (firsts (L.take t)).length) (by simp [HGL.out]) rfl).1; rw [getD_end _ _ _ HVL.out] at hc; unfold nilS at hc; have HG5 := Lib.hid (hG5.step ((Below.refl _ w5).alloc (Nat.le_refl _) (.cells #[.int .i64 (t : Int)] 3))); clear hG5 ho5 hg5 hl5 HG4)
          | (at_builtin; refine wpList_append_row (enc := encI) Try.underlying31 infoInt rfl (by omega) (by omega) encI_len rfl _ _ rfl w.heap.size _ [] (t : Int) (encI_one _) rfl (World.ownsRow_nil _ _ _ _) _ 1 rfl (fun i hi => cell_newL rfl (encI (t : Int)) 3 i) (by simp) HG5.out.below.size ?_; intro p cap6 w6 ho6 hg6 hl6 hb6 hlt6; obtain ⟨hc6, hf6, own6, hG6⟩ := HG5.out.add (j := (firsts (L.take t)).length) (by simp [HGL.out]) rfl (t := t) (by rw [getD_end _ _ _ HGL.out]; exact ho6) (by rw [getD_end _ _ _ HVL.out]; exact hg6) (by rw [getD_end _ _ _ HVL.out]; exact hl6) hb6; have HG6 := Lib.hid hG6; clear hG6 ho6 hg6 hl6 HG5 hc; rw [getD_end _ _ _ HVL.out] at hc6; unfold nilS at hc6))
        go_roundw
        case rel => exact ⟨t + 1, by omega, Lib.hid ⟨_, own6, by
          have h := HG6.out
          have hnm : (a, b, c) ∉ L.take t := fun h => HM.out (mem_firsts.2 h)
          rw [HT.out, firsts_new hnm, grps_new hnm, HTL.out]
          rw [getD_end _ _ _ HGL.out, set_end _ _ _ HGL.out] at h
          exact h⟩, by go_num⟩
        case measure => simp [intOf]; omega
    · obtain rfl : t = L.length := by omega
      obtain ⟨vs, own, hG⟩ := HG.out
      rw [List.take_length] at hG
      have HG2 := Lib.hid hG
      clear hG HG
      go_wp2
      go_ret2
      exact ⟨_, _, vs, own, B, rfl, HG2.out⟩
end Go.Proofs.Ytieomjkiabfhcaa
