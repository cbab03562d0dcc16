/- The document's taken of layer 13: the least that one of these arcs has, and what is left. -/
import Derived.Test.YtmflleifglefiaaDAlg
namespace Go.Proofs.Ytmflleifglefiaa
open Go.RowKit
set_option linter.unusedVariables false

def leastA (F : List Int) (k : Int) (l : List StepT) : Int := l.foldl (fun k y => min k (atI F y.1.toNat)) k
theorem leastA_snoc (F : List Int) (k : Int) (l : List StepT) (x : StepT) : leastA F k (l ++ [x]) = min (leastA F k l) (atI F x.1.toNat) := by unfold leastA; rw [List.foldl_append]; rfl
theorem takeK_snoc (k : Int) (F : List Int) (l : List StepT) (x : StepT) : takeK k F (l ++ [x]) = (takeK k F l).set x.1.toNat (atI (takeK k F l) x.1.toNat - k) := by unfold takeK; rw [List.foldl_append]; rfl
theorem arcsL_at {l : List StepT} {i : Nat} (h : i < l.length) : (arcsL l)[i]? = some l[i].1 := by unfold arcsL; rw [List.getElem?_map, List.getElem?_eq_getElem h]; rfl
/-- What taken tells. -/
def TakenRes (F : List Int) (ao : Option Addr) (ac : Nat) (l : List StepT) (w : World) (e : Ending) (w' : World) : Prop :=
  ∃ v, e = .returned (.tuple #[.agg #[.slice ao l.length ac, .int .i64 (leastK F l)], v]) ∧ OwnL encI w' w.heap.size 3 v (takeK (leastK F l) F l) ∧ Below w.heap.size w w'
section
variable (fo ao : Option Addr) (fc ac : Nat) (F : List Int)
set_option maxRecDepth 100000 in
set_option maxHeartbeats 8000000 in
theorem rtaken_any (x0 : StepT) (r : List StepT) (w : World) (hf : Lst encI w fo F) (hA : Lst encI w ao (arcsL (x0 :: r))) (hnil : fo = none → fc = 0) (hfl : F.length ≤ 50000) (hll : (x0 :: r).length ≤ 50000) (hall : ∀ x ∈ x0 :: r, ∃ p : Nat, x.1 = (p : Int) ∧ p < F.length)
    (hbd : ∀ m, m ≤ (x0 :: r).length → ∀ p, p < F.length → -8796093022208 ≤ atI (takeK (leastK F (x0 :: r)) F ((x0 :: r).take m)) p ∧ atI (takeK (leastK F (x0 :: r)) F ((x0 :: r).take m)) p ≤ 8796093022208) (hk : -8796093022208 ≤ leastK F (x0 :: r) ∧ leastK F (x0 :: r) ≤ 8796093022208) :
    Calls Try.prog 29 #[.slice fo F.length fc, .slice ao (x0 :: r).length ac] w (TakenRes F ao ac (x0 :: r) w) := by
  have hb0 := (Below.refl _ w).alloc (Nat.le_refl _) (.cells #[.slice none 0 0, .int .i64 0] 49)
  have HB0 := Lib.hid hb0
  have HN0 := Lib.hid (heap_alloc_new w (.cells #[.slice none 0 0, .int .i64 0] 49))
  have HF := Lib.hid (hf.below hb0)
  have HA := Lib.hid (hA.below hb0)
  have HNL := Lib.hid hnil
  have HAL := Lib.hid hall
  have HBD := Lib.hid hbd
  have HKK := Lib.hid hk
  obtain ⟨n, hn⟩ : ∃ n, (x0 :: r).length = n := ⟨_, rfl⟩
  have HLEN := Lib.hid hn
  have hr : r.length + 1 = n := by rw [← hn]; rfl
  have HRL := Lib.hid hr
  obtain ⟨p0, hp0, hp0l⟩ := hall x0 (by simp)
  have hni : (0 : Int) < (n : Int) := by omega
  have hp0i : (p0 : Int) < (F.length : Int) := by omega
  obtain ⟨kk, hkk⟩ : ∃ kk, leastK F (x0 :: r) = kk := ⟨_, rfl⟩
  have HKE := Lib.hid hkk
  rw [hkk] at HBD HKK
  have HLK : Hid (leastA F (atI F p0) r = kk) := Lib.hid (by rw [← hkk]; show _ = leastA F (atI F x0.1.toNat) r; rw [hp0, Int.toNat_natCast])
  rw [hn] at hll ⊢
  have HTR : Hid (∀ e w', (∃ v, e = .returned (.tuple #[.agg #[.slice ao n ac, .int .i64 kk], v]) ∧ OwnL encI w' w.heap.size 3 v (takeK kk F (x0 :: r)) ∧ Below w.heap.size w w') → TakenRes F ao ac (x0 :: r) w e w') := Lib.hid (fun e w' h => by unfold TakenRes; rw [hn, hkk]; exact h)
  obtain ⟨ab, ax, e1, hab, a0⟩ := lst_cell HA.out (arcsL_at (l := x0 :: r) (i := 0) (by simp))
  obtain ⟨fb, fx, e2, hfb, d0⟩ := lst_cell HF.out (atI_get (d := F) (v := p0) hp0l)
  subst e1
  subst e2
  have ha0 : (x0 :: r)[0].1 = (p0 : Int) := hp0
  rw [ha0, Nat.add_zero] at a0
  unfold encI at a0 d0
  clear hf hA hnil hall hbd hk hn hr hp0 hkk hb0 ha0
  refine Calls.mono ?_ HTR.out
  go_enter Try.func29, Try.ntmps29
  go_wp2
  obtain ⟨g0, hg0⟩ : ∃ g0, w.heap.size = g0 := ⟨_, rfl⟩
  have HG0 := Lib.hid hg0
  rw [hg0] at HN0 ⊢
  generalize w.alloc (.cells #[.slice none 0 0, .int .i64 0] 49) = w1 at *
  have hgl1 : g0 < w1.heap.size := lt_whole HN0.out
  clear hg0
  go_loopw [6, 7] (fun kv iv wr => ∃ j : Nat, 1 ≤ j ∧ j ≤ n ∧ iv = .int .i64 (j : Int) ∧ kv = .int .i64 (leastA F (atI F p0) (r.take (j - 1))) ∧ Hid (Below w1.heap.size w1 wr)) (fun _ iv _ => n - (intOf iv).toNat)
  case atStart => exact ⟨1, Nat.le_refl _, by omega, rfl, rfl, Lib.hid (Below.refl _ _)⟩
  case round =>
    clear a0 d0
    obtain ⟨j, hj1, hjn, rfl, rfl, HB⟩ := hrel
    by_cases hlt : j < n
    · have hli : (j : Int) < (n : Int) := by omega
      have hjl : j < (x0 :: r).length := by rw [HLEN.out]; exact hlt
      obtain ⟨p, hp, hpl⟩ := HAL.out _ (List.getElem_mem hjl)
      have hpi : (p : Int) < (F.length : Int) := by omega
      obtain ⟨ab2, ax2, e1, _, a0⟩ := lst_cell (HA.out.below HB.out) (arcsL_at hjl)
      cases e1
      obtain ⟨fb2, fx2, e2, _, d0⟩ := lst_cell (HF.out.below HB.out) (atI_get (d := F) (v := p) hpl)
      cases e2
      rw [hp] at a0
      have HST : Hid (min (leastA F (atI F p0) (r.take (j - 1))) (atI F p) = leastA F (atI F p0) (r.take (j + 1 - 1))) := Lib.hid (by
        have hj2 : j - 1 < r.length := by have := HRL.out; omega
        have e3 : (x0 :: r)[j] = r[j - 1] := by
          obtain ⟨j', rfl⟩ : ∃ j', j = j' + 1 := ⟨j - 1, by omega⟩
          simp
        rw [show j + 1 - 1 = (j - 1) + 1 by omega, List.take_succ_eq_append_getElem hj2, leastA_snoc, ← e3, hp, Int.toNat_natCast])
      unfold encI at a0 d0
      generalize leastA F (atI F p0) (r.take (j - 1)) = k1 at *
      generalize atI F p = u at *
      clear hp hjl
      go_wp2
      go_roundw
      case rel => exact ⟨j + 1, by omega, by omega, by go_num, by rw [← HST.out], HB⟩
      case measure => simp [intOf]; omega
    · have hli : ¬ (j : Int) < (n : Int) := by omega
      have HKF : Hid (leastA F (atI F p0) (r.take (j - 1)) = kk) := Lib.hid (by rw [List.take_of_length_le (by have := HRL.out; omega)]; exact HLK.out)
      rw [HKF.out]
      go_wp2_with (first
        | (at_builtin; refine wpList_append_all rfl _ _ rfl _ fc F rfl rfl (HF.out.below HB.out) HNL.out (by omega) ?_; intro v6 w6 ho6 hb6; have HO6 := Lib.hid ho6; have HB6 := Lib.hid hb6; clear ho6 hb6))
      obtain ⟨la, lc, hv, _⟩ := HO6.out.lst
      subst hv
      have HSZ : Hid (w1.heap.size ≤ wr.heap.size) := Lib.hid HB.out.size
      obtain ⟨wa, hwa⟩ : ∃ wa, wa = wr := ⟨_, rfl⟩
      subst hwa
      go_loopw [9] (fun iv wz => ∃ m : Nat, m ≤ n ∧ iv = .int .i64 (m : Int) ∧ Hid (OwnL encI wz wa.heap.size 3 (.slice la F.length lc) (takeK kk F ((x0 :: r).take m))) ∧ Hid (Below wa.heap.size wa wz)) (fun iv _ => n - (intOf iv).toNat)
      case atStart => exact ⟨0, Nat.zero_le _, rfl, HO6, HB6⟩
      case round =>
        clear HO6 HB6
        obtain ⟨m, hm, rfl, HO, HW⟩ := hrel
        by_cases hlt2 : m < n
        · have hli2 : (m : Int) < (n : Int) := by omega
          have hml : m < (x0 :: r).length := by rw [HLEN.out]; exact hlt2
          obtain ⟨p, hp, hpl⟩ := HAL.out _ (List.getElem_mem hml)
          have hpi : (p : Int) < (F.length : Int) := by omega
          obtain ⟨ab2, ax2, e1, _, a0⟩ := lst_cell ((HA.out.below HB.out).below HW.out) (arcsL_at hml)
          cases e1
          have HTK := Lib.hid (takeK_snoc kk F ((x0 :: r).take m) (x0 :: r)[m])
          obtain ⟨b0, b1⟩ := HBD.out m (by rw [HLEN.out]; exact hm) p hpl
          have HKB := HKK.out
          have HFN := Lib.hid (takeK_len kk ((x0 :: r).take m) F)
          have HT2 : Hid ((x0 :: r).take (m + 1) = (x0 :: r).take m ++ [(x0 :: r)[m]]) := Lib.hid (List.take_succ_eq_append_getElem hml)
          rw [hp] at a0 HTK
          rw [Int.toNat_natCast] at HTK
          obtain ⟨b2, b3⟩ := HBD.out (m + 1) (by rw [HLEN.out]; exact hlt2) p hpl
          rw [HT2.out, HTK.out, atI_set (by rw [HFN.out]; exact hpl), if_pos rfl] at b2 b3
          have hX := atI_get (d := takeK kk F ((x0 :: r).take m)) (v := p) (by rw [HFN.out]; exact hpl)
          obtain ⟨g, cg, e, hgb, hgl⟩ := HO.out.some (by rw [HFN.out]; omega)
          injection e with e3 e4 e5
          subst e3
          obtain ⟨cy, fy⟩ := HO.out.cell hX
          unfold encI at cy a0
          have HST : Hid (takeK kk F ((x0 :: r).take (m + 1)) = (takeK kk F ((x0 :: r).take m)).set p (atI (takeK kk F ((x0 :: r).take m)) p - kk)) := Lib.hid (by rw [HT2.out, HTK.out])
          clear hX hp hml HTK HT2 e4 e5
          generalize takeK kk F ((x0 :: r).take m) = G at *
          generalize atI G p = x at *
          have hwr : IntKind.i64.wrap (x - kk) = x - kk := IntWalk.i64_in _ (by omega)
          go_wp2_with fail
          go_region
          go_wp2
          go_roundw
          case rel => exact ⟨m + 1, by omega, by go_num, Lib.hid (by rw [HST.out]; exact (HO.out.put p _).below (below_drew (Below.refl _ _))), Lib.hid (below_drew (below_set HW.out hgb _))⟩
          case measure => simp [intOf]; omega
        · have hli2 : ¬ (m : Int) < (n : Int) := by omega
          have HTE : Hid (takeK kk F ((x0 :: r).take m) = takeK kk F (x0 :: r)) := Lib.hid (by rw [List.take_of_length_le (by rw [HLEN.out]; omega)])
          rw [HTE.out] at HO
          have hnb := kept_box (kept_box HN0.out HB.out) HW.out
          have y0 := cell_whole hnb 0
          have y1 := cell_whole hnb 1
          have f0 := frozen_whole hnb 0
          have f1 := frozen_whole hnb 1
          have hfin := set_whole (set_whole hnb 0 (.slice (some ⟨ab, ax, none⟩) n ac)) 1 (.int .i64 kk)
          have hgl2 : g0 < wa.heap.size := by have := HSZ.out; omega
          have hw0 : w.heap.size ≤ wa.heap.size := by have h1 := HB0.out.size; have h2 := HSZ.out; omega
          have hown : OwnL encI ((wr.setCell ⟨g0, 0, none⟩ (.slice (some ⟨ab, ax, none⟩) n ac)).setCell ⟨g0, 1, none⟩ (.int .i64 kk)) w.heap.size 3 (.slice la F.length lc) (takeK kk F (x0 :: r)) :=
            own_mono (ownsRow_setCell_below (ownsRow_setCell_below HO.out (a := ⟨g0, 0, none⟩) hgl2 _) (a := ⟨g0, 1, none⟩) hgl2 _) hw0
          have hbel := below_set (below_set (HB0.out.trans ((HB.out.trans (HW.out.mono HSZ.out)).mono HB0.out.size)) (g := g0) (j := 0) (by have := HG0.out; omega) (.slice (some ⟨ab, ax, none⟩) n ac)) (g := g0) (j := 1) (by have := HG0.out; omega) (.int .i64 kk)
          have HFI := Lib.hid hfin
          have HOW := Lib.hid hown
          have HBE := Lib.hid hbel
          clear hfin hown hbel
          go_wp2
          have z0 := cell_whole HFI.out 0
          have z1 := cell_whole HFI.out 1
          generalize (wr.setCell ⟨g0, 0, none⟩ (.slice (some ⟨ab, ax, none⟩) n ac)).setCell ⟨g0, 1, none⟩ (.int .i64 kk) = wz at *
          clear HFI
          refine bodyPost_ret (v := .tuple #[.agg #[.slice (some ⟨ab, ax, none⟩) n ac, .int .i64 kk], .slice la F.length lc]) (by simp [results, Try.results29, go_sem, z0, z1]) rfl ?_
          exact ⟨_, rfl, HOW.out, HBE.out⟩
end
end Go.Proofs.Ytmflleifglefiaa
