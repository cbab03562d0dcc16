/- What Moves of package table does: one movement for each arc and time, with the sum of all, unless that is 0, in their order, or none if a sum does not fit. -/
import Derived.Test.YtieomjkiabfhcaaTAwake
namespace Go.Proofs.Ytieomjkiabfhcaa
open Go.RowKit Go.Sort Go.Shelf
set_option linter.unusedVariables false

abbrev MoveT := Int × Int × Int
def pairsOf (Z : List MoveT) : List (Int × Int) := Z.map fun m => (m.2.1, m.1)
def nAt (Z : List MoveT) (i : Nat) : Int := (Z.getD i (0, 0, 0)).2.2
def nSum (Z : List MoveT) (p : Int × Int) : Int := ((places (pairsOf Z) p).map (nAt Z)).sum
def mkMove (Z : List MoveT) (p : Int × Int) : MoveT := (p.2, p.1, nSum Z p)
def notNil (m : MoveT) : Bool := m.2.2 != 0
def mvs (Z : List MoveT) : List MoveT := ((firsts (pairsOf Z)).map (mkMove Z)).filter notNil
def mvS (Z : List MoveT) : List Int := tots (nAt Z) (grps (pairsOf Z))
theorem mvS_eq (Z : List MoveT) : mvS Z = (firsts (pairsOf Z)).map (nSum Z) := by
  unfold mvS tots grps; rw [List.map_map]; rfl
theorem nAt_eq {Z : List MoveT} {i : Nat} (hi : i < Z.length) : nAt Z i = Z[i].2.2 := by unfold nAt; rw [getD_of_lt hi]
/-- The movements of the first keys alone. -/
def mvTo (Z : List MoveT) (i : Nat) : List MoveT := (((firsts (pairsOf Z)).take i).map (mkMove Z)).filter notNil
theorem mvTo_step {Z : List MoveT} {i : Nat} {p : Int × Int} (h : (firsts (pairsOf Z))[i]? = some p) : mvTo Z (i + 1) = mvTo Z i ++ if nSum Z p = 0 then [] else [(p.2, p.1, nSum Z p)] := by
  unfold mvTo
  rw [take_snoc' h, List.map_append, List.filter_append]
  congr 1
  by_cases hz : nSum Z p = 0
  · simp [mkMove, notNil, hz]
  · simp [mkMove, notNil, hz]
theorem mvTo_len (Z : List MoveT) (i : Nat) : (mvTo Z i).length ≤ (firsts (pairsOf Z)).length := by
  unfold mvTo
  refine Nat.le_trans (List.length_filter_le _ _) ?_
  simp; omega
theorem mvTo_all (Z : List MoveT) : mvTo Z (firsts (pairsOf Z)).length = mvs Z := by unfold mvTo mvs; rw [List.take_length]
def MovesRes (Z : List MoveT) (w : World) (e : Ending) (w' : World) : Prop :=
  Below w.heap.size w w' ∧ ((AllIn (mvS Z) ∧ ∃ ao cap M, e = .returned (.tuple #[.slice ao M.length cap, .int .i64 0]) ∧ Row encK 3 w' ao M ∧ M.Perm (mvs Z) ∧ Sorted kM M) ∨ (¬ AllIn (mvS Z) ∧ e = .returned (.tuple #[.slice none 0 0, .int .i64 10])))
set_option maxRecDepth 100000 in
set_option maxHeartbeats 4000000 in
theorem moves_any (ao : Option Addr) (cap : Nat) (Z : List MoveT) (w : World) (h : Row encK 3 w ao Z) (hok : ∀ x ∈ Z, okK x) (hn : Z.length ≤ 200) :
    Calls Try.prog 29 #[.slice ao Z.length cap] w (MovesRes Z w) := by
  have HR := Lib.hid h
  have HK := Lib.hid hok
  clear h hok
  have hmf : ∀ (fn : Fn) (first cap : Array Value) (w : World), (Instr.makeFunc fn first cap).run Try.prog w = .ok (.func fn first cap) w := fun _ _ _ _ => rfl
  have hkl : (pairsOf Z).length = Z.length := by simp [pairsOf]
  have HKL := Lib.hid hkl
  have HKO : Hid (∀ x ∈ pairsOf Z, okP x) := Lib.hid (fun x hx => by
    obtain ⟨a, ha, rfl⟩ := List.mem_map.1 hx
    exact ⟨(HK.out a ha).2.1, (HK.out a ha).1⟩)
  have e1 : ∀ args w, (callFunc 50 args).run Try.prog w = .ok (.enter 50 args) w := enters_of Try.func50 (by kernel_rfl) rfl
  have e2 : ∀ args w, (callFunc 51 args).run Try.prog w = .ok (.enter 51 args) w := enters_of Try.func51 (by kernel_rfl) rfl
  have E1 := Lib.hid e1
  have E2 := Lib.hid e2
  clear hkl e1 e2
  go_enter Try.func29, Try.ntmps29
  go_wp2_with fail
  have hb0 := (Below.refl _ w).alloc (Nat.le_refl _) (.cells #[.slice ao Z.length cap] 45)
  have hc0 : (w.alloc (.cells #[.slice ao Z.length cap] 45)).cell? ⟨w.heap.size, 0, none⟩ = some (.slice ao Z.length cap) := cell_new _ _ _ 0
  have hr0 := row_alloc HR.out (.cells #[.slice ao Z.length cap] 45)
  have hsz0 : (w.alloc (.cells #[.slice ao Z.length cap] 45)).heap.size = w.heap.size + 1 := by simp
  generalize w.alloc (.cells #[.slice ao Z.length cap] 45) = w1 at *
  have HB0 := Lib.hid hb0
  have HC0 := Lib.hid hc0
  have HR0 := Lib.hid hr0
  have HS0 := Lib.hid hsz0
  clear hb0 hc0 hr0 hsz0
  have hcp : ∀ W, Below w1.heap.size w1 W → W.cell? ⟨w.heap.size, 0, none⟩ = some (.slice ao Z.length cap) := fun W hW => by rw [hW.cell (p := ⟨w.heap.size, 0, none⟩) (by rw [HS0.out]; exact Nat.lt_succ_self _)]; exact HC0.out
  have HCP := Lib.hid hcp
  clear hcp
  have hgat := gatherp_any 50 #[.pointer (some ⟨w.heap.size, 0, none⟩)] (pairsOf Z) w1 HKO.out (by rw [HKL.out]; exact hn) E1.out (fun i hi W hW => by
    have hi' : i < Z.length := by rw [← HKL.out]; exact hi
    have := moves1_any i w.heap.size ao cap Z W (HCP.out W hW) (HR0.out.below' hW) hi' hn
    have e : (pairsOf Z)[i] = (Z[i].2.1, Z[i].1) := by simp [pairsOf]
    rw [e]; exact this)
  rw [HKL.out] at hgat
  refine hgat.mono ?_
  rintro e w2 ⟨ks, gs, vs, own, B, rfl, hG⟩
  clear hgat
  obtain ⟨ga, gcap, rfl, hgr⟩ := GRow.of hG
  obtain ⟨ka, kcap, rfl, hkr, hka⟩ := own_row encP_len hG.kr
  clear hka
  have HG := Lib.hid hgr
  have HKR := Lib.hid hkr
  have HB2 := Lib.hid hG.below
  clear hgr hkr hG
  go_wp2_with fail
  have hsum := sums_any 51 #[.pointer (some ⟨w.heap.size, 0, none⟩)] ga gcap (grps (pairsOf Z)) (nAt Z) w2 HG.out (by rw [grps_len]; have := firsts_len (pairsOf Z); rw [HKL.out] at this; omega) (fun g hg => by have := group_len hg; rw [HKL.out] at this; omega) E2.out (fun g hg i hi W hW => by
    have hi' : i < Z.length := by rw [← HKL.out]; exact place_lt hg hi
    have := moves2_any i w.heap.size ao cap Z W (HCP.out W (HB2.out.trans (hW.mono HB2.out.size))) (HR0.out.below' (HB2.out.trans (hW.mono HB2.out.size))) hi' hn
    rw [nAt_eq hi']; exact this) (fun g hg i hi => by
    have hi' : i < Z.length := by rw [← HKL.out]; exact place_lt hg hi
    rw [nAt_eq hi']; exact (HK.out _ (List.getElem_mem hi')).2.2)
  refine hsum.mono ?_
  clear hsum
  rintro e w3 ⟨hb3, ⟨hall, ta, tcap, rfl, htr⟩ | ⟨hall, rfl⟩⟩
  · have hsl : (tots (nAt Z) (grps (pairsOf Z))).length = (firsts (pairsOf Z)).length := by rw [tots_len, grps_len]
    have hfl : (firsts (pairsOf Z)).length ≤ 200 := by have := firsts_len (pairsOf Z); rw [HKL.out] at this; omega
    have hmi : ∀ (i : Nat) (p : Int × Int) (s : Int), (firsts (pairsOf Z))[i]? = some p → (tots (nAt Z) (grps (pairsOf Z)))[i]? = some s → nSum Z p = s ∧ mvTo Z (i + 1) = mvTo Z i ++ if nSum Z p = 0 then [] else [(p.2, p.1, nSum Z p)] := by
      intro i p s hp hs
      have e := mvS_eq Z
      unfold mvS at e
      rw [e, List.getElem?_map, hp] at hs
      cases hs
      exact ⟨rfl, mvTo_step hp⟩
    have HMI := Lib.hid hmi
    have HMA := Lib.hid (mvTo_all Z)
    have HML : Hid (∀ i, (mvTo Z i).length ≤ 200) := Lib.hid (fun i => Nat.le_trans (mvTo_len Z i) hfl)
    have HALL : Hid (AllIn (mvS Z)) := Lib.hid hall
    have HTR := Lib.hid htr
    have HB3 := Lib.hid (HB0.out.trans ((HB2.out.trans (hb3.mono HB2.out.size)).mono HB0.out.size))
    have HKR3 := Lib.hid (HKR.out.below' hb3)
    have HSL := Lib.hid hsl
    clear hall hmi htr hb3 HG HKR HB2 HR0 HC0 HCP HB0 HR hsl
    generalize hKE : firsts (pairsOf Z) = KL at *
    generalize tots (nAt Z) (grps (pairsOf Z)) = SL at *
    clear hKE
    rw [HSL.out]
    go_wp2_with fail
    go_loopw [8, 28] (fun mv si wr => ∃ (i : Nat), i ≤ KL.length ∧ Hid (Below w3.heap.size w3 wr) ∧ Hid (wr.ownsRow w3.heap.size 56 3 mv (mvTo Z i).length ((mvTo Z i).flatMap encK)) ∧ si = .int .i64 (i : Int)) (fun _ si _ => KL.length - (intOf si).toNat)
    case atStart => exact ⟨0, by omega, Lib.hid (Below.refl _ _), Lib.hid (World.ownsRow_nil _ _ _ _), rfl⟩
    case round =>
      obtain ⟨i, hi, HB, HO, rfl⟩ := hrel
      by_cases hlt : i < KL.length
      · have hli : (i : Int) < (KL.length : Int) := by omega
        obtain ⟨kb, ko, e, hkb, k0, k1⟩ := (HKR3.out.below' HB.out).pair hlt
        cases e
        obtain ⟨tb, to, e, htb, t0⟩ := (HTR.out.below' HB.out).num (i := i) (by rw [HSL.out]; exact hlt)
        cases e
        obtain ⟨hs1, htk⟩ := HMI.out i _ _ (List.getElem?_eq_getElem hlt) (List.getElem?_eq_getElem (by rw [HSL.out]; exact hlt))
        rw [hs1] at htk
        have hroom : (mvTo Z i).length ≤ 200000 := by have := HML.out i; omega
        clear hs1
        generalize SL[i]'(by rw [HSL.out]; exact hlt) = s at *
        generalize KL[i] = kk at *
        obtain ⟨a, b⟩ := kk
        simp only at k0 k1 htk
        generalize mvTo Z i = A at *
        have HTK := Lib.hid htk
        have htb2 : tb ≠ wr.heap.size := by omega
        clear htk
        by_cases hs0 : s = 0
        · subst hs0
          have q0 : ((0 : Int) != 0) = false := by simp
          have HT2 : Hid (mvTo Z (i + 1) = A) := Lib.hid (by rw [HTK.out, if_pos rfl, List.append_nil])
          have HO2 := Lib.hid (HO.out.alloc (.cells #[.int .i64 a, .int .i64 b] 37))
          have HB2 := Lib.hid (HB.out.alloc HB.out.size (.cells #[.int .i64 a, .int .i64 b] 37))
          go_wp2
          go_roundw
          case rel => exact ⟨i + 1, by omega, HB2, Lib.hid (by rw [HT2.out]; exact HO2.out), by go_num⟩
          case measure => simp [intOf]; omega
        · have q0 : (s != 0) = true := by simpa using hs0
          have q1 : (s == 0) = false := by simpa using hs0
          have HT2 : Hid (mvTo Z (i + 1) = A ++ [(b, a, s)]) := Lib.hid (by rw [HTK.out, if_neg hs0])
          clear hs0
          go_wp2_with fail
          have n0 : (wr.alloc (.cells #[.int .i64 a, .int .i64 b] 37)).cell? ⟨wr.heap.size, 0, none⟩ = some (.int .i64 a) := cell_new _ _ _ 0
          have n1 : (wr.alloc (.cells #[.int .i64 a, .int .i64 b] 37)).cell? ⟨wr.heap.size, 1, none⟩ = some (.int .i64 b) := cell_new _ _ _ 1
          have t1 := cell_alloc t0 (.cells #[.int .i64 a, .int .i64 b] 37)
          have HO5 := Lib.hid (HO.out.alloc (.cells #[.int .i64 a, .int .i64 b] 37))
          have HB5 := Lib.hid (HB.out.alloc HB.out.size (.cells #[.int .i64 a, .int .i64 b] 37))
          have hs5 := HB5.out.size
          obtain ⟨i0, hi0, hz0, hz1, hz2⟩ := info_parts infoMove
          have HI := Lib.hid (And.intro hi0 (And.intro hz0 (And.intro hz1 hz2)))
          clear t0 k0 k1 HO HB hi0 hz0 hz1 hz2 q0 q1
          generalize wr.alloc (.cells #[.int .i64 a, .int .i64 b] 37) = w5 at *
          go_region_law ((refine step_append_lies _ (by rfl) _ _ _ (by rfl) w3.heap.size 56 i0 _ 3 24 Try.underlying45 HI.out.1 HI.out.2.1 HI.out.2.2.1 HI.out.2.2.2 rfl (by omega) u8 A.length (A.flatMap encK) (by rfl) ((HO5.out.alloc _).drew) ⟨w5.heap.size, 0, none⟩ 1 1 (encK (b, a, s)) (by rfl) (by rfl) (World.news_of_block (cs := #[.int .i64 b, .int .i64 a, .int .i64 s]) (t := 56) (fr := (0, 0)) (heap_alloc_new w5 _)) (encK_one _) (by omega) (by unfold maxLen; omega) (by omega) (by simp; omega) (w5.heap.size + 1) (by simp) ?_; intro g7 cap7 w7 ho7 hg7 hl7 hlt7; have ho7' : w7.ownsRow w3.heap.size 56 3 (.slice (some ⟨g7, 0, none⟩) (A.length + 1) cap7) (A ++ [(b, a, s)]).length ((A ++ [(b, a, s)]).flatMap encK) := (by rw [List.length_append, List.flatMap_append]; simpa using ho7); have HO7 := Lib.hid ho7'; have hb6 := HB5.out.alloc HB5.out.size (.cells #[.int .i64 b, .int .i64 a, .int .i64 s] 56); have hb6' : Below w3.heap.size w3 (w5.alloc (.cells #[.int .i64 b, .int .i64 a, .int .i64 s] 56)).drew := ⟨hb6.os, hb6.tape, hb6.output, hb6.size, hb6.block⟩; have HB7 := Lib.hid (hb6'.grown hg7 hb6'.size (fun k hk => (HO5.out.lt k hk).1)); clear ho7 ho7' hg7 hl7 hb6 hb6'))
          all_goals
            go_wp2
            go_roundw
            case rel => exact ⟨i + 1, by omega, HB7, Lib.hid (by rw [HT2.out]; exact HO7.out), by go_num⟩
            case measure => simp [intOf]; omega
      · obtain rfl : i = KL.length := by omega
        rw [HMA.out] at HO
        have hml2 : (mvs Z).length ≤ 200 := by have := HML.out KL.length; rwa [HMA.out] at this
        have HBM := Lib.hid (HB3.out.trans (HB.out.mono HB3.out.size))
        have hcase := HO.out.2
        rcases hcase with ⟨rfl, hz⟩ | ⟨g, cp, cur, rfl, hbg, _⟩
        · have hz0 : mvs Z = [] := List.eq_nil_of_length_eq_zero hz
          have HZ0 := Lib.hid hz0
          clear HO hz hz0 hml2
          go_wp2_with (go_at_call 52; refine (sortm_nil _).mono ?_; rintro e w5 ⟨rfl, rfl⟩)
          go_ret2
          exact ⟨HBM.out, .inl ⟨HALL.out, none, 0, [], rfl, Row.nil _ _, by rw [HZ0.out], List.Pairwise.nil⟩⟩
        · have HBG := Lib.hid hbg
          clear hbg
          go_wp2_with (go_at_call 52; refine (sortm_row g cp w3.heap.size (mvs Z) _ HO.out (by omega)).mono ?_; rintro e w5 ⟨rfl, M, hpm, hso, hrw, hkp⟩; have HPM := Lib.hid hpm; have HSO := Lib.hid hso; have HRW := Lib.hid hrw; have HKP := Lib.hid (HBM.out.trans (hkp.below HBM.out.size (fun i hi => by rw [hi]; exact Nat.le_trans HB3.out.size HBG.out))); clear hpm hso hrw hkp)
          go_ret2
          exact ⟨HKP.out, .inl ⟨HALL.out, _, cp, M, by rw [HPM.out.length_eq]; rfl, HRW.out, HPM.out, HSO.out⟩⟩
  · have HB3 := Lib.hid (HB0.out.trans ((HB2.out.trans (hb3.mono HB2.out.size)).mono HB0.out.size))
    have HALL : Hid (¬ AllIn (mvS Z)) := Lib.hid hall
    clear hall hb3
    go_wp2
    go_ret2
    exact ⟨HB3.out, .inr ⟨HALL.out, rfl⟩⟩
end Go.Proofs.Ytieomjkiabfhcaa
