/- What Merge of package table does: one arc for each key, with the sum of what the arcs of that key take, in the order of keys, or none if a sum does not fit. -/
import Derived.Test.YtieomjkiabfhcaaTSums
import Derived.Test.YtieomjkiabfhcaaTSort
import Derived.Test.YtieomjkiabfhcaaTGatK
import Derived.Deep.RegionLaw
import Derived.Deep.AppendLies
namespace Go.Proofs.Ytieomjkiabfhcaa
open Go.RowKit Go.Sort Go.Shelf
set_option linter.unusedVariables false

abbrev ArcT := Int × Int × Int × Int
/-- The keys of arcs. -/
def keysOf (Z : List ArcT) : List (Int × Int × Int) := Z.map kOf
/-- What the arc at a place takes. -/
def capAt (Z : List ArcT) (i : Nat) : Int := (Z.getD i (0, 0, 0, 0)).2.2.1
/-- What all arcs of a key take. -/
def capSum (Z : List ArcT) (k : Int × Int × Int) : Int := ((places (keysOf Z) k).map (capAt Z)).sum
def mkArc (Z : List ArcT) (k : Int × Int × Int) : ArcT := (k.1, k.2.1, capSum Z k, k.2.2)
/-- One arc for each key, in the order of the first places. -/
def mrg (Z : List ArcT) : List ArcT := (firsts (keysOf Z)).map (mkArc Z)
def mrgS (Z : List ArcT) : List Int := tots (capAt Z) (grps (keysOf Z))
theorem mrgS_eq (Z : List ArcT) : mrgS Z = (firsts (keysOf Z)).map (capSum Z) := by
  unfold mrgS tots grps; rw [List.map_map]; rfl
def OkA (Z : List ArcT) : Prop := ∀ x ∈ Z, okA x
theorem ok_keys {Z : List ArcT} (h : OkA Z) : ∀ x ∈ keysOf Z, okK x := by
  intro x hx
  obtain ⟨a, ha, rfl⟩ := List.mem_map.1 hx
  obtain ⟨h1, h2, h3, h4⟩ := h a ha
  exact ⟨h1, h2, h4⟩
theorem capAt_eq {Z : List ArcT} {i : Nat} (hi : i < Z.length) : capAt Z i = Z[i].2.2.1 := by unfold capAt; rw [getD_of_lt hi]
theorem place_lt {α : Type} [DecidableEq α] {l : List α} {g : List Nat} (hg : g ∈ grps l) {i : Nat} (hi : i ∈ g) : i < l.length := by
  obtain ⟨k, _, rfl⟩ := List.mem_map.1 hg
  exact (List.getElem?_eq_some_iff.1 (mem_places.1 hi)).1
theorem group_len {α : Type} [DecidableEq α] {l : List α} {g : List Nat} (hg : g ∈ grps l) : g.length ≤ l.length := by
  obtain ⟨k, _, rfl⟩ := List.mem_map.1 hg
  exact places_len _ _
def MergeRes (Z : List ArcT) (w : World) (e : Ending) (w' : World) : Prop :=
  Below w.heap.size w w' ∧ ((AllIn (mrgS Z) ∧ ∃ ao cap M, e = .returned (.tuple #[.slice ao M.length cap, .int .i64 0]) ∧ Row encA 4 w' ao M ∧ M.Perm (mrg Z) ∧ Sorted kOf M) ∨ (¬ AllIn (mrgS Z) ∧ e = .returned (.tuple #[.slice none 0 0, .int .i64 10])))
set_option maxRecDepth 100000 in
set_option maxHeartbeats 2000000 in
theorem merge_any (ao : Option Addr) (cap : Nat) (Z : List ArcT) (w : World) (h : Row encA 4 w ao Z) (hok : OkA Z) (hn : Z.length ≤ 200) :
    Calls Try.prog 19 #[.slice ao Z.length cap] w (MergeRes Z w) := by
  have HR := Lib.hid h
  have HK := Lib.hid hok
  clear h hok
  have hmf : ∀ (fn : Fn) (first cap : Array Value) (w : World), (Instr.makeFunc fn first cap).run Try.prog w = .ok (.func fn first cap) w := fun _ _ _ _ => rfl
  have hkl : (keysOf Z).length = Z.length := by simp [keysOf]
  have HKL := Lib.hid hkl
  have e1 : ∀ args w, (callFunc 37 args).run Try.prog w = .ok (.enter 37 args) w := enters_of Try.func37 (by kernel_rfl) rfl
  have e2 : ∀ args w, (callFunc 39 args).run Try.prog w = .ok (.enter 39 args) w := enters_of Try.func39 (by kernel_rfl) rfl
  have E1 := Lib.hid e1
  have E2 := Lib.hid e2
  clear hkl e1 e2
  go_enter Try.func19, Try.ntmps19
  go_wp2_with fail
  have hb0 := (Below.refl _ w).alloc (Nat.le_refl _) (.cells #[.slice ao Z.length cap] 22)
  have hc0 : (w.alloc (.cells #[.slice ao Z.length cap] 22)).cell? ⟨w.heap.size, 0, none⟩ = some (.slice ao Z.length cap) := cell_new _ _ _ 0
  have hr0 := row_alloc HR.out (.cells #[.slice ao Z.length cap] 22)
  have hsz0 : (w.alloc (.cells #[.slice ao Z.length cap] 22)).heap.size = w.heap.size + 1 := by simp
  generalize w.alloc (.cells #[.slice ao Z.length cap] 22) = w1 at *
  have HB0 := Lib.hid hb0
  have HC0 := Lib.hid hc0
  have HR0 := Lib.hid hr0
  have HS0 := Lib.hid hsz0
  clear hb0 hc0 hr0 hsz0
  have hcp : ∀ W, Below w1.heap.size w1 W → W.cell? ⟨w.heap.size, 0, none⟩ = some (.slice ao Z.length cap) := fun W hW => by rw [hW.cell (p := ⟨w.heap.size, 0, none⟩) (by rw [HS0.out]; exact Nat.lt_succ_self _)]; exact HC0.out
  have HCP := Lib.hid hcp
  clear hcp
  have hgat := gatherk_any 37 #[.pointer (some ⟨w.heap.size, 0, none⟩)] (keysOf Z) w1 (ok_keys HK.out) (by rw [HKL.out]; exact hn) E1.out (fun i hi W hW => by
    have hi' : i < Z.length := by rw [← HKL.out]; exact hi
    have := merge1_any i w.heap.size ao cap Z W (HCP.out W hW) (HR0.out.below' hW) hi' hn
    have e : (keysOf Z)[i] = kOf Z[i] := by simp [keysOf]
    rw [e]; exact this)
  rw [HKL.out] at hgat
  refine hgat.mono ?_
  rintro e w2 ⟨ks, gs, vs, own, B, rfl, hG⟩
  clear hgat
  obtain ⟨ga, gcap, rfl, hgr⟩ := GRow.of hG
  obtain ⟨ka, kcap, rfl, hkr, hka⟩ := own_row encK_len hG.kr
  clear hka
  have HG := Lib.hid hgr
  have HKR := Lib.hid hkr
  have HB2 := Lib.hid hG.below
  clear hgr hkr hG
  go_wp2_with fail
  have hsum := sums_any 39 #[.pointer (some ⟨w.heap.size, 0, none⟩)] ga gcap (grps (keysOf Z)) (capAt Z) w2 HG.out (by rw [grps_len]; have := firsts_len (keysOf Z); rw [HKL.out] at this; omega) (fun g hg => by have := group_len hg; rw [HKL.out] at this; omega) E2.out (fun g hg i hi W hW => by
    have hi' : i < Z.length := by rw [← HKL.out]; exact place_lt hg hi
    have := merge2_any i w.heap.size ao cap Z W (HCP.out W (HB2.out.trans (hW.mono HB2.out.size))) (HR0.out.below' (HB2.out.trans (hW.mono HB2.out.size))) hi' hn
    rw [capAt_eq hi']; exact this) (fun g hg i hi => by
    have hi' : i < Z.length := by rw [← HKL.out]; exact place_lt hg hi
    rw [capAt_eq hi']; exact (HK.out _ (List.getElem_mem hi')).2.2.1)
  refine hsum.mono ?_
  clear hsum
  rintro e w3 ⟨hb3, ⟨hall, ta, tcap, rfl, htr⟩ | ⟨hall, rfl⟩⟩
  · have hsl : (tots (capAt Z) (grps (keysOf Z))).length = (firsts (keysOf Z)).length := by rw [tots_len, grps_len]
    have hml : (mrg Z).length = (firsts (keysOf Z)).length := by simp [mrg]
    have hfl : (firsts (keysOf Z)).length ≤ 200 := by have := firsts_len (keysOf Z); rw [HKL.out] at this; omega
    have hmi : ∀ (i : Nat) (k : Int × Int × Int) (s : Int), (firsts (keysOf Z))[i]? = some k → (tots (capAt Z) (grps (keysOf Z)))[i]? = some s → (mrg Z)[i]? = some (k.1, k.2.1, s, k.2.2) := by
      intro i k s hk hs
      have e := mrgS_eq Z
      unfold mrgS at e
      rw [e, List.getElem?_map, hk] at hs
      cases hs
      unfold mrg
      rw [List.getElem?_map, hk]; rfl
    have HALL : Hid (AllIn (mrgS Z)) := Lib.hid hall
    have HMI := Lib.hid hmi
    have HTR := Lib.hid htr
    have HB3 := Lib.hid (HB0.out.trans ((HB2.out.trans (hb3.mono HB2.out.size)).mono HB0.out.size))
    have HKR3 := Lib.hid (HKR.out.below' hb3)
    have HML := Lib.hid hml
    have HSL := Lib.hid hsl
    clear hall hmi htr hb3 HG HKR HB2 HR0 HC0 HCP HB0 HR hml hsl
    generalize hKE : firsts (keysOf Z) = KL at *
    generalize tots (capAt Z) (grps (keysOf Z)) = SL at *
    clear hKE
    rw [HSL.out]
    go_wp2_with (at_make; refine wpList_make_row Try.underlying22 infoArc (by omega) encA rfl _ _ rfl w3.heap.size KL.length rfl rfl (by omega) (Nat.le_refl _) ?_; intro w4 ho4 hb4; have HO4 := Lib.hid ho4; have HB4 := Lib.hid hb4; clear ho4 hb4)
    go_loopw [8, 31] (fun mv si wr => ∃ (i : Nat), i ≤ KL.length ∧ Hid (Below w3.heap.size w3 wr) ∧ Hid (wr.ownsRow w3.heap.size 52 4 mv ((mrg Z).take i).length (((mrg Z).take i).flatMap encA)) ∧ si = .int .i64 (i : Int)) (fun _ si _ => KL.length - (intOf si).toNat)
    case atStart => exact ⟨0, by omega, HB4, HO4, rfl⟩
    case round =>
      clear HO4 HB4
      obtain ⟨i, hi, HB, HO, rfl⟩ := hrel
      by_cases hlt : i < KL.length
      · have hli : (i : Int) < (KL.length : Int) := by omega
        obtain ⟨kb, ko, e, hkb, k0, k1, k2⟩ := (HKR3.out.below' HB.out).tri hlt
        cases e
        obtain ⟨tb, to, e, htb, t0⟩ := (HTR.out.below' HB.out).num (i := i) (by rw [HSL.out]; exact hlt)
        cases e
        have htk : (mrg Z).take (i + 1) = (mrg Z).take i ++ [(KL[i].1, KL[i].2.1, SL[i]'(by rw [HSL.out]; exact hlt), KL[i].2.2)] := take_snoc' (HMI.out i _ _ (List.getElem?_eq_getElem hlt) (List.getElem?_eq_getElem _))
        have hroom : ((mrg Z).take i).length ≤ 200000 := by rw [List.length_take]; omega
        generalize SL[i]'(by rw [HSL.out]; exact hlt) = s at *
        generalize KL[i] = kk at *
        obtain ⟨a, b, c⟩ := kk
        simp only at k0 k1 k2 htk
        generalize (mrg Z).take i = A at *
        have HTK := Lib.hid htk
        clear htk
        go_wp2_with fail
        have n0 : (wr.alloc (.cells #[.int .i64 a, .int .i64 b, .int .i64 c] 24)).cell? ⟨wr.heap.size, 0, none⟩ = some (.int .i64 a) := cell_new _ _ _ 0
        have n1 : (wr.alloc (.cells #[.int .i64 a, .int .i64 b, .int .i64 c] 24)).cell? ⟨wr.heap.size, 1, none⟩ = some (.int .i64 b) := cell_new _ _ _ 1
        have n2 : (wr.alloc (.cells #[.int .i64 a, .int .i64 b, .int .i64 c] 24)).cell? ⟨wr.heap.size, 2, none⟩ = some (.int .i64 c) := cell_new _ _ _ 2
        have t1 := cell_alloc t0 (.cells #[.int .i64 a, .int .i64 b, .int .i64 c] 24)
        have HO5 := Lib.hid (HO.out.alloc (.cells #[.int .i64 a, .int .i64 b, .int .i64 c] 24))
        have HB5 := Lib.hid (HB.out.alloc HB.out.size (.cells #[.int .i64 a, .int .i64 b, .int .i64 c] 24))
        have hs5 := HB5.out.size
        obtain ⟨i0, hi0, hz0, hz1, hz2⟩ := info_parts infoArc
        have HI := Lib.hid (And.intro hi0 (And.intro hz0 (And.intro hz1 hz2)))
        clear t0 k0 k1 k2 HO HB hi0 hz0 hz1 hz2
        generalize wr.alloc (.cells #[.int .i64 a, .int .i64 b, .int .i64 c] 24) = w5 at *
        go_region_law ((refine step_append_lies _ (by rfl) _ _ _ (by rfl) w3.heap.size 52 i0 _ 4 32 Try.underlying22 HI.out.1 HI.out.2.1 HI.out.2.2.1 HI.out.2.2.2 rfl (by omega) u8 A.length (A.flatMap encA) (by rfl) ((HO5.out.alloc _).drew) ⟨w5.heap.size, 0, none⟩ 1 1 (encA (a, b, s, c)) (by rfl) (by rfl) (World.news_of_block (cs := #[.int .i64 a, .int .i64 b, .int .i64 s, .int .i64 c]) (t := 52) (fr := (0, 0)) (heap_alloc_new w5 _)) (encA_one _) (by omega) (by unfold maxLen; omega) (by omega) (by simp; omega) (w5.heap.size + 1) (by simp) ?_; intro g7 cap7 w7 ho7 hg7 hl7 hlt7; have ho7' : w7.ownsRow w3.heap.size 52 4 (.slice (some ⟨g7, 0, none⟩) (A.length + 1) cap7) (A ++ [(a, b, s, c)]).length ((A ++ [(a, b, s, c)]).flatMap encA) := (by rw [List.length_append, List.flatMap_append]; simpa using ho7); have HO7 := Lib.hid ho7'; have hb6 := HB5.out.alloc HB5.out.size (.cells #[.int .i64 a, .int .i64 b, .int .i64 s, .int .i64 c] 52); have hb6' : Below w3.heap.size w3 (w5.alloc (.cells #[.int .i64 a, .int .i64 b, .int .i64 s, .int .i64 c] 52)).drew := ⟨hb6.os, hb6.tape, hb6.output, hb6.size, hb6.block⟩; have HB7 := Lib.hid (hb6'.grown hg7 hb6'.size (fun k hk => (HO5.out.lt k hk).1)); clear ho7 ho7' hg7 hl7 hb6 hb6'))
        all_goals
          go_wp2
          go_roundw
          case rel => exact ⟨i + 1, by omega, HB7, Lib.hid (by rw [HTK.out]; exact HO7.out), by go_num⟩
          case measure => simp [intOf]; omega
      · obtain rfl : i = KL.length := by omega
        have htl : (mrg Z).take KL.length = mrg Z := List.take_of_length_le (by rw [HML.out]; omega)
        rw [htl] at HO
        have hml2 : (mrg Z).length ≤ 200 := by rw [HML.out]; exact hfl
        have hbm : Below w.heap.size w wr := HB3.out.trans (HB.out.mono HB3.out.size)
        have HBM := Lib.hid hbm
        have hcase := HO.out.2
        rcases hcase with ⟨rfl, hz⟩ | ⟨g, cp, cur, rfl, hbg, _⟩
        · have hz0 : mrg Z = [] := List.eq_nil_of_length_eq_zero hz
          have HZ0 := Lib.hid hz0
          clear HO hz hz0 htl hml2 hbm
          go_wp2_with (go_at_call 40; refine (sorta_nil _).mono ?_; rintro e w5 ⟨rfl, rfl⟩)
          go_ret2
          exact ⟨HBM.out, .inl ⟨HALL.out, none, 0, [], rfl, Row.nil _ _, by rw [HZ0.out], List.Pairwise.nil⟩⟩
        · have HBG := Lib.hid hbg
          clear htl hbm hbg
          go_wp2_with (go_at_call 40; refine (sorta_row g cp w3.heap.size (mrg Z) _ HO.out (by omega)).mono ?_; rintro e w5 ⟨rfl, M, hpm, hso, hrw, hkp⟩; have HPM := Lib.hid hpm; have HSO := Lib.hid hso; have HRW := Lib.hid hrw; have HKP := Lib.hid (HBM.out.trans (hkp.below HBM.out.size (fun i hi => by rw [hi]; exact Nat.le_trans HB3.out.size HBG.out))); clear hpm hso hrw hkp)
          go_ret2
          exact ⟨HKP.out, .inl ⟨HALL.out, _, cp, M, by rw [HPM.out.length_eq]; rfl, HRW.out, HPM.out, HSO.out⟩⟩
  · have HB3 := Lib.hid (HB0.out.trans ((HB2.out.trans (hb3.mono HB2.out.size)).mono HB0.out.size))
    have HALL := Lib.hid hall
    clear hall hb3
    go_wp2
    go_ret2
    exact ⟨HB3.out, .inr ⟨HALL.out, rfl⟩⟩
end Go.Proofs.Ytieomjkiabfhcaa
