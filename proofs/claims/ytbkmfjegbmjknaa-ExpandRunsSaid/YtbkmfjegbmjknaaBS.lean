/- Lemmas of the layers below, several texts in one. -/
import Derived.Test.YtbkmfjegbmjknaaQLaid
import Derived.Test.YtbkmfjegbmjknaaBR
import Derived.Shelf.SlSortFuncK.ComposeK
import Derived.Test.YtbkmfjegbmjknaaBQ
import Derived.LoopTactic
import Derived.Carry
import Derived.OwnWalk
import Derived.Maps.AppendAt
namespace Go.Proofs.Ytbkmfjegbmjknaa
open Go.RowKit Go.Sort Go.Shelf
set_option linter.unusedVariables false
theorem swo_of {α : Type} {cf : α → α → Int} {key : α → Int × Int × Int} (hc : ∀ a b, decide (cf a b < 0) = ltK (key a) (key b)) : SWO (ltOf cf) where
  irrefl x := by show decide (cf x x < 0) = false; rw [hc]; exact ltK_irrefl _
  trans x y z h1 h2 := by
    have a : ltK (key x) (key y) = true := by rw [← hc]; exact h1
    have b : ltK (key y) (key z) = true := by rw [← hc]; exact h2
    show decide (cf x z < 0) = true; rw [hc]; exact ltK_trans a b
  ntrans x y z h1 h2 := by
    have a : ltK (key x) (key y) = false := by rw [← hc]; exact h1
    have b : ltK (key y) (key z) = false := by rw [← hc]; exact h2
    show decide (cf x z < 0) = false; rw [hc]; exact ltK_ntrans a b
section
variable {α : Type} [Inhabited α] {enc : α → List Value} {k : Nat}
theorem kept_sortQ {w : World} {blk off n : Nat} {d : Array α} {os : Array Obj} : Kept (fun i => i = blk) w (sortWorldK enc k w blk off n d os) := by
  refine ⟨rfl, rfl, rfl, ?_, fun i hi hn => ?_⟩
  · simp [sortWorldK, grow, putRowK, putRow, mapBlock]
  · have hi' : i < (w.heap.modify blk (onCells (putCells id off (flatK enc k d)))).size := by simpa using hi
    show ((w.heap.modify blk (onCells (putCells id off (flatK enc k d)))) ++ os)[i]? = w.heap[i]?
    rw [Array.getElem?_append_left hi', Array.getElem?_modify, if_neg (fun e => hn e.symm)]
theorem holds_of_own (hk : ∀ x, (enc x).length = k) (hk0 : 0 < k) {w : World} {base g n cap : Nat} {e : TypeId} {Z : List α} (h : w.ownsRow base e k (.slice (some ⟨g, 0, none⟩) n cap) Z.length (Z.flatMap enc)) : HoldsK enc k w g 0 Z.toArray := by
  rcases h.2 with ⟨h0, _⟩ | ⟨g', cap', cur, e1, hb, hg, h1, h2, h3, h4⟩
  · cases h0
  · cases e1
    intro t ht
    rw [size_flatK] at ht
    refine ⟨?_, frozen_whole hg _⟩
    have ht' : t < Z.length * k := by simpa using ht
    obtain ⟨i, j, rfl, hj, hi⟩ := flat_split hk Z ht'
    have e1 : (i * k + j) / k = i := by rw [Nat.mul_comm, Nat.mul_add_div hk0, Nat.div_eq_of_lt hj]; omega
    have e2 : (i * k + j) % k = j := by rw [Nat.mul_comm, Nat.mul_add_mod, Nat.mod_eq_of_lt hj]
    rw [get_flatK _ _ _ _ ht, cell_whole hg, Nat.zero_add, ← Array.getElem?_toList]
    have e3 : (cur.toList.take (Z.length * k))[i * k + j]? = cur.toList[i * k + j]? := List.getElem?_take_of_lt ht'
    rw [← e3, h4, flat_get hk Z i j hj, List.getElem?_eq_getElem hi, e1, e2]
    rw [getElem!_pos Z.toArray i (by simpa using hi)]
    simp only [List.getElem_toArray, Option.bind_some, id]
    rw [List.getElem?_eq_getElem (by rw [hk]; exact hj), getElem!_pos _ j (by rw [hk]; exact hj)]
theorem row_of_holds (hk : ∀ x, (enc x).length = k) {w : World} {g : Nat} {d : Array α} (h : HoldsK enc k w g 0 d) (hg : g < w.heap.size) : Row enc k w (some ⟨g, 0, none⟩) d.toList := by
  intro i hi
  have hi' : i < d.size := by simpa using hi
  refine ⟨g, 0, rfl, hg, fun j hj => ?_⟩
  rw [(h.cell hi' hj).1, getElem!_pos d i hi']
  rw [Array.getElem_toList, List.getElem?_eq_getElem (by rw [hk]; exact hj), getElem!_pos _ j (by rw [hk]; exact hj)]
def Sorted (key : α → Int × Int × Int) (l : List α) : Prop := l.Pairwise fun x y => ltK (key y) (key x) = false
theorem sorted_ofQ {cf : α → α → Int} {key : α → Int × Int × Int} (hc : ∀ a b, decide (cf a b < 0) = ltK (key a) (key b)) {d : Array α} (h : SortedIn (ltOf cf) 0 d.size d) : Sorted key d.toList := by
  refine List.pairwise_iff_getElem.2 fun i j hi hj hij => ?_
  have := h i j (Nat.zero_le _) hij (by simpa using hj)
  rw [getElem!_pos d j (by simpa using hj), getElem!_pos d i (by simpa using hi)] at this
  have e : decide (cf d[j] d[i] < 0) = false := this
  rw [hc] at e
  simpa using e
theorem perm_ofQ {d d' : Array α} (h : PermIn 0 d.size d d') : d'.toList.Perm d.toList := by
  obtain ⟨h1, _, h3⟩ := h
  rw [Array.extract_size, show d'.extract 0 d.size = d' by rw [← h1]; exact Array.extract_size] at h3
  exact h3
end
def SortEnd {α : Type} (enc : α → List Value) (k : Nat) (key : α → Int × Int × Int) (g : Nat) (Z : List α) (w : World) (e : Ending) (w' : World) : Prop :=
  e = .returned (.tuple #[]) ∧ ∃ S, S.Perm Z ∧ Sorted key S ∧ Row enc k w' (some ⟨g, 0, none⟩) S ∧ Kept (fun i => i = g) w w'
theorem sortm_row (g cap base : Nat) (Z : List (Int × Int × Int)) (w : World) (h : w.ownsRow base 94 3 (.slice (some ⟨g, 0, none⟩) Z.length cap) Z.length (Z.flatMap encK)) (hs : Z.length ≤ 65536) :
    Calls Try.prog 76 #[.slice (some ⟨g, 0, none⟩) Z.length cap, .func (.func 77) #[] #[]] w (SortEnd encK 3 kM g Z w) := by
  have eg : ∀ args w, (callFunc 77 args).run Try.prog w = .ok (.enter 77 args) w := enters_of Try.func77 (by kernel_rfl) rfl
  have hH := holds_of_own encK_len (by omega) h
  have hblk : g < w.heap.size := (h.lt g rfl).2
  have hL : CmpLays Try.prog 77 #[] encK 3 cmpM g 0 Z.toArray.size w := fun m os dk _ x y => (cmpm_any x y _).mono fun _ _ ⟨he, q, os', hw⟩ => ⟨he, q, os', hw⟩
  have hS := AnyQ.slices_SortFunc Try.sortM 3 Try.isAgg94 Try.sizeOf94 encK (fun _ => rfl) (fun x v hv => by have := encK_one x v hv; simpa using this) cmpM (swo_of cmpM_lt) 77 #[] g 0 cap Z.toArray w eg hL hH hblk (by simp; omega)
  change Calls Try.prog 76 #[.slice (some ⟨g, 0, none⟩) Z.length cap, .func (.func 77) #[] #[]] w _ at hS
  refine hS.mono ?_
  rintro e w' ⟨rfl, d', n, os, hp, hso, rfl⟩
  have hsz : d'.size = Z.toArray.size := hp.1
  refine ⟨rfl, d'.toList, perm_ofQ hp, sorted_ofQ cmpM_lt (by rw [hsz]; exact hso), ?_, kept_sortQ⟩
  exact row_of_holds encK_len (holdsK_sortWorldK encK 3 w g 0 n Z.toArray d' os hblk hH hsz) (lt_sortWorldK encK 3 w g 0 n d' os hblk)
theorem sortm_nil (w : World) : Calls Try.prog 76 #[.slice none 0 0, .func (.func 77) #[] #[]] w fun e w' => e = .returned (.tuple #[]) ∧ w' = w := by
  have hS := AnyF.slices_SortFunc_none Try.sortM none 0 (.func (.func 77) #[] #[]) w
  change Calls Try.prog 76 _ _ _ at hS
  refine hS.mono ?_
  rintro e w' ⟨rfl, rfl⟩
  exact ⟨rfl, rfl⟩
end Go.Proofs.Ytbkmfjegbmjknaa
namespace Go.Proofs.Ytbkmfjegbmjknaa
open Go.RowKit
set_option linter.unusedVariables false
set_option maxRecDepth 100000 in
set_option maxHeartbeats 1000000 in
theorem gatherp_any (K : Nat) (cp : Array Value) (L : List (Int × Int)) (w : World) (hL : ∀ x ∈ L, okP x) (hn : L.length ≤ 200) (hen : ∀ args w, (callFunc K args).run Try.prog w = .ok (.enter K args) w)
    (hclo : ∀ i (hi : i < L.length) W, Below w.heap.size w W → Calls Try.prog K (#[.int .i64 (i : Int)] ++ cp) W fun e W' => e = .returned (.agg (encPQ L[i]).toArray) ∧ Below W.heap.size W W') :
    Calls Try.prog 72 #[.int .i64 (L.length : Int), .func (.func K) #[] cp] w (Gat 125 encPQ 2 w L) := by
  have HC := Lib.hid hclo
  have HL := Lib.hid hL
  clear hclo hL
  have hmm := @run_makeMap Try.prog
  go_enter Try.func72, Try.ntmps72
  go_wp2
  have H0 : Hid (∃ vs own, GIx 125 encPQ 2 w (w.alloc (.map #[] 0)) w.heap.size (.slice none 0 0) (.slice none 0 0) (firsts (L.take 0)) (firsts (L.take 0)) (grps (L.take 0)) vs own) := Lib.hid (GIx.start w)
  generalize w.alloc (.map #[] 0) = w1 at H0 ⊢
  generalize hB : w.heap.size = B at H0 ⊢
  have HB := Lib.hid hB
  clear hB
  go_loopw [4, 5, 13] (fun ks gs si wr => ∃ (t : Nat), t ≤ L.length ∧ Hid (∃ vs own, GIx 125 encPQ 2 w wr B ks gs (firsts (L.take t)) (firsts (L.take t)) (grps (L.take t)) vs own) ∧ si = .int .i64 (t : Int)) (fun _ _ si _ => L.length - (intOf si).toNat)
  case atStart => exact ⟨0, by omega, H0, rfl⟩
  case round =>
    clear H0
    obtain ⟨t, ht, HG, rfl⟩ := hrel
    by_cases hlt : t < L.length
    · have hli : (t : Int) < (L.length : Int) := by omega
      obtain ⟨vs, own, hG⟩ := HG.out
      obtain ⟨⟨a, b⟩, hx⟩ : ∃ x, L[t] = x := ⟨_, rfl⟩
      have hok : okP (a, b) := hx ▸ HL.out _ (List.getElem_mem hlt)
      obtain ⟨kl, hkl⟩ := keyOf_arr hok
      have HKL := Lib.hid hkl
      have HCT : Hid (Calls Try.prog K (#[.int .i64 (t : Int)] ++ cp) wr fun e W' => e = .returned (.agg #[.int .i64 a, .int .i64 b]) ∧ Below wr.heap.size wr W') := Lib.hid (by have := HC.out t hlt wr hG.below; rw [hx] at this; exact this)
      have HT : Hid (L.take (t + 1) = L.take t ++ [(a, b)]) := Lib.hid (by rw [take_snoc L hlt, hx])
      have hfl := firsts_len (L.take t)
      have htl : (L.take t).length = t := by simp; omega
      have HTL := Lib.hid htl
      have hfl2 : (firsts (L.take t)).length ≤ 200 := by omega
      have HGX := Lib.hid hG
      clear hG hkl hx htl hfl HG hok
      have hgl : (grps (L.take t)).length = (firsts (L.take t)).length := grps_len _
      have HGL := Lib.hid hgl
      clear hgl
      by_cases hmem : (a, b) ∈ firsts (L.take t)
      · have HM := Lib.hid hmem
        have h0 : 0 < (grps (L.take t)).length := by rw [HGL.out]; exact List.length_pos_of_mem hmem
        obtain ⟨g, cap, egs, _⟩ := HGX.out.slot h0
        subst egs
        clear hmem
        go_wp2_with fail
        refine HCT.out.mono ?_
        rintro e w2 ⟨rfl, hb2⟩
        have HG2 := Lib.hid ((HGX.out.step hb2).step ((Below.refl _ w2).alloc (Nat.le_refl _) (.cells #[.int .i64 a, .int .i64 b] 125)))
        clear hb2 HGX HCT
        go_wp2_with (first
          | (at_lookup; refine wpList_look_yes lawArr Try.underlying160 rfl _ _ rfl B (firsts (L.take t)) (a, b) HG2.out.map HM.out kl HKL.out rfl rfl ?_; intro j hj; have hjl : j < (grps (L.take t)).length := (by rw [HGL.out]; exact (List.getElem?_eq_some_iff.1 hj).1); obtain ⟨g', cap', e', hc, hf, _, _⟩ := HG2.out.slot hjl; cases e'; have hroom : (natI (placesQ (L.take t) (a, b))).length ≤ 200000 := (by rw [natI_len]; have := places_lenQ (L.take t) (a, b); rw [HTL.out] at this; omega); have HJ := Lib.hid hj; clear hj hf; obtain ⟨v, hv⟩ : ∃ v, vs.getD j nilS = v := ⟨_, rfl⟩; rw [hv] at hc; have HG3 := Lib.hid (HG2.out.step ((Below.refl _ (w2.alloc (.cells #[.int .i64 a, .int .i64 b] 125))).alloc (Nat.le_refl _) (.cells #[.int .i64 (t : Int)] 3))); have hin := HG3.out.inn j hjl; rw [hv, grps_getD HJ.out] at hin; have HIN := Lib.hid hin; have HV := Lib.hid hv; clear hv hin)
          | (at_builtin; refine wpList_append_row (enc := encIQ) Try.underlying42 infoInt rfl (by omega) (by omega) encI_len rfl _ _ rfl w.heap.size v (natI (placesQ (L.take t) (a, b))) (t : Int) (encI_one _) rfl HIN.out _ 1 rfl (fun i hi => by obtain rfl : i = 0 := (by omega); exact cell_new' (by simp) _ _ 0) hroom HG3.out.below.size ?_; intro p cap4 w4 ho4 hg4 hl4 hb4 hlt4; obtain ⟨hc4, hf4, own4, hG4⟩ := HG3.out.add hjl rfl (t := t) (by rw [grps_getD HJ.out, natI_snoc]; exact ho4) (by rw [HV.out]; exact hg4) (by rw [HV.out]; exact hl4) hb4; have HG4 := Lib.hid hG4; clear hG4 ho4 hg4 hl4 HG3 HIN hc; rw [HV.out] at hc4))
        go_roundw
        case rel => exact ⟨t + 1, by omega, Lib.hid ⟨_, own4, by
          have h := HG4.out
          rw [HT.out, firsts_old (mem_firsts.1 HM.out), grps_old HJ.out, HTL.out]
          rw [grps_getD HJ.out] at h
          exact h⟩, by go_num⟩
        case measure => simp [intOf]; omega
      · have HM := Lib.hid hmem
        obtain ⟨ka, kcap, rfl, _, _⟩ := own_rowQ encP_lenQ HGX.out.kr
        obtain ⟨ga, gcap, rfl, _, _⟩ := own_rowQ encV_len HGX.out.gr
        clear hmem
        go_wp2_with fail
        refine HCT.out.mono ?_
        rintro e w2 ⟨rfl, hb2⟩
        have HG2 := Lib.hid ((HGX.out.step hb2).step ((Below.refl _ w2).alloc (Nat.le_refl _) (.cells #[.int .i64 a, .int .i64 b] 125)))
        have kc0 := cell_new w2 #[.int .i64 a, .int .i64 b] 125 0
        have kc1 := cell_new w2 #[.int .i64 a, .int .i64 b] 125 1
        have hwo := heap_alloc_new w2 (.cells #[.int .i64 a, .int .i64 b] 125)
        have hBl := (HGX.out.step hb2).map.lt
        have HWO := Lib.hid hwo
        have hvl : vs.length = (firsts (L.take t)).length := by rw [HG2.out.len, HGL.out]
        have hv200 : vs.length ≤ 200000 := by omega
        have hidx : (firsts (L.take t)).length < vs.length + 1 := by omega
        have HVL := Lib.hid hvl
        clear hb2 HGX HCT hwo hvl kc0 kc1
        go_wp2_with (first
          | (at_lookup; refine wpList_look_no lawArr Try.underlying160 rfl _ _ rfl B (firsts (L.take t)) (a, b) HG2.out.map HM.out kl HKL.out rfl rfl ?_)
          | (at_mapUpdate; refine wpList_store_key lawArr Try.underlying160 encP_inj rfl _ _ _ rfl B (firsts (L.take t)) (a, b) HG2.out.map HM.out (by omega) kl HKL.out rfl rfl rfl ?_; intro w3 hm3 hg3; have hkb := (hg3.block w2.heap.size (by simp) (by simp; omega)).trans HWO.out; have kc0 := cell_whole hkb 0; have kc1 := cell_whole hkb 1; simp at kc0 kc1; have HG3 := Lib.hid ((HG2.out.store hm3 hg3).step ((Below.refl _ w3).alloc (Nat.le_refl _) (.cells #[.int .i64 a, .int .i64 b] 125))); clear hm3 hg3 hkb HG2)
          | (at_builtin; refine wpList_append_row (enc := encPQ) Try.underlying122 infoArr rfl (by omega) (by omega) encP_lenQ rfl _ _ rfl w.heap.size _ (firsts (L.take t)) (a, b) (encP_oneQ _) rfl HG3.out.kr _ 1 rfl (fun i hi => cell_newL rfl (encPQ (a, b)) 125 i) (by omega) HG3.out.below.size ?_; intro gk capk w4 ho4 hg4 hl4 hb4 hlt4; obtain ⟨own4, hG4⟩ := HG3.out.key ho4 hg4 hl4 hb4; have HG4 := Lib.hid (hG4.step ((Below.refl _ w4).alloc (Nat.le_refl _) (.cells #[.slice none 0 0] 42))); clear hG4 ho4 hg4 hl4 HG3)
          | (at_builtin; refine wpList_append_row (enc := encVQ) Try.underlying97 infoInts rfl (by omega) (by omega) encV_len rfl _ _ rfl w.heap.size _ vs nilS (by intro u hu; simp [encVQ] at hu; subst hu; rfl) rfl HG4.out.gr _ 1 rfl (fun i hi => cell_newL rfl (encVQ nilS) 42 i) hv200 HG4.out.below.size ?_; intro gg capg w5 ho5 hg5 hl5 hb5 hlt5; obtain ⟨own5, hG5⟩ := HG4.out.group ho5 hg5 hl5 hb5; have hc := (hG5.cell (j := (firsts (L.take t)).length) (by simp [HGL.out]) rfl).1; rw [getD_end _ _ _ HVL.out] at hc; unfold nilS at hc; have HG5 := Lib.hid (hG5.step ((Below.refl _ w5).alloc (Nat.le_refl _) (.cells #[.int .i64 (t : Int)] 3))); clear hG5 ho5 hg5 hl5 HG4)
          | (at_builtin; refine wpList_append_row (enc := encIQ) Try.underlying42 infoInt rfl (by omega) (by omega) encI_len rfl _ _ rfl w.heap.size _ [] (t : Int) (encI_one _) rfl (World.ownsRow_nil _ _ _ _) _ 1 rfl (fun i hi => cell_newL rfl (encIQ (t : Int)) 3 i) (by simp) HG5.out.below.size ?_; intro p cap6 w6 ho6 hg6 hl6 hb6 hlt6; obtain ⟨hc6, hf6, own6, hG6⟩ := HG5.out.add (j := (firsts (L.take t)).length) (by simp [HGL.out]) rfl (t := t) (by rw [getD_end _ _ _ HGL.out]; exact ho6) (by rw [getD_end _ _ _ HVL.out]; exact hg6) (by rw [getD_end _ _ _ HVL.out]; exact hl6) hb6; have HG6 := Lib.hid hG6; clear hG6 ho6 hg6 hl6 HG5 hc; rw [getD_end _ _ _ HVL.out] at hc6; unfold nilS at hc6))
        go_roundw
        case rel => exact ⟨t + 1, by omega, Lib.hid ⟨_, own6, by
          have h := HG6.out
          have hnm : (a, b) ∉ L.take t := fun h => HM.out (mem_firsts.2 h)
          rw [HT.out, firsts_new hnm, grps_new hnm, HTL.out]
          rw [getD_end _ _ _ HGL.out, set_end _ _ _ HGL.out] at h
          exact h⟩, by go_num⟩
        case measure => simp [intOf]; omega
    · obtain rfl : t = L.length := by omega
      obtain ⟨vs, own, hG⟩ := HG.out
      rw [List.take_length] at hG
      have HG2 := Lib.hid hG
      clear hG HG
      go_wp2
      go_ret2
      exact ⟨_, _, vs, own, B, rfl, HG2.out⟩
end Go.Proofs.Ytbkmfjegbmjknaa
namespace Go.Proofs.Ytbkmfjegbmjknaa
open Go.RowKit Go.Sort Go.Shelf
set_option linter.unusedVariables false
abbrev MoveT := Int × Int × Int
def pairsOf (Z : List MoveT) : List (Int × Int) := Z.map fun m => (m.2.1, m.1)
def nAt (Z : List MoveT) (i : Nat) : Int := (Z.getD i (0, 0, 0)).2.2
def nSum (Z : List MoveT) (p : Int × Int) : Int := ((placesQ (pairsOf Z) p).map (nAt Z)).sum
def mkMove (Z : List MoveT) (p : Int × Int) : MoveT := (p.2, p.1, nSum Z p)
def notNil (m : MoveT) : Bool := m.2.2 != 0
def mvs (Z : List MoveT) : List MoveT := ((firsts (pairsOf Z)).map (mkMove Z)).filter notNil
def mvS (Z : List MoveT) : List Int := tots (nAt Z) (grps (pairsOf Z))
theorem mvS_eq (Z : List MoveT) : mvS Z = (firsts (pairsOf Z)).map (nSum Z) := by
  unfold mvS tots grps; rw [List.map_map]; rfl
theorem nAt_eq {Z : List MoveT} {i : Nat} (hi : i < Z.length) : nAt Z i = Z[i].2.2 := by unfold nAt; rw [getD_of_lt hi]
def mvTo (Z : List MoveT) (i : Nat) : List MoveT := (((firsts (pairsOf Z)).take i).map (mkMove Z)).filter notNil
theorem mvTo_step {Z : List MoveT} {i : Nat} {p : Int × Int} (h : (firsts (pairsOf Z))[i]? = some p) : mvTo Z (i + 1) = mvTo Z i ++ if nSum Z p = 0 then [] else [(p.2, p.1, nSum Z p)] := by
  unfold mvTo
  rw [take_snoc' h, List.map_append, List.filter_append]
  congr 1
  by_cases hz : nSum Z p = 0
  · simp [mkMove, notNil, hz]
  · simp [mkMove, notNil, hz]
theorem mvTo_len (Z : List MoveT) (i : Nat) : (mvTo Z i).length ≤ (firsts (pairsOf Z)).length := by
  unfold mvTo
  refine Nat.le_trans (List.length_filter_le _ _) ?_
  simp; omega
theorem mvTo_all (Z : List MoveT) : mvTo Z (firsts (pairsOf Z)).length = mvs Z := by unfold mvTo mvs; rw [List.take_length]
theorem place_ltQ {α : Type} [DecidableEq α] {l : List α} {g : List Nat} (hg : g ∈ grps l) {i : Nat} (hi : i ∈ g) : i < l.length := by
  obtain ⟨k, _, rfl⟩ := List.mem_map.1 hg
  exact (List.getElem?_eq_some_iff.1 (mem_places.1 hi)).1
theorem group_lenQ {α : Type} [DecidableEq α] {l : List α} {g : List Nat} (hg : g ∈ grps l) : g.length ≤ l.length := by
  obtain ⟨k, _, rfl⟩ := List.mem_map.1 hg
  exact places_lenQ _ _
def MovesRes (Z : List MoveT) (w : World) (e : Ending) (w' : World) : Prop :=
  Below w.heap.size w w' ∧ ((AllIn (mvS Z) ∧ ∃ ao cap M, e = .returned (.tuple #[.slice ao M.length cap, .int .i64 0]) ∧ Row encK 3 w' ao M ∧ M.Perm (mvs Z) ∧ Sorted kM M) ∨ (¬ AllIn (mvS Z) ∧ e = .returned (.tuple #[.slice none 0 0, .int .i64 10])))
set_option maxRecDepth 100000 in
set_option maxHeartbeats 4000000 in
theorem moves_any (ao : Option Addr) (cap : Nat) (Z : List MoveT) (w : World) (h : Row encK 3 w ao Z) (hok : ∀ x ∈ Z, okK x) (hn : Z.length ≤ 200) :
    Calls Try.prog 48 #[.slice ao Z.length cap] w (MovesRes Z w) := by
  have HR := Lib.hid h
  have HK := Lib.hid hok
  clear h hok
  have hmf : ∀ (fn : Fn) (first cap : Array Value) (w : World), (Instr.makeFunc fn first cap).run Try.prog w = .ok (.func fn first cap) w := fun _ _ _ _ => rfl
  have hkl : (pairsOf Z).length = Z.length := by simp [pairsOf]
  have HKL := Lib.hid hkl
  have HKO : Hid (∀ x ∈ pairsOf Z, okP x) := Lib.hid (fun x hx => by
    obtain ⟨a, ha, rfl⟩ := List.mem_map.1 hx
    exact ⟨(HK.out a ha).2.1, (HK.out a ha).1⟩)
  have e1 : ∀ args w, (callFunc 73 args).run Try.prog w = .ok (.enter 73 args) w := enters_of Try.func73 (by kernel_rfl) rfl
  have e2 : ∀ args w, (callFunc 75 args).run Try.prog w = .ok (.enter 75 args) w := enters_of Try.func75 (by kernel_rfl) rfl
  have E1 := Lib.hid e1
  have E2 := Lib.hid e2
  clear hkl e1 e2
  go_enter Try.func48, Try.ntmps48
  go_wp2_with fail
  have hb0 := (Below.refl _ w).alloc (Nat.le_refl _) (.cells #[.slice ao Z.length cap] 45)
  have hc0 : (w.alloc (.cells #[.slice ao Z.length cap] 45)).cell? ⟨w.heap.size, 0, none⟩ = some (.slice ao Z.length cap) := cell_new _ _ _ 0
  have hr0 := row_allocQ HR.out (.cells #[.slice ao Z.length cap] 45)
  have hsz0 : (w.alloc (.cells #[.slice ao Z.length cap] 45)).heap.size = w.heap.size + 1 := by simp
  generalize w.alloc (.cells #[.slice ao Z.length cap] 45) = w1 at *
  have HB0 := Lib.hid hb0
  have HC0 := Lib.hid hc0
  have HR0 := Lib.hid hr0
  have HS0 := Lib.hid hsz0
  clear hb0 hc0 hr0 hsz0
  have hcp : ∀ W, Below w1.heap.size w1 W → W.cell? ⟨w.heap.size, 0, none⟩ = some (.slice ao Z.length cap) := fun W hW => by rw [hW.cell (p := ⟨w.heap.size, 0, none⟩) (by rw [HS0.out]; exact Nat.lt_succ_self _)]; exact HC0.out
  have HCP := Lib.hid hcp
  clear hcp
  have hgat := gatherp_any 73 #[.pointer (some ⟨w.heap.size, 0, none⟩)] (pairsOf Z) w1 HKO.out (by rw [HKL.out]; exact hn) E1.out (fun i hi W hW => by
    have hi' : i < Z.length := by rw [← HKL.out]; exact hi
    have := moves1_any i w.heap.size ao cap Z W (HCP.out W hW) (HR0.out.below' hW) hi' hn
    have e : (pairsOf Z)[i] = (Z[i].2.1, Z[i].1) := by simp [pairsOf]
    rw [e]; exact this)
  rw [HKL.out] at hgat
  refine hgat.mono ?_
  rintro e w2 ⟨ks, gs, vs, own, B, rfl, hG⟩
  clear hgat
  obtain ⟨ga, gcap, rfl, hgr⟩ := GRowQ.of hG
  obtain ⟨ka, kcap, rfl, hkr, hka⟩ := own_rowQ encP_lenQ hG.kr
  clear hka
  have HG := Lib.hid hgr
  have HKR := Lib.hid hkr
  have HB2 := Lib.hid hG.below
  clear hgr hkr hG
  go_wp2_with fail
  have hsum := sums_any 75 #[.pointer (some ⟨w.heap.size, 0, none⟩)] ga gcap (grps (pairsOf Z)) (nAt Z) w2 HG.out (by rw [grps_len]; have := firsts_len (pairsOf Z); rw [HKL.out] at this; omega) (fun g hg => by have := group_lenQ hg; rw [HKL.out] at this; omega) E2.out (fun g hg i hi W hW => by
    have hi' : i < Z.length := by rw [← HKL.out]; exact place_ltQ hg hi
    have := moves2_any i w.heap.size ao cap Z W (HCP.out W (HB2.out.trans (hW.mono HB2.out.size))) (HR0.out.below' (HB2.out.trans (hW.mono HB2.out.size))) hi' hn
    rw [nAt_eq hi']; exact this) (fun g hg i hi => by
    have hi' : i < Z.length := by rw [← HKL.out]; exact place_ltQ hg hi
    rw [nAt_eq hi']; exact (HK.out _ (List.getElem_mem hi')).2.2)
  refine hsum.mono ?_
  clear hsum
  rintro e w3 ⟨hb3, ⟨hall, ta, tcap, rfl, htr⟩ | ⟨hall, rfl⟩⟩
  · have hsl : (tots (nAt Z) (grps (pairsOf Z))).length = (firsts (pairsOf Z)).length := by rw [tots_len, grps_len]
    have hfl : (firsts (pairsOf Z)).length ≤ 200 := by have := firsts_len (pairsOf Z); rw [HKL.out] at this; omega
    have hmi : ∀ (i : Nat) (p : Int × Int) (s : Int), (firsts (pairsOf Z))[i]? = some p → (tots (nAt Z) (grps (pairsOf Z)))[i]? = some s → nSum Z p = s ∧ mvTo Z (i + 1) = mvTo Z i ++ if nSum Z p = 0 then [] else [(p.2, p.1, nSum Z p)] := by
      intro i p s hp hs
      have e := mvS_eq Z
      unfold mvS at e
      rw [e, List.getElem?_map, hp] at hs
      cases hs
      exact ⟨rfl, mvTo_step hp⟩
    have HMI := Lib.hid hmi
    have HMA := Lib.hid (mvTo_all Z)
    have HML : Hid (∀ i, (mvTo Z i).length ≤ 200) := Lib.hid (fun i => Nat.le_trans (mvTo_len Z i) hfl)
    have HALL : Hid (AllIn (mvS Z)) := Lib.hid hall
    have HTR := Lib.hid htr
    have HB3 := Lib.hid (HB0.out.trans ((HB2.out.trans (hb3.mono HB2.out.size)).mono HB0.out.size))
    have HKR3 := Lib.hid (HKR.out.below' hb3)
    have HSL := Lib.hid hsl
    clear hall hmi htr hb3 HG HKR HB2 HR0 HC0 HCP HB0 HR hsl
    generalize hKE : firsts (pairsOf Z) = KL at *
    generalize tots (nAt Z) (grps (pairsOf Z)) = SL at *
    clear hKE
    rw [HSL.out]
    go_wp2_with fail
    go_loopw [8, 28] (fun mv si wr => ∃ (i : Nat), i ≤ KL.length ∧ Hid (Below w3.heap.size w3 wr) ∧ Hid (wr.ownsRow w3.heap.size 94 3 mv (mvTo Z i).length ((mvTo Z i).flatMap encK)) ∧ si = .int .i64 (i : Int)) (fun _ si _ => KL.length - (intOf si).toNat)
    case atStart => exact ⟨0, by omega, Lib.hid (Below.refl _ _), Lib.hid (World.ownsRow_nil _ _ _ _), rfl⟩
    case round =>
      obtain ⟨i, hi, HB, HO, rfl⟩ := hrel
      by_cases hlt : i < KL.length
      · have hli : (i : Int) < (KL.length : Int) := by omega
        obtain ⟨kb, ko, e, hkb, k0, k1⟩ := (HKR3.out.below' HB.out).pair hlt
        cases e
        obtain ⟨tb, to, e, htb, t0⟩ := (HTR.out.below' HB.out).num (i := i) (by rw [HSL.out]; exact hlt)
        cases e
        obtain ⟨hs1, htk⟩ := HMI.out i _ _ (List.getElem?_eq_getElem hlt) (List.getElem?_eq_getElem (by rw [HSL.out]; exact hlt))
        rw [hs1] at htk
        have hroom : (mvTo Z i).length ≤ 200000 := by have := HML.out i; omega
        clear hs1
        generalize SL[i]'(by rw [HSL.out]; exact hlt) = s at *
        generalize KL[i] = kk at *
        obtain ⟨a, b⟩ := kk
        simp only at k0 k1 htk
        generalize mvTo Z i = A at *
        have HTK := Lib.hid htk
        have htb2 : tb ≠ wr.heap.size := by omega
        clear htk
        by_cases hs0 : s = 0
        · subst hs0
          have q0 : ((0 : Int) != 0) = false := by simp
          have HT2 : Hid (mvTo Z (i + 1) = A) := Lib.hid (by rw [HTK.out, if_pos rfl, List.append_nil])
          have HO2 := Lib.hid (HO.out.alloc (.cells #[.int .i64 a, .int .i64 b] 125))
          have HB2 := Lib.hid (HB.out.alloc HB.out.size (.cells #[.int .i64 a, .int .i64 b] 125))
          go_wp2
          go_roundw
          case rel => exact ⟨i + 1, by omega, HB2, Lib.hid (by rw [HT2.out]; exact HO2.out), by go_num⟩
          case measure => simp [intOf]; omega
        · have q0 : (s != 0) = true := by simpa using hs0
          have q1 : (s == 0) = false := by simpa using hs0
          have HT2 : Hid (mvTo Z (i + 1) = A ++ [(b, a, s)]) := Lib.hid (by rw [HTK.out, if_neg hs0])
          clear hs0
          go_wp2_with fail
          have n0 : (wr.alloc (.cells #[.int .i64 a, .int .i64 b] 125)).cell? ⟨wr.heap.size, 0, none⟩ = some (.int .i64 a) := cell_new _ _ _ 0
          have n1 : (wr.alloc (.cells #[.int .i64 a, .int .i64 b] 125)).cell? ⟨wr.heap.size, 1, none⟩ = some (.int .i64 b) := cell_new _ _ _ 1
          have t1 := cell_allocQ t0 (.cells #[.int .i64 a, .int .i64 b] 125)
          have HO5 := Lib.hid (HO.out.alloc (.cells #[.int .i64 a, .int .i64 b] 125))
          have HB5 := Lib.hid (HB.out.alloc HB.out.size (.cells #[.int .i64 a, .int .i64 b] 125))
          have hs5 := HB5.out.size
          obtain ⟨i0, hi0, hz0, hz1, hz2⟩ := info_parts infoMove
          have HI := Lib.hid (And.intro hi0 (And.intro hz0 (And.intro hz1 hz2)))
          clear t0 k0 k1 HO HB hi0 hz0 hz1 hz2 q0 q1
          generalize wr.alloc (.cells #[.int .i64 a, .int .i64 b] 125) = w5 at *
          go_region_law ((refine step_append_lies _ (by rfl) _ _ _ (by rfl) w3.heap.size 94 i0 _ 3 24 Try.underlying45 HI.out.1 HI.out.2.1 HI.out.2.2.1 HI.out.2.2.2 rfl (by omega) u8 A.length (A.flatMap encK) (by rfl) ((HO5.out.alloc _).drew) ⟨w5.heap.size, 0, none⟩ 1 1 (encK (b, a, s)) (by rfl) (by rfl) (World.news_of_block (cs := #[.int .i64 b, .int .i64 a, .int .i64 s]) (t := 94) (fr := (0, 0)) (heap_alloc_new w5 _)) (encK_one _) (by omega) (by unfold maxLen; omega) (by omega) (by simp; omega) (w5.heap.size + 1) (by simp) ?_; intro g7 cap7 w7 ho7 hg7 hl7 hlt7; have ho7' : w7.ownsRow w3.heap.size 94 3 (.slice (some ⟨g7, 0, none⟩) (A.length + 1) cap7) (A ++ [(b, a, s)]).length ((A ++ [(b, a, s)]).flatMap encK) := (by rw [List.length_append, List.flatMap_append]; simpa using ho7); have HO7 := Lib.hid ho7'; have hb6 := HB5.out.alloc HB5.out.size (.cells #[.int .i64 b, .int .i64 a, .int .i64 s] 94); have hb6' : Below w3.heap.size w3 (w5.alloc (.cells #[.int .i64 b, .int .i64 a, .int .i64 s] 94)).drew := ⟨hb6.os, hb6.tape, hb6.output, hb6.size, hb6.block⟩; have HB7 := Lib.hid (hb6'.grown hg7 hb6'.size (fun k hk => (HO5.out.lt k hk).1)); clear ho7 ho7' hg7 hl7 hb6 hb6'))
          all_goals
            go_wp2
            go_roundw
            case rel => exact ⟨i + 1, by omega, HB7, Lib.hid (by rw [HT2.out]; exact HO7.out), by go_num⟩
            case measure => simp [intOf]; omega
      · obtain rfl : i = KL.length := by omega
        rw [HMA.out] at HO
        have hml2 : (mvs Z).length ≤ 200 := by have := HML.out KL.length; rwa [HMA.out] at this
        have HBM := Lib.hid (HB3.out.trans (HB.out.mono HB3.out.size))
        have hcase := HO.out.2
        rcases hcase with ⟨rfl, hz⟩ | ⟨g, cp, cur, rfl, hbg, _⟩
        · have hz0 : mvs Z = [] := List.eq_nil_of_length_eq_zero hz
          have HZ0 := Lib.hid hz0
          clear HO hz hz0 hml2
          go_wp2_with (go_at_call 76; refine (sortm_nil _).mono ?_; rintro e w5 ⟨rfl, rfl⟩)
          go_ret2
          exact ⟨HBM.out, .inl ⟨HALL.out, none, 0, [], rfl, Row.nil _ _, by rw [HZ0.out], List.Pairwise.nil⟩⟩
        · have HBG := Lib.hid hbg
          clear hbg
          go_wp2_with (go_at_call 76; refine (sortm_row g cp w3.heap.size (mvs Z) _ HO.out (by omega)).mono ?_; rintro e w5 ⟨rfl, M, hpm, hso, hrw, hkp⟩; have HPM := Lib.hid hpm; have HSO := Lib.hid hso; have HRW := Lib.hid hrw; have HKP := Lib.hid (HBM.out.trans (hkp.below HBM.out.size (fun i hi => by rw [hi]; exact Nat.le_trans HB3.out.size HBG.out))); clear hpm hso hrw hkp)
          go_ret2
          exact ⟨HKP.out, .inl ⟨HALL.out, _, cp, M, by rw [HPM.out.length_eq]; rfl, HRW.out, HPM.out, HSO.out⟩⟩
  · have HB3 := Lib.hid (HB0.out.trans ((HB2.out.trans (hb3.mono HB2.out.size)).mono HB0.out.size))
    have HALL : Hid (¬ AllIn (mvS Z)) := Lib.hid hall
    clear hall hb3
    go_wp2
    go_ret2
    exact ⟨HB3.out, .inr ⟨HALL.out, rfl⟩⟩
end Go.Proofs.Ytbkmfjegbmjknaa
namespace Go.Proofs.Ytbkmfjegbmjknaa
open Go.RowKit
set_option linter.unusedVariables false
theorem sorted_uniqueQ {α : Type} {key : α → Int × Int × Int} {a b : List α} (ha : Sorted key a) (hb : Sorted key b) (hp : a.Perm b) (hi : ∀ x ∈ a, ∀ y ∈ a, key x = key y → x = y) : a = b := by
  refine List.Perm.eq_of_pairwise (le := fun x y => ltK (key y) (key x) = false) ?_ ha hb hp
  intro x y hx hy h1 h2
  apply hi x hx y (hp.mem_iff.2 hy)
  rcases Decidable.em (key x = key y) with h | h
  · exact h
  · rcases ltK_total h with h | h
    · rw [h] at h2; cases h2
    · rw [h] at h1; cases h1
theorem firsts_of_nodup {α : Type} [DecidableEq α] (l : List α) : l.Nodup → firsts l = l := by
  induction l using snoc_induct with
  | h0 => intro _; rfl
  | h1 l x ih =>
    intro h
    rw [List.nodup_append] at h
    obtain ⟨h1, _, h3⟩ := h
    have hx : x ∉ l := fun hm => h3 x hm x (by simp) rfl
    rw [firsts_new hx, ih h1]
def nOf (Z : List MoveT) (p : Int × Int) : Int := ((Z.filter fun m => decide ((m.2.1, m.1) = p)).map fun m => m.2.2).sum
theorem nAt_append {Z : List MoveT} {m : MoveT} {i : Nat} (hi : i < Z.length) : nAt (Z ++ [m]) i = nAt Z i := by
  unfold nAt; rw [getD_append_left hi]
theorem nSum_eq (Z : List MoveT) (p : Int × Int) : nSum Z p = nOf Z p := by
  induction Z using snoc_induct with
  | h0 => rfl
  | h1 Z m ih =>
    have hl : (pairsOf Z).length = Z.length := by simp [pairsOf]
    have e1 : pairsOf (Z ++ [m]) = pairsOf Z ++ [(m.2.1, m.1)] := by simp [pairsOf]
    have e2 : (placesQ (pairsOf Z) p).map (nAt (Z ++ [m])) = (placesQ (pairsOf Z) p).map (nAt Z) := by
      apply List.map_congr_left
      intro i hi
      exact nAt_append (by rw [← hl]; exact (List.getElem?_eq_some_iff.1 (mem_places.1 hi)).1)
    have e3 : nAt (Z ++ [m]) Z.length = m.2.2 := by unfold nAt; rw [getD_end Z m _ rfl]
    unfold nSum nOf at *
    rw [e1, places_snocQ, List.map_append, e2, List.sum_append, ih, List.filter_append, List.map_append, List.sum_append, hl]
    congr 1
    by_cases h : (m.2.1, m.1) = p
    · simp [h, e3]
    · simp [h]
theorem sum_perm {a b : List Int} (h : a.Perm b) : a.sum = b.sum := by
  induction h with
  | nil => rfl
  | cons x _ ih => simp [ih]
  | swap x y l => simp; omega
  | trans _ _ i1 i2 => rw [i1, i2]
theorem mvs_mem {Z : List MoveT} {m : MoveT} (h : m ∈ mvs Z) : ∃ p, p ∈ pairsOf Z ∧ m = mkMove Z p ∧ m.2.2 ≠ 0 := by
  unfold mvs at h
  obtain ⟨h1, h2⟩ := List.mem_filter.1 h
  obtain ⟨p, hp, rfl⟩ := List.mem_map.1 h1
  exact ⟨p, mem_firsts.1 hp, rfl, by simpa [notNil] using h2⟩
theorem mvs_inj {Z : List MoveT} {x y : MoveT} (hx : x ∈ mvs Z) (hy : y ∈ mvs Z) (h : kM x = kM y) : x = y := by
  obtain ⟨p, _, rfl, _⟩ := mvs_mem hx
  obtain ⟨q, _, rfl, _⟩ := mvs_mem hy
  have : p = q := by
    simp only [kM, mkMove, Prod.mk.injEq] at h
    exact Prod.ext h.1 h.2.1
  rw [this]
theorem mvs_len (Z : List MoveT) : (mvs Z).length ≤ Z.length := by
  rw [← mvTo_all]
  refine Nat.le_trans (mvTo_len Z _) ?_
  have := firsts_len (pairsOf Z)
  simpa [pairsOf] using this
theorem mvs_ok {Z : List MoveT} (hk : ∀ x ∈ Z, okK x) (ha : AllIn (mvS Z)) : ∀ x ∈ mvs Z, okK x := by
  intro x hx
  obtain ⟨p, hp, rfl, _⟩ := mvs_mem hx
  obtain ⟨m, hm, rfl⟩ := List.mem_map.1 hp
  rw [mvS_eq] at ha
  exact ⟨(hk m hm).1, (hk m hm).2.1, ha _ (List.mem_map.2 ⟨_, mem_firsts.2 hp, rfl⟩)⟩
theorem filter_one_of {α β : Type} [DecidableEq β] {f : α → β} {l : List α} {m : α} (hm : m ∈ l) (hn : (l.map f).Nodup) : l.filter (fun x => decide (f x = f m)) = [m] := by
  induction l with
  | nil => cases hm
  | cons a l ih =>
    rw [List.map_cons, List.nodup_cons] at hn
    rcases List.mem_cons.1 hm with rfl | h
    · rw [List.filter_cons_of_pos (by simp)]
      congr 1
      apply List.filter_eq_nil_iff.2
      intro x hx e
      apply hn.1
      have e' : f x = f m := of_decide_eq_true e
      rw [← e']; exact List.mem_map.2 ⟨x, hx, rfl⟩
    · have hne : f a ≠ f m := fun e => hn.1 (by rw [e]; exact List.mem_map.2 ⟨m, h, rfl⟩)
      rw [List.filter_cons_of_neg (by simpa using hne)]
      exact ih h hn.2
theorem mvs_nodup (Z : List MoveT) : ((mvs Z).map fun m => (m.2.1, m.1)).Nodup := by
  unfold mvs
  have h0 : (((firsts (pairsOf Z)).map (mkMove Z)).map fun m => (m.2.1, m.1)) = firsts (pairsOf Z) := by
    rw [List.map_map]
    conv => rhs; rw [← List.map_id (firsts (pairsOf Z))]
    apply List.map_congr_left
    intro x _; rfl
  have h1 : (((firsts (pairsOf Z)).map (mkMove Z)).map fun m => (m.2.1, m.1)).Nodup := by rw [h0]; exact nodup_firsts _
  exact List.Nodup.sublist (List.Sublist.map _ List.filter_sublist) h1
theorem mvs_again {M : List MoveT} (hn : (pairsOf M).Nodup) (hz : ∀ m ∈ M, m.2.2 ≠ 0) : mvs M = M ∧ mvS M = M.map fun m => m.2.2 := by
  have e : ∀ m ∈ M, mkMove M (m.2.1, m.1) = m := by
    intro m hm
    have : nSum M (m.2.1, m.1) = m.2.2 := by
      rw [nSum_eq]; unfold nOf
      rw [filter_one_of (f := fun m : MoveT => (m.2.1, m.1)) hm hn]; simp
    unfold mkMove; rw [this]
  constructor
  · unfold mvs
    rw [firsts_of_nodup _ hn]
    have e1 : (pairsOf M).map (mkMove M) = M := by
      unfold pairsOf; rw [List.map_map]
      conv => rhs; rw [← List.map_id M]
      apply List.map_congr_left
      intro m hm; exact e m hm
    rw [e1]
    apply List.filter_eq_self.2
    intro m hm; simp [notNil, hz m hm]
  · rw [mvS_eq, firsts_of_nodup _ hn]
    unfold pairsOf; rw [List.map_map]
    apply List.map_congr_left
    intro m hm
    have := congrArg (fun x : MoveT => x.2.2) (e m hm)
    exact this
end Go.Proofs.Ytbkmfjegbmjknaa
