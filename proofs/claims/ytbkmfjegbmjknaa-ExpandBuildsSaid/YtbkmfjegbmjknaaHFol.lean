/- The course of movements, or the first error: package plan's follow. -/
import Derived.Test.YtbkmfjegbmjknaaHStr
namespace Go.Proofs.Ytbkmfjegbmjknaa
open Go.RowKit
set_option linter.unusedVariables false

theorem nOf_perm {A B : List MoveT} (h : A.Perm B) (p : Int × Int) : nOf A p = nOf B p := sum_perm ((h.filter _).map _)
theorem keys_nodup {M L : List MoveT} (h : M.Perm (mvs L)) : (M.map fun m => (m.2.1, m.1)).Nodup := ((h.map fun m : MoveT => (m.2.1, m.1)).nodup_iff).2 (mvs_nodup L)
theorem nOf_none {M : List MoveT} {p : Int × Int} (h : p ∉ M.map fun m => (m.2.1, m.1)) : nOf M p = 0 := by
  unfold nOf
  rw [List.filter_eq_nil_iff.2]
  · rfl
  · intro m hm e
    exact h (List.mem_map.2 ⟨m, hm, of_decide_eq_true e⟩)
theorem nOf_take {M : List MoveT} (hn : (M.map fun m => (m.2.1, m.1)).Nodup) {j : Nat} (hj : j < M.length) (p : Int × Int) :
    nOf (M.take (j + 1)) p = if p = (M[j].2.1, M[j].1) then M[j].2.2 else nOf (M.take j) p := by
  rw [List.take_succ_eq_append_getElem hj, nOf_snoc]
  by_cases h : p = (M[j].2.1, M[j].1)
  · rw [if_pos h, if_pos h.symm]
    have h2 : nOf (M.take j) p = 0 := nOf_none (by
      intro hm
      rw [List.map_take] at hm
      obtain ⟨i, hi, e⟩ := List.getElem_of_mem hm
      have hi2 : i < j := by rw [List.length_take] at hi; omega
      rw [List.getElem_take] at e
      have h3 := List.pairwise_iff_getElem.1 hn i j (by rw [List.length_map]; omega) (by rw [List.length_map]; exact hj) hi2
      exact h3 (by rw [e, h, List.getElem_map]))
    rw [h2]; omega
  · rw [if_neg h, if_neg (fun e => h e.symm)]; omega
theorem nOf_bd {M : List MoveT} {c : Int} (hc : 0 ≤ c) (hn : (M.map fun m => (m.2.1, m.1)).Nodup) (h : ∀ x ∈ M, 0 ≤ x.2.2 ∧ x.2.2 ≤ c) (p : Int × Int) : 0 ≤ nOf M p ∧ nOf M p ≤ c := by
  by_cases hp : p ∈ M.map fun m => (m.2.1, m.1)
  · obtain ⟨m, hm, rfl⟩ := List.mem_map.1 hp
    unfold nOf
    rw [filter_one_of (f := fun m : MoveT => (m.2.1, m.1)) hm hn]
    simp only [List.map_cons, List.map_nil, List.sum_cons, List.sum_nil]
    have := h m hm
    omega
  · rw [nOf_none hp]; omega
section
variable (n : Int) (b : Bool) (ao : Option Addr) (cap : Nat) (Z : List ArcT) (s t H : Int)
theorem nstart_ok (w : World) (h : Row encA 4 w ao Z) (hz : Z.length ≤ 4398046511104) (he : askE n Z s t H = 0) :
    Calls Try.prog 99 #[.agg #[.int .i64 n, .bool b, .slice ao Z.length cap], .int .i64 s, .int .i64 t, .int .i64 H] w fun e w' => ∃ bm, e = .returned (.tuple #[crsV n b ao Z.length cap s t H bm, .int .i64 0]) ∧ w.heap.size ≤ bm ∧ AmtIs w' bm 0 (fun _ => 0) ∧ Below w.heap.size w w' := by
  refine (nstart_any n b ao cap Z s t H w h hz).mono ?_
  rintro e w' (⟨_, h2⟩ | ⟨h1, _⟩)
  · exact h2
  · exact absurd he h1
theorem nstart_no (e0 : Int) (w : World) (h : Row encA 4 w ao Z) (hz : Z.length ≤ 4398046511104) (he : askE n Z s t H = e0) (h0 : e0 ≠ 0) :
    Calls Try.prog 99 #[.agg #[.int .i64 n, .bool b, .slice ao Z.length cap], .int .i64 s, .int .i64 t, .int .i64 H] w fun e w' => e = .returned (.tuple #[crs0, .int .i64 e0]) ∧ Below w.heap.size w w' := by
  refine (nstart_any n b ao cap Z s t H w h hz).mono ?_
  rintro e w' (⟨h1, _⟩ | ⟨_, h2, h3⟩)
  · exact absurd (he ▸ h1) h0
  · rw [he] at h2; exact ⟨h2, h3⟩
/-- What follow tells. -/
def FolRes (L : List MoveT) (w : World) (e : Ending) (w' : World) : Prop :=
  (mvE n Z s t H L = 0 ∧ ∃ bm m, e = .returned (.tuple #[crsV n b ao Z.length cap s t H bm, .int .i64 0]) ∧ w.heap.size ≤ bm ∧ AmtIs w' bm m (nOf (mvs L)) ∧ Below w.heap.size w w') ∨
    (mvE n Z s t H L ≠ 0 ∧ e = .returned (.tuple #[crs0, .int .i64 (mvE n Z s t H L)]) ∧ Below w.heap.size w w')
set_option maxRecDepth 100000 in
set_option maxHeartbeats 8000000 in
theorem nfollow_no (lo : Option Addr) (lc : Nat) (L : List MoveT) (w : World) (h : Row encA 4 w ao Z) (hz : Z.length ≤ 4398046511104) (he : askE n Z s t H ≠ 0) :
    Calls Try.prog 78 #[.agg #[.int .i64 n, .bool b, .slice ao Z.length cap], .int .i64 s, .int .i64 t, .int .i64 H, .slice lo L.length lc] w (FolRes n b ao cap Z s t H L w) := by
  have hb00 := ((Below.refl _ w).alloc (Nat.le_refl _) (.cells #[.int .i64 n, .bool b, .slice ao Z.length cap] 24)).alloc (by simp) (.cells #[.int .i64 0, .bool false, .slice none 0 0, .int .i64 0, .int .i64 0, .int .i64 0, .map none] 134)
  have hn00 := alloc_whole (heap_alloc_new w (.cells #[.int .i64 n, .bool b, .slice ao Z.length cap] 24)) (.cells #[.int .i64 0, .bool false, .slice none 0 0, .int .i64 0, .int .i64 0, .int .i64 0, .map none] 134)
  have hx00 := new_whole1 w (.cells #[.int .i64 n, .bool b, .slice ao Z.length cap] 24) (.cells #[.int .i64 0, .bool false, .slice none 0 0, .int .i64 0, .int .i64 0, .int .i64 0, .map none] 134)
  have HB := Lib.hid hb00
  have HX := Lib.hid hx00
  have HR := Lib.hid (h.below' hb00)
  have c0 := cell_whole hn00 0
  have c1 := cell_whole hn00 1
  have c2 := cell_whole hn00 2
  have HME : Hid (mvE n Z s t H L = askE n Z s t H) := Lib.hid (mvE_ask he)
  obtain ⟨e0, he0⟩ : ∃ e0, askE n Z s t H = e0 := ⟨_, rfl⟩
  have HE := Lib.hid he0
  rw [he0] at he
  have HN0 := Lib.hid he
  have hf1 : (e0 != 0) = true := by simpa using he
  have hf2 : (e0 == 0) = false := by simpa using he
  have HZL := Lib.hid hz
  clear h hb00 hn00 hx00 he he0 hz
  go_enter Try.func78, Try.ntmps78
  go_wp2_with (first
    | (go_at_call 99; refine (nstart_no n b ao cap Z s t H e0 _ HR.out HZL.out HE.out HN0.out).mono ?_; rintro e w2 ⟨rfl, hb2⟩; unfold crs0; have HB2 := Lib.hid hb2; have HX2 := Lib.hid (kept_box HX.out hb2); clear hb2)
    | ((with_reducible show wpList _ _ _ (Oper.mk none (Op.store 134 (Operand.tmp 12) _) _ _ _ _ :: _) _ _); refine wpList_store_course rfl _ _ rfl _ _ crs0L rfl rfl (heap_alloc_new _ _) rfl rfl crs0L_one ?_; intro w3 hg3 hk3; have HK3 := Lib.hid hk3; clear hg3 hk3)
    | ((with_reducible show wpList _ _ _ (Oper.mk none (Op.store 134 (Operand.tmp 10) _) _ _ _ _ :: _) _ _); refine wpList_store_course rfl _ _ rfl (w.heap.size + 1) _ crs0L rfl rfl (HK3.out.old (alloc_whole HX2.out _) (show ¬ w.heap.size + 1 = w2.heap.size by have := lt_whole HX2.out; omega)) rfl rfl crs0L_one ?_; intro w4 hg4 hk4; have HG4 := Lib.hid hg4; have HK4 := Lib.hid hk4; clear hg4 hk4))
  have k0 := cell_whole HG4.out 0
  have k1 := cell_whole HG4.out 1
  have k2 := cell_whole HG4.out 2
  have k3 := cell_whole HG4.out 3
  have k4 := cell_whole HG4.out 4
  have k5 := cell_whole HG4.out 5
  have k6 := cell_whole HG4.out 6
  unfold crs0L at k0 k1 k2 k3 k4 k5 k6
  have hs := HB.out.size
  have hs2 := HB2.out.size
  have hlt := lt_whole HX2.out
  refine bodyPost_ret (v := .tuple #[crs0, .int .i64 e0]) (by simp [results, Try.results78, go_sem, k0, k1, k2, k3, k4, k5, k6, crs0]) rfl ?_
  have b3 : Below w.heap.size w w3 := (HB.out.trans (HB2.out.mono hs)).trans ((((Below.refl _ w2).alloc (Nat.le_refl _) _).trans (HK3.out.below (by simp) (fun i e => Nat.le_of_eq (Eq.symm e)))).mono (by omega))
  exact .inr ⟨by rw [HME.out, HE.out]; exact HN0.out, by rw [HME.out, HE.out], b3.trans (HK4.out.below b3.size (fun i e => by have e2 : i = w.heap.size + 1 := e; omega))⟩
set_option maxRecDepth 100000 in
set_option maxHeartbeats 8000000 in
theorem nfollow_ok (lo : Option Addr) (lc nl : Nat) (L : List MoveT) (w : World) (h : Row encA 4 w ao Z) (hl : Row encK 3 w lo L) (hok : ∀ x ∈ L, okK x) (hn : L.length ≤ 200) (hnl : Z.length = nl) (he : askE n Z s t H = 0) :
    Calls Try.prog 78 #[.agg #[.int .i64 n, .bool b, .slice ao nl cap], .int .i64 s, .int .i64 t, .int .i64 H, .slice lo L.length lc] w (FolRes n b ao cap Z s t H L w) := by
  obtain ⟨N, i0, j0, hnN, hsN, htN, hi0, hj0, hij, hW, hH0, hH1⟩ := ask_net he
  have hb00 := ((Below.refl _ w).alloc (Nat.le_refl _) (.cells #[.int .i64 n, .bool b, .slice ao nl cap] 24)).alloc (by simp) (.cells #[.int .i64 0, .bool false, .slice none 0 0, .int .i64 0, .int .i64 0, .int .i64 0, .map none] 134)
  have hn00 := alloc_whole (heap_alloc_new w (.cells #[.int .i64 n, .bool b, .slice ao nl cap] 24)) (.cells #[.int .i64 0, .bool false, .slice none 0 0, .int .i64 0, .int .i64 0, .int .i64 0, .map none] 134)
  have hx00 := new_whole1 w (.cells #[.int .i64 n, .bool b, .slice ao nl cap] 24) (.cells #[.int .i64 0, .bool false, .slice none 0 0, .int .i64 0, .int .i64 0, .int .i64 0, .map none] 134)
  have HB := Lib.hid hb00
  have HX := Lib.hid hx00
  have HR0 := Lib.hid h
  have HL0 := Lib.hid hl
  have c0 := cell_whole hn00 0
  have c1 := cell_whole hn00 1
  have c2 := cell_whole hn00 2
  have HE := Lib.hid he
  have HOK := Lib.hid hok
  have HNL := Lib.hid hnl
  have HW := Lib.hid hW
  have hnl2 : nl ≤ 200 := by rw [← hnl]; exact hW.len
  have HCALL : Hid (Calls Try.prog 99 #[.agg #[.int .i64 n, .bool b, .slice ao nl cap], .int .i64 s, .int .i64 t, .int .i64 H] ((w.alloc (.cells #[.int .i64 n, .bool b, .slice ao nl cap] 24)).alloc (.cells #[.int .i64 0, .bool false, .slice none 0 0, .int .i64 0, .int .i64 0, .int .i64 0, .map none] 134)) fun e w' => ∃ bm, e = .returned (.tuple #[crsV n b ao nl cap s t H bm, .int .i64 0]) ∧ ((w.alloc (.cells #[.int .i64 n, .bool b, .slice ao nl cap] 24)).alloc (.cells #[.int .i64 0, .bool false, .slice none 0 0, .int .i64 0, .int .i64 0, .int .i64 0, .map none] 134)).heap.size ≤ bm ∧ AmtIs w' bm 0 (fun _ => 0) ∧ Below ((w.alloc (.cells #[.int .i64 n, .bool b, .slice ao nl cap] 24)).alloc (.cells #[.int .i64 0, .bool false, .slice none 0 0, .int .i64 0, .int .i64 0, .int .i64 0, .map none] 134)).heap.size ((w.alloc (.cells #[.int .i64 n, .bool b, .slice ao nl cap] 24)).alloc (.cells #[.int .i64 0, .bool false, .slice none 0 0, .int .i64 0, .int .i64 0, .int .i64 0, .map none] 134)) w') := Lib.hid (by
    have := nstart_ok n b ao cap Z s t H _ (h.below' hb00) (by omega) he
    rwa [hnl] at this)
  clear h hl hb00 hn00 hx00 he hok hnl hW hnN hsN htN hi0 hj0 hij
  go_enter Try.func78, Try.ntmps78
  go_wp2_with (first
    | (go_at_call 99; refine HCALL.out.mono ?_; rintro e w2 ⟨bm, rfl, hbm, hA2, hb2⟩; unfold crsV; have HA2 := Lib.hid hA2; have HBM := Lib.hid hbm; have HB2 := Lib.hid hb2; have HX2 := Lib.hid (kept_box HX.out hb2); clear hb2 hA2 hbm)
    | ((with_reducible show wpList _ _ _ (Oper.mk none (Op.store 134 (Operand.tmp 12) _) _ _ _ _ :: _) _ _); refine wpList_store_course rfl _ _ rfl _ _ (crsL n b ao nl cap s t H bm) rfl rfl (heap_alloc_new _ _) rfl rfl (crsL_one n b ao nl cap s t H bm) ?_; intro w3 hg3 hk3; have HG3 := Lib.hid hg3; have HK3 := Lib.hid hk3; clear hg3 hk3))
  obtain ⟨g0, hg0⟩ : ∃ g0, w.heap.size = g0 := ⟨_, rfl⟩
  obtain ⟨gC, hgC⟩ : ∃ gC, w2.heap.size = gC := ⟨_, rfl⟩
  have hs := HB.out.size
  have hs2 := HB2.out.size
  have hlt := lt_whole HX2.out
  have hbm2 := HA2.out.lt
  have hbm1 := HBM.out
  rw [show ((w.alloc (.cells #[.int .i64 n, .bool b, .slice ao nl cap] 24)).alloc (.cells #[.int .i64 0, .bool false, .slice none 0 0, .int .i64 0, .int .i64 0, .int .i64 0, .map none] 134)).heap.size = w.heap.size + 2 by simp] at hbm1
  have hb3 : Below w.heap.size w w3 := (HB.out.trans (HB2.out.mono hs)).trans ((((Below.refl _ w2).alloc (Nat.le_refl _) _).trans (HK3.out.below (by simp) (fun i e => Nat.le_of_eq (Eq.symm e)))).mono (by omega))
  have HB3 := Lib.hid hb3
  have HX3 := Lib.hid (HK3.out.old (alloc_whole HX2.out _) (show ¬ w.heap.size + 1 = w2.heap.size by omega))
  have HA3 := Lib.hid (((HA2.out.below ((Below.refl _ w2).alloc (Nat.le_refl _) _))).keptS HK3.out (show ¬ bm = w2.heap.size by omega))
  rw [hgC] at HG3 hlt hbm2 ⊢
  rw [hg0] at HX3 hlt hbm1 ⊢
  have HZ0 := Lib.hid hg0
  clear HX HB HB2 HX2 HA2 HK3 HCALL HBM c0 c1 c2 hgC hg0 hb3 hs hs2
  refine (moves_any lo lc L w3 (HL0.out.below' HB3.out) HOK.out hn).mono ?_
  rintro e w4 ⟨hb4, ⟨hall, mo, mc, M, rfl, hrow, hperm, hsorted⟩ | ⟨hall, rfl⟩⟩
  · have HMP := Lib.hid hperm
    have hml : M.length ≤ 200 := by rw [hperm.length_eq]; exact Nat.le_trans (mvs_len L) hn
    have HOM : Hid (∀ x ∈ M, okK x) := Lib.hid (fun x hx => mvs_ok HOK.out hall x (hperm.mem_iff.1 hx))
    have HND := Lib.hid (keys_nodup hperm)
    have HALL := Lib.hid hall
    have HROW := Lib.hid hrow
    have HX4 := Lib.hid (kept_box HX3.out hb4)
    have HG4 := Lib.hid (kept_box HG3.out hb4)
    have HA4 := Lib.hid (HA3.out.below hb4)
    have HB4 := Lib.hid (HB3.out.trans (hb4.mono HB3.out.size))
    have hsz4 : gC < w4.heap.size := lt_whole HG4.out
    have HA4N : Hid (∀ {g o : Nat} {v : Value}, w4.cell? ⟨g, o, none⟩ = some v → g ≠ bm) := Lib.hid (fun hc => HA4.out.ne_cell hc)
    clear hall hb4 HA3 HX3 HG3 hrow hperm hsorted HL0
    go_wp2_with fail
    go_loopw [40] (fun iv wr => ∃ j : Nat, j ≤ M.length ∧ iv = .int .i64 (j : Int) ∧ Hid (AmtIs wr bm j (nOf (M.take j))) ∧ Hid (Kept (fun i => i = bm) w4 wr) ∧ Hid (∀ x ∈ M.take j, okM Z s t H x = true)) (fun iv _ => M.length - (intOf iv).toNat)
    case atStart => exact ⟨0, Nat.zero_le _, rfl, Lib.hid (HA4.out.congr (fun p => rfl)), Lib.hid (Kept.refl _ _), Lib.hid (fun x hx => by rw [List.take_zero] at hx; cases hx)⟩
    case round =>
      obtain ⟨j, hj, rfl, HAJ, HK, HOJ⟩ := hrel
      clear HA4
      have hbc := HK.out.old HG4.out (show ¬ gC = bm by omega)
      have hbx := HK.out.old HX4.out (show ¬ g0 + 1 = bm by omega)
      have HBJ := Lib.hid (HB4.out.trans (HK.out.below HB4.out.size (fun i e => by have e2 : i = bm := e; have := HZ0.out; omega)))
      unfold crsL at hbc
      by_cases hlt2 : j < M.length
      · have hli : (j : Int) < (M.length : Int) := by omega
        obtain ⟨mb, mx, e, hmb, d0, d1, d2⟩ := Row.tri HROW.out hlt2
        cases e
        have hne := HA4N.out d0
        have d0 := (cell_of_block (HK.out.block mb hmb hne)).trans d0
        have d1 := (cell_of_block (HK.out.block mb hmb hne)).trans d1
        have d2 := (cell_of_block (HK.out.block mb hmb hne)).trans d2
        have hmm := List.getElem_mem hlt2
        obtain ⟨o1, o2, o3⟩ := HOM.out _ hmm
        have HNT := Lib.hid (fun p => nOf_take HND.out hlt2 p)
        have HXM : Hid (M[j] ∈ mvs L) := Lib.hid (HMP.out.mem_iff.1 hmm)
        have HTK : Hid (M.take (j + 1) = M.take j ++ [M[j]]) := Lib.hid (List.take_succ_eq_append_getElem hlt2)
        generalize M[j] = x at *
        obtain ⟨i, u, k⟩ := x
        simp only at d0 d1 d2 o1 o2 o3
        have hbq := alloc_whole hbc (.cells #[.int .i64 i, .int .i64 u, .int .i64 k] 94)
        have hnq := heap_alloc_new wr (.cells #[.int .i64 i, .int .i64 u, .int .i64 k] 94)
        have hxq := alloc_whole hbx (.cells #[.int .i64 i, .int .i64 u, .int .i64 k] 94)
        have HBQ := Lib.hid hbq
        have HNQ := Lib.hid hnq
        have HXQ := Lib.hid hxq
        have hbl := (Below.refl _ wr).alloc (Nat.le_refl _) (.cells #[.int .i64 i, .int .i64 u, .int .i64 k] 94)
        have HAQ := Lib.hid (HAJ.out.below hbl)
        have HKQ := Lib.hid (HK.out.alloc (.cells #[.int .i64 i, .int .i64 u, .int .i64 k] 94))
        have HBQ2 := Lib.hid (HBJ.out.trans (hbl.mono HBJ.out.size))
        have HRQ := Lib.hid (HR0.out.below' HBQ2.out)
        have c0 := cell_whole hbq 0
        have c1 := cell_whole hbq 1
        have c2 := cell_whole hbq 2
        have c3 := cell_whole hbq 3
        have c4 := cell_whole hbq 4
        have c5 := cell_whole hbq 5
        have c6 := cell_whole hbq 6
        have m0 := cell_whole hnq 0
        have m1 := cell_whole hnq 1
        have m2 := cell_whole hnq 2
        have HTM : Hid (∀ a ∈ Z, 0 ≤ a.2.2.2 ∧ a.2.2.2 ≤ 1048576) := Lib.hid HW.out.times
        obtain ⟨q, hq⟩ : ∃ q, okM Z s t H (i, u, k) = q := ⟨_, rfl⟩
        have HQ := Lib.hid hq
        clear hbq hnq hxq hbl hmm hq hbc hbx
        cases q
        · have HME : Hid (mvE n Z s t H L = 140) := Lib.hid (mvE_move HE.out HALL.out HXM.out HQ.out)
          go_wp2_with (first
            | (go_at_call 100; refine (nallows_any n b ao nl cap Z s t H bm i u k _ HRQ.out HNL.out hnl2 ⟨hH0, hH1⟩ HTM.out).mono ?_; rw [HQ.out]; rintro e w5 ⟨rfl, hb5⟩; have HB5 := Lib.hid (HBQ2.out.trans (hb5.mono HBQ2.out.size)); have HX5 := Lib.hid (kept_box HXQ.out hb5); clear hb5)
            | ((with_reducible show wpList _ _ _ (Oper.mk none (Op.store 134 (Operand.tmp 10) _) _ _ _ _ :: _) _ _); refine wpList_store_course rfl _ _ rfl (g0 + 1) _ crs0L rfl rfl HX5.out rfl rfl crs0L_one ?_; intro w6 hg6 hk6; have HG6 := Lib.hid hg6; have HK6 := Lib.hid hk6; clear hg6 hk6))
          have k0 := cell_whole HG6.out 0
          have k1 := cell_whole HG6.out 1
          have k2 := cell_whole HG6.out 2
          have k3 := cell_whole HG6.out 3
          have k4 := cell_whole HG6.out 4
          have k5 := cell_whole HG6.out 5
          have k6 := cell_whole HG6.out 6
          unfold crs0L at k0 k1 k2 k3 k4 k5 k6
          have hz0 := HZ0.out
          refine bodyPost_ret (v := .tuple #[crs0, .int .i64 140]) (by simp [results, Try.results78, go_sem, k0, k1, k2, k3, k4, k5, k6, crs0]) rfl ?_
          exact .inr ⟨by rw [HME.out]; decide, by rw [HME.out], HB5.out.trans (HK6.out.below HB5.out.size (fun i e => by have e2 : i = g0 + 1 := e; omega))⟩
        · have HOJ2 : Hid (∀ x ∈ M.take (j + 1), okM Z s t H x = true) := Lib.hid (by
            rw [HTK.out]
            intro x hx
            rcases List.mem_append.1 hx with hx | hx
            · exact HOJ.out x hx
            · rw [List.mem_singleton.1 hx]; exact HQ.out)
          go_wp2_with (first
            | (go_at_call 100; refine (nallows_any n b ao nl cap Z s t H bm i u k _ HRQ.out HNL.out hnl2 ⟨hH0, hH1⟩ HTM.out).mono ?_; rw [HQ.out]; rintro e w5 ⟨rfl, hb5⟩; have HA5 := Lib.hid (HAQ.out.below hb5); have HK5 := Lib.hid (HKQ.out.trans (Kept.of_below (S := fun i => i = bm) hb5) (fun _ _ e => e)); have hc5 := kept_box HBQ.out hb5; have hn5 := kept_box HNQ.out hb5; have c6 := cell_whole hc5 6; have m0 := cell_whole hn5 0; have m1 := cell_whole hn5 1; have m2 := cell_whole hn5 2; clear hb5 hc5 hn5)
            | (at_mapUpdate; refine wpList_store_amt rfl _ _ _ rfl HA5.out (by omega) _ _ _ o1 o2 o3 rfl rfl rfl ?_; intro w6 ha6 hg6; have HA6 : Hid (AmtIs w6 bm (j + 1) (nOf (M.take (j + 1)))) := Lib.hid (ha6.congr (fun p => (HNT.out p).symm)); have HK6 := Lib.hid (HK5.out.trans (Kept.of_grown (S := fun i => i = bm) hg6 (fun k e => by cases e; rfl)) (fun _ _ e => e)); clear ha6 hg6))
          go_roundw
          case rel => exact ⟨j + 1, by omega, by go_num, HA6, HK6, HOJ2⟩
          case measure => simp [intOf]; omega
      · have hli : ¬ (j : Int) < (M.length : Int) := by omega
        have HAF : Hid (AmtIs wr bm j (nOf (mvs L))) := Lib.hid (HAJ.out.congr (fun p => by rw [List.take_of_length_le (by omega)]; exact nOf_perm HMP.out p))
        have HME : Hid (mvE n Z s t H L = 0) := Lib.hid (mvE_ok.2 ⟨HE.out, HALL.out, fun x hx => HOJ.out x (by rw [List.take_of_length_le (by omega)]; exact HMP.out.mem_iff.2 hx)⟩)
        have c0 := cell_whole hbc 0
        have c1 := cell_whole hbc 1
        have c2 := cell_whole hbc 2
        have c3 := cell_whole hbc 3
        have c4 := cell_whole hbc 4
        have c5 := cell_whole hbc 5
        have c6 := cell_whole hbc 6
        have HXB := Lib.hid hbx
        clear hbc hbx
        go_wp2_with ((with_reducible show wpList _ _ _ (Oper.mk none (Op.store 134 (Operand.tmp 10) _) _ _ _ _ :: _) _ _); refine wpList_store_course rfl _ _ rfl (g0 + 1) _ (crsL n b ao nl cap s t H bm) rfl rfl HXB.out rfl rfl (crsL_one n b ao nl cap s t H bm) ?_; intro w6 hg6 hk6; have HG6 := Lib.hid hg6; have HK6 := Lib.hid hk6; clear hg6 hk6)
        have k0 := cell_whole HG6.out 0
        have k1 := cell_whole HG6.out 1
        have k2 := cell_whole HG6.out 2
        have k3 := cell_whole HG6.out 3
        have k4 := cell_whole HG6.out 4
        have k5 := cell_whole HG6.out 5
        have k6 := cell_whole HG6.out 6
        unfold crsL at k0 k1 k2 k3 k4 k5 k6
        have hz0 := HZ0.out
        refine bodyPost_ret (v := .tuple #[crsV n b ao nl cap s t H bm, .int .i64 0]) (by simp [results, Try.results78, go_sem, k0, k1, k2, k3, k4, k5, k6, crsV]) rfl ?_
        exact .inl ⟨HME.out, bm, j, by rw [HNL.out], by omega, HAF.out.keptS HK6.out (by show ¬ bm = g0 + 1; omega), HBJ.out.trans (HK6.out.below HBJ.out.size (fun i e => by have e2 : i = g0 + 1 := e; omega))⟩
  · have HME : Hid (mvE n Z s t H L = 10) := Lib.hid (mvE_over HE.out hall)
    have HX4 := Lib.hid (kept_box HX3.out hb4)
    have HB4 := Lib.hid (HB3.out.trans (hb4.mono HB3.out.size))
    clear hall hb4 HA3 HX3 HG3
    go_wp2_with ((with_reducible show wpList _ _ _ (Oper.mk none (Op.store 134 (Operand.tmp 10) _) _ _ _ _ :: _) _ _); refine wpList_store_course rfl _ _ rfl (g0 + 1) _ crs0L rfl rfl HX4.out rfl rfl crs0L_one ?_; intro w5 hg5 hk5; have HG5 := Lib.hid hg5; have HK5 := Lib.hid hk5; clear hg5 hk5)
    have k0 := cell_whole HG5.out 0
    have k1 := cell_whole HG5.out 1
    have k2 := cell_whole HG5.out 2
    have k3 := cell_whole HG5.out 3
    have k4 := cell_whole HG5.out 4
    have k5 := cell_whole HG5.out 5
    have k6 := cell_whole HG5.out 6
    unfold crs0L at k0 k1 k2 k3 k4 k5 k6
    have hz0 := HZ0.out
    refine bodyPost_ret (v := .tuple #[crs0, .int .i64 10]) (by simp [results, Try.results78, go_sem, k0, k1, k2, k3, k4, k5, k6, crs0]) rfl ?_
    exact .inr ⟨by rw [HME.out]; decide, by rw [HME.out], HB4.out.trans (HK5.out.below HB4.out.size (fun i e => by have e2 : i = g0 + 1 := e; omega))⟩
end
end Go.Proofs.Ytbkmfjegbmjknaa
