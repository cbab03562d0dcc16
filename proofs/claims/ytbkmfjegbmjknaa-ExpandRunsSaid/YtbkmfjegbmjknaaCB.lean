/- Lemmas of the layers below, several texts in one. -/
import Derived.Test.YtbkmfjegbmjknaaCA
import Derived.Deep.RegionHeld3
import Derived.Test.YtbkmfjegbmjknaaBC
namespace Go.Proofs.Ytbkmfjegbmjknaa
open Go.RowKit
set_option linter.unusedVariables false
theorem sizeCourse : (Try.prog.info? 134).map (·.size) = some 7 := by kernel_rfl
theorem wpList_store_course {w : World} {ops : Array Oper} {rest : List Oper} {o : Oper} {a : Act} {Q : Exit → Act → World → Prop} (hgd : o.guard = none) (x y : Operand) (ho : o.op = .store 134 x y)
    (g : Nat) (c : Array Value) (l : List Value) (hx : a.eval x = .pointer (some ⟨g, 0, none⟩)) (hy : a.eval y = .agg l.toArray) (hg : w.heap[g]? = some (.cells c 134 (0, 0))) (hc : c.size = 7) (hl : l.length = 7) (h1 : ∀ v ∈ l, v.oneCell' = true)
    (h : ∀ w', w'.heap[g]? = some (.cells l.toArray 134 (0, 0)) → Kept (fun i => i = g) w w' → wpList Try.prog ops Q rest (a.put o.dst undef) w') : wpList Try.prog ops Q (o :: rest) a w := by
  refine wpList_plain hgd fun K hK => ?_
  have hs : l.toArray.size = 7 := by rw [List.size_toArray, hl]
  have hrun := run_storeVar_row (P := Try.prog) w g 134 134 c l.toArray hg (by rw [hs]; exact sizeCourse) (by rw [hc, hs]) (all_oneCell_toArray h1)
  unfold Oper.wp execOp
  simp only [ho, hx, hy, Instr.storeAt, Instr.sureAddr, Sem.run_bind, Sem.run_pure, Result.andThen_ok, hrun]
  refine hK _ _ (h _ (setRow_heap w g c _ 134 _ hg) ⟨rfl, rfl, rfl, by simp, fun k _ hk => setRow_other w g k _ (fun e => hk e)⟩)
def crs0 : Value := .agg #[.int .i64 0, .bool false, .slice none 0 0, .int .i64 0, .int .i64 0, .int .i64 0, .map none]
def crsL (n : Int) (b : Bool) (ao : Option Addr) (nl cap : Nat) (s t H : Int) (bm : Nat) : List Value := [.int .i64 n, .bool b, .slice ao nl cap, .int .i64 s, .int .i64 t, .int .i64 H, .map (some bm)]
theorem crsL_one (n : Int) (b : Bool) (ao : Option Addr) (nl cap : Nat) (s t H : Int) (bm : Nat) : ∀ v ∈ crsL n b ao nl cap s t H bm, v.oneCell' = true := by
  intro v hv
  unfold crsL at hv
  simp only [List.mem_cons, List.not_mem_nil, or_false] at hv
  rcases hv with rfl | rfl | rfl | rfl | rfl | rfl | rfl <;> rfl
def crs0L : List Value := [.int .i64 0, .bool false, .slice none 0 0, .int .i64 0, .int .i64 0, .int .i64 0, .map none]
theorem crs0L_one : ∀ v ∈ crs0L, v.oneCell' = true := by
  intro v hv
  unfold crs0L at hv
  simp only [List.mem_cons, List.not_mem_nil, or_false] at hv
  rcases hv with rfl | rfl | rfl | rfl | rfl | rfl | rfl <;> rfl
theorem wor_zero {n : Int} {Z : List ArcT} {s t H : Int} : worE n Z s t (List.replicate Z.length 0) H = askE n Z s t H := by
  by_cases h : askE n Z s t H = 0
  · obtain ⟨N, i, j, rfl, rfl, rfl, _, _, _, hW, _, _⟩ := ask_net h
    rw [(wor_st h (zero_flow Z (fun a ha => (hW.caps a ha).1) N i j)).1, h]
  · unfold worE
    rw [if_neg h]
theorem made_zeros (W : World) (g n : Nat) (hg : W.heap.size = g) : Lst encI (W.alloc (.cells (madeCells #[.int .i64 0] n) 3)) (some ⟨g, 0, none⟩) (List.replicate n 0) := by
  subst hg
  intro i hi
  rw [List.length_replicate] at hi
  refine ⟨W.heap.size, 0, rfl, by simp, ?_⟩
  rw [Nat.zero_add, cell_new, List.getElem_replicate]
  show ((Array.range n).map (fun j => (#[Value.int .i64 0] : Array Value)[j % 1]!))[i]? = _
  rw [Array.getElem?_map, Array.getElem?_range, if_pos hi, Option.map_some, Nat.mod_one]
  rfl
section
variable (n : Int) (b : Bool) (ao : Option Addr) (cap : Nat) (Z : List ArcT) (s t H : Int)
theorem pworth_zero (fo : Option Addr) (fc : Nat) (e0 : Int) (w : World) (h : Row encA 4 w ao Z) (hf : Lst encI w fo (List.replicate Z.length 0)) (hz : Z.length ≤ maxLen) (he : askE n Z s t H = e0) :
    Calls Try.prog 63 #[.agg #[.int .i64 n, .bool b, .slice ao Z.length cap], .int .i64 s, .int .i64 t, .slice fo Z.length fc, .int .i64 H] w fun e w' => ∃ v, e = .returned (.tuple #[.int .i64 v, .int .i64 e0]) ∧ Below w.heap.size w w' := by
  have h1 := pworth_any n b ao fo cap fc Z (List.replicate Z.length 0) s t H w h hf hz (by rw [List.length_replicate]; exact hz)
  rw [List.length_replicate, wor_zero, he] at h1
  exact h1.mono (fun e w' h2 => ⟨_, h2.1, h2.2⟩)
def StrRes (w : World) (e : Ending) (w' : World) : Prop :=
  (askE n Z s t H = 0 ∧ ∃ bm, e = .returned (.tuple #[crsV n b ao Z.length cap s t H bm, .int .i64 0]) ∧ w.heap.size ≤ bm ∧ AmtIs w' bm 0 (fun _ => 0) ∧ Below w.heap.size w w') ∨
    (askE n Z s t H ≠ 0 ∧ e = .returned (.tuple #[crs0, .int .i64 (askE n Z s t H)]) ∧ Below w.heap.size w w')
set_option maxRecDepth 100000 in
set_option maxHeartbeats 8000000 in
theorem nstart_any (w : World) (h : Row encA 4 w ao Z) (hz : Z.length ≤ 4398046511104) :
    Calls Try.prog 99 #[.agg #[.int .i64 n, .bool b, .slice ao Z.length cap], .int .i64 s, .int .i64 t, .int .i64 H] w (StrRes n b ao cap Z s t H w) := by
  have hzm : Z.length ≤ maxLen := by unfold maxLen; omega
  have HZM := Lib.hid hzm
  have hb00 := ((Below.refl _ w).alloc (Nat.le_refl _) (.cells #[.int .i64 n, .bool b, .slice ao Z.length cap] 24)).alloc (by simp) (.cells #[.int .i64 0, .bool false, .slice none 0 0, .int .i64 0, .int .i64 0, .int .i64 0, .map none] 134)
  have hn00 := alloc_whole (heap_alloc_new w (.cells #[.int .i64 n, .bool b, .slice ao Z.length cap] 24)) (.cells #[.int .i64 0, .bool false, .slice none 0 0, .int .i64 0, .int .i64 0, .int .i64 0, .map none] 134)
  have hx00 := new_whole1 w (.cells #[.int .i64 n, .bool b, .slice ao Z.length cap] 24) (.cells #[.int .i64 0, .bool false, .slice none 0 0, .int .i64 0, .int .i64 0, .int .i64 0, .map none] 134)
  have HB := Lib.hid hb00
  have HN := Lib.hid hn00
  have HX := Lib.hid hx00
  have HR := Lib.hid (h.below' hb00)
  have c0 := cell_whole hn00 0
  have c1 := cell_whole hn00 1
  have c2 := cell_whole hn00 2
  have hmk := fun W => run_make_row' (P := Try.prog) 42 3 (.int .i64 0) 8 Try.underlying42 infoInt rfl .i64 .i64 Z.length (by omega) (by omega) W
  have hmm := @run_makeMap Try.prog
  clear h hb00 hn00 hx00 hzm
  go_enter Try.func99, Try.ntmps99
  go_wp2_with fail
  generalize (w.alloc (.cells #[.int .i64 n, .bool b, .slice ao Z.length cap] 24)).alloc (.cells #[.int .i64 0, .bool false, .slice none 0 0, .int .i64 0, .int .i64 0, .int .i64 0, .map none] 134) = w1 at *
  have bA := Lib.hid (below_drew ((Below.refl _ w1).alloc (Nat.le_refl _) (.cells (madeCells #[.int .i64 0] Z.length) 3)))
  have HRm := Lib.hid (HR.out.below' bA.out)
  have HFm : Hid (Lst encI (w1.alloc (.cells (madeCells #[.int .i64 0] Z.length) 3)).drew (some ⟨w1.heap.size, 0, none⟩) (List.replicate Z.length 0)) := Lib.hid (made_zeros w1 _ Z.length rfl)
  obtain ⟨e0, he⟩ : ∃ e0, askE n Z s t H = e0 := ⟨_, rfl⟩
  have HE := Lib.hid he
  clear he
  obtain ⟨g0, hg0⟩ : ∃ g0, w.heap.size = g0 := ⟨_, rfl⟩
  have HZ0 := Lib.hid hg0
  rw [hg0] at HN HX c0 c1 c2 ⊢
  clear hg0
  have hwl : g0 < w1.heap.size := lt_whole HN.out
  go_region_held3 (fun W => W.cell? ⟨g0, 0, none⟩ = some (.int .i64 n) ∧ W.cell? ⟨g0, 1, none⟩ = some (.bool b) ∧ W.cell? ⟨g0, 2, none⟩ = some (.slice ao Z.length cap)) (first | exact ⟨c0, c1, c2⟩ | exact ⟨z0, z1, z2⟩ | go_keep)
    (first | (go_at_call 63; refine (pworth_zero n b ao cap Z s t H _ _ e0 _ HRm.out HFm.out HZM.out HE.out).mono ?_; rintro e w2 ⟨v, rfl, hb2⟩; have HB2 := Lib.hid (bA.out.trans (hb2.mono bA.out.size)); have hn2 := kept_box HN.out HB2.out; have z0 := cell_whole hn2 0; have z1 := cell_whole hn2 1; have z2 := cell_whole hn2 2; clear hb2 hn2))
  all_goals
    clear hmk c0 c1 c2
    have hx2 := kept_box HX.out HB2.out
    have HX2 := Lib.hid hx2
    clear hx2
    by_cases h0 : e0 = 0
    · subst h0
      have HM := Lib.hid (AmtIs.made w2)
      have c0 := cell_alloc z0 (.map #[] 0)
      have c1 := cell_alloc z1 (.map #[] 0)
      have c2 := cell_alloc z2 (.map #[] 0)
      go_wp2_with ((with_reducible show wpList _ _ _ (Oper.mk none (Op.store 134 _ _) _ _ _ _ :: _) _ _); refine wpList_store_course rfl _ _ rfl (g0 + 1) _ (crsL n b ao Z.length cap s t H w2.heap.size) rfl rfl (alloc_whole HX2.out _) rfl rfl (crsL_one n b ao Z.length cap s t H _) ?_; intro w3 hg3 hk3; have HG3 := Lib.hid hg3; have HK3 := Lib.hid hk3; clear hg3 hk3)
      have k0 := cell_whole HG3.out 0
      have k1 := cell_whole HG3.out 1
      have k2 := cell_whole HG3.out 2
      have k3 := cell_whole HG3.out 3
      have k4 := cell_whole HG3.out 4
      have k5 := cell_whole HG3.out 5
      have k6 := cell_whole HG3.out 6
      unfold crsL at k0 k1 k2 k3 k4 k5 k6
      have hlt := lt_whole HX2.out
      have hs := HB.out.size
      have hz0 := HZ0.out
      have hs2 := HB2.out.size
      refine bodyPost_ret (v := .tuple #[crsV n b ao Z.length cap s t H w2.heap.size, .int .i64 0]) (by simp [results, Try.results99, go_sem, k0, k1, k2, k3, k4, k5, k6, crsV]) rfl ?_
      refine .inl ⟨HE.out, _, rfl, by omega, HM.out.keptS HK3.out (by show ¬ w2.heap.size = g0 + 1; omega), ?_⟩
      exact (HB.out.trans (HB2.out.mono hs)).trans (((Below.refl _ w2).alloc (Nat.le_refl _) (.map #[] 0)).mono (by omega) |>.trans (HK3.out.below (by simp; omega) (fun i e => by have e2 : i = g0 + 1 := e; omega)))
    · have hf1 : (e0 != 0) = true := by simpa using h0
      have hf2 : (e0 == 0) = false := by simpa using h0
      go_wp2_with ((with_reducible show wpList _ _ _ (Oper.mk none (Op.store 134 _ _) _ _ _ _ :: _) _ _); refine wpList_store_course rfl _ _ rfl (g0 + 1) _ crs0L rfl rfl HX2.out rfl rfl crs0L_one ?_; intro w3 hg3 hk3; have HG3 := Lib.hid hg3; have HK3 := Lib.hid hk3; clear hg3 hk3)
      have k0 := cell_whole HG3.out 0
      have k1 := cell_whole HG3.out 1
      have k2 := cell_whole HG3.out 2
      have k3 := cell_whole HG3.out 3
      have k4 := cell_whole HG3.out 4
      have k5 := cell_whole HG3.out 5
      have k6 := cell_whole HG3.out 6
      unfold crs0L at k0 k1 k2 k3 k4 k5 k6
      have hs := HB.out.size
      have hz0 := HZ0.out
      have hs2 := HB2.out.size
      refine bodyPost_ret (v := .tuple #[crs0, .int .i64 e0]) (by simp [results, Try.results99, go_sem, k0, k1, k2, k3, k4, k5, k6, crs0]) rfl ?_
      exact .inr ⟨by rw [HE.out]; exact h0, by rw [HE.out], (HB.out.trans (HB2.out.mono hs)).trans (HK3.out.below (by omega) (fun i e => by have e2 : i = g0 + 1 := e; omega))⟩
end
end Go.Proofs.Ytbkmfjegbmjknaa
namespace Go.Proofs.Ytbkmfjegbmjknaa
open Go.RowKit
set_option linter.unusedVariables false
theorem nOf_perm {A B : List MoveT} (h : A.Perm B) (p : Int × Int) : nOf A p = nOf B p := sum_perm ((h.filter _).map _)
theorem keys_nodup {M L : List MoveT} (h : M.Perm (mvs L)) : (M.map fun m => (m.2.1, m.1)).Nodup := ((h.map fun m : MoveT => (m.2.1, m.1)).nodup_iff).2 (mvs_nodup L)
theorem nOf_none {M : List MoveT} {p : Int × Int} (h : p ∉ M.map fun m => (m.2.1, m.1)) : nOf M p = 0 := by
  unfold nOf
  rw [List.filter_eq_nil_iff.2]
  · rfl
  · intro m hm e
    exact h (List.mem_map.2 ⟨m, hm, of_decide_eq_true e⟩)
theorem nOf_take {M : List MoveT} (hn : (M.map fun m => (m.2.1, m.1)).Nodup) {j : Nat} (hj : j < M.length) (p : Int × Int) :
    nOf (M.take (j + 1)) p = if p = (M[j].2.1, M[j].1) then M[j].2.2 else nOf (M.take j) p := by
  rw [List.take_succ_eq_append_getElem hj, nOf_snoc]
  by_cases h : p = (M[j].2.1, M[j].1)
  · rw [if_pos h, if_pos h.symm]
    have h2 : nOf (M.take j) p = 0 := nOf_none (by
      intro hm
      rw [List.map_take] at hm
      obtain ⟨i, hi, e⟩ := List.getElem_of_mem hm
      have hi2 : i < j := by rw [List.length_take] at hi; omega
      rw [List.getElem_take] at e
      have h3 := List.pairwise_iff_getElem.1 hn i j (by rw [List.length_map]; omega) (by rw [List.length_map]; exact hj) hi2
      exact h3 (by rw [e, h, List.getElem_map]))
    rw [h2]; omega
  · rw [if_neg h, if_neg (fun e => h e.symm)]; omega
theorem nOf_bd {M : List MoveT} {c : Int} (hc : 0 ≤ c) (hn : (M.map fun m => (m.2.1, m.1)).Nodup) (h : ∀ x ∈ M, 0 ≤ x.2.2 ∧ x.2.2 ≤ c) (p : Int × Int) : 0 ≤ nOf M p ∧ nOf M p ≤ c := by
  by_cases hp : p ∈ M.map fun m => (m.2.1, m.1)
  · obtain ⟨m, hm, rfl⟩ := List.mem_map.1 hp
    unfold nOf
    rw [filter_one_of (f := fun m : MoveT => (m.2.1, m.1)) hm hn]
    simp only [List.map_cons, List.map_nil, List.sum_cons, List.sum_nil]
    have := h m hm
    omega
  · rw [nOf_none hp]; omega
section
variable (n : Int) (b : Bool) (ao : Option Addr) (cap : Nat) (Z : List ArcT) (s t H : Int)
theorem nstart_ok (w : World) (h : Row encA 4 w ao Z) (hz : Z.length ≤ 4398046511104) (he : askE n Z s t H = 0) :
    Calls Try.prog 99 #[.agg #[.int .i64 n, .bool b, .slice ao Z.length cap], .int .i64 s, .int .i64 t, .int .i64 H] w fun e w' => ∃ bm, e = .returned (.tuple #[crsV n b ao Z.length cap s t H bm, .int .i64 0]) ∧ w.heap.size ≤ bm ∧ AmtIs w' bm 0 (fun _ => 0) ∧ Below w.heap.size w w' := by
  refine (nstart_any n b ao cap Z s t H w h hz).mono ?_
  rintro e w' (⟨_, h2⟩ | ⟨h1, _⟩)
  · exact h2
  · exact absurd he h1
theorem nstart_no (e0 : Int) (w : World) (h : Row encA 4 w ao Z) (hz : Z.length ≤ 4398046511104) (he : askE n Z s t H = e0) (h0 : e0 ≠ 0) :
    Calls Try.prog 99 #[.agg #[.int .i64 n, .bool b, .slice ao Z.length cap], .int .i64 s, .int .i64 t, .int .i64 H] w fun e w' => e = .returned (.tuple #[crs0, .int .i64 e0]) ∧ Below w.heap.size w w' := by
  refine (nstart_any n b ao cap Z s t H w h hz).mono ?_
  rintro e w' (⟨h1, _⟩ | ⟨_, h2, h3⟩)
  · exact absurd (he ▸ h1) h0
  · rw [he] at h2; exact ⟨h2, h3⟩
def FolRes (L : List MoveT) (w : World) (e : Ending) (w' : World) : Prop :=
  (mvE n Z s t H L = 0 ∧ ∃ bm m, e = .returned (.tuple #[crsV n b ao Z.length cap s t H bm, .int .i64 0]) ∧ w.heap.size ≤ bm ∧ AmtIs w' bm m (nOf (mvs L)) ∧ Below w.heap.size w w') ∨
    (mvE n Z s t H L ≠ 0 ∧ e = .returned (.tuple #[crs0, .int .i64 (mvE n Z s t H L)]) ∧ Below w.heap.size w w')
set_option maxRecDepth 100000 in
set_option maxHeartbeats 8000000 in
theorem nfollow_no (lo : Option Addr) (lc : Nat) (L : List MoveT) (w : World) (h : Row encA 4 w ao Z) (hz : Z.length ≤ 4398046511104) (he : askE n Z s t H ≠ 0) :
    Calls Try.prog 78 #[.agg #[.int .i64 n, .bool b, .slice ao Z.length cap], .int .i64 s, .int .i64 t, .int .i64 H, .slice lo L.length lc] w (FolRes n b ao cap Z s t H L w) := by
  have hb00 := ((Below.refl _ w).alloc (Nat.le_refl _) (.cells #[.int .i64 n, .bool b, .slice ao Z.length cap] 24)).alloc (by simp) (.cells #[.int .i64 0, .bool false, .slice none 0 0, .int .i64 0, .int .i64 0, .int .i64 0, .map none] 134)
  have hn00 := alloc_whole (heap_alloc_new w (.cells #[.int .i64 n, .bool b, .slice ao Z.length cap] 24)) (.cells #[.int .i64 0, .bool false, .slice none 0 0, .int .i64 0, .int .i64 0, .int .i64 0, .map none] 134)
  have hx00 := new_whole1 w (.cells #[.int .i64 n, .bool b, .slice ao Z.length cap] 24) (.cells #[.int .i64 0, .bool false, .slice none 0 0, .int .i64 0, .int .i64 0, .int .i64 0, .map none] 134)
  have HB := Lib.hid hb00
  have HX := Lib.hid hx00
  have HR := Lib.hid (h.below' hb00)
  have c0 := cell_whole hn00 0
  have c1 := cell_whole hn00 1
  have c2 := cell_whole hn00 2
  have HME : Hid (mvE n Z s t H L = askE n Z s t H) := Lib.hid (mvE_ask he)
  obtain ⟨e0, he0⟩ : ∃ e0, askE n Z s t H = e0 := ⟨_, rfl⟩
  have HE := Lib.hid he0
  rw [he0] at he
  have HN0 := Lib.hid he
  have hf1 : (e0 != 0) = true := by simpa using he
  have hf2 : (e0 == 0) = false := by simpa using he
  have HZL := Lib.hid hz
  clear h hb00 hn00 hx00 he he0 hz
  go_enter Try.func78, Try.ntmps78
  go_wp2_with (first
    | (go_at_call 99; refine (nstart_no n b ao cap Z s t H e0 _ HR.out HZL.out HE.out HN0.out).mono ?_; rintro e w2 ⟨rfl, hb2⟩; unfold crs0; have HB2 := Lib.hid hb2; have HX2 := Lib.hid (kept_box HX.out hb2); clear hb2)
    | ((with_reducible show wpList _ _ _ (Oper.mk none (Op.store 134 (Operand.tmp 12) _) _ _ _ _ :: _) _ _); refine wpList_store_course rfl _ _ rfl _ _ crs0L rfl rfl (heap_alloc_new _ _) rfl rfl crs0L_one ?_; intro w3 hg3 hk3; have HK3 := Lib.hid hk3; clear hg3 hk3)
    | ((with_reducible show wpList _ _ _ (Oper.mk none (Op.store 134 (Operand.tmp 10) _) _ _ _ _ :: _) _ _); refine wpList_store_course rfl _ _ rfl (w.heap.size + 1) _ crs0L rfl rfl (HK3.out.old (alloc_whole HX2.out _) (show ¬ w.heap.size + 1 = w2.heap.size by have := lt_whole HX2.out; omega)) rfl rfl crs0L_one ?_; intro w4 hg4 hk4; have HG4 := Lib.hid hg4; have HK4 := Lib.hid hk4; clear hg4 hk4))
  have k0 := cell_whole HG4.out 0
  have k1 := cell_whole HG4.out 1
  have k2 := cell_whole HG4.out 2
  have k3 := cell_whole HG4.out 3
  have k4 := cell_whole HG4.out 4
  have k5 := cell_whole HG4.out 5
  have k6 := cell_whole HG4.out 6
  unfold crs0L at k0 k1 k2 k3 k4 k5 k6
  have hs := HB.out.size
  have hs2 := HB2.out.size
  have hlt := lt_whole HX2.out
  refine bodyPost_ret (v := .tuple #[crs0, .int .i64 e0]) (by simp [results, Try.results78, go_sem, k0, k1, k2, k3, k4, k5, k6, crs0]) rfl ?_
  have b3 : Below w.heap.size w w3 := (HB.out.trans (HB2.out.mono hs)).trans ((((Below.refl _ w2).alloc (Nat.le_refl _) _).trans (HK3.out.below (by simp) (fun i e => Nat.le_of_eq (Eq.symm e)))).mono (by omega))
  exact .inr ⟨by rw [HME.out, HE.out]; exact HN0.out, by rw [HME.out, HE.out], b3.trans (HK4.out.below b3.size (fun i e => by have e2 : i = w.heap.size + 1 := e; omega))⟩
set_option maxRecDepth 100000 in
set_option maxHeartbeats 8000000 in
theorem nfollow_ok (lo : Option Addr) (lc nl : Nat) (L : List MoveT) (w : World) (h : Row encA 4 w ao Z) (hl : Row encK 3 w lo L) (hok : ∀ x ∈ L, okK x) (hn : L.length ≤ 200) (hnl : Z.length = nl) (he : askE n Z s t H = 0) :
    Calls Try.prog 78 #[.agg #[.int .i64 n, .bool b, .slice ao nl cap], .int .i64 s, .int .i64 t, .int .i64 H, .slice lo L.length lc] w (FolRes n b ao cap Z s t H L w) := by
  obtain ⟨N, i0, j0, hnN, hsN, htN, hi0, hj0, hij, hW, hH0, hH1⟩ := ask_net he
  have hb00 := ((Below.refl _ w).alloc (Nat.le_refl _) (.cells #[.int .i64 n, .bool b, .slice ao nl cap] 24)).alloc (by simp) (.cells #[.int .i64 0, .bool false, .slice none 0 0, .int .i64 0, .int .i64 0, .int .i64 0, .map none] 134)
  have hn00 := alloc_whole (heap_alloc_new w (.cells #[.int .i64 n, .bool b, .slice ao nl cap] 24)) (.cells #[.int .i64 0, .bool false, .slice none 0 0, .int .i64 0, .int .i64 0, .int .i64 0, .map none] 134)
  have hx00 := new_whole1 w (.cells #[.int .i64 n, .bool b, .slice ao nl cap] 24) (.cells #[.int .i64 0, .bool false, .slice none 0 0, .int .i64 0, .int .i64 0, .int .i64 0, .map none] 134)
  have HB := Lib.hid hb00
  have HX := Lib.hid hx00
  have HR0 := Lib.hid h
  have HL0 := Lib.hid hl
  have c0 := cell_whole hn00 0
  have c1 := cell_whole hn00 1
  have c2 := cell_whole hn00 2
  have HE := Lib.hid he
  have HOK := Lib.hid hok
  have HNL := Lib.hid hnl
  have HW := Lib.hid hW
  have hnl2 : nl ≤ 200 := by rw [← hnl]; exact hW.len
  have HCALL : Hid (Calls Try.prog 99 #[.agg #[.int .i64 n, .bool b, .slice ao nl cap], .int .i64 s, .int .i64 t, .int .i64 H] ((w.alloc (.cells #[.int .i64 n, .bool b, .slice ao nl cap] 24)).alloc (.cells #[.int .i64 0, .bool false, .slice none 0 0, .int .i64 0, .int .i64 0, .int .i64 0, .map none] 134)) fun e w' => ∃ bm, e = .returned (.tuple #[crsV n b ao nl cap s t H bm, .int .i64 0]) ∧ ((w.alloc (.cells #[.int .i64 n, .bool b, .slice ao nl cap] 24)).alloc (.cells #[.int .i64 0, .bool false, .slice none 0 0, .int .i64 0, .int .i64 0, .int .i64 0, .map none] 134)).heap.size ≤ bm ∧ AmtIs w' bm 0 (fun _ => 0) ∧ Below ((w.alloc (.cells #[.int .i64 n, .bool b, .slice ao nl cap] 24)).alloc (.cells #[.int .i64 0, .bool false, .slice none 0 0, .int .i64 0, .int .i64 0, .int .i64 0, .map none] 134)).heap.size ((w.alloc (.cells #[.int .i64 n, .bool b, .slice ao nl cap] 24)).alloc (.cells #[.int .i64 0, .bool false, .slice none 0 0, .int .i64 0, .int .i64 0, .int .i64 0, .map none] 134)) w') := Lib.hid (by
    have := nstart_ok n b ao cap Z s t H _ (h.below' hb00) (by omega) he
    rwa [hnl] at this)
  clear h hl hb00 hn00 hx00 he hok hnl hW hnN hsN htN hi0 hj0 hij
  go_enter Try.func78, Try.ntmps78
  go_wp2_with (first
    | (go_at_call 99; refine HCALL.out.mono ?_; rintro e w2 ⟨bm, rfl, hbm, hA2, hb2⟩; unfold crsV; have HA2 := Lib.hid hA2; have HBM := Lib.hid hbm; have HB2 := Lib.hid hb2; have HX2 := Lib.hid (kept_box HX.out hb2); clear hb2 hA2 hbm)
    | ((with_reducible show wpList _ _ _ (Oper.mk none (Op.store 134 (Operand.tmp 12) _) _ _ _ _ :: _) _ _); refine wpList_store_course rfl _ _ rfl _ _ (crsL n b ao nl cap s t H bm) rfl rfl (heap_alloc_new _ _) rfl rfl (crsL_one n b ao nl cap s t H bm) ?_; intro w3 hg3 hk3; have HG3 := Lib.hid hg3; have HK3 := Lib.hid hk3; clear hg3 hk3))
  obtain ⟨g0, hg0⟩ : ∃ g0, w.heap.size = g0 := ⟨_, rfl⟩
  obtain ⟨gC, hgC⟩ : ∃ gC, w2.heap.size = gC := ⟨_, rfl⟩
  have hs := HB.out.size
  have hs2 := HB2.out.size
  have hlt := lt_whole HX2.out
  have hbm2 := HA2.out.lt
  have hbm1 := HBM.out
  rw [show ((w.alloc (.cells #[.int .i64 n, .bool b, .slice ao nl cap] 24)).alloc (.cells #[.int .i64 0, .bool false, .slice none 0 0, .int .i64 0, .int .i64 0, .int .i64 0, .map none] 134)).heap.size = w.heap.size + 2 by simp] at hbm1
  have hb3 : Below w.heap.size w w3 := (HB.out.trans (HB2.out.mono hs)).trans ((((Below.refl _ w2).alloc (Nat.le_refl _) _).trans (HK3.out.below (by simp) (fun i e => Nat.le_of_eq (Eq.symm e)))).mono (by omega))
  have HB3 := Lib.hid hb3
  have HX3 := Lib.hid (HK3.out.old (alloc_whole HX2.out _) (show ¬ w.heap.size + 1 = w2.heap.size by omega))
  have HA3 := Lib.hid (((HA2.out.below ((Below.refl _ w2).alloc (Nat.le_refl _) _))).keptS HK3.out (show ¬ bm = w2.heap.size by omega))
  rw [hgC] at HG3 hlt hbm2 ⊢
  rw [hg0] at HX3 hlt hbm1 ⊢
  have HZ0 := Lib.hid hg0
  clear HX HB HB2 HX2 HA2 HK3 HCALL HBM c0 c1 c2 hgC hg0 hb3 hs hs2
  refine (moves_any lo lc L w3 (HL0.out.below' HB3.out) HOK.out hn).mono ?_
  rintro e w4 ⟨hb4, ⟨hall, mo, mc, M, rfl, hrow, hperm, hsorted⟩ | ⟨hall, rfl⟩⟩
  · have HMP := Lib.hid hperm
    have hml : M.length ≤ 200 := by rw [hperm.length_eq]; exact Nat.le_trans (mvs_len L) hn
    have HOM : Hid (∀ x ∈ M, okK x) := Lib.hid (fun x hx => mvs_ok HOK.out hall x (hperm.mem_iff.1 hx))
    have HND := Lib.hid (keys_nodup hperm)
    have HALL := Lib.hid hall
    have HROW := Lib.hid hrow
    have HX4 := Lib.hid (kept_box HX3.out hb4)
    have HG4 := Lib.hid (kept_box HG3.out hb4)
    have HA4 := Lib.hid (HA3.out.below hb4)
    have HB4 := Lib.hid (HB3.out.trans (hb4.mono HB3.out.size))
    have hsz4 : gC < w4.heap.size := lt_whole HG4.out
    have HA4N : Hid (∀ {g o : Nat} {v : Value}, w4.cell? ⟨g, o, none⟩ = some v → g ≠ bm) := Lib.hid (fun hc => HA4.out.ne_cell hc)
    clear hall hb4 HA3 HX3 HG3 hrow hperm hsorted HL0
    go_wp2_with fail
    go_loopw [40] (fun iv wr => ∃ j : Nat, j ≤ M.length ∧ iv = .int .i64 (j : Int) ∧ Hid (AmtIs wr bm j (nOf (M.take j))) ∧ Hid (Kept (fun i => i = bm) w4 wr) ∧ Hid (∀ x ∈ M.take j, okM Z s t H x = true)) (fun iv _ => M.length - (intOf iv).toNat)
    case atStart => exact ⟨0, Nat.zero_le _, rfl, Lib.hid (HA4.out.congr (fun p => rfl)), Lib.hid (Kept.refl _ _), Lib.hid (fun x hx => by rw [List.take_zero] at hx; cases hx)⟩
    case round =>
      obtain ⟨j, hj, rfl, HAJ, HK, HOJ⟩ := hrel
      clear HA4
      have hbc := HK.out.old HG4.out (show ¬ gC = bm by omega)
      have hbx := HK.out.old HX4.out (show ¬ g0 + 1 = bm by omega)
      have HBJ := Lib.hid (HB4.out.trans (HK.out.below HB4.out.size (fun i e => by have e2 : i = bm := e; have := HZ0.out; omega)))
      unfold crsL at hbc
      by_cases hlt2 : j < M.length
      · have hli : (j : Int) < (M.length : Int) := by omega
        obtain ⟨mb, mx, e, hmb, d0, d1, d2⟩ := Row.tri HROW.out hlt2
        cases e
        have hne := HA4N.out d0
        have d0 := (cell_of_block (HK.out.block mb hmb hne)).trans d0
        have d1 := (cell_of_block (HK.out.block mb hmb hne)).trans d1
        have d2 := (cell_of_block (HK.out.block mb hmb hne)).trans d2
        have hmm := List.getElem_mem hlt2
        obtain ⟨o1, o2, o3⟩ := HOM.out _ hmm
        have HNT := Lib.hid (fun p => nOf_take HND.out hlt2 p)
        have HXM : Hid (M[j] ∈ mvs L) := Lib.hid (HMP.out.mem_iff.1 hmm)
        have HTK : Hid (M.take (j + 1) = M.take j ++ [M[j]]) := Lib.hid (List.take_succ_eq_append_getElem hlt2)
        generalize M[j] = x at *
        obtain ⟨i, u, k⟩ := x
        simp only at d0 d1 d2 o1 o2 o3
        have hbq := alloc_whole hbc (.cells #[.int .i64 i, .int .i64 u, .int .i64 k] 94)
        have hnq := heap_alloc_new wr (.cells #[.int .i64 i, .int .i64 u, .int .i64 k] 94)
        have hxq := alloc_whole hbx (.cells #[.int .i64 i, .int .i64 u, .int .i64 k] 94)
        have HBQ := Lib.hid hbq
        have HNQ := Lib.hid hnq
        have HXQ := Lib.hid hxq
        have hbl := (Below.refl _ wr).alloc (Nat.le_refl _) (.cells #[.int .i64 i, .int .i64 u, .int .i64 k] 94)
        have HAQ := Lib.hid (HAJ.out.below hbl)
        have HKQ := Lib.hid (HK.out.alloc (.cells #[.int .i64 i, .int .i64 u, .int .i64 k] 94))
        have HBQ2 := Lib.hid (HBJ.out.trans (hbl.mono HBJ.out.size))
        have HRQ := Lib.hid (HR0.out.below' HBQ2.out)
        have c0 := cell_whole hbq 0
        have c1 := cell_whole hbq 1
        have c2 := cell_whole hbq 2
        have c3 := cell_whole hbq 3
        have c4 := cell_whole hbq 4
        have c5 := cell_whole hbq 5
        have c6 := cell_whole hbq 6
        have m0 := cell_whole hnq 0
        have m1 := cell_whole hnq 1
        have m2 := cell_whole hnq 2
        have HTM : Hid (∀ a ∈ Z, 0 ≤ a.2.2.2 ∧ a.2.2.2 ≤ 1048576) := Lib.hid HW.out.times
        obtain ⟨q, hq⟩ : ∃ q, okM Z s t H (i, u, k) = q := ⟨_, rfl⟩
        have HQ := Lib.hid hq
        clear hbq hnq hxq hbl hmm hq hbc hbx
        cases q
        · have HME : Hid (mvE n Z s t H L = 140) := Lib.hid (mvE_move HE.out HALL.out HXM.out HQ.out)
          go_wp2_with (first
            | (go_at_call 100; refine (nallows_any n b ao nl cap Z s t H bm i u k _ HRQ.out HNL.out hnl2 ⟨hH0, hH1⟩ HTM.out).mono ?_; rw [HQ.out]; rintro e w5 ⟨rfl, hb5⟩; have HB5 := Lib.hid (HBQ2.out.trans (hb5.mono HBQ2.out.size)); have HX5 := Lib.hid (kept_box HXQ.out hb5); clear hb5)
            | ((with_reducible show wpList _ _ _ (Oper.mk none (Op.store 134 (Operand.tmp 10) _) _ _ _ _ :: _) _ _); refine wpList_store_course rfl _ _ rfl (g0 + 1) _ crs0L rfl rfl HX5.out rfl rfl crs0L_one ?_; intro w6 hg6 hk6; have HG6 := Lib.hid hg6; have HK6 := Lib.hid hk6; clear hg6 hk6))
          have k0 := cell_whole HG6.out 0
          have k1 := cell_whole HG6.out 1
          have k2 := cell_whole HG6.out 2
          have k3 := cell_whole HG6.out 3
          have k4 := cell_whole HG6.out 4
          have k5 := cell_whole HG6.out 5
          have k6 := cell_whole HG6.out 6
          unfold crs0L at k0 k1 k2 k3 k4 k5 k6
          have hz0 := HZ0.out
          refine bodyPost_ret (v := .tuple #[crs0, .int .i64 140]) (by simp [results, Try.results78, go_sem, k0, k1, k2, k3, k4, k5, k6, crs0]) rfl ?_
          exact .inr ⟨by rw [HME.out]; decide, by rw [HME.out], HB5.out.trans (HK6.out.below HB5.out.size (fun i e => by have e2 : i = g0 + 1 := e; omega))⟩
        · have HOJ2 : Hid (∀ x ∈ M.take (j + 1), okM Z s t H x = true) := Lib.hid (by
            rw [HTK.out]
            intro x hx
            rcases List.mem_append.1 hx with hx | hx
            · exact HOJ.out x hx
            · rw [List.mem_singleton.1 hx]; exact HQ.out)
          go_wp2_with (first
            | (go_at_call 100; refine (nallows_any n b ao nl cap Z s t H bm i u k _ HRQ.out HNL.out hnl2 ⟨hH0, hH1⟩ HTM.out).mono ?_; rw [HQ.out]; rintro e w5 ⟨rfl, hb5⟩; have HA5 := Lib.hid (HAQ.out.below hb5); have HK5 := Lib.hid (HKQ.out.trans (Kept.of_below (S := fun i => i = bm) hb5) (fun _ _ e => e)); have hc5 := kept_box HBQ.out hb5; have hn5 := kept_box HNQ.out hb5; have c6 := cell_whole hc5 6; have m0 := cell_whole hn5 0; have m1 := cell_whole hn5 1; have m2 := cell_whole hn5 2; clear hb5 hc5 hn5)
            | (at_mapUpdate; refine wpList_store_amt rfl _ _ _ rfl HA5.out (by omega) _ _ _ o1 o2 o3 rfl rfl rfl ?_; intro w6 ha6 hg6; have HA6 : Hid (AmtIs w6 bm (j + 1) (nOf (M.take (j + 1)))) := Lib.hid (ha6.congr (fun p => (HNT.out p).symm)); have HK6 := Lib.hid (HK5.out.trans (Kept.of_grown (S := fun i => i = bm) hg6 (fun k e => by cases e; rfl)) (fun _ _ e => e)); clear ha6 hg6))
          go_roundw
          case rel => exact ⟨j + 1, by omega, by go_num, HA6, HK6, HOJ2⟩
          case measure => simp [intOf]; omega
      · have hli : ¬ (j : Int) < (M.length : Int) := by omega
        have HAF : Hid (AmtIs wr bm j (nOf (mvs L))) := Lib.hid (HAJ.out.congr (fun p => by rw [List.take_of_length_le (by omega)]; exact nOf_perm HMP.out p))
        have HME : Hid (mvE n Z s t H L = 0) := Lib.hid (mvE_ok.2 ⟨HE.out, HALL.out, fun x hx => HOJ.out x (by rw [List.take_of_length_le (by omega)]; exact HMP.out.mem_iff.2 hx)⟩)
        have c0 := cell_whole hbc 0
        have c1 := cell_whole hbc 1
        have c2 := cell_whole hbc 2
        have c3 := cell_whole hbc 3
        have c4 := cell_whole hbc 4
        have c5 := cell_whole hbc 5
        have c6 := cell_whole hbc 6
        have HXB := Lib.hid hbx
        clear hbc hbx
        go_wp2_with ((with_reducible show wpList _ _ _ (Oper.mk none (Op.store 134 (Operand.tmp 10) _) _ _ _ _ :: _) _ _); refine wpList_store_course rfl _ _ rfl (g0 + 1) _ (crsL n b ao nl cap s t H bm) rfl rfl HXB.out rfl rfl (crsL_one n b ao nl cap s t H bm) ?_; intro w6 hg6 hk6; have HG6 := Lib.hid hg6; have HK6 := Lib.hid hk6; clear hg6 hk6)
        have k0 := cell_whole HG6.out 0
        have k1 := cell_whole HG6.out 1
        have k2 := cell_whole HG6.out 2
        have k3 := cell_whole HG6.out 3
        have k4 := cell_whole HG6.out 4
        have k5 := cell_whole HG6.out 5
        have k6 := cell_whole HG6.out 6
        unfold crsL at k0 k1 k2 k3 k4 k5 k6
        have hz0 := HZ0.out
        refine bodyPost_ret (v := .tuple #[crsV n b ao nl cap s t H bm, .int .i64 0]) (by simp [results, Try.results78, go_sem, k0, k1, k2, k3, k4, k5, k6, crsV]) rfl ?_
        exact .inl ⟨HME.out, bm, j, by rw [HNL.out], by omega, HAF.out.keptS HK6.out (by show ¬ bm = g0 + 1; omega), HBJ.out.trans (HK6.out.below HBJ.out.size (fun i e => by have e2 : i = g0 + 1 := e; omega))⟩
  · have HME : Hid (mvE n Z s t H L = 10) := Lib.hid (mvE_over HE.out hall)
    have HX4 := Lib.hid (kept_box HX3.out hb4)
    have HB4 := Lib.hid (HB3.out.trans (hb4.mono HB3.out.size))
    clear hall hb4 HA3 HX3 HG3
    go_wp2_with ((with_reducible show wpList _ _ _ (Oper.mk none (Op.store 134 (Operand.tmp 10) _) _ _ _ _ :: _) _ _); refine wpList_store_course rfl _ _ rfl (g0 + 1) _ crs0L rfl rfl HX4.out rfl rfl crs0L_one ?_; intro w5 hg5 hk5; have HG5 := Lib.hid hg5; have HK5 := Lib.hid hk5; clear hg5 hk5)
    have k0 := cell_whole HG5.out 0
    have k1 := cell_whole HG5.out 1
    have k2 := cell_whole HG5.out 2
    have k3 := cell_whole HG5.out 3
    have k4 := cell_whole HG5.out 4
    have k5 := cell_whole HG5.out 5
    have k6 := cell_whole HG5.out 6
    unfold crs0L at k0 k1 k2 k3 k4 k5 k6
    have hz0 := HZ0.out
    refine bodyPost_ret (v := .tuple #[crs0, .int .i64 10]) (by simp [results, Try.results78, go_sem, k0, k1, k2, k3, k4, k5, k6, crs0]) rfl ?_
    exact .inr ⟨by rw [HME.out]; decide, by rw [HME.out], HB4.out.trans (HK5.out.below HB4.out.size (fun i e => by have e2 : i = g0 + 1 := e; omega))⟩
end
end Go.Proofs.Ytbkmfjegbmjknaa
namespace Go.Proofs.Ytbkmfjegbmjknaa
set_option linter.unusedVariables false
section
variable {Z : List ArcT}
theorem chgF_add (f g : Int × Int → Int) (j c a v : Nat) : chgF Z (fun p => f p + g p) j c a v = chgF Z f j c a v + chgF Z g j c a v := by
  unfold chgF
  simp only []
  split <;> split <;> omega
def allC (Z : List ArcT) (f : Int × Int → Int) (H a v : Nat) : Int := sumTo (fun b => chgK Z f H Z.length 0 b v) (a + 1)
theorem chgK_all (f : Int × Int → Int) (H a v : Nat) : chgK Z f H Z.length 0 a v = sumTo (fun j => sumTo (fun b => chgF Z f j b a v) (cntT Z H j)) Z.length := by
  unfold chgK
  simp only [sumTo]
  omega
theorem allC_add (f g : Int × Int → Int) (H a v : Nat) : allC Z (fun p => f p + g p) H a v = allC Z f H a v + allC Z g H a v := by
  unfold allC
  rw [← sumTo_add]
  refine sumTo_congr (fun b _ => ?_)
  rw [chgK_all, chgK_all, chgK_all, ← sumTo_add]
  refine sumTo_congr (fun j _ => ?_)
  rw [← sumTo_add]
  exact sumTo_congr (fun c _ => chgF_add f g j c b v)
theorem allC_zero (H a v : Nat) : allC Z (fun _ => 0) H a v = 0 := by
  unfold allC
  refine (sumTo_congr (h := fun _ => 0) (fun b _ => ?_)).trans (sumTo_zero _)
  rw [chgK_all]
  refine (sumTo_congr (h := fun _ => 0) (fun j _ => ?_)).trans (sumTo_zero _)
  refine (sumTo_congr (h := fun _ => 0) (fun c _ => ?_)).trans (sumTo_zero _)
  unfold chgF
  split <;> split <;> rfl
theorem smT_at {P : Prop} [Decidable P] (c : Nat) (k : Int) (n : Nat) : sumTo (fun b => if b = c ∧ P then k else 0) n = if c < n ∧ P then k else 0 := by
  by_cases hP : P
  · rw [sumTo_congr (h := fun b => if b = c then k else 0) (fun b _ => by simp [hP]), smT_pick (fun _ => k)]
    simp [hP]
  · rw [sumTo_congr (h := fun _ => 0) (fun b _ => by simp [hP]), sumTo_zero]
    simp [hP]
theorem allC_one {N H i u : Nat} {k : Int} (hW : SpanNet Z N) (hi : i < Z.length) (hu : u + tmJ Z i ≤ H) (a v : Nat) :
    allC Z (fun p => if ((u : Int), (i : Int)) = p then k else 0) H a v = k * wgt Z (v : Int) (a : Int) ((u : Int), (i : Int)) := by
  have hm := List.getElem_mem hi
  obtain ⟨e1, e2⟩ := hW.ends _ hm
  have e3 := (hW.times _ hm).1
  have hF : ∀ j c b, chgF Z (fun p => if ((u : Int), (i : Int)) = p then k else 0) j c b v = if c = u then (if j = i then ((if b = u + tmJ Z i ∧ v = toJ Z i then k else 0) - (if b = u ∧ v = frJ Z i then k else 0)) else 0) else 0 := by
    intro j c b
    unfold chgF
    simp only []
    by_cases h1 : c = u
    · by_cases h2 : j = i
      · subst h1; subst h2
        rw [if_pos (show ((c : Int), (j : Int)) = ((c : Int), (j : Int)) from rfl), if_pos (show c = c from rfl), if_pos (show j = j from rfl)]
      · rw [if_pos h1, if_neg h2]
        have h3 : ¬ ((u : Int), (i : Int)) = ((c : Int), (j : Int)) := fun e => h2 (by have := congrArg Prod.snd e; simp only at this; omega)
        rw [if_neg h3]
        split <;> split <;> rfl
    · rw [if_neg h1]
      have h3 : ¬ ((u : Int), (i : Int)) = ((c : Int), (j : Int)) := fun e => h1 (by have := congrArg Prod.fst e; simp only at this; omega)
      rw [if_neg h3]
      split <;> split <;> rfl
  have hK : ∀ b, chgK Z (fun p => if ((u : Int), (i : Int)) = p then k else 0) H Z.length 0 b v = (if b = u + tmJ Z i ∧ v = toJ Z i then k else 0) - (if b = u ∧ v = frJ Z i then k else 0) := by
    intro b
    rw [chgK_all]
    have h1 : ∀ j, j < Z.length → sumTo (fun c => chgF Z (fun p => if ((u : Int), (i : Int)) = p then k else 0) j c b v) (cntT Z H j) = if j = i then (if u < cntT Z H j then ((if b = u + tmJ Z i ∧ v = toJ Z i then k else 0) - (if b = u ∧ v = frJ Z i then k else 0)) else 0) else 0 := by
      intro j _
      rw [sumTo_congr (fun c _ => hF j c b), smT_pick (fun _ => if j = i then ((if b = u + tmJ Z i ∧ v = toJ Z i then k else 0) - (if b = u ∧ v = frJ Z i then k else 0)) else 0)]
      by_cases h2 : j = i
      · rw [if_pos h2, if_pos h2]
      · rw [if_neg h2, if_neg h2]; split <;> rfl
    rw [sumTo_congr h1, smT_pick (fun j => if u < cntT Z H j then ((if b = u + tmJ Z i ∧ v = toJ Z i then k else 0) - (if b = u ∧ v = frJ Z i then k else 0)) else 0), if_pos hi, if_pos (by unfold cntT; omega)]
  unfold allC
  rw [sumTo_congr (fun b _ => hK b), smT_sub, smT_at, smT_at]
  unfold wgt
  have ht : tmJ Z i = Z[i].2.2.2.toNat := by unfold tmJ; rw [arcI_at hi]
  have h4 : toJ Z i = toN Z[i] := by unfold toJ toN; rw [arcI_at hi]
  have h5 : frJ Z i = frN Z[i] := by unfold frJ frN; rw [arcI_at hi]
  unfold tm at e3
  simp only
  rw [arcI_at hi, e1, e2, h4, h5]
  have q1 : (u + tmJ Z i < a + 1 ∧ v = toN Z[i]) ↔ ((toN Z[i] : Int) = (v : Int) ∧ (u : Int) + Z[i].2.2.2 ≤ (a : Int)) := by omega
  have q2 : (u < a + 1 ∧ v = frN Z[i]) ↔ ((frN Z[i] : Int) = (v : Int) ∧ (u : Int) ≤ (a : Int)) := by omega
  by_cases p1 : u + tmJ Z i < a + 1 ∧ v = toN Z[i]
  · by_cases p2 : u < a + 1 ∧ v = frN Z[i]
    · rw [if_pos p1, if_pos p2, if_pos (q1.1 p1), if_pos (q2.1 p2)]; omega
    · rw [if_pos p1, if_neg p2, if_pos (q1.1 p1), if_neg (fun e => p2 (q2.2 e))]; omega
  · by_cases p2 : u < a + 1 ∧ v = frN Z[i]
    · rw [if_neg p1, if_pos p2, if_neg (fun e => p1 (q1.2 e)), if_pos (q2.1 p2)]; omega
    · rw [if_neg p1, if_neg p2, if_neg (fun e => p1 (q1.2 e)), if_neg (fun e => p2 (q2.2 e))]; omega
theorem allC_stk {N H : Nat} {s t : Int} (hW : SpanNet Z N) (a v : Nat) : ∀ {M : List MoveT}, (∀ x ∈ M, okM Z s t (H : Int) x = true) → allC Z (nOf M) H a v = stk Z M (v : Int) (a : Int)
  | [], _ => allC_zero H a v
  | x :: M, h => by
    have ih := allC_stk hW a v (M := M) (fun y hy => h y (List.mem_cons_of_mem _ hy))
    obtain ⟨h1, h2, h3, h4, _⟩ := okM_yes.1 (h x List.mem_cons_self)
    obtain ⟨i, u, k⟩ := x
    simp only at h1 h2 h3 h4
    obtain ⟨i, rfl⟩ : ∃ p : Nat, i = (p : Int) := ⟨i.toNat, by omega⟩
    obtain ⟨u, rfl⟩ : ∃ p : Nat, u = (p : Int) := ⟨u.toNat, by omega⟩
    have hi : i < Z.length := by omega
    have e3 := (hW.times _ (List.getElem_mem hi)).1
    unfold tm at e3
    rw [arcI_at hi] at h4
    have hu : u + tmJ Z i ≤ H := by unfold tmJ; rw [arcI_at hi]; omega
    have e : nOf (((i : Int), (u : Int), k) :: M) = fun p => (if ((u : Int), (i : Int)) = p then k else 0) + nOf M p := funext fun p => nOf_cons _ M p
    rw [e, allC_add, allC_one hW hi hu, ih, stk_cons]
theorem stk_out {N H : Nat} {s t : Int} (hW : SpanNet Z N) {v : Nat} (hv : N ≤ v) (u : Int) : ∀ {M : List MoveT}, (∀ x ∈ M, okM Z s t (H : Int) x = true) → stk Z M (v : Int) u = 0
  | [], _ => rfl
  | x :: M, h => by
    rw [stk_cons, stk_out hW hv u (M := M) (fun y hy => h y (List.mem_cons_of_mem _ hy))]
    obtain ⟨h1, h2, _⟩ := okM_yes.1 (h x List.mem_cons_self)
    obtain ⟨i, u2, k⟩ := x
    simp only at h1 h2 ⊢
    obtain ⟨i, rfl⟩ : ∃ p : Nat, i = (p : Int) := ⟨i.toNat, by omega⟩
    have hi : i < Z.length := by omega
    obtain ⟨e1, e2⟩ := hW.ends _ (List.getElem_mem hi)
    obtain ⟨e3, e4⟩ := hW.lt _ (List.getElem_mem hi)
    unfold wgt
    simp only
    rw [arcI_at hi, e1, e2, if_neg (by omega), if_neg (by omega)]
    omega
theorem plan_same {N s t H : Nat} {hold : Bool} {S : Nat → Nat → Int} {L M : List MoveT} (hW : SpanNet Z N) (hM : ∀ x ∈ M, okM Z (s : Int) (t : Int) (H : Int) x = true) (hS : ∀ a v, a ≤ H → S a v = stk Z M (v : Int) (a : Int)) (hL : ∀ v u, stk Z M v u = stk Z L v u) :
    planG S 50 s t H hold = planB Z L N s t H hold := by
  have hn := hW.nodes
  have h1 : planG S 50 s t H hold = true ↔ planB Z L N s t H hold = true := by
    unfold planB
    rw [planG_is, planG_is]
    constructor
    · intro h u hu v hv hs ht
      have := h u hu v (by omega) hs ht
      rw [hS u v hu, hL] at this
      exact this
    · intro h u hu v hv hs ht
      rw [hS u v hu]
      by_cases hv2 : v < N
      · have := h u hu v hv2 hs ht
        rw [hL]
        exact this
      · rw [stk_out hW (by omega) _ hM]
        exact ⟨Int.le_refl _, .inl rfl⟩
  cases h2 : planG S 50 s t H hold with
  | true => rw [h1.1 h2]
  | false =>
    cases h3 : planB Z L N s t H hold with
    | true => rw [h1.2 h3] at h2; cases h2
    | false => rfl
end
end Go.Proofs.Ytbkmfjegbmjknaa
namespace Go.Proofs.Ytbkmfjegbmjknaa
open Go.RowKit
set_option linter.unusedVariables false
def IRow (w : World) (ga : Option Addr) (G : List (List Int)) : Prop := ∀ i (hi : i < G.length), ∃ b o ao cap, ga = some ⟨b, o, none⟩ ∧ b < w.heap.size ∧ w.cell? ⟨b, o + i, none⟩ = some (.slice ao G[i].length cap) ∧ Lst encI w ao G[i]
theorem IRow.below {w w' : World} {ga : Option Addr} {G : List (List Int)} (h : IRow w ga G) (hb : Below w.heap.size w w') : IRow w' ga G := by
  intro i hi
  obtain ⟨b, o, ao, cap, e, h1, h2, h3⟩ := h i hi
  exact ⟨b, o, ao, cap, e, Nat.lt_of_lt_of_le h1 hb.size, by rw [hb.cell h1]; exact h2, h3.below hb⟩
def RIw (w0 w : World) (ov : Value) (G : List (List Int)) : Prop := ∃ vs : List Value, OwnL encV w w0.heap.size 42 ov vs ∧ vs.length = G.length ∧
  ∀ i (hi : i < G.length), ∃ ao cap, vs[i]? = some (.slice ao G[i].length cap) ∧ Lst encI w ao G[i] ∧ ∀ ad, ao = some ad → 0 < G[i].length → some ad.block ≠ ov.ownBlock
theorem RIw.start (w : World) : RIw w w (.slice none 0 0) [] := ⟨[], OwnL.nil _ _ _, rfl, fun i hi => absurd hi (by simp)⟩
theorem RIw.below {w0 w w' : World} {ov : Value} {G : List (List Int)} (h : RIw w0 w ov G) (hb : Below w.heap.size w w') : RIw w0 w' ov G := by
  obtain ⟨vs, h1, h2, h3⟩ := h
  refine ⟨vs, h1.below hb, h2, fun i hi => ?_⟩
  obtain ⟨ao, cap, e1, e2, e3⟩ := h3 i hi
  exact ⟨ao, cap, e1, e2.below hb, e3⟩
theorem RIw.push {w0 w w' : World} {ov : Value} {G : List (List Int)} {vs : List Value} (h2 : vs.length = G.length)
    (h3 : ∀ i (hi : i < G.length), ∃ ao cap, vs[i]? = some (.slice ao G[i].length cap) ∧ Lst encI w ao G[i] ∧ ∀ ad, ao = some ad → 0 < G[i].length → some ad.block ≠ ov.ownBlock)
    {a : Option Addr} {g : List Int} {c : Nat} (hr : Lst encI w a g) (hn : ∀ ad, a = some ad → 0 < g.length → some ad.block ≠ ov.ownBlock) {gg n cap : Nat}
    (ho : OwnL encV w' w0.heap.size 42 (.slice (some ⟨gg, 0, none⟩) n cap) (vs ++ [Value.slice a g.length c])) (hg : w.grownBy w' ov.ownBlock) (hl : ov.ownBlock = some gg ∨ gg = w.heap.size) :
    RIw w0 w' (.slice (some ⟨gg, 0, none⟩) n cap) (G ++ [g]) := by
  have fresh : ∀ (ao : Option Addr) (l : List Int), Lst encI w ao l → (∀ ad, ao = some ad → 0 < l.length → some ad.block ≠ ov.ownBlock) → ∀ ad, ao = some ad → 0 < l.length → some ad.block ≠ (Value.slice (some ⟨gg, 0, none⟩) n cap).ownBlock := by
    intro ao l hrow hne ad e h0 e2
    have e3 : ad.block = gg := by simpa [Value.ownBlock] using e2
    rcases hl with hl | hl
    · exact hne ad e h0 (by rw [hl, e3])
    · have := hrow.lt ad e h0
      omega
  refine ⟨_, ho, by simp [h2], fun i hi => ?_⟩
  by_cases hi' : i < G.length
  · obtain ⟨ao, cp, e1, e2, e3⟩ := h3 i hi'
    have eG : (G ++ [g])[i] = G[i] := List.getElem_append_left hi'
    rw [eG]
    exact ⟨ao, cp, by rw [List.getElem?_append_left (by omega)]; exact e1, e2.grown hg (fun ad e h0 => e3 ad e h0), fresh ao _ e2 e3⟩
  · have hie : i = G.length := by simp at hi; omega
    subst hie
    have eG : (G ++ [g])[G.length] = g := by simp
    rw [eG]
    exact ⟨a, c, by rw [← h2]; simp, hr.grown hg (fun ad e h0 => hn ad e h0), fresh a _ hr hn⟩
theorem RIw.row {w0 w : World} {ov : Value} {G : List (List Int)} (h : RIw w0 w ov G) : ∃ ga cap, ov = .slice ga G.length cap ∧ IRow w ga G := by
  obtain ⟨vs, h1, h2, h3⟩ := h
  obtain ⟨ga, cap, e, hr⟩ := h1.lst
  refine ⟨ga, cap, by rw [e, h2], fun i hi => ?_⟩
  obtain ⟨b, o, e1, hb, hc⟩ := hr i (by omega)
  obtain ⟨ao, cp, e2, e3, _⟩ := h3 i hi
  refine ⟨b, o, ao, cp, e1, hb, ?_, e3⟩
  rw [hc]
  have : vs[i] = .slice ao G[i].length cp := (List.getElem?_eq_some_iff.1 e2).2
  rw [this]; rfl
theorem RIw.lt {w0 w : World} {ov : Value} {G : List (List Int)} (h : RIw w0 w ov G) : ∀ g, ov.ownBlock = some g → g < w.heap.size := by
  obtain ⟨vs, h1, _⟩ := h
  exact fun g e => own_lt h1 e
theorem irow_at {w : World} {ga : Option Addr} {G : List (List Int)} (h : IRow w ga G) {i : Nat} {g : List Int} (hg : G[i]? = some g) : ∃ b o ao cap, ga = some ⟨b, o, none⟩ ∧ b < w.heap.size ∧ w.cell? ⟨b, o + i, none⟩ = some (.slice ao g.length cap) ∧ Lst encI w ao g := by
  obtain ⟨hi, e⟩ := List.getElem?_eq_some_iff.1 hg
  subst e
  exact h i hi
theorem cellsN_at {w : World} {ad : Addr} {Z : List Int} (h : Lst encI w (some ad) Z) : ∀ j u, (Z.map encI)[j]? = some u → w.cell? (ad.add j) = some u := by
  intro j u hj
  have hjl := (List.getElem?_eq_some_iff.1 hj).1
  rw [List.length_map] at hjl
  obtain ⟨b', o', e, hb, hc⟩ := h j hjl
  cases e
  rw [Addr.add_lit, hc]
  rw [List.getElem?_map, List.getElem?_eq_getElem hjl] at hj
  exact hj
theorem lenN (Z : List Int) : (Z.map encI).length = Z.length * 1 := by simp
theorem oneN (Z : List Int) : ∀ u ∈ Z.map encI, u.oneCell' = true := by
  intro u hu
  obtain ⟨a, _, rfl⟩ := List.mem_map.1 hu
  rfl
set_option maxHeartbeats 2000000 in
theorem nclone_some (ad : Addr) (cap : Nat) (Z : List Int) (w : World) (h : Lst encI w (some ad) Z) (hs : Z.length ≤ 200) :
    Calls Try.prog 80 #[.slice (some ad) Z.length cap] w fun e w' => ∃ v, e = .returned v ∧ OwnL encI w' w.heap.size 3 v Z ∧ Below w.heap.size w w' := by
  have HC := Lib.hid (cellsN_at h)
  have hbl : ∀ j u, (Z.map encI)[j]? = some u → ad.block < w.heap.size := fun j u hj => by
    have := block_lt_of_cell (HC.out j u hj); rwa [add_block] at this
  have HBL := Lib.hid hbl
  clear h hbl
  obtain ⟨i0, hi0, hz0, hz1, hz2⟩ := info_parts infoInt
  have HI := Lib.hid (And.intro hi0 (And.intro hz0 (And.intro hz1 hz2)))
  clear hi0 hz0 hz1 hz2
  have q : ∀ (w : World) (a : Option Addr) (n c n' c' : Nat), (binOp .eql 42 (.slice a n c) (.slice none n' c')).run Try.prog w = .ok (.bool a.isNone) w := fun w a n c n' c' => Lib.run_eql_slice_nil w _ _ a n c n' c' Try.underlying42
  go_enter Try.func80, Try.ntmps80
  go_wp2_with (at_builtin; refine wpList_append_own_at _ rfl (.tmp 5) (.tmp 6) 42 rfl w.heap.size 3 i0 _ 1 8 Try.underlying42 HI.out.1 HI.out.2.1 HI.out.2.2.1 HI.out.2.2.2 rfl (by omega) (.slice (some ⟨w.heap.size, 0, none⟩) 0 0) 0 [] rfl (World.ownsRow_made w #[] 0 (Nat.le_refl _) (Nat.zero_le _) (by simp)) ad Z.length cap (Z.map encI) rfl (lenN Z) (fun j u hj => by rw [((Below.refl _ w).alloc (Nat.le_refl _) _).cell (by rw [add_block]; exact HBL.out j u hj)]; exact HC.out j u hj) (oneN Z) (by unfold maxLen; omega) (by omega) (by simp) ?_; intro v' w' hown hgrow hnil hx4; have HO := Lib.hid hown; have HG := Lib.hid hgrow; clear hown hgrow hnil hx4)
  go_ret
  have hown := HO.out
  rw [List.nil_append, Nat.zero_add] at hown
  exact ⟨v', rfl, hown, ((Below.refl _ w).alloc (Nat.le_refl _) _).grown HG.out (by simp) (fun k hk => by simp [Value.ownBlock] at hk; omega)⟩
theorem nclone_nil (n cap : Nat) (w : World) : Calls Try.prog 80 #[.slice none n cap] w fun e w' => e = .returned (.slice none 0 0) ∧ w' = w := by
  have q : ∀ (w : World) (a : Option Addr) (n c n' c' : Nat), (binOp .eql 42 (.slice a n c) (.slice none n' c')).run Try.prog w = .ok (.bool a.isNone) w := fun w a n c n' c' => Lib.run_eql_slice_nil w _ _ a n c n' c' Try.underlying42
  go_enter Try.func80, Try.ntmps80
  go_wp2
  go_ret
  exact ⟨rfl, rfl⟩
theorem nclone_any (ao : Option Addr) (cap : Nat) (Z : List Int) (w : World) (h : Lst encI w ao Z) (hs : Z.length ≤ 200) :
    Calls Try.prog 80 #[.slice ao Z.length cap] w fun e w' => ∃ v, e = .returned v ∧ OwnL encI w' w.heap.size 3 v Z ∧ Below w.heap.size w w' := by
  cases ao with
  | some ad => exact nclone_some ad cap Z w h hs
  | none =>
    have h0 : Z = [] := by
      cases Z with
      | nil => rfl
      | cons x r => obtain ⟨_, _, e, _⟩ := h 0 (by simp); cases e
    subst h0
    refine (nclone_nil _ cap w).mono ?_
    rintro e w' ⟨rfl, rfl⟩
    exact ⟨_, rfl, World.ownsRow_nil _ _ _ _, Below.refl _ _⟩
end Go.Proofs.Ytbkmfjegbmjknaa
namespace Go.Proofs.Ytbkmfjegbmjknaa
open Go.RowKit
set_option linter.unusedVariables false
def stoV (n : Int) (Z : List ArcT) (s t H : Int) (L : List MoveT) : List (List Int) := if mvE n Z s t H L = 0 then (List.range (H.toNat + 1)).map fun u => (List.range n.toNat).map fun v => stkN Z L u v else []
def arrV (n : Int) (Z : List ArcT) (s t H : Int) (hold : Bool) (L : List MoveT) : List Int := if plnE n Z s t H hold L = 0 then (List.range (H.toNat + 1)).map fun u => stkN Z L u t.toNat else []
theorem plnE_bad {n : Int} {Z : List ArcT} {s t H : Int} {hold : Bool} {L : List MoveT} (h : mvE n Z s t H L ≠ 0) : plnE n Z s t H hold L = mvE n Z s t H L := by unfold plnE; rw [if_neg h]
theorem plnE_good {N i j hh : Nat} {Z : List ArcT} {hold : Bool} {L : List MoveT} (h : mvE (N : Int) Z (i : Int) (j : Int) (hh : Int) L = 0) : plnE (N : Int) Z (i : Int) (j : Int) (hh : Int) hold L = if planB Z L N i j hh hold = true then 0 else 141 := by
  unfold plnE
  rw [if_pos h]
  rfl
section
variable (n : Int) (b : Bool) (ao : Option Addr) (cap nl : Nat) (Z : List ArcT) (s t H : Int) (lo : Option Addr) (lc ll : Nat) (L : List MoveT)
theorem nfollow_any (w : World) (h : Row encA 4 w ao Z) (hz : Z.length ≤ 4398046511104) (hl : Row encK 3 w lo L) (hok : ∀ x ∈ L, okK x) (hn : L.length ≤ 200) :
    Calls Try.prog 78 #[.agg #[.int .i64 n, .bool b, .slice ao Z.length cap], .int .i64 s, .int .i64 t, .int .i64 H, .slice lo L.length lc] w (FolRes n b ao cap Z s t H L w) := by
  by_cases he : askE n Z s t H = 0
  · exact nfollow_ok n b ao cap Z s t H lo lc Z.length L w h hl hok hn rfl he
  · exact nfollow_no n b ao cap Z s t H lo lc L w h hz he
theorem nfollow_bad (e0 : Int) (w : World) (h : Row encA 4 w ao Z) (hz : Z.length ≤ 4398046511104) (hl : Row encK 3 w lo L) (hok : ∀ x ∈ L, okK x) (hn : L.length ≤ 200) (hnl : Z.length = nl) (hll : L.length = ll) (he : mvE n Z s t H L = e0) (h0 : e0 ≠ 0) :
    Calls Try.prog 78 #[.agg #[.int .i64 n, .bool b, .slice ao nl cap], .int .i64 s, .int .i64 t, .int .i64 H, .slice lo ll lc] w fun e w' => e = .returned (.tuple #[crs0, .int .i64 e0]) ∧ Below w.heap.size w w' := by
  subst hnl hll
  refine (nfollow_any n b ao cap Z s t H lo lc L w h hz hl hok hn).mono ?_
  rintro e w' (⟨h1, _⟩ | ⟨_, h2, h3⟩)
  · exact absurd (he ▸ h1) h0
  · rw [he] at h2; exact ⟨h2, h3⟩
theorem nfollow_good (w : World) (h : Row encA 4 w ao Z) (hz : Z.length ≤ 4398046511104) (hl : Row encK 3 w lo L) (hok : ∀ x ∈ L, okK x) (hn : L.length ≤ 200) (hnl : Z.length = nl) (hll : L.length = ll) (he : mvE n Z s t H L = 0) :
    Calls Try.prog 78 #[.agg #[.int .i64 n, .bool b, .slice ao nl cap], .int .i64 s, .int .i64 t, .int .i64 H, .slice lo ll lc] w fun e w' => ∃ bm m, e = .returned (.tuple #[crsV n b ao nl cap s t H bm, .int .i64 0]) ∧ w.heap.size ≤ bm ∧ AmtIs w' bm m (nOf (mvs L)) ∧ Below w.heap.size w w' := by
  subst hnl hll
  refine (nfollow_any n b ao cap Z s t H lo lc L w h hz hl hok hn).mono ?_
  rintro e w' (⟨_, h2⟩ | ⟨h1, _⟩)
  · exact h2
  · exact absurd he h1
end
section
variable (b : Bool) (ao : Option Addr) (cap nl : Nat) (Z : List ArcT) (N i j hh : Nat) (L : List MoveT)
theorem good_net (h : mvE (N : Int) Z (i : Int) (j : Int) (hh : Int) L = 0) : (i < N ∧ j < N ∧ i ≠ j) ∧ SpanNet Z N ∧ hh ≤ 1024 ∧ ∀ x ∈ mvs L, okM Z (i : Int) (j : Int) (hh : Int) x = true := by
  obtain ⟨h1, _, h3⟩ := mvE_ok.1 h
  obtain ⟨N', i', j', e1, e2, e3, g1, g2, g3, hW, _, g4⟩ := ask_net h1
  obtain rfl : N = N' := by omega
  obtain rfl : i = i' := by omega
  obtain rfl : j = j' := by omega
  exact ⟨⟨g1, g2, g3⟩, hW, by omega, h3⟩
theorem ncstocks_good (bm m : Nat) (w : World) (h : Row encA 4 w ao Z) (hnl : Z.length = nl) (he : mvE (N : Int) Z (i : Int) (j : Int) (hh : Int) L = 0) (hA : AmtIs w bm m (nOf (mvs L))) :
    Calls Try.prog 79 #[crsV (N : Int) b ao nl cap (i : Int) (j : Int) (hh : Int) bm] w fun e w' => ∃ g, e = .returned (.slice (some ⟨g, 0, none⟩) (hh + 1) (hh + 1)) ∧ w.heap.size ≤ g ∧ GridW w' g (hh + 1) (stkN Z L) ∧ Below w.heap.size w w' := by
  obtain ⟨_, hW, hH, hM⟩ := good_net Z N i j hh L he
  have hf := nOf_bd (c := 1048576) (by omega) (mvs_nodup L) (fun x hx => by
    obtain ⟨h1, h2, _, _, h5, h6, _⟩ := okM_yes.1 (hM x hx)
    refine ⟨h5, Int.le_trans h6 ?_⟩
    obtain ⟨p, hp⟩ : ∃ p : Nat, x.1 = (p : Int) := ⟨x.1.toNat, by omega⟩
    have hpl : p < Z.length := by omega
    rw [hp, arcI_at hpl]
    exact (hW.caps _ (List.getElem_mem hpl)).2)
  refine (ncstocks_any (N : Int) b ao nl cap Z (i : Int) (j : Int) bm N hh m (nOf (mvs L)) w h hnl hW hH hA hf).mono ?_
  rintro e w' ⟨g, rfl, h1, h2, h3⟩
  refine ⟨g, rfl, h1, h2.congr (fun a v _ _ => ?_), h3⟩
  have := allC_stk (H := hh) (s := (i : Int)) (t := (j : Int)) hW a v hM
  unfold allC at this
  rw [hnl] at this
  rw [this, stk_merged]
  rfl
theorem nisplan_good (bm g : Nat) (hold : Bool) (w : World) (he : mvE (N : Int) Z (i : Int) (j : Int) (hh : Int) L = 0) (hg : GridW w g (hh + 1) (stkN Z L)) :
    Calls Try.prog 94 #[crsV (N : Int) b ao nl cap (i : Int) (j : Int) (hh : Int) bm, .slice (some ⟨g, 0, none⟩) (hh + 1) (hh + 1), .bool hold] w fun e w' => e = .returned (.bool (planB Z L N i j hh hold)) ∧ Below w.heap.size w w' := by
  obtain ⟨_, hW, hH, hM⟩ := good_net Z N i j hh L he
  have h1 := nisplan_any (N : Int) b ao nl cap bm i j hh g hold (stkN Z L) w hg hH
  rw [plan_same (L := L) hW hM (fun a v _ => by unfold stkN; rw [stk_merged]) (fun v u => stk_merged Z L v u)] at h1
  exact h1
end
section
variable (n : Int) (b : Bool) (ao : Option Addr) (cap nl : Nat) (Z : List ArcT) (s t H : Int) (lo : Option Addr) (lc ll : Nat) (L : List MoveT)
set_option maxRecDepth 100000 in
set_option maxHeartbeats 4000000 in
theorem nstocks_bad (e0 : Int) (w : World) (h : Row encA 4 w ao Z) (hz : Z.length ≤ 4398046511104) (hl : Row encK 3 w lo L) (hok : ∀ x ∈ L, okK x) (hn : L.length ≤ 200) (hnl : Z.length = nl) (hll : L.length = ll) (he : mvE n Z s t H L = e0) (h0 : e0 ≠ 0) :
    Calls Try.prog 49 #[.agg #[.int .i64 n, .bool b, .slice ao nl cap], .int .i64 s, .int .i64 t, .int .i64 H, .slice lo ll lc] w fun e w' => e = .returned (.tuple #[.slice none 0 0, .int .i64 e0]) ∧ Below w.heap.size w w' := by
  have hb00 := (Below.refl _ w).alloc (Nat.le_refl _) (.cells #[.int .i64 n, .bool b, .slice ao nl cap] 24)
  have hn00 := heap_alloc_new w (.cells #[.int .i64 n, .bool b, .slice ao nl cap] 24)
  have HB := Lib.hid hb00
  have HR := Lib.hid (h.below' hb00)
  have HL := Lib.hid (hl.below' hb00)
  have c0 := cell_whole hn00 0
  have c1 := cell_whole hn00 1
  have c2 := cell_whole hn00 2
  have hf1 : (e0 != 0) = true := by simpa using h0
  have hf2 : (e0 == 0) = false := by simpa using h0
  have HZ := Lib.hid hz
  have HOK := Lib.hid hok
  have HNL := Lib.hid hnl
  have HLL := Lib.hid hll
  have HE := Lib.hid he
  have HN0 := Lib.hid h0
  clear h hb00 hn00 hz hl hok hnl hll he h0
  go_enter Try.func49, Try.ntmps49
  go_wp2_with (first
    | (go_at_call 78; refine (nfollow_bad n b ao cap nl Z s t H lo lc ll L e0 _ HR.out HZ.out HL.out HOK.out hn HNL.out HLL.out HE.out HN0.out).mono ?_; rintro e w2 ⟨rfl, hb2⟩; unfold crs0; have HB2 := Lib.hid (HB.out.trans (hb2.mono HB.out.size)); clear hb2)
    | ((with_reducible show wpList _ _ _ (Oper.mk none (Op.store 134 (Operand.tmp 12) _) _ _ _ _ :: _) _ _); refine wpList_store_course rfl _ _ rfl _ _ crs0L rfl rfl (heap_alloc_new _ _) rfl rfl crs0L_one ?_; intro w3 hg3 hk3; have HK3 : Hid (Below w2.heap.size w2 w3) := Lib.hid (((Below.refl _ w2).alloc (Nat.le_refl _) _).trans (hk3.below (by simp) (fun i e => Nat.le_of_eq (Eq.symm e)))); clear hg3 hk3))
  go_ret2
  exact ⟨rfl, HB2.out.trans (HK3.out.mono HB2.out.size)⟩
set_option maxRecDepth 100000 in
set_option maxHeartbeats 4000000 in
theorem narrived_bad (e0 : Int) (w : World) (h : Row encA 4 w ao Z) (hz : Z.length ≤ 4398046511104) (hl : Row encK 3 w lo L) (hok : ∀ x ∈ L, okK x) (hn : L.length ≤ 200) (hnl : Z.length = nl) (hll : L.length = ll) (he : mvE n Z s t H L = e0) (h0 : e0 ≠ 0) :
    Calls Try.prog 71 #[.agg #[.int .i64 n, .bool b, .slice ao nl cap], .int .i64 s, .int .i64 t, .int .i64 H, .slice lo ll lc] w fun e w' => e = .returned (.tuple #[.slice none 0 0, .int .i64 e0]) ∧ Below w.heap.size w w' := by
  have hb00 := (Below.refl _ w).alloc (Nat.le_refl _) (.cells #[.int .i64 n, .bool b, .slice ao nl cap] 24)
  have hn00 := heap_alloc_new w (.cells #[.int .i64 n, .bool b, .slice ao nl cap] 24)
  have HB := Lib.hid hb00
  have HR := Lib.hid (h.below' hb00)
  have HL := Lib.hid (hl.below' hb00)
  have c0 := cell_whole hn00 0
  have c1 := cell_whole hn00 1
  have c2 := cell_whole hn00 2
  have hf1 : (e0 != 0) = true := by simpa using h0
  have hf2 : (e0 == 0) = false := by simpa using h0
  have HZ := Lib.hid hz
  have HOK := Lib.hid hok
  have HNL := Lib.hid hnl
  have HLL := Lib.hid hll
  have HE := Lib.hid he
  have HN0 := Lib.hid h0
  clear h hb00 hn00 hz hl hok hnl hll he h0
  go_enter Try.func71, Try.ntmps71
  go_wp2_with (first
    | (go_at_call 78; refine (nfollow_bad n b ao cap nl Z s t H lo lc ll L e0 _ HR.out HZ.out HL.out HOK.out hn HNL.out HLL.out HE.out HN0.out).mono ?_; rintro e w2 ⟨rfl, hb2⟩; unfold crs0; have HB2 := Lib.hid (HB.out.trans (hb2.mono HB.out.size)); clear hb2)
    | ((with_reducible show wpList _ _ _ (Oper.mk none (Op.store 134 (Operand.tmp 12) _) _ _ _ _ :: _) _ _); refine wpList_store_course rfl _ _ rfl _ _ crs0L rfl rfl (heap_alloc_new _ _) rfl rfl crs0L_one ?_; intro w3 hg3 hk3; have HK3 : Hid (Below w2.heap.size w2 w3) := Lib.hid (((Below.refl _ w2).alloc (Nat.le_refl _) _).trans (hk3.below (by simp) (fun i e => Nat.le_of_eq (Eq.symm e)))); clear hg3 hk3))
  go_ret2
  exact ⟨rfl, HB2.out.trans (HK3.out.mono HB2.out.size)⟩
end
end Go.Proofs.Ytbkmfjegbmjknaa
namespace Go.Proofs.Ytbkmfjegbmjknaa
open Go.RowKit
set_option linter.unusedVariables false
theorem wpList_make_room {α : Type} {enc : α → Value} {t e : TypeId} {bytes : Nat} {z : Value} (ht : Try.prog.underlying t = some (.slice e)) (hinfo : (Try.prog.info? e).map (fun i => (i.zero, i.size, i.bytes)) = some (some z, 1, bytes)) (hby : bytes ≤ 64)
    {w : World} {ops : Array Oper} {rest : List Oper} {o : Oper} {a : Act} {Q : Exit → Act → World → Prop} (hgd : o.guard = none) (l c : Operand) (hop : o.op = Op.makeSlice t l c)
    (n : Nat) (C : Int) (hl : a.eval l = .int .i64 0) (hc : a.eval c = .int .i64 C) (hC : C = (n : Int)) (hn : n ≤ 200000)
    (hK : ∀ w', OwnL enc w' w.heap.size e (.slice (some ⟨w.heap.size, 0, none⟩) 0 n) ([] : List α) → Below w.heap.size w w' → wpList Try.prog ops Q rest (a.put o.dst (.slice (some ⟨w.heap.size, 0, none⟩) 0 n)) w') : wpList Try.prog ops Q (o :: rest) a w := by
  obtain ⟨i0, hi, hz0, hz1, hz2⟩ := info_parts hinfo
  refine wpList_make_own w hgd l c t hop w.heap.size e i0 _ 1 ht hi hz0 hz1 .i64 .i64 C n hl hc hC ?_ (by unfold maxLen; omega) (Nat.le_refl _) ?_
  · rw [hz2]
    have : bytes * n ≤ 64 * 200000 := Nat.mul_le_mul hby hn
    omega
  · intro w' h1 h2
    exact hK w' h1 (below_of_none h2)
theorem range_step {α : Type} (f : Nat → α) (u : Nat) : (List.range (u + 1)).map f = (List.range u).map f ++ [f u] := by rw [List.range_succ, List.map_append]; rfl
theorem range_lenM {α : Type} (f : Nat → α) (u : Nat) : ((List.range u).map f).length = u := by simp
section
variable (b : Bool) (ao : Option Addr) (cap nl : Nat) (Z : List ArcT) (N i j hh : Nat) (lo : Option Addr) (lc ll : Nat) (L : List MoveT)
set_option maxRecDepth 100000 in
set_option maxHeartbeats 4000000 in
theorem narrived_no (w : World) (h : Row encA 4 w ao Z) (hz : Z.length ≤ 4398046511104) (hl : Row encK 3 w lo L) (hok : ∀ x ∈ L, okK x) (hn : L.length ≤ 200) (hnl : Z.length = nl) (hll : L.length = ll) (he : mvE (N : Int) Z (i : Int) (j : Int) (hh : Int) L = 0) (hp : planB Z L N i j hh b = false) :
    Calls Try.prog 71 #[.agg #[.int .i64 (N : Int), .bool b, .slice ao nl cap], .int .i64 (i : Int), .int .i64 (j : Int), .int .i64 (hh : Int), .slice lo ll lc] w fun e w' => e = .returned (.tuple #[.slice none 0 0, .int .i64 141]) ∧ Below w.heap.size w w' := by
  have hb00 := (Below.refl _ w).alloc (Nat.le_refl _) (.cells #[.int .i64 (N : Int), .bool b, .slice ao nl cap] 24)
  have hn00 := heap_alloc_new w (.cells #[.int .i64 (N : Int), .bool b, .slice ao nl cap] 24)
  have HB := Lib.hid hb00
  have HNB := Lib.hid hn00
  have HR := Lib.hid (h.below' hb00)
  have HL := Lib.hid (hl.below' hb00)
  have c0 := cell_whole hn00 0
  have c1 := cell_whole hn00 1
  have c2 := cell_whole hn00 2
  have HZ := Lib.hid hz
  have HOK := Lib.hid hok
  have HNL := Lib.hid hnl
  have HLL := Lib.hid hll
  have HE := Lib.hid he
  obtain ⟨⟨hiN, hjN, hij⟩, hW, hH, hM⟩ := good_net Z N i j hh L he
  have hN50 := hW.nodes
  have HP := Lib.hid hp
  clear h hb00 hn00 hz hl hok hnl hll he hp hW hM
  go_enter Try.func71, Try.ntmps71
  go_wp2_with (first
    | (go_at_call 78; refine (nfollow_good (N : Int) b ao cap nl Z (i : Int) (j : Int) (hh : Int) lo lc ll L _ HR.out HZ.out HL.out HOK.out hn HNL.out HLL.out HE.out).mono ?_; rintro e w2 ⟨bm, m, rfl, hbm, hA2, hb2⟩; unfold crsV; have HA2 := Lib.hid hA2; have HBW := Lib.hid hb2; have HB2 := Lib.hid (HB.out.trans (hb2.mono HB.out.size)); have HNB2 := Lib.hid (kept_box HNB.out hb2); clear hb2 hA2 hbm)
    | ((with_reducible show wpList _ _ _ (Oper.mk none (Op.store 134 (Operand.tmp 12) _) _ _ _ _ :: _) _ _); refine wpList_store_course rfl _ _ rfl _ _ (crsL (N : Int) b ao nl cap (i : Int) (j : Int) (hh : Int) bm) rfl rfl (heap_alloc_new _ _) rfl rfl (crsL_one _ b ao nl cap _ _ _ bm) ?_; intro w3 hg3 hk3; have HB3 : Hid (Below w2.heap.size w2 w3) := Lib.hid (((Below.refl _ w2).alloc (Nat.le_refl _) _).trans (hk3.below (by simp) (fun i e => Nat.le_of_eq (Eq.symm e)))); unfold crsL at hg3; have HG3 := Lib.hid hg3; have c0 := cell_whole hg3 0; have c1 := cell_whole hg3 1; have c2 := cell_whole hg3 2; have c3 := cell_whole hg3 3; have c4 := cell_whole hg3 4; have c5 := cell_whole hg3 5; have c6 := cell_whole hg3 6; have HR3 := Lib.hid ((HR.out.below' HBW.out).below' HB3.out); have HA3 := Lib.hid (HA2.out.below HB3.out); have HNB3 := Lib.hid (kept_box HNB2.out HB3.out); have HBB3 := Lib.hid (HB2.out.trans (HB3.out.mono HB2.out.size)); have z1 := cell_whole HNB3.out 1; have z0 := cell_whole HNB3.out 0; clear hg3 hk3)
    | (go_at_call 79; have hcc := ncstocks_good b ao cap nl Z N i j hh L bm m _ HR3.out HNL.out HE.out HA3.out; unfold crsV at hcc; refine hcc.mono ?_; clear hcc; rintro e w4 ⟨g, rfl, hg1, hg4, hb4⟩; have HB4 := Lib.hid (HBB3.out.trans (hb4.mono HBB3.out.size)); have HB34 := Lib.hid hb4; have HG4 := Lib.hid hg4; have HGL := Lib.hid hg1; have hc4 := kept_box HG3.out hb4; have HC4 := Lib.hid hc4; have HNB4 := Lib.hid (kept_box HNB3.out hb4); have z1 := cell_whole HNB4.out 1; have z0 := cell_whole HNB4.out 0; have c0 := cell_whole hc4 0; have c1 := cell_whole hc4 1; have c2 := cell_whole hc4 2; have c3 := cell_whole hc4 3; have c4 := cell_whole hc4 4; have c5 := cell_whole hc4 5; have c6 := cell_whole hc4 6; clear hg1 hg4 hb4 hc4)
    | (go_at_call 94; have hcc := nisplan_good b ao cap nl Z N i j hh L bm g b _ HE.out HG4.out; unfold crsV at hcc; refine hcc.mono ?_; clear hcc; rw [HP.out]; rintro e w5 ⟨rfl, hb5⟩; have HB5 := Lib.hid (HB4.out.trans (hb5.mono HB4.out.size)); clear hb5))
  go_ret2
  exact ⟨rfl, HB5.out⟩
set_option maxRecDepth 100000 in
set_option maxHeartbeats 8000000 in
theorem narrived_yes (w : World) (h : Row encA 4 w ao Z) (hz : Z.length ≤ 4398046511104) (hl : Row encK 3 w lo L) (hok : ∀ x ∈ L, okK x) (hn : L.length ≤ 200) (hnl : Z.length = nl) (hll : L.length = ll) (he : mvE (N : Int) Z (i : Int) (j : Int) (hh : Int) L = 0) (hp : planB Z L N i j hh b = true) :
    Calls Try.prog 71 #[.agg #[.int .i64 (N : Int), .bool b, .slice ao nl cap], .int .i64 (i : Int), .int .i64 (j : Int), .int .i64 (hh : Int), .slice lo ll lc] w fun e w' => ∃ aa ac, e = .returned (.tuple #[.slice aa (hh + 1) ac, .int .i64 0]) ∧ Lst encI w' aa ((List.range (hh + 1)).map fun u => stkN Z L u j) ∧ Below w.heap.size w w' := by
  have hb00 := (Below.refl _ w).alloc (Nat.le_refl _) (.cells #[.int .i64 (N : Int), .bool b, .slice ao nl cap] 24)
  have hn00 := heap_alloc_new w (.cells #[.int .i64 (N : Int), .bool b, .slice ao nl cap] 24)
  have HB := Lib.hid hb00
  have HNB := Lib.hid hn00
  have HR := Lib.hid (h.below' hb00)
  have HL := Lib.hid (hl.below' hb00)
  have c0 := cell_whole hn00 0
  have c1 := cell_whole hn00 1
  have c2 := cell_whole hn00 2
  have HZ := Lib.hid hz
  have HOK := Lib.hid hok
  have HNL := Lib.hid hnl
  have HLL := Lib.hid hll
  have HE := Lib.hid he
  obtain ⟨⟨hiN, hjN, hij⟩, hW, hH, hM⟩ := good_net Z N i j hh L he
  have hN50 := hW.nodes
  have HP := Lib.hid hp
  obtain ⟨n1, hn1⟩ : ∃ n1, n1 = hh + 1 := ⟨_, rfl⟩
  have HN1 := Lib.hid hn1
  rw [← hn1]
  have hn1b : n1 ≤ 1025 := by omega
  clear h hb00 hn00 hz hl hok hnl hll he hp hW hM hn1
  go_enter Try.func71, Try.ntmps71
  go_wp2_with (first
    | (go_at_call 78; refine (nfollow_good (N : Int) b ao cap nl Z (i : Int) (j : Int) (hh : Int) lo lc ll L _ HR.out HZ.out HL.out HOK.out hn HNL.out HLL.out HE.out).mono ?_; rintro e w2 ⟨bm, m, rfl, hbm, hA2, hb2⟩; unfold crsV; have HA2 := Lib.hid hA2; have HBW := Lib.hid hb2; have HB2 := Lib.hid (HB.out.trans (hb2.mono HB.out.size)); have HNB2 := Lib.hid (kept_box HNB.out hb2); clear hb2 hA2 hbm)
    | ((with_reducible show wpList _ _ _ (Oper.mk none (Op.store 134 (Operand.tmp 12) _) _ _ _ _ :: _) _ _); refine wpList_store_course rfl _ _ rfl _ _ (crsL (N : Int) b ao nl cap (i : Int) (j : Int) (hh : Int) bm) rfl rfl (heap_alloc_new _ _) rfl rfl (crsL_one _ b ao nl cap _ _ _ bm) ?_; intro w3 hg3 hk3; have HB3 : Hid (Below w2.heap.size w2 w3) := Lib.hid (((Below.refl _ w2).alloc (Nat.le_refl _) _).trans (hk3.below (by simp) (fun i e => Nat.le_of_eq (Eq.symm e)))); unfold crsL at hg3; have HG3 := Lib.hid hg3; have c0 := cell_whole hg3 0; have c1 := cell_whole hg3 1; have c2 := cell_whole hg3 2; have c3 := cell_whole hg3 3; have c4 := cell_whole hg3 4; have c5 := cell_whole hg3 5; have c6 := cell_whole hg3 6; have HR3 := Lib.hid ((HR.out.below' HBW.out).below' HB3.out); have HA3 := Lib.hid (HA2.out.below HB3.out); have HNB3 := Lib.hid (kept_box HNB2.out HB3.out); have HBB3 := Lib.hid (HB2.out.trans (HB3.out.mono HB2.out.size)); have z1 := cell_whole HNB3.out 1; have z0 := cell_whole HNB3.out 0; clear hg3 hk3)
    | (go_at_call 79; have hcc := ncstocks_good b ao cap nl Z N i j hh L bm m _ HR3.out HNL.out HE.out HA3.out; unfold crsV at hcc; refine hcc.mono ?_; clear hcc; rintro e w4 ⟨g, rfl, hg1, hg4, hb4⟩; have HB4 := Lib.hid (HBB3.out.trans (hb4.mono HBB3.out.size)); have HB34 := Lib.hid hb4; have HG4 := Lib.hid hg4; have HGL := Lib.hid hg1; have hc4 := kept_box HG3.out hb4; have HC4 := Lib.hid hc4; have HNB4 := Lib.hid (kept_box HNB3.out hb4); have z1 := cell_whole HNB4.out 1; have z0 := cell_whole HNB4.out 0; have c0 := cell_whole hc4 0; have c1 := cell_whole hc4 1; have c2 := cell_whole hc4 2; have c3 := cell_whole hc4 3; have c4 := cell_whole hc4 4; have c5 := cell_whole hc4 5; have c6 := cell_whole hc4 6; clear hg1 hg4 hb4 hc4)
    | (go_at_call 94; have hcc := nisplan_good b ao cap nl Z N i j hh L bm g b _ HE.out HG4.out; unfold crsV at hcc; refine hcc.mono ?_; clear hcc; rw [HP.out]; rintro e w5 ⟨rfl, hb5⟩; have HB5 := Lib.hid (HB4.out.trans (hb5.mono HB4.out.size)); have HG5 := Lib.hid (HG4.out.below hb5); clear hb5 HG4)
    | (at_make; refine wpList_make_room (enc := encI) Try.underlying42 infoInt (by omega) rfl _ _ rfl n1 _ rfl rfl (by have := HN1.out; omega) (by omega) ?_; intro w6 ho6 hb6; have HO6 := Lib.hid ho6; have HB6 := Lib.hid hb6; have HG6 := Lib.hid (HG5.out.below hb6); clear ho6 hb6))
  obtain ⟨B, hB⟩ : ∃ B, w5.heap.size = B := ⟨_, rfl⟩
  have HBE := Lib.hid hB
  have HG5B : Hid (g < B) := Lib.hid (by rw [← hB]; exact HG5.out.lt)
  rw [hB] at HB6 HO6 ⊢
  clear hB HG5
  go_loopw [15, 43] (fun av iv wr => ∃ u : Nat, u ≤ hh + 1 ∧ iv = .int .i64 (u : Int) ∧ Hid (OwnL encI wr B 3 av ((List.range u).map fun u => stkN Z L u j)) ∧ Hid (Below B w6 wr)) (fun _ iv _ => hh + 1 - (intOf iv).toNat)
  case atStart => exact ⟨0, Nat.zero_le _, rfl, HO6, Lib.hid (Below.refl _ _)⟩
  case round =>
    clear HO6
    obtain ⟨u, hu, rfl, HO, HW⟩ := hrel
    have HGW : Hid (GridW wr g (hh + 1) (stkN Z L)) := Lib.hid ((HW.out.block g HG5B.out).trans HG6.out)
    by_cases hlt : u < hh + 1
    · have hli : (u : Int) < (hh : Int) + 1 := by omega
      have hj50 : (j : Int) < 50 := by omega
      have hj5 : j < 50 := by omega
      have HRG := Lib.hid (HGW.out.range hlt)
      have HSZ : Hid ((Try.prog.info? 140).map (·.size) = some (cellsG (stkN Z L) u).length) := Lib.hid (by rw [cellsG_len]; exact sizeCounts)
      obtain ⟨x, hx⟩ : ∃ x, stkN Z L u j = x := ⟨_, rfl⟩
      have HST := Lib.hid (range_step (fun u => stkN Z L u j) u)
      rw [hx] at HST
      have HAL := Lib.hid (range_lenM (fun u => stkN Z L u j) u)
      generalize (List.range u).map (fun u => stkN Z L u j) = A at *
      have HX := Lib.hid hx
      have HBW : Hid (B ≤ wr.heap.size) := Lib.hid (by have h1 := HBE.out; have h2 := HB6.out.size; have h3 := HW.out.size; omega)
      clear hx
      go_wp2_with (first
        | ((with_reducible show wpList _ _ _ (Oper.mk (some 46) (Op.load 140 _) _ _ _ _ :: _) _ _); refine wpList_load_mid rfl 140 _ rfl g (u * 50) rfl (cellsG (stkN Z L) u) _ HRG.out Try.underlying140 rfl HSZ.out ?_)
        | ((with_reducible show wpList _ _ _ (Oper.mk none (Op.store 140 _ _) _ _ _ _ :: _) _ _); refine wpList_store_counts rfl _ _ rfl _ _ (cellsG (stkN Z L) u) rfl rfl (heap_alloc_new _ _) rfl (cellsG_len _ u) (cellsG_one _ u) ?_; intro w7 hg7 hk7; have e0 := (cell_whole hg7 j).trans (cellsG_get (stkN Z L) u hj5); rw [HX.out] at e0; have HK7 : Hid (Below wr.heap.size wr w7) := Lib.hid (((Below.refl _ wr).alloc (Nat.le_refl _) _).trans (hk7.below (by simp) (fun i e => Nat.le_of_eq (Eq.symm e)))); have HO7 := Lib.hid (HO.out.below HK7.out); clear hg7 hk7)
        | (at_builtin; refine wpList_append_one Try.underlying42 infoInt rfl (by omega) rfl (.tmp 47) (.tmp 51) rfl B _ A x rfl rfl (HO7.out.alloc _) w7.heap.size 1 rfl (cell_new _ _ _ 0) (by have := HAL.out; omega) (by have h1 := HBW.out; have h2 := HK7.out.size; simp; omega) ?_; intro ga ca w8 ho hg hl hb hlt8; have HO8 := Lib.hid ho; have HG8 := Lib.hid hg; clear ho hg hl hb hlt8))
      go_roundw
      case rel => exact ⟨u + 1, by omega, by go_num, by rw [HST.out]; exact HO8, Lib.hid (below_grown ((HW.out.trans (HK7.out.mono HBW.out)).alloc (Nat.le_trans HBW.out HK7.out.size) _) (by have h1 := HBW.out; have h2 := HK7.out.size; simp; omega) HG8.out (fun k e => own_block HO7.out e))⟩
      case measure => simp [intOf]; omega
    · have hli : ¬ (u : Int) < (hh : Int) + 1 := by omega
      obtain rfl : u = hh + 1 := by omega
      obtain ⟨aa, ac, hv, hls⟩ := HO.out.lst
      rw [range_lenM, ← HN1.out] at hv
      rw [← HN1.out] at hls
      subst hv
      have HLS := Lib.hid hls
      clear hls
      go_wp2
      go_ret2
      exact ⟨aa, ⟨ac, rfl⟩, HLS.out, HB5.out.trans ((HB6.out.trans HW.out).mono (by rw [← HBE.out]; exact HB5.out.size))⟩
end
end Go.Proofs.Ytbkmfjegbmjknaa
namespace Go.Proofs.Ytbkmfjegbmjknaa
open Go.RowKit
set_option linter.unusedVariables false
theorem plnV_is {n : Int} {Z : List ArcT} {s t H : Int} {hold : Bool} {L : List MoveT} (h : plnE n Z s t H hold L ≠ 0) : plnV n Z s t H hold L = 0 := by unfold plnV; rw [if_neg h]
theorem good_nat {n : Int} {Z : List ArcT} {s t H : Int} {L : List MoveT} (h : mvE n Z s t H L = 0) : ∃ N i j hh : Nat, n = (N : Int) ∧ s = (i : Int) ∧ t = (j : Int) ∧ H = (hh : Int) := by
  obtain ⟨h1, _, _⟩ := mvE_ok.1 h
  obtain ⟨N, i, j, e1, e2, e3, _, _, _, _, h4, _⟩ := ask_net h1
  exact ⟨N, i, j, H.toNat, e1, e2, e3, by omega⟩
section
variable (n : Int) (b : Bool) (ao : Option Addr) (cap nl : Nat) (Z : List ArcT) (s t H : Int) (lo : Option Addr) (lc ll : Nat) (L : List MoveT)
theorem narrived_any (w : World) (h : Row encA 4 w ao Z) (hz : Z.length ≤ 4398046511104) (hl : Row encK 3 w lo L) (hok : ∀ x ∈ L, okK x) (hn : L.length ≤ 200) (hnl : Z.length = nl) (hll : L.length = ll) :
    Calls Try.prog 71 #[.agg #[.int .i64 n, .bool b, .slice ao nl cap], .int .i64 s, .int .i64 t, .int .i64 H, .slice lo ll lc] w fun e w' => ∃ aa al ac, e = .returned (.tuple #[.slice aa al ac, .int .i64 (plnE n Z s t H b L)]) ∧ (arrV n Z s t H b L).length = al ∧ Lst encI w' aa (arrV n Z s t H b L) ∧ Below w.heap.size w w' := by
  by_cases he : mvE n Z s t H L = 0
  · obtain ⟨N, i, j, hh, rfl, rfl, rfl, rfl⟩ := good_nat he
    cases hp : planB Z L N i j hh b with
    | false =>
      have h1 : plnE (N : Int) Z (i : Int) (j : Int) (hh : Int) b L = 141 := by rw [plnE_good he, hp]; rfl
      have h2 : arrV (N : Int) Z (i : Int) (j : Int) (hh : Int) b L = [] := by unfold arrV; rw [h1]; rfl
      refine (narrived_no b ao cap nl Z N i j hh lo lc ll L w h hz hl hok hn hnl hll he hp).mono ?_
      rintro e w' ⟨rfl, hb⟩
      rw [h1, h2]
      exact ⟨_, _, _, rfl, rfl, Lst.nil _ _, hb⟩
    | true =>
      have h1 : plnE (N : Int) Z (i : Int) (j : Int) (hh : Int) b L = 0 := by rw [plnE_good he, hp]; rfl
      have h2 : arrV (N : Int) Z (i : Int) (j : Int) (hh : Int) b L = (List.range (hh + 1)).map fun u => stkN Z L u j := by unfold arrV; rw [if_pos h1]; rfl
      refine (narrived_yes b ao cap nl Z N i j hh lo lc ll L w h hz hl hok hn hnl hll he hp).mono ?_
      rintro e w' ⟨aa, ac, rfl, hr, hb⟩
      rw [h1, h2]
      exact ⟨aa, _, ac, rfl, range_lenM _ _, hr, hb⟩
  · have h1 := plnE_bad (hold := b) he
    have h2 : arrV n Z s t H b L = [] := by unfold arrV; rw [if_neg (by rw [h1]; exact he)]
    refine (narrived_bad n b ao cap nl Z s t H lo lc ll L _ w h hz hl hok hn hnl hll rfl he).mono ?_
    rintro e w' ⟨rfl, hb⟩
    rw [h1, h2]
    exact ⟨_, _, _, rfl, rfl, Lst.nil _ _, hb⟩
set_option maxRecDepth 100000 in
set_option maxHeartbeats 4000000 in
theorem nchk14_any (w : World) (h : Row encA 4 w ao Z) (hz : Z.length ≤ 4398046511104) (hl : Row encK 3 w lo L) (hok : ∀ x ∈ L, okK x) (hn : L.length ≤ 200) (hnl : Z.length = nl) (hll : L.length = ll) :
    Calls Try.prog 47 #[.agg #[.int .i64 n, .bool b, .slice ao nl cap], .int .i64 s, .int .i64 t, .int .i64 H, .slice lo ll lc] w fun e w' => e = .returned (.tuple #[.int .i64 (plnV n Z s t H b L), .int .i64 (plnE n Z s t H b L)]) ∧ Below w.heap.size w w' := by
  have hb00 := (Below.refl _ w).alloc (Nat.le_refl _) (.cells #[.int .i64 n, .bool b, .slice ao nl cap] 24)
  have hn00 := heap_alloc_new w (.cells #[.int .i64 n, .bool b, .slice ao nl cap] 24)
  have HB := Lib.hid hb00
  have c0 := cell_whole hn00 0
  have c1 := cell_whole hn00 1
  have c2 := cell_whole hn00 2
  have HCALL := Lib.hid (narrived_any n b ao cap nl Z s t H lo lc ll L _ (h.below' hb00) hz (hl.below' hb00) hok hn hnl hll)
  have HVZ : Hid (plnE n Z s t H b L ≠ 0 → plnV n Z s t H b L = 0) := Lib.hid plnV_is
  have HVG : Hid (plnE n Z s t H b L = 0 → ∃ hh : Nat, H = (hh : Int) ∧ hh ≤ 1024 ∧ (arrV n Z s t H b L)[hh]? = some (plnV n Z s t H b L)) := Lib.hid (fun he => by
    have hm : mvE n Z s t H L = 0 := by
      by_cases hm : mvE n Z s t H L = 0
      · exact hm
      · rw [plnE_bad hm] at he; exact absurd he hm
    obtain ⟨N, i, j, hh, rfl, rfl, rfl, rfl⟩ := good_nat hm
    refine ⟨hh, rfl, (good_net Z N i j hh L hm).2.2.1, ?_⟩
    unfold arrV plnV
    rw [if_pos he, if_pos he, List.getElem?_map, List.getElem?_range (by rw [Int.toNat_natCast]; omega)]
    rfl)
  obtain ⟨e0, he0⟩ : ∃ e0, plnE n Z s t H b L = e0 := ⟨_, rfl⟩
  obtain ⟨v0, hv0⟩ : ∃ v0, plnV n Z s t H b L = v0 := ⟨_, rfl⟩
  rw [he0] at HCALL HVZ HVG ⊢
  rw [hv0] at HVZ HVG ⊢
  generalize arrV n Z s t H b L = A at *
  clear h hb00 hn00 hz hl hok hnl hll he0 hv0
  by_cases h0 : e0 = 0
  · subst h0
    obtain ⟨hh, rfl, hh2, hat⟩ := HVG.out rfl
    have HAT := Lib.hid hat
    have hlt := (List.getElem?_eq_some_iff.1 hat).1
    have HLT := Lib.hid hlt
    clear hat hlt
    go_enter Try.func47, Try.ntmps47
    go_wp2_with (go_at_call 71; refine HCALL.out.mono ?_; rintro e w2 ⟨aa, al, ac, rfl, hal, hls, hb2⟩; have HB2 := Lib.hid (HB.out.trans (hb2.mono HB.out.size)); obtain ⟨ab, ax, e1, _, a0⟩ := lst_cell hls HAT.out; subst e1; unfold encI at a0; have hli : (hh : Int) < (al : Int) := (by have := HLT.out; omega); clear hb2 hal hls)
    go_ret2
    exact ⟨rfl, HB2.out⟩
  · have hf1 : (e0 != 0) = true := by simpa using h0
    have hf2 : (e0 == 0) = false := by simpa using h0
    have HV0 := Lib.hid (HVZ.out h0)
    clear h0
    go_enter Try.func47, Try.ntmps47
    go_wp2_with (go_at_call 71; refine HCALL.out.mono ?_; rintro e w2 ⟨aa, al, ac, rfl, hal, hls, hb2⟩; have HB2 := Lib.hid (HB.out.trans (hb2.mono HB.out.size)); clear hb2 hal hls)
    go_ret2
    exact ⟨by rw [HV0.out]; rfl, HB2.out⟩
end
end Go.Proofs.Ytbkmfjegbmjknaa
