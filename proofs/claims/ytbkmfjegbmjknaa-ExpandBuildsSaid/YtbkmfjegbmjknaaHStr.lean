/- A course without movements: package plan's start. -/
import Derived.Test.YtbkmfjegbmjknaaHPln
import Derived.Deep.RegionHeld3
namespace Go.Proofs.Ytbkmfjegbmjknaa
open Go.RowKit
set_option linter.unusedVariables false

theorem sizeCourse : (Try.prog.info? 134).map (·.size) = some 7 := by kernel_rfl
/-- A whole struct is written into a block that is known whole. -/
theorem wpList_store_course {w : World} {ops : Array Oper} {rest : List Oper} {o : Oper} {a : Act} {Q : Exit → Act → World → Prop} (hgd : o.guard = none) (x y : Operand) (ho : o.op = .store 134 x y)
    (g : Nat) (c : Array Value) (l : List Value) (hx : a.eval x = .pointer (some ⟨g, 0, none⟩)) (hy : a.eval y = .agg l.toArray) (hg : w.heap[g]? = some (.cells c 134 (0, 0))) (hc : c.size = 7) (hl : l.length = 7) (h1 : ∀ v ∈ l, v.oneCell' = true)
    (h : ∀ w', w'.heap[g]? = some (.cells l.toArray 134 (0, 0)) → Kept (fun i => i = g) w w' → wpList Try.prog ops Q rest (a.put o.dst undef) w') : wpList Try.prog ops Q (o :: rest) a w := by
  refine wpList_plain hgd fun K hK => ?_
  have hs : l.toArray.size = 7 := by rw [List.size_toArray, hl]
  have hrun := run_storeVar_row (P := Try.prog) w g 134 134 c l.toArray hg (by rw [hs]; exact sizeCourse) (by rw [hc, hs]) (all_oneCell_toArray h1)
  unfold Oper.wp execOp
  simp only [ho, hx, hy, Instr.storeAt, Instr.sureAddr, Sem.run_bind, Sem.run_pure, Result.andThen_ok, hrun]
  refine hK _ _ (h _ (setRow_heap w g c _ 134 _ hg) ⟨rfl, rfl, rfl, by simp, fun k _ hk => setRow_other w g k _ (fun e => hk e)⟩)
/-- The value of no course. -/
def crs0 : Value := .agg #[.int .i64 0, .bool false, .slice none 0 0, .int .i64 0, .int .i64 0, .int .i64 0, .map none]
def crsL (n : Int) (b : Bool) (ao : Option Addr) (nl cap : Nat) (s t H : Int) (bm : Nat) : List Value := [.int .i64 n, .bool b, .slice ao nl cap, .int .i64 s, .int .i64 t, .int .i64 H, .map (some bm)]
theorem crsL_one (n : Int) (b : Bool) (ao : Option Addr) (nl cap : Nat) (s t H : Int) (bm : Nat) : ∀ v ∈ crsL n b ao nl cap s t H bm, v.oneCell' = true := by
  intro v hv
  unfold crsL at hv
  simp only [List.mem_cons, List.not_mem_nil, or_false] at hv
  rcases hv with rfl | rfl | rfl | rfl | rfl | rfl | rfl <;> rfl
def crs0L : List Value := [.int .i64 0, .bool false, .slice none 0 0, .int .i64 0, .int .i64 0, .int .i64 0, .map none]
theorem crs0L_one : ∀ v ∈ crs0L, v.oneCell' = true := by
  intro v hv
  unfold crs0L at hv
  simp only [List.mem_cons, List.not_mem_nil, or_false] at hv
  rcases hv with rfl | rfl | rfl | rfl | rfl | rfl | rfl <;> rfl
theorem wor_zero {n : Int} {Z : List ArcT} {s t H : Int} : worE n Z s t (List.replicate Z.length 0) H = askE n Z s t H := by
  by_cases h : askE n Z s t H = 0
  · obtain ⟨N, i, j, rfl, rfl, rfl, _, _, _, hW, _, _⟩ := ask_net h
    rw [(wor_st h (zero_flow Z (fun a ha => (hW.caps a ha).1) N i j)).1, h]
  · unfold worE
    rw [if_neg h]
theorem made_zeros (W : World) (g n : Nat) (hg : W.heap.size = g) : Lst encI (W.alloc (.cells (madeCells #[.int .i64 0] n) 3)) (some ⟨g, 0, none⟩) (List.replicate n 0) := by
  subst hg
  intro i hi
  rw [List.length_replicate] at hi
  refine ⟨W.heap.size, 0, rfl, by simp, ?_⟩
  rw [Nat.zero_add, cell_new, List.getElem_replicate]
  show ((Array.range n).map (fun j => (#[Value.int .i64 0] : Array Value)[j % 1]!))[i]? = _
  rw [Array.getElem?_map, Array.getElem?_range, if_pos hi, Option.map_some, Nat.mod_one]
  rfl
section
variable (n : Int) (b : Bool) (ao : Option Addr) (cap : Nat) (Z : List ArcT) (s t H : Int)
theorem pworth_zero (fo : Option Addr) (fc : Nat) (e0 : Int) (w : World) (h : Row encA 4 w ao Z) (hf : Lst encI w fo (List.replicate Z.length 0)) (hz : Z.length ≤ maxLen) (he : askE n Z s t H = e0) :
    Calls Try.prog 63 #[.agg #[.int .i64 n, .bool b, .slice ao Z.length cap], .int .i64 s, .int .i64 t, .slice fo Z.length fc, .int .i64 H] w fun e w' => ∃ v, e = .returned (.tuple #[.int .i64 v, .int .i64 e0]) ∧ Below w.heap.size w w' := by
  have h1 := pworth_any n b ao fo cap fc Z (List.replicate Z.length 0) s t H w h hf hz (by rw [List.length_replicate]; exact hz)
  rw [List.length_replicate, wor_zero, he] at h1
  exact h1.mono (fun e w' h2 => ⟨_, h2.1, h2.2⟩)
/-- What start tells. -/
def StrRes (w : World) (e : Ending) (w' : World) : Prop :=
  (askE n Z s t H = 0 ∧ ∃ bm, e = .returned (.tuple #[crsV n b ao Z.length cap s t H bm, .int .i64 0]) ∧ w.heap.size ≤ bm ∧ AmtIs w' bm 0 (fun _ => 0) ∧ Below w.heap.size w w') ∨
    (askE n Z s t H ≠ 0 ∧ e = .returned (.tuple #[crs0, .int .i64 (askE n Z s t H)]) ∧ Below w.heap.size w w')
set_option maxRecDepth 100000 in
set_option maxHeartbeats 8000000 in
theorem nstart_any (w : World) (h : Row encA 4 w ao Z) (hz : Z.length ≤ 4398046511104) :
    Calls Try.prog 99 #[.agg #[.int .i64 n, .bool b, .slice ao Z.length cap], .int .i64 s, .int .i64 t, .int .i64 H] w (StrRes n b ao cap Z s t H w) := by
  have hzm : Z.length ≤ maxLen := by unfold maxLen; omega
  have HZM := Lib.hid hzm
  have hb00 := ((Below.refl _ w).alloc (Nat.le_refl _) (.cells #[.int .i64 n, .bool b, .slice ao Z.length cap] 24)).alloc (by simp) (.cells #[.int .i64 0, .bool false, .slice none 0 0, .int .i64 0, .int .i64 0, .int .i64 0, .map none] 134)
  have hn00 := alloc_whole (heap_alloc_new w (.cells #[.int .i64 n, .bool b, .slice ao Z.length cap] 24)) (.cells #[.int .i64 0, .bool false, .slice none 0 0, .int .i64 0, .int .i64 0, .int .i64 0, .map none] 134)
  have hx00 := new_whole1 w (.cells #[.int .i64 n, .bool b, .slice ao Z.length cap] 24) (.cells #[.int .i64 0, .bool false, .slice none 0 0, .int .i64 0, .int .i64 0, .int .i64 0, .map none] 134)
  have HB := Lib.hid hb00
  have HN := Lib.hid hn00
  have HX := Lib.hid hx00
  have HR := Lib.hid (h.below' hb00)
  have c0 := cell_whole hn00 0
  have c1 := cell_whole hn00 1
  have c2 := cell_whole hn00 2
  have hmk := fun W => run_make_row' (P := Try.prog) 42 3 (.int .i64 0) 8 Try.underlying42 infoInt rfl .i64 .i64 Z.length (by omega) (by omega) W
  have hmm := @run_makeMap Try.prog
  clear h hb00 hn00 hx00 hzm
  go_enter Try.func99, Try.ntmps99
  go_wp2_with fail
  generalize (w.alloc (.cells #[.int .i64 n, .bool b, .slice ao Z.length cap] 24)).alloc (.cells #[.int .i64 0, .bool false, .slice none 0 0, .int .i64 0, .int .i64 0, .int .i64 0, .map none] 134) = w1 at *
  have bA := Lib.hid (below_drew ((Below.refl _ w1).alloc (Nat.le_refl _) (.cells (madeCells #[.int .i64 0] Z.length) 3)))
  have HRm := Lib.hid (HR.out.below' bA.out)
  have HFm : Hid (Lst encI (w1.alloc (.cells (madeCells #[.int .i64 0] Z.length) 3)).drew (some ⟨w1.heap.size, 0, none⟩) (List.replicate Z.length 0)) := Lib.hid (made_zeros w1 _ Z.length rfl)
  obtain ⟨e0, he⟩ : ∃ e0, askE n Z s t H = e0 := ⟨_, rfl⟩
  have HE := Lib.hid he
  clear he
  obtain ⟨g0, hg0⟩ : ∃ g0, w.heap.size = g0 := ⟨_, rfl⟩
  have HZ0 := Lib.hid hg0
  rw [hg0] at HN HX c0 c1 c2 ⊢
  clear hg0
  have hwl : g0 < w1.heap.size := lt_whole HN.out
  go_region_held3 (fun W => W.cell? ⟨g0, 0, none⟩ = some (.int .i64 n) ∧ W.cell? ⟨g0, 1, none⟩ = some (.bool b) ∧ W.cell? ⟨g0, 2, none⟩ = some (.slice ao Z.length cap)) (first | exact ⟨c0, c1, c2⟩ | exact ⟨z0, z1, z2⟩ | go_keep)
    (first | (go_at_call 63; refine (pworth_zero n b ao cap Z s t H _ _ e0 _ HRm.out HFm.out HZM.out HE.out).mono ?_; rintro e w2 ⟨v, rfl, hb2⟩; have HB2 := Lib.hid (bA.out.trans (hb2.mono bA.out.size)); have hn2 := kept_box HN.out HB2.out; have z0 := cell_whole hn2 0; have z1 := cell_whole hn2 1; have z2 := cell_whole hn2 2; clear hb2 hn2))
  all_goals
    clear hmk c0 c1 c2
    have hx2 := kept_box HX.out HB2.out
    have HX2 := Lib.hid hx2
    clear hx2
    by_cases h0 : e0 = 0
    · subst h0
      have HM := Lib.hid (AmtIs.made w2)
      have c0 := cell_alloc z0 (.map #[] 0)
      have c1 := cell_alloc z1 (.map #[] 0)
      have c2 := cell_alloc z2 (.map #[] 0)
      go_wp2_with ((with_reducible show wpList _ _ _ (Oper.mk none (Op.store 134 _ _) _ _ _ _ :: _) _ _); refine wpList_store_course rfl _ _ rfl (g0 + 1) _ (crsL n b ao Z.length cap s t H w2.heap.size) rfl rfl (alloc_whole HX2.out _) rfl rfl (crsL_one n b ao Z.length cap s t H _) ?_; intro w3 hg3 hk3; have HG3 := Lib.hid hg3; have HK3 := Lib.hid hk3; clear hg3 hk3)
      have k0 := cell_whole HG3.out 0
      have k1 := cell_whole HG3.out 1
      have k2 := cell_whole HG3.out 2
      have k3 := cell_whole HG3.out 3
      have k4 := cell_whole HG3.out 4
      have k5 := cell_whole HG3.out 5
      have k6 := cell_whole HG3.out 6
      unfold crsL at k0 k1 k2 k3 k4 k5 k6
      have hlt := lt_whole HX2.out
      have hs := HB.out.size
      have hz0 := HZ0.out
      have hs2 := HB2.out.size
      refine bodyPost_ret (v := .tuple #[crsV n b ao Z.length cap s t H w2.heap.size, .int .i64 0]) (by simp [results, Try.results99, go_sem, k0, k1, k2, k3, k4, k5, k6, crsV]) rfl ?_
      refine .inl ⟨HE.out, _, rfl, by omega, HM.out.keptS HK3.out (by show ¬ w2.heap.size = g0 + 1; omega), ?_⟩
      exact (HB.out.trans (HB2.out.mono hs)).trans (((Below.refl _ w2).alloc (Nat.le_refl _) (.map #[] 0)).mono (by omega) |>.trans (HK3.out.below (by simp; omega) (fun i e => by have e2 : i = g0 + 1 := e; omega)))
    · have hf1 : (e0 != 0) = true := by simpa using h0
      have hf2 : (e0 == 0) = false := by simpa using h0
      go_wp2_with ((with_reducible show wpList _ _ _ (Oper.mk none (Op.store 134 _ _) _ _ _ _ :: _) _ _); refine wpList_store_course rfl _ _ rfl (g0 + 1) _ crs0L rfl rfl HX2.out rfl rfl crs0L_one ?_; intro w3 hg3 hk3; have HG3 := Lib.hid hg3; have HK3 := Lib.hid hk3; clear hg3 hk3)
      have k0 := cell_whole HG3.out 0
      have k1 := cell_whole HG3.out 1
      have k2 := cell_whole HG3.out 2
      have k3 := cell_whole HG3.out 3
      have k4 := cell_whole HG3.out 4
      have k5 := cell_whole HG3.out 5
      have k6 := cell_whole HG3.out 6
      unfold crs0L at k0 k1 k2 k3 k4 k5 k6
      have hs := HB.out.size
      have hz0 := HZ0.out
      have hs2 := HB2.out.size
      refine bodyPost_ret (v := .tuple #[crs0, .int .i64 e0]) (by simp [results, Try.results99, go_sem, k0, k1, k2, k3, k4, k5, k6, crs0]) rfl ?_
      exact .inr ⟨by rw [HE.out]; exact h0, by rw [HE.out], (HB.out.trans (HB2.out.mono hs)).trans (HK3.out.below (by omega) (fun i e => by have e2 : i = g0 + 1 := e; omega))⟩
end
end Go.Proofs.Ytbkmfjegbmjknaa
