/- Lemmas of the layers below, several texts in one. -/
import Derived.Test.YtbkmfjegbmjknaaBQ
import Derived.Sort.Grow
import Derived.StillTailTactics
import Derived.LoopTactic
import Derived.Deep.QuietTactic
import Derived.BigQuiet
import Derived.OwnWalk
import Derived.Maps.AppendAt
namespace Go.Proofs.Ytbkmfjegbmjknaa
open Go.RowKit Go.Sort
set_option linter.unusedVariables false
theorem cmpi_anyQ (x y : Int) (w : World) : Calls Try.prog 119 #[.int .i64 x, .int .i64 y] w fun e w' => e = .returned (.int .i64 (cmpI x y)) ∧ w' = w := by
  by_cases h1 : x < y
  · have HE : Hid (cmpI x y = -1) := Lib.hid (by unfold cmpI; rw [if_pos h1])
    go_enter Try.func119, Try.ntmps119
    go_wp2_with (go_at_call 129; refine (nan_any _ _).mono ?_; rintro e w' ⟨rfl, rfl⟩)
    go_ret
    exact ⟨ret_int HE.out.symm, rfl⟩
  · by_cases h2 : y < x
    · have HE : Hid (cmpI x y = 1) := Lib.hid (by unfold cmpI; rw [if_neg h1, if_pos h2])
      go_enter Try.func119, Try.ntmps119
      go_wp2_with (go_at_call 129; refine (nan_any _ _).mono ?_; rintro e w' ⟨rfl, rfl⟩)
      go_ret
      exact ⟨ret_int HE.out.symm, rfl⟩
    · have HE : Hid (cmpI x y = 0) := Lib.hid (by unfold cmpI; rw [if_neg h1, if_neg h2])
      go_enter Try.func119, Try.ntmps119
      go_wp2_with (go_at_call 129; refine (nan_any _ _).mono ?_; rintro e w' ⟨rfl, rfl⟩)
      go_ret
      exact ⟨ret_int HE.out.symm, rfl⟩
def orI : List Int → Int
  | [] => 0
  | x :: r => if x = 0 then orI r else x
theorem orI_drop (zs : List Int) {k : Nat} (hk : k < zs.length) : orI (zs.drop k) = if zs.getD k 0 = 0 then orI (zs.drop (k + 1)) else zs.getD k 0 := by
  rw [List.drop_eq_getElem_cons hk, getD_of_lt hk]; rfl
theorem or_some (ad : Addr) (cap : Nat) (zs : List Int) (w : World) (h : RI w (some ad) zs) (hl : zs.length ≤ 1000) :
    Calls Try.prog 118 #[.slice (some ad) zs.length cap] w fun e w' => e = .returned (.int .i64 (orI zs)) ∧ w' = w := by
  have H := Lib.hid h
  clear h
  go_enter Try.func118, Try.ntmps118
  go_wp2
  go_loop [8] (fun v => ∃ (k : Nat), k ≤ zs.length ∧ Hid (orI (zs.drop k) = orI zs) ∧ v = .int .i64 k) (fun v => zs.length - (intOf v).toNat)
  case atStart => exact ⟨0, by omega, Lib.hid rfl, rfl⟩
  case round =>
    obtain ⟨k, hk, HX, rfl⟩ := hrel
    by_cases hlt : k < zs.length
    · obtain ⟨ad', he, hb, hcell⟩ := H.out k hlt
      obtain rfl := Option.some.inj he
      have HT := Lib.hid (orI_drop zs hlt)
      clear he hb
      generalize zs.getD k 0 = z at *
      by_cases hz : z = 0
      · subst hz
        have HE : Hid (orI (zs.drop (k + 1)) = orI zs) := Lib.hid (by rw [← HX.out, HT.out, if_pos rfl])
        go_wp2
        go_round
        case rel => exact ⟨k + 1, by omega, HE, by go_num⟩
        case measure => simp [intOf]; omega
      · have HE : Hid (orI zs = z) := Lib.hid (by rw [← HX.out, HT.out, if_neg hz])
        go_wp2
        go_ret
        exact ⟨ret_int HE.out.symm, rfl⟩
    · have HE : Hid (orI zs = 0) := Lib.hid (by rw [← HX.out, List.drop_eq_nil_of_le (by omega)]; rfl)
      go_wp2
      go_ret
      exact ⟨ret_int HE.out.symm, rfl⟩
end Go.Proofs.Ytbkmfjegbmjknaa
namespace Go.Proofs.Ytbkmfjegbmjknaa
open Go.RowKit Go.Sort
set_option linter.unusedVariables false
def ltK (a b : Int × Int × Int) : Bool := decide (a.1 < b.1 ∨ a.1 = b.1 ∧ (a.2.1 < b.2.1 ∨ a.2.1 = b.2.1 ∧ a.2.2 < b.2.2))
theorem ltK_iff {a b : Int × Int × Int} : ltK a b = true ↔ (a.1 < b.1 ∨ a.1 = b.1 ∧ (a.2.1 < b.2.1 ∨ a.2.1 = b.2.1 ∧ a.2.2 < b.2.2)) := by unfold ltK; exact decide_eq_true_iff
theorem ltK_no {a b : Int × Int × Int} : ltK a b = false ↔ ¬ (a.1 < b.1 ∨ a.1 = b.1 ∧ (a.2.1 < b.2.1 ∨ a.2.1 = b.2.1 ∧ a.2.2 < b.2.2)) := by unfold ltK; exact decide_eq_false_iff_not
theorem ltK_irrefl (a : Int × Int × Int) : ltK a a = false := by rw [ltK_no]; omega
theorem ltK_trans {a b c : Int × Int × Int} (h : ltK a b = true) (k : ltK b c = true) : ltK a c = true := by rw [ltK_iff] at *; omega
theorem ltK_ntrans {a b c : Int × Int × Int} (h : ltK a b = false) (k : ltK b c = false) : ltK a c = false := by rw [ltK_no] at *; omega
theorem ltK_asymm {a b : Int × Int × Int} (h : ltK a b = true) : ltK b a = false := by rw [ltK_iff] at h; rw [ltK_no]; omega
theorem ltK_total {a b : Int × Int × Int} (h : a ≠ b) : ltK a b = true ∨ ltK b a = true := by
  obtain ⟨x, y, z⟩ := a; obtain ⟨u, v, s⟩ := b
  rw [ltK_iff, ltK_iff]
  simp only [ne_eq, Prod.mk.injEq, not_and] at h
  simp only
  omega
def kP (p : Int × Int) : Int × Int × Int := (p.1, p.2, 0)
def kM (m : Int × Int × Int) : Int × Int × Int := (m.2.1, m.1, 0)
def cmpPQ (a b : Int × Int) : Int := orI [cmpI a.1 b.1, cmpI a.2 b.2]
def cmpM (a b : Int × Int × Int) : Int := cmpPQ (a.2.1, a.1) (b.2.1, b.1)
theorem cmpI_lt (x y : Int) : (cmpI x y < 0 ↔ x < y) ∧ (cmpI x y = 0 ↔ x = y) := by unfold cmpI; repeat' split
                                                                                    all_goals omega
theorem cmpP_ltQ (a b : Int × Int) : decide (cmpPQ a b < 0) = ltK (kP a) (kP b) := by
  unfold cmpPQ ltK kP orI orI orI
  apply decide_eq_decide.2
  have h1 := cmpI_lt a.1 b.1
  have h2 := cmpI_lt a.2 b.2
  simp only
  repeat' split
  all_goals omega
theorem cmpM_lt (a b : Int × Int × Int) : decide (cmpM a b < 0) = ltK (kM a) (kM b) := cmpP_ltQ _ _
theorem box0 (w : World) (cs ds : Array Value) (t s : TypeId) (j : Nat) : ((w.alloc (.cells cs t)).alloc (.cells ds s)).cell? ⟨w.heap.size, j, none⟩ = cs[j]? := by
  rw [((Below.refl _ (w.alloc (.cells cs t))).alloc (Nat.le_refl _) (.cells ds s)).cell (p := ⟨w.heap.size, j, none⟩) (by simp), cell_new]
theorem box1 (w : World) (cs ds : Array Value) (t s : TypeId) (j : Nat) : ((w.alloc (.cells cs t)).alloc (.cells ds s)).cell? ⟨w.heap.size + 1, j, none⟩ = ds[j]? := cell_new' (by simp) _ _ _
theorem boxes (w : World) (o p : Obj) : (w.alloc o).alloc p = grow (w.drewN 0) #[o, p] := by rw [alloc_eq_grow, alloc_eq_grow, grow_grow]; rfl
theorem boxes_end (w : World) (a b o : Obj) : ((grow (w.drewN 0) #[a, b]).drew).alloc o = grow (w.drewN 1) #[a, b, o] := by
  rw [alloc_eq_grow]; show grow (grow (w.drewN 1) #[a, b]) #[o] = _; rw [grow_grow]; rfl
theorem ri_new {w : World} {n : Nat} (hn : w.heap.size = n) (zs : List Int) (t : TypeId) : RI (w.alloc (.cells (zs.map fun z => Value.int .i64 z).toArray t)) (some ⟨n, 0, none⟩) zs := by
  intro i hi
  refine ⟨_, rfl, by subst hn; simp, ?_⟩
  rw [Addr.add_lit, Nat.zero_add, cell_newL hn, List.getElem?_map, List.getElem?_eq_getElem hi, getD_of_lt hi]; rfl
set_option maxRecDepth 100000 in
set_option maxHeartbeats 1000000 in
theorem cmpp_anyQ (a b : Int × Int) (w : World) : Calls Try.prog 98 #[.agg #[.int .i64 a.1, .int .i64 a.2], .agg #[.int .i64 b.1, .int .i64 b.2]] w fun e w' => e = .returned (.int .i64 (cmpPQ a b)) ∧ ∃ q os, w' = grow (w.drewN q) os := by
  obtain ⟨x, y⟩ := a
  obtain ⟨z, u⟩ := b
  simp only
  go_enter Try.func98, Try.ntmps98
  go_wp2
  have d0 : ((w.alloc (.cells #[.int .i64 x, .int .i64 y] 125)).alloc (.cells #[.int .i64 z, .int .i64 u] 125)).cell? ⟨w.heap.size, 0, none⟩ = some (.int .i64 x) := box0 w _ _ _ _ 0
  have c0 : ((w.alloc (.cells #[.int .i64 x, .int .i64 y] 125)).alloc (.cells #[.int .i64 z, .int .i64 u] 125)).cell? ⟨w.heap.size + 1, 0, none⟩ = some (.int .i64 z) := box1 w _ _ _ _ 0
  have d1 : ((w.alloc (.cells #[.int .i64 x, .int .i64 y] 125)).alloc (.cells #[.int .i64 z, .int .i64 u] 125)).cell? ⟨w.heap.size, 1, none⟩ = some (.int .i64 y) := box0 w _ _ _ _ 1
  have c1 : ((w.alloc (.cells #[.int .i64 x, .int .i64 y] 125)).alloc (.cells #[.int .i64 z, .int .i64 u] 125)).cell? ⟨w.heap.size + 1, 1, none⟩ = some (.int .i64 u) := box1 w _ _ _ _ 1
  have HW : Hid ((w.alloc (.cells #[.int .i64 x, .int .i64 y] 125)).alloc (.cells #[.int .i64 z, .int .i64 u] 125) = grow (w.drewN 0) #[.cells #[.int .i64 x, .int .i64 y] 125, .cells #[.int .i64 z, .int .i64 u] 125]) := Lib.hid (boxes _ _ _)
  generalize (w.alloc (.cells #[.int .i64 x, .int .i64 y] 125)).alloc (.cells #[.int .i64 z, .int .i64 u] 125) = w1 at *
  refine wp_region_still_tail 10 (by kernel_rfl) (by kernel_rfl) ?_
  change wpStill _ _ w1.drew _ _ _
  simp only [List.take_succ_cons, List.take_zero, List.drop_succ_cons, List.drop_zero]
  repeat (first | still_step | still_call (cmpi_anyQ _ _ _))
  refine wpStill_nil ?_
  change wpList _ _ _ _ _ w1.drew
  generalize hw2 : w1.drew = w2
  have HW2 := Lib.hid hw2
  clear hw2
  go_wp2_with (go_at_call 118; refine (or_some _ _ [cmpI x z, cmpI y u] _ (ri_new rfl _ _) (by simp)).mono ?_; rintro e w' ⟨rfl, rfl⟩)
  go_ret
  exact ⟨rfl, 1, _, by rw [← HW2.out, HW.out]; exact boxes_end _ _ _ _⟩
theorem cmpm_any (a b : Int × Int × Int) (w : World) : Calls Try.prog 77 #[.agg #[.int .i64 a.1, .int .i64 a.2.1, .int .i64 a.2.2], .agg #[.int .i64 b.1, .int .i64 b.2.1, .int .i64 b.2.2]] w fun e w' => e = .returned (.int .i64 (cmpM a b)) ∧ ∃ q os, w' = grow (w.drewN q) os := by
  go_enter Try.func77, Try.ntmps77
  go_wp2_with (go_at_call 98; refine (cmpp_anyQ (a.2.1, a.1) (b.2.1, b.1) _).mono ?_; rintro e w' ⟨rfl, q, os, rfl⟩)
  go_ret
  exact ⟨rfl, q, _, by rw [boxes]; show grow (grow (w.drewN q) _) _ = _; rw [grow_grow]⟩
end Go.Proofs.Ytbkmfjegbmjknaa
namespace Go.Proofs.Ytbkmfjegbmjknaa
open Go.RowKit Go.Sort
set_option linter.unusedVariables false
theorem Row.tri {w : World} {ao : Option Addr} {Z : List (Int × Int × Int)} (h : Row encK 3 w ao Z) {i : Nat} (hi : i < Z.length) : ∃ b o, ao = some ⟨b, o, none⟩ ∧ b < w.heap.size ∧
    w.cell? ⟨b, o + i * 3, none⟩ = some (.int .i64 Z[i].1) ∧ w.cell? ⟨b, o + i * 3 + 1, none⟩ = some (.int .i64 Z[i].2.1) ∧ w.cell? ⟨b, o + i * 3 + 2, none⟩ = some (.int .i64 Z[i].2.2) := by
  obtain ⟨b, o, e, hb, hc⟩ := h i hi
  exact ⟨b, o, e, hb, hc 0 (by omega), hc 1 (by omega), hc 2 (by omega)⟩
theorem Row.pair {w : World} {ao : Option Addr} {Z : List (Int × Int)} (h : Row encPQ 2 w ao Z) {i : Nat} (hi : i < Z.length) : ∃ b o, ao = some ⟨b, o, none⟩ ∧ b < w.heap.size ∧
    w.cell? ⟨b, o + i * 2, none⟩ = some (.int .i64 Z[i].1) ∧ w.cell? ⟨b, o + i * 2 + 1, none⟩ = some (.int .i64 Z[i].2) := by
  obtain ⟨b, o, e, hb, hc⟩ := h i hi
  exact ⟨b, o, e, hb, hc 0 (by omega), hc 1 (by omega)⟩
theorem Row.num {w : World} {ao : Option Addr} {Z : List Int} (h : Row encIQ 1 w ao Z) {i : Nat} (hi : i < Z.length) : ∃ b o, ao = some ⟨b, o, none⟩ ∧ b < w.heap.size ∧ w.cell? ⟨b, o + i, none⟩ = some (.int .i64 Z[i]) := by
  obtain ⟨b, o, e, hb, hc⟩ := h i hi
  have := hc 0 (by omega)
  rw [Nat.mul_one, Nat.add_zero] at this
  exact ⟨b, o, e, hb, this⟩
theorem row_allocQ {α : Type} {enc : α → List Value} {k : Nat} {w : World} {ao : Option Addr} {A : List α} (h : Row enc k w ao A) (o : Obj) : Row enc k (w.alloc o) ao A := h.below' ((Below.refl _ w).alloc (Nat.le_refl _) o)
theorem setArr20 (a b x y : Value) : ((#[a, b].setIfInBounds 0 x).setIfInBounds 1 y)[0]? = some x := rfl
theorem setArr21 (a b x y : Value) : ((#[a, b].setIfInBounds 0 x).setIfInBounds 1 y)[1]? = some y := rfl
theorem cell_allocQ {w : World} {a : Addr} {v : Value} (h : w.cell? a = some v) (o : Obj) : (w.alloc o).cell? a = some v := by
  rw [((Below.refl _ w).alloc (Nat.le_refl _) o).cell (block_lt_of_cell h)]; exact h
set_option maxRecDepth 100000 in
set_option maxHeartbeats 1000000 in
theorem moves1_any (i p : Nat) (ao : Option Addr) (cap : Nat) (Z : List (Int × Int × Int)) (w : World) (hp : w.cell? ⟨p, 0, none⟩ = some (.slice ao Z.length cap)) (h : Row encK 3 w ao Z) (hi : i < Z.length) (hs : Z.length ≤ 200) :
    Calls Try.prog 73 #[.int .i64 (i : Int), .pointer (some ⟨p, 0, none⟩)] w fun e w' => e = .returned (.agg (encPQ (Z[i].2.1, Z[i].1)).toArray) ∧ Below w.heap.size w w' := by
  obtain ⟨b, o, rfl, hb, c0, c1, c2⟩ := h.tri hi
  obtain ⟨⟨x, y, u⟩, hx⟩ : ∃ x, Z[i] = x := ⟨_, rfl⟩
  rw [hx] at c0 c1 c2
  rw [hx]
  have hpb := block_lt_of_cell hp
  have hli : (i : Int) < (Z.length : Int) := by omega
  have hp' := cell_allocQ hp (.cells #[.int .i64 0, .int .i64 0] 125)
  have a' := cell_allocQ c1 (.cells #[.int .i64 0, .int .i64 0] 125)
  have b' := cell_allocQ c0 (.cells #[.int .i64 0, .int .i64 0] 125)
  have g0 := cell_new w #[.int .i64 0, .int .i64 0] 125 0
  have g1 := cell_new w #[.int .i64 0, .int .i64 0] 125 1
  have hn := heap_alloc_new w (.cells #[.int .i64 0, .int .i64 0] 125)
  have f0 := frozen_whole hn 0
  have f1 := frozen_whole hn 1
  have hb1 := (Below.refl _ w).alloc (Nat.le_refl _) (.cells #[.int .i64 0, .int .i64 0] 125)
  have G0 : Hid ((w.alloc (.cells #[.int .i64 0, .int .i64 0] 125)).cell? ⟨w.heap.size, 0, none⟩ = some (.int .i64 0)) := Lib.hid g0
  have G1 : Hid ((w.alloc (.cells #[.int .i64 0, .int .i64 0] 125)).cell? ⟨w.heap.size, 1, none⟩ = some (.int .i64 0)) := Lib.hid g1
  have HN := Lib.hid hn
  have HB1 := Lib.hid hb1
  clear h hx hp c0 c1 c2 g0 g1 hn hb1
  go_enter Try.func73, Try.ntmps73
  go_wp2
  have g0 := G0.out
  have g1 := G1.out
  clear G0 G1
  generalize w.alloc (.cells #[.int .i64 0, .int .i64 0] 125) = w1 at *
  refine wp_region_still_tail 11 (by kernel_rfl) (by kernel_rfl) ?_
  change wpStill _ _ w1.drew _ _ _
  simp only [List.take_succ_cons, List.take_zero, List.drop_succ_cons, List.drop_zero]
  repeat still_step
  refine wpStill_nil ?_
  change wpList _ _ _ _ _ w1.drew
  have HN2 : Hid (w1.drew.heap[w.heap.size]? = some (.cells #[.int .i64 0, .int .i64 0] 125)) := Lib.hid HN.out
  have HB2 : Hid (Below w.heap.size w w1.drew) := Lib.hid ⟨HB1.out.os, HB1.out.tape, HB1.out.output, HB1.out.size, HB1.out.block⟩
  have g0' : w1.drew.cell? ⟨w.heap.size, 0, none⟩ = some (.int .i64 0) := g0
  have g1' : w1.drew.cell? ⟨w.heap.size, 1, none⟩ = some (.int .i64 0) := g1
  have f0' : w1.drew.frozen? ⟨w.heap.size, 0, none⟩ = false := f0
  have f1' : w1.drew.frozen? ⟨w.heap.size, 1, none⟩ = false := f1
  generalize w1.drew = w2 at *
  clear HN HB1 hp' a' b' g0 g1 f0 f1
  go_wp2
  have q := set_whole (set_whole HN2.out 0 (.int .i64 y)) 1 (.int .i64 x)
  have q0 := cell_whole q 0
  have q1 := cell_whole q 1
  simp only [setArr20, setArr21] at q0 q1
  have hb3 := (HB2.out.setCell (p := ⟨w.heap.size, 0, none⟩) (Nat.le_refl _) (.int .i64 y)).setCell (p := ⟨w.heap.size, 1, none⟩) (Nat.le_refl _) (.int .i64 x)
  clear q
  generalize (w2.setCell ⟨w.heap.size, 0, none⟩ (.int .i64 y)).setCell ⟨w.heap.size, 1, none⟩ (.int .i64 x) = w3 at *
  exact bodyPost_ret (v := .agg #[.int .i64 y, .int .i64 x]) (by simp [results, Try.results73, go_sem, q0, q1]) rfl ⟨rfl, hb3⟩
theorem moves2_any (i p : Nat) (ao : Option Addr) (cap : Nat) (Z : List (Int × Int × Int)) (w : World) (hp : w.cell? ⟨p, 0, none⟩ = some (.slice ao Z.length cap)) (h : Row encK 3 w ao Z) (hi : i < Z.length) (hs : Z.length ≤ 200) :
    Calls Try.prog 75 #[.int .i64 (i : Int), .pointer (some ⟨p, 0, none⟩)] w fun e w' => e = .returned (.int .i64 Z[i].2.2) ∧ Below w.heap.size w w' := by
  obtain ⟨b, o, rfl, hb, c0, c1, c2⟩ := h.tri hi
  generalize Z[i] = x at *
  have hli : (i : Int) < (Z.length : Int) := by omega
  clear h
  go_enter Try.func75, Try.ntmps75
  go_wp2
  go_ret
  exact ⟨rfl, Below.refl _ _⟩
end Go.Proofs.Ytbkmfjegbmjknaa
namespace Go.Proofs.Ytbkmfjegbmjknaa
open Go.RowKit
set_option linter.unusedVariables false
section
variable {α : Type} {enc : α → List Value} {k : Nat}
theorem below_of_none {w w' : World} (h : w.grownBy w' none) : Below w.heap.size w w' := ⟨h.os, h.tape, h.output, h.size, fun i hi => h.block i hi (by simp)⟩
theorem wpList_make_row {t e : TypeId} {bytes : Nat} {z : Value} (ht : Try.prog.underlying t = some (.slice e)) (hinfo : (Try.prog.info? e).map (fun i => (i.zero, i.size, i.bytes)) = some (some z, k, bytes)) (hby : bytes ≤ 64) (enc : α → List Value)
    {w : World} {ops : Array Oper} {rest : List Oper} {o : Oper} {a : Act} {Q : Exit → Act → World → Prop} (hgd : o.guard = none) (l c : Operand) (hop : o.op = Op.makeSlice t l c)
    (base n : Nat) (hl : a.eval l = .int .i64 0) (hc : a.eval c = .int .i64 (n : Int)) (hn : n ≤ 200000) (hb : base ≤ w.heap.size)
    (hK : ∀ w', w'.ownsRow base e k (.slice (some ⟨w.heap.size, 0, none⟩) 0 n) ([] : List α).length (([] : List α).flatMap enc) → Below w.heap.size w w' → wpList Try.prog ops Q rest (a.put o.dst (.slice (some ⟨w.heap.size, 0, none⟩) 0 n)) w') : wpList Try.prog ops Q (o :: rest) a w := by
  obtain ⟨i0, hi, hz0, hz1, hz2⟩ := info_parts hinfo
  refine wpList_make_own w hgd l c t hop base e i0 _ k ht hi hz0 hz1 .i64 .i64 (n : Int) n hl hc rfl ?_ (by unfold maxLen; omega) hb ?_
  · rw [hz2]
    have : bytes * n ≤ 64 * 200000 := Nat.mul_le_mul hby hn
    omega
  · intro w' h1 h2
    exact hK w' h1 (below_of_none h2)
theorem own_belowQ {w w' : World} {base : Nat} {e : TypeId} {v : Value} {n : Nat} {xs : List Value} (h : w.ownsRow base e k v n xs) (hb : Below w.heap.size w w') : w'.ownsRow base e k v n xs :=
  h.kept (grown_of_below hb none) (by
    cases v.ownBlock with
    | none => exact .inl rfl
    | some g => exact .inr (by simp))
end
def GRowQ (w : World) (ga : Option Addr) (G : List (List Nat)) : Prop := ∀ i (hi : i < G.length), ∃ b o ao cap, ga = some ⟨b, o, none⟩ ∧ b < w.heap.size ∧ w.cell? ⟨b, o + i, none⟩ = some (.slice ao G[i].length cap) ∧ Row encIQ 1 w ao (natI G[i])
theorem GRowQ.below' {w w' : World} {ga : Option Addr} {G : List (List Nat)} (h : GRowQ w ga G) (hb : Below w.heap.size w w') : GRowQ w' ga G := by
  intro i hi
  obtain ⟨b, o, ao, cap, e, h1, h2, h3⟩ := h i hi
  exact ⟨b, o, ao, cap, e, Nat.lt_of_lt_of_le h1 hb.size, by rw [hb.cell h1]; exact h2, h3.below' hb⟩
theorem GRowQ.of {α : Type} {kt : TypeId} {enc : α → List Value} {k : Nat} {w0 w : World} {B : Nat} {ks gs : Value} {mk keys : List α} {G : List (List Nat)} {vs : List Value} {own : Nat → Nat} (h : GIx kt enc k w0 w B ks gs mk keys G vs own) :
    ∃ ga cap, gs = .slice ga G.length cap ∧ GRowQ w ga G := by
  obtain ⟨ga, cap, e, _, _⟩ := own_rowQ encV_len h.gr
  refine ⟨ga, cap, by rw [e, h.len], fun i hi => ?_⟩
  obtain ⟨g, cap', e', hc, hf, _, hg⟩ := h.slot hi
  rw [e, h.len] at e'
  cases e'
  obtain ⟨ao, c, e2, hr, _⟩ := own_rowQ encI_len (h.inn i hi)
  rw [getD_of_lt hi] at e2 hr
  exact ⟨g, 0, ao, c, rfl, hg, by rw [Nat.zero_add, hc, e2, natI_len], hr⟩
def tots (f : Nat → Int) (G : List (List Nat)) : List Int := G.map fun g => (g.map f).sum
theorem tots_len (f : Nat → Int) (G : List (List Nat)) : (tots f G).length = G.length := by simp [tots]
def AllIn (l : List Int) : Prop := ∀ s ∈ l, in64 s
def SumsRes (S : List Int) (w : World) (e : Ending) (w' : World) : Prop :=
  Below w.heap.size w w' ∧ ((AllIn S ∧ ∃ ta tcap, e = .returned (.tuple #[.slice ta S.length tcap, .bool true]) ∧ Row encIQ 1 w' ta S) ∨ (¬ AllIn S ∧ e = .returned (.tuple #[.slice none 0 0, .bool false])))
set_option maxRecDepth 100000 in
set_option maxHeartbeats 2000000 in
theorem sums_some (K : Nat) (cp : Array Value) (ad : Addr) (gcap : Nat) (G : List (List Nat)) (f : Nat → Int) (w : World) (hG : GRowQ w (some ad) G) (hn : G.length ≤ 200) (hm : ∀ g ∈ G, g.length ≤ 200) (hen : ∀ args w, (callFunc K args).run Try.prog w = .ok (.enter K args) w)
    (hclo : ∀ g ∈ G, ∀ i ∈ g, ∀ W, Below w.heap.size w W → Calls Try.prog K (#[.int .i64 (i : Int)] ++ cp) W fun e W' => e = .returned (.int .i64 (f i)) ∧ Below W.heap.size W W') (hf : ∀ g ∈ G, ∀ i ∈ g, in64 (f i)) :
    Calls Try.prog 74 #[.slice (some ad) G.length gcap, .func (.func K) #[] cp] w (SumsRes (tots f G) w) := by
  have HG := Lib.hid hG
  have HM := Lib.hid hm
  have HC := Lib.hid hclo
  have HF := Lib.hid hf
  clear hG hm hclo hf
  go_enter Try.func74, Try.ntmps74
  go_wp2_with (at_make; refine wpList_make_row Try.underlying42 infoInt (by omega) encIQ rfl _ _ rfl w.heap.size G.length rfl rfl (by omega) (Nat.le_refl _) ?_; intro w1 ho1 hb1; have HO1 := Lib.hid ho1; have HB1 := Lib.hid hb1; clear ho1 hb1)
  go_loopw [6, 19] (fun tot si wr => ∃ (i : Nat), i ≤ G.length ∧ Hid (Below w.heap.size w wr) ∧ Hid (wr.ownsRow w.heap.size 3 1 tot ((tots f G).take i).length (((tots f G).take i).flatMap encIQ)) ∧ Hid (AllIn ((tots f G).take i)) ∧ si = .int .i64 (i : Int)) (fun _ si _ => G.length - (intOf si).toNat)
  case atStart => exact ⟨0, by omega, HB1, HO1, Lib.hid (fun s hs => by simp at hs), rfl⟩
  case round =>
    clear HO1 HB1
    obtain ⟨i, hi, HB, HO, HA, rfl⟩ := hrel
    obtain ⟨wo, hwo⟩ : ∃ wo, wo = wr := ⟨_, rfl⟩
    subst hwo
    by_cases hlt : i < G.length
    · have hli : (i : Int) < (G.length : Int) := by omega
      obtain ⟨gb, go, ao, cap, e, hgb, hgc, hrow⟩ := (HG.out.below' HB.out) i hlt
      cases e
      obtain ⟨g, hg⟩ : ∃ g, G[i] = g := ⟨_, rfl⟩
      rw [hg] at hgc hrow
      have hgm : g ∈ G := hg ▸ List.getElem_mem hlt
      have hgl := HM.out g hgm
      have HGM := Lib.hid hgm
      have HGE := Lib.hid hg
      have HR := Lib.hid hrow
      clear hg hgm hrow
      go_wp2_with (at_make; refine wpList_make_row Try.underlying42 infoInt (by omega) encIQ rfl _ _ rfl wo.heap.size g.length rfl rfl (by omega) (Nat.le_refl _) ?_; intro w2 ho2 hb2; have HO2 := Lib.hid ho2; have HB2 := Lib.hid hb2; clear ho2 hb2)
      go_loopw [9, 28] (fun am sj wi => ∃ (j : Nat), j ≤ g.length ∧ Hid (Below wo.heap.size wo wi) ∧ Hid (wi.ownsRow wo.heap.size 3 1 am ((g.take j).map f).length (((g.take j).map f).flatMap encIQ)) ∧ sj = .int .i64 (j : Int)) (fun _ sj _ => g.length - (intOf sj).toNat)
      case atStart => exact ⟨0, by omega, HB2, HO2, rfl⟩
      case round =>
        clear HO2 HB2
        obtain ⟨j, hj, HBi, HOi, rfl⟩ := hrel
        by_cases hlj : j < g.length
        · have hljI : (j : Int) < (g.length : Int) := by omega
          obtain ⟨b2, o2, e2, hb2, hc2⟩ := (HR.out.below' HBi.out).num (i := j) (by rw [natI_len]; exact hlj)
          cases e2
          obtain ⟨p, hp⟩ : ∃ p, g[j] = p := ⟨_, rfl⟩
          have hpm : p ∈ g := hp ▸ List.getElem_mem hlj
          have hcv : (natI g)[j]'(by rw [natI_len]; exact hlj) = (p : Int) := by simp [natI, hp]
          rw [hcv] at hc2
          have HBw : Hid (Below w.heap.size w wr) := Lib.hid (HB.out.trans (HBi.out.mono HB.out.size))
          have HCT := Lib.hid (HC.out g HGM.out p hpm wr HBw.out)
          have htk : (g.take (j + 1)).map f = (g.take j).map f ++ [f p] := by rw [take_snoc g hlj, hp, List.map_append]; rfl
          have hroom : ((g.take j).map f).length ≤ 200000 := by simp; omega
          generalize (g.take j).map f = A at *
          have HTK := Lib.hid htk
          clear hp hpm hcv htk
          go_wp2_with fail
          refine HCT.out.mono ?_
          rintro e w3 ⟨rfl, hb3⟩
          have HO3 := Lib.hid ((own_belowQ HOi.out hb3).alloc (.cells #[.int .i64 (f p)] 3))
          have HB3 := Lib.hid ((HBi.out.trans (hb3.mono HBi.out.size)).alloc (Nat.le_trans HBi.out.size hb3.size) (.cells #[.int .i64 (f p)] 3))
          clear hb3 HCT HOi HBi
          go_wp2_with (at_builtin; refine wpList_append_row (enc := encIQ) Try.underlying42 infoInt rfl (by omega) (by omega) encI_len rfl _ _ rfl wo.heap.size _ A (f p) (encI_one _) rfl HO3.out _ 1 rfl (fun i hi => cell_newL rfl (encIQ (f p)) 3 i) hroom HB3.out.size ?_; intro g4 cap4 w4 ho4 hg4 hl4 hb4 hlt4; have HO4 := Lib.hid ho4; have HB4 := Lib.hid (HB3.out.grown hg4 HB3.out.size (fun k hk => (HO3.out.lt k hk).1)); clear ho4 hg4 hl4)
          go_roundw
          case rel => exact ⟨j + 1, by omega, HB4, Lib.hid (by rw [HTK.out]; exact HO4.out), by go_num⟩
          case measure => simp [intOf]; omega
        · obtain rfl : j = g.length := by omega
          rw [List.take_length] at HOi
          have HIN : Hid (In64Q (g.map f)) := Lib.hid (fun z hz => by obtain ⟨q, hq, rfl⟩ := List.mem_map.1 hz; exact HF.out g HGM.out q hq)
          have hgl2 : (g.map f).length ≤ 200 := by simpa using hgl
          have HBw : Hid (Below w.heap.size w wr) := Lib.hid (HB.out.trans (HBi.out.mono HB.out.size))
          have HOw := Lib.hid (own_belowQ HO.out HBi.out)
          have htt : (tots f G).take (i + 1) = (tots f G).take i ++ [(g.map f).sum] := by
            rw [take_snoc _ (by rw [tots_len]; exact hlt)]; congr 1; simp [tots, HGE.out]
          have hroom : ((tots f G).take i).length ≤ 200000 := by rw [List.length_take, tots_len]; omega
          clear HBi HO HB
          generalize g.map f = A at *
          generalize (tots f G).take i = T at *
          have HTT := Lib.hid htt
          obtain ⟨aa, ac, rfl, har, haf⟩ := own_rowQ encI_len HOi.out
          have HRI := Lib.hid (ri_of_row har)
          clear har haf HOi htt
          by_cases hfit : in64 A.sum
          · have HFT := Lib.hid (fitR_yes hfit)
            have HFI := Lib.hid hfit
            clear hfit
            go_wp2_with (first
              | (go_at_call 95; refine (sum_any aa _ ac A _ rfl HRI.out HIN.out (by omega)).mono ?_; rintro e w3 ⟨rfl, rfl⟩; rw [HFT.out]; have HO3 := Lib.hid (HOw.out.alloc (.cells #[.int .i64 A.sum] 3)); have HB3 := Lib.hid (HBw.out.alloc HBw.out.size (.cells #[.int .i64 A.sum] 3)))
              | (at_builtin; refine wpList_append_row (enc := encIQ) Try.underlying42 infoInt rfl (by omega) (by omega) encI_len rfl _ _ rfl w.heap.size _ T A.sum (encI_one _) rfl HO3.out _ 1 rfl (fun i hi => cell_newL rfl (encIQ A.sum) 3 i) hroom HB3.out.size ?_; intro g4 cap4 w4 ho4 hg4 hl4 hb4 hlt4; have HO4 := Lib.hid ho4; have HB4 := Lib.hid (HB3.out.grown hg4 HB3.out.size (fun k hk => (HO3.out.lt k hk).1)); clear ho4 hg4 hl4))
            go_roundw
            case rel => exact ⟨i + 1, by omega, HB4, Lib.hid (by rw [HTT.out]; exact HO4.out), Lib.hid (by
              rw [HTT.out]; intro s hs
              rcases List.mem_append.1 hs with hs | hs
              · exact HA.out s hs
              · simp at hs; rw [hs]; exact HFI.out), by go_num⟩
            case measure => simp [intOf]; omega
          · have HFT := Lib.hid (fitR_no hfit)
            have HFI := Lib.hid hfit
            clear hfit
            go_wp2_with (go_at_call 95; refine (sum_any aa _ ac A _ rfl HRI.out HIN.out (by omega)).mono ?_; rintro e w3 ⟨rfl, rfl⟩; rw [HFT.out])
            go_ret2
            exact ⟨HBw.out, .inr ⟨fun h => HFI.out (h _ (List.mem_of_mem_take (i := i + 1) (by rw [HTT.out]; simp))), rfl⟩⟩
    · obtain rfl : i = G.length := by omega
      have htl : (tots f G).take G.length = tots f G := List.take_of_length_le (by rw [tots_len]; omega)
      rw [htl] at HO HA
      generalize tots f G = T at *
      obtain ⟨aa, ac, rfl, har, haf⟩ := own_rowQ encI_len HO.out
      have HR := Lib.hid har
      clear har haf HO htl
      go_wp2
      go_ret2
      exact ⟨HB.out, .inl ⟨HA.out, aa, ac, rfl, HR.out⟩⟩
theorem sums_nil (K : Nat) (cp : Array Value) (ao : Option Addr) (gcap : Nat) (w : World) : Calls Try.prog 74 #[.slice ao 0 gcap, .func (.func K) #[] cp] w (SumsRes [] w) := by
  go_enter Try.func74, Try.ntmps74
  go_wp2_with (at_make; refine wpList_make_row Try.underlying42 infoInt (by omega) encIQ rfl _ _ rfl w.heap.size 0 rfl rfl (by omega) (Nat.le_refl _) ?_; intro w1 ho1 hb1; have HO1 := Lib.hid ho1; have HB1 := Lib.hid hb1; clear ho1 hb1)
  refine wp_loop_rounds 1 ?_
  rw [rounds_succ]
  go_wp2
  go_ret2
  exact ⟨HB1.out, .inl ⟨fun s hs => by simp at hs, _, _, rfl, Row.nil _ _⟩⟩
theorem sums_any (K : Nat) (cp : Array Value) (ga : Option Addr) (gcap : Nat) (G : List (List Nat)) (f : Nat → Int) (w : World) (hG : GRowQ w ga G) (hn : G.length ≤ 200) (hm : ∀ g ∈ G, g.length ≤ 200) (hen : ∀ args w, (callFunc K args).run Try.prog w = .ok (.enter K args) w)
    (hclo : ∀ g ∈ G, ∀ i ∈ g, ∀ W, Below w.heap.size w W → Calls Try.prog K (#[.int .i64 (i : Int)] ++ cp) W fun e W' => e = .returned (.int .i64 (f i)) ∧ Below W.heap.size W W') (hf : ∀ g ∈ G, ∀ i ∈ g, in64 (f i)) :
    Calls Try.prog 74 #[.slice ga G.length gcap, .func (.func K) #[] cp] w (SumsRes (tots f G) w) := by
  cases G with
  | nil => exact sums_nil K cp ga gcap w
  | cons g G =>
    obtain ⟨b, o, ao, cap, rfl, _⟩ := hG 0 (by simp)
    exact sums_some K cp _ gcap _ f w hG hn hm hen hclo hf
end Go.Proofs.Ytbkmfjegbmjknaa
