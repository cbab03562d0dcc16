/- Lemmas of the layers below, several texts in one. -/
import Derived.Test.YtlkbohpnlbfopaaBQ
import Derived.Sort.Grow
import Derived.StillTailTactics
import Derived.LoopTactic
import Derived.Deep.QuietTactic
import Derived.BigQuiet
import Derived.OwnWalk
import Derived.Maps.AppendAt
namespace Go.Proofs.Ytlkbohpnlbfopaa
open Go.RowKit Go.Sort
set_option linter.unusedVariables false
theorem cmpi_anyQ (x y : Int) (w : World) : Calls Try.prog 101 #[.int .i64 x, .int .i64 y] w fun e w' => e = .returned (.int .i64 (cmpI x y)) ∧ w' = w := by
  by_cases h1 : x < y
  · have HE : Hid (cmpI x y = -1) := Lib.hid (by unfold cmpI; rw [if_pos h1])
    go_enter Try.func101, Try.ntmps101
    go_wp2_with (go_at_call 108; refine (nan_any _ _).mono ?_; rintro e w' ⟨rfl, rfl⟩)
    go_ret
    exact ⟨ret_int HE.out.symm, rfl⟩
  · by_cases h2 : y < x
    · have HE : Hid (cmpI x y = 1) := Lib.hid (by unfold cmpI; rw [if_neg h1, if_pos h2])
      go_enter Try.func101, Try.ntmps101
      go_wp2_with (go_at_call 108; refine (nan_any _ _).mono ?_; rintro e w' ⟨rfl, rfl⟩)
      go_ret
      exact ⟨ret_int HE.out.symm, rfl⟩
    · have HE : Hid (cmpI x y = 0) := Lib.hid (by unfold cmpI; rw [if_neg h1, if_neg h2])
      go_enter Try.func101, Try.ntmps101
      go_wp2_with (go_at_call 108; refine (nan_any _ _).mono ?_; rintro e w' ⟨rfl, rfl⟩)
      go_ret
      exact ⟨ret_int HE.out.symm, rfl⟩
def orI : List Int → Int
  | [] => 0
  | x :: r => if x = 0 then orI r else x
theorem orI_drop (zs : List Int) {k : Nat} (hk : k < zs.length) : orI (zs.drop k) = if zs.getD k 0 = 0 then orI (zs.drop (k + 1)) else zs.getD k 0 := by
  rw [List.drop_eq_getElem_cons hk, getD_of_lt hk]; rfl
theorem or_some (ad : Addr) (cap : Nat) (zs : List Int) (w : World) (h : RI w (some ad) zs) (hl : zs.length ≤ 1000) :
    Calls Try.prog 100 #[.slice (some ad) zs.length cap] w fun e w' => e = .returned (.int .i64 (orI zs)) ∧ w' = w := by
  have H := Lib.hid h
  clear h
  go_enter Try.func100, Try.ntmps100
  go_wp2
  go_loop [8] (fun v => ∃ (k : Nat), k ≤ zs.length ∧ Hid (orI (zs.drop k) = orI zs) ∧ v = .int .i64 k) (fun v => zs.length - (intOf v).toNat)
  case atStart => exact ⟨0, by omega, Lib.hid rfl, rfl⟩
  case round =>
    obtain ⟨k, hk, HX, rfl⟩ := hrel
    by_cases hlt : k < zs.length
    · obtain ⟨ad', he, hb, hcell⟩ := H.out k hlt
      obtain rfl := Option.some.inj he
      have HT := Lib.hid (orI_drop zs hlt)
      clear he hb
      generalize zs.getD k 0 = z at *
      by_cases hz : z = 0
      · subst hz
        have HE : Hid (orI (zs.drop (k + 1)) = orI zs) := Lib.hid (by rw [← HX.out, HT.out, if_pos rfl])
        go_wp2
        go_round
        case rel => exact ⟨k + 1, by omega, HE, by go_num⟩
        case measure => simp [intOf]; omega
      · have HE : Hid (orI zs = z) := Lib.hid (by rw [← HX.out, HT.out, if_neg hz])
        go_wp2
        go_ret
        exact ⟨ret_int HE.out.symm, rfl⟩
    · have HE : Hid (orI zs = 0) := Lib.hid (by rw [← HX.out, List.drop_eq_nil_of_le (by omega)]; rfl)
      go_wp2
      go_ret
      exact ⟨ret_int HE.out.symm, rfl⟩
end Go.Proofs.Ytlkbohpnlbfopaa
namespace Go.Proofs.Ytlkbohpnlbfopaa
open Go.RowKit Go.Sort
set_option linter.unusedVariables false
def ltK (a b : Int × Int × Int) : Bool := decide (a.1 < b.1 ∨ a.1 = b.1 ∧ (a.2.1 < b.2.1 ∨ a.2.1 = b.2.1 ∧ a.2.2 < b.2.2))
theorem ltK_iff {a b : Int × Int × Int} : ltK a b = true ↔ (a.1 < b.1 ∨ a.1 = b.1 ∧ (a.2.1 < b.2.1 ∨ a.2.1 = b.2.1 ∧ a.2.2 < b.2.2)) := by unfold ltK; exact decide_eq_true_iff
theorem ltK_no {a b : Int × Int × Int} : ltK a b = false ↔ ¬ (a.1 < b.1 ∨ a.1 = b.1 ∧ (a.2.1 < b.2.1 ∨ a.2.1 = b.2.1 ∧ a.2.2 < b.2.2)) := by unfold ltK; exact decide_eq_false_iff_not
theorem ltK_irrefl (a : Int × Int × Int) : ltK a a = false := by rw [ltK_no]; omega
theorem ltK_trans {a b c : Int × Int × Int} (h : ltK a b = true) (k : ltK b c = true) : ltK a c = true := by rw [ltK_iff] at *; omega
theorem ltK_ntrans {a b c : Int × Int × Int} (h : ltK a b = false) (k : ltK b c = false) : ltK a c = false := by rw [ltK_no] at *; omega
theorem ltK_asymm {a b : Int × Int × Int} (h : ltK a b = true) : ltK b a = false := by rw [ltK_iff] at h; rw [ltK_no]; omega
theorem ltK_total {a b : Int × Int × Int} (h : a ≠ b) : ltK a b = true ∨ ltK b a = true := by
  obtain ⟨x, y, z⟩ := a; obtain ⟨u, v, s⟩ := b
  rw [ltK_iff, ltK_iff]
  simp only [ne_eq, Prod.mk.injEq, not_and] at h
  simp only
  omega
def kP (p : Int × Int) : Int × Int × Int := (p.1, p.2, 0)
def kM (m : Int × Int × Int) : Int × Int × Int := (m.2.1, m.1, 0)
def cmpPQ (a b : Int × Int) : Int := orI [cmpI a.1 b.1, cmpI a.2 b.2]
def cmpM (a b : Int × Int × Int) : Int := cmpPQ (a.2.1, a.1) (b.2.1, b.1)
theorem cmpI_lt (x y : Int) : (cmpI x y < 0 ↔ x < y) ∧ (cmpI x y = 0 ↔ x = y) := by unfold cmpI; repeat' split
                                                                                    all_goals omega
theorem cmpP_ltQ (a b : Int × Int) : decide (cmpPQ a b < 0) = ltK (kP a) (kP b) := by
  unfold cmpPQ ltK kP orI orI orI
  apply decide_eq_decide.2
  have h1 := cmpI_lt a.1 b.1
  have h2 := cmpI_lt a.2 b.2
  simp only
  repeat' split
  all_goals omega
theorem cmpM_lt (a b : Int × Int × Int) : decide (cmpM a b < 0) = ltK (kM a) (kM b) := cmpP_ltQ _ _
theorem box0 (w : World) (cs ds : Array Value) (t s : TypeId) (j : Nat) : ((w.alloc (.cells cs t)).alloc (.cells ds s)).cell? ⟨w.heap.size, j, none⟩ = cs[j]? := by
  rw [((Below.refl _ (w.alloc (.cells cs t))).alloc (Nat.le_refl _) (.cells ds s)).cell (p := ⟨w.heap.size, j, none⟩) (by simp), cell_new]
theorem box1 (w : World) (cs ds : Array Value) (t s : TypeId) (j : Nat) : ((w.alloc (.cells cs t)).alloc (.cells ds s)).cell? ⟨w.heap.size + 1, j, none⟩ = ds[j]? := cell_new' (by simp) _ _ _
theorem boxes (w : World) (o p : Obj) : (w.alloc o).alloc p = grow (w.drewN 0) #[o, p] := by rw [alloc_eq_grow, alloc_eq_grow, grow_grow]; rfl
theorem boxes_end (w : World) (a b o : Obj) : ((grow (w.drewN 0) #[a, b]).drew).alloc o = grow (w.drewN 1) #[a, b, o] := by
  rw [alloc_eq_grow]; show grow (grow (w.drewN 1) #[a, b]) #[o] = _; rw [grow_grow]; rfl
theorem ri_new {w : World} {n : Nat} (hn : w.heap.size = n) (zs : List Int) (t : TypeId) : RI (w.alloc (.cells (zs.map fun z => Value.int .i64 z).toArray t)) (some ⟨n, 0, none⟩) zs := by
  intro i hi
  refine ⟨_, rfl, by subst hn; simp, ?_⟩
  rw [Addr.add_lit, Nat.zero_add, cell_newL hn, List.getElem?_map, List.getElem?_eq_getElem hi, getD_of_lt hi]; rfl
set_option maxRecDepth 100000 in
set_option maxHeartbeats 1000000 in
theorem cmpp_anyQ (a b : Int × Int) (w : World) : Calls Try.prog 82 #[.agg #[.int .i64 a.1, .int .i64 a.2], .agg #[.int .i64 b.1, .int .i64 b.2]] w fun e w' => e = .returned (.int .i64 (cmpPQ a b)) ∧ ∃ q os, w' = grow (w.drewN q) os := by
  obtain ⟨x, y⟩ := a
  obtain ⟨z, u⟩ := b
  simp only
  go_enter Try.func82, Try.ntmps82
  go_wp2
  have d0 : ((w.alloc (.cells #[.int .i64 x, .int .i64 y] 137)).alloc (.cells #[.int .i64 z, .int .i64 u] 137)).cell? ⟨w.heap.size, 0, none⟩ = some (.int .i64 x) := box0 w _ _ _ _ 0
  have c0 : ((w.alloc (.cells #[.int .i64 x, .int .i64 y] 137)).alloc (.cells #[.int .i64 z, .int .i64 u] 137)).cell? ⟨w.heap.size + 1, 0, none⟩ = some (.int .i64 z) := box1 w _ _ _ _ 0
  have d1 : ((w.alloc (.cells #[.int .i64 x, .int .i64 y] 137)).alloc (.cells #[.int .i64 z, .int .i64 u] 137)).cell? ⟨w.heap.size, 1, none⟩ = some (.int .i64 y) := box0 w _ _ _ _ 1
  have c1 : ((w.alloc (.cells #[.int .i64 x, .int .i64 y] 137)).alloc (.cells #[.int .i64 z, .int .i64 u] 137)).cell? ⟨w.heap.size + 1, 1, none⟩ = some (.int .i64 u) := box1 w _ _ _ _ 1
  have HW : Hid ((w.alloc (.cells #[.int .i64 x, .int .i64 y] 137)).alloc (.cells #[.int .i64 z, .int .i64 u] 137) = grow (w.drewN 0) #[.cells #[.int .i64 x, .int .i64 y] 137, .cells #[.int .i64 z, .int .i64 u] 137]) := Lib.hid (boxes _ _ _)
  generalize (w.alloc (.cells #[.int .i64 x, .int .i64 y] 137)).alloc (.cells #[.int .i64 z, .int .i64 u] 137) = w1 at *
  refine wp_region_still_tail 10 (by kernel_rfl) (by kernel_rfl) ?_
  change wpStill _ _ w1.drew _ _ _
  simp only [List.take_succ_cons, List.take_zero, List.drop_succ_cons, List.drop_zero]
  repeat (first | still_step | still_call (cmpi_anyQ _ _ _))
  refine wpStill_nil ?_
  change wpList _ _ _ _ _ w1.drew
  generalize hw2 : w1.drew = w2
  have HW2 := Lib.hid hw2
  clear hw2
  go_wp2_with (go_at_call 100; refine (or_some _ _ [cmpI x z, cmpI y u] _ (ri_new rfl _ _) (by simp)).mono ?_; rintro e w' ⟨rfl, rfl⟩)
  go_ret
  exact ⟨rfl, 1, _, by rw [← HW2.out, HW.out]; exact boxes_end _ _ _ _⟩
theorem cmpm_any (a b : Int × Int × Int) (w : World) : Calls Try.prog 74 #[.agg #[.int .i64 a.1, .int .i64 a.2.1, .int .i64 a.2.2], .agg #[.int .i64 b.1, .int .i64 b.2.1, .int .i64 b.2.2]] w fun e w' => e = .returned (.int .i64 (cmpM a b)) ∧ ∃ q os, w' = grow (w.drewN q) os := by
  go_enter Try.func74, Try.ntmps74
  go_wp2_with (go_at_call 82; refine (cmpp_anyQ (a.2.1, a.1) (b.2.1, b.1) _).mono ?_; rintro e w' ⟨rfl, q, os, rfl⟩)
  go_ret
  exact ⟨rfl, q, _, by rw [boxes]; show grow (grow (w.drewN q) _) _ = _; rw [grow_grow]⟩
end Go.Proofs.Ytlkbohpnlbfopaa
namespace Go.Proofs.Ytlkbohpnlbfopaa
open Go.RowKit Go.Sort
set_option linter.unusedVariables false
theorem Row.tri {w : World} {ao : Option Addr} {Z : List (Int × Int × Int)} (h : Row encK 3 w ao Z) {i : Nat} (hi : i < Z.length) : ∃ b o, ao = some ⟨b, o, none⟩ ∧ b < w.heap.size ∧
    w.cell? ⟨b, o + i * 3, none⟩ = some (.int .i64 Z[i].1) ∧ w.cell? ⟨b, o + i * 3 + 1, none⟩ = some (.int .i64 Z[i].2.1) ∧ w.cell? ⟨b, o + i * 3 + 2, none⟩ = some (.int .i64 Z[i].2.2) := by
  obtain ⟨b, o, e, hb, hc⟩ := h i hi
  exact ⟨b, o, e, hb, hc 0 (by omega), hc 1 (by omega), hc 2 (by omega)⟩
theorem Row.pair {w : World} {ao : Option Addr} {Z : List (Int × Int)} (h : Row encPQ 2 w ao Z) {i : Nat} (hi : i < Z.length) : ∃ b o, ao = some ⟨b, o, none⟩ ∧ b < w.heap.size ∧
    w.cell? ⟨b, o + i * 2, none⟩ = some (.int .i64 Z[i].1) ∧ w.cell? ⟨b, o + i * 2 + 1, none⟩ = some (.int .i64 Z[i].2) := by
  obtain ⟨b, o, e, hb, hc⟩ := h i hi
  exact ⟨b, o, e, hb, hc 0 (by omega), hc 1 (by omega)⟩
theorem Row.num {w : World} {ao : Option Addr} {Z : List Int} (h : Row encIQ 1 w ao Z) {i : Nat} (hi : i < Z.length) : ∃ b o, ao = some ⟨b, o, none⟩ ∧ b < w.heap.size ∧ w.cell? ⟨b, o + i, none⟩ = some (.int .i64 Z[i]) := by
  obtain ⟨b, o, e, hb, hc⟩ := h i hi
  have := hc 0 (by omega)
  rw [Nat.mul_one, Nat.add_zero] at this
  exact ⟨b, o, e, hb, this⟩
theorem row_allocQ {α : Type} {enc : α → List Value} {k : Nat} {w : World} {ao : Option Addr} {A : List α} (h : Row enc k w ao A) (o : Obj) : Row enc k (w.alloc o) ao A := h.below' ((Below.refl _ w).alloc (Nat.le_refl _) o)
theorem setArr20 (a b x y : Value) : ((#[a, b].setIfInBounds 0 x).setIfInBounds 1 y)[0]? = some x := rfl
theorem setArr21 (a b x y : Value) : ((#[a, b].setIfInBounds 0 x).setIfInBounds 1 y)[1]? = some y := rfl
theorem cell_allocQ {w : World} {a : Addr} {v : Value} (h : w.cell? a = some v) (o : Obj) : (w.alloc o).cell? a = some v := by
  rw [((Below.refl _ w).alloc (Nat.le_refl _) o).cell (block_lt_of_cell h)]; exact h
end Go.Proofs.Ytlkbohpnlbfopaa
namespace Go.Proofs.Ytlkbohpnlbfopaa
open Go.RowKit
set_option linter.unusedVariables false
section
variable {α : Type} {enc : α → List Value} {k : Nat}
theorem below_of_none {w w' : World} (h : w.grownBy w' none) : Below w.heap.size w w' := ⟨h.os, h.tape, h.output, h.size, fun i hi => h.block i hi (by simp)⟩
theorem wpList_make_row {t e : TypeId} {bytes : Nat} {z : Value} (ht : Try.prog.underlying t = some (.slice e)) (hinfo : (Try.prog.info? e).map (fun i => (i.zero, i.size, i.bytes)) = some (some z, k, bytes)) (hby : bytes ≤ 64) (enc : α → List Value)
    {w : World} {ops : Array Oper} {rest : List Oper} {o : Oper} {a : Act} {Q : Exit → Act → World → Prop} (hgd : o.guard = none) (l c : Operand) (hop : o.op = Op.makeSlice t l c)
    (base n : Nat) (hl : a.eval l = .int .i64 0) (hc : a.eval c = .int .i64 (n : Int)) (hn : n ≤ 200000) (hb : base ≤ w.heap.size)
    (hK : ∀ w', w'.ownsRow base e k (.slice (some ⟨w.heap.size, 0, none⟩) 0 n) ([] : List α).length (([] : List α).flatMap enc) → Below w.heap.size w w' → wpList Try.prog ops Q rest (a.put o.dst (.slice (some ⟨w.heap.size, 0, none⟩) 0 n)) w') : wpList Try.prog ops Q (o :: rest) a w := by
  obtain ⟨i0, hi, hz0, hz1, hz2⟩ := info_parts hinfo
  refine wpList_make_own w hgd l c t hop base e i0 _ k ht hi hz0 hz1 .i64 .i64 (n : Int) n hl hc rfl ?_ (by unfold maxLen; omega) hb ?_
  · rw [hz2]
    have : bytes * n ≤ 64 * 200000 := Nat.mul_le_mul hby hn
    omega
  · intro w' h1 h2
    exact hK w' h1 (below_of_none h2)
theorem own_belowQ {w w' : World} {base : Nat} {e : TypeId} {v : Value} {n : Nat} {xs : List Value} (h : w.ownsRow base e k v n xs) (hb : Below w.heap.size w w') : w'.ownsRow base e k v n xs :=
  h.kept (grown_of_below hb none) (by
    cases v.ownBlock with
    | none => exact .inl rfl
    | some g => exact .inr (by simp))
end
def GRowQ (w : World) (ga : Option Addr) (G : List (List Nat)) : Prop := ∀ i (hi : i < G.length), ∃ b o ao cap, ga = some ⟨b, o, none⟩ ∧ b < w.heap.size ∧ w.cell? ⟨b, o + i, none⟩ = some (.slice ao G[i].length cap) ∧ Row encIQ 1 w ao (natI G[i])
theorem GRowQ.below' {w w' : World} {ga : Option Addr} {G : List (List Nat)} (h : GRowQ w ga G) (hb : Below w.heap.size w w') : GRowQ w' ga G := by
  intro i hi
  obtain ⟨b, o, ao, cap, e, h1, h2, h3⟩ := h i hi
  exact ⟨b, o, ao, cap, e, Nat.lt_of_lt_of_le h1 hb.size, by rw [hb.cell h1]; exact h2, h3.below' hb⟩
theorem GRowQ.of {α : Type} {kt : TypeId} {enc : α → List Value} {k : Nat} {w0 w : World} {B : Nat} {ks gs : Value} {mk keys : List α} {G : List (List Nat)} {vs : List Value} {own : Nat → Nat} (h : GIx kt enc k w0 w B ks gs mk keys G vs own) :
    ∃ ga cap, gs = .slice ga G.length cap ∧ GRowQ w ga G := by
  obtain ⟨ga, cap, e, _, _⟩ := own_rowQ encV_len h.gr
  refine ⟨ga, cap, by rw [e, h.len], fun i hi => ?_⟩
  obtain ⟨g, cap', e', hc, hf, _, hg⟩ := h.slot hi
  rw [e, h.len] at e'
  cases e'
  obtain ⟨ao, c, e2, hr, _⟩ := own_rowQ encI_len (h.inn i hi)
  rw [getD_of_lt hi] at e2 hr
  exact ⟨g, 0, ao, c, rfl, hg, by rw [Nat.zero_add, hc, e2, natI_len], hr⟩
def tots (f : Nat → Int) (G : List (List Nat)) : List Int := G.map fun g => (g.map f).sum
theorem tots_len (f : Nat → Int) (G : List (List Nat)) : (tots f G).length = G.length := by simp [tots]
def AllIn (l : List Int) : Prop := ∀ s ∈ l, in64 s
def SumsRes (S : List Int) (w : World) (e : Ending) (w' : World) : Prop :=
  Below w.heap.size w w' ∧ ((AllIn S ∧ ∃ ta tcap, e = .returned (.tuple #[.slice ta S.length tcap, .bool true]) ∧ Row encIQ 1 w' ta S) ∨ (¬ AllIn S ∧ e = .returned (.tuple #[.slice none 0 0, .bool false])))
theorem sums_nil (K : Nat) (cp : Array Value) (ao : Option Addr) (gcap : Nat) (w : World) : Calls Try.prog 71 #[.slice ao 0 gcap, .func (.func K) #[] cp] w (SumsRes [] w) := by
  go_enter Try.func71, Try.ntmps71
  go_wp2_with (at_make; refine wpList_make_row Try.underlying65 infoInt (by omega) encIQ rfl _ _ rfl w.heap.size 0 rfl rfl (by omega) (Nat.le_refl _) ?_; intro w1 ho1 hb1; have HO1 := Lib.hid ho1; have HB1 := Lib.hid hb1; clear ho1 hb1)
  refine wp_loop_rounds 1 ?_
  rw [rounds_succ]
  go_wp2
  go_ret2
  exact ⟨HB1.out, .inl ⟨fun s hs => by simp at hs, _, _, rfl, Row.nil _ _⟩⟩
end Go.Proofs.Ytlkbohpnlbfopaa
