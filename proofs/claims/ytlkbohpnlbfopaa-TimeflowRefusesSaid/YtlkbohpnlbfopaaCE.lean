/- Lemmas of the layers below, several texts in one. -/
import Derived.Test.YtlkbohpnlbfopaaBX
import Derived.BigQuiet
import Derived.Deep.QuietTactic
import Derived.Test.YtlkbohpnlbfopaaBY
import Derived.Test.YtlkbohpnlbfopaaBU
import Derived.Test.YtlkbohpnlbfopaaCD
import Derived.Deep.RegionLaw
import Derived.Deep.AppendLies
import Derived.Test.YtlkbohpnlbfopaaCJ
import Derived.Maps.RangeWalk
namespace Go.Proofs.Ytlkbohpnlbfopaa
open Go.RowKit
set_option linter.unusedVariables false
def isfB (A : List ArcT) (F : List Int) : Bool := decide (F.length = A.length) && (List.range A.length).all (fun j => decide (0 ≤ F.getD j 0 ∧ F.getD j 0 ≤ (A.getD j (0, 0, 0, 0)).2.2.1))
theorem isfB_is {A : List ArcT} {F : List Int} : isfB A F = true ↔ F.length = A.length ∧ ∀ (j : Nat) (a : ArcT) (x : Int), A[j]? = some a → F[j]? = some x → 0 ≤ x ∧ x ≤ a.2.2.1 := by
  unfold isfB
  rw [Bool.and_eq_true, decide_eq_true_iff, List.all_eq_true]
  refine ⟨fun h => ⟨h.1, fun j a x ha hx => ?_⟩, fun h => ⟨h.1, fun j hj => ?_⟩⟩
  · have h1 := h.2 j (List.mem_range.2 (List.getElem?_eq_some_iff.1 ha).1)
    rw [decide_eq_true_iff, List.getD_eq_getElem?_getD, List.getD_eq_getElem?_getD, ha, hx] at h1
    exact h1
  · have hj1 : j < A.length := List.mem_range.1 hj
    have hj2 : j < F.length := by rw [h.1]; exact hj1
    rw [decide_eq_true_iff, List.getD_eq_getElem?_getD, List.getD_eq_getElem?_getD, List.getElem?_eq_getElem hj1, List.getElem?_eq_getElem hj2]
    exact h.2 j _ _ (List.getElem?_eq_getElem hj1) (List.getElem?_eq_getElem hj2)
theorem isfB_len {A : List ArcT} {F : List Int} (h : F.length ≠ A.length) : isfB A F = false := Bool.eq_false_iff.2 (fun e => h (isfB_is.1 e).1)
theorem isfB_bad {A : List ArcT} {F : List Int} {j : Nat} {a : ArcT} {x : Int} (ha : A[j]? = some a) (hx : F[j]? = some x) (h : ¬ (0 ≤ x ∧ x ≤ a.2.2.1)) : isfB A F = false := Bool.eq_false_iff.2 (fun e => h ((isfB_is.1 e).2 j a x ha hx))
theorem isfB_ok {A : List ArcT} {F : List Int} (hl : F.length = A.length) (h : ∀ j, j < A.length → ∀ (a : ArcT) (x : Int), A[j]? = some a → F[j]? = some x → 0 ≤ x ∧ x ≤ a.2.2.1) : isfB A F = true := isfB_is.2 ⟨hl, fun j a x ha hx => h j (List.getElem?_eq_some_iff.1 ha).1 a x ha hx⟩
set_option maxRecDepth 100000 in
set_option maxHeartbeats 8000000 in
theorem uisflow_any (k : GBk) (N H bn : Int) (oa fo : Option Addr) (al cap fl fc : Nat) (A : List ArcT) (F : List Int) (w : World) (hA : Row encA 4 w oa A) (hal : A.length = al) (hF : Lst encI w fo F) (hfl : F.length = fl) (hs : al ≤ 4398046511104) :
    Calls Try.prog 37 #[grwV k N H bn (.slice oa al cap), .slice fo fl fc] w fun e w' => e = .returned (.bool (isfB A F)) ∧ Below w.heap.size w w' := by
  unfold grwV
  have hb00 := (Below.refl _ w).alloc (Nat.le_refl _) (.cells #[.int .i64 N, .int .i64 H, .int .i64 bn, .bool false, .slice oa al cap, .map (some k.bc), .map (some k.bw), .map (some k.be), .map (some k.bx)] 101)
  have HB := Lib.hid hb00
  have HN := Lib.hid (heap_alloc_new w (.cells #[.int .i64 N, .int .i64 H, .int .i64 bn, .bool false, .slice oa al cap, .map (some k.bc), .map (some k.bw), .map (some k.be), .map (some k.bx)] 101))
  have HA := Lib.hid (hA.below' hb00)
  have HF := Lib.hid (hF.below hb00)
  have HAL := Lib.hid hal
  have HFL := Lib.hid hfl
  have c4 := cell_whole HN.out 4
  clear hA hb00 hF hal hfl
  by_cases hne : fl = al
  · subst hne
    go_enter Try.func37, Try.ntmps37
    go_wp2_with fail
    generalize w.alloc (.cells #[.int .i64 N, .int .i64 H, .int .i64 bn, .bool false, .slice oa fl cap, .map (some k.bc), .map (some k.bw), .map (some k.be), .map (some k.bx)] 101) = w1 at *
    clear c4 HN
    go_loopw [18] (fun iv wr => ∃ i : Nat, i ≤ fl ∧ iv = .int .i64 (i : Int) ∧ Hid (∀ j, j < i → ∀ (a : ArcT) (x : Int), A[j]? = some a → F[j]? = some x → 0 ≤ x ∧ x ≤ a.2.2.1) ∧ Hid (Below w1.heap.size w1 wr)) (fun iv _ => fl - (intOf iv).toNat)
    case atStart => exact ⟨0, Nat.zero_le _, rfl, Lib.hid (fun j hj => by omega), Lib.hid (Below.refl _ _)⟩
    case round =>
      obtain ⟨i, hi, rfl, HS, HW⟩ := hrel
      by_cases hlt : i < fl
      · have hli : (i : Int) < (fl : Int) := by omega
        have h1 : i < A.length := by rw [HAL.out]; exact hlt
        have h2 : i < F.length := by rw [HFL.out]; exact hlt
        obtain ⟨ab, ax, e, hab, d0, d1, d2, d3⟩ := arc_at (HA.out.below' HW.out) (List.getElem?_eq_getElem h1)
        cases e
        obtain ⟨fb, fx, e, hfb, hf⟩ := lst_cell (HF.out.below HW.out) (List.getElem?_eq_getElem h2)
        cases e
        have HX := Lib.hid (List.getElem?_eq_getElem h1)
        have HY := Lib.hid (List.getElem?_eq_getElem h2)
        unfold encI at hf
        generalize A[i] = a at *
        generalize F[i] = x at *
        obtain ⟨a1, a2, a3, a4⟩ := a
        simp only at d0 d1 d2 d3
        have hfa := cell_below ((Below.refl _ wr).alloc (Nat.le_refl _) (.cells #[.int .i64 a1, .int .i64 a2, .int .i64 a3, .int .i64 a4] 73)) hf
        have hnb := cell_whole (heap_alloc_new wr (.cells #[.int .i64 a1, .int .i64 a2, .int .i64 a3, .int .i64 a4] 73)) 2
        have HWn := Lib.hid (HW.out.alloc HW.out.size (.cells #[.int .i64 a1, .int .i64 a2, .int .i64 a3, .int .i64 a4] 73))
        clear h1 h2
        by_cases hx0 : x < 0
        · have hq : decide (x < 0) = true := decide_eq_true hx0
          have HR := Lib.hid (isfB_bad HX.out HY.out (fun e => by have := e.1; omega))
          go_wp2_with fail
          go_quiet (fail)
          go_wp2
          go_ret
          exact ⟨ret_bool HR.out.symm, HB.out.trans ((below_drewN HWn.out _).mono HB.out.size)⟩
        · have hq : decide (x < 0) = false := decide_eq_false hx0
          by_cases hx1 : a3 < x
          · have hq2 : decide (a3 < x) = true := decide_eq_true hx1
            have HR := Lib.hid (isfB_bad HX.out HY.out (fun e => by have := e.2; simp only at this; omega))
            go_wp2_with fail
            go_quiet (fail)
            go_wp2
            go_ret
            exact ⟨ret_bool HR.out.symm, HB.out.trans ((below_drewN HWn.out _).mono HB.out.size)⟩
          · have hq2 : decide (a3 < x) = false := decide_eq_false hx1
            have HS2 : Hid (∀ j, j < i + 1 → ∀ (a : ArcT) (x : Int), A[j]? = some a → F[j]? = some x → 0 ≤ x ∧ x ≤ a.2.2.1) := Lib.hid (fun j hj a' x' ha' hx' => by
              by_cases e : j = i
              · subst e
                rw [HX.out] at ha'; rw [HY.out] at hx'
                cases ha'; cases hx'
                exact ⟨by omega, by simp only; omega⟩
              · exact HS.out j (by omega) a' x' ha' hx')
            go_wp2_with fail
            go_quiet (fail)
            go_wp2
            go_roundw
            case rel => exact ⟨i + 1, by omega, by go_num, HS2, Lib.hid (below_drewN HWn.out _)⟩
            case measure => simp [intOf]; omega
      · have hli : ¬ (i : Int) < (fl : Int) := by omega
        have HR := Lib.hid (isfB_ok (by rw [HFL.out, HAL.out]) (fun j hj => HS.out j (by rw [HAL.out] at hj; omega)))
        go_wp2_with fail
        go_ret
        exact ⟨ret_bool HR.out.symm, HB.out.trans (HW.out.mono HB.out.size)⟩
  · have hn2 : ((fl : Int) != (al : Int)) = true := by simp; omega
    have HR := Lib.hid (isfB_len (A := A) (F := F) (by rw [HFL.out, HAL.out]; exact hne))
    go_enter Try.func37, Try.ntmps37
    go_wp2_with fail
    go_ret
    exact ⟨ret_bool HR.out.symm, HB.out⟩
end Go.Proofs.Ytlkbohpnlbfopaa
namespace Go.Proofs.Ytlkbohpnlbfopaa
open Go.RowKit
set_option linter.unusedVariables false
def movV (n : Int) (Z : List ArcT) (s t H : Int) (b : Bool) (F : List Int) : List MoveT := if xpE n Z s t H = 0 ∧ isfB (bldA n Z s t H b) F = true then mvsL (expOf n Z s t H b).kinds F else []
def movE (n : Int) (Z : List ArcT) (s t H : Int) (b : Bool) (F : List Int) : Int := if xpE n Z s t H = 0 then (if isfB (bldA n Z s t H b) F = true then 0 else 71) else xpE n Z s t H
def OwnMu (w : World) (base : Nat) (v : Value) (L : List MoveT) : Prop := w.ownsRow base 78 3 v L.length (L.flatMap encK)
theorem OwnMu.below {w w' : World} {base : Nat} {v : Value} {L : List MoveT} (h : OwnMu w base v L) (hb : Below w.heap.size w w') : OwnMu w' base v L := own_below h hb
theorem ownMu_snoc {w : World} {base : Nat} {v : Value} {Y : List MoveT} {x : MoveT} (h : w.ownsRow base 78 3 v (Y.length + 1) (Y.flatMap encK ++ encK x)) : OwnMu w base v (Y ++ [x]) := by
  unfold OwnMu
  rw [List.length_append, List.length_singleton, List.flatMap_append, List.flatMap_singleton]
  exact h
theorem cell_heap {w w' : World} {b o : Nat} {v : Value} (h : w'.heap[b]? = w.heap[b]?) (hc : w.cell? ⟨b, o, none⟩ = some v) : w'.cell? ⟨b, o, none⟩ = some v := by
  unfold World.cell? at hc ⊢
  rw [h]; exact hc
section
variable (n : Int) (b : Bool) (ao fo : Option Addr) (nl cap fl fc : Nat) (Z : List ArcT) (s t H : Int) (F : List Int)
def MovRes (w : World) (e : Ending) (w' : World) : Prop :=
  ∃ (ma : Option Addr) (mc : Nat), e = .returned (.tuple #[.slice ma (movV n Z s t H b F).length mc, .int .i64 (movE n Z s t H b F)]) ∧ Row encK 3 w' ma (movV n Z s t H b F) ∧ Below w.heap.size w w'
end
end Go.Proofs.Ytlkbohpnlbfopaa
namespace Go.Proofs.Ytlkbohpnlbfopaa
open Go.RowKit
set_option linter.unusedVariables false
def HeldK (kb ka ku fb fo : Nat) (ki kt x : Int) (W : World) : Prop := W.cell? ⟨kb, ka, none⟩ = some (.int .i64 ki) ∧ W.cell? ⟨kb, ku, none⟩ = some (.int .i64 kt) ∧ W.cell? ⟨fb, fo, none⟩ = some (.int .i64 x)
theorem HeldK.below {kb ka ku fb fo : Nat} {ki kt x : Int} {W W' : World} (h : HeldK kb ka ku fb fo ki kt x W) (hb : Below W.heap.size W W') : HeldK kb ka ku fb fo ki kt x W' := ⟨cell_below hb h.1, cell_below hb h.2.1, cell_below hb h.2.2⟩
section
variable (n : Int) (b : Bool) (ao fo : Option Addr) (nl cap fl fc : Nat) (Z : List ArcT) (s t H : Int) (F : List Int)
end
end Go.Proofs.Ytlkbohpnlbfopaa
namespace Go.Proofs.Ytlkbohpnlbfopaa
open Go.RowKit Go.Maps
set_option linter.unusedVariables false
section
variable {β : Type} {mk : β → Value} {w w' : World} {b r m cnt : Nat} {f : Int × Int → Option β} {left : Int × Int → Bool}
end
def HeldV (gc g6 fb fo : Nat) (ci cj p2 x : Int) (W : World) : Prop := W.cell? ⟨gc, 0, none⟩ = some (.int .i64 ci) ∧ W.cell? ⟨gc, 1, none⟩ = some (.int .i64 cj) ∧ W.cell? ⟨g6, 1, none⟩ = some (.int .i64 p2) ∧ W.cell? ⟨fb, fo, none⟩ = some (.int .i64 x)
theorem heldV {gc g6 fb fo : Nat} {ci cj p1 p2 x : Int} {W : World} (hc : W.heap[gc]? = some (.cells #[.int .i64 ci, .int .i64 cj] 124 (0, 0))) (hs : W.heap[g6]? = some (.cells #[.int .i64 p1, .int .i64 p2] 56 (0, 0))) (hf : W.cell? ⟨fb, fo, none⟩ = some (.int .i64 x)) : HeldV gc g6 fb fo ci cj p2 x W :=
  ⟨cell_whole hc 0, cell_whole hc 1, cell_whole hs 1, hf⟩
theorem below_grownN {w w' : World} (h : w.grownBy w' none) : Below w.heap.size w w' := ⟨h.os, h.tape, h.output, h.size, fun i hi => h.block i hi (by simp)⟩
theorem kd_okP {E : Exp} (hW : SpanNet E.Z E.N) (hH : E.H ≤ 1024) {j i u : Nat} (h : E.kinds[j]? = some (Kd.mv i u)) : okP (((E.frA i : Nat) : Int), (u : Int)) := by
  rcases Exp.kinds_cases (List.mem_of_getElem? h) with ⟨i', u', e, ho⟩ | ⟨v, u', _, e, _⟩ | ⟨u', _, e⟩ | ⟨u', _, e⟩
  · have e1 : i = i' := congrArg (fun k : Kd => k.2.1) e
    have e2 : u = u' := congrArg (fun k : Kd => k.2.2) e
    subst e1; subst e2
    obtain ⟨a, ha, h1, _⟩ := E.ok_arc ho
    have h2 := (hW.lt a (List.mem_of_getElem? ha)).1
    have h3 := hW.nodes
    have h4 : E.frA i = frN a := by unfold Exp.frA; rw [ha]
    rw [h4]
    exact ⟨by unfold in64; simp only; omega, by unfold in64; simp only; omega⟩
  · exact absurd (Prod.mk.inj e).1 (by decide)
  · exact absurd (Prod.mk.inj e).1 (by decide)
  · exact absurd (Prod.mk.inj e).1 (by decide)
theorem infoMove15 : (Try.prog.info? 78).map (fun i => (i.zero, i.size, i.bytes)) = some (some (.agg #[.int .i64 0, .int .i64 0, .int .i64 0]), 3, 24) := by kernel_rfl
theorem mvs_fit {K : List Kd} {F : List Int} (hK : K.length ≤ 200) (hx : ∀ x ∈ F, 0 ≤ x ∧ x ≤ 1099511627776) (hm : ∀ (j i u : Nat), K[j]? = some (Kd.mv i u) → i ≤ 200000 ∧ u ≤ 200000) : ∀ m ∈ mvsL K F, okK m := by
  intro m hm'
  obtain ⟨j, ⟨a, i, u⟩, x, h1, h2, h3, h4, rfl⟩ := mvsL_mem.1 hm'
  have h3 : a = 0 := h3
  subst h3
  have h5 := hm j i u h1
  have h6 := hx x (List.mem_of_getElem? h2)
  refine ⟨?_, ?_, ?_⟩ <;> (unfold in64; simp only; omega)
end Go.Proofs.Ytlkbohpnlbfopaa
namespace Go.Proofs.Ytlkbohpnlbfopaa
open Go.RowKit Go.Maps
set_option linter.unusedVariables false
theorem arc_caps {E : Exp} (hW : SpanNet E.Z E.N) : ∀ a ∈ E.net, a.2.2.1 ≤ 1099511627776 := by
  intro a ha
  unfold Exp.net at ha
  obtain ⟨k, hk, rfl⟩ := List.mem_map.1 ha
  rcases Exp.kinds_cases hk with ⟨i, u, rfl, ho⟩ | ⟨v, u, _, rfl, _⟩ | ⟨u, _, rfl⟩ | ⟨u, _, rfl⟩
  · obtain ⟨a, ha, _⟩ := E.ok_arc ho
    have e4 : E.arcKd (Kd.mv i u) = ((E.slot (frN a) u : Int), (E.slot (toN a) (u + tmN a) : Int), capN a, 0) := by simp only [Exp.arcKd, ha]
    rw [e4]
    have := (hW.caps a (List.mem_of_getElem? ha)).2
    simp only
    omega
  · exact Int.le_refl _
  · exact Int.le_refl _
  · exact Int.le_refl _
theorem isf_bd {E : Exp} (hW : SpanNet E.Z E.N) {F : List Int} (h : isfB E.net F = true) : F.length = E.kinds.length ∧ ∀ x ∈ F, 0 ≤ x ∧ x ≤ 1099511627776 := by
  obtain ⟨h1, h2⟩ := isfB_is.1 h
  refine ⟨by rw [h1]; unfold Exp.net; exact List.length_map _, fun x hx => ?_⟩
  obtain ⟨j, hj⟩ := List.mem_iff_getElem?.1 hx
  have hjl : j < E.net.length := by rw [← h1]; exact (List.getElem?_eq_some_iff.1 hj).1
  have h3 := h2 j _ x (List.getElem?_eq_getElem hjl) hj
  have h4 := arc_caps hW _ (List.getElem_mem hjl)
  omega
section
variable (n : Int) (b : Bool) (ao fo : Option Addr) (nl cap fl fc : Nat) (Z : List ArcT) (s t H : Int) (F : List Int)
end
section
variable (b : Bool) (ao fo : Option Addr) (nl cap fl fc : Nat) (Z : List ArcT) (N i j K : Nat) (F : List Int)
end
end Go.Proofs.Ytlkbohpnlbfopaa
