/- Lemmas of the layers below, several texts in one. -/
import Derived.Test.YtekcnglkfglbfaaXSpec
import Derived.Test.YtekcnglkfglbfaaBG
import Derived.Test.YtekcnglkfglbfaaVPlant
import Derived.BigQuiet
import Derived.Deep.QuietTactic
import Derived.Deep.RegionHeld3
import Derived.Test.YtekcnglkfglbfaaBH
namespace Go.Proofs.Ytekcnglkfglbfaa
open Go.RowKit
set_option linter.unusedVariables false

theorem c7Cells {w : World} {g : Nat} {x y z u v r s : Value} {t : TypeId} (h : w.heap[g]? = some (.cells #[x, y, z, u, v, r, s] t (0, 0))) :
    (w.cell? ⟨g, 0, none⟩ = some x ∧ w.cell? ⟨g, 1, none⟩ = some y ∧ w.cell? ⟨g, 2, none⟩ = some z ∧ w.cell? ⟨g, 3, none⟩ = some u ∧ w.cell? ⟨g, 4, none⟩ = some v ∧ w.cell? ⟨g, 5, none⟩ = some r ∧ w.cell? ⟨g, 6, none⟩ = some s) ∧
    w.frozen? ⟨g, 0, none⟩ = false ∧ w.frozen? ⟨g, 1, none⟩ = false ∧ w.frozen? ⟨g, 2, none⟩ = false ∧ w.frozen? ⟨g, 3, none⟩ = false ∧ w.frozen? ⟨g, 4, none⟩ = false ∧ w.frozen? ⟨g, 5, none⟩ = false ∧ w.frozen? ⟨g, 6, none⟩ = false :=
  ⟨⟨cell_whole h 0, cell_whole h 1, cell_whole h 2, cell_whole h 3, cell_whole h 4, cell_whole h 5, cell_whole h 6⟩, frozen_whole h 0, frozen_whole h 1, frozen_whole h 2, frozen_whole h 3, frozen_whole h 4, frozen_whole h 5, frozen_whole h 6⟩
/-- A row lies outside of two blocks. -/
def Off (ao : Option Addr) (n p tb : Nat) : Prop := ∀ ad, ao = some ad → 0 < n → ad.block ≠ p ∧ ad.block ≠ tb
theorem Off.of_ge {ao : Option Addr} {n p tb B : Nat} (h : ∀ ad, ao = some ad → 0 < n → B ≤ ad.block) (hp : p < B) (ht : tb < B) : Off ao n p tb := fun ad e h0 => by have := h ad e h0; omega
theorem Row.off {α : Type} {enc : α → List Value} {k : Nat} {S : Nat → Prop} {w w' : World} {ao : Option Addr} {A : List α} (h : Row enc k w ao A) (hk : Kept S w w') (hn : ∀ ad, ao = some ad → 0 < A.length → ¬ S ad.block) : Row enc k w' ao A := by
  intro i hi
  obtain ⟨b, o, e, hb, hc⟩ := h i hi
  exact ⟨b, o, e, Nat.lt_of_lt_of_le hb hk.size, fun j hj => (cell_of_block (hk.block b hb (hn _ e (by omega)))).trans (hc j hj)⟩
theorem Lst.off {α : Type} {enc : α → Value} {S : Nat → Prop} {w w' : World} {ao : Option Addr} {A : List α} (h : Lst enc w ao A) (hk : Kept S w w') (hn : ∀ ad, ao = some ad → 0 < A.length → ¬ S ad.block) : Lst enc w' ao A := by
  intro i hi
  obtain ⟨b, o, e, hb, hc⟩ := h i hi
  exact ⟨b, o, e, Nat.lt_of_lt_of_le hb hk.size, (cell_of_block (hk.block b hb (hn _ e (by omega)))).trans hc⟩
/-- Rows of steps, outside of two blocks. -/
def StepRow (w : World) (p tb sg : Nat) (G : List (List StepT)) : Prop := ∀ i (hi : i < G.length), ∃ ao cap, w.cell? ⟨sg, i, none⟩ = some (.slice ao G[i].length cap) ∧ Row encS 2 w ao G[i] ∧ Off ao G[i].length p tb
def rowsU (Z : List ArcT) (N : Nat) : List (List StepT) := (List.range N).map (stepsU Z)
theorem rowsU_len (Z : List ArcT) (N : Nat) : (rowsU Z N).length = N := by simp [rowsU]
theorem StepRow.at {w : World} {p tb sg N : Nat} {Z : List ArcT} (h : StepRow w p tb sg (rowsU Z N)) {v : Nat} (hv : v < N) : ∃ ao cap, w.cell? ⟨sg, v, none⟩ = some (.slice ao (stepsU Z v).length cap) ∧ Row encS 2 w ao (stepsU Z v) ∧ Off ao (stepsU Z v).length p tb := by
  have := h v (by rw [rowsU_len]; exact hv)
  simpa [rowsU] using this
structure FilW (w : World) (p tb sg N : Nat) (b : Bool) (ao : Option Addr) (cap : Nat) (Z : List ArcT) (sc tc : Nat) (fo : Option Addr) (fc : Nat) (F : List Int) (lo : Option Addr) (lc : Nat) (L T : List Int) : Prop where
  box : w.heap[p]? = some (.cells #[.int .i64 (N : Int), .bool b, .slice ao Z.length cap, .slice (some ⟨sg, 0, none⟩) N sc, .slice fo F.length fc, .slice lo L.length lc, .slice (some ⟨tb, 0, none⟩) N tc] 71 (0, 0))
  arcs : Row encA 4 w ao Z
  arcsO : Off ao Z.length p tb
  steps : StepRow w p tb sg (rowsU Z N)
  stepsO : sg ≠ p ∧ sg ≠ tb ∧ sg < w.heap.size
  flow : Lst encI w fo F
  flowO : Off fo F.length p tb
  levs : Lst encI w lo L
  levsO : Off lo L.length p tb
  tried : OwnL encI w 0 3 (.slice (some ⟨tb, 0, none⟩) N tc) T
  ne : tb ≠ p
section
variable {w w2 : World} {p tb sg N : Nat} {b : Bool} {ao : Option Addr} {cap : Nat} {Z : List ArcT} {sc tc : Nat} {fo : Option Addr} {fc : Nat} {F : List Int} {lo : Option Addr} {lc : Nat} {L T T' : List Int}
theorem FilW.lt (h : FilW w p tb sg N b ao cap Z sc tc fo fc F lo lc L T) : p < w.heap.size ∧ tb < w.heap.size ∧ sg < w.heap.size := ⟨lt_whole h.box, own_lt h.tried rfl, h.stepsO.2.2⟩
theorem StepRow.kept {S : Nat → Prop} {G : List (List StepT)} (h : StepRow w p tb sg G) (hk : Kept S w w2) (hS : ∀ i, S i → i = p ∨ i = tb) (hsg : sg ≠ p ∧ sg ≠ tb ∧ sg < w.heap.size) : StepRow w2 p tb sg G := by
  intro i hi
  obtain ⟨a, c, h1, h2, h3⟩ := h i hi
  refine ⟨a, c, (cell_of_block (hk.block sg hsg.2.2 (fun e => by have := hS _ e; omega))).trans h1, h2.off hk (fun ad e h0 q => by have := hS _ q; have := h3 ad e h0; omega), h3⟩
/-- Nothing but the two blocks may have turned. -/
theorem FilW.turn {S : Nat → Prop} {fo' : Option Addr} {fc' : Nat} {F' : List Int} {lo' : Option Addr} {lc' : Nat} {L' : List Int} (h : FilW w p tb sg N b ao cap Z sc tc fo fc F lo lc L T) (hk : Kept S w w2) (hS : ∀ i, S i → i = p ∨ i = tb)
    (hb : w2.heap[p]? = some (.cells #[.int .i64 (N : Int), .bool b, .slice ao Z.length cap, .slice (some ⟨sg, 0, none⟩) N sc, .slice fo' F'.length fc', .slice lo' L'.length lc', .slice (some ⟨tb, 0, none⟩) N tc] 71 (0, 0)))
    (hf : Lst encI w2 fo' F') (hfO : Off fo' F'.length p tb) (hl : Lst encI w2 lo' L') (hlO : Off lo' L'.length p tb) (ht : OwnL encI w2 0 3 (.slice (some ⟨tb, 0, none⟩) N tc) T') : FilW w2 p tb sg N b ao cap Z sc tc fo' fc' F' lo' lc' L' T' :=
  ⟨hb, h.arcs.off hk (fun ad e h0 q => by have := hS _ q; have := h.arcsO ad e h0; omega), h.arcsO, h.steps.kept hk hS h.stepsO, ⟨h.stepsO.1, h.stepsO.2.1, Nat.lt_of_lt_of_le h.stepsO.2.2 hk.size⟩, hf, hfO, hl, hlO, ht, h.ne⟩
theorem FilW.next (h : FilW w p tb sg N b ao cap Z sc tc fo fc F lo lc L T) (hb : Below w.heap.size w w2) : FilW w2 p tb sg N b ao cap Z sc tc fo fc F lo lc L T :=
  h.turn (S := fun _ => False) (Kept.of_below hb) (fun i e => e.elim) (kept_box h.box hb) (h.flow.below hb) h.flowO (h.levs.below hb) h.levsO (h.tried.below hb)
theorem FilW.alloc (h : FilW w p tb sg N b ao cap Z sc tc fo fc F lo lc L T) (o : Obj) : FilW (w.alloc o) p tb sg N b ao cap Z sc tc fo fc F lo lc L T := h.next ((Below.refl _ _).alloc (Nat.le_refl _) o)
theorem FilW.drewN (h : FilW w p tb sg N b ao cap Z sc tc fo fc F lo lc L T) (n : Nat) : FilW (w.drewN n) p tb sg N b ao cap Z sc tc fo fc F lo lc L T := h.next (below_drewN (Below.refl _ _) n)
theorem FilW.drew (h : FilW w p tb sg N b ao cap Z sc tc fo fc F lo lc L T) : FilW w.drew p tb sg N b ao cap Z sc tc fo fc F lo lc L T := h.next (below_drew (Below.refl _ _))
/-- Only what was tried has turned. -/
theorem FilW.keptT (h : FilW w p tb sg N b ao cap Z sc tc fo fc F lo lc L T) (hk : Kept (fun i => i = tb) w w2) (ht : OwnL encI w2 0 3 (.slice (some ⟨tb, 0, none⟩) N tc) T') : FilW w2 p tb sg N b ao cap Z sc tc fo fc F lo lc L T' :=
  h.turn hk (fun i e => .inr e) (hk.old h.box (fun e => h.ne e.symm)) (h.flow.off hk (fun ad e h0 q => (h.flowO ad e h0).2 q)) h.flowO (h.levs.off hk (fun ad e h0 q => (h.levsO ad e h0).2 q)) h.levsO ht
theorem FilW.setT (h : FilW w p tb sg N b ao cap Z sc tc fo fc F lo lc L T) (j : Nat) (y : Int) : FilW (w.setCell ⟨tb, j, none⟩ (.int .i64 y)) p tb sg N b ao cap Z sc tc fo fc F lo lc L (T.set j y) :=
  h.keptT ((Kept.refl (fun i => i = tb) w).set (.inl rfl) _) (h.tried.put j y)
theorem FilW.setF {fo' : Option Addr} {fc' : Nat} {F' : List Int} (h : FilW w p tb sg N b ao cap Z sc tc fo fc F lo lc L T) (hf : Lst encI w fo' F') (hfO : Off fo' F'.length p tb) : FilW (w.setCell ⟨p, 4, none⟩ (.slice fo' F'.length fc')) p tb sg N b ao cap Z sc tc fo' fc' F' lo lc L T := by
  have hk : Kept (fun i => i = p) w (w.setCell ⟨p, 4, none⟩ (.slice fo' F'.length fc')) := (Kept.refl (fun i => i = p) w).set (.inl rfl) _
  exact h.turn hk (fun i e => .inl e) (set_whole h.box 4 _) (hf.off hk (fun ad e h0 q => (hfO ad e h0).1 q)) hfO (h.levs.off hk (fun ad e h0 q => (h.levsO ad e h0).1 q)) h.levsO (ownL_kept h.tried hk (fun g e q => by simp [Value.ownBlock] at e; have e2 : g = p := q; exact h.ne (by omega)))
theorem FilW.setL {lo' : Option Addr} {lc' : Nat} {L' : List Int} (h : FilW w p tb sg N b ao cap Z sc tc fo fc F lo lc L T) (hl : Lst encI w lo' L') (hlO : Off lo' L'.length p tb) : FilW (w.setCell ⟨p, 5, none⟩ (.slice lo' L'.length lc')) p tb sg N b ao cap Z sc tc fo fc F lo' lc' L' T := by
  have hk : Kept (fun i => i = p) w (w.setCell ⟨p, 5, none⟩ (.slice lo' L'.length lc')) := (Kept.refl (fun i => i = p) w).set (.inl rfl) _
  exact h.turn hk (fun i e => .inl e) (set_whole h.box 5 _) (h.flow.off hk (fun ad e h0 q => (h.flowO ad e h0).1 q)) h.flowO (hl.off hk (fun ad e h0 q => (hlO ad e h0).1 q)) hlO (ownL_kept h.tried hk (fun g e q => by simp [Value.ownBlock] at e; have e2 : g = p := q; exact h.ne (by omega)))
end
theorem setCells_own {α : Type} {enc : α → Value} {e : TypeId} {B n cap : Nat} (z : α) (g : Nat) : ∀ (m k : Nat) (w : World) (T : List α), OwnL enc w B e (.slice (some ⟨g, 0, none⟩) n cap) T →
    OwnL enc (w.setCells g k (List.replicate m (enc z))) B e (.slice (some ⟨g, 0, none⟩) n cap) (T.take k ++ List.replicate (min m (T.length - k)) z ++ T.drop (k + m)) ∧ Kept (fun i => i = g) w (w.setCells g k (List.replicate m (enc z)))
  | 0, k, w, T, h => by
    refine ⟨?_, Kept.refl _ _⟩
    have : T.take k ++ List.replicate (min 0 (T.length - k)) z ++ T.drop (k + 0) = T := by simp
    rw [this]
    exact h
  | m + 1, k, w, T, h => by
    obtain ⟨h1, h2⟩ := setCells_own z g m (k + 1) (w.setCell ⟨g, k, none⟩ (enc z)) (T.set k z) (h.put k z)
    have e1 : w.setCells g k (List.replicate (m + 1) (enc z)) = (w.setCell ⟨g, k, none⟩ (enc z)).setCells g (k + 1) (List.replicate m (enc z)) := rfl
    rw [e1]
    refine ⟨?_, ((Kept.refl (fun i => i = g) w).set (.inl rfl) _).trans' h2⟩
    have e2 : (T.set k z).take (k + 1) ++ List.replicate (min m ((T.set k z).length - (k + 1))) z ++ (T.set k z).drop (k + 1 + m) = T.take k ++ List.replicate (min (m + 1) (T.length - k)) z ++ T.drop (k + (m + 1)) := by
      rw [List.length_set]
      by_cases hk : k < T.length
      · rw [List.drop_set_of_lt (by omega), List.take_succ_eq_append_getElem (by rw [List.length_set]; exact hk), List.getElem_set_self, List.take_set_of_le (Nat.le_refl _)]
        rw [show k + 1 + m = k + (m + 1) by omega, show min (m + 1) (T.length - k) = min m (T.length - (k + 1)) + 1 by omega, List.replicate_succ]
        simp
      · rw [List.set_eq_of_length_le (by omega), List.drop_of_length_le (by omega), List.drop_of_length_le (by omega), List.take_of_length_le (by omega), List.take_of_length_le (by omega), show T.length - (k + 1) = 0 by omega, show T.length - k = 0 by omega]
        simp
    rw [e2] at h1
    exact h1
/-- All that was tried is forgotten. -/
theorem setCells_zero {e : TypeId} {B cap g N : Nat} {w : World} {T : List Int} (h : OwnL encI w B e (.slice (some ⟨g, 0, none⟩) N cap) T) (hT : T.length = N) :
    OwnL encI (w.setCells g 0 (List.replicate N (.int .i64 0))) B e (.slice (some ⟨g, 0, none⟩) N cap) (List.replicate N 0) ∧ Kept (fun i => i = g) w (w.setCells g 0 (List.replicate N (.int .i64 0))) := by
  obtain ⟨h1, h2⟩ := setCells_own (enc := encI) (0 : Int) g N 0 w T h
  refine ⟨?_, h2⟩
  have : T.take 0 ++ List.replicate (min N (T.length - 0)) (0 : Int) ++ T.drop (0 + N) = List.replicate N 0 := by
    rw [hT]; simp [hT]
  rw [this] at h1
  exact h1
end Go.Proofs.Ytekcnglkfglbfaa

namespace Go.Proofs.Ytekcnglkfglbfaa
open Go.RowKit
set_option linter.unusedVariables false

section
variable (n : Int) (b : Bool) (ao : Option Addr) (cap : Nat) (Z : List ArcT)
set_option maxHeartbeats 1000000 in
theorem xbegin_at (i : Nat) (k : Bool) (a : ArcT) (w : World) (h : Row encA 4 w ao Z) (ha : Z[i]? = some a) (hz : Z.length ≤ 200) :
    Calls Try.prog 58 #[.agg #[.int .i64 n, .bool b, .slice ao Z.length cap], .agg #[.int .i64 (i : Int), .bool k]] w fun e w' => e = .returned (.int .i64 (begI a k)) ∧ Below w.heap.size w w' := by
  obtain ⟨hi, rfl⟩ := List.getElem?_eq_some_iff.1 ha
  obtain ⟨ab, ax, rfl, hab, c0, c1, c2, c3⟩ := h.arc hi
  have hli : (i : Int) < (Z.length : Int) := by omega
  clear h ha c2 c3
  generalize Z[i] = a at *
  obtain ⟨x, y, c, t⟩ := a
  simp only at c0 c1
  have e0 := cell_alloc (cell_alloc c0 (.cells #[.int .i64 n, .bool b, .slice (some ⟨ab, ax, none⟩) Z.length cap] 68)) (.cells #[.int .i64 (i : Int), .bool k] 75)
  have e1 := cell_alloc (cell_alloc c1 (.cells #[.int .i64 n, .bool b, .slice (some ⟨ab, ax, none⟩) Z.length cap] 68)) (.cells #[.int .i64 (i : Int), .bool k] 75)
  have HB := Lib.hid (((Below.refl _ w).alloc (Nat.le_refl _) (.cells #[.int .i64 n, .bool b, .slice (some ⟨ab, ax, none⟩) Z.length cap] 68)).alloc (by simp) (.cells #[.int .i64 (i : Int), .bool k] 75))
  cases k
  · go_enter Try.func58, Try.ntmps58
    go_wp2
    go_ret
    exact ⟨rfl, HB.out⟩
  · go_enter Try.func58, Try.ntmps58
    go_wp2
    go_ret
    exact ⟨rfl, HB.out⟩
set_option maxHeartbeats 1000000 in
theorem xend_at (i : Nat) (k : Bool) (a : ArcT) (w : World) (h : Row encA 4 w ao Z) (ha : Z[i]? = some a) (hz : Z.length ≤ 200) :
    Calls Try.prog 61 #[.agg #[.int .i64 n, .bool b, .slice ao Z.length cap], .agg #[.int .i64 (i : Int), .bool k]] w fun e w' => e = .returned (.int .i64 (endI a k)) ∧ Below w.heap.size w w' := by
  have HB := Lib.hid (((Below.refl _ w).alloc (Nat.le_refl _) (.cells #[.int .i64 n, .bool b, .slice ao Z.length cap] 68)).alloc (by simp) (.cells #[.int .i64 (i : Int), .bool k] 75))
  have HR := Lib.hid (row_alloc (row_alloc h (.cells #[.int .i64 n, .bool b, .slice ao Z.length cap] 68)) (.cells #[.int .i64 (i : Int), .bool k] 75))
  have HA := Lib.hid ha
  rw [← begI_not]
  clear h ha
  cases k
  · go_enter Try.func61, Try.ntmps61
    go_wp2_with (go_at_call 58; refine (xbegin_at n b ao cap Z i true a _ HR.out HA.out hz).mono ?_; rintro e w1 ⟨rfl, hb1⟩; have HB1 := Lib.hid (HB.out.trans (hb1.mono HB.out.size)); clear hb1)
    go_ret
    exact ⟨rfl, HB1.out⟩
  · go_enter Try.func61, Try.ntmps61
    go_wp2_with (go_at_call 58; refine (xbegin_at n b ao cap Z i false a _ HR.out HA.out hz).mono ?_; rintro e w1 ⟨rfl, hb1⟩; have HB1 := Lib.hid (HB.out.trans (hb1.mono HB.out.size)); clear hb1)
    go_ret
    exact ⟨rfl, HB1.out⟩
end
section
variable (p tb sg N : Nat) (b : Bool) (ao : Option Addr) (cap : Nat) (Z : List ArcT) (sc tc : Nat) (fo : Option Addr) (fc : Nat) (F : List Int) (lo : Option Addr) (lc : Nat) (L T : List Int)
set_option maxRecDepth 100000 in
set_option maxHeartbeats 2000000 in
theorem xroom_at (i : Nat) (q : Bool) (w : World) (h : FilW w p tb sg N b ao cap Z sc tc fo fc F lo lc L T) (he : flowE (N : Int) Z F = 0) (hi : i < Z.length) :
    Calls Try.prog 62 #[.pointer (some ⟨p, 0, none⟩), .agg #[.int .i64 (i : Int), .bool q]] w fun e w' => e = .returned (.int .i64 (leftS Z F ((i : Int), q))) ∧ Below w.heap.size w w' := by
  obtain ⟨hR, hF, hz, hfl, hn1, hn2⟩ := flow_facts (b := b) he
  have ha : Z[i]? = some Z[i] := List.getElem?_eq_getElem hi
  obtain ⟨b0, b1, b2, b3, _, _⟩ := flow_bd hR hF ha
  obtain ⟨l0, l1⟩ := left_at (F := F) ha
  obtain ⟨ab, ax, e1, hab, c0, c1, c2, c3⟩ := h.arcs.arc hi
  subst e1
  have hif : i < F.length := by omega
  obtain ⟨fb, fx, e2, hfb, d0⟩ := lst_cell h.flow (atI_get (d := F) (v := i) hif)
  subst e2
  obtain ⟨⟨k0, k1, k2, k3, k4, k5, k6⟩, _⟩ := c7Cells h.box
  have hli : (i : Int) < (Z.length : Int) := by omega
  have hlf : (i : Int) < (F.length : Int) := by omega
  have hfl2 : F.length ≤ 200 := by omega
  clear h ha he hR hF c0 c1 c3 hfl hn1 hn2 k0 k1 k3 k5 k6
  unfold capN at l0 b1 b2 b3
  generalize Z[i] = a at *
  obtain ⟨x0, y0, c, t0⟩ := a
  simp only at c2 l0 b1 b2 b3
  unfold encI at d0
  have e0 := cell_alloc c2 (.cells #[.int .i64 (i : Int), .bool q] 75)
  have e1 := cell_alloc d0 (.cells #[.int .i64 (i : Int), .bool q] 75)
  have e2 := cell_alloc k2 (.cells #[.int .i64 (i : Int), .bool q] 75)
  have e4 := cell_alloc k4 (.cells #[.int .i64 (i : Int), .bool q] 75)
  have HB := Lib.hid ((Below.refl _ w).alloc (Nat.le_refl _) (.cells #[.int .i64 (i : Int), .bool q] 75))
  have HL0 := Lib.hid l0
  have HL1 := Lib.hid l1
  clear l0 l1 c2 d0 k2 k4
  generalize atI F i = x at *
  cases q
  · rw [HL0.out]
    go_enter Try.func62, Try.ntmps62
    go_wp2
    go_quiet (fail)
    go_wp2
    go_ret
    exact ⟨rfl, below_drewN HB.out _⟩
  · rw [HL1.out]
    go_enter Try.func62, Try.ntmps62
    go_wp2
    go_quiet (fail)
    go_wp2
    go_ret
    exact ⟨rfl, below_drewN HB.out _⟩
theorem xroom_is (i : Nat) (q : Bool) (r : Int) (w : World) (h : FilW w p tb sg N b ao cap Z sc tc fo fc F lo lc L T) (he : flowE (N : Int) Z F = 0) (hi : i < Z.length) (hr : leftS Z F ((i : Int), q) = r) :
    Calls Try.prog 62 #[.pointer (some ⟨p, 0, none⟩), .agg #[.int .i64 (i : Int), .bool q]] w fun e w' => e = .returned (.int .i64 r) ∧ Below w.heap.size w w' := by subst hr; exact xroom_at p tb sg N b ao cap Z sc tc fo fc F lo lc L T i q w h he hi
end
end Go.Proofs.Ytekcnglkfglbfaa

namespace Go.Proofs.Ytekcnglkfglbfaa
open Go.RowKit
set_option linter.unusedVariables false

section
variable (p tb sg N : Nat) (b : Bool) (ao : Option Addr) (cap : Nat) (Z : List ArcT) (sc tc : Nat) (fo : Option Addr) (fc : Nat) (F : List Int) (lo : Option Addr) (lc : Nat) (L T : List Int)
set_option maxRecDepth 100000 in
set_option maxHeartbeats 4000000 in
theorem xdescends_at (i : Nat) (q : Bool) (w : World) (h : FilW w p tb sg N b ao cap Z sc tc fo fc F lo lc L T) (he : flowE (N : Int) Z F = 0) (hi : i < Z.length) (hL : L.length = N) (hlb : ∀ v, v < N → -1 ≤ atI L v ∧ atI L v < (N : Int)) :
    Calls Try.prog 60 #[.pointer (some ⟨p, 0, none⟩), .agg #[.int .i64 (i : Int), .bool q]] w fun e w' => e = .returned (.bool (descB Z F L ((i : Int), q))) ∧ Below w.heap.size w w' := by
  obtain ⟨hR, hF, hz, hfl, hn1, hn2⟩ := flow_facts (b := b) he
  have ha : Z[i]? = some Z[i] := List.getElem?_eq_getElem hi
  obtain ⟨hA1, hA2⟩ := flow_arcs he
  rw [Int.toNat_natCast] at hA2
  obtain ⟨hvN, huN⟩ := hA2 i Z[i] q ha
  obtain ⟨hbe, hen⟩ := begI_fromE ha (hA1 _ (List.getElem_mem hi)) q
  obtain ⟨u, hu⟩ : ∃ u, fromS Z ((i : Int), q) = u := ⟨_, rfl⟩
  obtain ⟨v, hv⟩ : ∃ v, toS Z ((i : Int), q) = v := ⟨_, rfl⟩
  obtain ⟨r, hr⟩ : ∃ r, leftS Z F ((i : Int), q) = r := ⟨_, rfl⟩
  rw [hu] at huN hbe
  rw [hv] at hvN hen
  have hub := hlb u huN
  have hvb := hlb v hvN
  obtain ⟨lb, lx, e1, hlb1, du⟩ := lst_cell h.levs (atI_get (d := L) (v := u) (by omega))
  obtain ⟨lb', lx', e2, hlb2, dv⟩ := lst_cell h.levs (atI_get (d := L) (v := v) (by omega))
  have hD : descB Z F L ((i : Int), q) = decide (0 < r ∧ atI L v = atI L u + 1) := by unfold descB; rw [hu, hv, hr]
  rw [hD]
  generalize atI L u = x at *
  generalize atI L v = y at *
  subst e1
  cases e2
  unfold encI at du dv
  obtain ⟨⟨k0, k1, k2, k3, k4, k5, k6⟩, _⟩ := c7Cells h.box
  have hui : (u : Int) < (L.length : Int) := by omega
  have hvi : (v : Int) < (L.length : Int) := by omega
  have hLl : L.length ≤ 200 := by omega
  have H := Lib.hid (h.alloc (.cells #[.int .i64 (i : Int), .bool q] 75))
  have HE := Lib.hid he
  have HA := Lib.hid ha
  have HRR := Lib.hid hr
  have HBE := Lib.hid hbe
  have HEN := Lib.hid hen
  have HB := Lib.hid ((Below.refl _ w).alloc (Nat.le_refl _) (.cells #[.int .i64 (i : Int), .bool q] 75))
  have k0 := cell_alloc k0 (.cells #[.int .i64 (i : Int), .bool q] 75)
  have k1 := cell_alloc k1 (.cells #[.int .i64 (i : Int), .bool q] 75)
  have k2 := cell_alloc k2 (.cells #[.int .i64 (i : Int), .bool q] 75)
  have k5 := cell_alloc k5 (.cells #[.int .i64 (i : Int), .bool q] 75)
  have du := cell_alloc du (.cells #[.int .i64 (i : Int), .bool q] 75)
  have dv := cell_alloc dv (.cells #[.int .i64 (i : Int), .bool q] 75)
  have s0 := cell_new w #[.int .i64 (i : Int), .bool q] 75 0
  have s1 := cell_new w #[.int .i64 (i : Int), .bool q] 75 1
  clear h he hR hF hfl hn1 ha hA1 hA2 hbe hen hu hv hr hlb hlb1 hlb2 hD k3 k4 k6 hL
  generalize Z[i] = a at *
  by_cases h0 : 0 < r
  · have hg : decide (0 < r) = true := by simpa using h0
    have hdd : decide (0 < r ∧ y = x + 1) = (y == x + 1) := by
      by_cases e : y = x + 1 <;> simp [h0, e]
    have HDD := Lib.hid hdd
    have HW1 : Hid (IntKind.i64.wrap (x + 1) = x + 1) := Lib.hid (by rw [IntKind.wrap_i64]; omega)
    clear hdd
    go_enter Try.func60, Try.ntmps60
    go_wp2_with fail
    generalize hw1 : w.alloc (.cells #[.int .i64 (i : Int), .bool q] 75) = w1 at *
    go_region_held3 (fun W => W.cell? ⟨p, 0, none⟩ = some (.int .i64 (N : Int)) ∧ W.cell? ⟨p, 1, none⟩ = some (.bool b) ∧ W.cell? ⟨p, 2, none⟩ = some (.slice ao Z.length cap) ∧ W.cell? ⟨p, 5, none⟩ = some (.slice (some ⟨lb, lx, none⟩) L.length lc) ∧ W.cell? ⟨w.heap.size, 0, none⟩ = some (.int .i64 (i : Int)) ∧ W.cell? ⟨w.heap.size, 1, none⟩ = some (.bool q) ∧ W.cell? ⟨lb, lx + u, none⟩ = some (.int .i64 x) ∧ W.cell? ⟨lb, lx + v, none⟩ = some (.int .i64 y)) (first | exact ⟨k0, k1, k2, k5, s0, s1, du, dv⟩ | exact ⟨z0, z1, z2, z5, t0, t1, eu, ev⟩ | go_keep)
      (first
        | (go_at_call 62; refine (xroom_is p tb sg N b ao cap Z sc tc fo fc F (some ⟨lb, lx, none⟩) lc L T i q r w1.drew H.out.drew HE.out hi HRR.out).mono ?_; rintro e w6 ⟨rfl, b6⟩; have HZ := Lib.hid ((H.out.drew.next b6).arcs); have HBW := Lib.hid ((below_drew HB.out).trans (b6.mono (by have := HB.out.size; simpa using this))); have z0 := cell_below (w := w1.drew) b6 k0; have z1 := cell_below (w := w1.drew) b6 k1; have z2 := cell_below (w := w1.drew) b6 k2; have z5 := cell_below (w := w1.drew) b6 k5; have t0 := cell_below (w := w1.drew) b6 s0; have t1 := cell_below (w := w1.drew) b6 s1; have eu := cell_below (w := w1.drew) b6 du; have ev := cell_below (w := w1.drew) b6 dv; clear b6)
        | (go_at_call 61; refine (xend_at (N : Int) b ao cap Z i q a _ HZ.out HA.out hz).mono ?_; rintro e w7 ⟨rfl, b7⟩; rw [HEN.out]; have HZ := Lib.hid (HZ.out.below' b7); have HBW := Lib.hid (HBW.out.trans (b7.mono HBW.out.size)); have z0 := cell_below b7 z0; have z1 := cell_below b7 z1; have z2 := cell_below b7 z2; have z5 := cell_below b7 z5; have t0 := cell_below b7 t0; have t1 := cell_below b7 t1; have eu := cell_below b7 eu; have ev := cell_below b7 ev; clear b7)
        | (go_at_call 58; refine (xbegin_at (N : Int) b ao cap Z i q a _ HZ.out HA.out hz).mono ?_; rintro e w8 ⟨rfl, b8⟩; rw [HBE.out]; have HZ := Lib.hid (HZ.out.below' b8); have HBW := Lib.hid (HBW.out.trans (b8.mono HBW.out.size)); have z0 := cell_below b8 z0; have z1 := cell_below b8 z1; have z2 := cell_below b8 z2; have z5 := cell_below b8 z5; have t0 := cell_below b8 t0; have t1 := cell_below b8 t1; have eu := cell_below b8 eu; have ev := cell_below b8 ev; clear b8))
    all_goals
      go_wp2
      go_ret
      exact ⟨ret_bool (by rw [HDD.out, HW1.out]), HBW.out⟩
  · have hg : decide (0 < r) = false := by simpa using h0
    have HDD : Hid (decide (0 < r ∧ y = x + 1) = false) := Lib.hid (by simp [h0])
    have HCALL := Lib.hid (xroom_is p tb sg N b ao cap Z sc tc fo fc F (some ⟨lb, lx, none⟩) lc L T i q r (w.alloc (.cells #[.int .i64 (i : Int), .bool q] 75)).drew H.out.drew HE.out hi HRR.out)
    go_enter Try.func60, Try.ntmps60
    go_wp2_with fail
    generalize hw1 : w.alloc (.cells #[.int .i64 (i : Int), .bool q] 75) = w1 at *
    refine wp_region_held_drew (S := fun W => W.cell? ⟨w.heap.size, 0, none⟩ = some (.int .i64 (i : Int)) ∧ W.cell? ⟨w.heap.size, 1, none⟩ = some (.bool q)) (by kernel_rfl) ⟨s0, s1⟩ (fun hHeld => ?_)
    refine wpAnyH_take (i := 0) (oi := { dst := some 5, op := Go.Op.move (Go.Operand.tmp 0), type := 65, pos := "maxflow.go:78", after := #[], guard := none }) (v := .pointer (some ⟨p, 0, none⟩)) rfl (by kernel_rfl) (by kernel_rfl) (by kernel_rfl) (fun _ _ _ h => h) (Or.inl ⟨by rfl, ?_⟩) (by assumption) ?_
    · (intro w hSw; (try dsimp only at hSw); go_simp)
    try simp only [Act.put, List.setIfInBounds_toArray, List.set_cons_zero, List.set_cons_succ]
    refine wpAnyH_take (i := 1) (oi := { dst := some 6, op := Go.Op.load 75 (Go.Operand.tmp 3), type := 75, pos := "maxflow.go:78", after := #[], guard := none }) (v := .agg #[.int .i64 (i : Int), .bool q]) rfl (by kernel_rfl) (by kernel_rfl) (by kernel_rfl) (fun _ _ _ h => h) (Or.inl ⟨by rfl, ?_⟩) (by assumption) ?_
    · (intro w hSw; (try dsimp only at hSw); go_simp)
    try simp only [Act.put, List.setIfInBounds_toArray, List.set_cons_zero, List.set_cons_succ]
    refine wpAnyH_ready (rs := [2]) (by kernel_rfl) (by simp) (AllReadyH.cons (o := { dst := some 7, op := Go.Op.call { callee := Go.Callee.value (Go.Operand.func 62), args := #[Go.Operand.tmp 5, Go.Operand.tmp 6], argTypes := #[65, 75] }, type := 3, pos := "maxflow.go:78", after := #[{ on := 0, ground := Go.Ground.data }, { on := 1, ground := Go.Ground.data }], guard := none }) rfl (fun K hK => ?_) AllReadyH.nil)
    go_simp
    refine HCALL.out.mono ?_
    rintro e w7 ⟨rfl, b7⟩
    have hn7 : w7.cell? ⟨w.heap.size, 0, none⟩ = some (.int .i64 (i : Int)) ∧ w7.cell? ⟨w.heap.size, 1, none⟩ = some (.bool q) := ⟨cell_below (w := w1.drew) b7 s0, cell_below (w := w1.drew) b7 s1⟩
    have HB7 := Lib.hid ((below_drew HB.out).trans (b7.mono (by have := HB.out.size; simpa using this)))
    clear b7 hHeld
    go_wp2_with fail
    refine hK.out _ _ hn7 (fun hHeld => ?_)
    clear hK
    try simp only [Act.put, List.setIfInBounds_toArray, List.set_cons_zero, List.set_cons_succ]
    refine wpAnyH_take (i := 3) (oi := { dst := some 8, op := Go.Op.binOp Go.BinOp.gtr 3 (Go.Operand.tmp 7) (Go.Operand.const (Go.Value.int Go.IntKind.i64 0)) 3, type := 4, pos := "maxflow.go:78", after := #[{ on := 2, ground := Go.Ground.data }], guard := none }) (v := .bool false) rfl (by kernel_rfl) (by kernel_rfl) (by kernel_rfl) (fun _ _ _ h => h) (Or.inl ⟨by rfl, ?_⟩) (by assumption) ?_
    · (intro w hSw; (try dsimp only at hSw); go_simp)
    try simp only [Act.put, List.setIfInBounds_toArray, List.set_cons_zero, List.set_cons_succ]
    refine wpAnyH_take (i := 4) (oi := { dst := some 9, op := Go.Op.move (Go.Operand.tmp 8), type := 4, pos := "maxflow.go:78", after := #[{ on := 3, ground := Go.Ground.data }, { on := 2, ground := Go.Ground.chain }], guard := none }) (v := .bool false) rfl (by kernel_rfl) (by kernel_rfl) (by kernel_rfl) (fun _ _ _ h => h) (Or.inl ⟨by rfl, ?_⟩) (by assumption) ?_
    · (intro w hSw; (try dsimp only at hSw); go_simp)
    try simp only [Act.put, List.setIfInBounds_toArray, List.set_cons_zero, List.set_cons_succ]
    refine wpAnyH_take (i := 5) (oi := { dst := some 10, op := Go.Op.move (Go.Operand.tmp 0), type := 65, pos := "maxflow.go:78", after := #[{ on := 4, ground := Go.Ground.guard }], guard := some (4, true) }) (v := undef) rfl (by kernel_rfl) (by kernel_rfl) (by kernel_rfl) (fun _ _ _ h => h) (Or.inr ⟨by simp [Region.wanted, yielded], rfl⟩) (by assumption) ?_
    try simp only [Act.put, List.setIfInBounds_toArray, List.set_cons_zero, List.set_cons_succ]
    refine wpAnyH_take (i := 6) (oi := { dst := some 11, op := Go.Op.nilCheck (Go.Operand.tmp 10), type := 0, pos := "maxflow.go:78", after := #[{ on := 5, ground := Go.Ground.data }, { on := 4, ground := Go.Ground.guard }], guard := some (4, true) }) (v := undef) rfl (by kernel_rfl) (by kernel_rfl) (by kernel_rfl) (fun _ _ _ h => h) (Or.inr ⟨by simp [Region.wanted, yielded], rfl⟩) (by assumption) ?_
    try simp only [Act.put, List.setIfInBounds_toArray, List.set_cons_zero, List.set_cons_succ]
    refine wpAnyH_take (i := 7) (oi := { dst := some 12, op := Go.Op.fieldAddr 71 (Go.Operand.tmp 11) 3, type := 0, pos := "maxflow.go:78", after := #[{ on := 6, ground := Go.Ground.data }, { on := 4, ground := Go.Ground.guard }], guard := some (4, true) }) (v := undef) rfl (by kernel_rfl) (by kernel_rfl) (by kernel_rfl) (fun _ _ _ h => h) (Or.inr ⟨by simp [Region.wanted, yielded], rfl⟩) (by assumption) ?_
    try simp only [Act.put, List.setIfInBounds_toArray, List.set_cons_zero, List.set_cons_succ]
    refine wpAnyH_take (i := 8) (oi := { dst := some 13, op := Go.Op.load 25 (Go.Operand.tmp 12), type := 25, pos := "maxflow.go:78", after := #[{ on := 7, ground := Go.Ground.data }, { on := 4, ground := Go.Ground.guard }], guard := some (4, true) }) (v := undef) rfl (by kernel_rfl) (by kernel_rfl) (by kernel_rfl) (fun _ _ _ h => h) (Or.inr ⟨by simp [Region.wanted, yielded], rfl⟩) (by assumption) ?_
    try simp only [Act.put, List.setIfInBounds_toArray, List.set_cons_zero, List.set_cons_succ]
    refine wpAnyH_take (i := 9) (oi := { dst := some 14, op := Go.Op.move (Go.Operand.tmp 0), type := 65, pos := "maxflow.go:78", after := #[{ on := 4, ground := Go.Ground.guard }], guard := some (4, true) }) (v := undef) rfl (by kernel_rfl) (by kernel_rfl) (by kernel_rfl) (fun _ _ _ h => h) (Or.inr ⟨by simp [Region.wanted, yielded], rfl⟩) (by assumption) ?_
    try simp only [Act.put, List.setIfInBounds_toArray, List.set_cons_zero, List.set_cons_succ]
    refine wpAnyH_take (i := 10) (oi := { dst := some 15, op := Go.Op.nilCheck (Go.Operand.tmp 14), type := 0, pos := "maxflow.go:78", after := #[{ on := 9, ground := Go.Ground.data }, { on := 4, ground := Go.Ground.guard }], guard := some (4, true) }) (v := undef) rfl (by kernel_rfl) (by kernel_rfl) (by kernel_rfl) (fun _ _ _ h => h) (Or.inr ⟨by simp [Region.wanted, yielded], rfl⟩) (by assumption) ?_
    try simp only [Act.put, List.setIfInBounds_toArray, List.set_cons_zero, List.set_cons_succ]
    refine wpAnyH_take (i := 11) (oi := { dst := some 16, op := Go.Op.fieldAddr 71 (Go.Operand.tmp 15) 0, type := 0, pos := "maxflow.go:78", after := #[{ on := 10, ground := Go.Ground.data }, { on := 4, ground := Go.Ground.guard }], guard := some (4, true) }) (v := undef) rfl (by kernel_rfl) (by kernel_rfl) (by kernel_rfl) (fun _ _ _ h => h) (Or.inr ⟨by simp [Region.wanted, yielded], rfl⟩) (by assumption) ?_
    try simp only [Act.put, List.setIfInBounds_toArray, List.set_cons_zero, List.set_cons_succ]
    refine wpAnyH_take (i := 12) (oi := { dst := some 17, op := Go.Op.load 68 (Go.Operand.tmp 16), type := 68, pos := "maxflow.go:78", after := #[{ on := 11, ground := Go.Ground.data }, { on := 4, ground := Go.Ground.guard }], guard := some (4, true) }) (v := undef) rfl (by kernel_rfl) (by kernel_rfl) (by kernel_rfl) (fun _ _ _ h => h) (Or.inr ⟨by simp [Region.wanted, yielded], rfl⟩) (by assumption) ?_
    try simp only [Act.put, List.setIfInBounds_toArray, List.set_cons_zero, List.set_cons_succ]
    refine wpAnyH_take (i := 13) (oi := { dst := some 18, op := Go.Op.load 75 (Go.Operand.tmp 3), type := 75, pos := "maxflow.go:78", after := #[{ on := 4, ground := Go.Ground.guard }], guard := some (4, true) }) (v := undef) rfl (by kernel_rfl) (by kernel_rfl) (by kernel_rfl) (fun _ _ _ h => h) (Or.inr ⟨by simp [Region.wanted, yielded], rfl⟩) (by assumption) ?_
    try simp only [Act.put, List.setIfInBounds_toArray, List.set_cons_zero, List.set_cons_succ]
    refine wpAnyH_take (i := 14) (oi := { dst := some 19, op := Go.Op.call { callee := Go.Callee.value (Go.Operand.func 61), args := #[Go.Operand.tmp 17, Go.Operand.tmp 18], argTypes := #[68, 75] }, type := 3, pos := "maxflow.go:78", after := #[{ on := 12, ground := Go.Ground.data }, { on := 13, ground := Go.Ground.data }, { on := 4, ground := Go.Ground.chain }, { on := 4, ground := Go.Ground.guard }], guard := some (4, true) }) (v := undef) rfl (by kernel_rfl) (by kernel_rfl) (by kernel_rfl) (fun _ _ _ h => h) (Or.inr ⟨by simp [Region.wanted, yielded], rfl⟩) (by assumption) ?_
    try simp only [Act.put, List.setIfInBounds_toArray, List.set_cons_zero, List.set_cons_succ]
    refine wpAnyH_take (i := 15) (oi := { dst := some 20, op := Go.Op.indexAddr 25 (Go.Operand.tmp 13) (Go.Operand.tmp 19), type := 0, pos := "maxflow.go:78", after := #[{ on := 8, ground := Go.Ground.data }, { on := 14, ground := Go.Ground.data }, { on := 4, ground := Go.Ground.guard }], guard := some (4, true) }) (v := undef) rfl (by kernel_rfl) (by kernel_rfl) (by kernel_rfl) (fun _ _ _ h => h) (Or.inr ⟨by simp [Region.wanted, yielded], rfl⟩) (by assumption) ?_
    try simp only [Act.put, List.setIfInBounds_toArray, List.set_cons_zero, List.set_cons_succ]
    refine wpAnyH_take (i := 16) (oi := { dst := some 21, op := Go.Op.load 3 (Go.Operand.tmp 20), type := 3, pos := "maxflow.go:78", after := #[{ on := 15, ground := Go.Ground.data }, { on := 4, ground := Go.Ground.guard }], guard := some (4, true) }) (v := undef) rfl (by kernel_rfl) (by kernel_rfl) (by kernel_rfl) (fun _ _ _ h => h) (Or.inr ⟨by simp [Region.wanted, yielded], rfl⟩) (by assumption) ?_
    try simp only [Act.put, List.setIfInBounds_toArray, List.set_cons_zero, List.set_cons_succ]
    refine wpAnyH_take (i := 17) (oi := { dst := some 22, op := Go.Op.move (Go.Operand.tmp 0), type := 65, pos := "maxflow.go:78", after := #[{ on := 4, ground := Go.Ground.guard }], guard := some (4, true) }) (v := undef) rfl (by kernel_rfl) (by kernel_rfl) (by kernel_rfl) (fun _ _ _ h => h) (Or.inr ⟨by simp [Region.wanted, yielded], rfl⟩) (by assumption) ?_
    try simp only [Act.put, List.setIfInBounds_toArray, List.set_cons_zero, List.set_cons_succ]
    refine wpAnyH_take (i := 18) (oi := { dst := some 23, op := Go.Op.nilCheck (Go.Operand.tmp 22), type := 0, pos := "maxflow.go:78", after := #[{ on := 17, ground := Go.Ground.data }, { on := 4, ground := Go.Ground.guard }], guard := some (4, true) }) (v := undef) rfl (by kernel_rfl) (by kernel_rfl) (by kernel_rfl) (fun _ _ _ h => h) (Or.inr ⟨by simp [Region.wanted, yielded], rfl⟩) (by assumption) ?_
    try simp only [Act.put, List.setIfInBounds_toArray, List.set_cons_zero, List.set_cons_succ]
    refine wpAnyH_take (i := 19) (oi := { dst := some 24, op := Go.Op.fieldAddr 71 (Go.Operand.tmp 23) 3, type := 0, pos := "maxflow.go:78", after := #[{ on := 18, ground := Go.Ground.data }, { on := 4, ground := Go.Ground.guard }], guard := some (4, true) }) (v := undef) rfl (by kernel_rfl) (by kernel_rfl) (by kernel_rfl) (fun _ _ _ h => h) (Or.inr ⟨by simp [Region.wanted, yielded], rfl⟩) (by assumption) ?_
    try simp only [Act.put, List.setIfInBounds_toArray, List.set_cons_zero, List.set_cons_succ]
    refine wpAnyH_take (i := 20) (oi := { dst := some 25, op := Go.Op.load 25 (Go.Operand.tmp 24), type := 25, pos := "maxflow.go:78", after := #[{ on := 19, ground := Go.Ground.data }, { on := 4, ground := Go.Ground.guard }], guard := some (4, true) }) (v := undef) rfl (by kernel_rfl) (by kernel_rfl) (by kernel_rfl) (fun _ _ _ h => h) (Or.inr ⟨by simp [Region.wanted, yielded], rfl⟩) (by assumption) ?_
    try simp only [Act.put, List.setIfInBounds_toArray, List.set_cons_zero, List.set_cons_succ]
    refine wpAnyH_take (i := 21) (oi := { dst := some 26, op := Go.Op.move (Go.Operand.tmp 0), type := 65, pos := "maxflow.go:78", after := #[{ on := 4, ground := Go.Ground.guard }], guard := some (4, true) }) (v := undef) rfl (by kernel_rfl) (by kernel_rfl) (by kernel_rfl) (fun _ _ _ h => h) (Or.inr ⟨by simp [Region.wanted, yielded], rfl⟩) (by assumption) ?_
    try simp only [Act.put, List.setIfInBounds_toArray, List.set_cons_zero, List.set_cons_succ]
    refine wpAnyH_take (i := 22) (oi := { dst := some 27, op := Go.Op.nilCheck (Go.Operand.tmp 26), type := 0, pos := "maxflow.go:78", after := #[{ on := 21, ground := Go.Ground.data }, { on := 4, ground := Go.Ground.guard }], guard := some (4, true) }) (v := undef) rfl (by kernel_rfl) (by kernel_rfl) (by kernel_rfl) (fun _ _ _ h => h) (Or.inr ⟨by simp [Region.wanted, yielded], rfl⟩) (by assumption) ?_
    try simp only [Act.put, List.setIfInBounds_toArray, List.set_cons_zero, List.set_cons_succ]
    refine wpAnyH_take (i := 23) (oi := { dst := some 28, op := Go.Op.fieldAddr 71 (Go.Operand.tmp 27) 0, type := 0, pos := "maxflow.go:78", after := #[{ on := 22, ground := Go.Ground.data }, { on := 4, ground := Go.Ground.guard }], guard := some (4, true) }) (v := undef) rfl (by kernel_rfl) (by kernel_rfl) (by kernel_rfl) (fun _ _ _ h => h) (Or.inr ⟨by simp [Region.wanted, yielded], rfl⟩) (by assumption) ?_
    try simp only [Act.put, List.setIfInBounds_toArray, List.set_cons_zero, List.set_cons_succ]
    refine wpAnyH_take (i := 24) (oi := { dst := some 29, op := Go.Op.load 68 (Go.Operand.tmp 28), type := 68, pos := "maxflow.go:78", after := #[{ on := 23, ground := Go.Ground.data }, { on := 4, ground := Go.Ground.guard }], guard := some (4, true) }) (v := undef) rfl (by kernel_rfl) (by kernel_rfl) (by kernel_rfl) (fun _ _ _ h => h) (Or.inr ⟨by simp [Region.wanted, yielded], rfl⟩) (by assumption) ?_
    try simp only [Act.put, List.setIfInBounds_toArray, List.set_cons_zero, List.set_cons_succ]
    refine wpAnyH_take (i := 25) (oi := { dst := some 30, op := Go.Op.load 75 (Go.Operand.tmp 3), type := 75, pos := "maxflow.go:78", after := #[{ on := 4, ground := Go.Ground.guard }], guard := some (4, true) }) (v := undef) rfl (by kernel_rfl) (by kernel_rfl) (by kernel_rfl) (fun _ _ _ h => h) (Or.inr ⟨by simp [Region.wanted, yielded], rfl⟩) (by assumption) ?_
    try simp only [Act.put, List.setIfInBounds_toArray, List.set_cons_zero, List.set_cons_succ]
    refine wpAnyH_take (i := 26) (oi := { dst := some 31, op := Go.Op.call { callee := Go.Callee.value (Go.Operand.func 58), args := #[Go.Operand.tmp 29, Go.Operand.tmp 30], argTypes := #[68, 75] }, type := 3, pos := "maxflow.go:78", after := #[{ on := 24, ground := Go.Ground.data }, { on := 25, ground := Go.Ground.data }, { on := 14, ground := Go.Ground.chain }, { on := 4, ground := Go.Ground.guard }], guard := some (4, true) }) (v := undef) rfl (by kernel_rfl) (by kernel_rfl) (by kernel_rfl) (fun _ _ _ h => h) (Or.inr ⟨by simp [Region.wanted, yielded], rfl⟩) (by assumption) ?_
    try simp only [Act.put, List.setIfInBounds_toArray, List.set_cons_zero, List.set_cons_succ]
    refine wpAnyH_take (i := 27) (oi := { dst := some 32, op := Go.Op.indexAddr 25 (Go.Operand.tmp 25) (Go.Operand.tmp 31), type := 0, pos := "maxflow.go:78", after := #[{ on := 20, ground := Go.Ground.data }, { on := 26, ground := Go.Ground.data }, { on := 4, ground := Go.Ground.guard }], guard := some (4, true) }) (v := undef) rfl (by kernel_rfl) (by kernel_rfl) (by kernel_rfl) (fun _ _ _ h => h) (Or.inr ⟨by simp [Region.wanted, yielded], rfl⟩) (by assumption) ?_
    try simp only [Act.put, List.setIfInBounds_toArray, List.set_cons_zero, List.set_cons_succ]
    refine wpAnyH_take (i := 28) (oi := { dst := some 33, op := Go.Op.load 3 (Go.Operand.tmp 32), type := 3, pos := "maxflow.go:78", after := #[{ on := 27, ground := Go.Ground.data }, { on := 4, ground := Go.Ground.guard }], guard := some (4, true) }) (v := undef) rfl (by kernel_rfl) (by kernel_rfl) (by kernel_rfl) (fun _ _ _ h => h) (Or.inr ⟨by simp [Region.wanted, yielded], rfl⟩) (by assumption) ?_
    try simp only [Act.put, List.setIfInBounds_toArray, List.set_cons_zero, List.set_cons_succ]
    refine wpAnyH_take (i := 29) (oi := { dst := some 34, op := Go.Op.binOp Go.BinOp.add 3 (Go.Operand.tmp 33) (Go.Operand.const (Go.Value.int Go.IntKind.i64 1)) 3, type := 3, pos := "maxflow.go:78", after := #[{ on := 28, ground := Go.Ground.data }, { on := 4, ground := Go.Ground.guard }], guard := some (4, true) }) (v := undef) rfl (by kernel_rfl) (by kernel_rfl) (by kernel_rfl) (fun _ _ _ h => h) (Or.inr ⟨by simp [Region.wanted, yielded], rfl⟩) (by assumption) ?_
    try simp only [Act.put, List.setIfInBounds_toArray, List.set_cons_zero, List.set_cons_succ]
    refine wpAnyH_take (i := 30) (oi := { dst := some 35, op := Go.Op.binOp Go.BinOp.eql 3 (Go.Operand.tmp 21) (Go.Operand.tmp 34) 3, type := 4, pos := "maxflow.go:78", after := #[{ on := 16, ground := Go.Ground.data }, { on := 29, ground := Go.Ground.data }, { on := 4, ground := Go.Ground.guard }], guard := some (4, true) }) (v := undef) rfl (by kernel_rfl) (by kernel_rfl) (by kernel_rfl) (fun _ _ _ h => h) (Or.inr ⟨by simp [Region.wanted, yielded], rfl⟩) (by assumption) ?_
    try simp only [Act.put, List.setIfInBounds_toArray, List.set_cons_zero, List.set_cons_succ]
    refine wpAnyH_take (i := 31) (oi := { dst := some 36, op := Go.Op.pick (Go.Operand.tmp 9) (Go.Operand.tmp 35) (Go.Operand.const (Go.Value.bool false)), type := 4, pos := "maxflow.go:78", after := #[{ on := 4, ground := Go.Ground.data }, { on := 30, ground := Go.Ground.data }], guard := none }) (v := .bool false) rfl (by kernel_rfl) (by kernel_rfl) (by kernel_rfl) (fun _ _ _ h => h) (Or.inl ⟨by rfl, ?_⟩) (by assumption) ?_
    · (intro w hSw; (try dsimp only at hSw); go_simp)
    try simp only [Act.put, List.setIfInBounds_toArray, List.set_cons_zero, List.set_cons_succ]
    refine wpAnyH_take (i := 32) (oi := { dst := some 4, op := Go.Op.assign (Go.Operand.tmp 36), type := 4, pos := "maxflow.go:78", after := #[{ on := 31, ground := Go.Ground.data }, { on := 26, ground := Go.Ground.chain }, { on := 0, ground := Go.Ground.phase }, { on := 1, ground := Go.Ground.phase }, { on := 2, ground := Go.Ground.phase }, { on := 3, ground := Go.Ground.phase }, { on := 4, ground := Go.Ground.phase }, { on := 5, ground := Go.Ground.phase }, { on := 6, ground := Go.Ground.phase }, { on := 7, ground := Go.Ground.phase }, { on := 8, ground := Go.Ground.phase }, { on := 9, ground := Go.Ground.phase }, { on := 10, ground := Go.Ground.phase }, { on := 11, ground := Go.Ground.phase }, { on := 12, ground := Go.Ground.phase }, { on := 13, ground := Go.Ground.phase }, { on := 14, ground := Go.Ground.phase }, { on := 15, ground := Go.Ground.phase }, { on := 16, ground := Go.Ground.phase }, { on := 17, ground := Go.Ground.phase }, { on := 18, ground := Go.Ground.phase }, { on := 19, ground := Go.Ground.phase }, { on := 20, ground := Go.Ground.phase }, { on := 21, ground := Go.Ground.phase }, { on := 22, ground := Go.Ground.phase }, { on := 23, ground := Go.Ground.phase }, { on := 24, ground := Go.Ground.phase }, { on := 25, ground := Go.Ground.phase }, { on := 26, ground := Go.Ground.phase }, { on := 27, ground := Go.Ground.phase }, { on := 28, ground := Go.Ground.phase }, { on := 29, ground := Go.Ground.phase }, { on := 30, ground := Go.Ground.phase }, { on := 31, ground := Go.Ground.phase }], guard := none }) (v := .bool false) rfl (by kernel_rfl) (by kernel_rfl) (by kernel_rfl) (fun _ _ _ h => h) (Or.inl ⟨by rfl, ?_⟩) (by assumption) ?_
    · (intro w hSw; (try dsimp only at hSw); go_simp)
    try simp only [Act.put, List.setIfInBounds_toArray, List.set_cons_zero, List.set_cons_succ]
    refine wpAnyH_done (by kernel_rfl) ?_ _
    go_wp2
    go_ret
    exact ⟨ret_bool HDD.out.symm, HB7.out⟩
theorem xdescends_is (i : Nat) (q d : Bool) (w : World) (h : FilW w p tb sg N b ao cap Z sc tc fo fc F lo lc L T) (he : flowE (N : Int) Z F = 0) (hi : i < Z.length) (hL : L.length = N) (hlb : ∀ v, v < N → -1 ≤ atI L v ∧ atI L v < (N : Int)) (hd : descB Z F L ((i : Int), q) = d) :
    Calls Try.prog 60 #[.pointer (some ⟨p, 0, none⟩), .agg #[.int .i64 (i : Int), .bool q]] w fun e w' => e = .returned (.bool d) ∧ Below w.heap.size w w' := by subst hd; exact xdescends_at p tb sg N b ao cap Z sc tc fo fc F lo lc L T i q w h he hi hL hlb
end
end Go.Proofs.Ytekcnglkfglbfaa
