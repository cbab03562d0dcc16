/- The object of package span that is filled, in memory: the network, its ends, the flow, and the arcs that can be on fastest ways; each in blocks of its own. -/
import Derived.Test.YtekcnglkfglbfaaGPln
import Derived.Test.YtekcnglkfglbfaaBH
import Derived.BigQuiet
import Derived.Deep.QuietTactic
import Derived.Deep.RegionHeld3
namespace Go.Proofs.Ytekcnglkfglbfaa
open Go.RowKit
set_option linter.unusedVariables false

theorem c9Cells {w : World} {g : Nat} {x0 x1 x2 x3 x4 x5 x6 x7 x8 : Value} {t : TypeId} (h : w.heap[g]? = some (.cells #[x0, x1, x2, x3, x4, x5, x6, x7, x8] t (0, 0))) :
    (w.cell? ⟨g, 0, none⟩ = some x0 ∧ w.cell? ⟨g, 1, none⟩ = some x1 ∧ w.cell? ⟨g, 2, none⟩ = some x2 ∧ w.cell? ⟨g, 3, none⟩ = some x3 ∧ w.cell? ⟨g, 4, none⟩ = some x4 ∧ w.cell? ⟨g, 5, none⟩ = some x5 ∧ w.cell? ⟨g, 6, none⟩ = some x6 ∧ w.cell? ⟨g, 7, none⟩ = some x7 ∧ w.cell? ⟨g, 8, none⟩ = some x8) ∧
    w.frozen? ⟨g, 5, none⟩ = false ∧ w.frozen? ⟨g, 6, none⟩ = false ∧ w.frozen? ⟨g, 7, none⟩ = false ∧ w.frozen? ⟨g, 8, none⟩ = false :=
  ⟨⟨cell_whole h 0, cell_whole h 1, cell_whole h 2, cell_whole h 3, cell_whole h 4, cell_whole h 5, cell_whole h 6, cell_whole h 7, cell_whole h 8⟩, frozen_whole h 5, frozen_whole h 6, frozen_whole h 7, frozen_whole h 8⟩
/-- A row lies outside of a block. -/
def OffP (ao : Option Addr) (n p : Nat) : Prop := ∀ ad, ao = some ad → 0 < n → ad.block ≠ p
theorem row_offP {α : Type} {enc : α → List Value} {k : Nat} {S : Nat → Prop} {w w' : World} {ao : Option Addr} {A : List α} (h : Row enc k w ao A) (hk : Kept S w w') (hn : ∀ ad, ao = some ad → 0 < A.length → ¬ S ad.block) : Row enc k w' ao A := by
  intro i hi
  obtain ⟨b, o, e, hb, hc⟩ := h i hi
  exact ⟨b, o, e, Nat.lt_of_lt_of_le hb hk.size, fun j hj => (cell_of_block (hk.block b hb (hn _ e (by omega)))).trans (hc j hj)⟩
theorem lst_offP {α : Type} {enc : α → Value} {S : Nat → Prop} {w w' : World} {ao : Option Addr} {A : List α} (h : Lst enc w ao A) (hk : Kept S w w') (hn : ∀ ad, ao = some ad → 0 < A.length → ¬ S ad.block) : Lst enc w' ao A := by
  intro i hi
  obtain ⟨b, o, e, hb, hc⟩ := h i hi
  exact ⟨b, o, e, Nat.lt_of_lt_of_le hb hk.size, (cell_of_block (hk.block b hb (hn _ e (by omega)))).trans hc⟩
structure SpW (w : World) (p N : Nat) (b : Bool) (ao : Option Addr) (cap : Nat) (Z : List ArcT) (s t : Nat) (fo : Option Addr) (fc : Nat) (F : List Int) (m : Int) (q : Bool) (xo : Option Addr) (xc : Nat) (X : List ArcT) : Prop where
  box : w.heap[p]? = some (.cells #[.int .i64 (N : Int), .bool b, .slice ao Z.length cap, .int .i64 (s : Int), .int .i64 (t : Int), .slice fo F.length fc, .int .i64 m, .bool q, .slice xo X.length xc] 64 (0, 0))
  arcs : Row encA 4 w ao Z
  arcsO : OffP ao Z.length p
  flow : Lst encI w fo F
  flowO : OffP fo F.length p
  fast : Row encA 4 w xo X
  fastO : OffP xo X.length p
section
variable {w w2 : World} {p N : Nat} {b : Bool} {ao : Option Addr} {cap : Nat} {Z : List ArcT} {s t : Nat} {fo : Option Addr} {fc : Nat} {F : List Int} {m : Int} {q : Bool} {xo : Option Addr} {xc : Nat} {X : List ArcT}
theorem SpW.lt (h : SpW w p N b ao cap Z s t fo fc F m q xo xc X) : p < w.heap.size := lt_whole h.box
theorem SpW.next (h : SpW w p N b ao cap Z s t fo fc F m q xo xc X) (hb : Below w.heap.size w w2) : SpW w2 p N b ao cap Z s t fo fc F m q xo xc X :=
  ⟨kept_box h.box hb, h.arcs.below' hb, h.arcsO, h.flow.below hb, h.flowO, h.fast.below' hb, h.fastO⟩
theorem SpW.alloc (h : SpW w p N b ao cap Z s t fo fc F m q xo xc X) (o : Obj) : SpW (w.alloc o) p N b ao cap Z s t fo fc F m q xo xc X := h.next ((Below.refl _ _).alloc (Nat.le_refl _) o)
theorem SpW.drewN (h : SpW w p N b ao cap Z s t fo fc F m q xo xc X) (n : Nat) : SpW (w.drewN n) p N b ao cap Z s t fo fc F m q xo xc X := h.next (below_drewN (Below.refl _ _) n)
theorem SpW.drew (h : SpW w p N b ao cap Z s t fo fc F m q xo xc X) : SpW w.drew p N b ao cap Z s t fo fc F m q xo xc X := h.next (below_drew (Below.refl _ _))
/-- Nothing but the object's own block has turned. -/
theorem SpW.turn {fo' : Option Addr} {fc' : Nat} {F' : List Int} {m' : Int} {q' : Bool} {xo' : Option Addr} {xc' : Nat} {X' : List ArcT} (h : SpW w p N b ao cap Z s t fo fc F m q xo xc X) (hk : Kept (fun i => i = p) w w2)
    (hb : w2.heap[p]? = some (.cells #[.int .i64 (N : Int), .bool b, .slice ao Z.length cap, .int .i64 (s : Int), .int .i64 (t : Int), .slice fo' F'.length fc', .int .i64 m', .bool q', .slice xo' X'.length xc'] 64 (0, 0)))
    (hf : Lst encI w2 fo' F') (hfO : OffP fo' F'.length p) (hx : Row encA 4 w2 xo' X') (hxO : OffP xo' X'.length p) : SpW w2 p N b ao cap Z s t fo' fc' F' m' q' xo' xc' X' :=
  ⟨hb, row_offP h.arcs hk (fun ad e h0 => h.arcsO ad e h0), h.arcsO, hf, hfO, hx, hxO⟩
theorem SpW.setF {fo' : Option Addr} {fc' : Nat} {F' : List Int} (h : SpW w p N b ao cap Z s t fo fc F m q xo xc X) (hf : Lst encI w fo' F') (hfO : OffP fo' F'.length p) : SpW (w.setCell ⟨p, 5, none⟩ (.slice fo' F'.length fc')) p N b ao cap Z s t fo' fc' F' m q xo xc X := by
  have hk : Kept (fun i => i = p) w (w.setCell ⟨p, 5, none⟩ (.slice fo' F'.length fc')) := (Kept.refl (fun i => i = p) w).set (.inl rfl) _
  exact h.turn hk (set_whole h.box 5 _) (lst_offP hf hk (fun ad e h0 => hfO ad e h0)) hfO (row_offP h.fast hk (fun ad e h0 => h.fastO ad e h0)) h.fastO
end
section
variable (p N : Nat) (b : Bool) (ao : Option Addr) (cap : Nat) (Z : List ArcT) (s t : Nat) (fo : Option Addr) (fc : Nat) (F : List Int) (m : Int) (z : Bool) (xo : Option Addr) (xc : Nat) (X : List ArcT)
set_option maxRecDepth 100000 in
set_option maxHeartbeats 2000000 in
theorem proom_at (i : Nat) (q : Bool) (w : World) (h : SpW w p N b ao cap Z s t fo fc F m z xo xc X) (he : flowE (N : Int) Z F = 0) (hi : i < Z.length) :
    Calls Try.prog 56 #[.pointer (some ⟨p, 0, none⟩), .agg #[.int .i64 (i : Int), .bool q]] w fun e w' => e = .returned (.int .i64 (leftS Z F ((i : Int), q))) ∧ Below w.heap.size w w' := by
  obtain ⟨hR, hF, hz, hfl, hn1, hn2⟩ := flow_facts (b := b) he
  have ha : Z[i]? = some Z[i] := List.getElem?_eq_getElem hi
  obtain ⟨b0, b1, b2, b3, _, _⟩ := flow_bd hR hF ha
  obtain ⟨l0, l1⟩ := left_at (F := F) ha
  obtain ⟨ab, ax, e1, hab, c0, c1, c2, c3⟩ := h.arcs.arc hi
  subst e1
  have hif : i < F.length := by omega
  obtain ⟨fb, fx, e2, hfb, d0⟩ := lst_cell h.flow (atI_get (d := F) (v := i) hif)
  subst e2
  obtain ⟨⟨k0, k1, k2, k3, k4, k5, k6, k7, k8⟩, _⟩ := c9Cells h.box
  have hli : (i : Int) < (Z.length : Int) := by omega
  have hlf : (i : Int) < (F.length : Int) := by omega
  have hfl2 : F.length ≤ 200 := by omega
  clear h ha he hR hF c0 c1 c3 hfl hn1 hn2 k0 k1 k3 k4 k6 k7 k8
  unfold capN at l0 b1 b2 b3
  generalize Z[i] = a at *
  obtain ⟨x0, y0, c, t0⟩ := a
  simp only at c2 l0 b1 b2 b3
  unfold encI at d0
  have e0 := cell_alloc c2 (.cells #[.int .i64 (i : Int), .bool q] 75)
  have e1 := cell_alloc d0 (.cells #[.int .i64 (i : Int), .bool q] 75)
  have e2 := cell_alloc k2 (.cells #[.int .i64 (i : Int), .bool q] 75)
  have e4 := cell_alloc k5 (.cells #[.int .i64 (i : Int), .bool q] 75)
  have HB := Lib.hid ((Below.refl _ w).alloc (Nat.le_refl _) (.cells #[.int .i64 (i : Int), .bool q] 75))
  have HL0 := Lib.hid l0
  have HL1 := Lib.hid l1
  clear l0 l1 c2 d0 k2 k5
  generalize atI F i = x at *
  cases q
  · rw [HL0.out]
    go_enter Try.func56, Try.ntmps56
    go_wp2
    go_quiet (fail)
    go_wp2
    go_ret
    exact ⟨rfl, below_drewN HB.out _⟩
  · rw [HL1.out]
    go_enter Try.func56, Try.ntmps56
    go_wp2
    go_quiet (fail)
    go_wp2
    go_ret
    exact ⟨rfl, below_drewN HB.out _⟩
theorem proom_is (i : Nat) (q : Bool) (r : Int) (w : World) (h : SpW w p N b ao cap Z s t fo fc F m z xo xc X) (he : flowE (N : Int) Z F = 0) (hi : i < Z.length) (hr : leftS Z F ((i : Int), q) = r) :
    Calls Try.prog 56 #[.pointer (some ⟨p, 0, none⟩), .agg #[.int .i64 (i : Int), .bool q]] w fun e w' => e = .returned (.int .i64 r) ∧ Below w.heap.size w w' := by subst hr; exact proom_at p N b ao cap Z s t fo fc F m z xo xc X i q w h he hi
end
end Go.Proofs.Ytekcnglkfglbfaa
