/- Lemmas of the layers below, several texts in one. -/
import Derived.Test.YtlkbohpnlbfopaaBV
import Derived.Deep.RegionHeld3
import Derived.Deep.RegionLaw
import Derived.Deep.AppendLies
namespace Go.Proofs.Ytlkbohpnlbfopaa
open Go.RowKit
set_option linter.unusedVariables false
structure GTo (b : GBk) (av : Value) (hd : Int × Int → Option (Nat × Nat × Nat)) (w : World) (av' : Value) (hd' : Int × Int → Option (Nat × Nat × Nat)) (w' : World) : Prop where
  kept : Kept (GS b av hd) w w'
  back : ∀ i, i < w.heap.size → GS b av' hd' i → GS b av hd i
theorem GTo.refl (b : GBk) (av : Value) (hd : Int × Int → Option (Nat × Nat × Nat)) (w : World) : GTo b av hd w av hd w := ⟨Kept.refl _ _, fun i _ h => h⟩
theorem GTo.trans {b : GBk} {a0 a1 a2 : Value} {h0 h1 h2 : Int × Int → Option (Nat × Nat × Nat)} {w0 w1 w2 : World} (h : GTo b a0 h0 w0 a1 h1 w1) (k : GTo b a1 h1 w1 a2 h2 w2) : GTo b a0 h0 w0 a2 h2 w2 :=
  ⟨h.kept.trans k.kept (fun i hi hs => h.back i hi hs), fun i hi hs => h.back i hi (k.back i (Nat.lt_of_lt_of_le hi h.kept.size) hs)⟩
theorem GTo.of_below {b : GBk} {av : Value} {hd : Int × Int → Option (Nat × Nat × Nat)} {w w' : World} (h : Below w.heap.size w w') : GTo b av hd w av hd w' := ⟨Kept.of_below h, fun i _ e => e⟩
section
variable {b : GBk} {N H bn : Int} {c : Cont} {m : Nat} {av : Value} {hd : Int × Int → Option (Nat × Nat × Nat)}
theorem GX.low {w w' : World} {av' : Value} {hd' : Int × Int → Option (Nat × Nat × Nat)} (h : GX b N H bn w c m av hd) (k : GTo b av hd w av' hd' w') : Below b.B w w' := by
  have hB : b.B ≤ w.heap.size := by have := (h.mem (i := b.gb) (.inl rfl)); omega
  exact k.kept.below hB (fun i hi => (h.mem hi).1)
theorem GX.box_old {w w' : World} {av' : Value} {hd' : Int × Int → Option (Nat × Nat × Nat)} (h : GX b N H bn w c m av hd) (k : GTo b av hd w av' hd' w') {g : Nat} {cs : Array Value} {t : TypeId} (hg : w.heap[g]? = some (.cells cs t (0, 0))) (h1 : t ≠ 101) (h2 : t ≠ 73) (h3 : t ≠ 124) : w'.heap[g]? = some (.cells cs t (0, 0)) :=
  k.kept.old hg (h.off hg h1 h2 h3)
theorem GX.crossT {w w1 w2 w3 : World} {g cap n : Nat} (h : GX b N H bn w c m av hd) (p : Int × Int) (hg1 : w.grownBy w1 (some b.bc)) (hz : w1.heap.size = w.heap.size) (hg2 : w1.grownBy w2 (match hd p with | some y => some y.1 | none => none)) (hl : (∃ y, hd p = some y ∧ y.1 = g) ∨ w.heap.size ≤ g) (hg3 : w2.grownBy w3 (some b.bc)) :
    GTo b av hd w av (fun q => if q = p then some (g, n, cap) else hd q) w3 := by
  refine ⟨((Kept.of_grown hg1 (fun i e => .inr (.inl (Option.some.inj e).symm))).trans' (Kept.of_grown hg2 (fun i e => ?_))).trans' (Kept.of_grown hg3 (fun i e => .inr (.inl (Option.some.inj e).symm))), fun i hi hs => ?_⟩
  · cases hp : hd p with
    | none => rw [hp] at e; cases e
    | some y => rw [hp] at e; exact .inr (.inr (.inr (.inr (.inr (.inr ⟨p, y, hp, Option.some.inj e⟩)))))
  · rcases hs with e | e | e | e | e | e | ⟨q, y, e1, e2⟩
    · exact .inl e
    · exact .inr (.inl e)
    · exact .inr (.inr (.inl e))
    · exact .inr (.inr (.inr (.inl e)))
    · exact .inr (.inr (.inr (.inr (.inl e))))
    · exact .inr (.inr (.inr (.inr (.inr (.inl e)))))
    · by_cases hq : q = p
      · subst hq
        simp only [if_true, Option.some.injEq] at e1
        subst e1
        rcases hl with ⟨z, hz1, hz2⟩ | hl
        · exact .inr (.inr (.inr (.inr (.inr (.inr ⟨q, z, hz1, by rw [hz2]; exact e2⟩)))))
        · have e3 : g = i := e2
          omega
      · simp only [if_neg hq] at e1
        exact .inr (.inr (.inr (.inr (.inr (.inr ⟨q, y, e1, e2⟩)))))
set_option maxRecDepth 100000 in
set_option maxHeartbeats 4000000 in
theorem uadd_any (x y k : Int) (w : World) (h : GX b N H bn w c m av hd) (hl : c.A.length ≤ 100000) :
    Calls Try.prog 67 #[.pointer (some ⟨b.gb, 0, none⟩), .int .i64 x, .int .i64 y, .int .i64 k] w fun e w' => ∃ av', e = .returned (.int .i64 (c.A.length : Int)) ∧ GX b N H bn w' { c with A := c.A ++ [(x, y, k, 0)] } m av' hd ∧ GTo b av hd w av' hd w' := by
  have hBw : b.B ≤ w.heap.size := by have := (h.mem (i := b.gb) (.inl rfl)); omega
  have hb1 := (Below.refl _ w).alloc (Nat.le_refl _) (.cells #[.int .i64 x, .int .i64 y, .int .i64 k, .int .i64 0] 73)
  have HX1 := Lib.hid (h.below hb1)
  have c4 := cell_whole h.box 4
  have d4 : w.cell? ⟨b.gb, 4, none⟩ = some av := c4
  have e4 := cell_alloc d4 (.cells #[.int .i64 x, .int .i64 y, .int .i64 k, .int .i64 0] 73)
  have hw : IntKind.i64.wrap ((c.A.length : Int) + 1 - 1) = (c.A.length : Int) := by rw [Int.add_sub_cancel]; exact IntWalk.i64_in _ (by omega)
  have HB1 := Lib.hid hb1
  have HN1 : Hid (∀ j, j < 4 → (w.alloc (.cells #[.int .i64 x, .int .i64 y, .int .i64 k, .int .i64 0] 73)).cell? ⟨w.heap.size, j, none⟩ = (encA (x, y, k, 0))[j]?) := Lib.hid (fun j hj => by
    rw [cell_new]
    match j, hj with
    | 0, _ => rfl
    | 1, _ => rfl
    | 2, _ => rfl
    | 3, _ => rfl)
  have HS := Lib.hid (h.mem (i := b.gb) (.inl rfl))
  have HAV := Lib.hid (fun i => own_lt h.arcs (g := i))
  clear h hb1 c4
  go_enter Try.func67, Try.ntmps67
  go_wp2_with (at_builtin; refine wpList_append_row (enc := encA) Try.underlying22 infoArc15 rfl (by omega) (by omega) encA_len rfl _ _ rfl b.B av c.A (x, y, k, 0) (encA_one _) rfl HX1.out.arcs w.heap.size 1 rfl HN1.out (by omega) (by simp; omega) ?_; intro g cap w2 ho2 hg2 hl2 hb2 hlt2; have hbox2 := (hg2.block _ (lt_whole HX1.out.box) (fun e => own_ne HX1.out.arcs HX1.out.box (by decide) e.symm)).trans HX1.out.box; have z4 : w2.cell? ⟨b.gb, 4, none⟩ = some av := cell_whole hbox2 4; have f4 := frozen_whole hbox2 4; have q4 : (w2.setCell ⟨b.gb, 4, none⟩ (.slice (some ⟨g, 0, none⟩) (c.A.length + 1) cap)).cell? ⟨b.gb, 4, none⟩ = some (.slice (some ⟨g, 0, none⟩) (c.A.length + 1) cap) := (by rw [cell_whole (set_whole hbox2 4 _)]; rfl); have HG2 := Lib.hid (HX1.out.arc ho2 hg2); have HK2 := Lib.hid hg2; have HL2 := Lib.hid hl2; clear hbox2 ho2 hg2 hl2 hb2 hlt2)
  go_ret
  have hs := HS.out
  refine ⟨_, rfl, HG2.out, ⟨?_, ?_⟩⟩
  · have k1 : Kept (GS b av hd) w (w.alloc (.cells #[.int .i64 x, .int .i64 y, .int .i64 k, .int .i64 0] 73)) := Kept.of_below HB1.out
    have k2 : Kept (GS b av hd) (w.alloc (.cells #[.int .i64 x, .int .i64 y, .int .i64 k, .int .i64 0] 73)) w2 := Kept.of_grown HK2.out (fun i e => .inr (.inr (.inr (.inr (.inr (.inl e))))))
    exact (k1.trans' k2).set (.inl (.inl rfl)) _
  · intro i hi hgs
    rcases hgs with e | e | e | e | e | e | e
    · exact .inl e
    · exact .inr (.inl e)
    · exact .inr (.inr (.inl e))
    · exact .inr (.inr (.inr (.inl e)))
    · exact .inr (.inr (.inr (.inr (.inl e))))
    · have e2 : g = i := by simpa [Value.ownBlock] using e
      rcases HL2.out with e3 | e3
      · exact .inr (.inr (.inr (.inr (.inr (.inl (by rw [e3, e2]))))))
      · simp at e3; omega
    · exact .inr (.inr (.inr (.inr (.inr (.inr e)))))
end
end Go.Proofs.Ytlkbohpnlbfopaa
namespace Go.Proofs.Ytlkbohpnlbfopaa
open Go.RowKit
set_option linter.unusedVariables false
def IntB (w : World) (g : Nat) (x : Int) : Prop := w.heap[g]? = some (.cells #[.int .i64 x] 3 (0, 0))
theorem IntB.cell {w : World} {g : Nat} {x : Int} (h : IntB w g x) : w.cell? ⟨g, 0, none⟩ = some (.int .i64 x) := cell_whole h 0
theorem IntB.below {w w' : World} {g : Nat} {x : Int} (h : IntB w g x) (hb : Below w.heap.size w w') : IntB w' g x := kept_box h hb
theorem uenter_enters : ∀ args w, (callFunc 53 args).run Try.prog w = .ok (.enter 53 args) w := enters_of Try.func53 (by kernel_rfl) rfl
theorem umaywait_enters : ∀ args w, (callFunc 54 args).run Try.prog w = .ok (.enter 54 args) w := enters_of Try.func54 (by kernel_rfl) rfl
set_option maxHeartbeats 2000000 in
theorem uenter_any (x y k d u s t H : Int) (gs gt gh : Nat) (w : World) (hs : IntB w gs s) (ht : IntB w gt t) (hh : IntB w gh H) (hu : 0 ≤ u ∧ u ≤ 1025) (hd : 0 ≤ d ∧ d ≤ 1048576) (f : Bool) (hf : decide (y ≠ s ∧ x ≠ t ∧ u + d ≤ H) = f) :
    Calls Try.prog 53 #[.agg #[.int .i64 x, .int .i64 y, .int .i64 k, .int .i64 d], .int .i64 u, .pointer (some ⟨gs, 0, none⟩), .pointer (some ⟨gt, 0, none⟩), .pointer (some ⟨gh, 0, none⟩)] w fun e w' => e = .returned (.bool f) ∧ Below w.heap.size w w' := by
  have hb00 := (Below.refl _ w).alloc (Nat.le_refl _) (.cells #[.int .i64 x, .int .i64 y, .int .i64 k, .int .i64 d] 73)
  have HB := Lib.hid hb00
  have c0 := (hs.below hb00).cell
  have c1 := (ht.below hb00).cell
  have c2 := (hh.below hb00).cell
  have hw : IntKind.i64.wrap (u + d) = u + d := IntWalk.i64_in _ (by omega)
  have HF := Lib.hid hf
  clear hb00 hs ht hh hf
  go_enter Try.func53, Try.ntmps53
  go_wp2
  all_goals
    go_ret
    (refine ⟨ret_bool ?_, (Below.refl _ w).alloc (Nat.le_refl _) _⟩; rw [← HF.out]; first | rfl | (simp; done) | (simp; omega) | (simp [*]; done) | (simp [*]; omega) | (rw [eq_comm]; simp; omega) | (rw [Bool.eq_iff_iff]; simp; omega))
set_option maxHeartbeats 2000000 in
theorem umaywait_any (n : Int) (b : Bool) (av : Value) (v u s t H : Int) (gn gs gt gh : Nat) (w : World) (hn : w.heap[gn]? = some (.cells #[.int .i64 n, .bool b, av] 24 (0, 0))) (hs : IntB w gs s) (ht : IntB w gt t) (hh : IntB w gh H) (f : Bool) (hf : (b && decide (u < H ∧ v ≠ s ∧ v ≠ t)) = f) :
    Calls Try.prog 54 #[.agg #[.int .i64 v, .int .i64 u], .pointer (some ⟨gn, 0, none⟩), .pointer (some ⟨gh, 0, none⟩), .pointer (some ⟨gs, 0, none⟩), .pointer (some ⟨gt, 0, none⟩)] w fun e w' => e = .returned (.bool f) ∧ Below w.heap.size w w' := by
  have hb00 := (Below.refl _ w).alloc (Nat.le_refl _) (.cells #[.int .i64 v, .int .i64 u] 56)
  have HB := Lib.hid hb00
  have c0 := (hs.below hb00).cell
  have c1 := (ht.below hb00).cell
  have c2 := (hh.below hb00).cell
  have c3 := cell_whole (kept_box hn hb00) 1
  have HF := Lib.hid hf
  clear hb00 hs ht hh hf hn
  cases b
  all_goals
    go_enter Try.func54, Try.ntmps54
    go_wp2
    all_goals
      go_ret
      (refine ⟨ret_bool ?_, (Below.refl _ w).alloc (Nat.le_refl _) _⟩; rw [← HF.out]; first | rfl | (simp; done) | (simp; omega) | (simp [*]; done) | (simp [*]; omega) | (rw [eq_comm]; simp; omega) | (rw [Bool.eq_iff_iff]; simp; omega))
end Go.Proofs.Ytlkbohpnlbfopaa
namespace Go.Proofs.Ytlkbohpnlbfopaa
open Go.RowKit
set_option linter.unusedVariables false
theorem zeroCross : ∀ u : World, (zeroValue 122).run Try.prog u = .ok (.slice none 0 0) u := fun _ => by kernel_rfl
section
variable {P : Program} {w w' : World} {ops : Array Oper} {o : Oper} {a : Act} {K : Act → World → Prop} {Q : Exit → Act → World → Prop} {G : Prop} {t : TypeId}
theorem step_entry (hgd : o.guard = none) (mo x : Operand) (hop : o.op = Op.mapEntry t mo x) (bm : Nat) (key : Value) {r : Value} (hm : a.eval mo = .map (some bm)) (hx : a.eval x = key) (hrun : (Instr.mapEntry t (.map (some bm)) key).run P w = .ok r w') (h : K (a.put o.dst r) w') :
    if Region.wanted o (yielded ops a.tmps) = true then Oper.wp P o a w K Q else G := by
  rw [if_pos (show Region.wanted o (yielded ops a.tmps) = true by simp [Region.wanted, hgd])]
  unfold Oper.wp
  simp [execOp, hop, hm, hx, hrun, Result.andThen]
  exact h
theorem step_estore (hgd : o.guard = none) (mo s x : Operand) (hop : o.op = Op.entryStore t mo s x) (mv sv xv : Value) (hm : a.eval mo = mv) (hs : a.eval s = sv) (hx : a.eval x = xv) (hrun : (Instr.entryStore t mv sv xv).run P w = .ok () w') (h : K (a.put o.dst undef) w') :
    if Region.wanted o (yielded ops a.tmps) = true then Oper.wp P o a w K Q else G := by
  rw [if_pos (show Region.wanted o (yielded ops a.tmps) = true by simp [Region.wanted, hgd])]
  unfold Oper.wp
  simp [execOp, hop, hm, hs, hx, hrun, Result.andThen]
  exact h
end
def HeldC (gb bc g1 : Nat) (x u : Int) (W : World) : Prop := W.cell? ⟨gb, 5, none⟩ = some (.map (some bc)) ∧ W.cell? ⟨g1, 0, none⟩ = some (.int .i64 x) ∧ W.cell? ⟨g1, 1, none⟩ = some (.int .i64 u)
theorem heldC2 {b : GBk} {N H bn : Int} {av : Value} {g1 : Nat} {x u : Int} {W : World} (h : W.heap[b.gb]? = some (.cells (grwL b N H bn av).toArray 101 (0, 0))) (hs : W.heap[g1]? = some (.cells #[.int .i64 x, .int .i64 u] 56 (0, 0))) : HeldC b.gb b.bc g1 x u W :=
  ⟨cell_whole h 5, cell_whole hs 0, cell_whole hs 1⟩
theorem heldC {b : GBk} {N H bn : Int} {c : Cont} {m : Nat} {av : Value} {hd : Int × Int → Option (Nat × Nat × Nat)} {g1 : Nat} {x u : Int} {W : World} (h : GX b N H bn W c m av hd) (hs : W.heap[g1]? = some (.cells #[.int .i64 x, .int .i64 u] 56 (0, 0))) : HeldC b.gb b.bc g1 x u W := heldC2 h.box hs
def contK (E : Exp) (K : List Kd) : Cont := ⟨K.map E.arcKd, crossF E K, plF qW K, plF (qE E.s) K, plF (qX E.t) K⟩
theorem contK_len (E : Exp) (K : List Kd) : (contK E K).A.length = K.length := by simp [contK]
section
variable {E : Exp} {b : GBk} {N H bn : Int} {K : List Kd} {m : Nat} {av : Value} {hd : Int × Int → Option (Nat × Nat × Nat)} {w : World}
theorem GX.mv {i u : Nat} {x : Int} {a : ArcT} (hx : x = ((E.frA i : Nat) : Int)) (ha : a = E.arcKd (Kd.mv i u))
    (h : GX b N H bn w { (contK E K) with A := (contK E K).A ++ [a], C := fun q => if q = (x, (u : Int)) then crossF E K (x, (u : Int)) ++ [((i : Int), (K.length : Int))] else crossF E K q } m av hd) : GX b N H bn w (contK E (K ++ [Kd.mv i u])) m av hd := by
  subst hx ha
  refine h.eqv (by simp [contK]) (fun p => ?_) (fun p => ?_) (fun p => ?_) (fun p => ?_)
  · show (if p = (((E.frA i : Nat) : Int), (u : Int)) then crossF E K (((E.frA i : Nat) : Int), (u : Int)) ++ [((i : Int), (K.length : Int))] else crossF E K p) = crossF E (K ++ [Kd.mv i u]) p
    rw [crossF_mv]
    by_cases e : p = (((E.frA i : Nat) : Int), (u : Int))
    · rw [if_pos e, if_pos e, e]
    · rw [if_neg e, if_neg e]
  · exact (plF_none qW K (Kd.mv i u) rfl p).symm
  · exact (plF_none (qE E.s) K (Kd.mv i u) rfl p).symm
  · exact (plF_none (qX E.t) K (Kd.mv i u) rfl p).symm
end
theorem ok_at {E : Exp} {i u : Nat} {a : ArcT} (ha : E.Z[i]? = some a) (h1 : a.1 = (frN a : Int)) (h2 : a.2.1 = (toN a : Int)) (h3 : 0 ≤ tm a) : decide (a.2.1 ≠ (E.s : Int) ∧ a.1 ≠ (E.t : Int) ∧ (u : Int) + a.2.2.2 ≤ (E.H : Int)) = E.ok i u := by
  unfold Exp.ok
  rw [ha, Bool.eq_iff_iff]
  simp only [decide_eq_true_eq, Bool.and_eq_true]
  unfold tmN
  unfold tm at h3 ⊢
  rw [h1, h2]
  omega
theorem arc_at15 {E : Exp} {i u : Nat} {a : ArcT} (ha : E.Z[i]? = some a) (h1 : a.1 = (frN a : Int)) (h2 : a.2.1 = (toN a : Int)) (h3 : 0 ≤ tm a) : ((u : Int) * (E.N : Int) + a.1, ((u : Int) + a.2.2.2) * (E.N : Int) + a.2.1, a.2.2.1, (0 : Int)) = E.arcKd (Kd.mv i u) := by
  have e4 : E.arcKd (Kd.mv i u) = ((E.slot (frN a) u : Int), (E.slot (toN a) (u + tmN a) : Int), capN a, 0) := by simp only [Exp.arcKd, ha]
  rw [e4]
  unfold Exp.slot capN tmN
  have e : ((tm a).toNat : Int) = a.2.2.2 := by unfold tm at h3 ⊢; omega
  rw [Int.natCast_add, Int.natCast_mul, Int.natCast_add, Int.natCast_mul, Int.natCast_add, e, h1, h2]
theorem two_alloc (w : World) (o p : Obj) : ((w.alloc o).alloc p).drew.heap[w.heap.size]? = some o ∧ ((w.alloc o).alloc p).drew.heap[w.heap.size + 1]? = some p ∧ Below w.heap.size w ((w.alloc o).alloc p).drew :=
  ⟨alloc_whole (heap_alloc_new w o) p, new_whole1 w o p, below_drew (((Below.refl _ w).alloc (Nat.le_refl _) o).alloc (by simp) p)⟩
set_option maxRecDepth 100000 in
set_option maxHeartbeats 8000000 in
theorem ucross_any (E : Exp) (b : GBk) (bn : Int) (K0 : List Kd) (m : Nat) (av : Value) (hd : Int × Int → Option (Nat × Nat × Nat)) (ao : Option Addr) (nl cap u gs gt gh : Nat) (w : World)
    (h : GX b (E.N : Int) (E.H : Int) bn w (contK E K0) m av hd) (hr : Row encA 4 w ao E.Z) (hB : ∀ ad, ao = some ad → 0 < E.Z.length → ad.block < b.B) (hl : E.Z.length = nl) (hW : SpanNet E.Z E.N)
    (hs : IntB w gs (E.s : Int)) (ht : IntB w gt (E.t : Int)) (hh : IntB w gh (E.H : Int)) (hu : u ≤ 1024) (hH : E.H ≤ 1024) (hK : K0.length + nl ≤ 100000) (hm : m + nl ≤ 100000) :
    Calls Try.prog 55 #[.pointer (some ⟨b.gb, 0, none⟩), .slice ao nl cap, .int .i64 (u : Int), .func (.func 53) #[] #[.pointer (some ⟨gs, 0, none⟩), .pointer (some ⟨gt, 0, none⟩), .pointer (some ⟨gh, 0, none⟩)]] w fun e w' =>
      ∃ av' hd' m', e = .returned (.tuple #[]) ∧ m' ≤ m + nl ∧ GX b (E.N : Int) (E.H : Int) bn w' (contK E (K0 ++ E.mvK u nl)) m' av' hd' ∧ GTo b av hd w av' hd' w' := by
  have hN : E.N ≤ 50 := hW.nodes
  have hnl : nl ≤ 200 := by rw [← hl]; exact hW.len
  have hBw : b.B ≤ w.heap.size := by have := (h.mem (i := b.gb) (.inl rfl)); omega
  have HG := Lib.hid h
  have HR := Lib.hid hr
  have HBL := Lib.hid hB
  have HL := Lib.hid hl
  have HW := Lib.hid hW
  have HIS := Lib.hid hs
  have HIT := Lib.hid ht
  have HIH := Lib.hid hh
  have hen := uenter_enters
  obtain ⟨i0, hi0, hz0, hz1, hz2⟩ := info_parts infoCrossing
  have HI := Lib.hid (And.intro hi0 (And.intro hz0 (And.intro hz1 hz2)))
  clear h hr hB hl hW hs ht hh hi0 hz0 hz1 hz2
  go_enter Try.func55, Try.ntmps55
  go_wp2_with fail
  go_loopw [15] (fun iv wr => ∃ (i m1 : Nat) (av1 : Value) (hd1 : Int × Int → Option (Nat × Nat × Nat)), i ≤ nl ∧ m1 ≤ m + i ∧ iv = .int .i64 (i : Int) ∧ Hid ((K0 ++ E.mvK u i).length ≤ K0.length + i) ∧ Hid (GX b (E.N : Int) (E.H : Int) bn wr (contK E (K0 ++ E.mvK u i)) m1 av1 hd1) ∧ Hid (GTo b av hd w av1 hd1 wr)) (fun iv _ => nl - (intOf iv).toNat)
  case atStart => exact ⟨0, m, av, hd, Nat.zero_le _, Nat.le_refl _, rfl, Lib.hid (by simp [Exp.mvK]), Lib.hid (by rw [show E.mvK u 0 = [] from rfl, List.append_nil]; exact HG.out), Lib.hid (GTo.refl _ _ _ _)⟩
  case round =>
    obtain ⟨i, m1, av1, hd1, hi, hm1, rfl, HKL, HX, HT⟩ := hrel
    by_cases hlt : i < nl
    · have hli : (i : Int) < (nl : Int) := by omega
      have hlz : i < E.Z.length := by rw [HL.out]; exact hlt
      obtain ⟨ab, ax, e, hab, d0, d1, d2, d3⟩ := arc_at (HR.out.below (HG.out.low HT.out) HBL.out) (List.getElem?_eq_getElem hlz)
      cases e
      have HA := Lib.hid (List.getElem?_eq_getElem hlz)
      have hae := HW.out.ends _ (List.getElem_mem hlz)
      have hac := HW.out.lt _ (List.getElem_mem hlz)
      have hat := HW.out.times _ (List.getElem_mem hlz)
      generalize E.Z[i] = a at *
      have HOK := Lib.hid (ok_at (u := u) HA.out hae.1 hae.2 hat.1)
      have HAR := Lib.hid (arc_at15 (u := u) HA.out hae.1 hae.2 hat.1)
      have HFR : Hid (a.1 = ((E.frA i : Nat) : Int)) := Lib.hid (by unfold Exp.frA; rw [HA.out]; exact hae.1)
      have HSUC : Hid (K0 ++ E.mvK u (i + 1) = (K0 ++ E.mvK u i) ++ if E.ok i u = true then [Kd.mv i u] else []) := Lib.hid (by
        show K0 ++ (E.mvK u i ++ if E.ok i u = true then [Kd.mv i u] else []) = _
        rw [List.append_assoc])
      obtain ⟨f, hf⟩ : ∃ f, E.ok i u = f := ⟨_, rfl⟩
      rw [hf] at HOK HSUC
      have HF := Lib.hid hf
      have hx1 := hae.1
      have hx2 := hae.2
      have hb1 : 0 ≤ a.1 ∧ a.1 ≤ 50 := by omega
      have hb2 : 0 ≤ a.2.1 ∧ a.2.1 ≤ 50 := by omega
      have hb3 : 0 ≤ a.2.2.2 ∧ a.2.2.2 ≤ 1048576 := by unfold tm at hat; exact hat
      have hokf : f = true → (u : Int) + a.2.2.2 ≤ (E.H : Int) := fun e => by rw [← HOK.out, decide_eq_true_eq] at e; exact e.2.2
      generalize K0 ++ E.mvK u i = K at *
      obtain ⟨x, y, k, d⟩ := a
      simp only at d0 d1 d2 d3 HOK HAR HFR hb1 hb2 hb3 hokf
      have hb0 := (Below.refl _ wr).alloc (Nat.le_refl _) (.cells #[.int .i64 x, .int .i64 y, .int .i64 k, .int .i64 d] 73)
      have HX1 := Lib.hid (HX.out.below hb0)
      have HT1 := Lib.hid (HT.out.trans (GTo.of_below hb0))
      have HB1 := Lib.hid (heap_alloc_new wr (.cells #[.int .i64 x, .int .i64 y, .int .i64 k, .int .i64 d] 73))
      have HS1 := Lib.hid (HG.out.box_old HT1.out HIS.out (by decide) (by decide) (by decide))
      have HT2 := Lib.hid (HG.out.box_old HT1.out HIT.out (by decide) (by decide) (by decide))
      have HH1 := Lib.hid (HG.out.box_old HT1.out HIH.out (by decide) (by decide) (by decide))
      have hcall := uenter_any x y k d (u : Int) (E.s : Int) (E.t : Int) (E.H : Int) gs gt gh _ HS1.out HT2.out HH1.out (by omega) hb3 f HOK.out
      have HCALL := Lib.hid hcall
      have HNA : Hid (∀ i, GS b av1 hd1 i → i < wr.heap.size) := Lib.hid (fun i hi => (HX.out.mem hi).2)
      clear hf hae hac hat hx1 hx2 hb0 hcall hlz
      cases f
      · go_wp2_with fail
        refine HCALL.out.mono ?_
        rintro e w3 ⟨rfl, hb3'⟩
        have HX3 := Lib.hid (HX1.out.below hb3')
        have HT3 := Lib.hid (HT1.out.trans (GTo.of_below hb3'))
        have HSU : Hid (K0 ++ E.mvK u (i + 1) = K) := Lib.hid (by rw [HSUC.out]; simp)
        clear hb3' HX1 HT1 HX HT
        go_wp2
        go_roundw
        case rel => exact ⟨i + 1, m1, av1, hd1, by omega, by omega, by go_num, Lib.hid (by rw [HSU.out]; have := HKL.out; omega), Lib.hid (by rw [HSU.out]; exact HX3.out), HT3⟩
        case measure => simp [intOf]; omega
      · have hsum := hokf rfl
        have hwd : IntKind.i64.wrap ((u : Int) + d) = (u : Int) + d := IntWalk.i64_in _ (by omega)
        go_wp2_with fail
        refine HCALL.out.mono ?_
        rintro e w3 ⟨rfl, hb3'⟩
        have HX3 := Lib.hid (HX1.out.below hb3')
        have HT3 := Lib.hid (HT1.out.trans (GTo.of_below hb3'))
        have HB3 := Lib.hid (kept_box HB1.out hb3')
        have a0 := cell_whole HB3.out 0
        have a1 := cell_whole HB3.out 1
        have a2 := cell_whole HB3.out 2
        have a3 := cell_whole HB3.out 3
        have HSU : Hid (K0 ++ E.mvK u (i + 1) = K ++ [Kd.mv i u]) := Lib.hid (by rw [HSUC.out]; simp)
        clear hb3' HX1 HT1 HX HT
        go_wp2_with fail
        go_cut [10, 11] (fun v10 v11 wc => ∃ g1 g2, v10 = .pointer (some ⟨g1, 0, none⟩) ∧ v11 = .pointer (some ⟨g2, 0, none⟩) ∧ w3.heap.size ≤ g1 ∧ w3.heap.size ≤ g2 ∧ Hid (wc.heap[g1]? = some (.cells #[.int .i64 x, .int .i64 (u : Int)] 56 (0, 0))) ∧ Hid (wc.heap[g2]? = some (.cells #[.int .i64 y, .int .i64 ((u : Int) + d)] 56 (0, 0))) ∧ Hid (Below w3.heap.size w3 wc))
        case first =>
          have hltA := lt_whole HB3.out
          go_region_held3 (fun W => W.cell? ⟨wr.heap.size, 0, none⟩ = some (.int .i64 x) ∧ W.cell? ⟨wr.heap.size, 1, none⟩ = some (.int .i64 y) ∧ W.cell? ⟨wr.heap.size, 3, none⟩ = some (.int .i64 d)) (first | exact ⟨a0, a1, a3⟩ | go_keep) (fail)
          all_goals
            go_wp2
            go_meet
            first
              | exact ⟨_, _, rfl, rfl, by omega, by omega, Lib.hid (two_alloc w3 _ _).1, Lib.hid (two_alloc w3 _ _).2.1, Lib.hid (two_alloc w3 _ _).2.2⟩
              | exact ⟨_, _, rfl, rfl, by omega, by omega, Lib.hid (two_alloc w3 _ _).2.1, Lib.hid (two_alloc w3 _ _).1, Lib.hid (two_alloc w3 _ _).2.2⟩
        case rest =>
          obtain ⟨g1, g2, rfl, rfl, hg1, hg2, HS4, HE4, HBC⟩ := hcut
          have hltA3 := lt_whole HB3.out
          have HX4 := Lib.hid (HX3.out.below HBC.out)
          have HT4 := Lib.hid (HT3.out.trans (GTo.of_below HBC.out))
          have HB4 := Lib.hid (kept_box HB3.out HBC.out)
          clear a0 a1 a2 a3 HX3 HT3 HB3
          have q0 : wc.cell? ⟨b.gb, 0, none⟩ = some (.int .i64 (E.N : Int)) := cell_whole HX4.out.box 0
          have q1 : wc.cell? ⟨b.gb, 1, none⟩ = some (.int .i64 (E.H : Int)) := cell_whole HX4.out.box 1
          have s0 := cell_whole HS4.out 0
          have s1 := cell_whole HS4.out 1
          have e0 := cell_whole HE4.out 0
          have e1 := cell_whole HE4.out 1
          have a2 := cell_whole HB4.out 2
          have hltA := lt_whole HB4.out
          have hltS := lt_whole HS4.out
          have hltE := lt_whole HE4.out
          have hltG := lt_whole HX4.out.box
          have HXx : Hid (GX b (E.N : Int) (E.H : Int) bn wc.drew (contK E K) m1 av1 hd1) := Lib.hid (HX4.out.below (below_drew (Below.refl _ _)))
          have HBx : Hid (Below wc.heap.size wc wc.drew) := Lib.hid (below_drew (Below.refl _ _))
          have hKc : (contK E K).A.length ≤ 100000 := by rw [contK_len]; have := HKL.out; omega
          go_wp2_with fail
          go_cut [12] (fun v12 wd => ∃ av2, v12 = .int .i64 (K.length : Int) ∧ Hid (GX b (E.N : Int) (E.H : Int) bn wd { (contK E K) with A := (contK E K).A ++ [E.arcKd (Kd.mv i u)] } m1 av2 hd1) ∧ Hid (GTo b av1 hd1 wc av2 hd1 wd))
          case first =>
            go_region_held3 (fun W => W.cell? ⟨b.gb, 0, none⟩ = some (.int .i64 (E.N : Int)) ∧ W.cell? ⟨b.gb, 1, none⟩ = some (.int .i64 (E.H : Int)) ∧ W.cell? ⟨g1, 0, none⟩ = some (.int .i64 x) ∧ W.cell? ⟨g1, 1, none⟩ = some (.int .i64 (u : Int)) ∧ W.cell? ⟨g2, 0, none⟩ = some (.int .i64 y) ∧ W.cell? ⟨g2, 1, none⟩ = some (.int .i64 ((u : Int) + d)) ∧ W.cell? ⟨wr.heap.size, 2, none⟩ = some (.int .i64 k)) (first | exact ⟨q0, q1, s0, s1, e0, e1, a2⟩ | exact ⟨z0, z1, z2, z3, z4, z5, z6⟩ | go_keep)
              (first
                | (go_at_call 68; refine (ugindex_any _ E.N _ _ _ hN (by omega) (by omega)).mono ?_; rintro e w6 ⟨rfl, b6⟩; have z0 := cell_below' (HBx.out.trans (b6.mono HBx.out.size)) q0 hltG; have z1 := cell_below' (HBx.out.trans (b6.mono HBx.out.size)) q1 hltG; have z2 := cell_below' (HBx.out.trans (b6.mono HBx.out.size)) s0 hltS; have z3 := cell_below' (HBx.out.trans (b6.mono HBx.out.size)) s1 hltS; have z4 := cell_below' (HBx.out.trans (b6.mono HBx.out.size)) e0 hltE; have z5 := cell_below' (HBx.out.trans (b6.mono HBx.out.size)) e1 hltE; have z6 := cell_below' (HBx.out.trans (b6.mono HBx.out.size)) a2 hltA; have HXx := Lib.hid (HXx.out.below b6); have HBx := Lib.hid (HBx.out.trans (b6.mono HBx.out.size)); clear b6)
                | (go_at_call 67; refine (uadd_any _ _ _ _ HXx.out hKc).mono ?_; rintro e w8 ⟨av2, rfl, hx8, ht8⟩; have hs8 := ht8.kept.old (kept_box HS4.out HBx.out) (fun hg => by have := HNA.out _ hg; omega); have he8 := ht8.kept.old (kept_box HE4.out HBx.out) (fun hg => by have := HNA.out _ hg; omega); have ha8 := ht8.kept.old (kept_box HB4.out HBx.out) (fun hg => by have := HNA.out _ hg; omega); have z0 : w8.cell? ⟨b.gb, 0, none⟩ = some (.int .i64 (E.N : Int)) := cell_whole hx8.box 0; have z1 : w8.cell? ⟨b.gb, 1, none⟩ = some (.int .i64 (E.H : Int)) := cell_whole hx8.box 1; have z2 := cell_whole hs8 0; have z3 := cell_whole hs8 1; have z4 := cell_whole he8 0; have z5 := cell_whole he8 1; have z6 := cell_whole ha8 2; have HX8 := Lib.hid hx8; have HT8 := Lib.hid ht8; clear hx8 ht8 hs8 he8 ha8))
            all_goals
              go_wp2
              go_meet
              exact ⟨av2, by rw [contK_len], Lib.hid (by rw [← HAR.out]; exact HX8.out), Lib.hid ((GTo.of_below HBx.out).trans HT8.out)⟩
          case rest =>
            obtain ⟨av2, rfl, HX5, HT5⟩ := hcut
            have HS5 := Lib.hid (HT5.out.kept.old HS4.out (fun hg => by have := HNA.out _ hg; omega))
            have HTT := Lib.hid (HT4.out.trans HT5.out)
            clear q0 q1 s0 s1 e0 e1 a2 HXx HBx HX4 HT4 HE4 HB4 HT5 HBC
            have HOKP : Hid (okP (x, (u : Int))) := Lib.hid ⟨by unfold in64; omega, by unfold in64; omega⟩
            have HCL : Hid ((crossF E K (x, (u : Int))).length ≤ 100000) := Lib.hid (by
              have h1 : (crossF E K (x, (u : Int))).length ≤ K.zipIdx.length := List.length_filterMap_le _ _
              rw [List.length_zipIdx] at h1
              have := HKL.out
              omega)
            go_wp2_with fail
            refine wp_region_held_drew (S := fun W => HeldC b.gb b.bc g1 x (u : Int) W) (by kernel_rfl) (heldC (HX5.out.below (below_drew (Below.refl _ _))) HS5.out) (fun hHeld => ?_)
            have HGQ : Hid (GX b (E.N : Int) (E.H : Int) bn wc.drew { (contK E K) with A := (contK E K).A ++ [E.arcKd (Kd.mv i u)] } m1 av2 hd1) := Lib.hid (HX5.out.below (below_drew (Below.refl _ _)))
            have HTQ : Hid (GTo b av hd w av2 hd1 wc.drew) := Lib.hid (HTT.out.trans (GTo.of_below (below_drew (Below.refl _ _))))
            have HSQ : Hid (wc.drew.heap[g1]? = some (.cells #[.int .i64 x, .int .i64 (u : Int)] 56 (0, 0))) := HS5
            have HBS : Hid (b.B ≤ wc.drew.heap.size + 1) := Lib.hid (by have := (HGQ.out.mem (i := b.gb) (.inl rfl)); omega)
            clear HX5 HTT HS5 HS4
            generalize wc.drew = wq at *
            refine wpAnyH_take (i := 0) (oi := { dst := some 51, op := Go.Op.move (Go.Operand.tmp 0), type := 131, pos := "expand.go:75", after := #[], guard := none }) (v := .pointer (some ⟨b.gb, 0, none⟩)) rfl (by kernel_rfl) (by kernel_rfl) (by kernel_rfl) (fun _ _ _ h => h) (Or.inl ⟨by rfl, ?_⟩) (by assumption) ?_
            · (intro w hSw; (try dsimp only [HeldC] at hSw); go_simp)
            try simp only [Act.put, List.setIfInBounds_toArray, List.set_cons_zero, List.set_cons_succ]
            refine wpAnyH_take (i := 1) (oi := { dst := some 52, op := Go.Op.nilCheck (Go.Operand.tmp 51), type := 0, pos := "expand.go:75", after := #[{ on := 0, ground := Go.Ground.data }], guard := none }) (v := .pointer (some ⟨b.gb, 0, none⟩)) rfl (by kernel_rfl) (by kernel_rfl) (by kernel_rfl) (fun _ _ _ h => h) (Or.inl ⟨by rfl, ?_⟩) (by assumption) ?_
            · (intro w hSw; (try dsimp only [HeldC] at hSw); go_simp)
            try simp only [Act.put, List.setIfInBounds_toArray, List.set_cons_zero, List.set_cons_succ]
            refine wpAnyH_take (i := 2) (oi := { dst := some 53, op := Go.Op.fieldAddr 101 (Go.Operand.tmp 52) 2, type := 0, pos := "expand.go:75", after := #[{ on := 1, ground := Go.Ground.data }], guard := none }) (v := .pointer (some ⟨b.gb, 5, none⟩)) rfl (by kernel_rfl) (by kernel_rfl) (by kernel_rfl) (fun _ _ _ h => h) (Or.inl ⟨by rfl, ?_⟩) (by assumption) ?_
            · (intro w hSw; (try dsimp only [HeldC] at hSw); go_simp)
            try simp only [Act.put, List.setIfInBounds_toArray, List.set_cons_zero, List.set_cons_succ]
            refine wpAnyH_take (i := 3) (oi := { dst := some 54, op := Go.Op.load 98 (Go.Operand.tmp 53), type := 98, pos := "expand.go:75", after := #[{ on := 2, ground := Go.Ground.data }], guard := none }) (v := .map (some b.bc)) rfl (by kernel_rfl) (by kernel_rfl) (by kernel_rfl) (fun _ _ _ h => h) (Or.inl ⟨by rfl, ?_⟩) (by assumption) ?_
            · (intro w hSw; (try dsimp only [HeldC] at hSw); go_simp)
            try simp only [Act.put, List.setIfInBounds_toArray, List.set_cons_zero, List.set_cons_succ]
            refine wpAnyH_take (i := 4) (oi := { dst := some 55, op := Go.Op.load 56 (Go.Operand.tmp 10), type := 56, pos := "expand.go:75", after := #[], guard := none }) (v := .agg #[.int .i64 x, .int .i64 (u : Int)]) rfl (by kernel_rfl) (by kernel_rfl) (by kernel_rfl) (fun _ _ _ h => h) (Or.inl ⟨by rfl, ?_⟩) (by assumption) ?_
            · (intro w hSw; (try dsimp only [HeldC] at hSw); go_simp)
            try simp only [Act.put, List.setIfInBounds_toArray, List.set_cons_zero, List.set_cons_succ]
            refine wpAnyH_take (i := 5) (oi := { dst := some 57, op := Go.Op.move (Go.Operand.tmp 8), type := 3, pos := "expand.go:75", after := #[], guard := none }) (v := .int .i64 (i : Int)) rfl (by kernel_rfl) (by kernel_rfl) (by kernel_rfl) (fun _ _ _ h => h) (Or.inl ⟨by rfl, ?_⟩) (by assumption) ?_
            · (intro w hSw; (try dsimp only [HeldC] at hSw); go_simp)
            try simp only [Act.put, List.setIfInBounds_toArray, List.set_cons_zero, List.set_cons_succ]
            refine wpAnyH_take (i := 6) (oi := { dst := some 58, op := Go.Op.move (Go.Operand.tmp 12), type := 3, pos := "expand.go:75", after := #[], guard := none }) (v := .int .i64 (K.length : Int)) rfl (by kernel_rfl) (by kernel_rfl) (by kernel_rfl) (fun _ _ _ h => h) (Or.inl ⟨by rfl, ?_⟩) (by assumption) ?_
            · (intro w hSw; (try dsimp only [HeldC] at hSw); go_simp)
            try simp only [Act.put, List.setIfInBounds_toArray, List.set_cons_zero, List.set_cons_succ]
            refine wpAnyH_take (i := 7) (oi := { dst := some 59, op := Go.Op.build 124 #[(0, Go.Operand.tmp 57), (1, Go.Operand.tmp 58)], type := 124, pos := "expand.go:75", after := #[{ on := 5, ground := Go.Ground.data }, { on := 6, ground := Go.Ground.data }], guard := none }) (v := .agg #[.int .i64 (i : Int), .int .i64 (K.length : Int)]) rfl (by kernel_rfl) (by kernel_rfl) (by kernel_rfl) (fun _ _ _ h => h) (Or.inl ⟨by rfl, ?_⟩) (by assumption) ?_
            · (intro w hSw; (try dsimp only [HeldC] at hSw); go_simp)
            try simp only [Act.put, List.setIfInBounds_toArray, List.set_cons_zero, List.set_cons_succ]
            refine wpAnyH_ready (rs := [8]) (by kernel_rfl) (by simp) (AllReadyH.cons (o := { dst := some 60, op := Go.Op.buildSlice 122 1 #[(0, Go.Operand.tmp 59)], type := 122, pos := "expand.go:75", after := #[{ on := 7, ground := Go.Ground.data }], guard := none }) rfl (fun KK hK => ?_) AllReadyH.nil)
            obtain ⟨nb2, hnb2⟩ : ∃ nb2, wq.heap.size = nb2 := ⟨_, rfl⟩
            go_simp
            have HQ2 := Lib.hid ((Below.refl wq.heap.size wq).alloc (Nat.le_refl _) (.cells #[.int .i64 (i : Int), .int .i64 (K.length : Int)] 124))
            have HG6 := Lib.hid (HGQ.out.below HQ2.out)
            have HT6 := Lib.hid (HTQ.out.trans (GTo.of_below HQ2.out))
            have HS6 := Lib.hid (kept_box HSQ.out HQ2.out)
            have HNW : Hid ((wq.alloc (.cells #[.int .i64 (i : Int), .int .i64 (K.length : Int)] 124)).heap[nb2]? = some (.cells #[.int .i64 (i : Int), .int .i64 (K.length : Int)] 124 (0, 0))) := Lib.hid (by rw [← hnb2]; exact heap_alloc_new _ _)
            have HNQ : Hid (∀ p y, hd1 p = some y → y.1 ≠ nb2) := Lib.hid (fun p y e e2 => by have := own_lt (HGQ.out.cr p y e).2 (hd_block y); omega)
            clear hHeld HQ2
            refine hK.out _ _ (heldC HG6.out HS6.out) (fun hHeld => ?_)
            clear hK HGQ HTQ HSQ
            generalize wq.alloc (.cells #[.int .i64 (i : Int), .int .i64 (K.length : Int)] 124) = wn at *
            clear hnb2
            try simp only [Act.put, List.setIfInBounds_toArray, List.set_cons_zero, List.set_cons_succ]
            refine wpAnyH_ready (rs := [9]) (by kernel_rfl) (by simp) (AllReadyH.cons (o := { dst := some 61, op := Go.Op.mapEntry 98 (Go.Operand.tmp 54) (Go.Operand.tmp 55), type := 0, pos := "expand.go:75", after := #[{ on := 3, ground := Go.Ground.data }, { on := 4, ground := Go.Ground.data }, { on := 0, ground := Go.Ground.phase }, { on := 1, ground := Go.Ground.phase }, { on := 2, ground := Go.Ground.phase }, { on := 3, ground := Go.Ground.phase }, { on := 4, ground := Go.Ground.phase }, { on := 5, ground := Go.Ground.phase }, { on := 6, ground := Go.Ground.phase }, { on := 7, ground := Go.Ground.phase }, { on := 8, ground := Go.Ground.phase }], guard := none }) rfl (fun KK hK => ?_) AllReadyH.nil)
            obtain ⟨hv, st, w7, hhv, hrun7, hg7, hz7, hback⟩ := slot_entry Try.underlying98 zeroCross HG6.out.cm (by omega) (x, (u : Int)) HOKP.out
            refine step_entry (t := 98) (by rfl) _ _ (by rfl) b.bc (slotV (x, (u : Int))) (by rfl) (by rfl) hrun7 ?_
            have HG7 := Lib.hid hg7
            have HZ7 := Lib.hid hz7
            have HBK := Lib.hid hback
            have HS7 := Lib.hid ((hg7.block _ (lt_whole HS6.out) (fun e => HG6.out.cm.ne_box HS6.out (Option.some.inj e))).trans HS6.out)
            have HX7 := Lib.hid ((hg7.block _ (lt_whole HG6.out.box) (fun e => HG6.out.cm.ne_box HG6.out.box (Option.some.inj e))).trans HG6.out.box)
            have HN7 := Lib.hid ((hg7.block _ (lt_whole HNW.out) (fun e => HG6.out.cm.ne_box HNW.out (Option.some.inj e))).trans HNW.out)
            clear hrun7 hg7 hz7 hback hHeld
            refine hK.out _ _ (heldC2 HX7.out HS7.out) (fun hHeld => ?_)
            clear hK
            try simp only [Act.put, List.setIfInBounds_toArray, List.set_cons_zero, List.set_cons_succ]
            have HO7 : Hid (w7.ownsRow b.B 124 2 hv (crossF E K (x, (u : Int))).length ((crossF E K (x, (u : Int))).flatMap encPQ)) := Lib.hid (by
              rw [hhv]
              cases hp : hd1 (x, (u : Int)) with
              | none => rw [show crossF E K (x, (u : Int)) = [] from HG6.out.cn _ hp]; exact World.ownsRow_nil _ _ _ _
              | some c => exact (HG6.out.cr _ c hp).2.kept HG7.out (.inr (fun e => own_map (HG6.out.cr _ c hp).2 HG6.out.cm e)))
            have HVB : Hid (hv.ownBlock = match hd1 (x, (u : Int)) with | some y => some y.1 | none => none) := Lib.hid (by rw [hhv]; cases hd1 (x, (u : Int)) <;> rfl)
            clear hhv
            refine wpAnyH_take (i := 10) (oi := { dst := some 56, op := Go.Op.extract (Go.Operand.tmp 61) 0, type := 122, pos := "expand.go:75", after := #[{ on := 9, ground := Go.Ground.data }], guard := none }) (v := hv) rfl (by kernel_rfl) (by kernel_rfl) (by kernel_rfl) (fun _ _ _ h => h) (Or.inl ⟨by rfl, ?_⟩) (by assumption) ?_
            · (intro w hSw; (try dsimp only at hSw); go_simp)
            try simp only [Act.put, List.setIfInBounds_toArray, List.set_cons_zero, List.set_cons_succ]
            refine wpAnyH_take (i := 12) (oi := { dst := some 63, op := Go.Op.extract (Go.Operand.tmp 61) 1, type := 3, pos := "expand.go:75", after := #[{ on := 9, ground := Go.Ground.data }], guard := none }) (v := goInt st) rfl (by kernel_rfl) (by kernel_rfl) (by kernel_rfl) (fun _ _ _ h => h) (Or.inl ⟨by rfl, ?_⟩) (by assumption) ?_
            · (intro w hSw; (try dsimp only at hSw); go_simp)
            try simp only [Act.put, List.setIfInBounds_toArray, List.set_cons_zero, List.set_cons_succ]
            refine wpAnyH_ready (rs := [11]) (by kernel_rfl) (by simp) (AllReadyH.cons (o := { dst := some 62, op := Go.Op.call { callee := Go.Callee.builtin Go.Builtin.append, args := #[Go.Operand.tmp 56, Go.Operand.tmp 60], argTypes := #[122, 122] }, type := 122, pos := "expand.go:75", after := #[{ on := 10, ground := Go.Ground.data }, { on := 8, ground := Go.Ground.data }, { on := 9, ground := Go.Ground.chain }], guard := none }) rfl (fun KK hK => ?_) AllReadyH.nil)
            refine step_append_lies _ (by rfl) _ _ _ (by rfl) b.B 124 i0 _ 2 16 Try.underlying122 HI.out.1 HI.out.2.1 HI.out.2.2.1 HI.out.2.2.2 rfl (by omega) hv (crossF E K (x, (u : Int))).length ((crossF E K (x, (u : Int))).flatMap encPQ) (by rfl) HO7.out ⟨nb2, 0, none⟩ 1 1 (encPQ ((i : Int), (K.length : Int))) (by rfl) (by rfl) (World.news_of_block (cs := #[.int .i64 (i : Int), .int .i64 (K.length : Int)]) (t := 124) (fr := (0, 0)) HN7.out) (encP_oneQ _) (by omega) (by have := HCL.out; unfold maxLen; omega) (by have := HCL.out; omega) (by rw [HZ7.out]; have := (HG6.out.mem (i := b.gb) (.inl rfl)); omega) _ rfl ?_
            intro g8 cap8 w8 ho8 hg8 hl8 hlt8
            have HS8 := Lib.hid ((hg8.block _ (lt_whole HS7.out) (fun e => own_ne HO7.out HS7.out (by decide) e.symm)).trans HS7.out)
            have HX8 := Lib.hid ((hg8.block _ (lt_whole HX7.out) (fun e => own_ne HO7.out HX7.out (by decide) e.symm)).trans HX7.out)
            have HM8 : Hid (w8.heap[b.bc]? = w7.heap[b.bc]?) := Lib.hid (hg8.block _ (by rw [HZ7.out]; exact HG6.out.cm.lt) (fun e => by
              rw [HVB.out] at e
              cases hp : hd1 (x, (u : Int)) with
              | none => rw [hp] at e; cases e
              | some c => rw [hp] at e; exact own_map (HG6.out.cr _ c hp).2 HG6.out.cm (by rw [hd_block]; exact e.symm)))
            have HO8 := Lib.hid ho8
            have HG8 := Lib.hid hg8
            have HL8 := Lib.hid hl8
            have HLT8 := Lib.hid hlt8
            clear hHeld ho8 hg8 hl8 hlt8
            refine hK.out _ _ (heldC2 HX8.out HS8.out) (fun hHeld => ?_)
            clear hK
            try simp only [Act.put, List.setIfInBounds_toArray, List.set_cons_zero, List.set_cons_succ]
            refine wpAnyH_ready (rs := [13]) (by kernel_rfl) (by simp) (AllReadyH.cons (o := { dst := none, op := Go.Op.entryStore 98 (Go.Operand.tmp 54) (Go.Operand.tmp 63) (Go.Operand.tmp 62), type := 0, pos := "expand.go:75", after := #[{ on := 3, ground := Go.Ground.data }, { on := 12, ground := Go.Ground.data }, { on := 11, ground := Go.Ground.data }, { on := 11, ground := Go.Ground.chain }, { on := 0, ground := Go.Ground.phase }, { on := 1, ground := Go.Ground.phase }, { on := 2, ground := Go.Ground.phase }, { on := 3, ground := Go.Ground.phase }, { on := 4, ground := Go.Ground.phase }, { on := 5, ground := Go.Ground.phase }, { on := 6, ground := Go.Ground.phase }, { on := 7, ground := Go.Ground.phase }, { on := 8, ground := Go.Ground.phase }, { on := 9, ground := Go.Ground.phase }, { on := 10, ground := Go.Ground.phase }, { on := 11, ground := Go.Ground.phase }, { on := 12, ground := Go.Ground.phase }], guard := none }) rfl (fun KK hK => ?_) AllReadyH.nil)
            obtain ⟨w9, hrun9, hm9, hg9⟩ := HBK.out w8 (g8, (crossF E K (x, (u : Int))).length + 1, cap8) HM8.out
            refine step_estore (t := 98) (by rfl) _ _ _ (by rfl) (.map (some b.bc)) (goInt st) (hdV (g8, (crossF E K (x, (u : Int))).length + 1, cap8)) (by rfl) (by rfl) (by rfl) hrun9 ?_
            have HS9 := Lib.hid ((hg9.block _ (lt_whole HS8.out) (fun e => by have := HG6.out.cm.ne_box HS6.out; exact this (Option.some.inj e))).trans HS8.out)
            have HX9 := Lib.hid ((hg9.block _ (lt_whole HX8.out) (fun e => by have := HG6.out.cm.ne_box HG6.out.box; exact this (Option.some.inj e))).trans HX8.out)
            have HM9 := Lib.hid hm9
            have HG9 := Lib.hid hg9
            clear hrun9 hm9 hg9 hHeld
            refine hK.out _ _ (heldC2 HX9.out HS9.out) (fun hHeld => ?_)
            clear hK
            try simp only [Act.put]
            refine wpAnyH_done (by kernel_rfl) ?_ _
            clear hHeld
            have hl8 : (∃ y, hd1 (x, (u : Int)) = some y ∧ y.1 = g8) ∨ wn.heap.size ≤ g8 := by
              rcases HL8.out with e | e
              · left
                rw [HVB.out] at e
                cases hp : hd1 (x, (u : Int)) with
                | none => rw [hp] at e; cases e
                | some y => rw [hp] at e; exact ⟨y, rfl, Option.some.inj e⟩
              · right; rw [e, HZ7.out]; exact Nat.le_refl _
            have hg8 : w7.grownBy w8 (match hd1 (x, (u : Int)) with | some y => some y.1 | none => none) := by rw [← HVB.out]; exact HG8.out
            have ho8 : w8.ownsRow b.B 124 2 (hdV (g8, (crossF E K (x, (u : Int))).length + 1, cap8)) (crossF E K (x, (u : Int)) ++ [((i : Int), (K.length : Int))]).length ((crossF E K (x, (u : Int)) ++ [((i : Int), (K.length : Int))]).flatMap encPQ) := by
              have := HO8.out
              rw [List.length_append, List.flatMap_append, List.flatMap_singleton]
              exact this
            have HXF := Lib.hid (GX.mv HFR.out rfl (HG6.out.cross (x, (u : Int)) ((i : Int), (K.length : Int)) HG7.out hg8 hl8 ho8 HM9.out HG9.out))
            have HTF := Lib.hid (HT6.out.trans (HG6.out.crossT (n := (crossF E K (x, (u : Int))).length + 1) (cap := cap8) (x, (u : Int)) HG7.out HZ7.out hg8 hl8 HG9.out))
            clear hl8 hg8 ho8 HO8 HG8 HL8 HM9 HG9 HG7 HZ7 HBK HO7 HVB HG6 HT6 HS9 HX9 HS8 HX8 HS7 HX7 HN7 HNW HNQ HS6 HM8 HLT8
            go_wp2
            go_roundw
            case rel => exact ⟨i + 1, m1 + 1, av2, _, by omega, by omega, by go_num, Lib.hid (by rw [HSU.out, List.length_append]; have := HKL.out; simp only [List.length_singleton]; omega), Lib.hid (by rw [HSU.out]; exact HXF.out), HTF⟩
            case measure => simp [intOf]; omega
    · have hli : ¬ (i : Int) < (nl : Int) := by omega
      obtain rfl : i = nl := by omega
      go_wp2
      refine bodyPost_end (results_none rfl _ _ _) rfl ?_
      exact ⟨rfl, av1, hd1, m1, hm1, HX.out, HT.out⟩
end Go.Proofs.Ytlkbohpnlbfopaa
namespace Go.Proofs.Ytlkbohpnlbfopaa
open Go.RowKit
set_option linter.unusedVariables false
section
variable {β : Type} {mk : β → Value} {w : World} {b m : Nat} {f : Int × Int → Option β}
theorem slot_update {t e : TypeId} (ht : Try.prog.underlying t = some (.map 56 e)) (h : SlotM mk w b m f) (hl : m < 200000) (x y : Int) (c : β) (hp : okP (x, y)) :
    ∃ w', (Instr.mapUpdate t (.map (some b)) (.agg #[.int .i64 x, .int .i64 y]) (mk c)).run Try.prog w = .ok () w' ∧ SlotM mk w' b (m + 1) (fun q => if q = (x, y) then some c else f q) ∧ w.grownBy w' (some b) := by
  obtain ⟨n, D, hn, hown, hD⟩ := h
  obtain ⟨kl, hkey⟩ := slot_key hp
  obtain ⟨w', hrun, h1, h2⟩ := hown.update lawSlot ht (by unfold maxLen; omega) hkey (d := .held (mk c)) (ps := []) (val := mk c) rfl
  refine ⟨w', hrun, ⟨n + 1, _, by omega, h1, ?_, ?_⟩, h2⟩
  · intro q yl hy
    have hM := hown.isMap
    by_cases hyz : q = (x, y)
    · subst hyz
      rw [hkey] at hy
      cases hy
      refine ⟨fun c' e => ?_, fun e => (by simp at e)⟩
      simp only [if_true] at e
      obtain rfl : c = c' := by simpa using e
      exact ⟨Maps.has_put_same hM (lawSlot.key hkey) _, fun z => Maps.atKey_put_same hM (lawSlot.key hkey) _ _⟩
    · have hne : yl ≠ kl := by
        rintro rfl
        exact hyz (slotV_inj (lawSlot.inj hy hkey))
      rw [Maps.has_put_other hne]
      simp only [if_neg hyz, Maps.atKey_put_other hne]
      exact hD.1 q yl hy
  · intro kl' hkl
    by_cases e : kl' = kl
    · subst e; exact ⟨(x, y), hkey⟩
    · rw [Maps.has_put_other e] at hkl
      exact hD.2 kl' hkl
end
section
variable {E : Exp} {b : GBk} {N H bn : Int} {K : List Kd} {m : Nat} {av : Value} {hd : Int × Int → Option (Nat × Nat × Nat)} {w : World}
theorem GX.wt {v u : Nat} {a : ArcT} (ha : a = E.arcKd (Kd.wt v u))
    (h : GX b N H bn w { { (contK E K) with A := (contK E K).A ++ [a] } with W := fun q => if q = ((v : Int), (u : Int)) then some (K.length : Int) else (contK E K).W q } m av hd) : GX b N H bn w (contK E (K ++ [Kd.wt v u])) m av hd := by
  subst ha
  refine h.eqv (by simp [contK]) (fun p => ?_) (fun p => ?_) (fun p => ?_) (fun p => ?_)
  · exact (crossF_other E K (Kd.wt v u) (by simp) p).symm
  · exact (plF_one qW K (Kd.wt v u) _ rfl p).symm
  · exact (plF_none (qE E.s) K (Kd.wt v u) rfl p).symm
  · exact (plF_none (qX E.t) K (Kd.wt v u) rfl p).symm
theorem GX.so {u : Nat} {a : ArcT} (ha : a = E.arcKd (Kd.so u))
    (h : GX b N H bn w { { (contK E K) with A := (contK E K).A ++ [a] } with E := fun q => if q = ((E.s : Int), (u : Int)) then some (K.length : Int) else (contK E K).E q } m av hd) : GX b N H bn w (contK E (K ++ [Kd.so u])) m av hd := by
  subst ha
  refine h.eqv (by simp [contK]) (fun p => ?_) (fun p => ?_) (fun p => ?_) (fun p => ?_)
  · exact (crossF_other E K (Kd.so u) (by simp) p).symm
  · exact (plF_none qW K (Kd.so u) rfl p).symm
  · exact (plF_one (qE E.s) K (Kd.so u) _ rfl p).symm
  · exact (plF_none (qX E.t) K (Kd.so u) rfl p).symm
theorem GX.si {u : Nat} {a : ArcT} (ha : a = E.arcKd (Kd.si u))
    (h : GX b N H bn w { { (contK E K) with A := (contK E K).A ++ [a] } with X := fun q => if q = ((E.t : Int), (u : Int)) then some (K.length : Int) else (contK E K).X q } m av hd) : GX b N H bn w (contK E (K ++ [Kd.si u])) m av hd := by
  subst ha
  refine h.eqv (by simp [contK]) (fun p => ?_) (fun p => ?_) (fun p => ?_) (fun p => ?_)
  · exact (crossF_other E K (Kd.si u) (by simp) p).symm
  · exact (plF_none qW K (Kd.si u) rfl p).symm
  · exact (plF_none (qE E.s) K (Kd.si u) rfl p).symm
  · exact (plF_one (qX E.t) K (Kd.si u) _ rfl p).symm
end
theorem wok_at {E : Exp} {v u : Nat} : (E.hold && decide ((u : Int) < (E.H : Int) ∧ (v : Int) ≠ (E.s : Int) ∧ (v : Int) ≠ (E.t : Int))) = E.wok v u := by
  rw [Bool.eq_iff_iff, E.wok_is, Bool.and_eq_true, decide_eq_true_eq]
  constructor
  · rintro ⟨a, b⟩; exact ⟨a, by omega, by omega, by omega⟩
  · rintro ⟨a, b⟩; exact ⟨a, by omega⟩
theorem wt_arc {E : Exp} {v u : Nat} : ((u : Int) * (E.N : Int) + (v : Int), ((u : Int) + 1) * (E.N : Int) + (v : Int), (1099511627776 : Int), (0 : Int)) = E.arcKd (Kd.wt v u) := by
  show _ = (((E.slot v u : Nat) : Int), ((E.slot v (u + 1) : Nat) : Int), Exp.big, (0 : Int))
  unfold Exp.slot
  rw [Int.natCast_add, Int.natCast_mul, Int.natCast_add, Int.natCast_mul, Int.natCast_add]
  rfl
theorem GTo.of_map {b : GBk} {av : Value} {hd : Int × Int → Option (Nat × Nat × Nat)} {w w' : World} {i : Nat} (h : w.grownBy w' (some i)) (hi : GS b av hd i) : GTo b av hd w av hd w' := ⟨Kept.of_grown h (fun j e => by cases e; exact hi), fun _ _ e => e⟩
set_option maxRecDepth 100000 in
set_option maxHeartbeats 8000000 in
theorem uwait_any (E : Exp) (b : GBk) (bn n : Int) (K0 : List Kd) (m : Nat) (av nv : Value) (hd : Int × Int → Option (Nat × Nat × Nat)) (u gs gt gh gn : Nat) (w : World)
    (h : GX b (E.N : Int) (E.H : Int) bn w (contK E K0) m av hd) (hN : E.N ≤ 50)
    (hs : IntB w gs (E.s : Int)) (ht : IntB w gt (E.t : Int)) (hh : IntB w gh (E.H : Int)) (hn : w.heap[gn]? = some (.cells #[.int .i64 n, .bool E.hold, nv] 24 (0, 0))) (hu : u ≤ 1024) (hH : E.H ≤ 1024) (hK : K0.length + E.N ≤ 100000) (hm : m + E.N ≤ 100000) :
    Calls Try.prog 56 #[.pointer (some ⟨b.gb, 0, none⟩), .int .i64 (u : Int), .func (.func 54) #[] #[.pointer (some ⟨gn, 0, none⟩), .pointer (some ⟨gh, 0, none⟩), .pointer (some ⟨gs, 0, none⟩), .pointer (some ⟨gt, 0, none⟩)]] w fun e w' =>
      ∃ av' hd' m', e = .returned (.tuple #[]) ∧ m' ≤ m + E.N ∧ GX b (E.N : Int) (E.H : Int) bn w' (contK E (K0 ++ E.wtK u E.N)) m' av' hd' ∧ GTo b av hd w av' hd' w' := by
  have c0 : w.cell? ⟨b.gb, 0, none⟩ = some (.int .i64 (E.N : Int)) := cell_whole h.box 0
  have hBw : b.B ≤ w.heap.size := by have := (h.mem (i := b.gb) (.inl rfl)); omega
  have HG := Lib.hid h
  have HIS := Lib.hid hs
  have HIT := Lib.hid ht
  have HIH := Lib.hid hh
  have HIN := Lib.hid hn
  have hen := umaywait_enters
  obtain ⟨nn, hnn⟩ : ∃ nn, E.N = nn := ⟨_, rfl⟩
  have HNN := Lib.hid hnn
  rw [hnn] at c0 hN hK hm ⊢
  clear h hs ht hh hn hnn
  go_enter Try.func56, Try.ntmps56
  go_wp2_with fail
  go_loopw [13] (fun iv wr => ∃ (v m1 : Nat) (av1 : Value) (hd1 : Int × Int → Option (Nat × Nat × Nat)), v ≤ nn ∧ m1 ≤ m + v ∧ iv = .int .i64 (v : Int) ∧ Hid ((K0 ++ E.wtK u v).length ≤ K0.length + v) ∧ Hid (GX b (nn : Int) (E.H : Int) bn wr (contK E (K0 ++ E.wtK u v)) m1 av1 hd1) ∧ Hid (GTo b av hd w av1 hd1 wr)) (fun iv _ => nn - (intOf iv).toNat)
  case atStart => exact ⟨0, m, av, hd, Nat.zero_le _, Nat.le_refl _, rfl, Lib.hid (by simp [Exp.wtK]), Lib.hid (by rw [show E.wtK u 0 = [] from rfl, List.append_nil, ← HNN.out]; exact HG.out), Lib.hid (GTo.refl _ _ _ _)⟩
  case round =>
    obtain ⟨v, m1, av1, hd1, hv, hm1, rfl, HKL, HX, HT⟩ := hrel
    by_cases hlt : v < nn
    · have hli : (v : Int) < (nn : Int) := by omega
      have HOK := Lib.hid (wok_at (E := E) (v := v) (u := u))
      have HAR := Lib.hid (wt_arc (E := E) (v := v) (u := u))
      rw [HNN.out] at HAR
      have HSUC : Hid (K0 ++ E.wtK u (v + 1) = (K0 ++ E.wtK u v) ++ if E.wok v u = true then [Kd.wt v u] else []) := Lib.hid (by
        show K0 ++ (E.wtK u v ++ if E.wok v u = true then [Kd.wt v u] else []) = _
        rw [List.append_assoc])
      obtain ⟨f, hf⟩ : ∃ f, E.wok v u = f := ⟨_, rfl⟩
      rw [hf] at HOK HSUC
      generalize K0 ++ E.wtK u v = K at *
      have hb0 := (Below.refl _ wr).alloc (Nat.le_refl _) (.cells #[.int .i64 (v : Int), .int .i64 (u : Int)] 56)
      have HX1 := Lib.hid (HX.out.below hb0)
      have HT1 := Lib.hid (HT.out.trans (GTo.of_below hb0))
      have HB1 := Lib.hid (heap_alloc_new wr (.cells #[.int .i64 (v : Int), .int .i64 (u : Int)] 56))
      have HS1 := Lib.hid (HG.out.box_old HT1.out HIS.out (by decide) (by decide) (by decide))
      have HT2 := Lib.hid (HG.out.box_old HT1.out HIT.out (by decide) (by decide) (by decide))
      have HH1 := Lib.hid (HG.out.box_old HT1.out HIH.out (by decide) (by decide) (by decide))
      have HN1 := Lib.hid (HG.out.box_old HT1.out HIN.out (by decide) (by decide) (by decide))
      have hcall := umaywait_any n E.hold nv (v : Int) (u : Int) (E.s : Int) (E.t : Int) (E.H : Int) gn gs gt gh _ HN1.out HS1.out HT2.out HH1.out f HOK.out
      have HCALL := Lib.hid hcall
      have HNA : Hid (∀ i, GS b av1 hd1 i → i < wr.heap.size) := Lib.hid (fun i hi => (HX.out.mem hi).2)
      clear hf hb0 hcall
      cases f
      · go_wp2_with fail
        refine HCALL.out.mono ?_
        rintro e w3 ⟨rfl, hb3'⟩
        have HX3 := Lib.hid (HX1.out.below hb3')
        have HT3 := Lib.hid (HT1.out.trans (GTo.of_below hb3'))
        have HSU : Hid (K0 ++ E.wtK u (v + 1) = K) := Lib.hid (by rw [HSUC.out]; simp)
        clear hb3' HX1 HT1 HX HT
        go_wp2
        go_roundw
        case rel => exact ⟨v + 1, m1, av1, hd1, by omega, by omega, by go_num, Lib.hid (by rw [HSU.out]; have := HKL.out; omega), Lib.hid (by rw [HSU.out]; exact HX3.out), HT3⟩
        case measure => simp [intOf]; omega
      · have hwd : IntKind.i64.wrap ((u : Int) + 1) = (u : Int) + 1 := IntWalk.i64_in _ (by omega)
        go_wp2_with fail
        refine HCALL.out.mono ?_
        rintro e w3 ⟨rfl, hb3'⟩
        have HX3 := Lib.hid (HX1.out.below hb3')
        have HT3 := Lib.hid (HT1.out.trans (GTo.of_below hb3'))
        have HB3 := Lib.hid (kept_box HB1.out hb3')
        have s0 := cell_whole HB3.out 0
        have s1 := cell_whole HB3.out 1
        have q0 : w3.cell? ⟨b.gb, 0, none⟩ = some (.int .i64 (nn : Int)) := cell_whole HX3.out.box 0
        have q1 : w3.cell? ⟨b.gb, 1, none⟩ = some (.int .i64 (E.H : Int)) := cell_whole HX3.out.box 1
        have q6 : w3.cell? ⟨b.gb, 6, none⟩ = some (.map (some b.bw)) := cell_whole HX3.out.box 6
        have HSU : Hid (K0 ++ E.wtK u (v + 1) = K ++ [Kd.wt v u]) := Lib.hid (by rw [HSUC.out]; simp)
        have hltS := lt_whole HB3.out
        have hltG := lt_whole HX3.out.box
        have HXx : Hid (GX b (nn : Int) (E.H : Int) bn w3.drew (contK E K) m1 av1 hd1) := Lib.hid (HX3.out.below (below_drew (Below.refl _ _)))
        have HBx : Hid (Below w3.heap.size w3 w3.drew) := Lib.hid (below_drew (Below.refl _ _))
        have hKc : (contK E K).A.length ≤ 100000 := by rw [contK_len]; have := HKL.out; omega
        have HOKP : Hid (okP ((v : Int), (u : Int))) := Lib.hid ⟨by unfold in64; show (-9223372036854775808 : Int) ≤ (v : Int) ∧ (v : Int) ≤ 9223372036854775807; omega, by unfold in64; show (-9223372036854775808 : Int) ≤ (u : Int) ∧ (u : Int) ≤ 9223372036854775807; omega⟩
        clear hb3' HX1 HT1 HX HT
        go_wp2_with fail
        go_region_held3 (fun W => W.cell? ⟨b.gb, 0, none⟩ = some (.int .i64 (nn : Int)) ∧ W.cell? ⟨b.gb, 1, none⟩ = some (.int .i64 (E.H : Int)) ∧ W.cell? ⟨b.gb, 6, none⟩ = some (.map (some b.bw)) ∧ W.cell? ⟨wr.heap.size, 0, none⟩ = some (.int .i64 (v : Int)) ∧ W.cell? ⟨wr.heap.size, 1, none⟩ = some (.int .i64 (u : Int))) (first | exact ⟨q0, q1, q6, s0, s1⟩ | exact ⟨y0, y1, y2, y3, y4⟩ | exact ⟨z0, z1, z2, z3, z4⟩ | go_keep)
          (first
            | (go_at_call 68; refine (ugindex_any _ nn _ _ _ hN (by omega) (by omega)).mono ?_; rintro e w6 ⟨rfl, b6⟩; have z0 := cell_below' (HBx.out.trans (b6.mono HBx.out.size)) q0 hltG; have z1 := cell_below' (HBx.out.trans (b6.mono HBx.out.size)) q1 hltG; have z2 := cell_below' (HBx.out.trans (b6.mono HBx.out.size)) q6 hltG; have z3 := cell_below' (HBx.out.trans (b6.mono HBx.out.size)) s0 hltS; have z4 := cell_below' (HBx.out.trans (b6.mono HBx.out.size)) s1 hltS; have HXx := Lib.hid (HXx.out.below b6); have HBx := Lib.hid (HBx.out.trans (b6.mono HBx.out.size)); clear b6)
            | (go_at_call 67; refine (uadd_any _ _ _ _ HXx.out hKc).mono ?_; rintro e w8 ⟨av2, rfl, hx8, ht8⟩; rw [contK_len]; have hs8 := ht8.kept.old (kept_box HB3.out HBx.out) (fun hg => by have := HNA.out _ hg; omega); have z0 : w8.cell? ⟨b.gb, 0, none⟩ = some (.int .i64 (nn : Int)) := cell_whole hx8.box 0; have z1 : w8.cell? ⟨b.gb, 1, none⟩ = some (.int .i64 (E.H : Int)) := cell_whole hx8.box 1; have z2 : w8.cell? ⟨b.gb, 6, none⟩ = some (.map (some b.bw)) := cell_whole hx8.box 6; have z3 := cell_whole hs8 0; have z4 := cell_whole hs8 1; obtain ⟨w9, hrun9, hm9, hg9⟩ := slot_update (mk := numV) Try.underlying99 hx8.wm (by omega) (v : Int) (u : Int) (K.length : Int) HOKP.out; unfold numV at hrun9; have HX9 := Lib.hid (hx8.waits hm9 hg9); have hs9 := (hg9.block _ (lt_whole hs8) (fun e => hx8.wm.ne_box hs8 (Option.some.inj e))).trans hs8; have y0 : w9.cell? ⟨b.gb, 0, none⟩ = some (.int .i64 (nn : Int)) := cell_whole HX9.out.box 0; have y1 : w9.cell? ⟨b.gb, 1, none⟩ = some (.int .i64 (E.H : Int)) := cell_whole HX9.out.box 1; have y2 : w9.cell? ⟨b.gb, 6, none⟩ = some (.map (some b.bw)) := cell_whole HX9.out.box 6; have y3 := cell_whole hs9 0; have y4 := cell_whole hs9 1; have HT9 := Lib.hid (ht8.trans (GTo.of_map hg9 (.inr (.inr (.inl rfl))))); clear hx8 ht8 hs8 hs9 hm9 hg9))
        all_goals
          have HXF := Lib.hid (GX.wt HAR.out HX9.out)
          have HTF := Lib.hid (HT3.out.trans ((GTo.of_below HBx.out).trans HT9.out))
          go_wp2
          go_roundw
          case rel => exact ⟨v + 1, m1 + 1, av2, hd1, by omega, by omega, by go_num, Lib.hid (by rw [HSU.out, List.length_append]; have := HKL.out; simp only [List.length_singleton]; omega), Lib.hid (by rw [HSU.out]; exact HXF.out), HTF⟩
          case measure => simp [intOf]; omega
    · have hli : ¬ (v : Int) < (nn : Int) := by omega
      obtain rfl : v = nn := by omega
      go_wp2
      refine bodyPost_end (results_none rfl _ _ _) rfl ?_
      exact ⟨rfl, av1, hd1, m1, hm1, HX.out, HT.out⟩
end Go.Proofs.Ytlkbohpnlbfopaa
namespace Go.Proofs.Ytlkbohpnlbfopaa
open Go.RowKit
set_option linter.unusedVariables false
theorem so_arc15 {E : Exp} {u : Nat} : (((E.H : Int) + 1) * (E.N : Int), (u : Int) * (E.N : Int) + (E.s : Int), (1099511627776 : Int), (0 : Int)) = E.arcKd (Kd.so u) := by
  show _ = (((E.first : Nat) : Int), ((E.slot E.s u : Nat) : Int), Exp.big, (0 : Int))
  unfold Exp.slot Exp.first
  rw [Int.natCast_add, Int.natCast_mul, Int.natCast_mul, Int.natCast_add]
  rfl
theorem si_arc15 {E : Exp} {u : Nat} : ((u : Int) * (E.N : Int) + (E.t : Int), ((E.H : Int) + 1) * (E.N : Int) + 1, (1099511627776 : Int), (0 : Int)) = E.arcKd (Kd.si u) := by
  show _ = (((E.slot E.t u : Nat) : Int), ((E.last : Nat) : Int), Exp.big, (0 : Int))
  unfold Exp.slot Exp.last
  rw [Int.natCast_add, Int.natCast_mul, Int.natCast_add, Int.natCast_mul, Int.natCast_add]
  rfl
set_option maxRecDepth 100000 in
set_option maxHeartbeats 8000000 in
theorem ujoin_any (E : Exp) (b : GBk) (bn : Int) (K0 : List Kd) (m : Nat) (av : Value) (hd : Int × Int → Option (Nat × Nat × Nat)) (w : World)
    (h : GX b (E.N : Int) (E.H : Int) bn w (contK E K0) m av hd) (hN : E.N ≤ 50) (hsN : E.s < E.N) (htN : E.t < E.N) (hH : E.H ≤ 1024) (hK : K0.length + 2 * (E.H + 1) ≤ 100000) (hm : m + 2 * (E.H + 1) ≤ 100000) :
    Calls Try.prog 57 #[.pointer (some ⟨b.gb, 0, none⟩), .int .i64 (E.s : Int), .int .i64 (E.t : Int)] w fun e w' =>
      ∃ av' hd' m', e = .returned (.tuple #[]) ∧ m' ≤ m + 2 * (E.H + 1) ∧ GX b (E.N : Int) (E.H : Int) bn w' (contK E (K0 ++ (Exp.soK (E.H + 1) ++ Exp.siK (E.H + 1)))) m' av' hd' ∧ GTo b av hd w av' hd' w' := by
  have c0 : w.cell? ⟨b.gb, 0, none⟩ = some (.int .i64 (E.N : Int)) := cell_whole h.box 0
  have c1 : w.cell? ⟨b.gb, 1, none⟩ = some (.int .i64 (E.H : Int)) := cell_whole h.box 1
  have hBw : b.B ≤ w.heap.size := by have := (h.mem (i := b.gb) (.inl rfl)); omega
  have HG := Lib.hid h
  obtain ⟨nn, hnn⟩ : ∃ nn, E.N = nn := ⟨_, rfl⟩
  obtain ⟨hh, hhh⟩ : ∃ hh, E.H = hh := ⟨_, rfl⟩
  obtain ⟨ss, hss⟩ : ∃ ss, E.s = ss := ⟨_, rfl⟩
  obtain ⟨tt, htt⟩ : ∃ tt, E.t = tt := ⟨_, rfl⟩
  have HARS := Lib.hid (fun u => so_arc15 (E := E) (u := u))
  have HART := Lib.hid (fun u => si_arc15 (E := E) (u := u))
  rw [hnn, hhh, hss] at HARS
  rw [hnn, hhh, htt] at HART
  have HNN := Lib.hid hnn
  have HHH := Lib.hid hhh
  have HSS := Lib.hid hss
  have HTT := Lib.hid htt
  rw [hnn] at c0 hN hsN htN
  rw [hhh] at c1 hH hK hm
  rw [hss] at hsN
  rw [htt] at htN
  rw [hnn, hhh, hss, htt]
  have hw0 : IntKind.i64.wrap ((hh : Int) + 1) = (hh : Int) + 1 := IntWalk.i64_in _ (by omega)
  obtain ⟨fi, hfi⟩ : ∃ fi, ((hh : Int) + 1) * (nn : Int) = fi := ⟨_, rfl⟩
  have hfb : 0 ≤ fi ∧ fi ≤ 1025 * 200 := by
    rw [← hfi]
    exact ⟨Int.mul_nonneg (by omega) (by omega), Int.mul_le_mul (by omega) (by omega) (by omega) (by omega)⟩
  have hwf : IntKind.i64.wrap (fi + 1) = fi + 1 := IntWalk.i64_in _ (by omega)
  rw [hfi] at HARS HART
  have HFI := Lib.hid hfi
  clear h hnn hhh hss htt hfi
  go_enter Try.func57, Try.ntmps57
  go_wp2_with (go_at_call 40; refine (ugsize_any nn hh _ hN hH).mono ?_; rw [HFI.out]; rintro e w1 ⟨rfl, hb1⟩; have HX1 := Lib.hid (HG.out.below hb1); have HT1 := Lib.hid (GTo.of_below (b := b) (av := av) (hd := hd) hb1); have c0 := cell_below hb1 c0; have c1 := cell_below hb1 c1; clear hb1)
  clear c0 c1
  rw [HNN.out, HHH.out] at HX1
  go_loopw [25] (fun iv wr => ∃ (u m1 : Nat) (av1 : Value) (hd1 : Int × Int → Option (Nat × Nat × Nat)), u ≤ hh + 1 ∧ m1 ≤ m + u ∧ iv = .int .i64 (u : Int) ∧ Hid ((K0 ++ Exp.soK u).length ≤ K0.length + u) ∧ Hid (GX b (nn : Int) (hh : Int) bn wr (contK E (K0 ++ Exp.soK u)) m1 av1 hd1) ∧ Hid (GTo b av hd w av1 hd1 wr)) (fun iv _ => hh + 1 - (intOf iv).toNat)
  case atStart => exact ⟨0, m, av, hd, Nat.zero_le _, Nat.le_refl _, rfl, Lib.hid (by simp [Exp.soK]), Lib.hid (by rw [show Exp.soK 0 = [] from rfl, List.append_nil]; exact HX1.out), HT1⟩
  case round =>
    obtain ⟨u, m1, av1, hd1, hu, hm1, rfl, HKL, HX, HT⟩ := hrel
    clear HX1 HT1
    by_cases hlt : u < hh + 1
    · have hli : (u : Int) < (hh : Int) + 1 := by omega
      have HAR := Lib.hid (HARS.out u)
      have HSUC : Hid (K0 ++ Exp.soK (u + 1) = (K0 ++ Exp.soK u) ++ [Kd.so u]) := Lib.hid (by
        show K0 ++ (Exp.soK u ++ [Kd.so u]) = _
        rw [List.append_assoc])
      generalize K0 ++ Exp.soK u = K at *
      have hb0 := (Below.refl _ wr).alloc (Nat.le_refl _) (.cells #[.int .i64 (ss : Int), .int .i64 (u : Int)] 56)
      have HX3 := Lib.hid (HX.out.below hb0)
      have HT3 := Lib.hid (HT.out.trans (GTo.of_below hb0))
      have HB3 := Lib.hid (heap_alloc_new wr (.cells #[.int .i64 (ss : Int), .int .i64 (u : Int)] 56))
      have HNA : Hid (∀ i, GS b av1 hd1 i → i < wr.heap.size) := Lib.hid (fun i hi => (HX.out.mem hi).2)
      have s0 := cell_whole HB3.out 0
      have s1 := cell_whole HB3.out 1
      have q0 : (wr.alloc (.cells #[.int .i64 (ss : Int), .int .i64 (u : Int)] 56)).cell? ⟨b.gb, 0, none⟩ = some (.int .i64 (nn : Int)) := cell_whole HX3.out.box 0
      have q1 : (wr.alloc (.cells #[.int .i64 (ss : Int), .int .i64 (u : Int)] 56)).cell? ⟨b.gb, 1, none⟩ = some (.int .i64 (hh : Int)) := cell_whole HX3.out.box 1
      have q6 : (wr.alloc (.cells #[.int .i64 (ss : Int), .int .i64 (u : Int)] 56)).cell? ⟨b.gb, 7, none⟩ = some (.map (some b.be)) := cell_whole HX3.out.box 7
      have hltS := lt_whole HB3.out
      have hltG := lt_whole HX3.out.box
      have hKc : (contK E K).A.length ≤ 100000 := by rw [contK_len]; have := HKL.out; omega
      have HOKP : Hid (okP ((ss : Int), (u : Int))) := Lib.hid ⟨by unfold in64; show (-9223372036854775808 : Int) ≤ (ss : Int) ∧ (ss : Int) ≤ 9223372036854775807; omega, by unfold in64; show (-9223372036854775808 : Int) ≤ (u : Int) ∧ (u : Int) ≤ 9223372036854775807; omega⟩
      clear hb0 HX HT
      go_wp2_with fail
      generalize wr.alloc (.cells #[.int .i64 (ss : Int), .int .i64 (u : Int)] 56) = w3 at *
      have HXx : Hid (GX b (nn : Int) (hh : Int) bn w3.drew (contK E K) m1 av1 hd1) := Lib.hid (HX3.out.below (below_drew (Below.refl _ _)))
      have HBx : Hid (Below w3.heap.size w3 w3.drew) := Lib.hid (below_drew (Below.refl _ _))
      go_region_held3 (fun W => W.cell? ⟨b.gb, 0, none⟩ = some (.int .i64 (nn : Int)) ∧ W.cell? ⟨b.gb, 1, none⟩ = some (.int .i64 (hh : Int)) ∧ W.cell? ⟨b.gb, 7, none⟩ = some (.map (some b.be)) ∧ W.cell? ⟨wr.heap.size, 0, none⟩ = some (.int .i64 (ss : Int)) ∧ W.cell? ⟨wr.heap.size, 1, none⟩ = some (.int .i64 (u : Int))) (first | exact ⟨q0, q1, q6, s0, s1⟩ | exact ⟨y0, y1, y2, y3, y4⟩ | exact ⟨z0, z1, z2, z3, z4⟩ | go_keep)
        (first
          | (go_at_call 68; refine (ugindex_any _ nn _ _ _ hN (by omega) (by omega)).mono ?_; rintro e w6 ⟨rfl, b6⟩; have z0 := cell_below' (HBx.out.trans (b6.mono HBx.out.size)) q0 hltG; have z1 := cell_below' (HBx.out.trans (b6.mono HBx.out.size)) q1 hltG; have z2 := cell_below' (HBx.out.trans (b6.mono HBx.out.size)) q6 hltG; have z3 := cell_below' (HBx.out.trans (b6.mono HBx.out.size)) s0 hltS; have z4 := cell_below' (HBx.out.trans (b6.mono HBx.out.size)) s1 hltS; have HXx := Lib.hid (HXx.out.below b6); have HBx := Lib.hid (HBx.out.trans (b6.mono HBx.out.size)); clear b6)
          | (go_at_call 67; refine (uadd_any _ _ _ _ HXx.out hKc).mono ?_; rintro e w8 ⟨av2, rfl, hx8, ht8⟩; rw [contK_len]; have hs8 := ht8.kept.old (kept_box HB3.out HBx.out) (fun hg => by have := HNA.out _ hg; omega); have z0 : w8.cell? ⟨b.gb, 0, none⟩ = some (.int .i64 (nn : Int)) := cell_whole hx8.box 0; have z1 : w8.cell? ⟨b.gb, 1, none⟩ = some (.int .i64 (hh : Int)) := cell_whole hx8.box 1; have z2 : w8.cell? ⟨b.gb, 7, none⟩ = some (.map (some b.be)) := cell_whole hx8.box 7; have z3 := cell_whole hs8 0; have z4 := cell_whole hs8 1; obtain ⟨w9, hrun9, hm9, hg9⟩ := slot_update (mk := numV) Try.underlying99 hx8.em (by omega) (ss : Int) (u : Int) (K.length : Int) HOKP.out; unfold numV at hrun9; have HX9 := Lib.hid (hx8.entries hm9 hg9); have hs9 := (hg9.block _ (lt_whole hs8) (fun e => hx8.em.ne_box hs8 (Option.some.inj e))).trans hs8; have y0 : w9.cell? ⟨b.gb, 0, none⟩ = some (.int .i64 (nn : Int)) := cell_whole HX9.out.box 0; have y1 : w9.cell? ⟨b.gb, 1, none⟩ = some (.int .i64 (hh : Int)) := cell_whole HX9.out.box 1; have y2 : w9.cell? ⟨b.gb, 7, none⟩ = some (.map (some b.be)) := cell_whole HX9.out.box 7; have y3 := cell_whole hs9 0; have y4 := cell_whole hs9 1; have HT9 := Lib.hid (ht8.trans (GTo.of_map hg9 (.inr (.inr (.inr (.inl rfl)))))); clear hx8 ht8 hs8 hs9 hm9 hg9))
      all_goals
        have HXF := Lib.hid (GX.so HAR.out (by rw [HSS.out]; exact HX9.out))
        have HTF := Lib.hid (HT3.out.trans ((GTo.of_below HBx.out).trans HT9.out))
        go_wp2
        go_roundw
        case rel => exact ⟨u + 1, m1 + 1, av2, hd1, by omega, by omega, by go_num, Lib.hid (by rw [HSUC.out, List.length_append]; have := HKL.out; simp only [List.length_singleton]; omega), Lib.hid (by rw [HSUC.out]; exact HXF.out), HTF⟩
        case measure => simp [intOf]; omega
    · have hli : ¬ (u : Int) < (hh : Int) + 1 := by omega
      obtain rfl : u = hh + 1 := by omega
      have HX4 := HX
      have HT4 := HT
      have c1 : wr.cell? ⟨b.gb, 1, none⟩ = some (.int .i64 (hh : Int)) := cell_whole HX.out.box 1
      have HAPP : Hid (∀ l, (K0 ++ Exp.soK (hh + 1)) ++ l = K0 ++ (Exp.soK (hh + 1) ++ l)) := Lib.hid (fun l => List.append_assoc _ _ _)
      generalize K0 ++ Exp.soK (hh + 1) = K1 at *
      clear HX HT
      go_wp2_with fail
      clear c1
      go_loopw [52] (fun iv wz => ∃ (v m2 : Nat) (av2 : Value) (hd2 : Int × Int → Option (Nat × Nat × Nat)), v ≤ hh + 1 ∧ m2 ≤ m + (hh + 1) + v ∧ iv = .int .i64 (v : Int) ∧ Hid ((K1 ++ Exp.siK v).length ≤ K0.length + (hh + 1) + v) ∧ Hid (GX b (nn : Int) (hh : Int) bn wz (contK E (K1 ++ Exp.siK v)) m2 av2 hd2) ∧ Hid (GTo b av hd w av2 hd2 wz)) (fun iv _ => hh + 1 - (intOf iv).toNat)
      case atStart => exact ⟨0, m1, av1, hd1, Nat.zero_le _, by omega, rfl, Lib.hid (by simp only [Exp.siK, List.append_nil]; have := HKL.out; omega), Lib.hid (by rw [show Exp.siK 0 = [] from rfl, List.append_nil]; exact HX4.out), HT4⟩
      case round =>
        obtain ⟨v, m2, av2, hd2, hv, hm2, rfl, HKM, HX, HT⟩ := hrel
        clear HX4 HT4
        by_cases hltv : v < hh + 1
        · have hli : (v : Int) < (hh : Int) + 1 := by omega
          have HAR := Lib.hid (HART.out v)
          have HSUC : Hid (K1 ++ Exp.siK (v + 1) = (K1 ++ Exp.siK v) ++ [Kd.si v]) := Lib.hid (by
            show K1 ++ (Exp.siK v ++ [Kd.si v]) = _
            rw [List.append_assoc])
          generalize K1 ++ Exp.siK v = K at *
          have hb0 := (Below.refl _ wr).alloc (Nat.le_refl _) (.cells #[.int .i64 (tt : Int), .int .i64 (v : Int)] 56)
          have HX3 := Lib.hid (HX.out.below hb0)
          have HT3 := Lib.hid (HT.out.trans (GTo.of_below hb0))
          have HB3 := Lib.hid (heap_alloc_new wr (.cells #[.int .i64 (tt : Int), .int .i64 (v : Int)] 56))
          have HNA : Hid (∀ i, GS b av2 hd2 i → i < wr.heap.size) := Lib.hid (fun i hi => (HX.out.mem hi).2)
          have s0 := cell_whole HB3.out 0
          have s1 := cell_whole HB3.out 1
          have q0 : (wr.alloc (.cells #[.int .i64 (tt : Int), .int .i64 (v : Int)] 56)).cell? ⟨b.gb, 0, none⟩ = some (.int .i64 (nn : Int)) := cell_whole HX3.out.box 0
          have q1 : (wr.alloc (.cells #[.int .i64 (tt : Int), .int .i64 (v : Int)] 56)).cell? ⟨b.gb, 1, none⟩ = some (.int .i64 (hh : Int)) := cell_whole HX3.out.box 1
          have q6 : (wr.alloc (.cells #[.int .i64 (tt : Int), .int .i64 (v : Int)] 56)).cell? ⟨b.gb, 8, none⟩ = some (.map (some b.bx)) := cell_whole HX3.out.box 8
          have hltS := lt_whole HB3.out
          have hltG := lt_whole HX3.out.box
          have hKc : (contK E K).A.length ≤ 100000 := by rw [contK_len]; have := HKM.out; omega
          have HOKP : Hid (okP ((tt : Int), (v : Int))) := Lib.hid ⟨by unfold in64; show (-9223372036854775808 : Int) ≤ (tt : Int) ∧ (tt : Int) ≤ 9223372036854775807; omega, by unfold in64; show (-9223372036854775808 : Int) ≤ (v : Int) ∧ (v : Int) ≤ 9223372036854775807; omega⟩
          clear hb0 HX HT
          go_wp2_with fail
          generalize wr.alloc (.cells #[.int .i64 (tt : Int), .int .i64 (v : Int)] 56) = w3 at *
          have HXx : Hid (GX b (nn : Int) (hh : Int) bn w3.drew (contK E K) m2 av2 hd2) := Lib.hid (HX3.out.below (below_drew (Below.refl _ _)))
          have HBx : Hid (Below w3.heap.size w3 w3.drew) := Lib.hid (below_drew (Below.refl _ _))
          go_region_held3 (fun W => W.cell? ⟨b.gb, 0, none⟩ = some (.int .i64 (nn : Int)) ∧ W.cell? ⟨b.gb, 1, none⟩ = some (.int .i64 (hh : Int)) ∧ W.cell? ⟨b.gb, 8, none⟩ = some (.map (some b.bx)) ∧ W.cell? ⟨wr.heap.size, 0, none⟩ = some (.int .i64 (tt : Int)) ∧ W.cell? ⟨wr.heap.size, 1, none⟩ = some (.int .i64 (v : Int))) (first | exact ⟨q0, q1, q6, s0, s1⟩ | exact ⟨y0, y1, y2, y3, y4⟩ | exact ⟨z0, z1, z2, z3, z4⟩ | go_keep)
            (first
              | (go_at_call 68; refine (ugindex_any _ nn _ _ _ hN (by omega) (by omega)).mono ?_; rintro e w6 ⟨rfl, b6⟩; have z0 := cell_below' (HBx.out.trans (b6.mono HBx.out.size)) q0 hltG; have z1 := cell_below' (HBx.out.trans (b6.mono HBx.out.size)) q1 hltG; have z2 := cell_below' (HBx.out.trans (b6.mono HBx.out.size)) q6 hltG; have z3 := cell_below' (HBx.out.trans (b6.mono HBx.out.size)) s0 hltS; have z4 := cell_below' (HBx.out.trans (b6.mono HBx.out.size)) s1 hltS; have HXx := Lib.hid (HXx.out.below b6); have HBx := Lib.hid (HBx.out.trans (b6.mono HBx.out.size)); clear b6)
              | (go_at_call 67; refine (uadd_any _ _ _ _ HXx.out hKc).mono ?_; rintro e w8 ⟨av3, rfl, hx8, ht8⟩; rw [contK_len]; have hs8 := ht8.kept.old (kept_box HB3.out HBx.out) (fun hg => by have := HNA.out _ hg; omega); have z0 : w8.cell? ⟨b.gb, 0, none⟩ = some (.int .i64 (nn : Int)) := cell_whole hx8.box 0; have z1 : w8.cell? ⟨b.gb, 1, none⟩ = some (.int .i64 (hh : Int)) := cell_whole hx8.box 1; have z2 : w8.cell? ⟨b.gb, 8, none⟩ = some (.map (some b.bx)) := cell_whole hx8.box 8; have z3 := cell_whole hs8 0; have z4 := cell_whole hs8 1; obtain ⟨w9, hrun9, hm9, hg9⟩ := slot_update (mk := numV) Try.underlying99 hx8.xm (by omega) (tt : Int) (v : Int) (K.length : Int) HOKP.out; unfold numV at hrun9; have HX9 := Lib.hid (hx8.exits hm9 hg9); have hs9 := (hg9.block _ (lt_whole hs8) (fun e => hx8.xm.ne_box hs8 (Option.some.inj e))).trans hs8; have y0 : w9.cell? ⟨b.gb, 0, none⟩ = some (.int .i64 (nn : Int)) := cell_whole HX9.out.box 0; have y1 : w9.cell? ⟨b.gb, 1, none⟩ = some (.int .i64 (hh : Int)) := cell_whole HX9.out.box 1; have y2 : w9.cell? ⟨b.gb, 8, none⟩ = some (.map (some b.bx)) := cell_whole HX9.out.box 8; have y3 := cell_whole hs9 0; have y4 := cell_whole hs9 1; have HT9 := Lib.hid (ht8.trans (GTo.of_map hg9 (.inr (.inr (.inr (.inr (.inl rfl))))))); clear hx8 ht8 hs8 hs9 hm9 hg9))
          all_goals
            have HXF := Lib.hid (GX.si HAR.out (by rw [HTT.out]; exact HX9.out))
            have HTF := Lib.hid (HT3.out.trans ((GTo.of_below HBx.out).trans HT9.out))
            go_wp2
            go_roundw
            case rel => exact ⟨v + 1, m2 + 1, av3, hd2, by omega, by omega, by go_num, Lib.hid (by rw [HSUC.out, List.length_append]; have := HKM.out; simp only [List.length_singleton]; omega), Lib.hid (by rw [HSUC.out]; exact HXF.out), HTF⟩
            case measure => simp [intOf]; omega
        · have hliv : ¬ (v : Int) < (hh : Int) + 1 := by omega
          obtain rfl : v = hh + 1 := by omega
          go_wp2
          refine bodyPost_end (results_none rfl _ _ _) rfl ?_
          exact ⟨rfl, av2, hd2, m2, by omega, by rw [← HAPP.out]; exact HX.out, HT.out⟩
end Go.Proofs.Ytlkbohpnlbfopaa
