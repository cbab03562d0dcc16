/- What is made of an expansion at its start: its variable and its four maps, in whatever order. Written by a script: one theorem for each set of what is made already. -/
import Derived.Test.YtlkbohpnlbfopaaBW
namespace Go.Proofs.Ytlkbohpnlbfopaa
open Go.RowKit
set_option linter.unusedVariables false
def ops9 : Array Oper := #[{ dst := some 46, op := Go.Op.load 97 (Go.Operand.tmp 12), type := 97, pos := "expand.go:122", after := #[], guard := none }, { dst := some 47, op := Go.Op.load 97 (Go.Operand.tmp 12), type := 97, pos := "expand.go:122", after := #[], guard := none }, { dst := some 48, op := Go.Op.call { callee := Go.Callee.value (Go.Operand.func 40), args := #[Go.Operand.tmp 47], argTypes := #[97] }, type := 3, pos := "expand.go:124", after := #[{ on := 1, ground := Go.Ground.data }], guard := none }, { dst := some 49, op := Go.Op.binOp Go.BinOp.add 3 (Go.Operand.tmp 48) (Go.Operand.const (Go.Value.int Go.IntKind.i64 2)) 3, type := 3, pos := "expand.go:122", after := #[{ on := 2, ground := Go.Ground.data }], guard := none }, { dst := some 50, op := Go.Op.build 24 #[(0, Go.Operand.tmp 49)], type := 24, pos := "expand.go:122", after := #[{ on := 3, ground := Go.Ground.data }], guard := none }, { dst := some 51, op := Go.Op.makeMap 98 none, type := 98, pos := "expand.go:122", after := #[], guard := none }, { dst := some 52, op := Go.Op.makeMap 99 none, type := 99, pos := "expand.go:122", after := #[], guard := none }, { dst := some 53, op := Go.Op.makeMap 99 none, type := 99, pos := "expand.go:122", after := #[], guard := none }, { dst := some 54, op := Go.Op.makeMap 99 none, type := 99, pos := "expand.go:122", after := #[], guard := none }, { dst := some 55, op := Go.Op.build 101 #[(0, Go.Operand.tmp 46), (1, Go.Operand.tmp 50), (2, Go.Operand.tmp 51), (3, Go.Operand.tmp 52), (4, Go.Operand.tmp 53), (5, Go.Operand.tmp 54)], type := 101, pos := "expand.go:122", after := #[{ on := 0, ground := Go.Ground.data }, { on := 4, ground := Go.Ground.data }, { on := 5, ground := Go.Ground.data }, { on := 6, ground := Go.Ground.data }, { on := 7, ground := Go.Ground.data }, { on := 8, ground := Go.Ground.data }], guard := none }, { dst := some 16, op := Go.Op.alloc 101, type := 0, pos := "expand.go:122", after := #[], guard := none }, { dst := none, op := Go.Op.store 101 (Go.Operand.tmp 16) (Go.Operand.tmp 55), type := 0, pos := "expand.go:122", after := #[{ on := 10, ground := Go.Ground.data }, { on := 9, ground := Go.Ground.data }, { on := 2, ground := Go.Ground.chain }, { on := 0, ground := Go.Ground.phase }, { on := 1, ground := Go.Ground.phase }, { on := 2, ground := Go.Ground.phase }, { on := 3, ground := Go.Ground.phase }, { on := 4, ground := Go.Ground.phase }, { on := 5, ground := Go.Ground.phase }, { on := 6, ground := Go.Ground.phase }, { on := 7, ground := Go.Ground.phase }, { on := 8, ground := Go.Ground.phase }, { on := 9, ground := Go.Ground.phase }, { on := 10, ground := Go.Ground.phase }], guard := none }]
def act9 (p0 p1 p2 p3 p4 p5 p6 p7 p8 p9 p10 p11 p12 p13 p14 p15 p17 p18 p19 p20 p21 p22 p23 p24 p25 p26 p27 p28 p29 p30 p31 p32 p33 p34 p35 p36 p37 p38 p39 p40 p41 p42 p43 p44 p45 p46 p47 p56 p57 p58 p59 p60 p61 p62 p63 p64 p65 p66 p67 p68 p69 p70 p71 p72 p73 v48 v49 v50 v51 v52 v53 v54 v55 v16 : Value) : Act := { tmps := #[p0, p1, p2, p3, p4, p5, p6, p7, p8, p9, p10, p11, p12, p13, p14, p15, v16, p17, p18, p19, p20, p21, p22, p23, p24, p25, p26, p27, p28, p29, p30, p31, p32, p33, p34, p35, p36, p37, p38, p39, p40, p41, p42, p43, p44, p45, p46, p47, v48, v49, v50, v51, v52, v53, v54, v55, p56, p57, p58, p59, p60, p61, p62, p63, p64, p65, p66, p67, p68, p69, p70, p71, p72, p73], defers := [] }
structure R9 (w0 : World) (m5 m6 m7 m8 mg : Option Nat) (w : World) : Prop where
  low : Below w0.heap.size w0 w
  c5 : ∀ b, m5 = some b → w0.heap.size ≤ b ∧ SlotM hdV w b 0 (fun _ => none)
  c6 : ∀ b, m6 = some b → w0.heap.size ≤ b ∧ SlotM numV w b 0 (fun _ => none)
  c7 : ∀ b, m7 = some b → w0.heap.size ≤ b ∧ SlotM numV w b 0 (fun _ => none)
  c8 : ∀ b, m8 = some b → w0.heap.size ≤ b ∧ SlotM numV w b 0 (fun _ => none)
  cg : ∀ b, mg = some b → w0.heap.size ≤ b ∧ w.heap[b]? = some (.cells #[.int .i64 0, .int .i64 0, .int .i64 0, .bool false, .slice none 0 0, .map none, .map none, .map none, .map none] 101 (0, 0))
  ne1 : ∀ x y, m5 = some x → (m6 = some y → x ≠ y) ∧ (m7 = some y → x ≠ y) ∧ (m8 = some y → x ≠ y)
  ne2 : ∀ x y, m6 = some x → (m7 = some y → x ≠ y) ∧ (m8 = some y → x ≠ y)
  ne3 : ∀ x y, m7 = some x → m8 = some y → x ≠ y
section
variable {w0 w w' : World} {m5 m6 m7 m8 mg : Option Nat}
theorem R9.next (h : R9 w0 m5 m6 m7 m8 mg w) (hb : Below w.heap.size w w') : R9 w0 m5 m6 m7 m8 mg w' :=
  ⟨h.low.trans (hb.mono h.low.size), fun b e => ⟨(h.c5 b e).1, (h.c5 b e).2.below hb⟩, fun b e => ⟨(h.c6 b e).1, (h.c6 b e).2.below hb⟩, fun b e => ⟨(h.c7 b e).1, (h.c7 b e).2.below hb⟩, fun b e => ⟨(h.c8 b e).1, (h.c8 b e).2.below hb⟩, fun b e => ⟨(h.cg b e).1, kept_box (h.cg b e).2 hb⟩, h.ne1, h.ne2, h.ne3⟩
theorem R9.start (w0 : World) : R9 w0 none none none none none w0 := ⟨Below.refl _ _, (fun b e => nomatch e), (fun b e => nomatch e), (fun b e => nomatch e), (fun b e => nomatch e), (fun b e => nomatch e), (fun x y e => nomatch e), (fun x y e => nomatch e), (fun x y e => nomatch e)⟩
theorem R9.add5 (h : R9 w0 none m6 m7 m8 mg w) : R9 w0 (some w.heap.size) m6 m7 m8 mg (w.alloc (.map #[] 0)) := by
  have hb := (Below.refl _ w).alloc (Nat.le_refl _) (.map #[] 0)
  have k := h.next hb
  refine ⟨k.low, fun b e => ?_, k.c6, k.c7, k.c8, k.cg, fun x y e => ?_, k.ne2, k.ne3⟩
  · cases e; exact ⟨h.low.size, SlotM.made w⟩
  · cases e
    exact ⟨fun e2 => by have := (h.c6 y e2).2.lt; omega, fun e2 => by have := (h.c7 y e2).2.lt; omega, fun e2 => by have := (h.c8 y e2).2.lt; omega⟩
theorem R9.add6 (h : R9 w0 m5 none m7 m8 mg w) : R9 w0 m5 (some w.heap.size) m7 m8 mg (w.alloc (.map #[] 0)) := by
  have hb := (Below.refl _ w).alloc (Nat.le_refl _) (.map #[] 0)
  have k := h.next hb
  refine ⟨k.low, k.c5, fun b e => ?_, k.c7, k.c8, k.cg, fun x y e => ⟨fun e2 => ?_, (k.ne1 x y e).2⟩, fun x y e => ?_, k.ne3⟩
  · cases e; exact ⟨h.low.size, SlotM.made w⟩
  · cases e2; have := (h.c5 x e).2.lt; omega
  · cases e
    exact ⟨fun e2 => by have := (h.c7 y e2).2.lt; omega, fun e2 => by have := (h.c8 y e2).2.lt; omega⟩
theorem R9.add7 (h : R9 w0 m5 m6 none m8 mg w) : R9 w0 m5 m6 (some w.heap.size) m8 mg (w.alloc (.map #[] 0)) := by
  have hb := (Below.refl _ w).alloc (Nat.le_refl _) (.map #[] 0)
  have k := h.next hb
  refine ⟨k.low, k.c5, k.c6, fun b e => ?_, k.c8, k.cg, fun x y e => ⟨(k.ne1 x y e).1, fun e2 => ?_, (k.ne1 x y e).2.2⟩, fun x y e => ⟨fun e2 => ?_, (k.ne2 x y e).2⟩, fun x y e e2 => ?_⟩
  · cases e; exact ⟨h.low.size, SlotM.made w⟩
  · cases e2; have := (h.c5 x e).2.lt; omega
  · cases e2; have := (h.c6 x e).2.lt; omega
  · cases e; have := (h.c8 y e2).2.lt; omega
theorem R9.add8 (h : R9 w0 m5 m6 m7 none mg w) : R9 w0 m5 m6 m7 (some w.heap.size) mg (w.alloc (.map #[] 0)) := by
  have hb := (Below.refl _ w).alloc (Nat.le_refl _) (.map #[] 0)
  have k := h.next hb
  refine ⟨k.low, k.c5, k.c6, k.c7, fun b e => ?_, k.cg, fun x y e => ⟨(k.ne1 x y e).1, (k.ne1 x y e).2.1, fun e2 => ?_⟩, fun x y e => ⟨(k.ne2 x y e).1, fun e2 => ?_⟩, fun x y e e2 => ?_⟩
  · cases e; exact ⟨h.low.size, SlotM.made w⟩
  · cases e2; have := (h.c5 x e).2.lt; omega
  · cases e2; have := (h.c6 x e).2.lt; omega
  · cases e2; have := (h.c7 x e).2.lt; omega
theorem R9.addg (h : R9 w0 m5 m6 m7 m8 none w) : R9 w0 m5 m6 m7 m8 (some w.heap.size) (w.alloc (.cells #[.int .i64 0, .int .i64 0, .int .i64 0, .bool false, .slice none 0 0, .map none, .map none, .map none, .map none] 101)) := by
  have k := h.next ((Below.refl _ w).alloc (Nat.le_refl _) (.cells #[.int .i64 0, .int .i64 0, .int .i64 0, .bool false, .slice none 0 0, .map none, .map none, .map none, .map none] 101))
  refine ⟨k.low, k.c5, k.c6, k.c7, k.c8, fun b e => ?_, k.ne1, k.ne2, k.ne3⟩
  cases e; exact ⟨h.low.size, heap_alloc_new _ _⟩
end
section
variable {P : Program} {w w' : World} {ops : Array Oper} {o : Oper} {a : Act} {K : Act → World → Prop} {Q : Exit → Act → World → Prop} {G : Prop} {t : TypeId}
theorem step_makemap (hgd : o.guard = none) (hop : o.op = Op.makeMap t none) (h : K (a.put o.dst (.map (some w.heap.size))) (w.alloc (.map #[] 0))) : if Region.wanted o (yielded ops a.tmps) = true then Oper.wp P o a w K Q else G := by
  rw [if_pos (show Region.wanted o (yielded ops a.tmps) = true by simp [Region.wanted, hgd])]
  have hmm := @run_makeMap P
  unfold Oper.wp
  simp [execOp, hop, hmm, Result.andThen]
  exact h
end
section
variable {w0 : World} {S : World → Prop} {Q : Exit → Act → World → Prop} {N H : Nat} {fi : Int} {p0 p1 p2 p3 p4 p5 p6 p7 p8 p9 p10 p11 p12 p13 p14 p15 p17 p18 p19 p20 p21 p22 p23 p24 p25 p26 p27 p28 p29 p30 p31 p32 p33 p34 p35 p36 p37 p38 p39 p40 p41 p42 p43 p44 p45 p56 p57 p58 p59 p60 p61 p62 p63 p64 p65 p66 p67 p68 p69 p70 p71 p72 p73 : Value}
structure Hyp9 (w0 : World) (S : World → Prop) (Q : Exit → Act → World → Prop) (N H : Nat) (fi : Int) (p0 p1 p2 p3 p4 p5 p6 p7 p8 p9 p10 p11 p12 p13 p14 p15 p17 p18 p19 p20 p21 p22 p23 p24 p25 p26 p27 p28 p29 p30 p31 p32 p33 p34 p35 p36 p37 p38 p39 p40 p41 p42 p43 p44 p45 p56 p57 p58 p59 p60 p61 p62 p63 p64 p65 p66 p67 p68 p69 p70 p71 p72 p73 : Value) : Prop where
  hS : ∀ W, Below w0.heap.size w0 W → S W
  hN : N ≤ 50
  hH : H ≤ 1024
  hfi : ((H : Int) + 1) * (N : Int) = fi
  hwf : IntKind.i64.wrap (fi + 2) = fi + 2
  hQ : ∀ c a w o v, Q (.panic c) (Act.put a o v) w → Q (.panic c) a w
  hfin : ∀ (m5 m6 m7 m8 mg : Nat) (w : World), R9 w0 (some m5) (some m6) (some m7) (some m8) (some mg) w → wpAnyH Try.prog .any ops9 Q S 1 #[true, true, true, true, true, true, true, true, true, true, true, false] (act9 p0 p1 p2 p3 p4 p5 p6 p7 p8 p9 p10 p11 p12 p13 p14 p15 p17 p18 p19 p20 p21 p22 p23 p24 p25 p26 p27 p28 p29 p30 p31 p32 p33 p34 p35 p36 p37 p38 p39 p40 p41 p42 p43 p44 p45 (.agg #[.int .i64 (N : Int), .int .i64 (H : Int)]) (.agg #[.int .i64 (N : Int), .int .i64 (H : Int)]) p56 p57 p58 p59 p60 p61 p62 p63 p64 p65 p66 p67 p68 p69 p70 p71 p72 p73 (.int .i64 fi) (.int .i64 (fi + 2)) (.agg #[.int .i64 (fi + 2), .bool false, .slice none 0 0]) (.map (some m5)) (.map (some m6)) (.map (some m7)) (.map (some m8)) (.agg #[.int .i64 (N : Int), .int .i64 (H : Int), .int .i64 (fi + 2), .bool false, .slice none 0 0, .map (some m5), .map (some m6), .map (some m7), .map (some m8)]) (.pointer (some ⟨mg, 0, none⟩))) w
set_option maxHeartbeats 2000000 in
theorem r9_111111 (Y : Hyp9 w0 S Q N H fi p0 p1 p2 p3 p4 p5 p6 p7 p8 p9 p10 p11 p12 p13 p14 p15 p17 p18 p19 p20 p21 p22 p23 p24 p25 p26 p27 p28 p29 p30 p31 p32 p33 p34 p35 p36 p37 p38 p39 p40 p41 p42 p43 p44 p45 p56 p57 p58 p59 p60 p61 p62 p63 p64 p65 p66 p67 p68 p69 p70 p71 p72 p73) (m5 m6 m7 m8 mg : Nat) (w : World) (h : R9 w0 (some m5) (some m6) (some m7) (some m8) (some mg) w) : wpAnyH Try.prog .any ops9 Q S 1 #[true, true, true, true, true, true, true, true, true, true, true, false] (act9 p0 p1 p2 p3 p4 p5 p6 p7 p8 p9 p10 p11 p12 p13 p14 p15 p17 p18 p19 p20 p21 p22 p23 p24 p25 p26 p27 p28 p29 p30 p31 p32 p33 p34 p35 p36 p37 p38 p39 p40 p41 p42 p43 p44 p45 (.agg #[.int .i64 (N : Int), .int .i64 (H : Int)]) (.agg #[.int .i64 (N : Int), .int .i64 (H : Int)]) p56 p57 p58 p59 p60 p61 p62 p63 p64 p65 p66 p67 p68 p69 p70 p71 p72 p73 (.int .i64 fi) (.int .i64 (fi + 2)) (.agg #[.int .i64 (fi + 2), .bool false, .slice none 0 0]) (.map (some m5)) (.map (some m6)) (.map (some m7)) (.map (some m8)) (.agg #[.int .i64 (N : Int), .int .i64 (H : Int), .int .i64 (fi + 2), .bool false, .slice none 0 0, .map (some m5), .map (some m6), .map (some m7), .map (some m8)]) (.pointer (some ⟨mg, 0, none⟩))) w := by
  exact Y.hfin m5 m6 m7 m8 mg w h
set_option maxHeartbeats 2000000 in
theorem r9_011111 (Y : Hyp9 w0 S Q N H fi p0 p1 p2 p3 p4 p5 p6 p7 p8 p9 p10 p11 p12 p13 p14 p15 p17 p18 p19 p20 p21 p22 p23 p24 p25 p26 p27 p28 p29 p30 p31 p32 p33 p34 p35 p36 p37 p38 p39 p40 p41 p42 p43 p44 p45 p56 p57 p58 p59 p60 p61 p62 p63 p64 p65 p66 p67 p68 p69 p70 p71 p72 p73) (m5 m6 m7 m8 mg : Nat) (w : World) (h : R9 w0 (some m5) (some m6) (some m7) (some m8) (some mg) w) : wpAnyH Try.prog .any ops9 Q S 5 #[true, true, false, false, false, true, true, true, true, false, true, false] (act9 p0 p1 p2 p3 p4 p5 p6 p7 p8 p9 p10 p11 p12 p13 p14 p15 p17 p18 p19 p20 p21 p22 p23 p24 p25 p26 p27 p28 p29 p30 p31 p32 p33 p34 p35 p36 p37 p38 p39 p40 p41 p42 p43 p44 p45 (.agg #[.int .i64 (N : Int), .int .i64 (H : Int)]) (.agg #[.int .i64 (N : Int), .int .i64 (H : Int)]) p56 p57 p58 p59 p60 p61 p62 p63 p64 p65 p66 p67 p68 p69 p70 p71 p72 p73 (undef) (undef) (undef) (.map (some m5)) (.map (some m6)) (.map (some m7)) (.map (some m8)) undef (.pointer (some ⟨mg, 0, none⟩))) w := by
  refine wpAnyH_ready (rs := [2]) (by kernel_rfl) (by simp) (AllReadyH.cons (o := ops9[2]) rfl (fun KK hK => ?_) AllReadyH.nil)
  · unfold act9 ops9
    go_simp
    refine (ugsize_any N H _ Y.hN Y.hH).mono ?_
    rw [Y.hfi]
    rintro e w2 ⟨rfl, hb⟩
    have h2 := h.next hb
    go_wp2_with fail
    refine hK.out _ _ (Y.hS _ h2.low) (fun hHeld => ?_)
    clear hK
    refine wpAnyH_take (i := 3) (oi := ops9[3]) (v := .int .i64 (fi + 2)) rfl (by kernel_rfl) (by kernel_rfl) (by kernel_rfl) (fun c a w h => Y.hQ c a w _ _ h) (Or.inl ⟨by rfl, ?_⟩) (by assumption) ?_
    · (intro w hSw; have hwf := Y.hwf; unfold ops9; go_simp)
    refine wpAnyH_take (i := 4) (oi := ops9[4]) (v := .agg #[.int .i64 (fi + 2), .bool false, .slice none 0 0]) rfl (by kernel_rfl) (by kernel_rfl) (by kernel_rfl) (fun c a w h => Y.hQ c a w _ _ h) (Or.inl ⟨by rfl, ?_⟩) (by assumption) ?_
    · (intro w hSw; have hwf := Y.hwf; unfold ops9; go_simp)
    refine wpAnyH_take (i := 9) (oi := ops9[9]) (v := .agg #[.int .i64 (N : Int), .int .i64 (H : Int), .int .i64 (fi + 2), .bool false, .slice none 0 0, .map (some m5), .map (some m6), .map (some m7), .map (some m8)]) rfl (by kernel_rfl) (by kernel_rfl) (by kernel_rfl) (fun c a w h => Y.hQ c a w _ _ h) (Or.inl ⟨by rfl, ?_⟩) (by assumption) ?_
    · (intro w hSw; unfold ops9 ; go_simp)
    exact r9_111111 Y m5 m6 m7 m8 mg w2 h2
set_option maxHeartbeats 2000000 in
theorem r9_101111 (Y : Hyp9 w0 S Q N H fi p0 p1 p2 p3 p4 p5 p6 p7 p8 p9 p10 p11 p12 p13 p14 p15 p17 p18 p19 p20 p21 p22 p23 p24 p25 p26 p27 p28 p29 p30 p31 p32 p33 p34 p35 p36 p37 p38 p39 p40 p41 p42 p43 p44 p45 p56 p57 p58 p59 p60 p61 p62 p63 p64 p65 p66 p67 p68 p69 p70 p71 p72 p73) (m6 m7 m8 mg : Nat) (w : World) (h : R9 w0 none (some m6) (some m7) (some m8) (some mg) w) : wpAnyH Try.prog .any ops9 Q S 3 #[true, true, true, true, true, false, true, true, true, false, true, false] (act9 p0 p1 p2 p3 p4 p5 p6 p7 p8 p9 p10 p11 p12 p13 p14 p15 p17 p18 p19 p20 p21 p22 p23 p24 p25 p26 p27 p28 p29 p30 p31 p32 p33 p34 p35 p36 p37 p38 p39 p40 p41 p42 p43 p44 p45 (.agg #[.int .i64 (N : Int), .int .i64 (H : Int)]) (.agg #[.int .i64 (N : Int), .int .i64 (H : Int)]) p56 p57 p58 p59 p60 p61 p62 p63 p64 p65 p66 p67 p68 p69 p70 p71 p72 p73 (.int .i64 fi) (.int .i64 (fi + 2)) (.agg #[.int .i64 (fi + 2), .bool false, .slice none 0 0]) undef (.map (some m6)) (.map (some m7)) (.map (some m8)) undef (.pointer (some ⟨mg, 0, none⟩))) w := by
  refine wpAnyH_ready (rs := [5]) (by kernel_rfl) (by simp) (AllReadyH.cons (o := ops9[5]) rfl (fun KK hK => ?_) AllReadyH.nil)
  · refine step_makemap rfl rfl ?_
    refine hK.out _ _ (Y.hS _ h.add5.low) (fun hHeld => ?_)
    clear hK
    refine wpAnyH_take (i := 9) (oi := ops9[9]) (v := .agg #[.int .i64 (N : Int), .int .i64 (H : Int), .int .i64 (fi + 2), .bool false, .slice none 0 0, .map (some w.heap.size), .map (some m6), .map (some m7), .map (some m8)]) rfl (by kernel_rfl) (by kernel_rfl) (by kernel_rfl) (fun c a w h => Y.hQ c a w _ _ h) (Or.inl ⟨by rfl, ?_⟩) (by assumption) ?_
    · (intro w hSw; unfold ops9 act9; go_simp)
    exact r9_111111 Y w.heap.size m6 m7 m8 mg (w.alloc (.map #[] 0)) h.add5
set_option maxHeartbeats 2000000 in
theorem r9_110111 (Y : Hyp9 w0 S Q N H fi p0 p1 p2 p3 p4 p5 p6 p7 p8 p9 p10 p11 p12 p13 p14 p15 p17 p18 p19 p20 p21 p22 p23 p24 p25 p26 p27 p28 p29 p30 p31 p32 p33 p34 p35 p36 p37 p38 p39 p40 p41 p42 p43 p44 p45 p56 p57 p58 p59 p60 p61 p62 p63 p64 p65 p66 p67 p68 p69 p70 p71 p72 p73) (m5 m7 m8 mg : Nat) (w : World) (h : R9 w0 (some m5) none (some m7) (some m8) (some mg) w) : wpAnyH Try.prog .any ops9 Q S 3 #[true, true, true, true, true, true, false, true, true, false, true, false] (act9 p0 p1 p2 p3 p4 p5 p6 p7 p8 p9 p10 p11 p12 p13 p14 p15 p17 p18 p19 p20 p21 p22 p23 p24 p25 p26 p27 p28 p29 p30 p31 p32 p33 p34 p35 p36 p37 p38 p39 p40 p41 p42 p43 p44 p45 (.agg #[.int .i64 (N : Int), .int .i64 (H : Int)]) (.agg #[.int .i64 (N : Int), .int .i64 (H : Int)]) p56 p57 p58 p59 p60 p61 p62 p63 p64 p65 p66 p67 p68 p69 p70 p71 p72 p73 (.int .i64 fi) (.int .i64 (fi + 2)) (.agg #[.int .i64 (fi + 2), .bool false, .slice none 0 0]) (.map (some m5)) undef (.map (some m7)) (.map (some m8)) undef (.pointer (some ⟨mg, 0, none⟩))) w := by
  refine wpAnyH_ready (rs := [6]) (by kernel_rfl) (by simp) (AllReadyH.cons (o := ops9[6]) rfl (fun KK hK => ?_) AllReadyH.nil)
  · refine step_makemap rfl rfl ?_
    refine hK.out _ _ (Y.hS _ h.add6.low) (fun hHeld => ?_)
    clear hK
    refine wpAnyH_take (i := 9) (oi := ops9[9]) (v := .agg #[.int .i64 (N : Int), .int .i64 (H : Int), .int .i64 (fi + 2), .bool false, .slice none 0 0, .map (some m5), .map (some w.heap.size), .map (some m7), .map (some m8)]) rfl (by kernel_rfl) (by kernel_rfl) (by kernel_rfl) (fun c a w h => Y.hQ c a w _ _ h) (Or.inl ⟨by rfl, ?_⟩) (by assumption) ?_
    · (intro w hSw; unfold ops9 act9; go_simp)
    exact r9_111111 Y m5 w.heap.size m7 m8 mg (w.alloc (.map #[] 0)) h.add6
set_option maxHeartbeats 2000000 in
theorem r9_111011 (Y : Hyp9 w0 S Q N H fi p0 p1 p2 p3 p4 p5 p6 p7 p8 p9 p10 p11 p12 p13 p14 p15 p17 p18 p19 p20 p21 p22 p23 p24 p25 p26 p27 p28 p29 p30 p31 p32 p33 p34 p35 p36 p37 p38 p39 p40 p41 p42 p43 p44 p45 p56 p57 p58 p59 p60 p61 p62 p63 p64 p65 p66 p67 p68 p69 p70 p71 p72 p73) (m5 m6 m8 mg : Nat) (w : World) (h : R9 w0 (some m5) (some m6) none (some m8) (some mg) w) : wpAnyH Try.prog .any ops9 Q S 3 #[true, true, true, true, true, true, true, false, true, false, true, false] (act9 p0 p1 p2 p3 p4 p5 p6 p7 p8 p9 p10 p11 p12 p13 p14 p15 p17 p18 p19 p20 p21 p22 p23 p24 p25 p26 p27 p28 p29 p30 p31 p32 p33 p34 p35 p36 p37 p38 p39 p40 p41 p42 p43 p44 p45 (.agg #[.int .i64 (N : Int), .int .i64 (H : Int)]) (.agg #[.int .i64 (N : Int), .int .i64 (H : Int)]) p56 p57 p58 p59 p60 p61 p62 p63 p64 p65 p66 p67 p68 p69 p70 p71 p72 p73 (.int .i64 fi) (.int .i64 (fi + 2)) (.agg #[.int .i64 (fi + 2), .bool false, .slice none 0 0]) (.map (some m5)) (.map (some m6)) undef (.map (some m8)) undef (.pointer (some ⟨mg, 0, none⟩))) w := by
  refine wpAnyH_ready (rs := [7]) (by kernel_rfl) (by simp) (AllReadyH.cons (o := ops9[7]) rfl (fun KK hK => ?_) AllReadyH.nil)
  · refine step_makemap rfl rfl ?_
    refine hK.out _ _ (Y.hS _ h.add7.low) (fun hHeld => ?_)
    clear hK
    refine wpAnyH_take (i := 9) (oi := ops9[9]) (v := .agg #[.int .i64 (N : Int), .int .i64 (H : Int), .int .i64 (fi + 2), .bool false, .slice none 0 0, .map (some m5), .map (some m6), .map (some w.heap.size), .map (some m8)]) rfl (by kernel_rfl) (by kernel_rfl) (by kernel_rfl) (fun c a w h => Y.hQ c a w _ _ h) (Or.inl ⟨by rfl, ?_⟩) (by assumption) ?_
    · (intro w hSw; unfold ops9 act9; go_simp)
    exact r9_111111 Y m5 m6 w.heap.size m8 mg (w.alloc (.map #[] 0)) h.add7
set_option maxHeartbeats 2000000 in
theorem r9_111101 (Y : Hyp9 w0 S Q N H fi p0 p1 p2 p3 p4 p5 p6 p7 p8 p9 p10 p11 p12 p13 p14 p15 p17 p18 p19 p20 p21 p22 p23 p24 p25 p26 p27 p28 p29 p30 p31 p32 p33 p34 p35 p36 p37 p38 p39 p40 p41 p42 p43 p44 p45 p56 p57 p58 p59 p60 p61 p62 p63 p64 p65 p66 p67 p68 p69 p70 p71 p72 p73) (m5 m6 m7 mg : Nat) (w : World) (h : R9 w0 (some m5) (some m6) (some m7) none (some mg) w) : wpAnyH Try.prog .any ops9 Q S 3 #[true, true, true, true, true, true, true, true, false, false, true, false] (act9 p0 p1 p2 p3 p4 p5 p6 p7 p8 p9 p10 p11 p12 p13 p14 p15 p17 p18 p19 p20 p21 p22 p23 p24 p25 p26 p27 p28 p29 p30 p31 p32 p33 p34 p35 p36 p37 p38 p39 p40 p41 p42 p43 p44 p45 (.agg #[.int .i64 (N : Int), .int .i64 (H : Int)]) (.agg #[.int .i64 (N : Int), .int .i64 (H : Int)]) p56 p57 p58 p59 p60 p61 p62 p63 p64 p65 p66 p67 p68 p69 p70 p71 p72 p73 (.int .i64 fi) (.int .i64 (fi + 2)) (.agg #[.int .i64 (fi + 2), .bool false, .slice none 0 0]) (.map (some m5)) (.map (some m6)) (.map (some m7)) undef undef (.pointer (some ⟨mg, 0, none⟩))) w := by
  refine wpAnyH_ready (rs := [8]) (by kernel_rfl) (by simp) (AllReadyH.cons (o := ops9[8]) rfl (fun KK hK => ?_) AllReadyH.nil)
  · refine step_makemap rfl rfl ?_
    refine hK.out _ _ (Y.hS _ h.add8.low) (fun hHeld => ?_)
    clear hK
    refine wpAnyH_take (i := 9) (oi := ops9[9]) (v := .agg #[.int .i64 (N : Int), .int .i64 (H : Int), .int .i64 (fi + 2), .bool false, .slice none 0 0, .map (some m5), .map (some m6), .map (some m7), .map (some w.heap.size)]) rfl (by kernel_rfl) (by kernel_rfl) (by kernel_rfl) (fun c a w h => Y.hQ c a w _ _ h) (Or.inl ⟨by rfl, ?_⟩) (by assumption) ?_
    · (intro w hSw; unfold ops9 act9; go_simp)
    exact r9_111111 Y m5 m6 m7 w.heap.size mg (w.alloc (.map #[] 0)) h.add8
set_option maxHeartbeats 2000000 in
theorem r9_111110 (Y : Hyp9 w0 S Q N H fi p0 p1 p2 p3 p4 p5 p6 p7 p8 p9 p10 p11 p12 p13 p14 p15 p17 p18 p19 p20 p21 p22 p23 p24 p25 p26 p27 p28 p29 p30 p31 p32 p33 p34 p35 p36 p37 p38 p39 p40 p41 p42 p43 p44 p45 p56 p57 p58 p59 p60 p61 p62 p63 p64 p65 p66 p67 p68 p69 p70 p71 p72 p73) (m5 m6 m7 m8 : Nat) (w : World) (h : R9 w0 (some m5) (some m6) (some m7) (some m8) none w) : wpAnyH Try.prog .any ops9 Q S 2 #[true, true, true, true, true, true, true, true, true, true, false, false] (act9 p0 p1 p2 p3 p4 p5 p6 p7 p8 p9 p10 p11 p12 p13 p14 p15 p17 p18 p19 p20 p21 p22 p23 p24 p25 p26 p27 p28 p29 p30 p31 p32 p33 p34 p35 p36 p37 p38 p39 p40 p41 p42 p43 p44 p45 (.agg #[.int .i64 (N : Int), .int .i64 (H : Int)]) (.agg #[.int .i64 (N : Int), .int .i64 (H : Int)]) p56 p57 p58 p59 p60 p61 p62 p63 p64 p65 p66 p67 p68 p69 p70 p71 p72 p73 (.int .i64 fi) (.int .i64 (fi + 2)) (.agg #[.int .i64 (fi + 2), .bool false, .slice none 0 0]) (.map (some m5)) (.map (some m6)) (.map (some m7)) (.map (some m8)) (.agg #[.int .i64 (N : Int), .int .i64 (H : Int), .int .i64 (fi + 2), .bool false, .slice none 0 0, .map (some m5), .map (some m6), .map (some m7), .map (some m8)]) undef) w := by
  refine wpAnyH_ready (rs := [10]) (by kernel_rfl) (by simp) (AllReadyH.cons (o := ops9[10]) rfl (fun KK hK => ?_) AllReadyH.nil)
  · unfold ops9
    go_simp
    refine hK.out _ _ (Y.hS _ h.addg.low) (fun hHeld => ?_)
    clear hK
    exact r9_111111 Y m5 m6 m7 m8 w.heap.size (w.alloc (.cells #[.int .i64 0, .int .i64 0, .int .i64 0, .bool false, .slice none 0 0, .map none, .map none, .map none, .map none] 101)) h.addg
set_option maxHeartbeats 2000000 in
theorem r9_001111 (Y : Hyp9 w0 S Q N H fi p0 p1 p2 p3 p4 p5 p6 p7 p8 p9 p10 p11 p12 p13 p14 p15 p17 p18 p19 p20 p21 p22 p23 p24 p25 p26 p27 p28 p29 p30 p31 p32 p33 p34 p35 p36 p37 p38 p39 p40 p41 p42 p43 p44 p45 p56 p57 p58 p59 p60 p61 p62 p63 p64 p65 p66 p67 p68 p69 p70 p71 p72 p73) (m6 m7 m8 mg : Nat) (w : World) (h : R9 w0 none (some m6) (some m7) (some m8) (some mg) w) : wpAnyH Try.prog .any ops9 Q S 6 #[true, true, false, false, false, false, true, true, true, false, true, false] (act9 p0 p1 p2 p3 p4 p5 p6 p7 p8 p9 p10 p11 p12 p13 p14 p15 p17 p18 p19 p20 p21 p22 p23 p24 p25 p26 p27 p28 p29 p30 p31 p32 p33 p34 p35 p36 p37 p38 p39 p40 p41 p42 p43 p44 p45 (.agg #[.int .i64 (N : Int), .int .i64 (H : Int)]) (.agg #[.int .i64 (N : Int), .int .i64 (H : Int)]) p56 p57 p58 p59 p60 p61 p62 p63 p64 p65 p66 p67 p68 p69 p70 p71 p72 p73 (undef) (undef) (undef) undef (.map (some m6)) (.map (some m7)) (.map (some m8)) undef (.pointer (some ⟨mg, 0, none⟩))) w := by
  refine wpAnyH_ready (rs := [2, 5]) (by kernel_rfl) (by simp) (AllReadyH.cons (o := ops9[2]) rfl (fun KK hK => ?_) (AllReadyH.cons (o := ops9[5]) rfl (fun KK hK => ?_) AllReadyH.nil))
  · unfold act9 ops9
    go_simp
    refine (ugsize_any N H _ Y.hN Y.hH).mono ?_
    rw [Y.hfi]
    rintro e w2 ⟨rfl, hb⟩
    have h2 := h.next hb
    go_wp2_with fail
    refine hK.out _ _ (Y.hS _ h2.low) (fun hHeld => ?_)
    clear hK
    refine wpAnyH_take (i := 3) (oi := ops9[3]) (v := .int .i64 (fi + 2)) rfl (by kernel_rfl) (by kernel_rfl) (by kernel_rfl) (fun c a w h => Y.hQ c a w _ _ h) (Or.inl ⟨by rfl, ?_⟩) (by assumption) ?_
    · (intro w hSw; have hwf := Y.hwf; unfold ops9; go_simp)
    refine wpAnyH_take (i := 4) (oi := ops9[4]) (v := .agg #[.int .i64 (fi + 2), .bool false, .slice none 0 0]) rfl (by kernel_rfl) (by kernel_rfl) (by kernel_rfl) (fun c a w h => Y.hQ c a w _ _ h) (Or.inl ⟨by rfl, ?_⟩) (by assumption) ?_
    · (intro w hSw; have hwf := Y.hwf; unfold ops9; go_simp)
    exact r9_101111 Y m6 m7 m8 mg w2 h2
  · refine step_makemap rfl rfl ?_
    refine hK.out _ _ (Y.hS _ h.add5.low) (fun hHeld => ?_)
    clear hK
    exact r9_011111 Y w.heap.size m6 m7 m8 mg (w.alloc (.map #[] 0)) h.add5
set_option maxHeartbeats 2000000 in
theorem r9_010111 (Y : Hyp9 w0 S Q N H fi p0 p1 p2 p3 p4 p5 p6 p7 p8 p9 p10 p11 p12 p13 p14 p15 p17 p18 p19 p20 p21 p22 p23 p24 p25 p26 p27 p28 p29 p30 p31 p32 p33 p34 p35 p36 p37 p38 p39 p40 p41 p42 p43 p44 p45 p56 p57 p58 p59 p60 p61 p62 p63 p64 p65 p66 p67 p68 p69 p70 p71 p72 p73) (m5 m7 m8 mg : Nat) (w : World) (h : R9 w0 (some m5) none (some m7) (some m8) (some mg) w) : wpAnyH Try.prog .any ops9 Q S 6 #[true, true, false, false, false, true, false, true, true, false, true, false] (act9 p0 p1 p2 p3 p4 p5 p6 p7 p8 p9 p10 p11 p12 p13 p14 p15 p17 p18 p19 p20 p21 p22 p23 p24 p25 p26 p27 p28 p29 p30 p31 p32 p33 p34 p35 p36 p37 p38 p39 p40 p41 p42 p43 p44 p45 (.agg #[.int .i64 (N : Int), .int .i64 (H : Int)]) (.agg #[.int .i64 (N : Int), .int .i64 (H : Int)]) p56 p57 p58 p59 p60 p61 p62 p63 p64 p65 p66 p67 p68 p69 p70 p71 p72 p73 (undef) (undef) (undef) (.map (some m5)) undef (.map (some m7)) (.map (some m8)) undef (.pointer (some ⟨mg, 0, none⟩))) w := by
  refine wpAnyH_ready (rs := [2, 6]) (by kernel_rfl) (by simp) (AllReadyH.cons (o := ops9[2]) rfl (fun KK hK => ?_) (AllReadyH.cons (o := ops9[6]) rfl (fun KK hK => ?_) AllReadyH.nil))
  · unfold act9 ops9
    go_simp
    refine (ugsize_any N H _ Y.hN Y.hH).mono ?_
    rw [Y.hfi]
    rintro e w2 ⟨rfl, hb⟩
    have h2 := h.next hb
    go_wp2_with fail
    refine hK.out _ _ (Y.hS _ h2.low) (fun hHeld => ?_)
    clear hK
    refine wpAnyH_take (i := 3) (oi := ops9[3]) (v := .int .i64 (fi + 2)) rfl (by kernel_rfl) (by kernel_rfl) (by kernel_rfl) (fun c a w h => Y.hQ c a w _ _ h) (Or.inl ⟨by rfl, ?_⟩) (by assumption) ?_
    · (intro w hSw; have hwf := Y.hwf; unfold ops9; go_simp)
    refine wpAnyH_take (i := 4) (oi := ops9[4]) (v := .agg #[.int .i64 (fi + 2), .bool false, .slice none 0 0]) rfl (by kernel_rfl) (by kernel_rfl) (by kernel_rfl) (fun c a w h => Y.hQ c a w _ _ h) (Or.inl ⟨by rfl, ?_⟩) (by assumption) ?_
    · (intro w hSw; have hwf := Y.hwf; unfold ops9; go_simp)
    exact r9_110111 Y m5 m7 m8 mg w2 h2
  · refine step_makemap rfl rfl ?_
    refine hK.out _ _ (Y.hS _ h.add6.low) (fun hHeld => ?_)
    clear hK
    exact r9_011111 Y m5 w.heap.size m7 m8 mg (w.alloc (.map #[] 0)) h.add6
set_option maxHeartbeats 2000000 in
theorem r9_011011 (Y : Hyp9 w0 S Q N H fi p0 p1 p2 p3 p4 p5 p6 p7 p8 p9 p10 p11 p12 p13 p14 p15 p17 p18 p19 p20 p21 p22 p23 p24 p25 p26 p27 p28 p29 p30 p31 p32 p33 p34 p35 p36 p37 p38 p39 p40 p41 p42 p43 p44 p45 p56 p57 p58 p59 p60 p61 p62 p63 p64 p65 p66 p67 p68 p69 p70 p71 p72 p73) (m5 m6 m8 mg : Nat) (w : World) (h : R9 w0 (some m5) (some m6) none (some m8) (some mg) w) : wpAnyH Try.prog .any ops9 Q S 6 #[true, true, false, false, false, true, true, false, true, false, true, false] (act9 p0 p1 p2 p3 p4 p5 p6 p7 p8 p9 p10 p11 p12 p13 p14 p15 p17 p18 p19 p20 p21 p22 p23 p24 p25 p26 p27 p28 p29 p30 p31 p32 p33 p34 p35 p36 p37 p38 p39 p40 p41 p42 p43 p44 p45 (.agg #[.int .i64 (N : Int), .int .i64 (H : Int)]) (.agg #[.int .i64 (N : Int), .int .i64 (H : Int)]) p56 p57 p58 p59 p60 p61 p62 p63 p64 p65 p66 p67 p68 p69 p70 p71 p72 p73 (undef) (undef) (undef) (.map (some m5)) (.map (some m6)) undef (.map (some m8)) undef (.pointer (some ⟨mg, 0, none⟩))) w := by
  refine wpAnyH_ready (rs := [2, 7]) (by kernel_rfl) (by simp) (AllReadyH.cons (o := ops9[2]) rfl (fun KK hK => ?_) (AllReadyH.cons (o := ops9[7]) rfl (fun KK hK => ?_) AllReadyH.nil))
  · unfold act9 ops9
    go_simp
    refine (ugsize_any N H _ Y.hN Y.hH).mono ?_
    rw [Y.hfi]
    rintro e w2 ⟨rfl, hb⟩
    have h2 := h.next hb
    go_wp2_with fail
    refine hK.out _ _ (Y.hS _ h2.low) (fun hHeld => ?_)
    clear hK
    refine wpAnyH_take (i := 3) (oi := ops9[3]) (v := .int .i64 (fi + 2)) rfl (by kernel_rfl) (by kernel_rfl) (by kernel_rfl) (fun c a w h => Y.hQ c a w _ _ h) (Or.inl ⟨by rfl, ?_⟩) (by assumption) ?_
    · (intro w hSw; have hwf := Y.hwf; unfold ops9; go_simp)
    refine wpAnyH_take (i := 4) (oi := ops9[4]) (v := .agg #[.int .i64 (fi + 2), .bool false, .slice none 0 0]) rfl (by kernel_rfl) (by kernel_rfl) (by kernel_rfl) (fun c a w h => Y.hQ c a w _ _ h) (Or.inl ⟨by rfl, ?_⟩) (by assumption) ?_
    · (intro w hSw; have hwf := Y.hwf; unfold ops9; go_simp)
    exact r9_111011 Y m5 m6 m8 mg w2 h2
  · refine step_makemap rfl rfl ?_
    refine hK.out _ _ (Y.hS _ h.add7.low) (fun hHeld => ?_)
    clear hK
    exact r9_011111 Y m5 m6 w.heap.size m8 mg (w.alloc (.map #[] 0)) h.add7
set_option maxHeartbeats 2000000 in
theorem r9_011101 (Y : Hyp9 w0 S Q N H fi p0 p1 p2 p3 p4 p5 p6 p7 p8 p9 p10 p11 p12 p13 p14 p15 p17 p18 p19 p20 p21 p22 p23 p24 p25 p26 p27 p28 p29 p30 p31 p32 p33 p34 p35 p36 p37 p38 p39 p40 p41 p42 p43 p44 p45 p56 p57 p58 p59 p60 p61 p62 p63 p64 p65 p66 p67 p68 p69 p70 p71 p72 p73) (m5 m6 m7 mg : Nat) (w : World) (h : R9 w0 (some m5) (some m6) (some m7) none (some mg) w) : wpAnyH Try.prog .any ops9 Q S 6 #[true, true, false, false, false, true, true, true, false, false, true, false] (act9 p0 p1 p2 p3 p4 p5 p6 p7 p8 p9 p10 p11 p12 p13 p14 p15 p17 p18 p19 p20 p21 p22 p23 p24 p25 p26 p27 p28 p29 p30 p31 p32 p33 p34 p35 p36 p37 p38 p39 p40 p41 p42 p43 p44 p45 (.agg #[.int .i64 (N : Int), .int .i64 (H : Int)]) (.agg #[.int .i64 (N : Int), .int .i64 (H : Int)]) p56 p57 p58 p59 p60 p61 p62 p63 p64 p65 p66 p67 p68 p69 p70 p71 p72 p73 (undef) (undef) (undef) (.map (some m5)) (.map (some m6)) (.map (some m7)) undef undef (.pointer (some ⟨mg, 0, none⟩))) w := by
  refine wpAnyH_ready (rs := [2, 8]) (by kernel_rfl) (by simp) (AllReadyH.cons (o := ops9[2]) rfl (fun KK hK => ?_) (AllReadyH.cons (o := ops9[8]) rfl (fun KK hK => ?_) AllReadyH.nil))
  · unfold act9 ops9
    go_simp
    refine (ugsize_any N H _ Y.hN Y.hH).mono ?_
    rw [Y.hfi]
    rintro e w2 ⟨rfl, hb⟩
    have h2 := h.next hb
    go_wp2_with fail
    refine hK.out _ _ (Y.hS _ h2.low) (fun hHeld => ?_)
    clear hK
    refine wpAnyH_take (i := 3) (oi := ops9[3]) (v := .int .i64 (fi + 2)) rfl (by kernel_rfl) (by kernel_rfl) (by kernel_rfl) (fun c a w h => Y.hQ c a w _ _ h) (Or.inl ⟨by rfl, ?_⟩) (by assumption) ?_
    · (intro w hSw; have hwf := Y.hwf; unfold ops9; go_simp)
    refine wpAnyH_take (i := 4) (oi := ops9[4]) (v := .agg #[.int .i64 (fi + 2), .bool false, .slice none 0 0]) rfl (by kernel_rfl) (by kernel_rfl) (by kernel_rfl) (fun c a w h => Y.hQ c a w _ _ h) (Or.inl ⟨by rfl, ?_⟩) (by assumption) ?_
    · (intro w hSw; have hwf := Y.hwf; unfold ops9; go_simp)
    exact r9_111101 Y m5 m6 m7 mg w2 h2
  · refine step_makemap rfl rfl ?_
    refine hK.out _ _ (Y.hS _ h.add8.low) (fun hHeld => ?_)
    clear hK
    exact r9_011111 Y m5 m6 m7 w.heap.size mg (w.alloc (.map #[] 0)) h.add8
set_option maxHeartbeats 2000000 in
theorem r9_011110 (Y : Hyp9 w0 S Q N H fi p0 p1 p2 p3 p4 p5 p6 p7 p8 p9 p10 p11 p12 p13 p14 p15 p17 p18 p19 p20 p21 p22 p23 p24 p25 p26 p27 p28 p29 p30 p31 p32 p33 p34 p35 p36 p37 p38 p39 p40 p41 p42 p43 p44 p45 p56 p57 p58 p59 p60 p61 p62 p63 p64 p65 p66 p67 p68 p69 p70 p71 p72 p73) (m5 m6 m7 m8 : Nat) (w : World) (h : R9 w0 (some m5) (some m6) (some m7) (some m8) none w) : wpAnyH Try.prog .any ops9 Q S 6 #[true, true, false, false, false, true, true, true, true, false, false, false] (act9 p0 p1 p2 p3 p4 p5 p6 p7 p8 p9 p10 p11 p12 p13 p14 p15 p17 p18 p19 p20 p21 p22 p23 p24 p25 p26 p27 p28 p29 p30 p31 p32 p33 p34 p35 p36 p37 p38 p39 p40 p41 p42 p43 p44 p45 (.agg #[.int .i64 (N : Int), .int .i64 (H : Int)]) (.agg #[.int .i64 (N : Int), .int .i64 (H : Int)]) p56 p57 p58 p59 p60 p61 p62 p63 p64 p65 p66 p67 p68 p69 p70 p71 p72 p73 (undef) (undef) (undef) (.map (some m5)) (.map (some m6)) (.map (some m7)) (.map (some m8)) undef undef) w := by
  refine wpAnyH_ready (rs := [2, 10]) (by kernel_rfl) (by simp) (AllReadyH.cons (o := ops9[2]) rfl (fun KK hK => ?_) (AllReadyH.cons (o := ops9[10]) rfl (fun KK hK => ?_) AllReadyH.nil))
  · unfold act9 ops9
    go_simp
    refine (ugsize_any N H _ Y.hN Y.hH).mono ?_
    rw [Y.hfi]
    rintro e w2 ⟨rfl, hb⟩
    have h2 := h.next hb
    go_wp2_with fail
    refine hK.out _ _ (Y.hS _ h2.low) (fun hHeld => ?_)
    clear hK
    refine wpAnyH_take (i := 3) (oi := ops9[3]) (v := .int .i64 (fi + 2)) rfl (by kernel_rfl) (by kernel_rfl) (by kernel_rfl) (fun c a w h => Y.hQ c a w _ _ h) (Or.inl ⟨by rfl, ?_⟩) (by assumption) ?_
    · (intro w hSw; have hwf := Y.hwf; unfold ops9; go_simp)
    refine wpAnyH_take (i := 4) (oi := ops9[4]) (v := .agg #[.int .i64 (fi + 2), .bool false, .slice none 0 0]) rfl (by kernel_rfl) (by kernel_rfl) (by kernel_rfl) (fun c a w h => Y.hQ c a w _ _ h) (Or.inl ⟨by rfl, ?_⟩) (by assumption) ?_
    · (intro w hSw; have hwf := Y.hwf; unfold ops9; go_simp)
    refine wpAnyH_take (i := 9) (oi := ops9[9]) (v := .agg #[.int .i64 (N : Int), .int .i64 (H : Int), .int .i64 (fi + 2), .bool false, .slice none 0 0, .map (some m5), .map (some m6), .map (some m7), .map (some m8)]) rfl (by kernel_rfl) (by kernel_rfl) (by kernel_rfl) (fun c a w h => Y.hQ c a w _ _ h) (Or.inl ⟨by rfl, ?_⟩) (by assumption) ?_
    · (intro w hSw; unfold ops9 ; go_simp)
    exact r9_111110 Y m5 m6 m7 m8 w2 h2
  · unfold ops9
    go_simp
    refine hK.out _ _ (Y.hS _ h.addg.low) (fun hHeld => ?_)
    clear hK
    exact r9_011111 Y m5 m6 m7 m8 w.heap.size (w.alloc (.cells #[.int .i64 0, .int .i64 0, .int .i64 0, .bool false, .slice none 0 0, .map none, .map none, .map none, .map none] 101)) h.addg
set_option maxHeartbeats 2000000 in
theorem r9_100111 (Y : Hyp9 w0 S Q N H fi p0 p1 p2 p3 p4 p5 p6 p7 p8 p9 p10 p11 p12 p13 p14 p15 p17 p18 p19 p20 p21 p22 p23 p24 p25 p26 p27 p28 p29 p30 p31 p32 p33 p34 p35 p36 p37 p38 p39 p40 p41 p42 p43 p44 p45 p56 p57 p58 p59 p60 p61 p62 p63 p64 p65 p66 p67 p68 p69 p70 p71 p72 p73) (m7 m8 mg : Nat) (w : World) (h : R9 w0 none none (some m7) (some m8) (some mg) w) : wpAnyH Try.prog .any ops9 Q S 4 #[true, true, true, true, true, false, false, true, true, false, true, false] (act9 p0 p1 p2 p3 p4 p5 p6 p7 p8 p9 p10 p11 p12 p13 p14 p15 p17 p18 p19 p20 p21 p22 p23 p24 p25 p26 p27 p28 p29 p30 p31 p32 p33 p34 p35 p36 p37 p38 p39 p40 p41 p42 p43 p44 p45 (.agg #[.int .i64 (N : Int), .int .i64 (H : Int)]) (.agg #[.int .i64 (N : Int), .int .i64 (H : Int)]) p56 p57 p58 p59 p60 p61 p62 p63 p64 p65 p66 p67 p68 p69 p70 p71 p72 p73 (.int .i64 fi) (.int .i64 (fi + 2)) (.agg #[.int .i64 (fi + 2), .bool false, .slice none 0 0]) undef undef (.map (some m7)) (.map (some m8)) undef (.pointer (some ⟨mg, 0, none⟩))) w := by
  refine wpAnyH_ready (rs := [5, 6]) (by kernel_rfl) (by simp) (AllReadyH.cons (o := ops9[5]) rfl (fun KK hK => ?_) (AllReadyH.cons (o := ops9[6]) rfl (fun KK hK => ?_) AllReadyH.nil))
  · refine step_makemap rfl rfl ?_
    refine hK.out _ _ (Y.hS _ h.add5.low) (fun hHeld => ?_)
    clear hK
    exact r9_110111 Y w.heap.size m7 m8 mg (w.alloc (.map #[] 0)) h.add5
  · refine step_makemap rfl rfl ?_
    refine hK.out _ _ (Y.hS _ h.add6.low) (fun hHeld => ?_)
    clear hK
    exact r9_101111 Y w.heap.size m7 m8 mg (w.alloc (.map #[] 0)) h.add6
set_option maxHeartbeats 2000000 in
theorem r9_101011 (Y : Hyp9 w0 S Q N H fi p0 p1 p2 p3 p4 p5 p6 p7 p8 p9 p10 p11 p12 p13 p14 p15 p17 p18 p19 p20 p21 p22 p23 p24 p25 p26 p27 p28 p29 p30 p31 p32 p33 p34 p35 p36 p37 p38 p39 p40 p41 p42 p43 p44 p45 p56 p57 p58 p59 p60 p61 p62 p63 p64 p65 p66 p67 p68 p69 p70 p71 p72 p73) (m6 m8 mg : Nat) (w : World) (h : R9 w0 none (some m6) none (some m8) (some mg) w) : wpAnyH Try.prog .any ops9 Q S 4 #[true, true, true, true, true, false, true, false, true, false, true, false] (act9 p0 p1 p2 p3 p4 p5 p6 p7 p8 p9 p10 p11 p12 p13 p14 p15 p17 p18 p19 p20 p21 p22 p23 p24 p25 p26 p27 p28 p29 p30 p31 p32 p33 p34 p35 p36 p37 p38 p39 p40 p41 p42 p43 p44 p45 (.agg #[.int .i64 (N : Int), .int .i64 (H : Int)]) (.agg #[.int .i64 (N : Int), .int .i64 (H : Int)]) p56 p57 p58 p59 p60 p61 p62 p63 p64 p65 p66 p67 p68 p69 p70 p71 p72 p73 (.int .i64 fi) (.int .i64 (fi + 2)) (.agg #[.int .i64 (fi + 2), .bool false, .slice none 0 0]) undef (.map (some m6)) undef (.map (some m8)) undef (.pointer (some ⟨mg, 0, none⟩))) w := by
  refine wpAnyH_ready (rs := [5, 7]) (by kernel_rfl) (by simp) (AllReadyH.cons (o := ops9[5]) rfl (fun KK hK => ?_) (AllReadyH.cons (o := ops9[7]) rfl (fun KK hK => ?_) AllReadyH.nil))
  · refine step_makemap rfl rfl ?_
    refine hK.out _ _ (Y.hS _ h.add5.low) (fun hHeld => ?_)
    clear hK
    exact r9_111011 Y w.heap.size m6 m8 mg (w.alloc (.map #[] 0)) h.add5
  · refine step_makemap rfl rfl ?_
    refine hK.out _ _ (Y.hS _ h.add7.low) (fun hHeld => ?_)
    clear hK
    exact r9_101111 Y m6 w.heap.size m8 mg (w.alloc (.map #[] 0)) h.add7
set_option maxHeartbeats 2000000 in
theorem r9_101101 (Y : Hyp9 w0 S Q N H fi p0 p1 p2 p3 p4 p5 p6 p7 p8 p9 p10 p11 p12 p13 p14 p15 p17 p18 p19 p20 p21 p22 p23 p24 p25 p26 p27 p28 p29 p30 p31 p32 p33 p34 p35 p36 p37 p38 p39 p40 p41 p42 p43 p44 p45 p56 p57 p58 p59 p60 p61 p62 p63 p64 p65 p66 p67 p68 p69 p70 p71 p72 p73) (m6 m7 mg : Nat) (w : World) (h : R9 w0 none (some m6) (some m7) none (some mg) w) : wpAnyH Try.prog .any ops9 Q S 4 #[true, true, true, true, true, false, true, true, false, false, true, false] (act9 p0 p1 p2 p3 p4 p5 p6 p7 p8 p9 p10 p11 p12 p13 p14 p15 p17 p18 p19 p20 p21 p22 p23 p24 p25 p26 p27 p28 p29 p30 p31 p32 p33 p34 p35 p36 p37 p38 p39 p40 p41 p42 p43 p44 p45 (.agg #[.int .i64 (N : Int), .int .i64 (H : Int)]) (.agg #[.int .i64 (N : Int), .int .i64 (H : Int)]) p56 p57 p58 p59 p60 p61 p62 p63 p64 p65 p66 p67 p68 p69 p70 p71 p72 p73 (.int .i64 fi) (.int .i64 (fi + 2)) (.agg #[.int .i64 (fi + 2), .bool false, .slice none 0 0]) undef (.map (some m6)) (.map (some m7)) undef undef (.pointer (some ⟨mg, 0, none⟩))) w := by
  refine wpAnyH_ready (rs := [5, 8]) (by kernel_rfl) (by simp) (AllReadyH.cons (o := ops9[5]) rfl (fun KK hK => ?_) (AllReadyH.cons (o := ops9[8]) rfl (fun KK hK => ?_) AllReadyH.nil))
  · refine step_makemap rfl rfl ?_
    refine hK.out _ _ (Y.hS _ h.add5.low) (fun hHeld => ?_)
    clear hK
    exact r9_111101 Y w.heap.size m6 m7 mg (w.alloc (.map #[] 0)) h.add5
  · refine step_makemap rfl rfl ?_
    refine hK.out _ _ (Y.hS _ h.add8.low) (fun hHeld => ?_)
    clear hK
    exact r9_101111 Y m6 m7 w.heap.size mg (w.alloc (.map #[] 0)) h.add8
set_option maxHeartbeats 2000000 in
theorem r9_101110 (Y : Hyp9 w0 S Q N H fi p0 p1 p2 p3 p4 p5 p6 p7 p8 p9 p10 p11 p12 p13 p14 p15 p17 p18 p19 p20 p21 p22 p23 p24 p25 p26 p27 p28 p29 p30 p31 p32 p33 p34 p35 p36 p37 p38 p39 p40 p41 p42 p43 p44 p45 p56 p57 p58 p59 p60 p61 p62 p63 p64 p65 p66 p67 p68 p69 p70 p71 p72 p73) (m6 m7 m8 : Nat) (w : World) (h : R9 w0 none (some m6) (some m7) (some m8) none w) : wpAnyH Try.prog .any ops9 Q S 4 #[true, true, true, true, true, false, true, true, true, false, false, false] (act9 p0 p1 p2 p3 p4 p5 p6 p7 p8 p9 p10 p11 p12 p13 p14 p15 p17 p18 p19 p20 p21 p22 p23 p24 p25 p26 p27 p28 p29 p30 p31 p32 p33 p34 p35 p36 p37 p38 p39 p40 p41 p42 p43 p44 p45 (.agg #[.int .i64 (N : Int), .int .i64 (H : Int)]) (.agg #[.int .i64 (N : Int), .int .i64 (H : Int)]) p56 p57 p58 p59 p60 p61 p62 p63 p64 p65 p66 p67 p68 p69 p70 p71 p72 p73 (.int .i64 fi) (.int .i64 (fi + 2)) (.agg #[.int .i64 (fi + 2), .bool false, .slice none 0 0]) undef (.map (some m6)) (.map (some m7)) (.map (some m8)) undef undef) w := by
  refine wpAnyH_ready (rs := [5, 10]) (by kernel_rfl) (by simp) (AllReadyH.cons (o := ops9[5]) rfl (fun KK hK => ?_) (AllReadyH.cons (o := ops9[10]) rfl (fun KK hK => ?_) AllReadyH.nil))
  · refine step_makemap rfl rfl ?_
    refine hK.out _ _ (Y.hS _ h.add5.low) (fun hHeld => ?_)
    clear hK
    refine wpAnyH_take (i := 9) (oi := ops9[9]) (v := .agg #[.int .i64 (N : Int), .int .i64 (H : Int), .int .i64 (fi + 2), .bool false, .slice none 0 0, .map (some w.heap.size), .map (some m6), .map (some m7), .map (some m8)]) rfl (by kernel_rfl) (by kernel_rfl) (by kernel_rfl) (fun c a w h => Y.hQ c a w _ _ h) (Or.inl ⟨by rfl, ?_⟩) (by assumption) ?_
    · (intro w hSw; unfold ops9 act9; go_simp)
    exact r9_111110 Y w.heap.size m6 m7 m8 (w.alloc (.map #[] 0)) h.add5
  · unfold ops9
    go_simp
    refine hK.out _ _ (Y.hS _ h.addg.low) (fun hHeld => ?_)
    clear hK
    exact r9_101111 Y m6 m7 m8 w.heap.size (w.alloc (.cells #[.int .i64 0, .int .i64 0, .int .i64 0, .bool false, .slice none 0 0, .map none, .map none, .map none, .map none] 101)) h.addg
set_option maxHeartbeats 2000000 in
theorem r9_110011 (Y : Hyp9 w0 S Q N H fi p0 p1 p2 p3 p4 p5 p6 p7 p8 p9 p10 p11 p12 p13 p14 p15 p17 p18 p19 p20 p21 p22 p23 p24 p25 p26 p27 p28 p29 p30 p31 p32 p33 p34 p35 p36 p37 p38 p39 p40 p41 p42 p43 p44 p45 p56 p57 p58 p59 p60 p61 p62 p63 p64 p65 p66 p67 p68 p69 p70 p71 p72 p73) (m5 m8 mg : Nat) (w : World) (h : R9 w0 (some m5) none none (some m8) (some mg) w) : wpAnyH Try.prog .any ops9 Q S 4 #[true, true, true, true, true, true, false, false, true, false, true, false] (act9 p0 p1 p2 p3 p4 p5 p6 p7 p8 p9 p10 p11 p12 p13 p14 p15 p17 p18 p19 p20 p21 p22 p23 p24 p25 p26 p27 p28 p29 p30 p31 p32 p33 p34 p35 p36 p37 p38 p39 p40 p41 p42 p43 p44 p45 (.agg #[.int .i64 (N : Int), .int .i64 (H : Int)]) (.agg #[.int .i64 (N : Int), .int .i64 (H : Int)]) p56 p57 p58 p59 p60 p61 p62 p63 p64 p65 p66 p67 p68 p69 p70 p71 p72 p73 (.int .i64 fi) (.int .i64 (fi + 2)) (.agg #[.int .i64 (fi + 2), .bool false, .slice none 0 0]) (.map (some m5)) undef undef (.map (some m8)) undef (.pointer (some ⟨mg, 0, none⟩))) w := by
  refine wpAnyH_ready (rs := [6, 7]) (by kernel_rfl) (by simp) (AllReadyH.cons (o := ops9[6]) rfl (fun KK hK => ?_) (AllReadyH.cons (o := ops9[7]) rfl (fun KK hK => ?_) AllReadyH.nil))
  · refine step_makemap rfl rfl ?_
    refine hK.out _ _ (Y.hS _ h.add6.low) (fun hHeld => ?_)
    clear hK
    exact r9_111011 Y m5 w.heap.size m8 mg (w.alloc (.map #[] 0)) h.add6
  · refine step_makemap rfl rfl ?_
    refine hK.out _ _ (Y.hS _ h.add7.low) (fun hHeld => ?_)
    clear hK
    exact r9_110111 Y m5 w.heap.size m8 mg (w.alloc (.map #[] 0)) h.add7
set_option maxHeartbeats 2000000 in
theorem r9_110101 (Y : Hyp9 w0 S Q N H fi p0 p1 p2 p3 p4 p5 p6 p7 p8 p9 p10 p11 p12 p13 p14 p15 p17 p18 p19 p20 p21 p22 p23 p24 p25 p26 p27 p28 p29 p30 p31 p32 p33 p34 p35 p36 p37 p38 p39 p40 p41 p42 p43 p44 p45 p56 p57 p58 p59 p60 p61 p62 p63 p64 p65 p66 p67 p68 p69 p70 p71 p72 p73) (m5 m7 mg : Nat) (w : World) (h : R9 w0 (some m5) none (some m7) none (some mg) w) : wpAnyH Try.prog .any ops9 Q S 4 #[true, true, true, true, true, true, false, true, false, false, true, false] (act9 p0 p1 p2 p3 p4 p5 p6 p7 p8 p9 p10 p11 p12 p13 p14 p15 p17 p18 p19 p20 p21 p22 p23 p24 p25 p26 p27 p28 p29 p30 p31 p32 p33 p34 p35 p36 p37 p38 p39 p40 p41 p42 p43 p44 p45 (.agg #[.int .i64 (N : Int), .int .i64 (H : Int)]) (.agg #[.int .i64 (N : Int), .int .i64 (H : Int)]) p56 p57 p58 p59 p60 p61 p62 p63 p64 p65 p66 p67 p68 p69 p70 p71 p72 p73 (.int .i64 fi) (.int .i64 (fi + 2)) (.agg #[.int .i64 (fi + 2), .bool false, .slice none 0 0]) (.map (some m5)) undef (.map (some m7)) undef undef (.pointer (some ⟨mg, 0, none⟩))) w := by
  refine wpAnyH_ready (rs := [6, 8]) (by kernel_rfl) (by simp) (AllReadyH.cons (o := ops9[6]) rfl (fun KK hK => ?_) (AllReadyH.cons (o := ops9[8]) rfl (fun KK hK => ?_) AllReadyH.nil))
  · refine step_makemap rfl rfl ?_
    refine hK.out _ _ (Y.hS _ h.add6.low) (fun hHeld => ?_)
    clear hK
    exact r9_111101 Y m5 w.heap.size m7 mg (w.alloc (.map #[] 0)) h.add6
  · refine step_makemap rfl rfl ?_
    refine hK.out _ _ (Y.hS _ h.add8.low) (fun hHeld => ?_)
    clear hK
    exact r9_110111 Y m5 m7 w.heap.size mg (w.alloc (.map #[] 0)) h.add8
set_option maxHeartbeats 2000000 in
theorem r9_110110 (Y : Hyp9 w0 S Q N H fi p0 p1 p2 p3 p4 p5 p6 p7 p8 p9 p10 p11 p12 p13 p14 p15 p17 p18 p19 p20 p21 p22 p23 p24 p25 p26 p27 p28 p29 p30 p31 p32 p33 p34 p35 p36 p37 p38 p39 p40 p41 p42 p43 p44 p45 p56 p57 p58 p59 p60 p61 p62 p63 p64 p65 p66 p67 p68 p69 p70 p71 p72 p73) (m5 m7 m8 : Nat) (w : World) (h : R9 w0 (some m5) none (some m7) (some m8) none w) : wpAnyH Try.prog .any ops9 Q S 4 #[true, true, true, true, true, true, false, true, true, false, false, false] (act9 p0 p1 p2 p3 p4 p5 p6 p7 p8 p9 p10 p11 p12 p13 p14 p15 p17 p18 p19 p20 p21 p22 p23 p24 p25 p26 p27 p28 p29 p30 p31 p32 p33 p34 p35 p36 p37 p38 p39 p40 p41 p42 p43 p44 p45 (.agg #[.int .i64 (N : Int), .int .i64 (H : Int)]) (.agg #[.int .i64 (N : Int), .int .i64 (H : Int)]) p56 p57 p58 p59 p60 p61 p62 p63 p64 p65 p66 p67 p68 p69 p70 p71 p72 p73 (.int .i64 fi) (.int .i64 (fi + 2)) (.agg #[.int .i64 (fi + 2), .bool false, .slice none 0 0]) (.map (some m5)) undef (.map (some m7)) (.map (some m8)) undef undef) w := by
  refine wpAnyH_ready (rs := [6, 10]) (by kernel_rfl) (by simp) (AllReadyH.cons (o := ops9[6]) rfl (fun KK hK => ?_) (AllReadyH.cons (o := ops9[10]) rfl (fun KK hK => ?_) AllReadyH.nil))
  · refine step_makemap rfl rfl ?_
    refine hK.out _ _ (Y.hS _ h.add6.low) (fun hHeld => ?_)
    clear hK
    refine wpAnyH_take (i := 9) (oi := ops9[9]) (v := .agg #[.int .i64 (N : Int), .int .i64 (H : Int), .int .i64 (fi + 2), .bool false, .slice none 0 0, .map (some m5), .map (some w.heap.size), .map (some m7), .map (some m8)]) rfl (by kernel_rfl) (by kernel_rfl) (by kernel_rfl) (fun c a w h => Y.hQ c a w _ _ h) (Or.inl ⟨by rfl, ?_⟩) (by assumption) ?_
    · (intro w hSw; unfold ops9 act9; go_simp)
    exact r9_111110 Y m5 w.heap.size m7 m8 (w.alloc (.map #[] 0)) h.add6
  · unfold ops9
    go_simp
    refine hK.out _ _ (Y.hS _ h.addg.low) (fun hHeld => ?_)
    clear hK
    exact r9_110111 Y m5 m7 m8 w.heap.size (w.alloc (.cells #[.int .i64 0, .int .i64 0, .int .i64 0, .bool false, .slice none 0 0, .map none, .map none, .map none, .map none] 101)) h.addg
set_option maxHeartbeats 2000000 in
theorem r9_111001 (Y : Hyp9 w0 S Q N H fi p0 p1 p2 p3 p4 p5 p6 p7 p8 p9 p10 p11 p12 p13 p14 p15 p17 p18 p19 p20 p21 p22 p23 p24 p25 p26 p27 p28 p29 p30 p31 p32 p33 p34 p35 p36 p37 p38 p39 p40 p41 p42 p43 p44 p45 p56 p57 p58 p59 p60 p61 p62 p63 p64 p65 p66 p67 p68 p69 p70 p71 p72 p73) (m5 m6 mg : Nat) (w : World) (h : R9 w0 (some m5) (some m6) none none (some mg) w) : wpAnyH Try.prog .any ops9 Q S 4 #[true, true, true, true, true, true, true, false, false, false, true, false] (act9 p0 p1 p2 p3 p4 p5 p6 p7 p8 p9 p10 p11 p12 p13 p14 p15 p17 p18 p19 p20 p21 p22 p23 p24 p25 p26 p27 p28 p29 p30 p31 p32 p33 p34 p35 p36 p37 p38 p39 p40 p41 p42 p43 p44 p45 (.agg #[.int .i64 (N : Int), .int .i64 (H : Int)]) (.agg #[.int .i64 (N : Int), .int .i64 (H : Int)]) p56 p57 p58 p59 p60 p61 p62 p63 p64 p65 p66 p67 p68 p69 p70 p71 p72 p73 (.int .i64 fi) (.int .i64 (fi + 2)) (.agg #[.int .i64 (fi + 2), .bool false, .slice none 0 0]) (.map (some m5)) (.map (some m6)) undef undef undef (.pointer (some ⟨mg, 0, none⟩))) w := by
  refine wpAnyH_ready (rs := [7, 8]) (by kernel_rfl) (by simp) (AllReadyH.cons (o := ops9[7]) rfl (fun KK hK => ?_) (AllReadyH.cons (o := ops9[8]) rfl (fun KK hK => ?_) AllReadyH.nil))
  · refine step_makemap rfl rfl ?_
    refine hK.out _ _ (Y.hS _ h.add7.low) (fun hHeld => ?_)
    clear hK
    exact r9_111101 Y m5 m6 w.heap.size mg (w.alloc (.map #[] 0)) h.add7
  · refine step_makemap rfl rfl ?_
    refine hK.out _ _ (Y.hS _ h.add8.low) (fun hHeld => ?_)
    clear hK
    exact r9_111011 Y m5 m6 w.heap.size mg (w.alloc (.map #[] 0)) h.add8
set_option maxHeartbeats 2000000 in
theorem r9_111010 (Y : Hyp9 w0 S Q N H fi p0 p1 p2 p3 p4 p5 p6 p7 p8 p9 p10 p11 p12 p13 p14 p15 p17 p18 p19 p20 p21 p22 p23 p24 p25 p26 p27 p28 p29 p30 p31 p32 p33 p34 p35 p36 p37 p38 p39 p40 p41 p42 p43 p44 p45 p56 p57 p58 p59 p60 p61 p62 p63 p64 p65 p66 p67 p68 p69 p70 p71 p72 p73) (m5 m6 m8 : Nat) (w : World) (h : R9 w0 (some m5) (some m6) none (some m8) none w) : wpAnyH Try.prog .any ops9 Q S 4 #[true, true, true, true, true, true, true, false, true, false, false, false] (act9 p0 p1 p2 p3 p4 p5 p6 p7 p8 p9 p10 p11 p12 p13 p14 p15 p17 p18 p19 p20 p21 p22 p23 p24 p25 p26 p27 p28 p29 p30 p31 p32 p33 p34 p35 p36 p37 p38 p39 p40 p41 p42 p43 p44 p45 (.agg #[.int .i64 (N : Int), .int .i64 (H : Int)]) (.agg #[.int .i64 (N : Int), .int .i64 (H : Int)]) p56 p57 p58 p59 p60 p61 p62 p63 p64 p65 p66 p67 p68 p69 p70 p71 p72 p73 (.int .i64 fi) (.int .i64 (fi + 2)) (.agg #[.int .i64 (fi + 2), .bool false, .slice none 0 0]) (.map (some m5)) (.map (some m6)) undef (.map (some m8)) undef undef) w := by
  refine wpAnyH_ready (rs := [7, 10]) (by kernel_rfl) (by simp) (AllReadyH.cons (o := ops9[7]) rfl (fun KK hK => ?_) (AllReadyH.cons (o := ops9[10]) rfl (fun KK hK => ?_) AllReadyH.nil))
  · refine step_makemap rfl rfl ?_
    refine hK.out _ _ (Y.hS _ h.add7.low) (fun hHeld => ?_)
    clear hK
    refine wpAnyH_take (i := 9) (oi := ops9[9]) (v := .agg #[.int .i64 (N : Int), .int .i64 (H : Int), .int .i64 (fi + 2), .bool false, .slice none 0 0, .map (some m5), .map (some m6), .map (some w.heap.size), .map (some m8)]) rfl (by kernel_rfl) (by kernel_rfl) (by kernel_rfl) (fun c a w h => Y.hQ c a w _ _ h) (Or.inl ⟨by rfl, ?_⟩) (by assumption) ?_
    · (intro w hSw; unfold ops9 act9; go_simp)
    exact r9_111110 Y m5 m6 w.heap.size m8 (w.alloc (.map #[] 0)) h.add7
  · unfold ops9
    go_simp
    refine hK.out _ _ (Y.hS _ h.addg.low) (fun hHeld => ?_)
    clear hK
    exact r9_111011 Y m5 m6 m8 w.heap.size (w.alloc (.cells #[.int .i64 0, .int .i64 0, .int .i64 0, .bool false, .slice none 0 0, .map none, .map none, .map none, .map none] 101)) h.addg
set_option maxHeartbeats 2000000 in
theorem r9_111100 (Y : Hyp9 w0 S Q N H fi p0 p1 p2 p3 p4 p5 p6 p7 p8 p9 p10 p11 p12 p13 p14 p15 p17 p18 p19 p20 p21 p22 p23 p24 p25 p26 p27 p28 p29 p30 p31 p32 p33 p34 p35 p36 p37 p38 p39 p40 p41 p42 p43 p44 p45 p56 p57 p58 p59 p60 p61 p62 p63 p64 p65 p66 p67 p68 p69 p70 p71 p72 p73) (m5 m6 m7 : Nat) (w : World) (h : R9 w0 (some m5) (some m6) (some m7) none none w) : wpAnyH Try.prog .any ops9 Q S 4 #[true, true, true, true, true, true, true, true, false, false, false, false] (act9 p0 p1 p2 p3 p4 p5 p6 p7 p8 p9 p10 p11 p12 p13 p14 p15 p17 p18 p19 p20 p21 p22 p23 p24 p25 p26 p27 p28 p29 p30 p31 p32 p33 p34 p35 p36 p37 p38 p39 p40 p41 p42 p43 p44 p45 (.agg #[.int .i64 (N : Int), .int .i64 (H : Int)]) (.agg #[.int .i64 (N : Int), .int .i64 (H : Int)]) p56 p57 p58 p59 p60 p61 p62 p63 p64 p65 p66 p67 p68 p69 p70 p71 p72 p73 (.int .i64 fi) (.int .i64 (fi + 2)) (.agg #[.int .i64 (fi + 2), .bool false, .slice none 0 0]) (.map (some m5)) (.map (some m6)) (.map (some m7)) undef undef undef) w := by
  refine wpAnyH_ready (rs := [8, 10]) (by kernel_rfl) (by simp) (AllReadyH.cons (o := ops9[8]) rfl (fun KK hK => ?_) (AllReadyH.cons (o := ops9[10]) rfl (fun KK hK => ?_) AllReadyH.nil))
  · refine step_makemap rfl rfl ?_
    refine hK.out _ _ (Y.hS _ h.add8.low) (fun hHeld => ?_)
    clear hK
    refine wpAnyH_take (i := 9) (oi := ops9[9]) (v := .agg #[.int .i64 (N : Int), .int .i64 (H : Int), .int .i64 (fi + 2), .bool false, .slice none 0 0, .map (some m5), .map (some m6), .map (some m7), .map (some w.heap.size)]) rfl (by kernel_rfl) (by kernel_rfl) (by kernel_rfl) (fun c a w h => Y.hQ c a w _ _ h) (Or.inl ⟨by rfl, ?_⟩) (by assumption) ?_
    · (intro w hSw; unfold ops9 act9; go_simp)
    exact r9_111110 Y m5 m6 m7 w.heap.size (w.alloc (.map #[] 0)) h.add8
  · unfold ops9
    go_simp
    refine hK.out _ _ (Y.hS _ h.addg.low) (fun hHeld => ?_)
    clear hK
    exact r9_111101 Y m5 m6 m7 w.heap.size (w.alloc (.cells #[.int .i64 0, .int .i64 0, .int .i64 0, .bool false, .slice none 0 0, .map none, .map none, .map none, .map none] 101)) h.addg
set_option maxHeartbeats 2000000 in
theorem r9_000111 (Y : Hyp9 w0 S Q N H fi p0 p1 p2 p3 p4 p5 p6 p7 p8 p9 p10 p11 p12 p13 p14 p15 p17 p18 p19 p20 p21 p22 p23 p24 p25 p26 p27 p28 p29 p30 p31 p32 p33 p34 p35 p36 p37 p38 p39 p40 p41 p42 p43 p44 p45 p56 p57 p58 p59 p60 p61 p62 p63 p64 p65 p66 p67 p68 p69 p70 p71 p72 p73) (m7 m8 mg : Nat) (w : World) (h : R9 w0 none none (some m7) (some m8) (some mg) w) : wpAnyH Try.prog .any ops9 Q S 7 #[true, true, false, false, false, false, false, true, true, false, true, false] (act9 p0 p1 p2 p3 p4 p5 p6 p7 p8 p9 p10 p11 p12 p13 p14 p15 p17 p18 p19 p20 p21 p22 p23 p24 p25 p26 p27 p28 p29 p30 p31 p32 p33 p34 p35 p36 p37 p38 p39 p40 p41 p42 p43 p44 p45 (.agg #[.int .i64 (N : Int), .int .i64 (H : Int)]) (.agg #[.int .i64 (N : Int), .int .i64 (H : Int)]) p56 p57 p58 p59 p60 p61 p62 p63 p64 p65 p66 p67 p68 p69 p70 p71 p72 p73 (undef) (undef) (undef) undef undef (.map (some m7)) (.map (some m8)) undef (.pointer (some ⟨mg, 0, none⟩))) w := by
  refine wpAnyH_ready (rs := [2, 5, 6]) (by kernel_rfl) (by simp) (AllReadyH.cons (o := ops9[2]) rfl (fun KK hK => ?_) (AllReadyH.cons (o := ops9[5]) rfl (fun KK hK => ?_) (AllReadyH.cons (o := ops9[6]) rfl (fun KK hK => ?_) AllReadyH.nil)))
  · unfold act9 ops9
    go_simp
    refine (ugsize_any N H _ Y.hN Y.hH).mono ?_
    rw [Y.hfi]
    rintro e w2 ⟨rfl, hb⟩
    have h2 := h.next hb
    go_wp2_with fail
    refine hK.out _ _ (Y.hS _ h2.low) (fun hHeld => ?_)
    clear hK
    refine wpAnyH_take (i := 3) (oi := ops9[3]) (v := .int .i64 (fi + 2)) rfl (by kernel_rfl) (by kernel_rfl) (by kernel_rfl) (fun c a w h => Y.hQ c a w _ _ h) (Or.inl ⟨by rfl, ?_⟩) (by assumption) ?_
    · (intro w hSw; have hwf := Y.hwf; unfold ops9; go_simp)
    refine wpAnyH_take (i := 4) (oi := ops9[4]) (v := .agg #[.int .i64 (fi + 2), .bool false, .slice none 0 0]) rfl (by kernel_rfl) (by kernel_rfl) (by kernel_rfl) (fun c a w h => Y.hQ c a w _ _ h) (Or.inl ⟨by rfl, ?_⟩) (by assumption) ?_
    · (intro w hSw; have hwf := Y.hwf; unfold ops9; go_simp)
    exact r9_100111 Y m7 m8 mg w2 h2
  · refine step_makemap rfl rfl ?_
    refine hK.out _ _ (Y.hS _ h.add5.low) (fun hHeld => ?_)
    clear hK
    exact r9_010111 Y w.heap.size m7 m8 mg (w.alloc (.map #[] 0)) h.add5
  · refine step_makemap rfl rfl ?_
    refine hK.out _ _ (Y.hS _ h.add6.low) (fun hHeld => ?_)
    clear hK
    exact r9_001111 Y w.heap.size m7 m8 mg (w.alloc (.map #[] 0)) h.add6
set_option maxHeartbeats 2000000 in
theorem r9_001011 (Y : Hyp9 w0 S Q N H fi p0 p1 p2 p3 p4 p5 p6 p7 p8 p9 p10 p11 p12 p13 p14 p15 p17 p18 p19 p20 p21 p22 p23 p24 p25 p26 p27 p28 p29 p30 p31 p32 p33 p34 p35 p36 p37 p38 p39 p40 p41 p42 p43 p44 p45 p56 p57 p58 p59 p60 p61 p62 p63 p64 p65 p66 p67 p68 p69 p70 p71 p72 p73) (m6 m8 mg : Nat) (w : World) (h : R9 w0 none (some m6) none (some m8) (some mg) w) : wpAnyH Try.prog .any ops9 Q S 7 #[true, true, false, false, false, false, true, false, true, false, true, false] (act9 p0 p1 p2 p3 p4 p5 p6 p7 p8 p9 p10 p11 p12 p13 p14 p15 p17 p18 p19 p20 p21 p22 p23 p24 p25 p26 p27 p28 p29 p30 p31 p32 p33 p34 p35 p36 p37 p38 p39 p40 p41 p42 p43 p44 p45 (.agg #[.int .i64 (N : Int), .int .i64 (H : Int)]) (.agg #[.int .i64 (N : Int), .int .i64 (H : Int)]) p56 p57 p58 p59 p60 p61 p62 p63 p64 p65 p66 p67 p68 p69 p70 p71 p72 p73 (undef) (undef) (undef) undef (.map (some m6)) undef (.map (some m8)) undef (.pointer (some ⟨mg, 0, none⟩))) w := by
  refine wpAnyH_ready (rs := [2, 5, 7]) (by kernel_rfl) (by simp) (AllReadyH.cons (o := ops9[2]) rfl (fun KK hK => ?_) (AllReadyH.cons (o := ops9[5]) rfl (fun KK hK => ?_) (AllReadyH.cons (o := ops9[7]) rfl (fun KK hK => ?_) AllReadyH.nil)))
  · unfold act9 ops9
    go_simp
    refine (ugsize_any N H _ Y.hN Y.hH).mono ?_
    rw [Y.hfi]
    rintro e w2 ⟨rfl, hb⟩
    have h2 := h.next hb
    go_wp2_with fail
    refine hK.out _ _ (Y.hS _ h2.low) (fun hHeld => ?_)
    clear hK
    refine wpAnyH_take (i := 3) (oi := ops9[3]) (v := .int .i64 (fi + 2)) rfl (by kernel_rfl) (by kernel_rfl) (by kernel_rfl) (fun c a w h => Y.hQ c a w _ _ h) (Or.inl ⟨by rfl, ?_⟩) (by assumption) ?_
    · (intro w hSw; have hwf := Y.hwf; unfold ops9; go_simp)
    refine wpAnyH_take (i := 4) (oi := ops9[4]) (v := .agg #[.int .i64 (fi + 2), .bool false, .slice none 0 0]) rfl (by kernel_rfl) (by kernel_rfl) (by kernel_rfl) (fun c a w h => Y.hQ c a w _ _ h) (Or.inl ⟨by rfl, ?_⟩) (by assumption) ?_
    · (intro w hSw; have hwf := Y.hwf; unfold ops9; go_simp)
    exact r9_101011 Y m6 m8 mg w2 h2
  · refine step_makemap rfl rfl ?_
    refine hK.out _ _ (Y.hS _ h.add5.low) (fun hHeld => ?_)
    clear hK
    exact r9_011011 Y w.heap.size m6 m8 mg (w.alloc (.map #[] 0)) h.add5
  · refine step_makemap rfl rfl ?_
    refine hK.out _ _ (Y.hS _ h.add7.low) (fun hHeld => ?_)
    clear hK
    exact r9_001111 Y m6 w.heap.size m8 mg (w.alloc (.map #[] 0)) h.add7
set_option maxHeartbeats 2000000 in
theorem r9_001101 (Y : Hyp9 w0 S Q N H fi p0 p1 p2 p3 p4 p5 p6 p7 p8 p9 p10 p11 p12 p13 p14 p15 p17 p18 p19 p20 p21 p22 p23 p24 p25 p26 p27 p28 p29 p30 p31 p32 p33 p34 p35 p36 p37 p38 p39 p40 p41 p42 p43 p44 p45 p56 p57 p58 p59 p60 p61 p62 p63 p64 p65 p66 p67 p68 p69 p70 p71 p72 p73) (m6 m7 mg : Nat) (w : World) (h : R9 w0 none (some m6) (some m7) none (some mg) w) : wpAnyH Try.prog .any ops9 Q S 7 #[true, true, false, false, false, false, true, true, false, false, true, false] (act9 p0 p1 p2 p3 p4 p5 p6 p7 p8 p9 p10 p11 p12 p13 p14 p15 p17 p18 p19 p20 p21 p22 p23 p24 p25 p26 p27 p28 p29 p30 p31 p32 p33 p34 p35 p36 p37 p38 p39 p40 p41 p42 p43 p44 p45 (.agg #[.int .i64 (N : Int), .int .i64 (H : Int)]) (.agg #[.int .i64 (N : Int), .int .i64 (H : Int)]) p56 p57 p58 p59 p60 p61 p62 p63 p64 p65 p66 p67 p68 p69 p70 p71 p72 p73 (undef) (undef) (undef) undef (.map (some m6)) (.map (some m7)) undef undef (.pointer (some ⟨mg, 0, none⟩))) w := by
  refine wpAnyH_ready (rs := [2, 5, 8]) (by kernel_rfl) (by simp) (AllReadyH.cons (o := ops9[2]) rfl (fun KK hK => ?_) (AllReadyH.cons (o := ops9[5]) rfl (fun KK hK => ?_) (AllReadyH.cons (o := ops9[8]) rfl (fun KK hK => ?_) AllReadyH.nil)))
  · unfold act9 ops9
    go_simp
    refine (ugsize_any N H _ Y.hN Y.hH).mono ?_
    rw [Y.hfi]
    rintro e w2 ⟨rfl, hb⟩
    have h2 := h.next hb
    go_wp2_with fail
    refine hK.out _ _ (Y.hS _ h2.low) (fun hHeld => ?_)
    clear hK
    refine wpAnyH_take (i := 3) (oi := ops9[3]) (v := .int .i64 (fi + 2)) rfl (by kernel_rfl) (by kernel_rfl) (by kernel_rfl) (fun c a w h => Y.hQ c a w _ _ h) (Or.inl ⟨by rfl, ?_⟩) (by assumption) ?_
    · (intro w hSw; have hwf := Y.hwf; unfold ops9; go_simp)
    refine wpAnyH_take (i := 4) (oi := ops9[4]) (v := .agg #[.int .i64 (fi + 2), .bool false, .slice none 0 0]) rfl (by kernel_rfl) (by kernel_rfl) (by kernel_rfl) (fun c a w h => Y.hQ c a w _ _ h) (Or.inl ⟨by rfl, ?_⟩) (by assumption) ?_
    · (intro w hSw; have hwf := Y.hwf; unfold ops9; go_simp)
    exact r9_101101 Y m6 m7 mg w2 h2
  · refine step_makemap rfl rfl ?_
    refine hK.out _ _ (Y.hS _ h.add5.low) (fun hHeld => ?_)
    clear hK
    exact r9_011101 Y w.heap.size m6 m7 mg (w.alloc (.map #[] 0)) h.add5
  · refine step_makemap rfl rfl ?_
    refine hK.out _ _ (Y.hS _ h.add8.low) (fun hHeld => ?_)
    clear hK
    exact r9_001111 Y m6 m7 w.heap.size mg (w.alloc (.map #[] 0)) h.add8
set_option maxHeartbeats 2000000 in
theorem r9_001110 (Y : Hyp9 w0 S Q N H fi p0 p1 p2 p3 p4 p5 p6 p7 p8 p9 p10 p11 p12 p13 p14 p15 p17 p18 p19 p20 p21 p22 p23 p24 p25 p26 p27 p28 p29 p30 p31 p32 p33 p34 p35 p36 p37 p38 p39 p40 p41 p42 p43 p44 p45 p56 p57 p58 p59 p60 p61 p62 p63 p64 p65 p66 p67 p68 p69 p70 p71 p72 p73) (m6 m7 m8 : Nat) (w : World) (h : R9 w0 none (some m6) (some m7) (some m8) none w) : wpAnyH Try.prog .any ops9 Q S 7 #[true, true, false, false, false, false, true, true, true, false, false, false] (act9 p0 p1 p2 p3 p4 p5 p6 p7 p8 p9 p10 p11 p12 p13 p14 p15 p17 p18 p19 p20 p21 p22 p23 p24 p25 p26 p27 p28 p29 p30 p31 p32 p33 p34 p35 p36 p37 p38 p39 p40 p41 p42 p43 p44 p45 (.agg #[.int .i64 (N : Int), .int .i64 (H : Int)]) (.agg #[.int .i64 (N : Int), .int .i64 (H : Int)]) p56 p57 p58 p59 p60 p61 p62 p63 p64 p65 p66 p67 p68 p69 p70 p71 p72 p73 (undef) (undef) (undef) undef (.map (some m6)) (.map (some m7)) (.map (some m8)) undef undef) w := by
  refine wpAnyH_ready (rs := [2, 5, 10]) (by kernel_rfl) (by simp) (AllReadyH.cons (o := ops9[2]) rfl (fun KK hK => ?_) (AllReadyH.cons (o := ops9[5]) rfl (fun KK hK => ?_) (AllReadyH.cons (o := ops9[10]) rfl (fun KK hK => ?_) AllReadyH.nil)))
  · unfold act9 ops9
    go_simp
    refine (ugsize_any N H _ Y.hN Y.hH).mono ?_
    rw [Y.hfi]
    rintro e w2 ⟨rfl, hb⟩
    have h2 := h.next hb
    go_wp2_with fail
    refine hK.out _ _ (Y.hS _ h2.low) (fun hHeld => ?_)
    clear hK
    refine wpAnyH_take (i := 3) (oi := ops9[3]) (v := .int .i64 (fi + 2)) rfl (by kernel_rfl) (by kernel_rfl) (by kernel_rfl) (fun c a w h => Y.hQ c a w _ _ h) (Or.inl ⟨by rfl, ?_⟩) (by assumption) ?_
    · (intro w hSw; have hwf := Y.hwf; unfold ops9; go_simp)
    refine wpAnyH_take (i := 4) (oi := ops9[4]) (v := .agg #[.int .i64 (fi + 2), .bool false, .slice none 0 0]) rfl (by kernel_rfl) (by kernel_rfl) (by kernel_rfl) (fun c a w h => Y.hQ c a w _ _ h) (Or.inl ⟨by rfl, ?_⟩) (by assumption) ?_
    · (intro w hSw; have hwf := Y.hwf; unfold ops9; go_simp)
    exact r9_101110 Y m6 m7 m8 w2 h2
  · refine step_makemap rfl rfl ?_
    refine hK.out _ _ (Y.hS _ h.add5.low) (fun hHeld => ?_)
    clear hK
    exact r9_011110 Y w.heap.size m6 m7 m8 (w.alloc (.map #[] 0)) h.add5
  · unfold ops9
    go_simp
    refine hK.out _ _ (Y.hS _ h.addg.low) (fun hHeld => ?_)
    clear hK
    exact r9_001111 Y m6 m7 m8 w.heap.size (w.alloc (.cells #[.int .i64 0, .int .i64 0, .int .i64 0, .bool false, .slice none 0 0, .map none, .map none, .map none, .map none] 101)) h.addg
set_option maxHeartbeats 2000000 in
theorem r9_010011 (Y : Hyp9 w0 S Q N H fi p0 p1 p2 p3 p4 p5 p6 p7 p8 p9 p10 p11 p12 p13 p14 p15 p17 p18 p19 p20 p21 p22 p23 p24 p25 p26 p27 p28 p29 p30 p31 p32 p33 p34 p35 p36 p37 p38 p39 p40 p41 p42 p43 p44 p45 p56 p57 p58 p59 p60 p61 p62 p63 p64 p65 p66 p67 p68 p69 p70 p71 p72 p73) (m5 m8 mg : Nat) (w : World) (h : R9 w0 (some m5) none none (some m8) (some mg) w) : wpAnyH Try.prog .any ops9 Q S 7 #[true, true, false, false, false, true, false, false, true, false, true, false] (act9 p0 p1 p2 p3 p4 p5 p6 p7 p8 p9 p10 p11 p12 p13 p14 p15 p17 p18 p19 p20 p21 p22 p23 p24 p25 p26 p27 p28 p29 p30 p31 p32 p33 p34 p35 p36 p37 p38 p39 p40 p41 p42 p43 p44 p45 (.agg #[.int .i64 (N : Int), .int .i64 (H : Int)]) (.agg #[.int .i64 (N : Int), .int .i64 (H : Int)]) p56 p57 p58 p59 p60 p61 p62 p63 p64 p65 p66 p67 p68 p69 p70 p71 p72 p73 (undef) (undef) (undef) (.map (some m5)) undef undef (.map (some m8)) undef (.pointer (some ⟨mg, 0, none⟩))) w := by
  refine wpAnyH_ready (rs := [2, 6, 7]) (by kernel_rfl) (by simp) (AllReadyH.cons (o := ops9[2]) rfl (fun KK hK => ?_) (AllReadyH.cons (o := ops9[6]) rfl (fun KK hK => ?_) (AllReadyH.cons (o := ops9[7]) rfl (fun KK hK => ?_) AllReadyH.nil)))
  · unfold act9 ops9
    go_simp
    refine (ugsize_any N H _ Y.hN Y.hH).mono ?_
    rw [Y.hfi]
    rintro e w2 ⟨rfl, hb⟩
    have h2 := h.next hb
    go_wp2_with fail
    refine hK.out _ _ (Y.hS _ h2.low) (fun hHeld => ?_)
    clear hK
    refine wpAnyH_take (i := 3) (oi := ops9[3]) (v := .int .i64 (fi + 2)) rfl (by kernel_rfl) (by kernel_rfl) (by kernel_rfl) (fun c a w h => Y.hQ c a w _ _ h) (Or.inl ⟨by rfl, ?_⟩) (by assumption) ?_
    · (intro w hSw; have hwf := Y.hwf; unfold ops9; go_simp)
    refine wpAnyH_take (i := 4) (oi := ops9[4]) (v := .agg #[.int .i64 (fi + 2), .bool false, .slice none 0 0]) rfl (by kernel_rfl) (by kernel_rfl) (by kernel_rfl) (fun c a w h => Y.hQ c a w _ _ h) (Or.inl ⟨by rfl, ?_⟩) (by assumption) ?_
    · (intro w hSw; have hwf := Y.hwf; unfold ops9; go_simp)
    exact r9_110011 Y m5 m8 mg w2 h2
  · refine step_makemap rfl rfl ?_
    refine hK.out _ _ (Y.hS _ h.add6.low) (fun hHeld => ?_)
    clear hK
    exact r9_011011 Y m5 w.heap.size m8 mg (w.alloc (.map #[] 0)) h.add6
  · refine step_makemap rfl rfl ?_
    refine hK.out _ _ (Y.hS _ h.add7.low) (fun hHeld => ?_)
    clear hK
    exact r9_010111 Y m5 w.heap.size m8 mg (w.alloc (.map #[] 0)) h.add7
set_option maxHeartbeats 2000000 in
theorem r9_010101 (Y : Hyp9 w0 S Q N H fi p0 p1 p2 p3 p4 p5 p6 p7 p8 p9 p10 p11 p12 p13 p14 p15 p17 p18 p19 p20 p21 p22 p23 p24 p25 p26 p27 p28 p29 p30 p31 p32 p33 p34 p35 p36 p37 p38 p39 p40 p41 p42 p43 p44 p45 p56 p57 p58 p59 p60 p61 p62 p63 p64 p65 p66 p67 p68 p69 p70 p71 p72 p73) (m5 m7 mg : Nat) (w : World) (h : R9 w0 (some m5) none (some m7) none (some mg) w) : wpAnyH Try.prog .any ops9 Q S 7 #[true, true, false, false, false, true, false, true, false, false, true, false] (act9 p0 p1 p2 p3 p4 p5 p6 p7 p8 p9 p10 p11 p12 p13 p14 p15 p17 p18 p19 p20 p21 p22 p23 p24 p25 p26 p27 p28 p29 p30 p31 p32 p33 p34 p35 p36 p37 p38 p39 p40 p41 p42 p43 p44 p45 (.agg #[.int .i64 (N : Int), .int .i64 (H : Int)]) (.agg #[.int .i64 (N : Int), .int .i64 (H : Int)]) p56 p57 p58 p59 p60 p61 p62 p63 p64 p65 p66 p67 p68 p69 p70 p71 p72 p73 (undef) (undef) (undef) (.map (some m5)) undef (.map (some m7)) undef undef (.pointer (some ⟨mg, 0, none⟩))) w := by
  refine wpAnyH_ready (rs := [2, 6, 8]) (by kernel_rfl) (by simp) (AllReadyH.cons (o := ops9[2]) rfl (fun KK hK => ?_) (AllReadyH.cons (o := ops9[6]) rfl (fun KK hK => ?_) (AllReadyH.cons (o := ops9[8]) rfl (fun KK hK => ?_) AllReadyH.nil)))
  · unfold act9 ops9
    go_simp
    refine (ugsize_any N H _ Y.hN Y.hH).mono ?_
    rw [Y.hfi]
    rintro e w2 ⟨rfl, hb⟩
    have h2 := h.next hb
    go_wp2_with fail
    refine hK.out _ _ (Y.hS _ h2.low) (fun hHeld => ?_)
    clear hK
    refine wpAnyH_take (i := 3) (oi := ops9[3]) (v := .int .i64 (fi + 2)) rfl (by kernel_rfl) (by kernel_rfl) (by kernel_rfl) (fun c a w h => Y.hQ c a w _ _ h) (Or.inl ⟨by rfl, ?_⟩) (by assumption) ?_
    · (intro w hSw; have hwf := Y.hwf; unfold ops9; go_simp)
    refine wpAnyH_take (i := 4) (oi := ops9[4]) (v := .agg #[.int .i64 (fi + 2), .bool false, .slice none 0 0]) rfl (by kernel_rfl) (by kernel_rfl) (by kernel_rfl) (fun c a w h => Y.hQ c a w _ _ h) (Or.inl ⟨by rfl, ?_⟩) (by assumption) ?_
    · (intro w hSw; have hwf := Y.hwf; unfold ops9; go_simp)
    exact r9_110101 Y m5 m7 mg w2 h2
  · refine step_makemap rfl rfl ?_
    refine hK.out _ _ (Y.hS _ h.add6.low) (fun hHeld => ?_)
    clear hK
    exact r9_011101 Y m5 w.heap.size m7 mg (w.alloc (.map #[] 0)) h.add6
  · refine step_makemap rfl rfl ?_
    refine hK.out _ _ (Y.hS _ h.add8.low) (fun hHeld => ?_)
    clear hK
    exact r9_010111 Y m5 m7 w.heap.size mg (w.alloc (.map #[] 0)) h.add8
set_option maxHeartbeats 2000000 in
theorem r9_010110 (Y : Hyp9 w0 S Q N H fi p0 p1 p2 p3 p4 p5 p6 p7 p8 p9 p10 p11 p12 p13 p14 p15 p17 p18 p19 p20 p21 p22 p23 p24 p25 p26 p27 p28 p29 p30 p31 p32 p33 p34 p35 p36 p37 p38 p39 p40 p41 p42 p43 p44 p45 p56 p57 p58 p59 p60 p61 p62 p63 p64 p65 p66 p67 p68 p69 p70 p71 p72 p73) (m5 m7 m8 : Nat) (w : World) (h : R9 w0 (some m5) none (some m7) (some m8) none w) : wpAnyH Try.prog .any ops9 Q S 7 #[true, true, false, false, false, true, false, true, true, false, false, false] (act9 p0 p1 p2 p3 p4 p5 p6 p7 p8 p9 p10 p11 p12 p13 p14 p15 p17 p18 p19 p20 p21 p22 p23 p24 p25 p26 p27 p28 p29 p30 p31 p32 p33 p34 p35 p36 p37 p38 p39 p40 p41 p42 p43 p44 p45 (.agg #[.int .i64 (N : Int), .int .i64 (H : Int)]) (.agg #[.int .i64 (N : Int), .int .i64 (H : Int)]) p56 p57 p58 p59 p60 p61 p62 p63 p64 p65 p66 p67 p68 p69 p70 p71 p72 p73 (undef) (undef) (undef) (.map (some m5)) undef (.map (some m7)) (.map (some m8)) undef undef) w := by
  refine wpAnyH_ready (rs := [2, 6, 10]) (by kernel_rfl) (by simp) (AllReadyH.cons (o := ops9[2]) rfl (fun KK hK => ?_) (AllReadyH.cons (o := ops9[6]) rfl (fun KK hK => ?_) (AllReadyH.cons (o := ops9[10]) rfl (fun KK hK => ?_) AllReadyH.nil)))
  · unfold act9 ops9
    go_simp
    refine (ugsize_any N H _ Y.hN Y.hH).mono ?_
    rw [Y.hfi]
    rintro e w2 ⟨rfl, hb⟩
    have h2 := h.next hb
    go_wp2_with fail
    refine hK.out _ _ (Y.hS _ h2.low) (fun hHeld => ?_)
    clear hK
    refine wpAnyH_take (i := 3) (oi := ops9[3]) (v := .int .i64 (fi + 2)) rfl (by kernel_rfl) (by kernel_rfl) (by kernel_rfl) (fun c a w h => Y.hQ c a w _ _ h) (Or.inl ⟨by rfl, ?_⟩) (by assumption) ?_
    · (intro w hSw; have hwf := Y.hwf; unfold ops9; go_simp)
    refine wpAnyH_take (i := 4) (oi := ops9[4]) (v := .agg #[.int .i64 (fi + 2), .bool false, .slice none 0 0]) rfl (by kernel_rfl) (by kernel_rfl) (by kernel_rfl) (fun c a w h => Y.hQ c a w _ _ h) (Or.inl ⟨by rfl, ?_⟩) (by assumption) ?_
    · (intro w hSw; have hwf := Y.hwf; unfold ops9; go_simp)
    exact r9_110110 Y m5 m7 m8 w2 h2
  · refine step_makemap rfl rfl ?_
    refine hK.out _ _ (Y.hS _ h.add6.low) (fun hHeld => ?_)
    clear hK
    exact r9_011110 Y m5 w.heap.size m7 m8 (w.alloc (.map #[] 0)) h.add6
  · unfold ops9
    go_simp
    refine hK.out _ _ (Y.hS _ h.addg.low) (fun hHeld => ?_)
    clear hK
    exact r9_010111 Y m5 m7 m8 w.heap.size (w.alloc (.cells #[.int .i64 0, .int .i64 0, .int .i64 0, .bool false, .slice none 0 0, .map none, .map none, .map none, .map none] 101)) h.addg
set_option maxHeartbeats 2000000 in
theorem r9_011001 (Y : Hyp9 w0 S Q N H fi p0 p1 p2 p3 p4 p5 p6 p7 p8 p9 p10 p11 p12 p13 p14 p15 p17 p18 p19 p20 p21 p22 p23 p24 p25 p26 p27 p28 p29 p30 p31 p32 p33 p34 p35 p36 p37 p38 p39 p40 p41 p42 p43 p44 p45 p56 p57 p58 p59 p60 p61 p62 p63 p64 p65 p66 p67 p68 p69 p70 p71 p72 p73) (m5 m6 mg : Nat) (w : World) (h : R9 w0 (some m5) (some m6) none none (some mg) w) : wpAnyH Try.prog .any ops9 Q S 7 #[true, true, false, false, false, true, true, false, false, false, true, false] (act9 p0 p1 p2 p3 p4 p5 p6 p7 p8 p9 p10 p11 p12 p13 p14 p15 p17 p18 p19 p20 p21 p22 p23 p24 p25 p26 p27 p28 p29 p30 p31 p32 p33 p34 p35 p36 p37 p38 p39 p40 p41 p42 p43 p44 p45 (.agg #[.int .i64 (N : Int), .int .i64 (H : Int)]) (.agg #[.int .i64 (N : Int), .int .i64 (H : Int)]) p56 p57 p58 p59 p60 p61 p62 p63 p64 p65 p66 p67 p68 p69 p70 p71 p72 p73 (undef) (undef) (undef) (.map (some m5)) (.map (some m6)) undef undef undef (.pointer (some ⟨mg, 0, none⟩))) w := by
  refine wpAnyH_ready (rs := [2, 7, 8]) (by kernel_rfl) (by simp) (AllReadyH.cons (o := ops9[2]) rfl (fun KK hK => ?_) (AllReadyH.cons (o := ops9[7]) rfl (fun KK hK => ?_) (AllReadyH.cons (o := ops9[8]) rfl (fun KK hK => ?_) AllReadyH.nil)))
  · unfold act9 ops9
    go_simp
    refine (ugsize_any N H _ Y.hN Y.hH).mono ?_
    rw [Y.hfi]
    rintro e w2 ⟨rfl, hb⟩
    have h2 := h.next hb
    go_wp2_with fail
    refine hK.out _ _ (Y.hS _ h2.low) (fun hHeld => ?_)
    clear hK
    refine wpAnyH_take (i := 3) (oi := ops9[3]) (v := .int .i64 (fi + 2)) rfl (by kernel_rfl) (by kernel_rfl) (by kernel_rfl) (fun c a w h => Y.hQ c a w _ _ h) (Or.inl ⟨by rfl, ?_⟩) (by assumption) ?_
    · (intro w hSw; have hwf := Y.hwf; unfold ops9; go_simp)
    refine wpAnyH_take (i := 4) (oi := ops9[4]) (v := .agg #[.int .i64 (fi + 2), .bool false, .slice none 0 0]) rfl (by kernel_rfl) (by kernel_rfl) (by kernel_rfl) (fun c a w h => Y.hQ c a w _ _ h) (Or.inl ⟨by rfl, ?_⟩) (by assumption) ?_
    · (intro w hSw; have hwf := Y.hwf; unfold ops9; go_simp)
    exact r9_111001 Y m5 m6 mg w2 h2
  · refine step_makemap rfl rfl ?_
    refine hK.out _ _ (Y.hS _ h.add7.low) (fun hHeld => ?_)
    clear hK
    exact r9_011101 Y m5 m6 w.heap.size mg (w.alloc (.map #[] 0)) h.add7
  · refine step_makemap rfl rfl ?_
    refine hK.out _ _ (Y.hS _ h.add8.low) (fun hHeld => ?_)
    clear hK
    exact r9_011011 Y m5 m6 w.heap.size mg (w.alloc (.map #[] 0)) h.add8
set_option maxHeartbeats 2000000 in
theorem r9_011010 (Y : Hyp9 w0 S Q N H fi p0 p1 p2 p3 p4 p5 p6 p7 p8 p9 p10 p11 p12 p13 p14 p15 p17 p18 p19 p20 p21 p22 p23 p24 p25 p26 p27 p28 p29 p30 p31 p32 p33 p34 p35 p36 p37 p38 p39 p40 p41 p42 p43 p44 p45 p56 p57 p58 p59 p60 p61 p62 p63 p64 p65 p66 p67 p68 p69 p70 p71 p72 p73) (m5 m6 m8 : Nat) (w : World) (h : R9 w0 (some m5) (some m6) none (some m8) none w) : wpAnyH Try.prog .any ops9 Q S 7 #[true, true, false, false, false, true, true, false, true, false, false, false] (act9 p0 p1 p2 p3 p4 p5 p6 p7 p8 p9 p10 p11 p12 p13 p14 p15 p17 p18 p19 p20 p21 p22 p23 p24 p25 p26 p27 p28 p29 p30 p31 p32 p33 p34 p35 p36 p37 p38 p39 p40 p41 p42 p43 p44 p45 (.agg #[.int .i64 (N : Int), .int .i64 (H : Int)]) (.agg #[.int .i64 (N : Int), .int .i64 (H : Int)]) p56 p57 p58 p59 p60 p61 p62 p63 p64 p65 p66 p67 p68 p69 p70 p71 p72 p73 (undef) (undef) (undef) (.map (some m5)) (.map (some m6)) undef (.map (some m8)) undef undef) w := by
  refine wpAnyH_ready (rs := [2, 7, 10]) (by kernel_rfl) (by simp) (AllReadyH.cons (o := ops9[2]) rfl (fun KK hK => ?_) (AllReadyH.cons (o := ops9[7]) rfl (fun KK hK => ?_) (AllReadyH.cons (o := ops9[10]) rfl (fun KK hK => ?_) AllReadyH.nil)))
  · unfold act9 ops9
    go_simp
    refine (ugsize_any N H _ Y.hN Y.hH).mono ?_
    rw [Y.hfi]
    rintro e w2 ⟨rfl, hb⟩
    have h2 := h.next hb
    go_wp2_with fail
    refine hK.out _ _ (Y.hS _ h2.low) (fun hHeld => ?_)
    clear hK
    refine wpAnyH_take (i := 3) (oi := ops9[3]) (v := .int .i64 (fi + 2)) rfl (by kernel_rfl) (by kernel_rfl) (by kernel_rfl) (fun c a w h => Y.hQ c a w _ _ h) (Or.inl ⟨by rfl, ?_⟩) (by assumption) ?_
    · (intro w hSw; have hwf := Y.hwf; unfold ops9; go_simp)
    refine wpAnyH_take (i := 4) (oi := ops9[4]) (v := .agg #[.int .i64 (fi + 2), .bool false, .slice none 0 0]) rfl (by kernel_rfl) (by kernel_rfl) (by kernel_rfl) (fun c a w h => Y.hQ c a w _ _ h) (Or.inl ⟨by rfl, ?_⟩) (by assumption) ?_
    · (intro w hSw; have hwf := Y.hwf; unfold ops9; go_simp)
    exact r9_111010 Y m5 m6 m8 w2 h2
  · refine step_makemap rfl rfl ?_
    refine hK.out _ _ (Y.hS _ h.add7.low) (fun hHeld => ?_)
    clear hK
    exact r9_011110 Y m5 m6 w.heap.size m8 (w.alloc (.map #[] 0)) h.add7
  · unfold ops9
    go_simp
    refine hK.out _ _ (Y.hS _ h.addg.low) (fun hHeld => ?_)
    clear hK
    exact r9_011011 Y m5 m6 m8 w.heap.size (w.alloc (.cells #[.int .i64 0, .int .i64 0, .int .i64 0, .bool false, .slice none 0 0, .map none, .map none, .map none, .map none] 101)) h.addg
set_option maxHeartbeats 2000000 in
theorem r9_011100 (Y : Hyp9 w0 S Q N H fi p0 p1 p2 p3 p4 p5 p6 p7 p8 p9 p10 p11 p12 p13 p14 p15 p17 p18 p19 p20 p21 p22 p23 p24 p25 p26 p27 p28 p29 p30 p31 p32 p33 p34 p35 p36 p37 p38 p39 p40 p41 p42 p43 p44 p45 p56 p57 p58 p59 p60 p61 p62 p63 p64 p65 p66 p67 p68 p69 p70 p71 p72 p73) (m5 m6 m7 : Nat) (w : World) (h : R9 w0 (some m5) (some m6) (some m7) none none w) : wpAnyH Try.prog .any ops9 Q S 7 #[true, true, false, false, false, true, true, true, false, false, false, false] (act9 p0 p1 p2 p3 p4 p5 p6 p7 p8 p9 p10 p11 p12 p13 p14 p15 p17 p18 p19 p20 p21 p22 p23 p24 p25 p26 p27 p28 p29 p30 p31 p32 p33 p34 p35 p36 p37 p38 p39 p40 p41 p42 p43 p44 p45 (.agg #[.int .i64 (N : Int), .int .i64 (H : Int)]) (.agg #[.int .i64 (N : Int), .int .i64 (H : Int)]) p56 p57 p58 p59 p60 p61 p62 p63 p64 p65 p66 p67 p68 p69 p70 p71 p72 p73 (undef) (undef) (undef) (.map (some m5)) (.map (some m6)) (.map (some m7)) undef undef undef) w := by
  refine wpAnyH_ready (rs := [2, 8, 10]) (by kernel_rfl) (by simp) (AllReadyH.cons (o := ops9[2]) rfl (fun KK hK => ?_) (AllReadyH.cons (o := ops9[8]) rfl (fun KK hK => ?_) (AllReadyH.cons (o := ops9[10]) rfl (fun KK hK => ?_) AllReadyH.nil)))
  · unfold act9 ops9
    go_simp
    refine (ugsize_any N H _ Y.hN Y.hH).mono ?_
    rw [Y.hfi]
    rintro e w2 ⟨rfl, hb⟩
    have h2 := h.next hb
    go_wp2_with fail
    refine hK.out _ _ (Y.hS _ h2.low) (fun hHeld => ?_)
    clear hK
    refine wpAnyH_take (i := 3) (oi := ops9[3]) (v := .int .i64 (fi + 2)) rfl (by kernel_rfl) (by kernel_rfl) (by kernel_rfl) (fun c a w h => Y.hQ c a w _ _ h) (Or.inl ⟨by rfl, ?_⟩) (by assumption) ?_
    · (intro w hSw; have hwf := Y.hwf; unfold ops9; go_simp)
    refine wpAnyH_take (i := 4) (oi := ops9[4]) (v := .agg #[.int .i64 (fi + 2), .bool false, .slice none 0 0]) rfl (by kernel_rfl) (by kernel_rfl) (by kernel_rfl) (fun c a w h => Y.hQ c a w _ _ h) (Or.inl ⟨by rfl, ?_⟩) (by assumption) ?_
    · (intro w hSw; have hwf := Y.hwf; unfold ops9; go_simp)
    exact r9_111100 Y m5 m6 m7 w2 h2
  · refine step_makemap rfl rfl ?_
    refine hK.out _ _ (Y.hS _ h.add8.low) (fun hHeld => ?_)
    clear hK
    exact r9_011110 Y m5 m6 m7 w.heap.size (w.alloc (.map #[] 0)) h.add8
  · unfold ops9
    go_simp
    refine hK.out _ _ (Y.hS _ h.addg.low) (fun hHeld => ?_)
    clear hK
    exact r9_011101 Y m5 m6 m7 w.heap.size (w.alloc (.cells #[.int .i64 0, .int .i64 0, .int .i64 0, .bool false, .slice none 0 0, .map none, .map none, .map none, .map none] 101)) h.addg
set_option maxHeartbeats 2000000 in
theorem r9_100011 (Y : Hyp9 w0 S Q N H fi p0 p1 p2 p3 p4 p5 p6 p7 p8 p9 p10 p11 p12 p13 p14 p15 p17 p18 p19 p20 p21 p22 p23 p24 p25 p26 p27 p28 p29 p30 p31 p32 p33 p34 p35 p36 p37 p38 p39 p40 p41 p42 p43 p44 p45 p56 p57 p58 p59 p60 p61 p62 p63 p64 p65 p66 p67 p68 p69 p70 p71 p72 p73) (m8 mg : Nat) (w : World) (h : R9 w0 none none none (some m8) (some mg) w) : wpAnyH Try.prog .any ops9 Q S 5 #[true, true, true, true, true, false, false, false, true, false, true, false] (act9 p0 p1 p2 p3 p4 p5 p6 p7 p8 p9 p10 p11 p12 p13 p14 p15 p17 p18 p19 p20 p21 p22 p23 p24 p25 p26 p27 p28 p29 p30 p31 p32 p33 p34 p35 p36 p37 p38 p39 p40 p41 p42 p43 p44 p45 (.agg #[.int .i64 (N : Int), .int .i64 (H : Int)]) (.agg #[.int .i64 (N : Int), .int .i64 (H : Int)]) p56 p57 p58 p59 p60 p61 p62 p63 p64 p65 p66 p67 p68 p69 p70 p71 p72 p73 (.int .i64 fi) (.int .i64 (fi + 2)) (.agg #[.int .i64 (fi + 2), .bool false, .slice none 0 0]) undef undef undef (.map (some m8)) undef (.pointer (some ⟨mg, 0, none⟩))) w := by
  refine wpAnyH_ready (rs := [5, 6, 7]) (by kernel_rfl) (by simp) (AllReadyH.cons (o := ops9[5]) rfl (fun KK hK => ?_) (AllReadyH.cons (o := ops9[6]) rfl (fun KK hK => ?_) (AllReadyH.cons (o := ops9[7]) rfl (fun KK hK => ?_) AllReadyH.nil)))
  · refine step_makemap rfl rfl ?_
    refine hK.out _ _ (Y.hS _ h.add5.low) (fun hHeld => ?_)
    clear hK
    exact r9_110011 Y w.heap.size m8 mg (w.alloc (.map #[] 0)) h.add5
  · refine step_makemap rfl rfl ?_
    refine hK.out _ _ (Y.hS _ h.add6.low) (fun hHeld => ?_)
    clear hK
    exact r9_101011 Y w.heap.size m8 mg (w.alloc (.map #[] 0)) h.add6
  · refine step_makemap rfl rfl ?_
    refine hK.out _ _ (Y.hS _ h.add7.low) (fun hHeld => ?_)
    clear hK
    exact r9_100111 Y w.heap.size m8 mg (w.alloc (.map #[] 0)) h.add7
set_option maxHeartbeats 2000000 in
theorem r9_100101 (Y : Hyp9 w0 S Q N H fi p0 p1 p2 p3 p4 p5 p6 p7 p8 p9 p10 p11 p12 p13 p14 p15 p17 p18 p19 p20 p21 p22 p23 p24 p25 p26 p27 p28 p29 p30 p31 p32 p33 p34 p35 p36 p37 p38 p39 p40 p41 p42 p43 p44 p45 p56 p57 p58 p59 p60 p61 p62 p63 p64 p65 p66 p67 p68 p69 p70 p71 p72 p73) (m7 mg : Nat) (w : World) (h : R9 w0 none none (some m7) none (some mg) w) : wpAnyH Try.prog .any ops9 Q S 5 #[true, true, true, true, true, false, false, true, false, false, true, false] (act9 p0 p1 p2 p3 p4 p5 p6 p7 p8 p9 p10 p11 p12 p13 p14 p15 p17 p18 p19 p20 p21 p22 p23 p24 p25 p26 p27 p28 p29 p30 p31 p32 p33 p34 p35 p36 p37 p38 p39 p40 p41 p42 p43 p44 p45 (.agg #[.int .i64 (N : Int), .int .i64 (H : Int)]) (.agg #[.int .i64 (N : Int), .int .i64 (H : Int)]) p56 p57 p58 p59 p60 p61 p62 p63 p64 p65 p66 p67 p68 p69 p70 p71 p72 p73 (.int .i64 fi) (.int .i64 (fi + 2)) (.agg #[.int .i64 (fi + 2), .bool false, .slice none 0 0]) undef undef (.map (some m7)) undef undef (.pointer (some ⟨mg, 0, none⟩))) w := by
  refine wpAnyH_ready (rs := [5, 6, 8]) (by kernel_rfl) (by simp) (AllReadyH.cons (o := ops9[5]) rfl (fun KK hK => ?_) (AllReadyH.cons (o := ops9[6]) rfl (fun KK hK => ?_) (AllReadyH.cons (o := ops9[8]) rfl (fun KK hK => ?_) AllReadyH.nil)))
  · refine step_makemap rfl rfl ?_
    refine hK.out _ _ (Y.hS _ h.add5.low) (fun hHeld => ?_)
    clear hK
    exact r9_110101 Y w.heap.size m7 mg (w.alloc (.map #[] 0)) h.add5
  · refine step_makemap rfl rfl ?_
    refine hK.out _ _ (Y.hS _ h.add6.low) (fun hHeld => ?_)
    clear hK
    exact r9_101101 Y w.heap.size m7 mg (w.alloc (.map #[] 0)) h.add6
  · refine step_makemap rfl rfl ?_
    refine hK.out _ _ (Y.hS _ h.add8.low) (fun hHeld => ?_)
    clear hK
    exact r9_100111 Y m7 w.heap.size mg (w.alloc (.map #[] 0)) h.add8
set_option maxHeartbeats 2000000 in
theorem r9_100110 (Y : Hyp9 w0 S Q N H fi p0 p1 p2 p3 p4 p5 p6 p7 p8 p9 p10 p11 p12 p13 p14 p15 p17 p18 p19 p20 p21 p22 p23 p24 p25 p26 p27 p28 p29 p30 p31 p32 p33 p34 p35 p36 p37 p38 p39 p40 p41 p42 p43 p44 p45 p56 p57 p58 p59 p60 p61 p62 p63 p64 p65 p66 p67 p68 p69 p70 p71 p72 p73) (m7 m8 : Nat) (w : World) (h : R9 w0 none none (some m7) (some m8) none w) : wpAnyH Try.prog .any ops9 Q S 5 #[true, true, true, true, true, false, false, true, true, false, false, false] (act9 p0 p1 p2 p3 p4 p5 p6 p7 p8 p9 p10 p11 p12 p13 p14 p15 p17 p18 p19 p20 p21 p22 p23 p24 p25 p26 p27 p28 p29 p30 p31 p32 p33 p34 p35 p36 p37 p38 p39 p40 p41 p42 p43 p44 p45 (.agg #[.int .i64 (N : Int), .int .i64 (H : Int)]) (.agg #[.int .i64 (N : Int), .int .i64 (H : Int)]) p56 p57 p58 p59 p60 p61 p62 p63 p64 p65 p66 p67 p68 p69 p70 p71 p72 p73 (.int .i64 fi) (.int .i64 (fi + 2)) (.agg #[.int .i64 (fi + 2), .bool false, .slice none 0 0]) undef undef (.map (some m7)) (.map (some m8)) undef undef) w := by
  refine wpAnyH_ready (rs := [5, 6, 10]) (by kernel_rfl) (by simp) (AllReadyH.cons (o := ops9[5]) rfl (fun KK hK => ?_) (AllReadyH.cons (o := ops9[6]) rfl (fun KK hK => ?_) (AllReadyH.cons (o := ops9[10]) rfl (fun KK hK => ?_) AllReadyH.nil)))
  · refine step_makemap rfl rfl ?_
    refine hK.out _ _ (Y.hS _ h.add5.low) (fun hHeld => ?_)
    clear hK
    exact r9_110110 Y w.heap.size m7 m8 (w.alloc (.map #[] 0)) h.add5
  · refine step_makemap rfl rfl ?_
    refine hK.out _ _ (Y.hS _ h.add6.low) (fun hHeld => ?_)
    clear hK
    exact r9_101110 Y w.heap.size m7 m8 (w.alloc (.map #[] 0)) h.add6
  · unfold ops9
    go_simp
    refine hK.out _ _ (Y.hS _ h.addg.low) (fun hHeld => ?_)
    clear hK
    exact r9_100111 Y m7 m8 w.heap.size (w.alloc (.cells #[.int .i64 0, .int .i64 0, .int .i64 0, .bool false, .slice none 0 0, .map none, .map none, .map none, .map none] 101)) h.addg
set_option maxHeartbeats 2000000 in
theorem r9_101001 (Y : Hyp9 w0 S Q N H fi p0 p1 p2 p3 p4 p5 p6 p7 p8 p9 p10 p11 p12 p13 p14 p15 p17 p18 p19 p20 p21 p22 p23 p24 p25 p26 p27 p28 p29 p30 p31 p32 p33 p34 p35 p36 p37 p38 p39 p40 p41 p42 p43 p44 p45 p56 p57 p58 p59 p60 p61 p62 p63 p64 p65 p66 p67 p68 p69 p70 p71 p72 p73) (m6 mg : Nat) (w : World) (h : R9 w0 none (some m6) none none (some mg) w) : wpAnyH Try.prog .any ops9 Q S 5 #[true, true, true, true, true, false, true, false, false, false, true, false] (act9 p0 p1 p2 p3 p4 p5 p6 p7 p8 p9 p10 p11 p12 p13 p14 p15 p17 p18 p19 p20 p21 p22 p23 p24 p25 p26 p27 p28 p29 p30 p31 p32 p33 p34 p35 p36 p37 p38 p39 p40 p41 p42 p43 p44 p45 (.agg #[.int .i64 (N : Int), .int .i64 (H : Int)]) (.agg #[.int .i64 (N : Int), .int .i64 (H : Int)]) p56 p57 p58 p59 p60 p61 p62 p63 p64 p65 p66 p67 p68 p69 p70 p71 p72 p73 (.int .i64 fi) (.int .i64 (fi + 2)) (.agg #[.int .i64 (fi + 2), .bool false, .slice none 0 0]) undef (.map (some m6)) undef undef undef (.pointer (some ⟨mg, 0, none⟩))) w := by
  refine wpAnyH_ready (rs := [5, 7, 8]) (by kernel_rfl) (by simp) (AllReadyH.cons (o := ops9[5]) rfl (fun KK hK => ?_) (AllReadyH.cons (o := ops9[7]) rfl (fun KK hK => ?_) (AllReadyH.cons (o := ops9[8]) rfl (fun KK hK => ?_) AllReadyH.nil)))
  · refine step_makemap rfl rfl ?_
    refine hK.out _ _ (Y.hS _ h.add5.low) (fun hHeld => ?_)
    clear hK
    exact r9_111001 Y w.heap.size m6 mg (w.alloc (.map #[] 0)) h.add5
  · refine step_makemap rfl rfl ?_
    refine hK.out _ _ (Y.hS _ h.add7.low) (fun hHeld => ?_)
    clear hK
    exact r9_101101 Y m6 w.heap.size mg (w.alloc (.map #[] 0)) h.add7
  · refine step_makemap rfl rfl ?_
    refine hK.out _ _ (Y.hS _ h.add8.low) (fun hHeld => ?_)
    clear hK
    exact r9_101011 Y m6 w.heap.size mg (w.alloc (.map #[] 0)) h.add8
set_option maxHeartbeats 2000000 in
theorem r9_101010 (Y : Hyp9 w0 S Q N H fi p0 p1 p2 p3 p4 p5 p6 p7 p8 p9 p10 p11 p12 p13 p14 p15 p17 p18 p19 p20 p21 p22 p23 p24 p25 p26 p27 p28 p29 p30 p31 p32 p33 p34 p35 p36 p37 p38 p39 p40 p41 p42 p43 p44 p45 p56 p57 p58 p59 p60 p61 p62 p63 p64 p65 p66 p67 p68 p69 p70 p71 p72 p73) (m6 m8 : Nat) (w : World) (h : R9 w0 none (some m6) none (some m8) none w) : wpAnyH Try.prog .any ops9 Q S 5 #[true, true, true, true, true, false, true, false, true, false, false, false] (act9 p0 p1 p2 p3 p4 p5 p6 p7 p8 p9 p10 p11 p12 p13 p14 p15 p17 p18 p19 p20 p21 p22 p23 p24 p25 p26 p27 p28 p29 p30 p31 p32 p33 p34 p35 p36 p37 p38 p39 p40 p41 p42 p43 p44 p45 (.agg #[.int .i64 (N : Int), .int .i64 (H : Int)]) (.agg #[.int .i64 (N : Int), .int .i64 (H : Int)]) p56 p57 p58 p59 p60 p61 p62 p63 p64 p65 p66 p67 p68 p69 p70 p71 p72 p73 (.int .i64 fi) (.int .i64 (fi + 2)) (.agg #[.int .i64 (fi + 2), .bool false, .slice none 0 0]) undef (.map (some m6)) undef (.map (some m8)) undef undef) w := by
  refine wpAnyH_ready (rs := [5, 7, 10]) (by kernel_rfl) (by simp) (AllReadyH.cons (o := ops9[5]) rfl (fun KK hK => ?_) (AllReadyH.cons (o := ops9[7]) rfl (fun KK hK => ?_) (AllReadyH.cons (o := ops9[10]) rfl (fun KK hK => ?_) AllReadyH.nil)))
  · refine step_makemap rfl rfl ?_
    refine hK.out _ _ (Y.hS _ h.add5.low) (fun hHeld => ?_)
    clear hK
    exact r9_111010 Y w.heap.size m6 m8 (w.alloc (.map #[] 0)) h.add5
  · refine step_makemap rfl rfl ?_
    refine hK.out _ _ (Y.hS _ h.add7.low) (fun hHeld => ?_)
    clear hK
    exact r9_101110 Y m6 w.heap.size m8 (w.alloc (.map #[] 0)) h.add7
  · unfold ops9
    go_simp
    refine hK.out _ _ (Y.hS _ h.addg.low) (fun hHeld => ?_)
    clear hK
    exact r9_101011 Y m6 m8 w.heap.size (w.alloc (.cells #[.int .i64 0, .int .i64 0, .int .i64 0, .bool false, .slice none 0 0, .map none, .map none, .map none, .map none] 101)) h.addg
set_option maxHeartbeats 2000000 in
theorem r9_101100 (Y : Hyp9 w0 S Q N H fi p0 p1 p2 p3 p4 p5 p6 p7 p8 p9 p10 p11 p12 p13 p14 p15 p17 p18 p19 p20 p21 p22 p23 p24 p25 p26 p27 p28 p29 p30 p31 p32 p33 p34 p35 p36 p37 p38 p39 p40 p41 p42 p43 p44 p45 p56 p57 p58 p59 p60 p61 p62 p63 p64 p65 p66 p67 p68 p69 p70 p71 p72 p73) (m6 m7 : Nat) (w : World) (h : R9 w0 none (some m6) (some m7) none none w) : wpAnyH Try.prog .any ops9 Q S 5 #[true, true, true, true, true, false, true, true, false, false, false, false] (act9 p0 p1 p2 p3 p4 p5 p6 p7 p8 p9 p10 p11 p12 p13 p14 p15 p17 p18 p19 p20 p21 p22 p23 p24 p25 p26 p27 p28 p29 p30 p31 p32 p33 p34 p35 p36 p37 p38 p39 p40 p41 p42 p43 p44 p45 (.agg #[.int .i64 (N : Int), .int .i64 (H : Int)]) (.agg #[.int .i64 (N : Int), .int .i64 (H : Int)]) p56 p57 p58 p59 p60 p61 p62 p63 p64 p65 p66 p67 p68 p69 p70 p71 p72 p73 (.int .i64 fi) (.int .i64 (fi + 2)) (.agg #[.int .i64 (fi + 2), .bool false, .slice none 0 0]) undef (.map (some m6)) (.map (some m7)) undef undef undef) w := by
  refine wpAnyH_ready (rs := [5, 8, 10]) (by kernel_rfl) (by simp) (AllReadyH.cons (o := ops9[5]) rfl (fun KK hK => ?_) (AllReadyH.cons (o := ops9[8]) rfl (fun KK hK => ?_) (AllReadyH.cons (o := ops9[10]) rfl (fun KK hK => ?_) AllReadyH.nil)))
  · refine step_makemap rfl rfl ?_
    refine hK.out _ _ (Y.hS _ h.add5.low) (fun hHeld => ?_)
    clear hK
    exact r9_111100 Y w.heap.size m6 m7 (w.alloc (.map #[] 0)) h.add5
  · refine step_makemap rfl rfl ?_
    refine hK.out _ _ (Y.hS _ h.add8.low) (fun hHeld => ?_)
    clear hK
    exact r9_101110 Y m6 m7 w.heap.size (w.alloc (.map #[] 0)) h.add8
  · unfold ops9
    go_simp
    refine hK.out _ _ (Y.hS _ h.addg.low) (fun hHeld => ?_)
    clear hK
    exact r9_101101 Y m6 m7 w.heap.size (w.alloc (.cells #[.int .i64 0, .int .i64 0, .int .i64 0, .bool false, .slice none 0 0, .map none, .map none, .map none, .map none] 101)) h.addg
set_option maxHeartbeats 2000000 in
theorem r9_110001 (Y : Hyp9 w0 S Q N H fi p0 p1 p2 p3 p4 p5 p6 p7 p8 p9 p10 p11 p12 p13 p14 p15 p17 p18 p19 p20 p21 p22 p23 p24 p25 p26 p27 p28 p29 p30 p31 p32 p33 p34 p35 p36 p37 p38 p39 p40 p41 p42 p43 p44 p45 p56 p57 p58 p59 p60 p61 p62 p63 p64 p65 p66 p67 p68 p69 p70 p71 p72 p73) (m5 mg : Nat) (w : World) (h : R9 w0 (some m5) none none none (some mg) w) : wpAnyH Try.prog .any ops9 Q S 5 #[true, true, true, true, true, true, false, false, false, false, true, false] (act9 p0 p1 p2 p3 p4 p5 p6 p7 p8 p9 p10 p11 p12 p13 p14 p15 p17 p18 p19 p20 p21 p22 p23 p24 p25 p26 p27 p28 p29 p30 p31 p32 p33 p34 p35 p36 p37 p38 p39 p40 p41 p42 p43 p44 p45 (.agg #[.int .i64 (N : Int), .int .i64 (H : Int)]) (.agg #[.int .i64 (N : Int), .int .i64 (H : Int)]) p56 p57 p58 p59 p60 p61 p62 p63 p64 p65 p66 p67 p68 p69 p70 p71 p72 p73 (.int .i64 fi) (.int .i64 (fi + 2)) (.agg #[.int .i64 (fi + 2), .bool false, .slice none 0 0]) (.map (some m5)) undef undef undef undef (.pointer (some ⟨mg, 0, none⟩))) w := by
  refine wpAnyH_ready (rs := [6, 7, 8]) (by kernel_rfl) (by simp) (AllReadyH.cons (o := ops9[6]) rfl (fun KK hK => ?_) (AllReadyH.cons (o := ops9[7]) rfl (fun KK hK => ?_) (AllReadyH.cons (o := ops9[8]) rfl (fun KK hK => ?_) AllReadyH.nil)))
  · refine step_makemap rfl rfl ?_
    refine hK.out _ _ (Y.hS _ h.add6.low) (fun hHeld => ?_)
    clear hK
    exact r9_111001 Y m5 w.heap.size mg (w.alloc (.map #[] 0)) h.add6
  · refine step_makemap rfl rfl ?_
    refine hK.out _ _ (Y.hS _ h.add7.low) (fun hHeld => ?_)
    clear hK
    exact r9_110101 Y m5 w.heap.size mg (w.alloc (.map #[] 0)) h.add7
  · refine step_makemap rfl rfl ?_
    refine hK.out _ _ (Y.hS _ h.add8.low) (fun hHeld => ?_)
    clear hK
    exact r9_110011 Y m5 w.heap.size mg (w.alloc (.map #[] 0)) h.add8
set_option maxHeartbeats 2000000 in
theorem r9_110010 (Y : Hyp9 w0 S Q N H fi p0 p1 p2 p3 p4 p5 p6 p7 p8 p9 p10 p11 p12 p13 p14 p15 p17 p18 p19 p20 p21 p22 p23 p24 p25 p26 p27 p28 p29 p30 p31 p32 p33 p34 p35 p36 p37 p38 p39 p40 p41 p42 p43 p44 p45 p56 p57 p58 p59 p60 p61 p62 p63 p64 p65 p66 p67 p68 p69 p70 p71 p72 p73) (m5 m8 : Nat) (w : World) (h : R9 w0 (some m5) none none (some m8) none w) : wpAnyH Try.prog .any ops9 Q S 5 #[true, true, true, true, true, true, false, false, true, false, false, false] (act9 p0 p1 p2 p3 p4 p5 p6 p7 p8 p9 p10 p11 p12 p13 p14 p15 p17 p18 p19 p20 p21 p22 p23 p24 p25 p26 p27 p28 p29 p30 p31 p32 p33 p34 p35 p36 p37 p38 p39 p40 p41 p42 p43 p44 p45 (.agg #[.int .i64 (N : Int), .int .i64 (H : Int)]) (.agg #[.int .i64 (N : Int), .int .i64 (H : Int)]) p56 p57 p58 p59 p60 p61 p62 p63 p64 p65 p66 p67 p68 p69 p70 p71 p72 p73 (.int .i64 fi) (.int .i64 (fi + 2)) (.agg #[.int .i64 (fi + 2), .bool false, .slice none 0 0]) (.map (some m5)) undef undef (.map (some m8)) undef undef) w := by
  refine wpAnyH_ready (rs := [6, 7, 10]) (by kernel_rfl) (by simp) (AllReadyH.cons (o := ops9[6]) rfl (fun KK hK => ?_) (AllReadyH.cons (o := ops9[7]) rfl (fun KK hK => ?_) (AllReadyH.cons (o := ops9[10]) rfl (fun KK hK => ?_) AllReadyH.nil)))
  · refine step_makemap rfl rfl ?_
    refine hK.out _ _ (Y.hS _ h.add6.low) (fun hHeld => ?_)
    clear hK
    exact r9_111010 Y m5 w.heap.size m8 (w.alloc (.map #[] 0)) h.add6
  · refine step_makemap rfl rfl ?_
    refine hK.out _ _ (Y.hS _ h.add7.low) (fun hHeld => ?_)
    clear hK
    exact r9_110110 Y m5 w.heap.size m8 (w.alloc (.map #[] 0)) h.add7
  · unfold ops9
    go_simp
    refine hK.out _ _ (Y.hS _ h.addg.low) (fun hHeld => ?_)
    clear hK
    exact r9_110011 Y m5 m8 w.heap.size (w.alloc (.cells #[.int .i64 0, .int .i64 0, .int .i64 0, .bool false, .slice none 0 0, .map none, .map none, .map none, .map none] 101)) h.addg
set_option maxHeartbeats 2000000 in
theorem r9_110100 (Y : Hyp9 w0 S Q N H fi p0 p1 p2 p3 p4 p5 p6 p7 p8 p9 p10 p11 p12 p13 p14 p15 p17 p18 p19 p20 p21 p22 p23 p24 p25 p26 p27 p28 p29 p30 p31 p32 p33 p34 p35 p36 p37 p38 p39 p40 p41 p42 p43 p44 p45 p56 p57 p58 p59 p60 p61 p62 p63 p64 p65 p66 p67 p68 p69 p70 p71 p72 p73) (m5 m7 : Nat) (w : World) (h : R9 w0 (some m5) none (some m7) none none w) : wpAnyH Try.prog .any ops9 Q S 5 #[true, true, true, true, true, true, false, true, false, false, false, false] (act9 p0 p1 p2 p3 p4 p5 p6 p7 p8 p9 p10 p11 p12 p13 p14 p15 p17 p18 p19 p20 p21 p22 p23 p24 p25 p26 p27 p28 p29 p30 p31 p32 p33 p34 p35 p36 p37 p38 p39 p40 p41 p42 p43 p44 p45 (.agg #[.int .i64 (N : Int), .int .i64 (H : Int)]) (.agg #[.int .i64 (N : Int), .int .i64 (H : Int)]) p56 p57 p58 p59 p60 p61 p62 p63 p64 p65 p66 p67 p68 p69 p70 p71 p72 p73 (.int .i64 fi) (.int .i64 (fi + 2)) (.agg #[.int .i64 (fi + 2), .bool false, .slice none 0 0]) (.map (some m5)) undef (.map (some m7)) undef undef undef) w := by
  refine wpAnyH_ready (rs := [6, 8, 10]) (by kernel_rfl) (by simp) (AllReadyH.cons (o := ops9[6]) rfl (fun KK hK => ?_) (AllReadyH.cons (o := ops9[8]) rfl (fun KK hK => ?_) (AllReadyH.cons (o := ops9[10]) rfl (fun KK hK => ?_) AllReadyH.nil)))
  · refine step_makemap rfl rfl ?_
    refine hK.out _ _ (Y.hS _ h.add6.low) (fun hHeld => ?_)
    clear hK
    exact r9_111100 Y m5 w.heap.size m7 (w.alloc (.map #[] 0)) h.add6
  · refine step_makemap rfl rfl ?_
    refine hK.out _ _ (Y.hS _ h.add8.low) (fun hHeld => ?_)
    clear hK
    exact r9_110110 Y m5 m7 w.heap.size (w.alloc (.map #[] 0)) h.add8
  · unfold ops9
    go_simp
    refine hK.out _ _ (Y.hS _ h.addg.low) (fun hHeld => ?_)
    clear hK
    exact r9_110101 Y m5 m7 w.heap.size (w.alloc (.cells #[.int .i64 0, .int .i64 0, .int .i64 0, .bool false, .slice none 0 0, .map none, .map none, .map none, .map none] 101)) h.addg
set_option maxHeartbeats 2000000 in
theorem r9_111000 (Y : Hyp9 w0 S Q N H fi p0 p1 p2 p3 p4 p5 p6 p7 p8 p9 p10 p11 p12 p13 p14 p15 p17 p18 p19 p20 p21 p22 p23 p24 p25 p26 p27 p28 p29 p30 p31 p32 p33 p34 p35 p36 p37 p38 p39 p40 p41 p42 p43 p44 p45 p56 p57 p58 p59 p60 p61 p62 p63 p64 p65 p66 p67 p68 p69 p70 p71 p72 p73) (m5 m6 : Nat) (w : World) (h : R9 w0 (some m5) (some m6) none none none w) : wpAnyH Try.prog .any ops9 Q S 5 #[true, true, true, true, true, true, true, false, false, false, false, false] (act9 p0 p1 p2 p3 p4 p5 p6 p7 p8 p9 p10 p11 p12 p13 p14 p15 p17 p18 p19 p20 p21 p22 p23 p24 p25 p26 p27 p28 p29 p30 p31 p32 p33 p34 p35 p36 p37 p38 p39 p40 p41 p42 p43 p44 p45 (.agg #[.int .i64 (N : Int), .int .i64 (H : Int)]) (.agg #[.int .i64 (N : Int), .int .i64 (H : Int)]) p56 p57 p58 p59 p60 p61 p62 p63 p64 p65 p66 p67 p68 p69 p70 p71 p72 p73 (.int .i64 fi) (.int .i64 (fi + 2)) (.agg #[.int .i64 (fi + 2), .bool false, .slice none 0 0]) (.map (some m5)) (.map (some m6)) undef undef undef undef) w := by
  refine wpAnyH_ready (rs := [7, 8, 10]) (by kernel_rfl) (by simp) (AllReadyH.cons (o := ops9[7]) rfl (fun KK hK => ?_) (AllReadyH.cons (o := ops9[8]) rfl (fun KK hK => ?_) (AllReadyH.cons (o := ops9[10]) rfl (fun KK hK => ?_) AllReadyH.nil)))
  · refine step_makemap rfl rfl ?_
    refine hK.out _ _ (Y.hS _ h.add7.low) (fun hHeld => ?_)
    clear hK
    exact r9_111100 Y m5 m6 w.heap.size (w.alloc (.map #[] 0)) h.add7
  · refine step_makemap rfl rfl ?_
    refine hK.out _ _ (Y.hS _ h.add8.low) (fun hHeld => ?_)
    clear hK
    exact r9_111010 Y m5 m6 w.heap.size (w.alloc (.map #[] 0)) h.add8
  · unfold ops9
    go_simp
    refine hK.out _ _ (Y.hS _ h.addg.low) (fun hHeld => ?_)
    clear hK
    exact r9_111001 Y m5 m6 w.heap.size (w.alloc (.cells #[.int .i64 0, .int .i64 0, .int .i64 0, .bool false, .slice none 0 0, .map none, .map none, .map none, .map none] 101)) h.addg
set_option maxHeartbeats 2000000 in
theorem r9_000011 (Y : Hyp9 w0 S Q N H fi p0 p1 p2 p3 p4 p5 p6 p7 p8 p9 p10 p11 p12 p13 p14 p15 p17 p18 p19 p20 p21 p22 p23 p24 p25 p26 p27 p28 p29 p30 p31 p32 p33 p34 p35 p36 p37 p38 p39 p40 p41 p42 p43 p44 p45 p56 p57 p58 p59 p60 p61 p62 p63 p64 p65 p66 p67 p68 p69 p70 p71 p72 p73) (m8 mg : Nat) (w : World) (h : R9 w0 none none none (some m8) (some mg) w) : wpAnyH Try.prog .any ops9 Q S 8 #[true, true, false, false, false, false, false, false, true, false, true, false] (act9 p0 p1 p2 p3 p4 p5 p6 p7 p8 p9 p10 p11 p12 p13 p14 p15 p17 p18 p19 p20 p21 p22 p23 p24 p25 p26 p27 p28 p29 p30 p31 p32 p33 p34 p35 p36 p37 p38 p39 p40 p41 p42 p43 p44 p45 (.agg #[.int .i64 (N : Int), .int .i64 (H : Int)]) (.agg #[.int .i64 (N : Int), .int .i64 (H : Int)]) p56 p57 p58 p59 p60 p61 p62 p63 p64 p65 p66 p67 p68 p69 p70 p71 p72 p73 (undef) (undef) (undef) undef undef undef (.map (some m8)) undef (.pointer (some ⟨mg, 0, none⟩))) w := by
  refine wpAnyH_ready (rs := [2, 5, 6, 7]) (by kernel_rfl) (by simp) (AllReadyH.cons (o := ops9[2]) rfl (fun KK hK => ?_) (AllReadyH.cons (o := ops9[5]) rfl (fun KK hK => ?_) (AllReadyH.cons (o := ops9[6]) rfl (fun KK hK => ?_) (AllReadyH.cons (o := ops9[7]) rfl (fun KK hK => ?_) AllReadyH.nil))))
  · unfold act9 ops9
    go_simp
    refine (ugsize_any N H _ Y.hN Y.hH).mono ?_
    rw [Y.hfi]
    rintro e w2 ⟨rfl, hb⟩
    have h2 := h.next hb
    go_wp2_with fail
    refine hK.out _ _ (Y.hS _ h2.low) (fun hHeld => ?_)
    clear hK
    refine wpAnyH_take (i := 3) (oi := ops9[3]) (v := .int .i64 (fi + 2)) rfl (by kernel_rfl) (by kernel_rfl) (by kernel_rfl) (fun c a w h => Y.hQ c a w _ _ h) (Or.inl ⟨by rfl, ?_⟩) (by assumption) ?_
    · (intro w hSw; have hwf := Y.hwf; unfold ops9; go_simp)
    refine wpAnyH_take (i := 4) (oi := ops9[4]) (v := .agg #[.int .i64 (fi + 2), .bool false, .slice none 0 0]) rfl (by kernel_rfl) (by kernel_rfl) (by kernel_rfl) (fun c a w h => Y.hQ c a w _ _ h) (Or.inl ⟨by rfl, ?_⟩) (by assumption) ?_
    · (intro w hSw; have hwf := Y.hwf; unfold ops9; go_simp)
    exact r9_100011 Y m8 mg w2 h2
  · refine step_makemap rfl rfl ?_
    refine hK.out _ _ (Y.hS _ h.add5.low) (fun hHeld => ?_)
    clear hK
    exact r9_010011 Y w.heap.size m8 mg (w.alloc (.map #[] 0)) h.add5
  · refine step_makemap rfl rfl ?_
    refine hK.out _ _ (Y.hS _ h.add6.low) (fun hHeld => ?_)
    clear hK
    exact r9_001011 Y w.heap.size m8 mg (w.alloc (.map #[] 0)) h.add6
  · refine step_makemap rfl rfl ?_
    refine hK.out _ _ (Y.hS _ h.add7.low) (fun hHeld => ?_)
    clear hK
    exact r9_000111 Y w.heap.size m8 mg (w.alloc (.map #[] 0)) h.add7
set_option maxHeartbeats 2000000 in
theorem r9_000101 (Y : Hyp9 w0 S Q N H fi p0 p1 p2 p3 p4 p5 p6 p7 p8 p9 p10 p11 p12 p13 p14 p15 p17 p18 p19 p20 p21 p22 p23 p24 p25 p26 p27 p28 p29 p30 p31 p32 p33 p34 p35 p36 p37 p38 p39 p40 p41 p42 p43 p44 p45 p56 p57 p58 p59 p60 p61 p62 p63 p64 p65 p66 p67 p68 p69 p70 p71 p72 p73) (m7 mg : Nat) (w : World) (h : R9 w0 none none (some m7) none (some mg) w) : wpAnyH Try.prog .any ops9 Q S 8 #[true, true, false, false, false, false, false, true, false, false, true, false] (act9 p0 p1 p2 p3 p4 p5 p6 p7 p8 p9 p10 p11 p12 p13 p14 p15 p17 p18 p19 p20 p21 p22 p23 p24 p25 p26 p27 p28 p29 p30 p31 p32 p33 p34 p35 p36 p37 p38 p39 p40 p41 p42 p43 p44 p45 (.agg #[.int .i64 (N : Int), .int .i64 (H : Int)]) (.agg #[.int .i64 (N : Int), .int .i64 (H : Int)]) p56 p57 p58 p59 p60 p61 p62 p63 p64 p65 p66 p67 p68 p69 p70 p71 p72 p73 (undef) (undef) (undef) undef undef (.map (some m7)) undef undef (.pointer (some ⟨mg, 0, none⟩))) w := by
  refine wpAnyH_ready (rs := [2, 5, 6, 8]) (by kernel_rfl) (by simp) (AllReadyH.cons (o := ops9[2]) rfl (fun KK hK => ?_) (AllReadyH.cons (o := ops9[5]) rfl (fun KK hK => ?_) (AllReadyH.cons (o := ops9[6]) rfl (fun KK hK => ?_) (AllReadyH.cons (o := ops9[8]) rfl (fun KK hK => ?_) AllReadyH.nil))))
  · unfold act9 ops9
    go_simp
    refine (ugsize_any N H _ Y.hN Y.hH).mono ?_
    rw [Y.hfi]
    rintro e w2 ⟨rfl, hb⟩
    have h2 := h.next hb
    go_wp2_with fail
    refine hK.out _ _ (Y.hS _ h2.low) (fun hHeld => ?_)
    clear hK
    refine wpAnyH_take (i := 3) (oi := ops9[3]) (v := .int .i64 (fi + 2)) rfl (by kernel_rfl) (by kernel_rfl) (by kernel_rfl) (fun c a w h => Y.hQ c a w _ _ h) (Or.inl ⟨by rfl, ?_⟩) (by assumption) ?_
    · (intro w hSw; have hwf := Y.hwf; unfold ops9; go_simp)
    refine wpAnyH_take (i := 4) (oi := ops9[4]) (v := .agg #[.int .i64 (fi + 2), .bool false, .slice none 0 0]) rfl (by kernel_rfl) (by kernel_rfl) (by kernel_rfl) (fun c a w h => Y.hQ c a w _ _ h) (Or.inl ⟨by rfl, ?_⟩) (by assumption) ?_
    · (intro w hSw; have hwf := Y.hwf; unfold ops9; go_simp)
    exact r9_100101 Y m7 mg w2 h2
  · refine step_makemap rfl rfl ?_
    refine hK.out _ _ (Y.hS _ h.add5.low) (fun hHeld => ?_)
    clear hK
    exact r9_010101 Y w.heap.size m7 mg (w.alloc (.map #[] 0)) h.add5
  · refine step_makemap rfl rfl ?_
    refine hK.out _ _ (Y.hS _ h.add6.low) (fun hHeld => ?_)
    clear hK
    exact r9_001101 Y w.heap.size m7 mg (w.alloc (.map #[] 0)) h.add6
  · refine step_makemap rfl rfl ?_
    refine hK.out _ _ (Y.hS _ h.add8.low) (fun hHeld => ?_)
    clear hK
    exact r9_000111 Y m7 w.heap.size mg (w.alloc (.map #[] 0)) h.add8
set_option maxHeartbeats 2000000 in
theorem r9_000110 (Y : Hyp9 w0 S Q N H fi p0 p1 p2 p3 p4 p5 p6 p7 p8 p9 p10 p11 p12 p13 p14 p15 p17 p18 p19 p20 p21 p22 p23 p24 p25 p26 p27 p28 p29 p30 p31 p32 p33 p34 p35 p36 p37 p38 p39 p40 p41 p42 p43 p44 p45 p56 p57 p58 p59 p60 p61 p62 p63 p64 p65 p66 p67 p68 p69 p70 p71 p72 p73) (m7 m8 : Nat) (w : World) (h : R9 w0 none none (some m7) (some m8) none w) : wpAnyH Try.prog .any ops9 Q S 8 #[true, true, false, false, false, false, false, true, true, false, false, false] (act9 p0 p1 p2 p3 p4 p5 p6 p7 p8 p9 p10 p11 p12 p13 p14 p15 p17 p18 p19 p20 p21 p22 p23 p24 p25 p26 p27 p28 p29 p30 p31 p32 p33 p34 p35 p36 p37 p38 p39 p40 p41 p42 p43 p44 p45 (.agg #[.int .i64 (N : Int), .int .i64 (H : Int)]) (.agg #[.int .i64 (N : Int), .int .i64 (H : Int)]) p56 p57 p58 p59 p60 p61 p62 p63 p64 p65 p66 p67 p68 p69 p70 p71 p72 p73 (undef) (undef) (undef) undef undef (.map (some m7)) (.map (some m8)) undef undef) w := by
  refine wpAnyH_ready (rs := [2, 5, 6, 10]) (by kernel_rfl) (by simp) (AllReadyH.cons (o := ops9[2]) rfl (fun KK hK => ?_) (AllReadyH.cons (o := ops9[5]) rfl (fun KK hK => ?_) (AllReadyH.cons (o := ops9[6]) rfl (fun KK hK => ?_) (AllReadyH.cons (o := ops9[10]) rfl (fun KK hK => ?_) AllReadyH.nil))))
  · unfold act9 ops9
    go_simp
    refine (ugsize_any N H _ Y.hN Y.hH).mono ?_
    rw [Y.hfi]
    rintro e w2 ⟨rfl, hb⟩
    have h2 := h.next hb
    go_wp2_with fail
    refine hK.out _ _ (Y.hS _ h2.low) (fun hHeld => ?_)
    clear hK
    refine wpAnyH_take (i := 3) (oi := ops9[3]) (v := .int .i64 (fi + 2)) rfl (by kernel_rfl) (by kernel_rfl) (by kernel_rfl) (fun c a w h => Y.hQ c a w _ _ h) (Or.inl ⟨by rfl, ?_⟩) (by assumption) ?_
    · (intro w hSw; have hwf := Y.hwf; unfold ops9; go_simp)
    refine wpAnyH_take (i := 4) (oi := ops9[4]) (v := .agg #[.int .i64 (fi + 2), .bool false, .slice none 0 0]) rfl (by kernel_rfl) (by kernel_rfl) (by kernel_rfl) (fun c a w h => Y.hQ c a w _ _ h) (Or.inl ⟨by rfl, ?_⟩) (by assumption) ?_
    · (intro w hSw; have hwf := Y.hwf; unfold ops9; go_simp)
    exact r9_100110 Y m7 m8 w2 h2
  · refine step_makemap rfl rfl ?_
    refine hK.out _ _ (Y.hS _ h.add5.low) (fun hHeld => ?_)
    clear hK
    exact r9_010110 Y w.heap.size m7 m8 (w.alloc (.map #[] 0)) h.add5
  · refine step_makemap rfl rfl ?_
    refine hK.out _ _ (Y.hS _ h.add6.low) (fun hHeld => ?_)
    clear hK
    exact r9_001110 Y w.heap.size m7 m8 (w.alloc (.map #[] 0)) h.add6
  · unfold ops9
    go_simp
    refine hK.out _ _ (Y.hS _ h.addg.low) (fun hHeld => ?_)
    clear hK
    exact r9_000111 Y m7 m8 w.heap.size (w.alloc (.cells #[.int .i64 0, .int .i64 0, .int .i64 0, .bool false, .slice none 0 0, .map none, .map none, .map none, .map none] 101)) h.addg
set_option maxHeartbeats 2000000 in
theorem r9_001001 (Y : Hyp9 w0 S Q N H fi p0 p1 p2 p3 p4 p5 p6 p7 p8 p9 p10 p11 p12 p13 p14 p15 p17 p18 p19 p20 p21 p22 p23 p24 p25 p26 p27 p28 p29 p30 p31 p32 p33 p34 p35 p36 p37 p38 p39 p40 p41 p42 p43 p44 p45 p56 p57 p58 p59 p60 p61 p62 p63 p64 p65 p66 p67 p68 p69 p70 p71 p72 p73) (m6 mg : Nat) (w : World) (h : R9 w0 none (some m6) none none (some mg) w) : wpAnyH Try.prog .any ops9 Q S 8 #[true, true, false, false, false, false, true, false, false, false, true, false] (act9 p0 p1 p2 p3 p4 p5 p6 p7 p8 p9 p10 p11 p12 p13 p14 p15 p17 p18 p19 p20 p21 p22 p23 p24 p25 p26 p27 p28 p29 p30 p31 p32 p33 p34 p35 p36 p37 p38 p39 p40 p41 p42 p43 p44 p45 (.agg #[.int .i64 (N : Int), .int .i64 (H : Int)]) (.agg #[.int .i64 (N : Int), .int .i64 (H : Int)]) p56 p57 p58 p59 p60 p61 p62 p63 p64 p65 p66 p67 p68 p69 p70 p71 p72 p73 (undef) (undef) (undef) undef (.map (some m6)) undef undef undef (.pointer (some ⟨mg, 0, none⟩))) w := by
  refine wpAnyH_ready (rs := [2, 5, 7, 8]) (by kernel_rfl) (by simp) (AllReadyH.cons (o := ops9[2]) rfl (fun KK hK => ?_) (AllReadyH.cons (o := ops9[5]) rfl (fun KK hK => ?_) (AllReadyH.cons (o := ops9[7]) rfl (fun KK hK => ?_) (AllReadyH.cons (o := ops9[8]) rfl (fun KK hK => ?_) AllReadyH.nil))))
  · unfold act9 ops9
    go_simp
    refine (ugsize_any N H _ Y.hN Y.hH).mono ?_
    rw [Y.hfi]
    rintro e w2 ⟨rfl, hb⟩
    have h2 := h.next hb
    go_wp2_with fail
    refine hK.out _ _ (Y.hS _ h2.low) (fun hHeld => ?_)
    clear hK
    refine wpAnyH_take (i := 3) (oi := ops9[3]) (v := .int .i64 (fi + 2)) rfl (by kernel_rfl) (by kernel_rfl) (by kernel_rfl) (fun c a w h => Y.hQ c a w _ _ h) (Or.inl ⟨by rfl, ?_⟩) (by assumption) ?_
    · (intro w hSw; have hwf := Y.hwf; unfold ops9; go_simp)
    refine wpAnyH_take (i := 4) (oi := ops9[4]) (v := .agg #[.int .i64 (fi + 2), .bool false, .slice none 0 0]) rfl (by kernel_rfl) (by kernel_rfl) (by kernel_rfl) (fun c a w h => Y.hQ c a w _ _ h) (Or.inl ⟨by rfl, ?_⟩) (by assumption) ?_
    · (intro w hSw; have hwf := Y.hwf; unfold ops9; go_simp)
    exact r9_101001 Y m6 mg w2 h2
  · refine step_makemap rfl rfl ?_
    refine hK.out _ _ (Y.hS _ h.add5.low) (fun hHeld => ?_)
    clear hK
    exact r9_011001 Y w.heap.size m6 mg (w.alloc (.map #[] 0)) h.add5
  · refine step_makemap rfl rfl ?_
    refine hK.out _ _ (Y.hS _ h.add7.low) (fun hHeld => ?_)
    clear hK
    exact r9_001101 Y m6 w.heap.size mg (w.alloc (.map #[] 0)) h.add7
  · refine step_makemap rfl rfl ?_
    refine hK.out _ _ (Y.hS _ h.add8.low) (fun hHeld => ?_)
    clear hK
    exact r9_001011 Y m6 w.heap.size mg (w.alloc (.map #[] 0)) h.add8
set_option maxHeartbeats 2000000 in
theorem r9_001010 (Y : Hyp9 w0 S Q N H fi p0 p1 p2 p3 p4 p5 p6 p7 p8 p9 p10 p11 p12 p13 p14 p15 p17 p18 p19 p20 p21 p22 p23 p24 p25 p26 p27 p28 p29 p30 p31 p32 p33 p34 p35 p36 p37 p38 p39 p40 p41 p42 p43 p44 p45 p56 p57 p58 p59 p60 p61 p62 p63 p64 p65 p66 p67 p68 p69 p70 p71 p72 p73) (m6 m8 : Nat) (w : World) (h : R9 w0 none (some m6) none (some m8) none w) : wpAnyH Try.prog .any ops9 Q S 8 #[true, true, false, false, false, false, true, false, true, false, false, false] (act9 p0 p1 p2 p3 p4 p5 p6 p7 p8 p9 p10 p11 p12 p13 p14 p15 p17 p18 p19 p20 p21 p22 p23 p24 p25 p26 p27 p28 p29 p30 p31 p32 p33 p34 p35 p36 p37 p38 p39 p40 p41 p42 p43 p44 p45 (.agg #[.int .i64 (N : Int), .int .i64 (H : Int)]) (.agg #[.int .i64 (N : Int), .int .i64 (H : Int)]) p56 p57 p58 p59 p60 p61 p62 p63 p64 p65 p66 p67 p68 p69 p70 p71 p72 p73 (undef) (undef) (undef) undef (.map (some m6)) undef (.map (some m8)) undef undef) w := by
  refine wpAnyH_ready (rs := [2, 5, 7, 10]) (by kernel_rfl) (by simp) (AllReadyH.cons (o := ops9[2]) rfl (fun KK hK => ?_) (AllReadyH.cons (o := ops9[5]) rfl (fun KK hK => ?_) (AllReadyH.cons (o := ops9[7]) rfl (fun KK hK => ?_) (AllReadyH.cons (o := ops9[10]) rfl (fun KK hK => ?_) AllReadyH.nil))))
  · unfold act9 ops9
    go_simp
    refine (ugsize_any N H _ Y.hN Y.hH).mono ?_
    rw [Y.hfi]
    rintro e w2 ⟨rfl, hb⟩
    have h2 := h.next hb
    go_wp2_with fail
    refine hK.out _ _ (Y.hS _ h2.low) (fun hHeld => ?_)
    clear hK
    refine wpAnyH_take (i := 3) (oi := ops9[3]) (v := .int .i64 (fi + 2)) rfl (by kernel_rfl) (by kernel_rfl) (by kernel_rfl) (fun c a w h => Y.hQ c a w _ _ h) (Or.inl ⟨by rfl, ?_⟩) (by assumption) ?_
    · (intro w hSw; have hwf := Y.hwf; unfold ops9; go_simp)
    refine wpAnyH_take (i := 4) (oi := ops9[4]) (v := .agg #[.int .i64 (fi + 2), .bool false, .slice none 0 0]) rfl (by kernel_rfl) (by kernel_rfl) (by kernel_rfl) (fun c a w h => Y.hQ c a w _ _ h) (Or.inl ⟨by rfl, ?_⟩) (by assumption) ?_
    · (intro w hSw; have hwf := Y.hwf; unfold ops9; go_simp)
    exact r9_101010 Y m6 m8 w2 h2
  · refine step_makemap rfl rfl ?_
    refine hK.out _ _ (Y.hS _ h.add5.low) (fun hHeld => ?_)
    clear hK
    exact r9_011010 Y w.heap.size m6 m8 (w.alloc (.map #[] 0)) h.add5
  · refine step_makemap rfl rfl ?_
    refine hK.out _ _ (Y.hS _ h.add7.low) (fun hHeld => ?_)
    clear hK
    exact r9_001110 Y m6 w.heap.size m8 (w.alloc (.map #[] 0)) h.add7
  · unfold ops9
    go_simp
    refine hK.out _ _ (Y.hS _ h.addg.low) (fun hHeld => ?_)
    clear hK
    exact r9_001011 Y m6 m8 w.heap.size (w.alloc (.cells #[.int .i64 0, .int .i64 0, .int .i64 0, .bool false, .slice none 0 0, .map none, .map none, .map none, .map none] 101)) h.addg
set_option maxHeartbeats 2000000 in
theorem r9_001100 (Y : Hyp9 w0 S Q N H fi p0 p1 p2 p3 p4 p5 p6 p7 p8 p9 p10 p11 p12 p13 p14 p15 p17 p18 p19 p20 p21 p22 p23 p24 p25 p26 p27 p28 p29 p30 p31 p32 p33 p34 p35 p36 p37 p38 p39 p40 p41 p42 p43 p44 p45 p56 p57 p58 p59 p60 p61 p62 p63 p64 p65 p66 p67 p68 p69 p70 p71 p72 p73) (m6 m7 : Nat) (w : World) (h : R9 w0 none (some m6) (some m7) none none w) : wpAnyH Try.prog .any ops9 Q S 8 #[true, true, false, false, false, false, true, true, false, false, false, false] (act9 p0 p1 p2 p3 p4 p5 p6 p7 p8 p9 p10 p11 p12 p13 p14 p15 p17 p18 p19 p20 p21 p22 p23 p24 p25 p26 p27 p28 p29 p30 p31 p32 p33 p34 p35 p36 p37 p38 p39 p40 p41 p42 p43 p44 p45 (.agg #[.int .i64 (N : Int), .int .i64 (H : Int)]) (.agg #[.int .i64 (N : Int), .int .i64 (H : Int)]) p56 p57 p58 p59 p60 p61 p62 p63 p64 p65 p66 p67 p68 p69 p70 p71 p72 p73 (undef) (undef) (undef) undef (.map (some m6)) (.map (some m7)) undef undef undef) w := by
  refine wpAnyH_ready (rs := [2, 5, 8, 10]) (by kernel_rfl) (by simp) (AllReadyH.cons (o := ops9[2]) rfl (fun KK hK => ?_) (AllReadyH.cons (o := ops9[5]) rfl (fun KK hK => ?_) (AllReadyH.cons (o := ops9[8]) rfl (fun KK hK => ?_) (AllReadyH.cons (o := ops9[10]) rfl (fun KK hK => ?_) AllReadyH.nil))))
  · unfold act9 ops9
    go_simp
    refine (ugsize_any N H _ Y.hN Y.hH).mono ?_
    rw [Y.hfi]
    rintro e w2 ⟨rfl, hb⟩
    have h2 := h.next hb
    go_wp2_with fail
    refine hK.out _ _ (Y.hS _ h2.low) (fun hHeld => ?_)
    clear hK
    refine wpAnyH_take (i := 3) (oi := ops9[3]) (v := .int .i64 (fi + 2)) rfl (by kernel_rfl) (by kernel_rfl) (by kernel_rfl) (fun c a w h => Y.hQ c a w _ _ h) (Or.inl ⟨by rfl, ?_⟩) (by assumption) ?_
    · (intro w hSw; have hwf := Y.hwf; unfold ops9; go_simp)
    refine wpAnyH_take (i := 4) (oi := ops9[4]) (v := .agg #[.int .i64 (fi + 2), .bool false, .slice none 0 0]) rfl (by kernel_rfl) (by kernel_rfl) (by kernel_rfl) (fun c a w h => Y.hQ c a w _ _ h) (Or.inl ⟨by rfl, ?_⟩) (by assumption) ?_
    · (intro w hSw; have hwf := Y.hwf; unfold ops9; go_simp)
    exact r9_101100 Y m6 m7 w2 h2
  · refine step_makemap rfl rfl ?_
    refine hK.out _ _ (Y.hS _ h.add5.low) (fun hHeld => ?_)
    clear hK
    exact r9_011100 Y w.heap.size m6 m7 (w.alloc (.map #[] 0)) h.add5
  · refine step_makemap rfl rfl ?_
    refine hK.out _ _ (Y.hS _ h.add8.low) (fun hHeld => ?_)
    clear hK
    exact r9_001110 Y m6 m7 w.heap.size (w.alloc (.map #[] 0)) h.add8
  · unfold ops9
    go_simp
    refine hK.out _ _ (Y.hS _ h.addg.low) (fun hHeld => ?_)
    clear hK
    exact r9_001101 Y m6 m7 w.heap.size (w.alloc (.cells #[.int .i64 0, .int .i64 0, .int .i64 0, .bool false, .slice none 0 0, .map none, .map none, .map none, .map none] 101)) h.addg
set_option maxHeartbeats 2000000 in
theorem r9_010001 (Y : Hyp9 w0 S Q N H fi p0 p1 p2 p3 p4 p5 p6 p7 p8 p9 p10 p11 p12 p13 p14 p15 p17 p18 p19 p20 p21 p22 p23 p24 p25 p26 p27 p28 p29 p30 p31 p32 p33 p34 p35 p36 p37 p38 p39 p40 p41 p42 p43 p44 p45 p56 p57 p58 p59 p60 p61 p62 p63 p64 p65 p66 p67 p68 p69 p70 p71 p72 p73) (m5 mg : Nat) (w : World) (h : R9 w0 (some m5) none none none (some mg) w) : wpAnyH Try.prog .any ops9 Q S 8 #[true, true, false, false, false, true, false, false, false, false, true, false] (act9 p0 p1 p2 p3 p4 p5 p6 p7 p8 p9 p10 p11 p12 p13 p14 p15 p17 p18 p19 p20 p21 p22 p23 p24 p25 p26 p27 p28 p29 p30 p31 p32 p33 p34 p35 p36 p37 p38 p39 p40 p41 p42 p43 p44 p45 (.agg #[.int .i64 (N : Int), .int .i64 (H : Int)]) (.agg #[.int .i64 (N : Int), .int .i64 (H : Int)]) p56 p57 p58 p59 p60 p61 p62 p63 p64 p65 p66 p67 p68 p69 p70 p71 p72 p73 (undef) (undef) (undef) (.map (some m5)) undef undef undef undef (.pointer (some ⟨mg, 0, none⟩))) w := by
  refine wpAnyH_ready (rs := [2, 6, 7, 8]) (by kernel_rfl) (by simp) (AllReadyH.cons (o := ops9[2]) rfl (fun KK hK => ?_) (AllReadyH.cons (o := ops9[6]) rfl (fun KK hK => ?_) (AllReadyH.cons (o := ops9[7]) rfl (fun KK hK => ?_) (AllReadyH.cons (o := ops9[8]) rfl (fun KK hK => ?_) AllReadyH.nil))))
  · unfold act9 ops9
    go_simp
    refine (ugsize_any N H _ Y.hN Y.hH).mono ?_
    rw [Y.hfi]
    rintro e w2 ⟨rfl, hb⟩
    have h2 := h.next hb
    go_wp2_with fail
    refine hK.out _ _ (Y.hS _ h2.low) (fun hHeld => ?_)
    clear hK
    refine wpAnyH_take (i := 3) (oi := ops9[3]) (v := .int .i64 (fi + 2)) rfl (by kernel_rfl) (by kernel_rfl) (by kernel_rfl) (fun c a w h => Y.hQ c a w _ _ h) (Or.inl ⟨by rfl, ?_⟩) (by assumption) ?_
    · (intro w hSw; have hwf := Y.hwf; unfold ops9; go_simp)
    refine wpAnyH_take (i := 4) (oi := ops9[4]) (v := .agg #[.int .i64 (fi + 2), .bool false, .slice none 0 0]) rfl (by kernel_rfl) (by kernel_rfl) (by kernel_rfl) (fun c a w h => Y.hQ c a w _ _ h) (Or.inl ⟨by rfl, ?_⟩) (by assumption) ?_
    · (intro w hSw; have hwf := Y.hwf; unfold ops9; go_simp)
    exact r9_110001 Y m5 mg w2 h2
  · refine step_makemap rfl rfl ?_
    refine hK.out _ _ (Y.hS _ h.add6.low) (fun hHeld => ?_)
    clear hK
    exact r9_011001 Y m5 w.heap.size mg (w.alloc (.map #[] 0)) h.add6
  · refine step_makemap rfl rfl ?_
    refine hK.out _ _ (Y.hS _ h.add7.low) (fun hHeld => ?_)
    clear hK
    exact r9_010101 Y m5 w.heap.size mg (w.alloc (.map #[] 0)) h.add7
  · refine step_makemap rfl rfl ?_
    refine hK.out _ _ (Y.hS _ h.add8.low) (fun hHeld => ?_)
    clear hK
    exact r9_010011 Y m5 w.heap.size mg (w.alloc (.map #[] 0)) h.add8
set_option maxHeartbeats 2000000 in
theorem r9_010010 (Y : Hyp9 w0 S Q N H fi p0 p1 p2 p3 p4 p5 p6 p7 p8 p9 p10 p11 p12 p13 p14 p15 p17 p18 p19 p20 p21 p22 p23 p24 p25 p26 p27 p28 p29 p30 p31 p32 p33 p34 p35 p36 p37 p38 p39 p40 p41 p42 p43 p44 p45 p56 p57 p58 p59 p60 p61 p62 p63 p64 p65 p66 p67 p68 p69 p70 p71 p72 p73) (m5 m8 : Nat) (w : World) (h : R9 w0 (some m5) none none (some m8) none w) : wpAnyH Try.prog .any ops9 Q S 8 #[true, true, false, false, false, true, false, false, true, false, false, false] (act9 p0 p1 p2 p3 p4 p5 p6 p7 p8 p9 p10 p11 p12 p13 p14 p15 p17 p18 p19 p20 p21 p22 p23 p24 p25 p26 p27 p28 p29 p30 p31 p32 p33 p34 p35 p36 p37 p38 p39 p40 p41 p42 p43 p44 p45 (.agg #[.int .i64 (N : Int), .int .i64 (H : Int)]) (.agg #[.int .i64 (N : Int), .int .i64 (H : Int)]) p56 p57 p58 p59 p60 p61 p62 p63 p64 p65 p66 p67 p68 p69 p70 p71 p72 p73 (undef) (undef) (undef) (.map (some m5)) undef undef (.map (some m8)) undef undef) w := by
  refine wpAnyH_ready (rs := [2, 6, 7, 10]) (by kernel_rfl) (by simp) (AllReadyH.cons (o := ops9[2]) rfl (fun KK hK => ?_) (AllReadyH.cons (o := ops9[6]) rfl (fun KK hK => ?_) (AllReadyH.cons (o := ops9[7]) rfl (fun KK hK => ?_) (AllReadyH.cons (o := ops9[10]) rfl (fun KK hK => ?_) AllReadyH.nil))))
  · unfold act9 ops9
    go_simp
    refine (ugsize_any N H _ Y.hN Y.hH).mono ?_
    rw [Y.hfi]
    rintro e w2 ⟨rfl, hb⟩
    have h2 := h.next hb
    go_wp2_with fail
    refine hK.out _ _ (Y.hS _ h2.low) (fun hHeld => ?_)
    clear hK
    refine wpAnyH_take (i := 3) (oi := ops9[3]) (v := .int .i64 (fi + 2)) rfl (by kernel_rfl) (by kernel_rfl) (by kernel_rfl) (fun c a w h => Y.hQ c a w _ _ h) (Or.inl ⟨by rfl, ?_⟩) (by assumption) ?_
    · (intro w hSw; have hwf := Y.hwf; unfold ops9; go_simp)
    refine wpAnyH_take (i := 4) (oi := ops9[4]) (v := .agg #[.int .i64 (fi + 2), .bool false, .slice none 0 0]) rfl (by kernel_rfl) (by kernel_rfl) (by kernel_rfl) (fun c a w h => Y.hQ c a w _ _ h) (Or.inl ⟨by rfl, ?_⟩) (by assumption) ?_
    · (intro w hSw; have hwf := Y.hwf; unfold ops9; go_simp)
    exact r9_110010 Y m5 m8 w2 h2
  · refine step_makemap rfl rfl ?_
    refine hK.out _ _ (Y.hS _ h.add6.low) (fun hHeld => ?_)
    clear hK
    exact r9_011010 Y m5 w.heap.size m8 (w.alloc (.map #[] 0)) h.add6
  · refine step_makemap rfl rfl ?_
    refine hK.out _ _ (Y.hS _ h.add7.low) (fun hHeld => ?_)
    clear hK
    exact r9_010110 Y m5 w.heap.size m8 (w.alloc (.map #[] 0)) h.add7
  · unfold ops9
    go_simp
    refine hK.out _ _ (Y.hS _ h.addg.low) (fun hHeld => ?_)
    clear hK
    exact r9_010011 Y m5 m8 w.heap.size (w.alloc (.cells #[.int .i64 0, .int .i64 0, .int .i64 0, .bool false, .slice none 0 0, .map none, .map none, .map none, .map none] 101)) h.addg
set_option maxHeartbeats 2000000 in
theorem r9_010100 (Y : Hyp9 w0 S Q N H fi p0 p1 p2 p3 p4 p5 p6 p7 p8 p9 p10 p11 p12 p13 p14 p15 p17 p18 p19 p20 p21 p22 p23 p24 p25 p26 p27 p28 p29 p30 p31 p32 p33 p34 p35 p36 p37 p38 p39 p40 p41 p42 p43 p44 p45 p56 p57 p58 p59 p60 p61 p62 p63 p64 p65 p66 p67 p68 p69 p70 p71 p72 p73) (m5 m7 : Nat) (w : World) (h : R9 w0 (some m5) none (some m7) none none w) : wpAnyH Try.prog .any ops9 Q S 8 #[true, true, false, false, false, true, false, true, false, false, false, false] (act9 p0 p1 p2 p3 p4 p5 p6 p7 p8 p9 p10 p11 p12 p13 p14 p15 p17 p18 p19 p20 p21 p22 p23 p24 p25 p26 p27 p28 p29 p30 p31 p32 p33 p34 p35 p36 p37 p38 p39 p40 p41 p42 p43 p44 p45 (.agg #[.int .i64 (N : Int), .int .i64 (H : Int)]) (.agg #[.int .i64 (N : Int), .int .i64 (H : Int)]) p56 p57 p58 p59 p60 p61 p62 p63 p64 p65 p66 p67 p68 p69 p70 p71 p72 p73 (undef) (undef) (undef) (.map (some m5)) undef (.map (some m7)) undef undef undef) w := by
  refine wpAnyH_ready (rs := [2, 6, 8, 10]) (by kernel_rfl) (by simp) (AllReadyH.cons (o := ops9[2]) rfl (fun KK hK => ?_) (AllReadyH.cons (o := ops9[6]) rfl (fun KK hK => ?_) (AllReadyH.cons (o := ops9[8]) rfl (fun KK hK => ?_) (AllReadyH.cons (o := ops9[10]) rfl (fun KK hK => ?_) AllReadyH.nil))))
  · unfold act9 ops9
    go_simp
    refine (ugsize_any N H _ Y.hN Y.hH).mono ?_
    rw [Y.hfi]
    rintro e w2 ⟨rfl, hb⟩
    have h2 := h.next hb
    go_wp2_with fail
    refine hK.out _ _ (Y.hS _ h2.low) (fun hHeld => ?_)
    clear hK
    refine wpAnyH_take (i := 3) (oi := ops9[3]) (v := .int .i64 (fi + 2)) rfl (by kernel_rfl) (by kernel_rfl) (by kernel_rfl) (fun c a w h => Y.hQ c a w _ _ h) (Or.inl ⟨by rfl, ?_⟩) (by assumption) ?_
    · (intro w hSw; have hwf := Y.hwf; unfold ops9; go_simp)
    refine wpAnyH_take (i := 4) (oi := ops9[4]) (v := .agg #[.int .i64 (fi + 2), .bool false, .slice none 0 0]) rfl (by kernel_rfl) (by kernel_rfl) (by kernel_rfl) (fun c a w h => Y.hQ c a w _ _ h) (Or.inl ⟨by rfl, ?_⟩) (by assumption) ?_
    · (intro w hSw; have hwf := Y.hwf; unfold ops9; go_simp)
    exact r9_110100 Y m5 m7 w2 h2
  · refine step_makemap rfl rfl ?_
    refine hK.out _ _ (Y.hS _ h.add6.low) (fun hHeld => ?_)
    clear hK
    exact r9_011100 Y m5 w.heap.size m7 (w.alloc (.map #[] 0)) h.add6
  · refine step_makemap rfl rfl ?_
    refine hK.out _ _ (Y.hS _ h.add8.low) (fun hHeld => ?_)
    clear hK
    exact r9_010110 Y m5 m7 w.heap.size (w.alloc (.map #[] 0)) h.add8
  · unfold ops9
    go_simp
    refine hK.out _ _ (Y.hS _ h.addg.low) (fun hHeld => ?_)
    clear hK
    exact r9_010101 Y m5 m7 w.heap.size (w.alloc (.cells #[.int .i64 0, .int .i64 0, .int .i64 0, .bool false, .slice none 0 0, .map none, .map none, .map none, .map none] 101)) h.addg
set_option maxHeartbeats 2000000 in
theorem r9_011000 (Y : Hyp9 w0 S Q N H fi p0 p1 p2 p3 p4 p5 p6 p7 p8 p9 p10 p11 p12 p13 p14 p15 p17 p18 p19 p20 p21 p22 p23 p24 p25 p26 p27 p28 p29 p30 p31 p32 p33 p34 p35 p36 p37 p38 p39 p40 p41 p42 p43 p44 p45 p56 p57 p58 p59 p60 p61 p62 p63 p64 p65 p66 p67 p68 p69 p70 p71 p72 p73) (m5 m6 : Nat) (w : World) (h : R9 w0 (some m5) (some m6) none none none w) : wpAnyH Try.prog .any ops9 Q S 8 #[true, true, false, false, false, true, true, false, false, false, false, false] (act9 p0 p1 p2 p3 p4 p5 p6 p7 p8 p9 p10 p11 p12 p13 p14 p15 p17 p18 p19 p20 p21 p22 p23 p24 p25 p26 p27 p28 p29 p30 p31 p32 p33 p34 p35 p36 p37 p38 p39 p40 p41 p42 p43 p44 p45 (.agg #[.int .i64 (N : Int), .int .i64 (H : Int)]) (.agg #[.int .i64 (N : Int), .int .i64 (H : Int)]) p56 p57 p58 p59 p60 p61 p62 p63 p64 p65 p66 p67 p68 p69 p70 p71 p72 p73 (undef) (undef) (undef) (.map (some m5)) (.map (some m6)) undef undef undef undef) w := by
  refine wpAnyH_ready (rs := [2, 7, 8, 10]) (by kernel_rfl) (by simp) (AllReadyH.cons (o := ops9[2]) rfl (fun KK hK => ?_) (AllReadyH.cons (o := ops9[7]) rfl (fun KK hK => ?_) (AllReadyH.cons (o := ops9[8]) rfl (fun KK hK => ?_) (AllReadyH.cons (o := ops9[10]) rfl (fun KK hK => ?_) AllReadyH.nil))))
  · unfold act9 ops9
    go_simp
    refine (ugsize_any N H _ Y.hN Y.hH).mono ?_
    rw [Y.hfi]
    rintro e w2 ⟨rfl, hb⟩
    have h2 := h.next hb
    go_wp2_with fail
    refine hK.out _ _ (Y.hS _ h2.low) (fun hHeld => ?_)
    clear hK
    refine wpAnyH_take (i := 3) (oi := ops9[3]) (v := .int .i64 (fi + 2)) rfl (by kernel_rfl) (by kernel_rfl) (by kernel_rfl) (fun c a w h => Y.hQ c a w _ _ h) (Or.inl ⟨by rfl, ?_⟩) (by assumption) ?_
    · (intro w hSw; have hwf := Y.hwf; unfold ops9; go_simp)
    refine wpAnyH_take (i := 4) (oi := ops9[4]) (v := .agg #[.int .i64 (fi + 2), .bool false, .slice none 0 0]) rfl (by kernel_rfl) (by kernel_rfl) (by kernel_rfl) (fun c a w h => Y.hQ c a w _ _ h) (Or.inl ⟨by rfl, ?_⟩) (by assumption) ?_
    · (intro w hSw; have hwf := Y.hwf; unfold ops9; go_simp)
    exact r9_111000 Y m5 m6 w2 h2
  · refine step_makemap rfl rfl ?_
    refine hK.out _ _ (Y.hS _ h.add7.low) (fun hHeld => ?_)
    clear hK
    exact r9_011100 Y m5 m6 w.heap.size (w.alloc (.map #[] 0)) h.add7
  · refine step_makemap rfl rfl ?_
    refine hK.out _ _ (Y.hS _ h.add8.low) (fun hHeld => ?_)
    clear hK
    exact r9_011010 Y m5 m6 w.heap.size (w.alloc (.map #[] 0)) h.add8
  · unfold ops9
    go_simp
    refine hK.out _ _ (Y.hS _ h.addg.low) (fun hHeld => ?_)
    clear hK
    exact r9_011001 Y m5 m6 w.heap.size (w.alloc (.cells #[.int .i64 0, .int .i64 0, .int .i64 0, .bool false, .slice none 0 0, .map none, .map none, .map none, .map none] 101)) h.addg
set_option maxHeartbeats 2000000 in
theorem r9_100001 (Y : Hyp9 w0 S Q N H fi p0 p1 p2 p3 p4 p5 p6 p7 p8 p9 p10 p11 p12 p13 p14 p15 p17 p18 p19 p20 p21 p22 p23 p24 p25 p26 p27 p28 p29 p30 p31 p32 p33 p34 p35 p36 p37 p38 p39 p40 p41 p42 p43 p44 p45 p56 p57 p58 p59 p60 p61 p62 p63 p64 p65 p66 p67 p68 p69 p70 p71 p72 p73) (mg : Nat) (w : World) (h : R9 w0 none none none none (some mg) w) : wpAnyH Try.prog .any ops9 Q S 6 #[true, true, true, true, true, false, false, false, false, false, true, false] (act9 p0 p1 p2 p3 p4 p5 p6 p7 p8 p9 p10 p11 p12 p13 p14 p15 p17 p18 p19 p20 p21 p22 p23 p24 p25 p26 p27 p28 p29 p30 p31 p32 p33 p34 p35 p36 p37 p38 p39 p40 p41 p42 p43 p44 p45 (.agg #[.int .i64 (N : Int), .int .i64 (H : Int)]) (.agg #[.int .i64 (N : Int), .int .i64 (H : Int)]) p56 p57 p58 p59 p60 p61 p62 p63 p64 p65 p66 p67 p68 p69 p70 p71 p72 p73 (.int .i64 fi) (.int .i64 (fi + 2)) (.agg #[.int .i64 (fi + 2), .bool false, .slice none 0 0]) undef undef undef undef undef (.pointer (some ⟨mg, 0, none⟩))) w := by
  refine wpAnyH_ready (rs := [5, 6, 7, 8]) (by kernel_rfl) (by simp) (AllReadyH.cons (o := ops9[5]) rfl (fun KK hK => ?_) (AllReadyH.cons (o := ops9[6]) rfl (fun KK hK => ?_) (AllReadyH.cons (o := ops9[7]) rfl (fun KK hK => ?_) (AllReadyH.cons (o := ops9[8]) rfl (fun KK hK => ?_) AllReadyH.nil))))
  · refine step_makemap rfl rfl ?_
    refine hK.out _ _ (Y.hS _ h.add5.low) (fun hHeld => ?_)
    clear hK
    exact r9_110001 Y w.heap.size mg (w.alloc (.map #[] 0)) h.add5
  · refine step_makemap rfl rfl ?_
    refine hK.out _ _ (Y.hS _ h.add6.low) (fun hHeld => ?_)
    clear hK
    exact r9_101001 Y w.heap.size mg (w.alloc (.map #[] 0)) h.add6
  · refine step_makemap rfl rfl ?_
    refine hK.out _ _ (Y.hS _ h.add7.low) (fun hHeld => ?_)
    clear hK
    exact r9_100101 Y w.heap.size mg (w.alloc (.map #[] 0)) h.add7
  · refine step_makemap rfl rfl ?_
    refine hK.out _ _ (Y.hS _ h.add8.low) (fun hHeld => ?_)
    clear hK
    exact r9_100011 Y w.heap.size mg (w.alloc (.map #[] 0)) h.add8
set_option maxHeartbeats 2000000 in
theorem r9_100010 (Y : Hyp9 w0 S Q N H fi p0 p1 p2 p3 p4 p5 p6 p7 p8 p9 p10 p11 p12 p13 p14 p15 p17 p18 p19 p20 p21 p22 p23 p24 p25 p26 p27 p28 p29 p30 p31 p32 p33 p34 p35 p36 p37 p38 p39 p40 p41 p42 p43 p44 p45 p56 p57 p58 p59 p60 p61 p62 p63 p64 p65 p66 p67 p68 p69 p70 p71 p72 p73) (m8 : Nat) (w : World) (h : R9 w0 none none none (some m8) none w) : wpAnyH Try.prog .any ops9 Q S 6 #[true, true, true, true, true, false, false, false, true, false, false, false] (act9 p0 p1 p2 p3 p4 p5 p6 p7 p8 p9 p10 p11 p12 p13 p14 p15 p17 p18 p19 p20 p21 p22 p23 p24 p25 p26 p27 p28 p29 p30 p31 p32 p33 p34 p35 p36 p37 p38 p39 p40 p41 p42 p43 p44 p45 (.agg #[.int .i64 (N : Int), .int .i64 (H : Int)]) (.agg #[.int .i64 (N : Int), .int .i64 (H : Int)]) p56 p57 p58 p59 p60 p61 p62 p63 p64 p65 p66 p67 p68 p69 p70 p71 p72 p73 (.int .i64 fi) (.int .i64 (fi + 2)) (.agg #[.int .i64 (fi + 2), .bool false, .slice none 0 0]) undef undef undef (.map (some m8)) undef undef) w := by
  refine wpAnyH_ready (rs := [5, 6, 7, 10]) (by kernel_rfl) (by simp) (AllReadyH.cons (o := ops9[5]) rfl (fun KK hK => ?_) (AllReadyH.cons (o := ops9[6]) rfl (fun KK hK => ?_) (AllReadyH.cons (o := ops9[7]) rfl (fun KK hK => ?_) (AllReadyH.cons (o := ops9[10]) rfl (fun KK hK => ?_) AllReadyH.nil))))
  · refine step_makemap rfl rfl ?_
    refine hK.out _ _ (Y.hS _ h.add5.low) (fun hHeld => ?_)
    clear hK
    exact r9_110010 Y w.heap.size m8 (w.alloc (.map #[] 0)) h.add5
  · refine step_makemap rfl rfl ?_
    refine hK.out _ _ (Y.hS _ h.add6.low) (fun hHeld => ?_)
    clear hK
    exact r9_101010 Y w.heap.size m8 (w.alloc (.map #[] 0)) h.add6
  · refine step_makemap rfl rfl ?_
    refine hK.out _ _ (Y.hS _ h.add7.low) (fun hHeld => ?_)
    clear hK
    exact r9_100110 Y w.heap.size m8 (w.alloc (.map #[] 0)) h.add7
  · unfold ops9
    go_simp
    refine hK.out _ _ (Y.hS _ h.addg.low) (fun hHeld => ?_)
    clear hK
    exact r9_100011 Y m8 w.heap.size (w.alloc (.cells #[.int .i64 0, .int .i64 0, .int .i64 0, .bool false, .slice none 0 0, .map none, .map none, .map none, .map none] 101)) h.addg
set_option maxHeartbeats 2000000 in
theorem r9_100100 (Y : Hyp9 w0 S Q N H fi p0 p1 p2 p3 p4 p5 p6 p7 p8 p9 p10 p11 p12 p13 p14 p15 p17 p18 p19 p20 p21 p22 p23 p24 p25 p26 p27 p28 p29 p30 p31 p32 p33 p34 p35 p36 p37 p38 p39 p40 p41 p42 p43 p44 p45 p56 p57 p58 p59 p60 p61 p62 p63 p64 p65 p66 p67 p68 p69 p70 p71 p72 p73) (m7 : Nat) (w : World) (h : R9 w0 none none (some m7) none none w) : wpAnyH Try.prog .any ops9 Q S 6 #[true, true, true, true, true, false, false, true, false, false, false, false] (act9 p0 p1 p2 p3 p4 p5 p6 p7 p8 p9 p10 p11 p12 p13 p14 p15 p17 p18 p19 p20 p21 p22 p23 p24 p25 p26 p27 p28 p29 p30 p31 p32 p33 p34 p35 p36 p37 p38 p39 p40 p41 p42 p43 p44 p45 (.agg #[.int .i64 (N : Int), .int .i64 (H : Int)]) (.agg #[.int .i64 (N : Int), .int .i64 (H : Int)]) p56 p57 p58 p59 p60 p61 p62 p63 p64 p65 p66 p67 p68 p69 p70 p71 p72 p73 (.int .i64 fi) (.int .i64 (fi + 2)) (.agg #[.int .i64 (fi + 2), .bool false, .slice none 0 0]) undef undef (.map (some m7)) undef undef undef) w := by
  refine wpAnyH_ready (rs := [5, 6, 8, 10]) (by kernel_rfl) (by simp) (AllReadyH.cons (o := ops9[5]) rfl (fun KK hK => ?_) (AllReadyH.cons (o := ops9[6]) rfl (fun KK hK => ?_) (AllReadyH.cons (o := ops9[8]) rfl (fun KK hK => ?_) (AllReadyH.cons (o := ops9[10]) rfl (fun KK hK => ?_) AllReadyH.nil))))
  · refine step_makemap rfl rfl ?_
    refine hK.out _ _ (Y.hS _ h.add5.low) (fun hHeld => ?_)
    clear hK
    exact r9_110100 Y w.heap.size m7 (w.alloc (.map #[] 0)) h.add5
  · refine step_makemap rfl rfl ?_
    refine hK.out _ _ (Y.hS _ h.add6.low) (fun hHeld => ?_)
    clear hK
    exact r9_101100 Y w.heap.size m7 (w.alloc (.map #[] 0)) h.add6
  · refine step_makemap rfl rfl ?_
    refine hK.out _ _ (Y.hS _ h.add8.low) (fun hHeld => ?_)
    clear hK
    exact r9_100110 Y m7 w.heap.size (w.alloc (.map #[] 0)) h.add8
  · unfold ops9
    go_simp
    refine hK.out _ _ (Y.hS _ h.addg.low) (fun hHeld => ?_)
    clear hK
    exact r9_100101 Y m7 w.heap.size (w.alloc (.cells #[.int .i64 0, .int .i64 0, .int .i64 0, .bool false, .slice none 0 0, .map none, .map none, .map none, .map none] 101)) h.addg
set_option maxHeartbeats 2000000 in
theorem r9_101000 (Y : Hyp9 w0 S Q N H fi p0 p1 p2 p3 p4 p5 p6 p7 p8 p9 p10 p11 p12 p13 p14 p15 p17 p18 p19 p20 p21 p22 p23 p24 p25 p26 p27 p28 p29 p30 p31 p32 p33 p34 p35 p36 p37 p38 p39 p40 p41 p42 p43 p44 p45 p56 p57 p58 p59 p60 p61 p62 p63 p64 p65 p66 p67 p68 p69 p70 p71 p72 p73) (m6 : Nat) (w : World) (h : R9 w0 none (some m6) none none none w) : wpAnyH Try.prog .any ops9 Q S 6 #[true, true, true, true, true, false, true, false, false, false, false, false] (act9 p0 p1 p2 p3 p4 p5 p6 p7 p8 p9 p10 p11 p12 p13 p14 p15 p17 p18 p19 p20 p21 p22 p23 p24 p25 p26 p27 p28 p29 p30 p31 p32 p33 p34 p35 p36 p37 p38 p39 p40 p41 p42 p43 p44 p45 (.agg #[.int .i64 (N : Int), .int .i64 (H : Int)]) (.agg #[.int .i64 (N : Int), .int .i64 (H : Int)]) p56 p57 p58 p59 p60 p61 p62 p63 p64 p65 p66 p67 p68 p69 p70 p71 p72 p73 (.int .i64 fi) (.int .i64 (fi + 2)) (.agg #[.int .i64 (fi + 2), .bool false, .slice none 0 0]) undef (.map (some m6)) undef undef undef undef) w := by
  refine wpAnyH_ready (rs := [5, 7, 8, 10]) (by kernel_rfl) (by simp) (AllReadyH.cons (o := ops9[5]) rfl (fun KK hK => ?_) (AllReadyH.cons (o := ops9[7]) rfl (fun KK hK => ?_) (AllReadyH.cons (o := ops9[8]) rfl (fun KK hK => ?_) (AllReadyH.cons (o := ops9[10]) rfl (fun KK hK => ?_) AllReadyH.nil))))
  · refine step_makemap rfl rfl ?_
    refine hK.out _ _ (Y.hS _ h.add5.low) (fun hHeld => ?_)
    clear hK
    exact r9_111000 Y w.heap.size m6 (w.alloc (.map #[] 0)) h.add5
  · refine step_makemap rfl rfl ?_
    refine hK.out _ _ (Y.hS _ h.add7.low) (fun hHeld => ?_)
    clear hK
    exact r9_101100 Y m6 w.heap.size (w.alloc (.map #[] 0)) h.add7
  · refine step_makemap rfl rfl ?_
    refine hK.out _ _ (Y.hS _ h.add8.low) (fun hHeld => ?_)
    clear hK
    exact r9_101010 Y m6 w.heap.size (w.alloc (.map #[] 0)) h.add8
  · unfold ops9
    go_simp
    refine hK.out _ _ (Y.hS _ h.addg.low) (fun hHeld => ?_)
    clear hK
    exact r9_101001 Y m6 w.heap.size (w.alloc (.cells #[.int .i64 0, .int .i64 0, .int .i64 0, .bool false, .slice none 0 0, .map none, .map none, .map none, .map none] 101)) h.addg
set_option maxHeartbeats 2000000 in
theorem r9_110000 (Y : Hyp9 w0 S Q N H fi p0 p1 p2 p3 p4 p5 p6 p7 p8 p9 p10 p11 p12 p13 p14 p15 p17 p18 p19 p20 p21 p22 p23 p24 p25 p26 p27 p28 p29 p30 p31 p32 p33 p34 p35 p36 p37 p38 p39 p40 p41 p42 p43 p44 p45 p56 p57 p58 p59 p60 p61 p62 p63 p64 p65 p66 p67 p68 p69 p70 p71 p72 p73) (m5 : Nat) (w : World) (h : R9 w0 (some m5) none none none none w) : wpAnyH Try.prog .any ops9 Q S 6 #[true, true, true, true, true, true, false, false, false, false, false, false] (act9 p0 p1 p2 p3 p4 p5 p6 p7 p8 p9 p10 p11 p12 p13 p14 p15 p17 p18 p19 p20 p21 p22 p23 p24 p25 p26 p27 p28 p29 p30 p31 p32 p33 p34 p35 p36 p37 p38 p39 p40 p41 p42 p43 p44 p45 (.agg #[.int .i64 (N : Int), .int .i64 (H : Int)]) (.agg #[.int .i64 (N : Int), .int .i64 (H : Int)]) p56 p57 p58 p59 p60 p61 p62 p63 p64 p65 p66 p67 p68 p69 p70 p71 p72 p73 (.int .i64 fi) (.int .i64 (fi + 2)) (.agg #[.int .i64 (fi + 2), .bool false, .slice none 0 0]) (.map (some m5)) undef undef undef undef undef) w := by
  refine wpAnyH_ready (rs := [6, 7, 8, 10]) (by kernel_rfl) (by simp) (AllReadyH.cons (o := ops9[6]) rfl (fun KK hK => ?_) (AllReadyH.cons (o := ops9[7]) rfl (fun KK hK => ?_) (AllReadyH.cons (o := ops9[8]) rfl (fun KK hK => ?_) (AllReadyH.cons (o := ops9[10]) rfl (fun KK hK => ?_) AllReadyH.nil))))
  · refine step_makemap rfl rfl ?_
    refine hK.out _ _ (Y.hS _ h.add6.low) (fun hHeld => ?_)
    clear hK
    exact r9_111000 Y m5 w.heap.size (w.alloc (.map #[] 0)) h.add6
  · refine step_makemap rfl rfl ?_
    refine hK.out _ _ (Y.hS _ h.add7.low) (fun hHeld => ?_)
    clear hK
    exact r9_110100 Y m5 w.heap.size (w.alloc (.map #[] 0)) h.add7
  · refine step_makemap rfl rfl ?_
    refine hK.out _ _ (Y.hS _ h.add8.low) (fun hHeld => ?_)
    clear hK
    exact r9_110010 Y m5 w.heap.size (w.alloc (.map #[] 0)) h.add8
  · unfold ops9
    go_simp
    refine hK.out _ _ (Y.hS _ h.addg.low) (fun hHeld => ?_)
    clear hK
    exact r9_110001 Y m5 w.heap.size (w.alloc (.cells #[.int .i64 0, .int .i64 0, .int .i64 0, .bool false, .slice none 0 0, .map none, .map none, .map none, .map none] 101)) h.addg
set_option maxHeartbeats 2000000 in
theorem r9_000001 (Y : Hyp9 w0 S Q N H fi p0 p1 p2 p3 p4 p5 p6 p7 p8 p9 p10 p11 p12 p13 p14 p15 p17 p18 p19 p20 p21 p22 p23 p24 p25 p26 p27 p28 p29 p30 p31 p32 p33 p34 p35 p36 p37 p38 p39 p40 p41 p42 p43 p44 p45 p56 p57 p58 p59 p60 p61 p62 p63 p64 p65 p66 p67 p68 p69 p70 p71 p72 p73) (mg : Nat) (w : World) (h : R9 w0 none none none none (some mg) w) : wpAnyH Try.prog .any ops9 Q S 9 #[true, true, false, false, false, false, false, false, false, false, true, false] (act9 p0 p1 p2 p3 p4 p5 p6 p7 p8 p9 p10 p11 p12 p13 p14 p15 p17 p18 p19 p20 p21 p22 p23 p24 p25 p26 p27 p28 p29 p30 p31 p32 p33 p34 p35 p36 p37 p38 p39 p40 p41 p42 p43 p44 p45 (.agg #[.int .i64 (N : Int), .int .i64 (H : Int)]) (.agg #[.int .i64 (N : Int), .int .i64 (H : Int)]) p56 p57 p58 p59 p60 p61 p62 p63 p64 p65 p66 p67 p68 p69 p70 p71 p72 p73 (undef) (undef) (undef) undef undef undef undef undef (.pointer (some ⟨mg, 0, none⟩))) w := by
  refine wpAnyH_ready (rs := [2, 5, 6, 7, 8]) (by kernel_rfl) (by simp) (AllReadyH.cons (o := ops9[2]) rfl (fun KK hK => ?_) (AllReadyH.cons (o := ops9[5]) rfl (fun KK hK => ?_) (AllReadyH.cons (o := ops9[6]) rfl (fun KK hK => ?_) (AllReadyH.cons (o := ops9[7]) rfl (fun KK hK => ?_) (AllReadyH.cons (o := ops9[8]) rfl (fun KK hK => ?_) AllReadyH.nil)))))
  · unfold act9 ops9
    go_simp
    refine (ugsize_any N H _ Y.hN Y.hH).mono ?_
    rw [Y.hfi]
    rintro e w2 ⟨rfl, hb⟩
    have h2 := h.next hb
    go_wp2_with fail
    refine hK.out _ _ (Y.hS _ h2.low) (fun hHeld => ?_)
    clear hK
    refine wpAnyH_take (i := 3) (oi := ops9[3]) (v := .int .i64 (fi + 2)) rfl (by kernel_rfl) (by kernel_rfl) (by kernel_rfl) (fun c a w h => Y.hQ c a w _ _ h) (Or.inl ⟨by rfl, ?_⟩) (by assumption) ?_
    · (intro w hSw; have hwf := Y.hwf; unfold ops9; go_simp)
    refine wpAnyH_take (i := 4) (oi := ops9[4]) (v := .agg #[.int .i64 (fi + 2), .bool false, .slice none 0 0]) rfl (by kernel_rfl) (by kernel_rfl) (by kernel_rfl) (fun c a w h => Y.hQ c a w _ _ h) (Or.inl ⟨by rfl, ?_⟩) (by assumption) ?_
    · (intro w hSw; have hwf := Y.hwf; unfold ops9; go_simp)
    exact r9_100001 Y mg w2 h2
  · refine step_makemap rfl rfl ?_
    refine hK.out _ _ (Y.hS _ h.add5.low) (fun hHeld => ?_)
    clear hK
    exact r9_010001 Y w.heap.size mg (w.alloc (.map #[] 0)) h.add5
  · refine step_makemap rfl rfl ?_
    refine hK.out _ _ (Y.hS _ h.add6.low) (fun hHeld => ?_)
    clear hK
    exact r9_001001 Y w.heap.size mg (w.alloc (.map #[] 0)) h.add6
  · refine step_makemap rfl rfl ?_
    refine hK.out _ _ (Y.hS _ h.add7.low) (fun hHeld => ?_)
    clear hK
    exact r9_000101 Y w.heap.size mg (w.alloc (.map #[] 0)) h.add7
  · refine step_makemap rfl rfl ?_
    refine hK.out _ _ (Y.hS _ h.add8.low) (fun hHeld => ?_)
    clear hK
    exact r9_000011 Y w.heap.size mg (w.alloc (.map #[] 0)) h.add8
set_option maxHeartbeats 2000000 in
theorem r9_000010 (Y : Hyp9 w0 S Q N H fi p0 p1 p2 p3 p4 p5 p6 p7 p8 p9 p10 p11 p12 p13 p14 p15 p17 p18 p19 p20 p21 p22 p23 p24 p25 p26 p27 p28 p29 p30 p31 p32 p33 p34 p35 p36 p37 p38 p39 p40 p41 p42 p43 p44 p45 p56 p57 p58 p59 p60 p61 p62 p63 p64 p65 p66 p67 p68 p69 p70 p71 p72 p73) (m8 : Nat) (w : World) (h : R9 w0 none none none (some m8) none w) : wpAnyH Try.prog .any ops9 Q S 9 #[true, true, false, false, false, false, false, false, true, false, false, false] (act9 p0 p1 p2 p3 p4 p5 p6 p7 p8 p9 p10 p11 p12 p13 p14 p15 p17 p18 p19 p20 p21 p22 p23 p24 p25 p26 p27 p28 p29 p30 p31 p32 p33 p34 p35 p36 p37 p38 p39 p40 p41 p42 p43 p44 p45 (.agg #[.int .i64 (N : Int), .int .i64 (H : Int)]) (.agg #[.int .i64 (N : Int), .int .i64 (H : Int)]) p56 p57 p58 p59 p60 p61 p62 p63 p64 p65 p66 p67 p68 p69 p70 p71 p72 p73 (undef) (undef) (undef) undef undef undef (.map (some m8)) undef undef) w := by
  refine wpAnyH_ready (rs := [2, 5, 6, 7, 10]) (by kernel_rfl) (by simp) (AllReadyH.cons (o := ops9[2]) rfl (fun KK hK => ?_) (AllReadyH.cons (o := ops9[5]) rfl (fun KK hK => ?_) (AllReadyH.cons (o := ops9[6]) rfl (fun KK hK => ?_) (AllReadyH.cons (o := ops9[7]) rfl (fun KK hK => ?_) (AllReadyH.cons (o := ops9[10]) rfl (fun KK hK => ?_) AllReadyH.nil)))))
  · unfold act9 ops9
    go_simp
    refine (ugsize_any N H _ Y.hN Y.hH).mono ?_
    rw [Y.hfi]
    rintro e w2 ⟨rfl, hb⟩
    have h2 := h.next hb
    go_wp2_with fail
    refine hK.out _ _ (Y.hS _ h2.low) (fun hHeld => ?_)
    clear hK
    refine wpAnyH_take (i := 3) (oi := ops9[3]) (v := .int .i64 (fi + 2)) rfl (by kernel_rfl) (by kernel_rfl) (by kernel_rfl) (fun c a w h => Y.hQ c a w _ _ h) (Or.inl ⟨by rfl, ?_⟩) (by assumption) ?_
    · (intro w hSw; have hwf := Y.hwf; unfold ops9; go_simp)
    refine wpAnyH_take (i := 4) (oi := ops9[4]) (v := .agg #[.int .i64 (fi + 2), .bool false, .slice none 0 0]) rfl (by kernel_rfl) (by kernel_rfl) (by kernel_rfl) (fun c a w h => Y.hQ c a w _ _ h) (Or.inl ⟨by rfl, ?_⟩) (by assumption) ?_
    · (intro w hSw; have hwf := Y.hwf; unfold ops9; go_simp)
    exact r9_100010 Y m8 w2 h2
  · refine step_makemap rfl rfl ?_
    refine hK.out _ _ (Y.hS _ h.add5.low) (fun hHeld => ?_)
    clear hK
    exact r9_010010 Y w.heap.size m8 (w.alloc (.map #[] 0)) h.add5
  · refine step_makemap rfl rfl ?_
    refine hK.out _ _ (Y.hS _ h.add6.low) (fun hHeld => ?_)
    clear hK
    exact r9_001010 Y w.heap.size m8 (w.alloc (.map #[] 0)) h.add6
  · refine step_makemap rfl rfl ?_
    refine hK.out _ _ (Y.hS _ h.add7.low) (fun hHeld => ?_)
    clear hK
    exact r9_000110 Y w.heap.size m8 (w.alloc (.map #[] 0)) h.add7
  · unfold ops9
    go_simp
    refine hK.out _ _ (Y.hS _ h.addg.low) (fun hHeld => ?_)
    clear hK
    exact r9_000011 Y m8 w.heap.size (w.alloc (.cells #[.int .i64 0, .int .i64 0, .int .i64 0, .bool false, .slice none 0 0, .map none, .map none, .map none, .map none] 101)) h.addg
set_option maxHeartbeats 2000000 in
theorem r9_000100 (Y : Hyp9 w0 S Q N H fi p0 p1 p2 p3 p4 p5 p6 p7 p8 p9 p10 p11 p12 p13 p14 p15 p17 p18 p19 p20 p21 p22 p23 p24 p25 p26 p27 p28 p29 p30 p31 p32 p33 p34 p35 p36 p37 p38 p39 p40 p41 p42 p43 p44 p45 p56 p57 p58 p59 p60 p61 p62 p63 p64 p65 p66 p67 p68 p69 p70 p71 p72 p73) (m7 : Nat) (w : World) (h : R9 w0 none none (some m7) none none w) : wpAnyH Try.prog .any ops9 Q S 9 #[true, true, false, false, false, false, false, true, false, false, false, false] (act9 p0 p1 p2 p3 p4 p5 p6 p7 p8 p9 p10 p11 p12 p13 p14 p15 p17 p18 p19 p20 p21 p22 p23 p24 p25 p26 p27 p28 p29 p30 p31 p32 p33 p34 p35 p36 p37 p38 p39 p40 p41 p42 p43 p44 p45 (.agg #[.int .i64 (N : Int), .int .i64 (H : Int)]) (.agg #[.int .i64 (N : Int), .int .i64 (H : Int)]) p56 p57 p58 p59 p60 p61 p62 p63 p64 p65 p66 p67 p68 p69 p70 p71 p72 p73 (undef) (undef) (undef) undef undef (.map (some m7)) undef undef undef) w := by
  refine wpAnyH_ready (rs := [2, 5, 6, 8, 10]) (by kernel_rfl) (by simp) (AllReadyH.cons (o := ops9[2]) rfl (fun KK hK => ?_) (AllReadyH.cons (o := ops9[5]) rfl (fun KK hK => ?_) (AllReadyH.cons (o := ops9[6]) rfl (fun KK hK => ?_) (AllReadyH.cons (o := ops9[8]) rfl (fun KK hK => ?_) (AllReadyH.cons (o := ops9[10]) rfl (fun KK hK => ?_) AllReadyH.nil)))))
  · unfold act9 ops9
    go_simp
    refine (ugsize_any N H _ Y.hN Y.hH).mono ?_
    rw [Y.hfi]
    rintro e w2 ⟨rfl, hb⟩
    have h2 := h.next hb
    go_wp2_with fail
    refine hK.out _ _ (Y.hS _ h2.low) (fun hHeld => ?_)
    clear hK
    refine wpAnyH_take (i := 3) (oi := ops9[3]) (v := .int .i64 (fi + 2)) rfl (by kernel_rfl) (by kernel_rfl) (by kernel_rfl) (fun c a w h => Y.hQ c a w _ _ h) (Or.inl ⟨by rfl, ?_⟩) (by assumption) ?_
    · (intro w hSw; have hwf := Y.hwf; unfold ops9; go_simp)
    refine wpAnyH_take (i := 4) (oi := ops9[4]) (v := .agg #[.int .i64 (fi + 2), .bool false, .slice none 0 0]) rfl (by kernel_rfl) (by kernel_rfl) (by kernel_rfl) (fun c a w h => Y.hQ c a w _ _ h) (Or.inl ⟨by rfl, ?_⟩) (by assumption) ?_
    · (intro w hSw; have hwf := Y.hwf; unfold ops9; go_simp)
    exact r9_100100 Y m7 w2 h2
  · refine step_makemap rfl rfl ?_
    refine hK.out _ _ (Y.hS _ h.add5.low) (fun hHeld => ?_)
    clear hK
    exact r9_010100 Y w.heap.size m7 (w.alloc (.map #[] 0)) h.add5
  · refine step_makemap rfl rfl ?_
    refine hK.out _ _ (Y.hS _ h.add6.low) (fun hHeld => ?_)
    clear hK
    exact r9_001100 Y w.heap.size m7 (w.alloc (.map #[] 0)) h.add6
  · refine step_makemap rfl rfl ?_
    refine hK.out _ _ (Y.hS _ h.add8.low) (fun hHeld => ?_)
    clear hK
    exact r9_000110 Y m7 w.heap.size (w.alloc (.map #[] 0)) h.add8
  · unfold ops9
    go_simp
    refine hK.out _ _ (Y.hS _ h.addg.low) (fun hHeld => ?_)
    clear hK
    exact r9_000101 Y m7 w.heap.size (w.alloc (.cells #[.int .i64 0, .int .i64 0, .int .i64 0, .bool false, .slice none 0 0, .map none, .map none, .map none, .map none] 101)) h.addg
set_option maxHeartbeats 2000000 in
theorem r9_001000 (Y : Hyp9 w0 S Q N H fi p0 p1 p2 p3 p4 p5 p6 p7 p8 p9 p10 p11 p12 p13 p14 p15 p17 p18 p19 p20 p21 p22 p23 p24 p25 p26 p27 p28 p29 p30 p31 p32 p33 p34 p35 p36 p37 p38 p39 p40 p41 p42 p43 p44 p45 p56 p57 p58 p59 p60 p61 p62 p63 p64 p65 p66 p67 p68 p69 p70 p71 p72 p73) (m6 : Nat) (w : World) (h : R9 w0 none (some m6) none none none w) : wpAnyH Try.prog .any ops9 Q S 9 #[true, true, false, false, false, false, true, false, false, false, false, false] (act9 p0 p1 p2 p3 p4 p5 p6 p7 p8 p9 p10 p11 p12 p13 p14 p15 p17 p18 p19 p20 p21 p22 p23 p24 p25 p26 p27 p28 p29 p30 p31 p32 p33 p34 p35 p36 p37 p38 p39 p40 p41 p42 p43 p44 p45 (.agg #[.int .i64 (N : Int), .int .i64 (H : Int)]) (.agg #[.int .i64 (N : Int), .int .i64 (H : Int)]) p56 p57 p58 p59 p60 p61 p62 p63 p64 p65 p66 p67 p68 p69 p70 p71 p72 p73 (undef) (undef) (undef) undef (.map (some m6)) undef undef undef undef) w := by
  refine wpAnyH_ready (rs := [2, 5, 7, 8, 10]) (by kernel_rfl) (by simp) (AllReadyH.cons (o := ops9[2]) rfl (fun KK hK => ?_) (AllReadyH.cons (o := ops9[5]) rfl (fun KK hK => ?_) (AllReadyH.cons (o := ops9[7]) rfl (fun KK hK => ?_) (AllReadyH.cons (o := ops9[8]) rfl (fun KK hK => ?_) (AllReadyH.cons (o := ops9[10]) rfl (fun KK hK => ?_) AllReadyH.nil)))))
  · unfold act9 ops9
    go_simp
    refine (ugsize_any N H _ Y.hN Y.hH).mono ?_
    rw [Y.hfi]
    rintro e w2 ⟨rfl, hb⟩
    have h2 := h.next hb
    go_wp2_with fail
    refine hK.out _ _ (Y.hS _ h2.low) (fun hHeld => ?_)
    clear hK
    refine wpAnyH_take (i := 3) (oi := ops9[3]) (v := .int .i64 (fi + 2)) rfl (by kernel_rfl) (by kernel_rfl) (by kernel_rfl) (fun c a w h => Y.hQ c a w _ _ h) (Or.inl ⟨by rfl, ?_⟩) (by assumption) ?_
    · (intro w hSw; have hwf := Y.hwf; unfold ops9; go_simp)
    refine wpAnyH_take (i := 4) (oi := ops9[4]) (v := .agg #[.int .i64 (fi + 2), .bool false, .slice none 0 0]) rfl (by kernel_rfl) (by kernel_rfl) (by kernel_rfl) (fun c a w h => Y.hQ c a w _ _ h) (Or.inl ⟨by rfl, ?_⟩) (by assumption) ?_
    · (intro w hSw; have hwf := Y.hwf; unfold ops9; go_simp)
    exact r9_101000 Y m6 w2 h2
  · refine step_makemap rfl rfl ?_
    refine hK.out _ _ (Y.hS _ h.add5.low) (fun hHeld => ?_)
    clear hK
    exact r9_011000 Y w.heap.size m6 (w.alloc (.map #[] 0)) h.add5
  · refine step_makemap rfl rfl ?_
    refine hK.out _ _ (Y.hS _ h.add7.low) (fun hHeld => ?_)
    clear hK
    exact r9_001100 Y m6 w.heap.size (w.alloc (.map #[] 0)) h.add7
  · refine step_makemap rfl rfl ?_
    refine hK.out _ _ (Y.hS _ h.add8.low) (fun hHeld => ?_)
    clear hK
    exact r9_001010 Y m6 w.heap.size (w.alloc (.map #[] 0)) h.add8
  · unfold ops9
    go_simp
    refine hK.out _ _ (Y.hS _ h.addg.low) (fun hHeld => ?_)
    clear hK
    exact r9_001001 Y m6 w.heap.size (w.alloc (.cells #[.int .i64 0, .int .i64 0, .int .i64 0, .bool false, .slice none 0 0, .map none, .map none, .map none, .map none] 101)) h.addg
set_option maxHeartbeats 2000000 in
theorem r9_010000 (Y : Hyp9 w0 S Q N H fi p0 p1 p2 p3 p4 p5 p6 p7 p8 p9 p10 p11 p12 p13 p14 p15 p17 p18 p19 p20 p21 p22 p23 p24 p25 p26 p27 p28 p29 p30 p31 p32 p33 p34 p35 p36 p37 p38 p39 p40 p41 p42 p43 p44 p45 p56 p57 p58 p59 p60 p61 p62 p63 p64 p65 p66 p67 p68 p69 p70 p71 p72 p73) (m5 : Nat) (w : World) (h : R9 w0 (some m5) none none none none w) : wpAnyH Try.prog .any ops9 Q S 9 #[true, true, false, false, false, true, false, false, false, false, false, false] (act9 p0 p1 p2 p3 p4 p5 p6 p7 p8 p9 p10 p11 p12 p13 p14 p15 p17 p18 p19 p20 p21 p22 p23 p24 p25 p26 p27 p28 p29 p30 p31 p32 p33 p34 p35 p36 p37 p38 p39 p40 p41 p42 p43 p44 p45 (.agg #[.int .i64 (N : Int), .int .i64 (H : Int)]) (.agg #[.int .i64 (N : Int), .int .i64 (H : Int)]) p56 p57 p58 p59 p60 p61 p62 p63 p64 p65 p66 p67 p68 p69 p70 p71 p72 p73 (undef) (undef) (undef) (.map (some m5)) undef undef undef undef undef) w := by
  refine wpAnyH_ready (rs := [2, 6, 7, 8, 10]) (by kernel_rfl) (by simp) (AllReadyH.cons (o := ops9[2]) rfl (fun KK hK => ?_) (AllReadyH.cons (o := ops9[6]) rfl (fun KK hK => ?_) (AllReadyH.cons (o := ops9[7]) rfl (fun KK hK => ?_) (AllReadyH.cons (o := ops9[8]) rfl (fun KK hK => ?_) (AllReadyH.cons (o := ops9[10]) rfl (fun KK hK => ?_) AllReadyH.nil)))))
  · unfold act9 ops9
    go_simp
    refine (ugsize_any N H _ Y.hN Y.hH).mono ?_
    rw [Y.hfi]
    rintro e w2 ⟨rfl, hb⟩
    have h2 := h.next hb
    go_wp2_with fail
    refine hK.out _ _ (Y.hS _ h2.low) (fun hHeld => ?_)
    clear hK
    refine wpAnyH_take (i := 3) (oi := ops9[3]) (v := .int .i64 (fi + 2)) rfl (by kernel_rfl) (by kernel_rfl) (by kernel_rfl) (fun c a w h => Y.hQ c a w _ _ h) (Or.inl ⟨by rfl, ?_⟩) (by assumption) ?_
    · (intro w hSw; have hwf := Y.hwf; unfold ops9; go_simp)
    refine wpAnyH_take (i := 4) (oi := ops9[4]) (v := .agg #[.int .i64 (fi + 2), .bool false, .slice none 0 0]) rfl (by kernel_rfl) (by kernel_rfl) (by kernel_rfl) (fun c a w h => Y.hQ c a w _ _ h) (Or.inl ⟨by rfl, ?_⟩) (by assumption) ?_
    · (intro w hSw; have hwf := Y.hwf; unfold ops9; go_simp)
    exact r9_110000 Y m5 w2 h2
  · refine step_makemap rfl rfl ?_
    refine hK.out _ _ (Y.hS _ h.add6.low) (fun hHeld => ?_)
    clear hK
    exact r9_011000 Y m5 w.heap.size (w.alloc (.map #[] 0)) h.add6
  · refine step_makemap rfl rfl ?_
    refine hK.out _ _ (Y.hS _ h.add7.low) (fun hHeld => ?_)
    clear hK
    exact r9_010100 Y m5 w.heap.size (w.alloc (.map #[] 0)) h.add7
  · refine step_makemap rfl rfl ?_
    refine hK.out _ _ (Y.hS _ h.add8.low) (fun hHeld => ?_)
    clear hK
    exact r9_010010 Y m5 w.heap.size (w.alloc (.map #[] 0)) h.add8
  · unfold ops9
    go_simp
    refine hK.out _ _ (Y.hS _ h.addg.low) (fun hHeld => ?_)
    clear hK
    exact r9_010001 Y m5 w.heap.size (w.alloc (.cells #[.int .i64 0, .int .i64 0, .int .i64 0, .bool false, .slice none 0 0, .map none, .map none, .map none, .map none] 101)) h.addg
set_option maxHeartbeats 2000000 in
theorem r9_100000 (Y : Hyp9 w0 S Q N H fi p0 p1 p2 p3 p4 p5 p6 p7 p8 p9 p10 p11 p12 p13 p14 p15 p17 p18 p19 p20 p21 p22 p23 p24 p25 p26 p27 p28 p29 p30 p31 p32 p33 p34 p35 p36 p37 p38 p39 p40 p41 p42 p43 p44 p45 p56 p57 p58 p59 p60 p61 p62 p63 p64 p65 p66 p67 p68 p69 p70 p71 p72 p73) (w : World) (h : R9 w0 none none none none none w) : wpAnyH Try.prog .any ops9 Q S 7 #[true, true, true, true, true, false, false, false, false, false, false, false] (act9 p0 p1 p2 p3 p4 p5 p6 p7 p8 p9 p10 p11 p12 p13 p14 p15 p17 p18 p19 p20 p21 p22 p23 p24 p25 p26 p27 p28 p29 p30 p31 p32 p33 p34 p35 p36 p37 p38 p39 p40 p41 p42 p43 p44 p45 (.agg #[.int .i64 (N : Int), .int .i64 (H : Int)]) (.agg #[.int .i64 (N : Int), .int .i64 (H : Int)]) p56 p57 p58 p59 p60 p61 p62 p63 p64 p65 p66 p67 p68 p69 p70 p71 p72 p73 (.int .i64 fi) (.int .i64 (fi + 2)) (.agg #[.int .i64 (fi + 2), .bool false, .slice none 0 0]) undef undef undef undef undef undef) w := by
  refine wpAnyH_ready (rs := [5, 6, 7, 8, 10]) (by kernel_rfl) (by simp) (AllReadyH.cons (o := ops9[5]) rfl (fun KK hK => ?_) (AllReadyH.cons (o := ops9[6]) rfl (fun KK hK => ?_) (AllReadyH.cons (o := ops9[7]) rfl (fun KK hK => ?_) (AllReadyH.cons (o := ops9[8]) rfl (fun KK hK => ?_) (AllReadyH.cons (o := ops9[10]) rfl (fun KK hK => ?_) AllReadyH.nil)))))
  · refine step_makemap rfl rfl ?_
    refine hK.out _ _ (Y.hS _ h.add5.low) (fun hHeld => ?_)
    clear hK
    exact r9_110000 Y w.heap.size (w.alloc (.map #[] 0)) h.add5
  · refine step_makemap rfl rfl ?_
    refine hK.out _ _ (Y.hS _ h.add6.low) (fun hHeld => ?_)
    clear hK
    exact r9_101000 Y w.heap.size (w.alloc (.map #[] 0)) h.add6
  · refine step_makemap rfl rfl ?_
    refine hK.out _ _ (Y.hS _ h.add7.low) (fun hHeld => ?_)
    clear hK
    exact r9_100100 Y w.heap.size (w.alloc (.map #[] 0)) h.add7
  · refine step_makemap rfl rfl ?_
    refine hK.out _ _ (Y.hS _ h.add8.low) (fun hHeld => ?_)
    clear hK
    exact r9_100010 Y w.heap.size (w.alloc (.map #[] 0)) h.add8
  · unfold ops9
    go_simp
    refine hK.out _ _ (Y.hS _ h.addg.low) (fun hHeld => ?_)
    clear hK
    exact r9_100001 Y w.heap.size (w.alloc (.cells #[.int .i64 0, .int .i64 0, .int .i64 0, .bool false, .slice none 0 0, .map none, .map none, .map none, .map none] 101)) h.addg
set_option maxHeartbeats 2000000 in
theorem r9_000000 (Y : Hyp9 w0 S Q N H fi p0 p1 p2 p3 p4 p5 p6 p7 p8 p9 p10 p11 p12 p13 p14 p15 p17 p18 p19 p20 p21 p22 p23 p24 p25 p26 p27 p28 p29 p30 p31 p32 p33 p34 p35 p36 p37 p38 p39 p40 p41 p42 p43 p44 p45 p56 p57 p58 p59 p60 p61 p62 p63 p64 p65 p66 p67 p68 p69 p70 p71 p72 p73) (w : World) (h : R9 w0 none none none none none w) : wpAnyH Try.prog .any ops9 Q S 10 #[true, true, false, false, false, false, false, false, false, false, false, false] (act9 p0 p1 p2 p3 p4 p5 p6 p7 p8 p9 p10 p11 p12 p13 p14 p15 p17 p18 p19 p20 p21 p22 p23 p24 p25 p26 p27 p28 p29 p30 p31 p32 p33 p34 p35 p36 p37 p38 p39 p40 p41 p42 p43 p44 p45 (.agg #[.int .i64 (N : Int), .int .i64 (H : Int)]) (.agg #[.int .i64 (N : Int), .int .i64 (H : Int)]) p56 p57 p58 p59 p60 p61 p62 p63 p64 p65 p66 p67 p68 p69 p70 p71 p72 p73 (undef) (undef) (undef) undef undef undef undef undef undef) w := by
  refine wpAnyH_ready (rs := [2, 5, 6, 7, 8, 10]) (by kernel_rfl) (by simp) (AllReadyH.cons (o := ops9[2]) rfl (fun KK hK => ?_) (AllReadyH.cons (o := ops9[5]) rfl (fun KK hK => ?_) (AllReadyH.cons (o := ops9[6]) rfl (fun KK hK => ?_) (AllReadyH.cons (o := ops9[7]) rfl (fun KK hK => ?_) (AllReadyH.cons (o := ops9[8]) rfl (fun KK hK => ?_) (AllReadyH.cons (o := ops9[10]) rfl (fun KK hK => ?_) AllReadyH.nil))))))
  · unfold act9 ops9
    go_simp
    refine (ugsize_any N H _ Y.hN Y.hH).mono ?_
    rw [Y.hfi]
    rintro e w2 ⟨rfl, hb⟩
    have h2 := h.next hb
    go_wp2_with fail
    refine hK.out _ _ (Y.hS _ h2.low) (fun hHeld => ?_)
    clear hK
    refine wpAnyH_take (i := 3) (oi := ops9[3]) (v := .int .i64 (fi + 2)) rfl (by kernel_rfl) (by kernel_rfl) (by kernel_rfl) (fun c a w h => Y.hQ c a w _ _ h) (Or.inl ⟨by rfl, ?_⟩) (by assumption) ?_
    · (intro w hSw; have hwf := Y.hwf; unfold ops9; go_simp)
    refine wpAnyH_take (i := 4) (oi := ops9[4]) (v := .agg #[.int .i64 (fi + 2), .bool false, .slice none 0 0]) rfl (by kernel_rfl) (by kernel_rfl) (by kernel_rfl) (fun c a w h => Y.hQ c a w _ _ h) (Or.inl ⟨by rfl, ?_⟩) (by assumption) ?_
    · (intro w hSw; have hwf := Y.hwf; unfold ops9; go_simp)
    exact r9_100000 Y  w2 h2
  · refine step_makemap rfl rfl ?_
    refine hK.out _ _ (Y.hS _ h.add5.low) (fun hHeld => ?_)
    clear hK
    exact r9_010000 Y w.heap.size (w.alloc (.map #[] 0)) h.add5
  · refine step_makemap rfl rfl ?_
    refine hK.out _ _ (Y.hS _ h.add6.low) (fun hHeld => ?_)
    clear hK
    exact r9_001000 Y w.heap.size (w.alloc (.map #[] 0)) h.add6
  · refine step_makemap rfl rfl ?_
    refine hK.out _ _ (Y.hS _ h.add7.low) (fun hHeld => ?_)
    clear hK
    exact r9_000100 Y w.heap.size (w.alloc (.map #[] 0)) h.add7
  · refine step_makemap rfl rfl ?_
    refine hK.out _ _ (Y.hS _ h.add8.low) (fun hHeld => ?_)
    clear hK
    exact r9_000010 Y w.heap.size (w.alloc (.map #[] 0)) h.add8
  · unfold ops9
    go_simp
    refine hK.out _ _ (Y.hS _ h.addg.low) (fun hHeld => ?_)
    clear hK
    exact r9_000001 Y w.heap.size (w.alloc (.cells #[.int .i64 0, .int .i64 0, .int .i64 0, .bool false, .slice none 0 0, .map none, .map none, .map none, .map none] 101)) h.addg
end
end Go.Proofs.Ytlkbohpnlbfopaa
