/- Lemmas of the layers below, several texts in one. -/
import Derived.Test.YtekcnglkfglbfaaXFrom
import Derived.Test.YtekcnglkfglbfaaXNew
import Derived.Deep.LoopGhost
namespace Go.Proofs.Ytekcnglkfglbfaa
open Go.RowKit
set_option linter.unusedVariables false

/-- Rows of steps in blocks from lo to hi. -/
def SRB (w : World) (sg lo hi : Nat) (G : List (List StepT)) : Prop := ∀ i (h : i < G.length), ∃ ao cap, w.cell? ⟨sg, i, none⟩ = some (.slice ao G[i].length cap) ∧ Row encS 2 w ao G[i] ∧ ∀ ad, ao = some ad → 0 < G[i].length → lo ≤ ad.block ∧ ad.block < hi
theorem SRB.next {w w2 : World} {sg lo hi : Nat} {G : List (List StepT)} (h : SRB w sg lo hi G) (hsg : sg < w.heap.size) (hb : Below w.heap.size w w2) : SRB w2 sg lo hi G := by
  intro i hi
  obtain ⟨ao, cap, h1, h2, h3⟩ := h i hi
  exact ⟨ao, cap, cell_below' hb h1 hsg, h2.below' hb, h3⟩
theorem IXS.srb {B : Nat} {w : World} {g cap : Nat} {vs : List Value} {G : List (List StepT)} {own : Nat → Nat} (h : IXS B w g cap vs G own) : SRB w g B w.heap.size G := by
  intro i hi
  obtain ⟨hc, _⟩ := h.cell hi
  have hn := h.inn i hi
  obtain ⟨ao, c, e, hr⟩ := hn.row
  rw [e] at hc
  have eG : G.getD i [] = G[i] := getD_lt hi []
  rw [eG] at hc hr
  refine ⟨ao, c, hc, hr, fun ad ea _ => ?_⟩
  subst ea
  have hb : (vs.getD i nilS).ownBlock = some ad.block := by
    rcases hn.2 with ⟨h0, _⟩ | ⟨g', cap', cur, e1, _⟩
    · rw [e] at h0; cases h0
    · rw [e] at e1
      rw [e]
      injection e1 with e2 _ _
      injection e2 with e2
      rw [e2]
      rfl
  exact ⟨own_block hn hb, own_lt hn hb⟩
theorem filw_make {w wz : World} {N : Nat} {b : Bool} {ao : Option Addr} {cap : Nat} {Z : List ArcT} {sg lo hi fb tb : Nat} (ha : Row encA 4 wz ao Z) (hab : ∀ ad, ao = some ad → 0 < Z.length → ad.block < w.heap.size) (hs : SRB wz sg lo hi (rowsU Z N)) (hsg : lo ≤ sg ∧ sg < hi) (hlo : w.heap.size ≤ lo ∧ hi ≤ wz.heap.size)
    (hf : OwnL encI wz w.heap.size 3 (.slice (some ⟨fb, 0, none⟩) Z.length Z.length) (List.replicate Z.length 0)) (ht : OwnL encI wz w.heap.size 3 (.slice (some ⟨tb, 0, none⟩) N N) (List.replicate N 0)) (hne : fb ≠ tb) (htb : tb < lo ∨ hi ≤ tb) :
    FilW (wz.alloc (.cells #[.int .i64 (N : Int), .bool b, .slice ao Z.length cap, .slice (some ⟨sg, 0, none⟩) N N, .slice (some ⟨fb, 0, none⟩) Z.length Z.length, .slice none 0 0, .slice (some ⟨tb, 0, none⟩) N N] 71)) wz.heap.size tb sg N b ao cap Z N N (some ⟨fb, 0, none⟩) Z.length (List.replicate Z.length 0) none 0 [] (List.replicate N 0) := by
  have b1 := (Below.refl _ wz).alloc (Nat.le_refl _) (.cells #[.int .i64 (N : Int), .bool b, .slice ao Z.length cap, .slice (some ⟨sg, 0, none⟩) N N, .slice (some ⟨fb, 0, none⟩) Z.length Z.length, .slice none 0 0, .slice (some ⟨tb, 0, none⟩) N N] 71)
  have h1 : w.heap.size ≤ fb ∧ fb < wz.heap.size := own_lt2 hf rfl
  have h2 : w.heap.size ≤ tb ∧ tb < wz.heap.size := own_lt2 ht rfl
  have hbs := b1.size
  refine ⟨by rw [List.length_replicate]; exact heap_alloc_new _ _, ha.below' b1, fun ad e h0 => by have := hab ad e h0; omega, ?_, ⟨by omega, by omega, by omega⟩, hf.lstK.below b1, fun ad e _ => ?_, Lst.nil _ _, fun ad e _ => absurd e (by simp), (ht.below b1).mono (by omega), by omega⟩
  · intro i hi
    obtain ⟨a, c, r1, r2, r3⟩ := hs.next (by omega) b1 i hi
    exact ⟨a, c, r1, r2, fun ad e h0 => by have := r3 ad e h0; omega⟩
  · cases e
    exact ⟨by show fb ≠ _; omega, hne⟩
/-- What lies about while it is made. -/
structure EB (w0 wr : World) (N : Nat) (b : Bool) (ao : Option Addr) (cap : Nat) (Z : List ArcT) : Prop where
  below : Below w0.heap.size w0 wr
  big : w0.heap.size ≤ wr.heap.size
  net : wr.heap[w0.heap.size]? = some (.cells #[.int .i64 (N : Int), .bool b, .slice ao Z.length cap] 24 (0, 0))
  xnet : wr.heap[w0.heap.size + 1]? = some (.cells #[.int .i64 (N : Int), .bool b, .slice ao Z.length cap] 68 (0, 0))
  arcs : Row encA 4 wr ao Z
def HeldE (w0 : World) (N : Nat) (b : Bool) (ao : Option Addr) (zl cap : Nat) (W : World) : Prop := (W.cell? ⟨w0.heap.size, 0, none⟩ = some (.int .i64 (N : Int)) ∧ W.cell? ⟨w0.heap.size, 1, none⟩ = some (.bool b) ∧ W.cell? ⟨w0.heap.size, 2, none⟩ = some (.slice ao zl cap)) ∧ W.cell? ⟨w0.heap.size + 1, 0, none⟩ = some (.int .i64 (N : Int)) ∧ W.cell? ⟨w0.heap.size + 1, 1, none⟩ = some (.bool b) ∧ W.cell? ⟨w0.heap.size + 1, 2, none⟩ = some (.slice ao zl cap)
section
variable {w0 wr w2 : World} {N : Nat} {b : Bool} {ao : Option Addr} {cap : Nat} {Z : List ArcT}
theorem EB.next (h : EB w0 wr N b ao cap Z) (hb : Below wr.heap.size wr w2) : EB w0 w2 N b ao cap Z := ⟨h.below.trans (hb.mono h.big), Nat.le_trans h.big hb.size, kept_box h.net hb, kept_box h.xnet hb, h.arcs.below' hb⟩
theorem EB.held (h : EB w0 wr N b ao cap Z) : HeldE w0 N b ao Z.length cap wr := ⟨⟨cell_whole h.net 0, cell_whole h.net 1, cell_whole h.net 2⟩, cell_whole h.xnet 0, cell_whole h.xnet 1, cell_whole h.xnet 2⟩
end
section
variable (b : Bool) (ao : Option Addr) (cap : Nat) (Z : List ArcT)
set_option maxRecDepth 100000 in
set_option maxHeartbeats 4000000 in
theorem xempty_at (N : Nat) (w : World) (h : Row encA 4 w ao Z) (hc : checkE (N : Int) Z = 0) :
    Calls Try.prog 30 #[.agg #[.int .i64 (N : Int), .bool b, .slice ao Z.length cap]] w fun e w' => ∃ p tb sg fb, e = .returned (.pointer (some ⟨p, 0, none⟩)) ∧ w.heap.size ≤ p ∧ w.heap.size ≤ tb ∧ FilW w' p tb sg N b ao cap Z N N (some ⟨fb, 0, none⟩) Z.length (List.replicate Z.length 0) none 0 [] (List.replicate N 0) ∧ Below w.heap.size w w' := by
  have hR : Right ((N : Int), b, Z) := right_iff.1 hc
  have hn := nodesE_ok hR.1
  have hzl : Z.length ≤ 200 := hR.2.1
  simp only at hn
  have HC := Lib.hid hc
  have HLT := Lib.hid h.lt
  have hb0 := ((Below.refl _ w).alloc (Nat.le_refl _) (.cells #[.int .i64 (N : Int), .bool b, .slice ao Z.length cap] 24)).alloc (by simp) (.cells #[.int .i64 (N : Int), .bool b, .slice ao Z.length cap] 68)
  have HB := Lib.hid hb0
  have HZ := Lib.hid (h.below' hb0)
  have k := alloc_whole (heap_alloc_new w (.cells #[.int .i64 (N : Int), .bool b, .slice ao Z.length cap] 24)) (.cells #[.int .i64 (N : Int), .bool b, .slice ao Z.length cap] 68)
  have HK := Lib.hid k
  have HX := Lib.hid (new_whole1 w (.cells #[.int .i64 (N : Int), .bool b, .slice ao Z.length cap] 24) (.cells #[.int .i64 (N : Int), .bool b, .slice ao Z.length cap] 68))
  have hmk := fun W => run_make_row' (P := Try.prog) 25 3 (.int .i64 0) 8 Try.underlying25 infoInt rfl .i64 .i64 N (by omega) (by omega) W
  have hmz := fun W => run_make_row' (P := Try.prog) 25 3 (.int .i64 0) 8 Try.underlying25 infoInt rfl .i64 .i64 Z.length (by omega) (by omega) W
  clear h hc hR hb0 k
  have HE0 : Hid (EB w ((w.alloc (.cells #[.int .i64 (N : Int), .bool b, .slice ao Z.length cap] 24)).alloc (.cells #[.int .i64 (N : Int), .bool b, .slice ao Z.length cap] 68)) N b ao cap Z) := Lib.hid ⟨HB.out, HB.out.size, HK.out, HX.out, HZ.out⟩
  clear HB HZ HK HX
  go_enter Try.func30, Try.ntmps30
  go_wp2
  refine wp_region_held_drew (S := fun W => HeldE w N b ao Z.length cap W) (by kernel_rfl) HE0.out.held (fun hHeld => ?_)
  have HE := Lib.hid (HE0.out.next (below_drew (Below.refl _ _)))
  clear HE0
  generalize ((w.alloc (.cells #[.int .i64 (N : Int), .bool b, .slice ao Z.length cap] 24)).alloc (.cells #[.int .i64 (N : Int), .bool b, .slice ao Z.length cap] 68)).drew = wd at *
  refine wpAnyH_take (i := 0) (oi := { dst := some 6, op := Go.Op.load 68 (Go.Operand.tmp 3), type := 68, pos := "maxflow.go:53", after := #[], guard := none }) (v := .agg #[.int .i64 (N : Int), .bool b, .slice ao Z.length cap]) rfl (by kernel_rfl) (by kernel_rfl) (by kernel_rfl) (fun _ _ _ h => h) (Or.inl ⟨by rfl, ?_⟩) (by assumption) ?_
  · (intro w hSw; (try dsimp only [HeldE] at hSw); go_simp)
  try simp only [Act.put, List.setIfInBounds_toArray, List.set_cons_zero, List.set_cons_succ]
  refine wpAnyH_take (i := 1) (oi := { dst := some 7, op := Go.Op.load 68 (Go.Operand.tmp 3), type := 68, pos := "maxflow.go:53", after := #[], guard := none }) (v := .agg #[.int .i64 (N : Int), .bool b, .slice ao Z.length cap]) rfl (by kernel_rfl) (by kernel_rfl) (by kernel_rfl) (fun _ _ _ h => h) (Or.inl ⟨by rfl, ?_⟩) (by assumption) ?_
  · (intro w hSw; (try dsimp only [HeldE] at hSw); go_simp)
  try simp only [Act.put, List.setIfInBounds_toArray, List.set_cons_zero, List.set_cons_succ]
  refine wpAnyH_take (i := 3) (oi := { dst := some 9, op := Go.Op.fieldAddr 24 (Go.Operand.tmp 1) 2, type := 0, pos := "maxflow.go:53", after := #[], guard := none }) (v := .pointer (some ⟨w.heap.size, 2, none⟩)) rfl (by kernel_rfl) (by kernel_rfl) (by kernel_rfl) (fun _ _ _ h => h) (Or.inl ⟨by rfl, ?_⟩) (by assumption) ?_
  · (intro w hSw; (try dsimp only [HeldE] at hSw); go_simp)
  try simp only [Act.put, List.setIfInBounds_toArray, List.set_cons_zero, List.set_cons_succ]
  refine wpAnyH_take (i := 4) (oi := { dst := some 10, op := Go.Op.load 22 (Go.Operand.tmp 9), type := 22, pos := "maxflow.go:53", after := #[{ on := 3, ground := Go.Ground.data }], guard := none }) (v := .slice ao Z.length cap) rfl (by kernel_rfl) (by kernel_rfl) (by kernel_rfl) (fun _ _ _ h => h) (Or.inl ⟨by rfl, ?_⟩) (by assumption) ?_
  · (intro w hSw; (try dsimp only [HeldE] at hSw); go_simp)
  try simp only [Act.put, List.setIfInBounds_toArray, List.set_cons_zero, List.set_cons_succ]
  refine wpAnyH_take (i := 5) (oi := { dst := some 11, op := Go.Op.call { callee := Go.Callee.builtin Go.Builtin.len, args := #[Go.Operand.tmp 10], argTypes := #[22] }, type := 3, pos := "maxflow.go:53", after := #[{ on := 4, ground := Go.Ground.data }], guard := none }) (v := .int .i64 (Z.length : Int)) rfl (by kernel_rfl) (by kernel_rfl) (by kernel_rfl) (fun _ _ _ h => h) (Or.inl ⟨by rfl, ?_⟩) (by assumption) ?_
  · (intro w hSw; (try dsimp only [HeldE] at hSw); go_simp)
  try simp only [Act.put, List.setIfInBounds_toArray, List.set_cons_zero, List.set_cons_succ]
  refine wpAnyH_take (i := 7) (oi := { dst := some 13, op := Go.Op.fieldAddr 24 (Go.Operand.tmp 1) 0, type := 0, pos := "maxflow.go:53", after := #[], guard := none }) (v := .pointer (some ⟨w.heap.size, 0, none⟩)) rfl (by kernel_rfl) (by kernel_rfl) (by kernel_rfl) (fun _ _ _ h => h) (Or.inl ⟨by rfl, ?_⟩) (by assumption) ?_
  · (intro w hSw; (try dsimp only [HeldE] at hSw); go_simp)
  try simp only [Act.put, List.setIfInBounds_toArray, List.set_cons_zero, List.set_cons_succ]
  refine wpAnyH_take (i := 8) (oi := { dst := some 14, op := Go.Op.load 3 (Go.Operand.tmp 13), type := 3, pos := "maxflow.go:53", after := #[{ on := 7, ground := Go.Ground.data }], guard := none }) (v := .int .i64 (N : Int)) rfl (by kernel_rfl) (by kernel_rfl) (by kernel_rfl) (fun _ _ _ h => h) (Or.inl ⟨by rfl, ?_⟩) (by assumption) ?_
  · (intro w hSw; (try dsimp only [HeldE] at hSw); go_simp)
  try simp only [Act.put, List.setIfInBounds_toArray, List.set_cons_zero, List.set_cons_succ]
  refine wpAnyH_ready (rs := [2, 6, 9]) (by kernel_rfl) (by simp) (AllReadyH.cons (o := { dst := some 8, op := Go.Op.call { callee := Go.Callee.value (Go.Operand.func 44), args := #[Go.Operand.tmp 7], argTypes := #[68] }, type := 69, pos := "maxflow.go:55", after := #[{ on := 1, ground := Go.Ground.data }], guard := none }) rfl (fun K hK => ?_) (AllReadyH.cons (o := { dst := some 12, op := Go.Op.makeSlice 25 (Go.Operand.tmp 11) (Go.Operand.tmp 11), type := 25, pos := "maxflow.go:53", after := #[{ on := 5, ground := Go.Ground.data }, { on := 5, ground := Go.Ground.data }], guard := none }) rfl (fun K hK => ?_) (AllReadyH.cons (o := { dst := some 15, op := Go.Op.makeSlice 25 (Go.Operand.tmp 14) (Go.Operand.tmp 14), type := 25, pos := "maxflow.go:53", after := #[{ on := 8, ground := Go.Ground.data }, { on := 8, ground := Go.Ground.data }], guard := none }) rfl (fun K hK => ?_) AllReadyH.nil)))
  · go_simp
    refine (xfrom_at b ao cap Z N _ HE.out.arcs HC.out).mono ?_
    rintro e wc ⟨sg, vs, own, rfl, hix, b7⟩
    have HLO : Hid (w.heap.size ≤ wd.heap.size) := Lib.hid HE.out.big
    have HE := Lib.hid (HE.out.next b7)
    have HSR := Lib.hid hix.srb
    have HSG : Hid (wd.heap.size ≤ sg ∧ sg < wc.heap.size) := Lib.hid hix.lt
    have HSB : Hid (sg < wc.heap.size) := Lib.hid hix.lt.2
    have HHI : Hid (wc.heap.size ≤ wc.heap.size) := Lib.hid (Nat.le_refl _)
    clear b7 hix hHeld
    go_wp2_with fail
    refine hK.out _ _ HE.out.held (fun hHeld => ?_)
    clear hK
    try simp only [Act.put, List.setIfInBounds_toArray, List.set_cons_zero, List.set_cons_succ]
    refine wpAnyH_ready (rs := [6, 9]) (by kernel_rfl) (by simp) (AllReadyH.cons (o := { dst := some 12, op := Go.Op.makeSlice 25 (Go.Operand.tmp 11) (Go.Operand.tmp 11), type := 25, pos := "maxflow.go:53", after := #[{ on := 5, ground := Go.Ground.data }, { on := 5, ground := Go.Ground.data }], guard := none }) rfl (fun K hK => ?_) (AllReadyH.cons (o := { dst := some 15, op := Go.Op.makeSlice 25 (Go.Operand.tmp 14) (Go.Operand.tmp 14), type := 25, pos := "maxflow.go:53", after := #[{ on := 8, ground := Go.Ground.data }, { on := 8, ground := Go.Ground.data }], guard := none }) rfl (fun K hK => ?_) AllReadyH.nil))
    · go_simp
      have b7 := (Below.refl _ wc).alloc (Nat.le_refl _) (.cells (madeCells #[.int .i64 0] Z.length) 3)
      have HF := Lib.hid (made_ints wc w.heap.size Z.length HE.out.big (by omega))
      have HFL : Hid (wc.heap.size < (wc.alloc (.cells (madeCells #[.int .i64 0] Z.length) 3)).heap.size) := Lib.hid (by simp)
      have HE := Lib.hid (HE.out.next b7)
      have HSR := Lib.hid (HSR.out.next HSB.out b7)
      have HSB := Lib.hid (Nat.lt_of_lt_of_le HSB.out b7.size)
      have HHI := Lib.hid (Nat.le_trans HHI.out b7.size)
      clear b7 hHeld
      refine hK.out _ _ HE.out.held (fun hHeld => ?_)
      clear hK
      generalize wc.alloc (.cells (madeCells #[.int .i64 0] Z.length) 3) = wf at *
      try simp only [Act.put, List.setIfInBounds_toArray, List.set_cons_zero, List.set_cons_succ]
      refine wpAnyH_ready (rs := [9]) (by kernel_rfl) (by simp) (AllReadyH.cons (o := { dst := some 15, op := Go.Op.makeSlice 25 (Go.Operand.tmp 14) (Go.Operand.tmp 14), type := 25, pos := "maxflow.go:53", after := #[{ on := 8, ground := Go.Ground.data }, { on := 8, ground := Go.Ground.data }], guard := none }) rfl (fun K hK => ?_) AllReadyH.nil)
      go_simp
      have b7 := (Below.refl _ wf).alloc (Nat.le_refl _) (.cells (madeCells #[.int .i64 0] N) 3)
      have HNE : Hid (wc.heap.size ≠ wf.heap.size) := Lib.hid (by have := HFL.out; omega)
      have HTO : Hid (wf.heap.size < wd.heap.size ∨ wc.heap.size ≤ wf.heap.size) := Lib.hid (.inr HHI.out)
      have HT := Lib.hid (made_ints wf w.heap.size N HE.out.big (by omega))
      have HTL : Hid (wf.heap.size < (wf.alloc (.cells (madeCells #[.int .i64 0] N) 3)).heap.size) := Lib.hid (by simp)
      have HE := Lib.hid (HE.out.next b7)
      have HSR := Lib.hid (HSR.out.next HSB.out b7)
      have HSB := Lib.hid (Nat.lt_of_lt_of_le HSB.out b7.size)
      have HHI := Lib.hid (Nat.le_trans HHI.out b7.size)
      have HF := Lib.hid (HF.out.below b7)
      have HFL := Lib.hid (Nat.lt_of_lt_of_le HFL.out b7.size)
      clear b7 hHeld
      refine hK.out _ _ HE.out.held (fun hHeld => ?_)
      clear hK
      generalize wf.alloc (.cells (madeCells #[.int .i64 0] N) 3) = wt at *
      try simp only [Act.put, List.setIfInBounds_toArray, List.set_cons_zero, List.set_cons_succ]
      refine wpAnyH_take (i := 10) (oi := { dst := some 16, op := Go.Op.build 71 #[(0, Go.Operand.tmp 6), (1, Go.Operand.tmp 8), (2, Go.Operand.tmp 12), (4, Go.Operand.tmp 15)], type := 71, pos := "maxflow.go:53", after := #[{ on := 0, ground := Go.Ground.data }, { on := 2, ground := Go.Ground.data }, { on := 6, ground := Go.Ground.data }, { on := 9, ground := Go.Ground.data }], guard := none }) (v := .agg #[.int .i64 (N : Int), .bool b, .slice ao Z.length cap, .slice (some ⟨sg, 0, none⟩) N N, .slice (some ⟨wc.heap.size, 0, none⟩) Z.length Z.length, .slice none 0 0, .slice (some ⟨wf.heap.size, 0, none⟩) N N]) rfl (by kernel_rfl) (by kernel_rfl) (by kernel_rfl) (fun _ _ _ h => h) (Or.inl ⟨by rfl, ?_⟩) (by assumption) ?_
      · (intro w hSw; (try dsimp only [HeldE] at hSw); go_simp)
      try simp only [Act.put, List.setIfInBounds_toArray, List.set_cons_zero, List.set_cons_succ]
      refine wpAnyH_ready (rs := [11]) (by kernel_rfl) (by simp) (AllReadyH.cons (o := { dst := some 17, op := Go.Op.box 71 (Go.Operand.tmp 16), type := 65, pos := "maxflow.go:53", after := #[{ on := 10, ground := Go.Ground.data }], guard := none }) rfl (fun K hK => ?_) AllReadyH.nil)
      go_simp
      have HW := Lib.hid (filw_make (w := w) (wz := wt) (b := b) (cap := cap) HE.out.arcs HLT.out HSR.out HSG.out ⟨HLO.out, HHI.out⟩ HF.out HT.out HNE.out HTO.out)
      have b7 := (Below.refl _ wt).alloc (Nat.le_refl _) (.cells #[.int .i64 (N : Int), .bool b, .slice ao Z.length cap, .slice (some ⟨sg, 0, none⟩) N N, .slice (some ⟨wc.heap.size, 0, none⟩) Z.length Z.length, .slice none 0 0, .slice (some ⟨wf.heap.size, 0, none⟩) N N] 71)
      have HP := Lib.hid HE.out.big
      have HE := Lib.hid (HE.out.next b7)
      have HTB : Hid (w.heap.size ≤ wf.heap.size) := Lib.hid (own_lt2 HT.out rfl).1
      clear b7 hHeld
      refine hK.out _ _ HE.out.held (fun hHeld => ?_)
      clear hK
      try simp only [Act.put, List.setIfInBounds_toArray, List.set_cons_zero, List.set_cons_succ]
      refine wpAnyH_take (i := 12) (oi := { dst := some 2, op := Go.Op.assign (Go.Operand.tmp 17), type := 65, pos := "maxflow.go:53", after := #[{ on := 11, ground := Go.Ground.data }, { on := 2, ground := Go.Ground.chain }, { on := 0, ground := Go.Ground.phase }, { on := 1, ground := Go.Ground.phase }, { on := 2, ground := Go.Ground.phase }, { on := 3, ground := Go.Ground.phase }, { on := 4, ground := Go.Ground.phase }, { on := 5, ground := Go.Ground.phase }, { on := 6, ground := Go.Ground.phase }, { on := 7, ground := Go.Ground.phase }, { on := 8, ground := Go.Ground.phase }, { on := 9, ground := Go.Ground.phase }, { on := 10, ground := Go.Ground.phase }, { on := 11, ground := Go.Ground.phase }], guard := none }) (v := .pointer (some ⟨wt.heap.size, 0, none⟩)) rfl (by kernel_rfl) (by kernel_rfl) (by kernel_rfl) (fun _ _ _ h => h) (Or.inl ⟨by rfl, ?_⟩) (by assumption) ?_
      · (intro w hSw; (try dsimp only [HeldE] at hSw); go_simp)
      try simp only [Act.put, List.setIfInBounds_toArray, List.set_cons_zero, List.set_cons_succ]
      refine wpAnyH_done (by kernel_rfl) ?_ _
      clear hHeld
      go_wp2
      go_ret
      exact ⟨_, _, _, _, rfl, HP.out, HTB.out, HW.out, HE.out.below⟩
    · go_simp
      have b7 := (Below.refl _ wc).alloc (Nat.le_refl _) (.cells (madeCells #[.int .i64 0] N) 3)
      have HTO : Hid (wc.heap.size < wd.heap.size ∨ wc.heap.size ≤ wc.heap.size) := Lib.hid (.inr HHI.out)
      have HT := Lib.hid (made_ints wc w.heap.size N HE.out.big (by omega))
      have HTL : Hid (wc.heap.size < (wc.alloc (.cells (madeCells #[.int .i64 0] N) 3)).heap.size) := Lib.hid (by simp)
      have HE := Lib.hid (HE.out.next b7)
      have HSR := Lib.hid (HSR.out.next HSB.out b7)
      have HSB := Lib.hid (Nat.lt_of_lt_of_le HSB.out b7.size)
      have HHI := Lib.hid (Nat.le_trans HHI.out b7.size)
      clear b7 hHeld
      refine hK.out _ _ HE.out.held (fun hHeld => ?_)
      clear hK
      generalize wc.alloc (.cells (madeCells #[.int .i64 0] N) 3) = wt at *
      try simp only [Act.put, List.setIfInBounds_toArray, List.set_cons_zero, List.set_cons_succ]
      refine wpAnyH_ready (rs := [6]) (by kernel_rfl) (by simp) (AllReadyH.cons (o := { dst := some 12, op := Go.Op.makeSlice 25 (Go.Operand.tmp 11) (Go.Operand.tmp 11), type := 25, pos := "maxflow.go:53", after := #[{ on := 5, ground := Go.Ground.data }, { on := 5, ground := Go.Ground.data }], guard := none }) rfl (fun K hK => ?_) AllReadyH.nil)
      go_simp
      have b7 := (Below.refl _ wt).alloc (Nat.le_refl _) (.cells (madeCells #[.int .i64 0] Z.length) 3)
      have HNE : Hid (wt.heap.size ≠ wc.heap.size) := Lib.hid (by have := HTL.out; omega)
      have HF := Lib.hid (made_ints wt w.heap.size Z.length HE.out.big (by omega))
      have HFL : Hid (wt.heap.size < (wt.alloc (.cells (madeCells #[.int .i64 0] Z.length) 3)).heap.size) := Lib.hid (by simp)
      have HE := Lib.hid (HE.out.next b7)
      have HSR := Lib.hid (HSR.out.next HSB.out b7)
      have HSB := Lib.hid (Nat.lt_of_lt_of_le HSB.out b7.size)
      have HHI := Lib.hid (Nat.le_trans HHI.out b7.size)
      have HT := Lib.hid (HT.out.below b7)
      have HTL := Lib.hid (Nat.lt_of_lt_of_le HTL.out b7.size)
      clear b7 hHeld
      refine hK.out _ _ HE.out.held (fun hHeld => ?_)
      clear hK
      generalize wt.alloc (.cells (madeCells #[.int .i64 0] Z.length) 3) = wf at *
      try simp only [Act.put, List.setIfInBounds_toArray, List.set_cons_zero, List.set_cons_succ]
      refine wpAnyH_take (i := 10) (oi := { dst := some 16, op := Go.Op.build 71 #[(0, Go.Operand.tmp 6), (1, Go.Operand.tmp 8), (2, Go.Operand.tmp 12), (4, Go.Operand.tmp 15)], type := 71, pos := "maxflow.go:53", after := #[{ on := 0, ground := Go.Ground.data }, { on := 2, ground := Go.Ground.data }, { on := 6, ground := Go.Ground.data }, { on := 9, ground := Go.Ground.data }], guard := none }) (v := .agg #[.int .i64 (N : Int), .bool b, .slice ao Z.length cap, .slice (some ⟨sg, 0, none⟩) N N, .slice (some ⟨wt.heap.size, 0, none⟩) Z.length Z.length, .slice none 0 0, .slice (some ⟨wc.heap.size, 0, none⟩) N N]) rfl (by kernel_rfl) (by kernel_rfl) (by kernel_rfl) (fun _ _ _ h => h) (Or.inl ⟨by rfl, ?_⟩) (by assumption) ?_
      · (intro w hSw; (try dsimp only [HeldE] at hSw); go_simp)
      try simp only [Act.put, List.setIfInBounds_toArray, List.set_cons_zero, List.set_cons_succ]
      refine wpAnyH_ready (rs := [11]) (by kernel_rfl) (by simp) (AllReadyH.cons (o := { dst := some 17, op := Go.Op.box 71 (Go.Operand.tmp 16), type := 65, pos := "maxflow.go:53", after := #[{ on := 10, ground := Go.Ground.data }], guard := none }) rfl (fun K hK => ?_) AllReadyH.nil)
      go_simp
      have HW := Lib.hid (filw_make (w := w) (wz := wf) (b := b) (cap := cap) HE.out.arcs HLT.out HSR.out HSG.out ⟨HLO.out, HHI.out⟩ HF.out HT.out HNE.out HTO.out)
      have b7 := (Below.refl _ wf).alloc (Nat.le_refl _) (.cells #[.int .i64 (N : Int), .bool b, .slice ao Z.length cap, .slice (some ⟨sg, 0, none⟩) N N, .slice (some ⟨wt.heap.size, 0, none⟩) Z.length Z.length, .slice none 0 0, .slice (some ⟨wc.heap.size, 0, none⟩) N N] 71)
      have HP := Lib.hid HE.out.big
      have HE := Lib.hid (HE.out.next b7)
      have HTB : Hid (w.heap.size ≤ wc.heap.size) := Lib.hid (own_lt2 HT.out rfl).1
      clear b7 hHeld
      refine hK.out _ _ HE.out.held (fun hHeld => ?_)
      clear hK
      try simp only [Act.put, List.setIfInBounds_toArray, List.set_cons_zero, List.set_cons_succ]
      refine wpAnyH_take (i := 12) (oi := { dst := some 2, op := Go.Op.assign (Go.Operand.tmp 17), type := 65, pos := "maxflow.go:53", after := #[{ on := 11, ground := Go.Ground.data }, { on := 2, ground := Go.Ground.chain }, { on := 0, ground := Go.Ground.phase }, { on := 1, ground := Go.Ground.phase }, { on := 2, ground := Go.Ground.phase }, { on := 3, ground := Go.Ground.phase }, { on := 4, ground := Go.Ground.phase }, { on := 5, ground := Go.Ground.phase }, { on := 6, ground := Go.Ground.phase }, { on := 7, ground := Go.Ground.phase }, { on := 8, ground := Go.Ground.phase }, { on := 9, ground := Go.Ground.phase }, { on := 10, ground := Go.Ground.phase }, { on := 11, ground := Go.Ground.phase }], guard := none }) (v := .pointer (some ⟨wf.heap.size, 0, none⟩)) rfl (by kernel_rfl) (by kernel_rfl) (by kernel_rfl) (fun _ _ _ h => h) (Or.inl ⟨by rfl, ?_⟩) (by assumption) ?_
      · (intro w hSw; (try dsimp only [HeldE] at hSw); go_simp)
      try simp only [Act.put, List.setIfInBounds_toArray, List.set_cons_zero, List.set_cons_succ]
      refine wpAnyH_done (by kernel_rfl) ?_ _
      clear hHeld
      go_wp2
      go_ret
      exact ⟨_, _, _, _, rfl, HP.out, HTB.out, HW.out, HE.out.below⟩
  · go_simp
    have b7 := (Below.refl _ wd).alloc (Nat.le_refl _) (.cells (madeCells #[.int .i64 0] Z.length) 3)
    have HF := Lib.hid (made_ints wd w.heap.size Z.length HE.out.big (by omega))
    have HFL : Hid (wd.heap.size < (wd.alloc (.cells (madeCells #[.int .i64 0] Z.length) 3)).heap.size) := Lib.hid (by simp)
    have HE := Lib.hid (HE.out.next b7)
    clear b7 hHeld
    refine hK.out _ _ HE.out.held (fun hHeld => ?_)
    clear hK
    generalize wd.alloc (.cells (madeCells #[.int .i64 0] Z.length) 3) = wf at *
    try simp only [Act.put, List.setIfInBounds_toArray, List.set_cons_zero, List.set_cons_succ]
    refine wpAnyH_ready (rs := [2, 9]) (by kernel_rfl) (by simp) (AllReadyH.cons (o := { dst := some 8, op := Go.Op.call { callee := Go.Callee.value (Go.Operand.func 44), args := #[Go.Operand.tmp 7], argTypes := #[68] }, type := 69, pos := "maxflow.go:55", after := #[{ on := 1, ground := Go.Ground.data }], guard := none }) rfl (fun K hK => ?_) (AllReadyH.cons (o := { dst := some 15, op := Go.Op.makeSlice 25 (Go.Operand.tmp 14) (Go.Operand.tmp 14), type := 25, pos := "maxflow.go:53", after := #[{ on := 8, ground := Go.Ground.data }, { on := 8, ground := Go.Ground.data }], guard := none }) rfl (fun K hK => ?_) AllReadyH.nil))
    · go_simp
      refine (xfrom_at b ao cap Z N _ HE.out.arcs HC.out).mono ?_
      rintro e wc ⟨sg, vs, own, rfl, hix, b7⟩
      have HLO : Hid (w.heap.size ≤ wf.heap.size) := Lib.hid HE.out.big
      have HE := Lib.hid (HE.out.next b7)
      have HF := Lib.hid (HF.out.below b7)
      have HFL := Lib.hid (Nat.lt_of_lt_of_le HFL.out b7.size)
      have HSR := Lib.hid hix.srb
      have HSG : Hid (wf.heap.size ≤ sg ∧ sg < wc.heap.size) := Lib.hid hix.lt
      have HSB : Hid (sg < wc.heap.size) := Lib.hid hix.lt.2
      have HHI : Hid (wc.heap.size ≤ wc.heap.size) := Lib.hid (Nat.le_refl _)
      clear b7 hix hHeld
      go_wp2_with fail
      refine hK.out _ _ HE.out.held (fun hHeld => ?_)
      clear hK
      try simp only [Act.put, List.setIfInBounds_toArray, List.set_cons_zero, List.set_cons_succ]
      refine wpAnyH_ready (rs := [9]) (by kernel_rfl) (by simp) (AllReadyH.cons (o := { dst := some 15, op := Go.Op.makeSlice 25 (Go.Operand.tmp 14) (Go.Operand.tmp 14), type := 25, pos := "maxflow.go:53", after := #[{ on := 8, ground := Go.Ground.data }, { on := 8, ground := Go.Ground.data }], guard := none }) rfl (fun K hK => ?_) AllReadyH.nil)
      go_simp
      have b7 := (Below.refl _ wc).alloc (Nat.le_refl _) (.cells (madeCells #[.int .i64 0] N) 3)
      have HNE : Hid (wd.heap.size ≠ wc.heap.size) := Lib.hid (by have := HFL.out; omega)
      have HTO : Hid (wc.heap.size < wf.heap.size ∨ wc.heap.size ≤ wc.heap.size) := Lib.hid (.inr HHI.out)
      have HT := Lib.hid (made_ints wc w.heap.size N HE.out.big (by omega))
      have HTL : Hid (wc.heap.size < (wc.alloc (.cells (madeCells #[.int .i64 0] N) 3)).heap.size) := Lib.hid (by simp)
      have HE := Lib.hid (HE.out.next b7)
      have HSR := Lib.hid (HSR.out.next HSB.out b7)
      have HSB := Lib.hid (Nat.lt_of_lt_of_le HSB.out b7.size)
      have HHI := Lib.hid (Nat.le_trans HHI.out b7.size)
      have HF := Lib.hid (HF.out.below b7)
      have HFL := Lib.hid (Nat.lt_of_lt_of_le HFL.out b7.size)
      clear b7 hHeld
      refine hK.out _ _ HE.out.held (fun hHeld => ?_)
      clear hK
      generalize wc.alloc (.cells (madeCells #[.int .i64 0] N) 3) = wt at *
      try simp only [Act.put, List.setIfInBounds_toArray, List.set_cons_zero, List.set_cons_succ]
      refine wpAnyH_take (i := 10) (oi := { dst := some 16, op := Go.Op.build 71 #[(0, Go.Operand.tmp 6), (1, Go.Operand.tmp 8), (2, Go.Operand.tmp 12), (4, Go.Operand.tmp 15)], type := 71, pos := "maxflow.go:53", after := #[{ on := 0, ground := Go.Ground.data }, { on := 2, ground := Go.Ground.data }, { on := 6, ground := Go.Ground.data }, { on := 9, ground := Go.Ground.data }], guard := none }) (v := .agg #[.int .i64 (N : Int), .bool b, .slice ao Z.length cap, .slice (some ⟨sg, 0, none⟩) N N, .slice (some ⟨wd.heap.size, 0, none⟩) Z.length Z.length, .slice none 0 0, .slice (some ⟨wc.heap.size, 0, none⟩) N N]) rfl (by kernel_rfl) (by kernel_rfl) (by kernel_rfl) (fun _ _ _ h => h) (Or.inl ⟨by rfl, ?_⟩) (by assumption) ?_
      · (intro w hSw; (try dsimp only [HeldE] at hSw); go_simp)
      try simp only [Act.put, List.setIfInBounds_toArray, List.set_cons_zero, List.set_cons_succ]
      refine wpAnyH_ready (rs := [11]) (by kernel_rfl) (by simp) (AllReadyH.cons (o := { dst := some 17, op := Go.Op.box 71 (Go.Operand.tmp 16), type := 65, pos := "maxflow.go:53", after := #[{ on := 10, ground := Go.Ground.data }], guard := none }) rfl (fun K hK => ?_) AllReadyH.nil)
      go_simp
      have HW := Lib.hid (filw_make (w := w) (wz := wt) (b := b) (cap := cap) HE.out.arcs HLT.out HSR.out HSG.out ⟨HLO.out, HHI.out⟩ HF.out HT.out HNE.out HTO.out)
      have b7 := (Below.refl _ wt).alloc (Nat.le_refl _) (.cells #[.int .i64 (N : Int), .bool b, .slice ao Z.length cap, .slice (some ⟨sg, 0, none⟩) N N, .slice (some ⟨wd.heap.size, 0, none⟩) Z.length Z.length, .slice none 0 0, .slice (some ⟨wc.heap.size, 0, none⟩) N N] 71)
      have HP := Lib.hid HE.out.big
      have HE := Lib.hid (HE.out.next b7)
      have HTB : Hid (w.heap.size ≤ wc.heap.size) := Lib.hid (own_lt2 HT.out rfl).1
      clear b7 hHeld
      refine hK.out _ _ HE.out.held (fun hHeld => ?_)
      clear hK
      try simp only [Act.put, List.setIfInBounds_toArray, List.set_cons_zero, List.set_cons_succ]
      refine wpAnyH_take (i := 12) (oi := { dst := some 2, op := Go.Op.assign (Go.Operand.tmp 17), type := 65, pos := "maxflow.go:53", after := #[{ on := 11, ground := Go.Ground.data }, { on := 2, ground := Go.Ground.chain }, { on := 0, ground := Go.Ground.phase }, { on := 1, ground := Go.Ground.phase }, { on := 2, ground := Go.Ground.phase }, { on := 3, ground := Go.Ground.phase }, { on := 4, ground := Go.Ground.phase }, { on := 5, ground := Go.Ground.phase }, { on := 6, ground := Go.Ground.phase }, { on := 7, ground := Go.Ground.phase }, { on := 8, ground := Go.Ground.phase }, { on := 9, ground := Go.Ground.phase }, { on := 10, ground := Go.Ground.phase }, { on := 11, ground := Go.Ground.phase }], guard := none }) (v := .pointer (some ⟨wt.heap.size, 0, none⟩)) rfl (by kernel_rfl) (by kernel_rfl) (by kernel_rfl) (fun _ _ _ h => h) (Or.inl ⟨by rfl, ?_⟩) (by assumption) ?_
      · (intro w hSw; (try dsimp only [HeldE] at hSw); go_simp)
      try simp only [Act.put, List.setIfInBounds_toArray, List.set_cons_zero, List.set_cons_succ]
      refine wpAnyH_done (by kernel_rfl) ?_ _
      clear hHeld
      go_wp2
      go_ret
      exact ⟨_, _, _, _, rfl, HP.out, HTB.out, HW.out, HE.out.below⟩
    · go_simp
      have b7 := (Below.refl _ wf).alloc (Nat.le_refl _) (.cells (madeCells #[.int .i64 0] N) 3)
      have HNE : Hid (wd.heap.size ≠ wf.heap.size) := Lib.hid (by have := HFL.out; omega)
      have HT := Lib.hid (made_ints wf w.heap.size N HE.out.big (by omega))
      have HTL : Hid (wf.heap.size < (wf.alloc (.cells (madeCells #[.int .i64 0] N) 3)).heap.size) := Lib.hid (by simp)
      have HE := Lib.hid (HE.out.next b7)
      have HF := Lib.hid (HF.out.below b7)
      have HFL := Lib.hid (Nat.lt_of_lt_of_le HFL.out b7.size)
      clear b7 hHeld
      refine hK.out _ _ HE.out.held (fun hHeld => ?_)
      clear hK
      generalize wf.alloc (.cells (madeCells #[.int .i64 0] N) 3) = wt at *
      try simp only [Act.put, List.setIfInBounds_toArray, List.set_cons_zero, List.set_cons_succ]
      refine wpAnyH_ready (rs := [2]) (by kernel_rfl) (by simp) (AllReadyH.cons (o := { dst := some 8, op := Go.Op.call { callee := Go.Callee.value (Go.Operand.func 44), args := #[Go.Operand.tmp 7], argTypes := #[68] }, type := 69, pos := "maxflow.go:55", after := #[{ on := 1, ground := Go.Ground.data }], guard := none }) rfl (fun K hK => ?_) AllReadyH.nil)
      go_simp
      refine (xfrom_at b ao cap Z N _ HE.out.arcs HC.out).mono ?_
      rintro e wc ⟨sg, vs, own, rfl, hix, b7⟩
      have HTO : Hid (wf.heap.size < wt.heap.size ∨ wc.heap.size ≤ wf.heap.size) := Lib.hid (.inl HTL.out)
      have HLO : Hid (w.heap.size ≤ wt.heap.size) := Lib.hid HE.out.big
      have HE := Lib.hid (HE.out.next b7)
      have HF := Lib.hid (HF.out.below b7)
      have HFL := Lib.hid (Nat.lt_of_lt_of_le HFL.out b7.size)
      have HT := Lib.hid (HT.out.below b7)
      have HTL := Lib.hid (Nat.lt_of_lt_of_le HTL.out b7.size)
      have HSR := Lib.hid hix.srb
      have HSG : Hid (wt.heap.size ≤ sg ∧ sg < wc.heap.size) := Lib.hid hix.lt
      have HSB : Hid (sg < wc.heap.size) := Lib.hid hix.lt.2
      have HHI : Hid (wc.heap.size ≤ wc.heap.size) := Lib.hid (Nat.le_refl _)
      clear b7 hix hHeld
      go_wp2_with fail
      refine hK.out _ _ HE.out.held (fun hHeld => ?_)
      clear hK
      try simp only [Act.put, List.setIfInBounds_toArray, List.set_cons_zero, List.set_cons_succ]
      refine wpAnyH_take (i := 10) (oi := { dst := some 16, op := Go.Op.build 71 #[(0, Go.Operand.tmp 6), (1, Go.Operand.tmp 8), (2, Go.Operand.tmp 12), (4, Go.Operand.tmp 15)], type := 71, pos := "maxflow.go:53", after := #[{ on := 0, ground := Go.Ground.data }, { on := 2, ground := Go.Ground.data }, { on := 6, ground := Go.Ground.data }, { on := 9, ground := Go.Ground.data }], guard := none }) (v := .agg #[.int .i64 (N : Int), .bool b, .slice ao Z.length cap, .slice (some ⟨sg, 0, none⟩) N N, .slice (some ⟨wd.heap.size, 0, none⟩) Z.length Z.length, .slice none 0 0, .slice (some ⟨wf.heap.size, 0, none⟩) N N]) rfl (by kernel_rfl) (by kernel_rfl) (by kernel_rfl) (fun _ _ _ h => h) (Or.inl ⟨by rfl, ?_⟩) (by assumption) ?_
      · (intro w hSw; (try dsimp only [HeldE] at hSw); go_simp)
      try simp only [Act.put, List.setIfInBounds_toArray, List.set_cons_zero, List.set_cons_succ]
      refine wpAnyH_ready (rs := [11]) (by kernel_rfl) (by simp) (AllReadyH.cons (o := { dst := some 17, op := Go.Op.box 71 (Go.Operand.tmp 16), type := 65, pos := "maxflow.go:53", after := #[{ on := 10, ground := Go.Ground.data }], guard := none }) rfl (fun K hK => ?_) AllReadyH.nil)
      go_simp
      have HW := Lib.hid (filw_make (w := w) (wz := wc) (b := b) (cap := cap) HE.out.arcs HLT.out HSR.out HSG.out ⟨HLO.out, HHI.out⟩ HF.out HT.out HNE.out HTO.out)
      have b7 := (Below.refl _ wc).alloc (Nat.le_refl _) (.cells #[.int .i64 (N : Int), .bool b, .slice ao Z.length cap, .slice (some ⟨sg, 0, none⟩) N N, .slice (some ⟨wd.heap.size, 0, none⟩) Z.length Z.length, .slice none 0 0, .slice (some ⟨wf.heap.size, 0, none⟩) N N] 71)
      have HP := Lib.hid HE.out.big
      have HE := Lib.hid (HE.out.next b7)
      have HTB : Hid (w.heap.size ≤ wf.heap.size) := Lib.hid (own_lt2 HT.out rfl).1
      clear b7 hHeld
      refine hK.out _ _ HE.out.held (fun hHeld => ?_)
      clear hK
      try simp only [Act.put, List.setIfInBounds_toArray, List.set_cons_zero, List.set_cons_succ]
      refine wpAnyH_take (i := 12) (oi := { dst := some 2, op := Go.Op.assign (Go.Operand.tmp 17), type := 65, pos := "maxflow.go:53", after := #[{ on := 11, ground := Go.Ground.data }, { on := 2, ground := Go.Ground.chain }, { on := 0, ground := Go.Ground.phase }, { on := 1, ground := Go.Ground.phase }, { on := 2, ground := Go.Ground.phase }, { on := 3, ground := Go.Ground.phase }, { on := 4, ground := Go.Ground.phase }, { on := 5, ground := Go.Ground.phase }, { on := 6, ground := Go.Ground.phase }, { on := 7, ground := Go.Ground.phase }, { on := 8, ground := Go.Ground.phase }, { on := 9, ground := Go.Ground.phase }, { on := 10, ground := Go.Ground.phase }, { on := 11, ground := Go.Ground.phase }], guard := none }) (v := .pointer (some ⟨wc.heap.size, 0, none⟩)) rfl (by kernel_rfl) (by kernel_rfl) (by kernel_rfl) (fun _ _ _ h => h) (Or.inl ⟨by rfl, ?_⟩) (by assumption) ?_
      · (intro w hSw; (try dsimp only [HeldE] at hSw); go_simp)
      try simp only [Act.put, List.setIfInBounds_toArray, List.set_cons_zero, List.set_cons_succ]
      refine wpAnyH_done (by kernel_rfl) ?_ _
      clear hHeld
      go_wp2
      go_ret
      exact ⟨_, _, _, _, rfl, HP.out, HTB.out, HW.out, HE.out.below⟩
  · go_simp
    have b7 := (Below.refl _ wd).alloc (Nat.le_refl _) (.cells (madeCells #[.int .i64 0] N) 3)
    have HT := Lib.hid (made_ints wd w.heap.size N HE.out.big (by omega))
    have HTL : Hid (wd.heap.size < (wd.alloc (.cells (madeCells #[.int .i64 0] N) 3)).heap.size) := Lib.hid (by simp)
    have HE := Lib.hid (HE.out.next b7)
    clear b7 hHeld
    refine hK.out _ _ HE.out.held (fun hHeld => ?_)
    clear hK
    generalize wd.alloc (.cells (madeCells #[.int .i64 0] N) 3) = wt at *
    try simp only [Act.put, List.setIfInBounds_toArray, List.set_cons_zero, List.set_cons_succ]
    refine wpAnyH_ready (rs := [2, 6]) (by kernel_rfl) (by simp) (AllReadyH.cons (o := { dst := some 8, op := Go.Op.call { callee := Go.Callee.value (Go.Operand.func 44), args := #[Go.Operand.tmp 7], argTypes := #[68] }, type := 69, pos := "maxflow.go:55", after := #[{ on := 1, ground := Go.Ground.data }], guard := none }) rfl (fun K hK => ?_) (AllReadyH.cons (o := { dst := some 12, op := Go.Op.makeSlice 25 (Go.Operand.tmp 11) (Go.Operand.tmp 11), type := 25, pos := "maxflow.go:53", after := #[{ on := 5, ground := Go.Ground.data }, { on := 5, ground := Go.Ground.data }], guard := none }) rfl (fun K hK => ?_) AllReadyH.nil))
    · go_simp
      refine (xfrom_at b ao cap Z N _ HE.out.arcs HC.out).mono ?_
      rintro e wc ⟨sg, vs, own, rfl, hix, b7⟩
      have HTO : Hid (wd.heap.size < wt.heap.size ∨ wc.heap.size ≤ wd.heap.size) := Lib.hid (.inl HTL.out)
      have HLO : Hid (w.heap.size ≤ wt.heap.size) := Lib.hid HE.out.big
      have HE := Lib.hid (HE.out.next b7)
      have HT := Lib.hid (HT.out.below b7)
      have HTL := Lib.hid (Nat.lt_of_lt_of_le HTL.out b7.size)
      have HSR := Lib.hid hix.srb
      have HSG : Hid (wt.heap.size ≤ sg ∧ sg < wc.heap.size) := Lib.hid hix.lt
      have HSB : Hid (sg < wc.heap.size) := Lib.hid hix.lt.2
      have HHI : Hid (wc.heap.size ≤ wc.heap.size) := Lib.hid (Nat.le_refl _)
      clear b7 hix hHeld
      go_wp2_with fail
      refine hK.out _ _ HE.out.held (fun hHeld => ?_)
      clear hK
      try simp only [Act.put, List.setIfInBounds_toArray, List.set_cons_zero, List.set_cons_succ]
      refine wpAnyH_ready (rs := [6]) (by kernel_rfl) (by simp) (AllReadyH.cons (o := { dst := some 12, op := Go.Op.makeSlice 25 (Go.Operand.tmp 11) (Go.Operand.tmp 11), type := 25, pos := "maxflow.go:53", after := #[{ on := 5, ground := Go.Ground.data }, { on := 5, ground := Go.Ground.data }], guard := none }) rfl (fun K hK => ?_) AllReadyH.nil)
      go_simp
      have b7 := (Below.refl _ wc).alloc (Nat.le_refl _) (.cells (madeCells #[.int .i64 0] Z.length) 3)
      have HNE : Hid (wc.heap.size ≠ wd.heap.size) := Lib.hid (by have := HTL.out; omega)
      have HF := Lib.hid (made_ints wc w.heap.size Z.length HE.out.big (by omega))
      have HFL : Hid (wc.heap.size < (wc.alloc (.cells (madeCells #[.int .i64 0] Z.length) 3)).heap.size) := Lib.hid (by simp)
      have HE := Lib.hid (HE.out.next b7)
      have HSR := Lib.hid (HSR.out.next HSB.out b7)
      have HSB := Lib.hid (Nat.lt_of_lt_of_le HSB.out b7.size)
      have HHI := Lib.hid (Nat.le_trans HHI.out b7.size)
      have HT := Lib.hid (HT.out.below b7)
      have HTL := Lib.hid (Nat.lt_of_lt_of_le HTL.out b7.size)
      clear b7 hHeld
      refine hK.out _ _ HE.out.held (fun hHeld => ?_)
      clear hK
      generalize wc.alloc (.cells (madeCells #[.int .i64 0] Z.length) 3) = wf at *
      try simp only [Act.put, List.setIfInBounds_toArray, List.set_cons_zero, List.set_cons_succ]
      refine wpAnyH_take (i := 10) (oi := { dst := some 16, op := Go.Op.build 71 #[(0, Go.Operand.tmp 6), (1, Go.Operand.tmp 8), (2, Go.Operand.tmp 12), (4, Go.Operand.tmp 15)], type := 71, pos := "maxflow.go:53", after := #[{ on := 0, ground := Go.Ground.data }, { on := 2, ground := Go.Ground.data }, { on := 6, ground := Go.Ground.data }, { on := 9, ground := Go.Ground.data }], guard := none }) (v := .agg #[.int .i64 (N : Int), .bool b, .slice ao Z.length cap, .slice (some ⟨sg, 0, none⟩) N N, .slice (some ⟨wc.heap.size, 0, none⟩) Z.length Z.length, .slice none 0 0, .slice (some ⟨wd.heap.size, 0, none⟩) N N]) rfl (by kernel_rfl) (by kernel_rfl) (by kernel_rfl) (fun _ _ _ h => h) (Or.inl ⟨by rfl, ?_⟩) (by assumption) ?_
      · (intro w hSw; (try dsimp only [HeldE] at hSw); go_simp)
      try simp only [Act.put, List.setIfInBounds_toArray, List.set_cons_zero, List.set_cons_succ]
      refine wpAnyH_ready (rs := [11]) (by kernel_rfl) (by simp) (AllReadyH.cons (o := { dst := some 17, op := Go.Op.box 71 (Go.Operand.tmp 16), type := 65, pos := "maxflow.go:53", after := #[{ on := 10, ground := Go.Ground.data }], guard := none }) rfl (fun K hK => ?_) AllReadyH.nil)
      go_simp
      have HW := Lib.hid (filw_make (w := w) (wz := wf) (b := b) (cap := cap) HE.out.arcs HLT.out HSR.out HSG.out ⟨HLO.out, HHI.out⟩ HF.out HT.out HNE.out HTO.out)
      have b7 := (Below.refl _ wf).alloc (Nat.le_refl _) (.cells #[.int .i64 (N : Int), .bool b, .slice ao Z.length cap, .slice (some ⟨sg, 0, none⟩) N N, .slice (some ⟨wc.heap.size, 0, none⟩) Z.length Z.length, .slice none 0 0, .slice (some ⟨wd.heap.size, 0, none⟩) N N] 71)
      have HP := Lib.hid HE.out.big
      have HE := Lib.hid (HE.out.next b7)
      have HTB : Hid (w.heap.size ≤ wd.heap.size) := Lib.hid (own_lt2 HT.out rfl).1
      clear b7 hHeld
      refine hK.out _ _ HE.out.held (fun hHeld => ?_)
      clear hK
      try simp only [Act.put, List.setIfInBounds_toArray, List.set_cons_zero, List.set_cons_succ]
      refine wpAnyH_take (i := 12) (oi := { dst := some 2, op := Go.Op.assign (Go.Operand.tmp 17), type := 65, pos := "maxflow.go:53", after := #[{ on := 11, ground := Go.Ground.data }, { on := 2, ground := Go.Ground.chain }, { on := 0, ground := Go.Ground.phase }, { on := 1, ground := Go.Ground.phase }, { on := 2, ground := Go.Ground.phase }, { on := 3, ground := Go.Ground.phase }, { on := 4, ground := Go.Ground.phase }, { on := 5, ground := Go.Ground.phase }, { on := 6, ground := Go.Ground.phase }, { on := 7, ground := Go.Ground.phase }, { on := 8, ground := Go.Ground.phase }, { on := 9, ground := Go.Ground.phase }, { on := 10, ground := Go.Ground.phase }, { on := 11, ground := Go.Ground.phase }], guard := none }) (v := .pointer (some ⟨wf.heap.size, 0, none⟩)) rfl (by kernel_rfl) (by kernel_rfl) (by kernel_rfl) (fun _ _ _ h => h) (Or.inl ⟨by rfl, ?_⟩) (by assumption) ?_
      · (intro w hSw; (try dsimp only [HeldE] at hSw); go_simp)
      try simp only [Act.put, List.setIfInBounds_toArray, List.set_cons_zero, List.set_cons_succ]
      refine wpAnyH_done (by kernel_rfl) ?_ _
      clear hHeld
      go_wp2
      go_ret
      exact ⟨_, _, _, _, rfl, HP.out, HTB.out, HW.out, HE.out.below⟩
    · go_simp
      have b7 := (Below.refl _ wt).alloc (Nat.le_refl _) (.cells (madeCells #[.int .i64 0] Z.length) 3)
      have HNE : Hid (wt.heap.size ≠ wd.heap.size) := Lib.hid (by have := HTL.out; omega)
      have HF := Lib.hid (made_ints wt w.heap.size Z.length HE.out.big (by omega))
      have HFL : Hid (wt.heap.size < (wt.alloc (.cells (madeCells #[.int .i64 0] Z.length) 3)).heap.size) := Lib.hid (by simp)
      have HE := Lib.hid (HE.out.next b7)
      have HT := Lib.hid (HT.out.below b7)
      have HTL := Lib.hid (Nat.lt_of_lt_of_le HTL.out b7.size)
      clear b7 hHeld
      refine hK.out _ _ HE.out.held (fun hHeld => ?_)
      clear hK
      generalize wt.alloc (.cells (madeCells #[.int .i64 0] Z.length) 3) = wf at *
      try simp only [Act.put, List.setIfInBounds_toArray, List.set_cons_zero, List.set_cons_succ]
      refine wpAnyH_ready (rs := [2]) (by kernel_rfl) (by simp) (AllReadyH.cons (o := { dst := some 8, op := Go.Op.call { callee := Go.Callee.value (Go.Operand.func 44), args := #[Go.Operand.tmp 7], argTypes := #[68] }, type := 69, pos := "maxflow.go:55", after := #[{ on := 1, ground := Go.Ground.data }], guard := none }) rfl (fun K hK => ?_) AllReadyH.nil)
      go_simp
      refine (xfrom_at b ao cap Z N _ HE.out.arcs HC.out).mono ?_
      rintro e wc ⟨sg, vs, own, rfl, hix, b7⟩
      have HTO : Hid (wd.heap.size < wf.heap.size ∨ wc.heap.size ≤ wd.heap.size) := Lib.hid (.inl HTL.out)
      have HLO : Hid (w.heap.size ≤ wf.heap.size) := Lib.hid HE.out.big
      have HE := Lib.hid (HE.out.next b7)
      have HF := Lib.hid (HF.out.below b7)
      have HFL := Lib.hid (Nat.lt_of_lt_of_le HFL.out b7.size)
      have HT := Lib.hid (HT.out.below b7)
      have HTL := Lib.hid (Nat.lt_of_lt_of_le HTL.out b7.size)
      have HSR := Lib.hid hix.srb
      have HSG : Hid (wf.heap.size ≤ sg ∧ sg < wc.heap.size) := Lib.hid hix.lt
      have HSB : Hid (sg < wc.heap.size) := Lib.hid hix.lt.2
      have HHI : Hid (wc.heap.size ≤ wc.heap.size) := Lib.hid (Nat.le_refl _)
      clear b7 hix hHeld
      go_wp2_with fail
      refine hK.out _ _ HE.out.held (fun hHeld => ?_)
      clear hK
      try simp only [Act.put, List.setIfInBounds_toArray, List.set_cons_zero, List.set_cons_succ]
      refine wpAnyH_take (i := 10) (oi := { dst := some 16, op := Go.Op.build 71 #[(0, Go.Operand.tmp 6), (1, Go.Operand.tmp 8), (2, Go.Operand.tmp 12), (4, Go.Operand.tmp 15)], type := 71, pos := "maxflow.go:53", after := #[{ on := 0, ground := Go.Ground.data }, { on := 2, ground := Go.Ground.data }, { on := 6, ground := Go.Ground.data }, { on := 9, ground := Go.Ground.data }], guard := none }) (v := .agg #[.int .i64 (N : Int), .bool b, .slice ao Z.length cap, .slice (some ⟨sg, 0, none⟩) N N, .slice (some ⟨wt.heap.size, 0, none⟩) Z.length Z.length, .slice none 0 0, .slice (some ⟨wd.heap.size, 0, none⟩) N N]) rfl (by kernel_rfl) (by kernel_rfl) (by kernel_rfl) (fun _ _ _ h => h) (Or.inl ⟨by rfl, ?_⟩) (by assumption) ?_
      · (intro w hSw; (try dsimp only [HeldE] at hSw); go_simp)
      try simp only [Act.put, List.setIfInBounds_toArray, List.set_cons_zero, List.set_cons_succ]
      refine wpAnyH_ready (rs := [11]) (by kernel_rfl) (by simp) (AllReadyH.cons (o := { dst := some 17, op := Go.Op.box 71 (Go.Operand.tmp 16), type := 65, pos := "maxflow.go:53", after := #[{ on := 10, ground := Go.Ground.data }], guard := none }) rfl (fun K hK => ?_) AllReadyH.nil)
      go_simp
      have HW := Lib.hid (filw_make (w := w) (wz := wc) (b := b) (cap := cap) HE.out.arcs HLT.out HSR.out HSG.out ⟨HLO.out, HHI.out⟩ HF.out HT.out HNE.out HTO.out)
      have b7 := (Below.refl _ wc).alloc (Nat.le_refl _) (.cells #[.int .i64 (N : Int), .bool b, .slice ao Z.length cap, .slice (some ⟨sg, 0, none⟩) N N, .slice (some ⟨wt.heap.size, 0, none⟩) Z.length Z.length, .slice none 0 0, .slice (some ⟨wd.heap.size, 0, none⟩) N N] 71)
      have HP := Lib.hid HE.out.big
      have HE := Lib.hid (HE.out.next b7)
      have HTB : Hid (w.heap.size ≤ wd.heap.size) := Lib.hid (own_lt2 HT.out rfl).1
      clear b7 hHeld
      refine hK.out _ _ HE.out.held (fun hHeld => ?_)
      clear hK
      try simp only [Act.put, List.setIfInBounds_toArray, List.set_cons_zero, List.set_cons_succ]
      refine wpAnyH_take (i := 12) (oi := { dst := some 2, op := Go.Op.assign (Go.Operand.tmp 17), type := 65, pos := "maxflow.go:53", after := #[{ on := 11, ground := Go.Ground.data }, { on := 2, ground := Go.Ground.chain }, { on := 0, ground := Go.Ground.phase }, { on := 1, ground := Go.Ground.phase }, { on := 2, ground := Go.Ground.phase }, { on := 3, ground := Go.Ground.phase }, { on := 4, ground := Go.Ground.phase }, { on := 5, ground := Go.Ground.phase }, { on := 6, ground := Go.Ground.phase }, { on := 7, ground := Go.Ground.phase }, { on := 8, ground := Go.Ground.phase }, { on := 9, ground := Go.Ground.phase }, { on := 10, ground := Go.Ground.phase }, { on := 11, ground := Go.Ground.phase }], guard := none }) (v := .pointer (some ⟨wc.heap.size, 0, none⟩)) rfl (by kernel_rfl) (by kernel_rfl) (by kernel_rfl) (fun _ _ _ h => h) (Or.inl ⟨by rfl, ?_⟩) (by assumption) ?_
      · (intro w hSw; (try dsimp only [HeldE] at hSw); go_simp)
      try simp only [Act.put, List.setIfInBounds_toArray, List.set_cons_zero, List.set_cons_succ]
      refine wpAnyH_done (by kernel_rfl) ?_ _
      clear hHeld
      go_wp2
      go_ret
      exact ⟨_, _, _, _, rfl, HP.out, HTB.out, HW.out, HE.out.below⟩
end
end Go.Proofs.Ytekcnglkfglbfaa

namespace Go.Proofs.Ytekcnglkfglbfaa
open Go.RowKit
set_option linter.unusedVariables false

/-- The cells of the network that are read. -/
def HeldP (p N : Nat) (b : Bool) (ao : Option Addr) (zl cap : Nat) (W : World) : Prop := W.cell? ⟨p, 0, none⟩ = some (.int .i64 (N : Int)) ∧ W.cell? ⟨p, 1, none⟩ = some (.bool b) ∧ W.cell? ⟨p, 2, none⟩ = some (.slice ao zl cap)
theorem FilW.held {w : World} {p tb sg N : Nat} {b : Bool} {ao : Option Addr} {cap : Nat} {Z : List ArcT} {sc tc : Nat} {fo : Option Addr} {fc : Nat} {F : List Int} {lo : Option Addr} {lc : Nat} {L T : List Int} (h : FilW w p tb sg N b ao cap Z sc tc fo fc F lo lc L T) : HeldP p N b ao Z.length cap w := ⟨cell_whole h.box 0, cell_whole h.box 1, cell_whole h.box 2⟩
def seekN (Z : List ArcT) (F : List Int) (N s : Nat) : List Ent := seekK (fromS Z) (toS Z) (stepsK Z F Z.length) s N
section
variable (p tb sg N : Nat) (b : Bool) (ao : Option Addr) (cap : Nat) (Z : List ArcT) (sc tc : Nat) (fo : Option Addr) (fc : Nat) (F : List Int) (lo : Option Addr) (lc : Nat) (L T : List Int)
set_option maxRecDepth 100000 in
set_option maxHeartbeats 4000000 in
theorem xrise_at (s t : Nat) (r : Bool) (w : World) (h : FilW w p tb sg N b ao cap Z sc tc fo fc F lo lc L T) (he : flowE (N : Int) Z F = 0) (hs : s < N) (ht : t < N) (hr : (farX (seekN Z F N s) t != -1) = r) :
    Calls Try.prog 45 #[.pointer (some ⟨p, 0, none⟩), .int .i64 (s : Int), .int .i64 (t : Int)] w fun e w' => ∃ g, e = .returned (.bool r) ∧ FilW w' p tb sg N b ao cap Z sc tc fo fc F (some ⟨g, 0, none⟩) N (farsL (seekN Z F N s) N) T ∧ Kept (fun i => i = p) w w' := by
  obtain ⟨hR, hF, hz, hfl, hn1, hn2⟩ := flow_facts (b := b) he
  have hlt := h.lt
  obtain ⟨⟨k0, k1, k2, k3, k4, k5, k6⟩, _⟩ := c7Cells h.box
  have H := Lib.hid h
  have HE := Lib.hid he
  have hti : (t : Int) < (N : Int) := by omega
  have hfl2 := farsL_len (seekN Z F N s) N
  have HFL := Lib.hid hfl2
  have hat := atI_get (d := farsL (seekN Z F N s) N) (v := t) (by rw [hfl2]; exact ht)
  rw [farsL_at _ ht] at hat
  have HAT := Lib.hid hat
  obtain ⟨d, hd⟩ : ∃ d, farX (seekN Z F N s) t = d := ⟨_, rfl⟩
  rw [hd] at HAT hr
  have HR := Lib.hid hr
  clear h he hR hF hfl hfl2 hat hd hr
  go_enter Try.func45, Try.ntmps45
  go_wp2_with fail
  go_region_held3 (fun W => W.cell? ⟨p, 0, none⟩ = some (.int .i64 (N : Int)) ∧ W.cell? ⟨p, 1, none⟩ = some (.bool b) ∧ W.cell? ⟨p, 2, none⟩ = some (.slice ao Z.length cap) ∧ W.cell? ⟨p, 4, none⟩ = some (.slice fo F.length fc)) (first | exact ⟨k0, k1, k2, k4⟩ | exact ⟨z0, z1, z2, z4⟩ | exact ⟨cell_whole (set_whole HW3.out.box 5 _) 0, cell_whole (set_whole HW3.out.box 5 _) 1, cell_whole (set_whole HW3.out.box 5 _) 2, cell_whole (set_whole HW3.out.box 5 _) 4⟩)
    (first | (go_at_call 59; refine (levels_new b ao fo cap fc Z F N s w.drew H.out.drew.arcs H.out.drew.flow HE.out hs).mono ?_; rintro e w3 ⟨g, rfl, hg, hl3, b3⟩; have HW3 := Lib.hid (H.out.drew.next b3); have HL3 := Lib.hid hl3; have HG : Hid (w.heap.size ≤ g) := Lib.hid hg; have HB3 := Lib.hid ((below_drew (Below.refl w.heap.size w)).trans b3); obtain ⟨⟨z0, z1, z2, z3, z4, z5, z6⟩, y0, y1, y2, y3, y4, y5, y6⟩ := c7Cells HW3.out.box; clear hg hl3 b3))
  all_goals
    have HW4 := Lib.hid (HW3.out.setL (lo' := some ⟨g, 0, none⟩) (lc' := N) HL3.out (fun ad e _ => by cases e; have := HG.out; exact ⟨by show g ≠ p; omega, by show g ≠ tb; omega⟩))
    have HK4 : Hid (Kept (fun i => i = p) w (w3.setCell ⟨p, 5, none⟩ (.slice (some ⟨g, 0, none⟩) (farsL (seekK (fromS Z) (toS Z) (stepsK Z F Z.length) s N) N).length N))) := Lib.hid (Kept.set (S := fun i => i = p) (Kept.of_below HB3.out) (.inl rfl) _)
    generalize w3.setCell ⟨p, 5, none⟩ (.slice (some ⟨g, 0, none⟩) (farsL (seekK (fromS Z) (toS Z) (stepsK Z F Z.length) s N) N).length N) = w4 at *
    obtain ⟨⟨x0, x1, x2, x3, x4, x5, x6⟩, _⟩ := c7Cells HW4.out.box
    obtain ⟨fb, fx, e, hfb, cd⟩ := lst_cell HW4.out.levs HAT.out
    cases e
    unfold encI at cd
    have hlen : (farsL (seekK (fromS Z) (toS Z) (stepsK Z F Z.length) s N) N).length = N := HFL.out
    rw [hlen] at x5
    rw [Nat.zero_add] at cd
    clear hlen hfb
    go_wp2
    go_ret
    exact ⟨g, ret_bool HR.out, HW4.out, HK4.out⟩
set_option maxRecDepth 100000 in
set_option maxHeartbeats 4000000 in
theorem xfill_at (po : Option Addr) (pc : Nat) (P : List StepT) (w : World) (h : FilW w p tb sg N b ao cap Z sc tc fo fc F lo lc L T) (he : flowE (N : Int) Z F = 0) (hP : Row encS 2 w po P) (hl : P ≠ []) (hll : P.length ≤ 1000) (hpa : ∀ y ∈ P, isArc Z y) (h0 : (pushL Z (botK Z F P) F P).1 = 0) (hk : ¬ botK Z F P < 0) :
    Calls Try.prog 47 #[.pointer (some ⟨p, 0, none⟩), .slice po P.length pc] w fun e w' => ∃ g, e = .returned (.tuple #[]) ∧ FilW w' p tb sg N b ao cap Z sc tc (some ⟨g, 0, none⟩) F.length (pushL Z (botK Z F P) F P).2 lo lc L T ∧ Kept (fun i => i = p) w w' := by
  obtain ⟨hR, hF, hz, hfl, hn1, hn2⟩ := flow_facts (b := b) he
  have hlt := h.lt
  have H := Lib.hid h
  have HE := Lib.hid he
  have HPR := Lib.hid hP
  have HPA := Lib.hid hpa
  have HH0 := Lib.hid h0
  have HHK := Lib.hid hk
  have HRT := Lib.hid hR
  have HFF := Lib.hid hF
  have h0l : 0 < P.length := List.length_pos_iff.2 hl
  have hli0 : (0 : Int) < (P.length : Int) := by omega
  obtain ⟨y0, r, hPe⟩ : ∃ y0 r, P = y0 :: r := by cases P with | nil => exact absurd rfl hl | cons a l => exact ⟨a, l, rfl⟩
  have HPE := Lib.hid hPe
  have HBT : Hid (botA Z F (leftS Z F y0) P = botK Z F P) := Lib.hid (by rw [hPe]; simp [botA, botK])
  obtain ⟨lb, lx, e1, hlb, s0, s1⟩ := step_at hP (i := 0) (x := y0) (by rw [hPe]; rfl)
  subst e1
  rw [Nat.zero_mul, Nat.add_zero] at s0 s1
  have hy0 := hpa y0 (by rw [hPe]; simp)
  obtain ⟨i0, q0⟩ := y0
  obtain ⟨j0, rfl, hj0⟩ := isArc_nat hy0
  simp only at s0 s1
  obtain ⟨r0, hr0⟩ : ∃ r0, leftS Z F ((j0 : Int), q0) = r0 := ⟨_, rfl⟩
  have HR0 := Lib.hid hr0
  rw [hr0] at HBT
  clear h he hP hpa h0 hk hR hF hfl hPe hy0 hr0 hl
  go_enter Try.func47, Try.ntmps47
  go_wp2_with (first
    | (go_at_call 62; refine (xroom_is p tb sg N b ao cap Z sc tc fo fc F lo lc L T j0 q0 r0 _ H.out HE.out hj0 HR0.out).mono ?_; rintro e w2 ⟨rfl, b2⟩; have HB2 := Lib.hid b2; clear b2))
  go_loopw [4, 14] (fun kv iv wr => ∃ j : Nat, j ≤ P.length ∧ iv = .int .i64 (j : Int) ∧ kv = .int .i64 (botA Z F r0 (P.take j)) ∧ Hid (Below w.heap.size w wr)) (fun _ iv _ => P.length - (intOf iv).toNat)
  case atStart => exact ⟨0, by omega, rfl, rfl, HB2⟩
  case round =>
    clear HB2 s0 s1
    obtain ⟨j, hj, rfl, rfl, HB⟩ := hrel
    by_cases hlt2 : j < P.length
    · have hli : (j : Int) < (P.length : Int) := by omega
      have HBK : Hid (min (botA Z F r0 (P.take j)) (leftS Z F P[j]) = botA Z F r0 (P.take (j + 1))) := Lib.hid (by rw [List.take_succ_eq_append_getElem hlt2, botA_snoc])
      obtain ⟨lb2, lx2, e, hlb2, s2, s3⟩ := step_at (HPR.out.below' HB.out) (List.getElem?_eq_getElem hlt2)
      cases e
      have hyj := HPA.out _ (List.getElem_mem hlt2)
      generalize P[j] = y at *
      obtain ⟨i2, q2⟩ := y
      obtain ⟨j2, rfl, hj2⟩ := isArc_nat hyj
      simp only at s2 s3
      obtain ⟨r2, hr2⟩ : ∃ r2, leftS Z F ((j2 : Int), q2) = r2 := ⟨_, rfl⟩
      have HR2 := Lib.hid hr2
      rw [hr2] at HBK
      obtain ⟨kb, hkb⟩ : ∃ kb, botA Z F r0 (P.take j) = kb := ⟨_, rfl⟩
      rw [hkb] at HBK ⊢
      clear hyj hr2 hkb
      have HW := Lib.hid ((H.out.next HB.out).alloc (.cells #[.int .i64 (j2 : Int), .bool q2] 75))
      have HBA := Lib.hid (HB.out.alloc HB.out.size (.cells #[.int .i64 (j2 : Int), .bool q2] 75))
      go_wp2_with (first
        | (go_at_call 62; refine (xroom_is p tb sg N b ao cap Z sc tc fo fc F lo lc L T j2 q2 r2 _ HW.out HE.out hj2 HR2.out).mono ?_; rintro e w6 ⟨rfl, b6⟩; have HB6 := Lib.hid (HBA.out.trans (b6.mono HBA.out.size)); clear b6))
      go_roundw
      case rel => exact ⟨j + 1, by omega, by go_num, by rw [← HBK.out], HB6⟩
      case measure => simp [intOf]; omega
    · have hli : ¬ (j : Int) < (P.length : Int) := by omega
      obtain rfl : j = P.length := by omega
      rw [List.take_length, HBT.out]
      have HWR := Lib.hid (H.out.next HB.out)
      have HKK := Lib.hid (Kept.of_below (S := fun i => i = p) HB.out)
      have HPW := Lib.hid (HPR.out.below' HB.out)
      clear HB
      go_wp2_with fail
      refine wp_region_held_drew (S := fun W => HeldP p N b ao Z.length cap W) (by kernel_rfl) HWR.out.held (fun hHeld => ?_)
      have HWD := Lib.hid HWR.out.drew
      have HPD := Lib.hid (HPW.out.below' (below_drew (Below.refl _ _)))
      have HKD := Lib.hid HKK.out.drew
      clear HWR HPW HKK
      generalize wr.drew = wd at *
      refine wpAnyH_take (i := 0) (oi := { dst := some 25, op := Go.Op.move (Go.Operand.tmp 0), type := 65, pos := "maxflow.go:117", after := #[], guard := none }) (v := .pointer (some ⟨p, 0, none⟩)) rfl (by kernel_rfl) (by kernel_rfl) (by kernel_rfl) (fun _ _ _ h => h) (Or.inl ⟨by rfl, ?_⟩) (by assumption) ?_
      · (intro w hSw; (try dsimp only [HeldP] at hSw); go_simp)
      try simp only [Act.put, List.setIfInBounds_toArray, List.set_cons_zero, List.set_cons_succ]
      refine wpAnyH_take (i := 1) (oi := { dst := some 26, op := Go.Op.move (Go.Operand.tmp 0), type := 65, pos := "maxflow.go:117", after := #[], guard := none }) (v := .pointer (some ⟨p, 0, none⟩)) rfl (by kernel_rfl) (by kernel_rfl) (by kernel_rfl) (fun _ _ _ h => h) (Or.inl ⟨by rfl, ?_⟩) (by assumption) ?_
      · (intro w hSw; (try dsimp only [HeldP] at hSw); go_simp)
      try simp only [Act.put, List.setIfInBounds_toArray, List.set_cons_zero, List.set_cons_succ]
      refine wpAnyH_take (i := 2) (oi := { dst := some 27, op := Go.Op.nilCheck (Go.Operand.tmp 26), type := 0, pos := "maxflow.go:117", after := #[{ on := 1, ground := Go.Ground.data }], guard := none }) (v := .pointer (some ⟨p, 0, none⟩)) rfl (by kernel_rfl) (by kernel_rfl) (by kernel_rfl) (fun _ _ _ h => h) (Or.inl ⟨by rfl, ?_⟩) (by assumption) ?_
      · (intro w hSw; (try dsimp only [HeldP] at hSw); go_simp)
      try simp only [Act.put, List.setIfInBounds_toArray, List.set_cons_zero, List.set_cons_succ]
      refine wpAnyH_take (i := 3) (oi := { dst := some 28, op := Go.Op.fieldAddr 71 (Go.Operand.tmp 27) 0, type := 0, pos := "maxflow.go:117", after := #[{ on := 2, ground := Go.Ground.data }], guard := none }) (v := .pointer (some ⟨p, 0, none⟩)) rfl (by kernel_rfl) (by kernel_rfl) (by kernel_rfl) (fun _ _ _ h => h) (Or.inl ⟨by rfl, ?_⟩) (by assumption) ?_
      · (intro w hSw; (try dsimp only [HeldP] at hSw); go_simp)
      try simp only [Act.put, List.setIfInBounds_toArray, List.set_cons_zero, List.set_cons_succ]
      refine wpAnyH_take (i := 4) (oi := { dst := some 29, op := Go.Op.fieldAddr 68 (Go.Operand.tmp 28) 0, type := 0, pos := "maxflow.go:117", after := #[{ on := 3, ground := Go.Ground.data }], guard := none }) (v := .pointer (some ⟨p, 0, none⟩)) rfl (by kernel_rfl) (by kernel_rfl) (by kernel_rfl) (fun _ _ _ h => h) (Or.inl ⟨by rfl, ?_⟩) (by assumption) ?_
      · (intro w hSw; (try dsimp only [HeldP] at hSw); go_simp)
      try simp only [Act.put, List.setIfInBounds_toArray, List.set_cons_zero, List.set_cons_succ]
      refine wpAnyH_take (i := 5) (oi := { dst := some 30, op := Go.Op.load 24 (Go.Operand.tmp 29), type := 24, pos := "maxflow.go:117", after := #[{ on := 4, ground := Go.Ground.data }], guard := none }) (v := .agg #[.int .i64 (N : Int), .bool b, .slice ao Z.length cap]) rfl (by kernel_rfl) (by kernel_rfl) (by kernel_rfl) (fun _ _ _ h => h) (Or.inl ⟨by rfl, ?_⟩) (by assumption) ?_
      · (intro w hSw; (try dsimp only [HeldP] at hSw); go_simp)
      try simp only [Act.put, List.setIfInBounds_toArray, List.set_cons_zero, List.set_cons_succ]
      refine wpAnyH_take (i := 6) (oi := { dst := some 31, op := Go.Op.move (Go.Operand.tmp 0), type := 65, pos := "maxflow.go:117", after := #[], guard := none }) (v := .pointer (some ⟨p, 0, none⟩)) rfl (by kernel_rfl) (by kernel_rfl) (by kernel_rfl) (fun _ _ _ h => h) (Or.inl ⟨by rfl, ?_⟩) (by assumption) ?_
      · (intro w hSw; (try dsimp only [HeldP] at hSw); go_simp)
      try simp only [Act.put, List.setIfInBounds_toArray, List.set_cons_zero, List.set_cons_succ]
      refine wpAnyH_take (i := 7) (oi := { dst := some 32, op := Go.Op.nilCheck (Go.Operand.tmp 31), type := 0, pos := "maxflow.go:117", after := #[{ on := 6, ground := Go.Ground.data }], guard := none }) (v := .pointer (some ⟨p, 0, none⟩)) rfl (by kernel_rfl) (by kernel_rfl) (by kernel_rfl) (fun _ _ _ h => h) (Or.inl ⟨by rfl, ?_⟩) (by assumption) ?_
      · (intro w hSw; (try dsimp only [HeldP] at hSw); go_simp)
      try simp only [Act.put, List.setIfInBounds_toArray, List.set_cons_zero, List.set_cons_succ]
      refine wpAnyH_take (i := 8) (oi := { dst := some 33, op := Go.Op.fieldAddr 71 (Go.Operand.tmp 32) 2, type := 0, pos := "maxflow.go:117", after := #[{ on := 7, ground := Go.Ground.data }], guard := none }) (v := .pointer (some ⟨p, 4, none⟩)) rfl (by kernel_rfl) (by kernel_rfl) (by kernel_rfl) (fun _ _ _ h => h) (Or.inl ⟨by rfl, ?_⟩) (by assumption) ?_
      · (intro w hSw; (try dsimp only [HeldP] at hSw); go_simp)
      try simp only [Act.put, List.setIfInBounds_toArray, List.set_cons_zero, List.set_cons_succ]
      refine wpAnyH_take (i := 10) (oi := { dst := some 35, op := Go.Op.move (Go.Operand.tmp 1), type := 81, pos := "maxflow.go:117", after := #[], guard := none }) (v := .slice (some ⟨lb, lx, none⟩) P.length pc) rfl (by kernel_rfl) (by kernel_rfl) (by kernel_rfl) (fun _ _ _ h => h) (Or.inl ⟨by rfl, ?_⟩) (by assumption) ?_
      · (intro w hSw; (try dsimp only [HeldP] at hSw); go_simp)
      try simp only [Act.put, List.setIfInBounds_toArray, List.set_cons_zero, List.set_cons_succ]
      refine wpAnyH_take (i := 11) (oi := { dst := some 36, op := Go.Op.move (Go.Operand.tmp 4), type := 3, pos := "maxflow.go:117", after := #[], guard := none }) (v := .int .i64 (botK Z F P)) rfl (by kernel_rfl) (by kernel_rfl) (by kernel_rfl) (fun _ _ _ h => h) (Or.inl ⟨by rfl, ?_⟩) (by assumption) ?_
      · (intro w hSw; (try dsimp only [HeldP] at hSw); go_simp)
      try simp only [Act.put, List.setIfInBounds_toArray, List.set_cons_zero, List.set_cons_succ]
      refine wpAnyH_ready (rs := [9]) (by kernel_rfl) (by simp) (AllReadyH.cons (o := { dst := some 34, op := Go.Op.load 25 (Go.Operand.tmp 33), type := 25, pos := "maxflow.go:117", after := #[{ on := 8, ground := Go.Ground.data }], guard := none }) rfl (fun K hK => ?_) AllReadyH.nil)
      obtain ⟨⟨_, _, _, _, k4, _, _⟩, _⟩ := c7Cells HWD.out.box
      go_simp
      refine hK.out _ _ HWD.out.held (fun hHeld => ?_)
      clear hK k4
      try simp only [Act.put, List.setIfInBounds_toArray, List.set_cons_zero, List.set_cons_succ]
      refine wpAnyH_ready (rs := [12]) (by kernel_rfl) (by simp) (AllReadyH.cons (o := { dst := some 37, op := Go.Op.call { callee := Go.Callee.value (Go.Operand.func 57), args := #[Go.Operand.tmp 30, Go.Operand.tmp 34, Go.Operand.tmp 35, Go.Operand.tmp 36], argTypes := #[24, 25, 81, 3] }, type := 50, pos := "maxflow.go:117", after := #[{ on := 5, ground := Go.Ground.data }, { on := 9, ground := Go.Ground.data }, { on := 10, ground := Go.Ground.data }, { on := 11, ground := Go.Ground.data }], guard := none }) rfl (fun K hK => ?_) AllReadyH.nil)
      go_simp
      refine (spush_new (N : Int) b ao fo (some ⟨lb, lx, none⟩) cap fc pc Z F P (botK Z F P) wd HWD.out.arcs HWD.out.flow HPD.out hll HE.out (by have := HHK.out; omega) HH0.out).mono ?_
      rintro e w3 ⟨g, rfl, hg, hf3, b3⟩
      have HW3 := Lib.hid (HWD.out.next b3)
      have HG : Hid (wd.heap.size ≤ g) := Lib.hid hg
      have HF3 := Lib.hid hf3
      have HK3 := Lib.hid (HKD.out.trans (Kept.of_below (S := fun i => i = p) b3) (fun i _ e => e))
      clear hg hf3 b3 hHeld
      go_wp2_with fail
      refine hK.out _ _ HW3.out.held (fun hHeld => ?_)
      clear hK
      try simp only [Act.put, List.setIfInBounds_toArray, List.set_cons_zero, List.set_cons_succ]
      refine wpAnyH_take (i := 13) (oi := { dst := some 24, op := Go.Op.move (Go.Operand.tmp 37), type := 50, pos := "maxflow.go:117", after := #[{ on := 12, ground := Go.Ground.data }], guard := none }) (v := .tuple #[.slice (some ⟨g, 0, none⟩) (pushL Z (botK Z F P) F P).2.length F.length, .int .i64 0]) rfl (by kernel_rfl) (by kernel_rfl) (by kernel_rfl) (fun _ _ _ h => h) (Or.inl ⟨by rfl, ?_⟩) (by assumption) ?_
      · (intro w hSw; (try dsimp only [HeldP] at hSw); go_simp)
      try simp only [Act.put, List.setIfInBounds_toArray, List.set_cons_zero, List.set_cons_succ]
      refine wpAnyH_take (i := 14) (oi := { dst := some 38, op := Go.Op.extract (Go.Operand.tmp 24) 0, type := 25, pos := "maxflow.go:117", after := #[{ on := 13, ground := Go.Ground.data }], guard := none }) (v := .slice (some ⟨g, 0, none⟩) (pushL Z (botK Z F P) F P).2.length F.length) rfl (by kernel_rfl) (by kernel_rfl) (by kernel_rfl) (fun _ _ _ h => h) (Or.inl ⟨by rfl, ?_⟩) (by assumption) ?_
      · (intro w hSw; (try dsimp only [HeldP] at hSw); go_simp)
      try simp only [Act.put, List.setIfInBounds_toArray, List.set_cons_zero, List.set_cons_succ]
      refine wpAnyH_take (i := 15) (oi := { dst := some 39, op := Go.Op.extract (Go.Operand.tmp 24) 1, type := 26, pos := "maxflow.go:117", after := #[{ on := 13, ground := Go.Ground.data }, { on := 18, ground := Go.Ground.gcOnly Departure.lateStores }], guard := none }) (v := .int .i64 0) rfl (by kernel_rfl) (by kernel_rfl) (by kernel_rfl) (fun _ _ _ h => h) (Or.inl ⟨by rfl, ?_⟩) (by assumption) ?_
      · (intro w hSw; (try dsimp only [HeldP] at hSw); go_simp)
      try simp only [Act.put, List.setIfInBounds_toArray, List.set_cons_zero, List.set_cons_succ]
      refine wpAnyH_take (i := 16) (oi := { dst := some 40, op := Go.Op.nilCheck (Go.Operand.tmp 25), type := 0, pos := "maxflow.go:117", after := #[{ on := 0, ground := Go.Ground.data }, { on := 0, ground := Go.Ground.phase }, { on := 1, ground := Go.Ground.phase }, { on := 2, ground := Go.Ground.phase }, { on := 3, ground := Go.Ground.phase }, { on := 4, ground := Go.Ground.phase }, { on := 5, ground := Go.Ground.phase }, { on := 6, ground := Go.Ground.phase }, { on := 7, ground := Go.Ground.phase }, { on := 8, ground := Go.Ground.phase }, { on := 9, ground := Go.Ground.phase }, { on := 10, ground := Go.Ground.phase }, { on := 11, ground := Go.Ground.phase }, { on := 12, ground := Go.Ground.phase }, { on := 13, ground := Go.Ground.phase }, { on := 14, ground := Go.Ground.phase }, { on := 15, ground := Go.Ground.textOnly Departure.lateStores }], guard := none }) (v := .pointer (some ⟨p, 0, none⟩)) rfl (by kernel_rfl) (by kernel_rfl) (by kernel_rfl) (fun _ _ _ h => h) (Or.inl ⟨by rfl, ?_⟩) (by assumption) ?_
      · (intro w hSw; (try dsimp only [HeldP] at hSw); go_simp)
      try simp only [Act.put, List.setIfInBounds_toArray, List.set_cons_zero, List.set_cons_succ]
      refine wpAnyH_take (i := 17) (oi := { dst := some 41, op := Go.Op.fieldAddr 71 (Go.Operand.tmp 40) 2, type := 0, pos := "maxflow.go:117", after := #[{ on := 16, ground := Go.Ground.data }, { on := 0, ground := Go.Ground.phase }, { on := 1, ground := Go.Ground.phase }, { on := 2, ground := Go.Ground.phase }, { on := 3, ground := Go.Ground.phase }, { on := 4, ground := Go.Ground.phase }, { on := 5, ground := Go.Ground.phase }, { on := 6, ground := Go.Ground.phase }, { on := 7, ground := Go.Ground.phase }, { on := 8, ground := Go.Ground.phase }, { on := 9, ground := Go.Ground.phase }, { on := 10, ground := Go.Ground.phase }, { on := 11, ground := Go.Ground.phase }, { on := 12, ground := Go.Ground.phase }, { on := 13, ground := Go.Ground.phase }, { on := 14, ground := Go.Ground.phase }, { on := 15, ground := Go.Ground.textOnly Departure.lateStores }], guard := none }) (v := .pointer (some ⟨p, 4, none⟩)) rfl (by kernel_rfl) (by kernel_rfl) (by kernel_rfl) (fun _ _ _ h => h) (Or.inl ⟨by rfl, ?_⟩) (by assumption) ?_
      · (intro w hSw; (try dsimp only [HeldP] at hSw); go_simp)
      try simp only [Act.put, List.setIfInBounds_toArray, List.set_cons_zero, List.set_cons_succ]
      refine wpAnyH_ready (rs := [18]) (by kernel_rfl) (by simp) (AllReadyH.cons (o := { dst := none, op := Go.Op.store 25 (Go.Operand.tmp 41) (Go.Operand.tmp 38), type := 0, pos := "maxflow.go:117", after := #[{ on := 17, ground := Go.Ground.data }, { on := 14, ground := Go.Ground.data }, { on := 12, ground := Go.Ground.chain }, { on := 0, ground := Go.Ground.phase }, { on := 1, ground := Go.Ground.phase }, { on := 2, ground := Go.Ground.phase }, { on := 3, ground := Go.Ground.phase }, { on := 4, ground := Go.Ground.phase }, { on := 5, ground := Go.Ground.phase }, { on := 6, ground := Go.Ground.phase }, { on := 7, ground := Go.Ground.phase }, { on := 8, ground := Go.Ground.phase }, { on := 9, ground := Go.Ground.phase }, { on := 10, ground := Go.Ground.phase }, { on := 11, ground := Go.Ground.phase }, { on := 12, ground := Go.Ground.phase }, { on := 13, ground := Go.Ground.phase }, { on := 14, ground := Go.Ground.phase }, { on := 15, ground := Go.Ground.textOnly Departure.lateStores }], guard := none }) rfl (fun K hK => ?_) AllReadyH.nil)
      obtain ⟨⟨_, _, _, _, z4, _, _⟩, _, _, _, _, y4, _, _⟩ := c7Cells HW3.out.box
      go_simp
      have HW4 := Lib.hid (HW3.out.setF (fo' := some ⟨g, 0, none⟩) (fc' := F.length) HF3.out (fun ad e _ => by cases e; have := HG.out; have := HWD.out.lt; exact ⟨by show g ≠ p; omega, by show g ≠ tb; omega⟩))
      have HK4 : Hid (Kept (fun i => i = p) w (w3.setCell ⟨p, 4, none⟩ (.slice (some ⟨g, 0, none⟩) (pushL Z (botK Z F P) F P).2.length F.length))) := Lib.hid (Kept.set (S := fun i => i = p) HK3.out (.inl rfl) _)
      clear hHeld
      refine hK.out _ _ HW4.out.held (fun hHeld => ?_)
      clear hK z4 y4
      try simp only [Act.put, List.setIfInBounds_toArray, List.set_cons_zero, List.set_cons_succ]
      refine wpAnyH_done (by kernel_rfl) ?_ _
      clear hHeld
      go_wp2
      refine bodyPost_end (results_none rfl _ _ _) rfl ?_
      exact ⟨g, rfl, HW4.out, HK4.out⟩
end
end Go.Proofs.Ytekcnglkfglbfaa

namespace Go.Proofs.Ytekcnglkfglbfaa
open Go.RowKit
set_option linter.unusedVariables false

theorem OwnS.form {w : World} {B : Nat} {v : Value} {L : List StepT} (h : OwnS w B v L) (h0 : 0 < L.length) : ∃ g cap, v = .slice (some ⟨g, 0, none⟩) L.length cap ∧ B ≤ g ∧ g < w.heap.size ∧ L.length ≤ cap ∧ cap ≤ maxLen := by
  rcases h.2 with ⟨_, h1⟩ | ⟨g, cap, cur, e, h1, h2, h3, h4, _⟩
  · omega
  · exact ⟨g, cap, e, h1, lt_whole h2, h3, h4⟩
theorem flatS_len : ∀ M : List StepT, (M.flatMap encS).length = M.length * 2
  | [] => rfl
  | a :: r => by rw [List.flatMap_cons, List.length_append, flatS_len r, encS_len]; simp only [List.length_cons]; omega
/-- All but the last. -/
theorem OwnS.init {w : World} {B g n cap : Nat} {L : List StepT} {y : StepT} (h : OwnS w B (.slice (some ⟨g, 0, none⟩) n cap) (L ++ [y])) : OwnS w B (.slice (some ⟨g, 0, none⟩) L.length cap) L := by
  refine ⟨flatS_len L, ?_⟩
  rcases h.2 with ⟨h0, _⟩ | ⟨g', cap', cur, e, h1, h2, h3, h4, h5, h6⟩
  · cases h0
  · injection e with e1 e2 e3
    injection e1 with e1
    have hg : g' = g := by injection e1 with q; exact q.symm
    subst hg
    subst e3
    rw [List.length_append, List.length_singleton] at h3 h6
    refine .inr ⟨g', cap, cur, rfl, h1, h2, by omega, h4, h5, ?_⟩
    have : cur.toList.take (L.length * 2) = (cur.toList.take ((L.length + 1) * 2)).take (L.length * 2) := by rw [List.take_take]; congr 1; omega
    rw [this, h6, List.flatMap_append, List.take_append_of_le_length (by rw [flatS_len]; exact Nat.le_refl _), List.take_of_length_le (by rw [flatS_len]; exact Nat.le_refl _)]
/-- What a search for a path that descends leaves. -/
def DescV (p tb sg N : Nat) (b : Bool) (ao : Option Addr) (cap : Nat) (Z : List ArcT) (sc tc : Nat) (fo : Option Addr) (fc : Nat) (F : List Int) (lo : Option Addr) (lc : Nat) (L T : List Int) (s t : Nat) (w : World) (e : Ending) (w' : World) : Prop :=
  ∃ T', TI Z N T' ∧ FilW w' p tb sg N b ao cap Z sc tc fo fc F lo lc L T' ∧ Kept (fun i => i = tb) w w' ∧
    ((∃ po pc P, e = .returned (.tuple #[.slice po P.length pc, .bool true]) ∧ Row encS 2 w' po P ∧ (∀ ad, po = some ad → 0 < P.length → w.heap.size ≤ ad.block) ∧ DP Z F L T' s P t) ∨ (e = .returned (.tuple #[.slice none 0 0, .bool false]) ∧ (DT Z F L N t T → Shut Z F L t s)))
/-- The cells that are read where a step is taken up. -/
def HeldD (p tb sg N sc tc v rb ro sl rc n i : Nat) (q : Bool) (W : World) : Prop := (W.cell? ⟨p, 3, none⟩ = some (.slice (some ⟨sg, 0, none⟩) N sc) ∧ W.cell? ⟨p, 6, none⟩ = some (.slice (some ⟨tb, 0, none⟩) N tc) ∧ W.cell? ⟨sg, v, none⟩ = some (.slice (some ⟨rb, ro, none⟩) sl rc)) ∧ W.cell? ⟨tb, v, none⟩ = some (.int .i64 (n : Int)) ∧ W.cell? ⟨rb, ro + n * 2, none⟩ = some (.int .i64 (i : Int)) ∧ W.cell? ⟨rb, ro + n * 2 + 1, none⟩ = some (.bool q)
theorem HeldD.below {p tb sg N sc tc v rb ro sl rc n i : Nat} {q : Bool} {w w2 : World} (h : HeldD p tb sg N sc tc v rb ro sl rc n i q w) (hb : Below w.heap.size w w2) : HeldD p tb sg N sc tc v rb ro sl rc n i q w2 :=
  ⟨⟨cell_below hb h.1.1, cell_below hb h.1.2.1, cell_below hb h.1.2.2⟩, cell_below hb h.2.1, cell_below hb h.2.2.1, cell_below hb h.2.2.2⟩
section
variable (p tb sg N : Nat) (b : Bool) (ao : Option Addr) (cap : Nat) (Z : List ArcT) (sc tc : Nat) (fo : Option Addr) (fc : Nat) (F : List Int) (lo : Option Addr) (lc : Nat) (L T : List Int)
set_option maxRecDepth 100000 in
set_option maxHeartbeats 8000000 in
theorem xdescend_at (s t : Nat) (w : World) (h : FilW w p tb sg N b ao cap Z sc tc fo fc F lo lc L T) (he : flowE (N : Int) Z F = 0) (hs : s < N) (ht : t < N) (hL : L.length = N) (hlb : ∀ v, v < N → -1 ≤ atI L v ∧ atI L v < (N : Int)) (hls : atI L s = 0) (hT : TI Z N T) :
    Calls Try.prog 46 #[.pointer (some ⟨p, 0, none⟩), .int .i64 (s : Int), .int .i64 (t : Int)] w (DescV p tb sg N b ao cap Z sc tc fo fc F lo lc L T s t w) := by
  obtain ⟨hR, hF, hz, hfl, hn1, hn2⟩ := flow_facts (b := b) he
  have HA := Lib.hid (flow_arcs he)
  rw [Int.toNat_natCast] at HA
  have hlt := h.lt
  have H := Lib.hid h
  have HE := Lib.hid he
  have HLL := Lib.hid hL
  have HLB := Lib.hid hlb
  have HLS := Lib.hid hls
  have HTI := Lib.hid hT
  clear h he hL hlb hls hT hR hF hfl
  go_enter Try.func46, Try.ntmps46
  go_wp2
  go_step3
  go_wp2
  go_step3
  go_wp2
  go_loopg [6, 8] (muT Z N T [] + 1) (fun k pv nv wr => ∃ (v : Nat) (P : List StepT) (T' : List Int), nv = .int .i64 (v : Int) ∧ v < N ∧ Hid (muT Z N T' P < k) ∧ Hid (TI Z N T') ∧ Hid (DP Z F L T' s P v) ∧ Hid (DT Z F L N t T → DT Z F L N t T') ∧ Hid (OwnL encI wr 0 3 (.slice (some ⟨tb, 0, none⟩) N tc) T') ∧ Hid (OwnS wr w.heap.size pv P) ∧ Hid (Kept (fun i => i = tb) w wr))
  case atStart => exact ⟨s, [], T, rfl, hs, Lib.hid (Nat.lt_succ_self _), HTI, Lib.hid (DP.start T), Lib.hid (fun x => x), Lib.hid H.out.tried, Lib.hid (OwnS.nil _ _), Lib.hid (Kept.refl _ _)⟩
  case round =>
    clear HTI
    obtain ⟨v, P, T', rfl, hv, HMU, HTI, HDP, HDT, HOT, HO, HK⟩ := hrel
    obtain ⟨gk0, hgk⟩ : ∃ gk0, gk0 = gk := ⟨_, rfl⟩
    subst hgk
    obtain ⟨pa, pc, hpv, hrow⟩ := HO.out.row
    subst hpv
    have HRW := Lib.hid hrow
    have hPl : P.length < N := by
      have h1 := HDP.out.lev.1
      have h2 := (HLB.out v hv).2
      rw [HLS.out] at h1
      omega
    clear hrow
    by_cases hvt : v = t
    · subst hvt
      have HFR : Hid (∀ ad, pa = some ad → 0 < P.length → w.heap.size ≤ ad.block) := Lib.hid (fun ad e h0 => by
        obtain ⟨g, c, e2, h1, _⟩ := HO.out.form h0
        injection e2 with e3 _ _
        rw [e] at e3
        injection e3 with e3
        subst e3
        exact h1)
      go_wp2
      try rw [Exit.noGoto_ret]
      refine bodyPost_ret (v := .tuple #[.slice pa P.length pc, .bool true]) (by simp [results, Try.results46, go_sem]) rfl ?_
      exact ⟨T', HTI.out, H.out.keptT HK.out HOT.out, HK.out, .inl ⟨pa, pc, P, rfl, HRW.out, HFR.out, HDP.out⟩⟩
    · have hvi : ((v : Int) != (t : Int)) = true := by simp; omega
      clear HRW
      go_wp2
      go_loopg [6, 8] (muT Z N T' P + 1) (fun k pv2 nv2 wi => ∃ T2, pv2 = .slice pa P.length pc ∧ nv2 = .int .i64 (v : Int) ∧ Hid (muT Z N T2 P < k) ∧ Hid (muT Z N T2 P < gk0) ∧ Hid (TI Z N T2) ∧ Hid (DP Z F L T2 s P v) ∧ Hid (DT Z F L N t T → DT Z F L N t T2) ∧ Hid (OwnL encI wi 0 3 (.slice (some ⟨tb, 0, none⟩) N tc) T2) ∧ Hid (OwnS wi w.heap.size (.slice pa P.length pc) P) ∧ Hid (Kept (fun i => i = tb) w wi))
      case atStart => exact ⟨T', rfl, rfl, Lib.hid (Nat.lt_succ_self _), HMU, HTI, HDP, HDT, HOT, HO, HK⟩
      case round =>
        clear HMU HTI HDP HDT HOT HO HK
        obtain ⟨T2, rfl, rfl, HM2, HMU, HTI, HDP, HDT, HOT, HO, HK⟩ := hrel
        have HW := Lib.hid (H.out.keptT HK.out HOT.out)
        obtain ⟨⟨k0, k1, k2, k3, k4, k5, k6⟩, _⟩ := c7Cells HW.out.box
        obtain ⟨ra, rc, hd, hrow, hoff⟩ := HW.out.steps.at hv
        obtain ⟨ct, cf⟩ := HW.out.tried.cell (atI_get (d := T2) (v := v) (by rw [HTI.out.len]; exact hv))
        have hbd := HTI.out.bd v hv
        obtain ⟨n, hn⟩ : ∃ n : Nat, atI T2 v = (n : Int) := ⟨(atI T2 v).toNat, by omega⟩
        rw [hn] at ct hbd
        unfold encI at ct
        have hsl := stepsU_len Z v
        have HN := Lib.hid hn
        have hvN : (v : Int) < (N : Int) := by omega
        clear hn
        by_cases hx : n < (stepsU Z v).length
        · have hxi : (n : Int) < ((stepsU Z v).length : Int) := by omega
          obtain ⟨rb, ro, e, hrb, s0, s1⟩ := step_at hrow (List.getElem?_eq_getElem hx)
          cases e
          have HSY : Hid ((stepsU Z v)[(atI T2 v).toNat]? = some (stepsU Z v)[n]) := Lib.hid (by rw [HN.out, Int.toNat_natCast]; exact List.getElem?_eq_getElem hx)
          generalize (stepsU Z v)[n] = y at *
          obtain ⟨i, a, q, hi, ha, hy, hyf⟩ := stepsU_mem (List.mem_of_getElem? HSY.out)
          subst hy
          simp only at s0 s1
          have HAI := Lib.hid ha
          obtain ⟨sl, hsle⟩ : ∃ sl, (stepsU Z v).length = sl := ⟨_, rfl⟩
          rw [hsle] at hd hx hxi hsl hbd
          have HSL := Lib.hid hsle
          clear ha hyf hrow hoff hsle
          obtain ⟨dB, hdB⟩ : ∃ dB, descB Z F L ((i : Int), q) = dB := ⟨_, rfl⟩
          have HDB := Lib.hid hdB
          clear hdB
          go_wp2_with fail
          go_quiet (fail)
          have HHD : Hid (HeldD p tb sg N sc tc v rb ro sl rc n i q (wr.drewN nq).drew) := Lib.hid ⟨⟨k3, k6, hd⟩, ct, s0, s1⟩
          have HW := Lib.hid (HW.out.drewN nq).drew
          have HOT := Lib.hid (HOT.out.below (below_drew (below_drewN (Below.refl _ wr) nq)))
          have HO := Lib.hid (HO.out.below (below_drew (below_drewN (Below.refl _ wr) nq)))
          have HK := Lib.hid (HK.out.drewN nq).drew
          clear k0 k1 k2 k3 k4 k5 k6 ct cf hd s0 s1 hrb
          go_wp2_with fail
          refine wp_region_held_drew (S := fun W => HeldD p tb sg N sc tc v rb ro sl rc n i q W) (by kernel_rfl) HHD.out (fun hHeld => ?_)
          generalize (wr.drewN nq).drew = wd at *
          refine wpAnyH_take (i := 0) (oi := { dst := some 31, op := Go.Op.move (Go.Operand.tmp 0), type := 65, pos := "maxflow.go:89", after := #[], guard := none }) (v := .pointer (some ⟨p, 0, none⟩)) rfl (by kernel_rfl) (by kernel_rfl) (by kernel_rfl) (fun _ _ _ h => h) (Or.inl ⟨by rfl, ?_⟩) (by assumption) ?_
          · (intro w hSw; (try dsimp only [HeldD] at hSw); go_simp)
          try simp only [Act.put, List.setIfInBounds_toArray, List.set_cons_zero, List.set_cons_succ]
          refine wpAnyH_take (i := 1) (oi := { dst := some 32, op := Go.Op.nilCheck (Go.Operand.tmp 31), type := 0, pos := "maxflow.go:89", after := #[{ on := 0, ground := Go.Ground.data }], guard := none }) (v := .pointer (some ⟨p, 0, none⟩)) rfl (by kernel_rfl) (by kernel_rfl) (by kernel_rfl) (fun _ _ _ h => h) (Or.inl ⟨by rfl, ?_⟩) (by assumption) ?_
          · (intro w hSw; (try dsimp only [HeldD] at hSw); go_simp)
          try simp only [Act.put, List.setIfInBounds_toArray, List.set_cons_zero, List.set_cons_succ]
          refine wpAnyH_take (i := 2) (oi := { dst := some 33, op := Go.Op.fieldAddr 71 (Go.Operand.tmp 32) 1, type := 0, pos := "maxflow.go:89", after := #[{ on := 1, ground := Go.Ground.data }], guard := none }) (v := .pointer (some ⟨p, 3, none⟩)) rfl (by kernel_rfl) (by kernel_rfl) (by kernel_rfl) (fun _ _ _ h => h) (Or.inl ⟨by rfl, ?_⟩) (by assumption) ?_
          · (intro w hSw; (try dsimp only [HeldD] at hSw); go_simp)
          try simp only [Act.put, List.setIfInBounds_toArray, List.set_cons_zero, List.set_cons_succ]
          refine wpAnyH_take (i := 3) (oi := { dst := some 34, op := Go.Op.load 69 (Go.Operand.tmp 33), type := 69, pos := "maxflow.go:89", after := #[{ on := 2, ground := Go.Ground.data }], guard := none }) (v := .slice (some ⟨sg, 0, none⟩) N sc) rfl (by kernel_rfl) (by kernel_rfl) (by kernel_rfl) (fun _ _ _ h => h) (Or.inl ⟨by rfl, ?_⟩) (by assumption) ?_
          · (intro w hSw; (try dsimp only [HeldD] at hSw); go_simp)
          try simp only [Act.put, List.setIfInBounds_toArray, List.set_cons_zero, List.set_cons_succ]
          refine wpAnyH_take (i := 4) (oi := { dst := some 35, op := Go.Op.move (Go.Operand.tmp 8), type := 3, pos := "maxflow.go:89", after := #[], guard := none }) (v := .int .i64 (v : Int)) rfl (by kernel_rfl) (by kernel_rfl) (by kernel_rfl) (fun _ _ _ h => h) (Or.inl ⟨by rfl, ?_⟩) (by assumption) ?_
          · (intro w hSw; (try dsimp only [HeldD] at hSw); go_simp)
          try simp only [Act.put, List.setIfInBounds_toArray, List.set_cons_zero, List.set_cons_succ]
          refine wpAnyH_take (i := 5) (oi := { dst := some 36, op := Go.Op.indexAddr 69 (Go.Operand.tmp 34) (Go.Operand.tmp 35), type := 0, pos := "maxflow.go:89", after := #[{ on := 3, ground := Go.Ground.data }, { on := 4, ground := Go.Ground.data }], guard := none }) (v := .pointer (some ⟨sg, v, none⟩)) rfl (by kernel_rfl) (by kernel_rfl) (by kernel_rfl) (fun _ _ _ h => h) (Or.inl ⟨by rfl, ?_⟩) (by assumption) ?_
          · (intro w hSw; (try dsimp only [HeldD] at hSw); go_simp)
          try simp only [Act.put, List.setIfInBounds_toArray, List.set_cons_zero, List.set_cons_succ]
          refine wpAnyH_take (i := 6) (oi := { dst := some 37, op := Go.Op.load 81 (Go.Operand.tmp 36), type := 81, pos := "maxflow.go:89", after := #[{ on := 5, ground := Go.Ground.data }], guard := none }) (v := .slice (some ⟨rb, ro, none⟩) sl rc) rfl (by kernel_rfl) (by kernel_rfl) (by kernel_rfl) (fun _ _ _ h => h) (Or.inl ⟨by rfl, ?_⟩) (by assumption) ?_
          · (intro w hSw; (try dsimp only [HeldD] at hSw); go_simp)
          try simp only [Act.put, List.setIfInBounds_toArray, List.set_cons_zero, List.set_cons_succ]
          refine wpAnyH_take (i := 7) (oi := { dst := some 38, op := Go.Op.move (Go.Operand.tmp 0), type := 65, pos := "maxflow.go:89", after := #[], guard := none }) (v := .pointer (some ⟨p, 0, none⟩)) rfl (by kernel_rfl) (by kernel_rfl) (by kernel_rfl) (fun _ _ _ h => h) (Or.inl ⟨by rfl, ?_⟩) (by assumption) ?_
          · (intro w hSw; (try dsimp only [HeldD] at hSw); go_simp)
          try simp only [Act.put, List.setIfInBounds_toArray, List.set_cons_zero, List.set_cons_succ]
          refine wpAnyH_take (i := 8) (oi := { dst := some 39, op := Go.Op.nilCheck (Go.Operand.tmp 38), type := 0, pos := "maxflow.go:89", after := #[{ on := 7, ground := Go.Ground.data }], guard := none }) (v := .pointer (some ⟨p, 0, none⟩)) rfl (by kernel_rfl) (by kernel_rfl) (by kernel_rfl) (fun _ _ _ h => h) (Or.inl ⟨by rfl, ?_⟩) (by assumption) ?_
          · (intro w hSw; (try dsimp only [HeldD] at hSw); go_simp)
          try simp only [Act.put, List.setIfInBounds_toArray, List.set_cons_zero, List.set_cons_succ]
          refine wpAnyH_take (i := 9) (oi := { dst := some 40, op := Go.Op.fieldAddr 71 (Go.Operand.tmp 39) 4, type := 0, pos := "maxflow.go:89", after := #[{ on := 8, ground := Go.Ground.data }], guard := none }) (v := .pointer (some ⟨p, 6, none⟩)) rfl (by kernel_rfl) (by kernel_rfl) (by kernel_rfl) (fun _ _ _ h => h) (Or.inl ⟨by rfl, ?_⟩) (by assumption) ?_
          · (intro w hSw; (try dsimp only [HeldD] at hSw); go_simp)
          try simp only [Act.put, List.setIfInBounds_toArray, List.set_cons_zero, List.set_cons_succ]
          refine wpAnyH_take (i := 10) (oi := { dst := some 41, op := Go.Op.load 25 (Go.Operand.tmp 40), type := 25, pos := "maxflow.go:89", after := #[{ on := 9, ground := Go.Ground.data }], guard := none }) (v := .slice (some ⟨tb, 0, none⟩) N tc) rfl (by kernel_rfl) (by kernel_rfl) (by kernel_rfl) (fun _ _ _ h => h) (Or.inl ⟨by rfl, ?_⟩) (by assumption) ?_
          · (intro w hSw; (try dsimp only [HeldD] at hSw); go_simp)
          try simp only [Act.put, List.setIfInBounds_toArray, List.set_cons_zero, List.set_cons_succ]
          refine wpAnyH_take (i := 11) (oi := { dst := some 42, op := Go.Op.move (Go.Operand.tmp 8), type := 3, pos := "maxflow.go:89", after := #[], guard := none }) (v := .int .i64 (v : Int)) rfl (by kernel_rfl) (by kernel_rfl) (by kernel_rfl) (fun _ _ _ h => h) (Or.inl ⟨by rfl, ?_⟩) (by assumption) ?_
          · (intro w hSw; (try dsimp only [HeldD] at hSw); go_simp)
          try simp only [Act.put, List.setIfInBounds_toArray, List.set_cons_zero, List.set_cons_succ]
          refine wpAnyH_take (i := 12) (oi := { dst := some 43, op := Go.Op.indexAddr 25 (Go.Operand.tmp 41) (Go.Operand.tmp 42), type := 0, pos := "maxflow.go:89", after := #[{ on := 10, ground := Go.Ground.data }, { on := 11, ground := Go.Ground.data }], guard := none }) (v := .pointer (some ⟨tb, v, none⟩)) rfl (by kernel_rfl) (by kernel_rfl) (by kernel_rfl) (fun _ _ _ h => h) (Or.inl ⟨by rfl, ?_⟩) (by assumption) ?_
          · (intro w hSw; (try dsimp only [HeldD] at hSw); go_simp)
          try simp only [Act.put, List.setIfInBounds_toArray, List.set_cons_zero, List.set_cons_succ]
          refine wpAnyH_take (i := 13) (oi := { dst := some 44, op := Go.Op.load 3 (Go.Operand.tmp 43), type := 3, pos := "maxflow.go:89", after := #[{ on := 12, ground := Go.Ground.data }], guard := none }) (v := .int .i64 (n : Int)) rfl (by kernel_rfl) (by kernel_rfl) (by kernel_rfl) (fun _ _ _ h => h) (Or.inl ⟨by rfl, ?_⟩) (by assumption) ?_
          · (intro w hSw; (try dsimp only [HeldD] at hSw); go_simp)
          try simp only [Act.put, List.setIfInBounds_toArray, List.set_cons_zero, List.set_cons_succ]
          refine wpAnyH_take (i := 14) (oi := { dst := some 45, op := Go.Op.indexAddr 81 (Go.Operand.tmp 37) (Go.Operand.tmp 44), type := 0, pos := "maxflow.go:89", after := #[{ on := 6, ground := Go.Ground.data }, { on := 13, ground := Go.Ground.data }], guard := none }) (v := .pointer (some ⟨rb, ro + n * 2, none⟩)) rfl (by kernel_rfl) (by kernel_rfl) (by kernel_rfl) (fun _ _ _ h => h) (Or.inl ⟨by rfl, ?_⟩) (by assumption) ?_
          · (intro w hSw; (try dsimp only [HeldD] at hSw); go_simp)
          try simp only [Act.put, List.setIfInBounds_toArray, List.set_cons_zero, List.set_cons_succ]
          refine wpAnyH_take (i := 15) (oi := { dst := some 46, op := Go.Op.load 75 (Go.Operand.tmp 45), type := 75, pos := "maxflow.go:89", after := #[{ on := 14, ground := Go.Ground.data }], guard := none }) (v := .agg #[.int .i64 (i : Int), .bool q]) rfl (by kernel_rfl) (by kernel_rfl) (by kernel_rfl) (fun _ _ _ h => h) (Or.inl ⟨by rfl, ?_⟩) (by assumption) ?_
          · (intro w hSw; (try dsimp only [HeldD] at hSw); go_simp)
          try simp only [Act.put, List.setIfInBounds_toArray, List.set_cons_zero, List.set_cons_succ]
          refine wpAnyH_ready (rs := [16]) (by kernel_rfl) (by simp) (AllReadyH.cons (o := { dst := some 9, op := Go.Op.alloc 75, type := 0, pos := "maxflow.go:89", after := #[], guard := none }) rfl (fun K hK => ?_) AllReadyH.nil)
          have b5 := (Below.refl _ wd).alloc (Nat.le_refl _) (.cells #[.int .i64 0, .bool false] 75)
          have n5 := heap_alloc_new wd (.cells #[.int .i64 0, .bool false] 75)
          have n50 := cell_whole n5 0
          have n51 := cell_whole n5 1
          have f50 := frozen_whole n5 0
          have f51 := frozen_whole n5 1
          go_simp
          refine hK.out _ _ (HHD.out.below b5) (fun hHeld => ?_)
          clear hK
          try simp only [Act.put, List.setIfInBounds_toArray, List.set_cons_zero, List.set_cons_succ]
          refine wpAnyH_ready (rs := [17]) (by kernel_rfl) (by simp) (AllReadyH.cons (o := { dst := none, op := Go.Op.store 75 (Go.Operand.tmp 9) (Go.Operand.tmp 46), type := 0, pos := "maxflow.go:89", after := #[{ on := 16, ground := Go.Ground.data }, { on := 15, ground := Go.Ground.data }, { on := 0, ground := Go.Ground.phase }, { on := 1, ground := Go.Ground.phase }, { on := 2, ground := Go.Ground.phase }, { on := 3, ground := Go.Ground.phase }, { on := 4, ground := Go.Ground.phase }, { on := 5, ground := Go.Ground.phase }, { on := 6, ground := Go.Ground.phase }, { on := 7, ground := Go.Ground.phase }, { on := 8, ground := Go.Ground.phase }, { on := 9, ground := Go.Ground.phase }, { on := 10, ground := Go.Ground.phase }, { on := 11, ground := Go.Ground.phase }, { on := 12, ground := Go.Ground.phase }, { on := 13, ground := Go.Ground.phase }, { on := 14, ground := Go.Ground.phase }, { on := 15, ground := Go.Ground.phase }, { on := 16, ground := Go.Ground.phase }], guard := none }) rfl (fun K hK => ?_) AllReadyH.nil)
          go_simp
          have b6 := (Below.refl _ wd).alloc (Nat.le_refl _) (.cells #[.int .i64 (i : Int), .bool q] 75)
          have HB6 := Lib.hid b6
          have HX6 := Lib.hid (heap_alloc_new wd (.cells #[.int .i64 (i : Int), .bool q] 75))
          clear hHeld n50 n51 f50 f51
          refine hK.out _ _ (HHD.out.below b6) (fun hHeld => ?_)
          clear hK b5 b6 n5
          try simp only [Act.put, List.setIfInBounds_toArray, List.set_cons_zero, List.set_cons_succ]
          refine wpAnyH_done (by kernel_rfl) ?_ _
          clear hHeld
          have HW := Lib.hid (HW.out.next HB6.out)
          have HOT := Lib.hid (HOT.out.below HB6.out)
          have HO0 := HO
          have HO := Lib.hid (HO.out.below HB6.out)
          have HK := Lib.hid (HK.out.trans (Kept.of_below (S := fun i => i = tb) HB6.out) (fun i _ e => e))
          obtain ⟨xb, hxb⟩ : ∃ xb, wd.heap.size = xb := ⟨_, rfl⟩
          rw [hxb] at HX6 ⊢
          clear HHD
          generalize wd.alloc (.cells #[.int .i64 (i : Int), .bool q] 75) = w5 at *
          have x0 := cell_whole HX6.out 0
          have x1 := cell_whole HX6.out 1
          have hxl := lt_whole HX6.out
          have HXR : Hid (∀ k, (Value.slice pa P.length pc).ownBlock = some k → w.heap.size ≤ k ∧ k ≠ xb) := Lib.hid (fun k e => ⟨own_block HO0.out e, by have := own_lt HO0.out e; omega⟩)
          clear HO0 hxb
          obtain ⟨u, hu⟩ : ∃ u, toS Z ((i : Int), q) = u := ⟨_, rfl⟩
          have huN : u < N := by rw [← hu]; exact (HA.out.2 i a q HAI.out).1
          have HEND : Hid (endI a q = (u : Int)) := Lib.hid (by rw [← hu]; exact (begI_fromE HAI.out (HA.out.1 a (List.mem_of_getElem? HAI.out)) q).2)
          have HTO := Lib.hid hu
          clear hu
          cases dB
          · have HMB : Hid (muT Z N (T2.set v ((n : Int) + 1)) P < muT Z N T2 P) := Lib.hid (by rw [← HN.out]; exact muT_bump HTI.out hv (by rw [HN.out, HSL.out]; exact hxi) P P (by omega))
            have HT3 : Hid (TI Z N (T2.set v ((n : Int) + 1))) := Lib.hid (by rw [← HN.out]; exact HTI.out.bump hv (by rw [HN.out, HSL.out]; exact hxi))
            have HP3 : Hid (DP Z F L (T2.set v ((n : Int) + 1)) s P v) := Lib.hid (HDP.out.bump _ (by rw [HTI.out.len]; exact hv))
            have HD3 : Hid (DT Z F L N t T → DT Z F L N t (T2.set v ((n : Int) + 1))) := Lib.hid (fun h0 => by rw [← HN.out]; exact (HDT.out h0).bump HTI.out hv HSY.out (dead_no HDB.out))
            go_wp2_with (first
              | (go_at_call 60; refine (xdescends_is p tb sg N b ao cap Z sc tc fo fc F lo lc L T2 i q false _ HW.out HE.out hi HLL.out HLB.out HDB.out).mono ?_; rintro e w6 ⟨rfl, b6⟩; have HW6 := Lib.hid (HW.out.next b6); have HOT6 := Lib.hid (HOT.out.below b6); have HO6 := Lib.hid (HO.out.below b6); have HK6 := Lib.hid (HK.out.trans (Kept.of_below (S := fun i => i = tb) b6) (fun i _ e => e)); obtain ⟨⟨_, _, _, _, _, _, k6⟩, _⟩ := c7Cells HW6.out.box; obtain ⟨ct, cf⟩ := HOT6.out.cell (atI_get (d := T2) (v := v) (by rw [HTI.out.len]; exact hv)); rw [HN.out] at ct; unfold encI at ct; clear b6 x0 x1))
            go_roundg (muT Z N (T2.set v ((n : Int) + 1)) P + 1)
            case measure => have h1 := HMB.out; have h2 := HM2.out; omega
            case rel => exact ⟨T2.set v ((n : Int) + 1), rfl, rfl, Lib.hid (Nat.lt_succ_self _), Lib.hid (by have h1 := HMB.out; have h2 := HMU.out; omega), HT3, HP3, HD3, Lib.hid (HOT6.out.put v _), Lib.hid (HO6.out.keptv ((Kept.refl (fun i => i = tb) w6).set (.inl rfl) _) (fun g hg e => by have e2 : g = tb := e; omega)), Lib.hid (HK6.out.set (.inl rfl) _)⟩
          · have HP3 : Hid (DP Z F L T2 s (P ++ [((i : Int), q)]) u) := Lib.hid (by rw [← HTO.out]; exact HDP.out.push HSY.out HDB.out)
            have HMB : Hid (muT Z N T2 (P ++ [((i : Int), q)]) < muT Z N T2 P) := Lib.hid (muT_push P _ (by omega))
            go_wp2_with (first
              | (go_at_call 60; refine (xdescends_is p tb sg N b ao cap Z sc tc fo fc F lo lc L T2 i q true _ HW.out HE.out hi HLL.out HLB.out HDB.out).mono ?_; rintro e w6 ⟨rfl, b6⟩; have HW6 := Lib.hid (HW.out.next b6); have HOT6 := Lib.hid (HOT.out.below b6); have HO6 := Lib.hid (HO.out.below b6); have HK6 := Lib.hid (HK.out.trans (Kept.of_below (S := fun i => i = tb) b6) (fun i _ e => e)); have HX6 := Lib.hid (kept_box HX6.out b6); have x0 := cell_below b6 x0; have x1 := cell_below b6 x1; have hs6 : w.heap.size ≤ w6.heap.size := HK6.out.size; clear b6)
              | (at_builtin; refine wpList_append_step rfl _ _ rfl w.heap.size _ P ((i : Int), q) rfl (HO6.out.alloc (.cells #[.int .i64 (i : Int), .bool q] 75)) _ 1 rfl (cells2 _ _ _ (by simp) _ _) (by omega) (by simp; omega) ?_; intro g8 cap8 w8 ho8 hg8 hl8 hb8 hlt8; have k68 : Kept (fun i => w.heap.size ≤ i ∧ i ≠ xb) w6 w8 := (((Kept.refl _ w6).alloc (.cells #[.int .i64 (i : Int), .bool q] 75)).trans (Kept.of_grown (S := fun i => w.heap.size ≤ i ∧ i ≠ xb) hg8 (fun k e => HXR.out k e)) (fun i _ h => h)); have HO8 := Lib.hid ho8; have HK8 : Hid (Kept (fun i => i = tb) w w8) := Lib.hid (HK6.out.trans k68 (fun i hi h => by have := h.1; omega)); have HOT8 := Lib.hid (ownL_kept HOT6.out k68 (fun g e h => by simp [Value.ownBlock] at e; have := h.1; omega)); have HX8 := Lib.hid (k68.old HX6.out (fun h => h.2 rfl)); have x0 := cell_whole HX8.out 0; have x1 := cell_whole HX8.out 1; have HW8 := Lib.hid (H.out.keptT HK8.out HOT8.out); obtain ⟨⟨k0, k1, k2, _, _, _, _⟩, _⟩ := c7Cells HW8.out.box; clear ho8 hg8 hl8 k68))
            go_region_held3 (fun W => W.cell? ⟨p, 0, none⟩ = some (.int .i64 (N : Int)) ∧ W.cell? ⟨p, 1, none⟩ = some (.bool b) ∧ W.cell? ⟨p, 2, none⟩ = some (.slice ao Z.length cap) ∧ W.cell? ⟨xb, 0, none⟩ = some (.int .i64 (i : Int)) ∧ W.cell? ⟨xb, 1, none⟩ = some (.bool q)) (first | exact ⟨k0, k1, k2, x0, x1⟩ | exact ⟨z0, z1, z2, z3, z4⟩ | go_keep)
              (first | (go_at_call 61; refine (xend_at (N : Int) b ao cap Z i q a w8.drew HW8.out.drew.arcs HAI.out hz).mono ?_; rintro e w9 ⟨rfl, b9⟩; rw [HEND.out]; have z0 := cell_below (w := w8.drew) b9 k0; have z1 := cell_below (w := w8.drew) b9 k1; have z2 := cell_below (w := w8.drew) b9 k2; have z3 := cell_below (w := w8.drew) b9 x0; have z4 := cell_below (w := w8.drew) b9 x1; have HB9 := Lib.hid ((below_drew (Below.refl w8.heap.size w8)).trans b9); clear b9))
            all_goals
              go_wp2
              go_roundg (muT Z N T2 (P ++ [((i : Int), q)]) + 1)
              case measure => have h1 := HMB.out; have h2 := HMU.out; omega
              case rel => exact ⟨u, P ++ [((i : Int), q)], T2, rfl, huN, Lib.hid (Nat.lt_succ_self _), HTI, HP3, HDT, Lib.hid (HOT8.out.below HB9.out), Lib.hid (HO8.out.below HB9.out), Lib.hid (HK8.out.trans (Kept.of_below (S := fun i => i = tb) HB9.out) (fun i _ e => e))⟩
        · have hxi : ¬ (n : Int) < ((stepsU Z v).length : Int) := by omega
          have HSH : Hid (DT Z F L N t T → Shut Z F L t v) := Lib.hid (fun h0 => (HDT.out h0).shut hv (by rw [HN.out]; exact hxi) hvt)
          obtain ⟨sl, hsle⟩ : ∃ sl, (stepsU Z v).length = sl := ⟨_, rfl⟩
          rw [hsle] at hd hx hxi hsl hbd
          clear hrow hoff hsle
          by_cases hvs : v = s
          · have hvsi : ((v : Int) == (s : Int)) = true := by simp [hvs]
            have HVS := Lib.hid hvs
            clear hvs
            go_wp2_with fail
            go_quiet (fail)
            go_wp2
            try rw [Exit.noGoto_ret]
            refine bodyPost_ret (v := .tuple #[.slice none 0 0, .bool false]) (by simp [results, Try.results46, go_sem]) rfl ?_
            exact ⟨T2, HTI.out, HW.out.drewN nq, HK.out.drewN nq, .inr ⟨rfl, by rw [← HVS.out]; exact HSH.out⟩⟩
          · have hvsi : ((v : Int) == (s : Int)) = false := by simp; omega
            obtain ⟨Q, y, hPQ⟩ : ∃ Q y, P = Q ++ [y] := by
              rcases List.eq_nil_or_concat P with h | ⟨Q, y, h⟩
              · subst h
                exact absurd HDP.out.walk.symm hvs
              · exact ⟨Q, y, by simpa using h⟩
            subst hPQ
            obtain ⟨hp1, hp2, hp3⟩ := HDP.out.pop
            obtain ⟨ya, yd⟩ := HDP.out.all y (by simp)
            obtain ⟨yi, q⟩ := y
            obtain ⟨i, rfl, hi⟩ := isArc_nat ya
            have hai : Z[i]? = some Z[i] := List.getElem?_eq_getElem hi
            obtain ⟨u, hu⟩ : ∃ u, fromS Z ((i : Int), q) = u := ⟨_, rfl⟩
            have huN : u < N := by rw [← hu]; exact (HA.out.2 i Z[i] q hai).2
            have HBEG : Hid (begI Z[i] q = (u : Int)) := Lib.hid (by rw [← hu]; exact (begI_fromE hai (HA.out.1 _ (List.getElem_mem hi)) q).1)
            have HAI := Lib.hid hai
            generalize Z[i] = a at *
            rw [hu] at hp1 hp3
            obtain ⟨g, c, e, hg1, hg2, hg3, hg4⟩ := HO.out.form (by simp)
            have hO := HO.out
            rw [e] at hO
            injection e with e1 e2 e3
            subst e1
            subst e3
            obtain ⟨⟨y0, y1⟩, _⟩ := OwnS.cell hO (j := Q.length) (x := ((i : Int), q)) (by simp)
            rw [List.length_append, List.length_singleton] at hPl hg3
            have hOQ := hO.init
            have HOQ := Lib.hid hOQ
            obtain ⟨m, hm⟩ : ∃ m : Nat, atI T2 u = (m : Int) := ⟨(atI T2 u).toNat, by have := (HTI.out.bd u huN).1; omega⟩
            have hml : m < (stepsU Z u).length := by
              have h1 := (List.getElem?_eq_some_iff.1 hp3).1
              rw [hm, Int.toNat_natCast] at h1
              exact h1
            have hsl2 := stepsU_len Z u
            have hmb : m ≤ 400 := by omega
            have HM := Lib.hid hm
            have hTl : atI T2 u < ((stepsU Z u).length : Int) := by rw [hm]; omega
            have HMB : Hid (muT Z N (T2.set u ((m : Int) + 1)) Q < muT Z N T2 (Q ++ [((i : Int), q)])) := Lib.hid (by rw [← hm]; exact muT_bump HTI.out huN hTl _ _ (by simp))
            have HT3 : Hid (TI Z N (T2.set u ((m : Int) + 1))) := Lib.hid (by rw [← hm]; exact HTI.out.bump huN hTl)
            have HP3 : Hid (DP Z F L (T2.set u ((m : Int) + 1)) s Q u) := Lib.hid (hp1.bump _ (by rw [HTI.out.len]; exact huN))
            have HD3 : Hid (DT Z F L N t T → DT Z F L N t (T2.set u ((m : Int) + 1))) := Lib.hid (fun h0 => by rw [← hm]; exact (HDT.out h0).bump HTI.out huN hp3 (shut_dead (by rw [hp2]; exact HSH.out h0)))
            have hQi : (Q.length : Int) < ((Q.length + 1 : Nat) : Int) := by omega
            have huNi : (u : Int) < (N : Int) := by omega
            rw [show (Q ++ [((i : Int), q)]).length = Q.length + 1 by simp]
            clear hp1 hp2 hp3 ya yd hu hai hO hOQ hm hml hsl2 hTl e2
            go_wp2_with fail
            go_quiet (fail)
            have HW := Lib.hid (HW.out.drewN nq)
            have HOT := Lib.hid (HOT.out.below (below_drewN (Below.refl _ wr) nq))
            have HOQ := Lib.hid (HOQ.out.below (below_drewN (Below.refl _ wr) nq))
            have HK := Lib.hid (HK.out.drewN nq)
            have k0 : (wr.drewN nq).cell? ⟨p, 0, none⟩ = _ := k0
            have k1 : (wr.drewN nq).cell? ⟨p, 1, none⟩ = _ := k1
            have k2 : (wr.drewN nq).cell? ⟨p, 2, none⟩ = _ := k2
            have y0 : (wr.drewN nq).cell? ⟨g, Q.length * 2, none⟩ = _ := y0
            have y1 : (wr.drewN nq).cell? ⟨g, Q.length * 2 + 1, none⟩ = _ := y1
            clear k3 k4 k5 k6 ct cf hd HO
            go_wp2_with fail
            generalize wr.drewN nq = wd at *
            obtain ⟨qm, hqm⟩ : ∃ qm, Q.length + 1 = qm := ⟨_, rfl⟩
            have HQM := Lib.hid hqm
            have hQm : (Q.length : Int) < (qm : Int) := by omega
            have hQ0 : (0 : Int) ≤ (Q.length : Int) := by omega
            rw [hqm]
            clear hqm hQi
            go_region_held3 (fun W => W.cell? ⟨p, 0, none⟩ = some (.int .i64 (N : Int)) ∧ W.cell? ⟨p, 1, none⟩ = some (.bool b) ∧ W.cell? ⟨p, 2, none⟩ = some (.slice ao Z.length cap) ∧ W.cell? ⟨g, Q.length * 2, none⟩ = some (.int .i64 (i : Int)) ∧ W.cell? ⟨g, Q.length * 2 + 1, none⟩ = some (.bool q)) (first | exact ⟨k0, k1, k2, y0, y1⟩ | exact ⟨z0, z1, z2, z3, z4⟩ | go_keep)
              (first | (go_at_call 58; refine (xbegin_at (N : Int) b ao cap Z i q a wd.drew HW.out.drew.arcs HAI.out hz).mono ?_; rintro e w9 ⟨rfl, b9⟩; rw [HBEG.out]; have z0 := cell_below (w := wd.drew) b9 k0; have z1 := cell_below (w := wd.drew) b9 k1; have z2 := cell_below (w := wd.drew) b9 k2; have z3 := cell_below (w := wd.drew) b9 y0; have z4 := cell_below (w := wd.drew) b9 y1; have HB9 := Lib.hid ((below_drew (Below.refl wd.heap.size wd)).trans b9); clear b9))
            all_goals
              have hqm := HQM.out
              subst hqm
              have hQi : (Q.length : Int) < ((Q.length + 1 : Nat) : Int) := by omega
              have HW9 := Lib.hid (HW.out.next HB9.out)
              have HOT9 := Lib.hid (HOT.out.below HB9.out)
              have HO9 := Lib.hid (HOQ.out.below HB9.out)
              have HK9 := Lib.hid (HK.out.trans (Kept.of_below (S := fun i => i = tb) HB9.out) (fun i _ e => e))
              obtain ⟨⟨_, _, _, _, _, _, k6⟩, _⟩ := c7Cells HW9.out.box
              obtain ⟨ct, cf⟩ := HOT9.out.cell (atI_get (d := T2) (v := u) (by rw [HTI.out.len]; exact huN))
              rw [HM.out] at ct
              unfold encI at ct
              go_wp2
              go_roundg (muT Z N (T2.set u ((m : Int) + 1)) Q + 1)
              case measure => have h1 := HMB.out; have h2 := HMU.out; omega
              case rel => exact ⟨u, Q, T2.set u ((m : Int) + 1), rfl, huN, Lib.hid (Nat.lt_succ_self _), HT3, HP3, HD3, Lib.hid (HOT9.out.put u _), Lib.hid (HO9.out.keptv ((Kept.refl (fun i => i = tb) w9).set (.inl rfl) _) (fun g hg e => by have e2 : g = tb := e; omega)), Lib.hid (HK9.out.set (.inl rfl) _)⟩
end
end Go.Proofs.Ytekcnglkfglbfaa
