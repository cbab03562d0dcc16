/- The network with the flow of zeros, as package maxflow makes it. -/
import Derived.Test.YtbgnoaijgngifaaGreatXFrom
namespace Go.Proofs.YtbgnoaijgngifaaGreat
open Go.RowKit
set_option linter.unusedVariables false

/-- Rows of steps in blocks from lo to hi. -/
def SRB (w : World) (sg lo hi : Nat) (G : List (List StepT)) : Prop := ∀ i (h : i < G.length), ∃ ao cap, w.cell? ⟨sg, i, none⟩ = some (.slice ao G[i].length cap) ∧ Row encS 2 w ao G[i] ∧ ∀ ad, ao = some ad → 0 < G[i].length → lo ≤ ad.block ∧ ad.block < hi
theorem SRB.next {w w2 : World} {sg lo hi : Nat} {G : List (List StepT)} (h : SRB w sg lo hi G) (hsg : sg < w.heap.size) (hb : Below w.heap.size w w2) : SRB w2 sg lo hi G := by
  intro i hi
  obtain ⟨ao, cap, h1, h2, h3⟩ := h i hi
  exact ⟨ao, cap, cell_below' hb h1 hsg, h2.below' hb, h3⟩
theorem IXS.srb {B : Nat} {w : World} {g cap : Nat} {vs : List Value} {G : List (List StepT)} {own : Nat → Nat} (h : IXS B w g cap vs G own) : SRB w g B w.heap.size G := by
  intro i hi
  obtain ⟨hc, _⟩ := h.cell hi
  have hn := h.inn i hi
  obtain ⟨ao, c, e, hr⟩ := hn.row
  rw [e] at hc
  have eG : G.getD i [] = G[i] := getD_lt hi []
  rw [eG] at hc hr
  refine ⟨ao, c, hc, hr, fun ad ea _ => ?_⟩
  subst ea
  have hb : (vs.getD i nilS).ownBlock = some ad.block := by
    rcases hn.2 with ⟨h0, _⟩ | ⟨g', cap', cur, e1, _⟩
    · rw [e] at h0; cases h0
    · rw [e] at e1
      rw [e]
      injection e1 with e2 _ _
      injection e2 with e2
      rw [e2]
      rfl
  exact ⟨own_block hn hb, own_lt hn hb⟩
theorem filw_make {w wz : World} {N : Nat} {b : Bool} {ao : Option Addr} {cap : Nat} {Z : List ArcT} {sg lo hi fb tb : Nat} (ha : Row encA 4 wz ao Z) (hab : ∀ ad, ao = some ad → 0 < Z.length → ad.block < w.heap.size) (hs : SRB wz sg lo hi (rowsU Z N)) (hsg : lo ≤ sg ∧ sg < hi) (hlo : w.heap.size ≤ lo ∧ hi ≤ wz.heap.size)
    (hf : OwnL encI wz w.heap.size 3 (.slice (some ⟨fb, 0, none⟩) Z.length Z.length) (List.replicate Z.length 0)) (ht : OwnL encI wz w.heap.size 3 (.slice (some ⟨tb, 0, none⟩) N N) (List.replicate N 0)) (hne : fb ≠ tb) (htb : tb < lo ∨ hi ≤ tb) :
    FilW (wz.alloc (.cells #[.int .i64 (N : Int), .bool b, .slice ao Z.length cap, .slice (some ⟨sg, 0, none⟩) N N, .slice (some ⟨fb, 0, none⟩) Z.length Z.length, .slice none 0 0, .slice (some ⟨tb, 0, none⟩) N N] 53)) wz.heap.size tb sg N b ao cap Z N N (some ⟨fb, 0, none⟩) Z.length (List.replicate Z.length 0) none 0 [] (List.replicate N 0) := by
  have b1 := (Below.refl _ wz).alloc (Nat.le_refl _) (.cells #[.int .i64 (N : Int), .bool b, .slice ao Z.length cap, .slice (some ⟨sg, 0, none⟩) N N, .slice (some ⟨fb, 0, none⟩) Z.length Z.length, .slice none 0 0, .slice (some ⟨tb, 0, none⟩) N N] 53)
  have h1 : w.heap.size ≤ fb ∧ fb < wz.heap.size := own_lt2 hf rfl
  have h2 : w.heap.size ≤ tb ∧ tb < wz.heap.size := own_lt2 ht rfl
  have hbs := b1.size
  refine ⟨by rw [List.length_replicate]; exact heap_alloc_new _ _, ha.below' b1, fun ad e h0 => by have := hab ad e h0; omega, ?_, ⟨by omega, by omega, by omega⟩, hf.lstK.below b1, fun ad e _ => ?_, Lst.nil _ _, fun ad e _ => absurd e (by simp), (ht.below b1).mono (by omega), by omega⟩
  · intro i hi
    obtain ⟨a, c, r1, r2, r3⟩ := hs.next (by omega) b1 i hi
    exact ⟨a, c, r1, r2, fun ad e h0 => by have := r3 ad e h0; omega⟩
  · cases e
    exact ⟨by show fb ≠ _; omega, hne⟩
/-- What lies about while it is made. -/
structure EB (w0 wr : World) (N : Nat) (b : Bool) (ao : Option Addr) (cap : Nat) (Z : List ArcT) : Prop where
  below : Below w0.heap.size w0 wr
  big : w0.heap.size ≤ wr.heap.size
  net : wr.heap[w0.heap.size]? = some (.cells #[.int .i64 (N : Int), .bool b, .slice ao Z.length cap] 24 (0, 0))
  xnet : wr.heap[w0.heap.size + 1]? = some (.cells #[.int .i64 (N : Int), .bool b, .slice ao Z.length cap] 50 (0, 0))
  arcs : Row encA 4 wr ao Z
def HeldE (w0 : World) (N : Nat) (b : Bool) (ao : Option Addr) (zl cap : Nat) (W : World) : Prop := (W.cell? ⟨w0.heap.size, 0, none⟩ = some (.int .i64 (N : Int)) ∧ W.cell? ⟨w0.heap.size, 1, none⟩ = some (.bool b) ∧ W.cell? ⟨w0.heap.size, 2, none⟩ = some (.slice ao zl cap)) ∧ W.cell? ⟨w0.heap.size + 1, 0, none⟩ = some (.int .i64 (N : Int)) ∧ W.cell? ⟨w0.heap.size + 1, 1, none⟩ = some (.bool b) ∧ W.cell? ⟨w0.heap.size + 1, 2, none⟩ = some (.slice ao zl cap)
section
variable {w0 wr w2 : World} {N : Nat} {b : Bool} {ao : Option Addr} {cap : Nat} {Z : List ArcT}
theorem EB.next (h : EB w0 wr N b ao cap Z) (hb : Below wr.heap.size wr w2) : EB w0 w2 N b ao cap Z := ⟨h.below.trans (hb.mono h.big), Nat.le_trans h.big hb.size, kept_box h.net hb, kept_box h.xnet hb, h.arcs.below' hb⟩
theorem EB.held (h : EB w0 wr N b ao cap Z) : HeldE w0 N b ao Z.length cap wr := ⟨⟨cell_whole h.net 0, cell_whole h.net 1, cell_whole h.net 2⟩, cell_whole h.xnet 0, cell_whole h.xnet 1, cell_whole h.xnet 2⟩
end
section
variable (b : Bool) (ao : Option Addr) (cap : Nat) (Z : List ArcT)
set_option maxRecDepth 100000 in
set_option maxHeartbeats 4000000 in
theorem xempty_at (N : Nat) (w : World) (h : Row encA 4 w ao Z) (hc : checkE (N : Int) Z = 0) :
    Calls Tryz.prog 18 #[.agg #[.int .i64 (N : Int), .bool b, .slice ao Z.length cap]] w fun e w' => ∃ p tb sg fb, e = .returned (.pointer (some ⟨p, 0, none⟩)) ∧ w.heap.size ≤ p ∧ w.heap.size ≤ tb ∧ FilW w' p tb sg N b ao cap Z N N (some ⟨fb, 0, none⟩) Z.length (List.replicate Z.length 0) none 0 [] (List.replicate N 0) ∧ Below w.heap.size w w' := by
  have hR : Right ((N : Int), b, Z) := right_iff.1 hc
  have hn := nodesE_ok hR.1
  have hzl : Z.length ≤ 200 := hR.2.1
  simp only at hn
  have HC := Lib.hid hc
  have HLT := Lib.hid h.lt
  have hb0 := ((Below.refl _ w).alloc (Nat.le_refl _) (.cells #[.int .i64 (N : Int), .bool b, .slice ao Z.length cap] 24)).alloc (by simp) (.cells #[.int .i64 (N : Int), .bool b, .slice ao Z.length cap] 50)
  have HB := Lib.hid hb0
  have HZ := Lib.hid (h.below' hb0)
  have k := alloc_whole (heap_alloc_new w (.cells #[.int .i64 (N : Int), .bool b, .slice ao Z.length cap] 24)) (.cells #[.int .i64 (N : Int), .bool b, .slice ao Z.length cap] 50)
  have HK := Lib.hid k
  have HX := Lib.hid (new_whole1 w (.cells #[.int .i64 (N : Int), .bool b, .slice ao Z.length cap] 24) (.cells #[.int .i64 (N : Int), .bool b, .slice ao Z.length cap] 50))
  have hmk := fun W => run_make_row' (P := Tryz.prog) 33 3 (.int .i64 0) 8 Tryz.underlying33 infoInt rfl .i64 .i64 N (by omega) (by omega) W
  have hmz := fun W => run_make_row' (P := Tryz.prog) 33 3 (.int .i64 0) 8 Tryz.underlying33 infoInt rfl .i64 .i64 Z.length (by omega) (by omega) W
  clear h hc hR hb0 k
  have HE0 : Hid (EB w ((w.alloc (.cells #[.int .i64 (N : Int), .bool b, .slice ao Z.length cap] 24)).alloc (.cells #[.int .i64 (N : Int), .bool b, .slice ao Z.length cap] 50)) N b ao cap Z) := Lib.hid ⟨HB.out, HB.out.size, HK.out, HX.out, HZ.out⟩
  clear HB HZ HK HX
  go_enter Tryz.func18, Tryz.ntmps18
  go_wp2
  refine wp_region_held_drew (S := fun W => HeldE w N b ao Z.length cap W) (by kernel_rfl) HE0.out.held (fun hHeld => ?_)
  have HE := Lib.hid (HE0.out.next (below_drew (Below.refl _ _)))
  clear HE0
  generalize ((w.alloc (.cells #[.int .i64 (N : Int), .bool b, .slice ao Z.length cap] 24)).alloc (.cells #[.int .i64 (N : Int), .bool b, .slice ao Z.length cap] 50)).drew = wd at *
  refine wpAnyH_take (i := 0) (oi := { dst := some 6, op := Go.Op.load 50 (Go.Operand.tmp 3), type := 50, pos := "maxflow.go:53", after := #[], guard := none }) (v := .agg #[.int .i64 (N : Int), .bool b, .slice ao Z.length cap]) rfl (by kernel_rfl) (by kernel_rfl) (by kernel_rfl) (fun _ _ _ h => h) (Or.inl ⟨by rfl, ?_⟩) (by assumption) ?_
  · (intro w hSw; (try dsimp only [HeldE] at hSw); go_simp)
  try simp only [Act.put, List.setIfInBounds_toArray, List.set_cons_zero, List.set_cons_succ]
  refine wpAnyH_take (i := 1) (oi := { dst := some 7, op := Go.Op.load 50 (Go.Operand.tmp 3), type := 50, pos := "maxflow.go:53", after := #[], guard := none }) (v := .agg #[.int .i64 (N : Int), .bool b, .slice ao Z.length cap]) rfl (by kernel_rfl) (by kernel_rfl) (by kernel_rfl) (fun _ _ _ h => h) (Or.inl ⟨by rfl, ?_⟩) (by assumption) ?_
  · (intro w hSw; (try dsimp only [HeldE] at hSw); go_simp)
  try simp only [Act.put, List.setIfInBounds_toArray, List.set_cons_zero, List.set_cons_succ]
  refine wpAnyH_take (i := 3) (oi := { dst := some 9, op := Go.Op.fieldAddr 24 (Go.Operand.tmp 1) 2, type := 0, pos := "maxflow.go:53", after := #[], guard := none }) (v := .pointer (some ⟨w.heap.size, 2, none⟩)) rfl (by kernel_rfl) (by kernel_rfl) (by kernel_rfl) (fun _ _ _ h => h) (Or.inl ⟨by rfl, ?_⟩) (by assumption) ?_
  · (intro w hSw; (try dsimp only [HeldE] at hSw); go_simp)
  try simp only [Act.put, List.setIfInBounds_toArray, List.set_cons_zero, List.set_cons_succ]
  refine wpAnyH_take (i := 4) (oi := { dst := some 10, op := Go.Op.load 22 (Go.Operand.tmp 9), type := 22, pos := "maxflow.go:53", after := #[{ on := 3, ground := Go.Ground.data }], guard := none }) (v := .slice ao Z.length cap) rfl (by kernel_rfl) (by kernel_rfl) (by kernel_rfl) (fun _ _ _ h => h) (Or.inl ⟨by rfl, ?_⟩) (by assumption) ?_
  · (intro w hSw; (try dsimp only [HeldE] at hSw); go_simp)
  try simp only [Act.put, List.setIfInBounds_toArray, List.set_cons_zero, List.set_cons_succ]
  refine wpAnyH_take (i := 5) (oi := { dst := some 11, op := Go.Op.call { callee := Go.Callee.builtin Go.Builtin.len, args := #[Go.Operand.tmp 10], argTypes := #[22] }, type := 3, pos := "maxflow.go:53", after := #[{ on := 4, ground := Go.Ground.data }], guard := none }) (v := .int .i64 (Z.length : Int)) rfl (by kernel_rfl) (by kernel_rfl) (by kernel_rfl) (fun _ _ _ h => h) (Or.inl ⟨by rfl, ?_⟩) (by assumption) ?_
  · (intro w hSw; (try dsimp only [HeldE] at hSw); go_simp)
  try simp only [Act.put, List.setIfInBounds_toArray, List.set_cons_zero, List.set_cons_succ]
  refine wpAnyH_take (i := 7) (oi := { dst := some 13, op := Go.Op.fieldAddr 24 (Go.Operand.tmp 1) 0, type := 0, pos := "maxflow.go:53", after := #[], guard := none }) (v := .pointer (some ⟨w.heap.size, 0, none⟩)) rfl (by kernel_rfl) (by kernel_rfl) (by kernel_rfl) (fun _ _ _ h => h) (Or.inl ⟨by rfl, ?_⟩) (by assumption) ?_
  · (intro w hSw; (try dsimp only [HeldE] at hSw); go_simp)
  try simp only [Act.put, List.setIfInBounds_toArray, List.set_cons_zero, List.set_cons_succ]
  refine wpAnyH_take (i := 8) (oi := { dst := some 14, op := Go.Op.load 3 (Go.Operand.tmp 13), type := 3, pos := "maxflow.go:53", after := #[{ on := 7, ground := Go.Ground.data }], guard := none }) (v := .int .i64 (N : Int)) rfl (by kernel_rfl) (by kernel_rfl) (by kernel_rfl) (fun _ _ _ h => h) (Or.inl ⟨by rfl, ?_⟩) (by assumption) ?_
  · (intro w hSw; (try dsimp only [HeldE] at hSw); go_simp)
  try simp only [Act.put, List.setIfInBounds_toArray, List.set_cons_zero, List.set_cons_succ]
  refine wpAnyH_ready (rs := [2, 6, 9]) (by kernel_rfl) (by simp) (AllReadyH.cons (o := { dst := some 8, op := Go.Op.call { callee := Go.Callee.value (Go.Operand.func 33), args := #[Go.Operand.tmp 7], argTypes := #[50] }, type := 51, pos := "maxflow.go:55", after := #[{ on := 1, ground := Go.Ground.data }], guard := none }) rfl (fun K hK => ?_) (AllReadyH.cons (o := { dst := some 12, op := Go.Op.makeSlice 33 (Go.Operand.tmp 11) (Go.Operand.tmp 11), type := 33, pos := "maxflow.go:53", after := #[{ on := 5, ground := Go.Ground.data }, { on := 5, ground := Go.Ground.data }], guard := none }) rfl (fun K hK => ?_) (AllReadyH.cons (o := { dst := some 15, op := Go.Op.makeSlice 33 (Go.Operand.tmp 14) (Go.Operand.tmp 14), type := 33, pos := "maxflow.go:53", after := #[{ on := 8, ground := Go.Ground.data }, { on := 8, ground := Go.Ground.data }], guard := none }) rfl (fun K hK => ?_) AllReadyH.nil)))
  · go_simp
    refine (xfrom_at b ao cap Z N _ HE.out.arcs HC.out).mono ?_
    rintro e wc ⟨sg, vs, own, rfl, hix, b7⟩
    have HLO : Hid (w.heap.size ≤ wd.heap.size) := Lib.hid HE.out.big
    have HE := Lib.hid (HE.out.next b7)
    have HSR := Lib.hid hix.srb
    have HSG : Hid (wd.heap.size ≤ sg ∧ sg < wc.heap.size) := Lib.hid hix.lt
    have HSB : Hid (sg < wc.heap.size) := Lib.hid hix.lt.2
    have HHI : Hid (wc.heap.size ≤ wc.heap.size) := Lib.hid (Nat.le_refl _)
    clear b7 hix hHeld
    go_wp2_with fail
    refine hK.out _ _ HE.out.held (fun hHeld => ?_)
    clear hK
    try simp only [Act.put, List.setIfInBounds_toArray, List.set_cons_zero, List.set_cons_succ]
    refine wpAnyH_ready (rs := [6, 9]) (by kernel_rfl) (by simp) (AllReadyH.cons (o := { dst := some 12, op := Go.Op.makeSlice 33 (Go.Operand.tmp 11) (Go.Operand.tmp 11), type := 33, pos := "maxflow.go:53", after := #[{ on := 5, ground := Go.Ground.data }, { on := 5, ground := Go.Ground.data }], guard := none }) rfl (fun K hK => ?_) (AllReadyH.cons (o := { dst := some 15, op := Go.Op.makeSlice 33 (Go.Operand.tmp 14) (Go.Operand.tmp 14), type := 33, pos := "maxflow.go:53", after := #[{ on := 8, ground := Go.Ground.data }, { on := 8, ground := Go.Ground.data }], guard := none }) rfl (fun K hK => ?_) AllReadyH.nil))
    · go_simp
      have b7 := (Below.refl _ wc).alloc (Nat.le_refl _) (.cells (madeCells #[.int .i64 0] Z.length) 3)
      have HF := Lib.hid (made_ints wc w.heap.size Z.length HE.out.big (by omega))
      have HFL : Hid (wc.heap.size < (wc.alloc (.cells (madeCells #[.int .i64 0] Z.length) 3)).heap.size) := Lib.hid (by simp)
      have HE := Lib.hid (HE.out.next b7)
      have HSR := Lib.hid (HSR.out.next HSB.out b7)
      have HSB := Lib.hid (Nat.lt_of_lt_of_le HSB.out b7.size)
      have HHI := Lib.hid (Nat.le_trans HHI.out b7.size)
      clear b7 hHeld
      refine hK.out _ _ HE.out.held (fun hHeld => ?_)
      clear hK
      generalize wc.alloc (.cells (madeCells #[.int .i64 0] Z.length) 3) = wf at *
      try simp only [Act.put, List.setIfInBounds_toArray, List.set_cons_zero, List.set_cons_succ]
      refine wpAnyH_ready (rs := [9]) (by kernel_rfl) (by simp) (AllReadyH.cons (o := { dst := some 15, op := Go.Op.makeSlice 33 (Go.Operand.tmp 14) (Go.Operand.tmp 14), type := 33, pos := "maxflow.go:53", after := #[{ on := 8, ground := Go.Ground.data }, { on := 8, ground := Go.Ground.data }], guard := none }) rfl (fun K hK => ?_) AllReadyH.nil)
      go_simp
      have b7 := (Below.refl _ wf).alloc (Nat.le_refl _) (.cells (madeCells #[.int .i64 0] N) 3)
      have HNE : Hid (wc.heap.size ≠ wf.heap.size) := Lib.hid (by have := HFL.out; omega)
      have HTO : Hid (wf.heap.size < wd.heap.size ∨ wc.heap.size ≤ wf.heap.size) := Lib.hid (.inr HHI.out)
      have HT := Lib.hid (made_ints wf w.heap.size N HE.out.big (by omega))
      have HTL : Hid (wf.heap.size < (wf.alloc (.cells (madeCells #[.int .i64 0] N) 3)).heap.size) := Lib.hid (by simp)
      have HE := Lib.hid (HE.out.next b7)
      have HSR := Lib.hid (HSR.out.next HSB.out b7)
      have HSB := Lib.hid (Nat.lt_of_lt_of_le HSB.out b7.size)
      have HHI := Lib.hid (Nat.le_trans HHI.out b7.size)
      have HF := Lib.hid (HF.out.below b7)
      have HFL := Lib.hid (Nat.lt_of_lt_of_le HFL.out b7.size)
      clear b7 hHeld
      refine hK.out _ _ HE.out.held (fun hHeld => ?_)
      clear hK
      generalize wf.alloc (.cells (madeCells #[.int .i64 0] N) 3) = wt at *
      try simp only [Act.put, List.setIfInBounds_toArray, List.set_cons_zero, List.set_cons_succ]
      refine wpAnyH_take (i := 10) (oi := { dst := some 16, op := Go.Op.build 53 #[(0, Go.Operand.tmp 6), (1, Go.Operand.tmp 8), (2, Go.Operand.tmp 12), (4, Go.Operand.tmp 15)], type := 53, pos := "maxflow.go:53", after := #[{ on := 0, ground := Go.Ground.data }, { on := 2, ground := Go.Ground.data }, { on := 6, ground := Go.Ground.data }, { on := 9, ground := Go.Ground.data }], guard := none }) (v := .agg #[.int .i64 (N : Int), .bool b, .slice ao Z.length cap, .slice (some ⟨sg, 0, none⟩) N N, .slice (some ⟨wc.heap.size, 0, none⟩) Z.length Z.length, .slice none 0 0, .slice (some ⟨wf.heap.size, 0, none⟩) N N]) rfl (by kernel_rfl) (by kernel_rfl) (by kernel_rfl) (fun _ _ _ h => h) (Or.inl ⟨by rfl, ?_⟩) (by assumption) ?_
      · (intro w hSw; (try dsimp only [HeldE] at hSw); go_simp)
      try simp only [Act.put, List.setIfInBounds_toArray, List.set_cons_zero, List.set_cons_succ]
      refine wpAnyH_ready (rs := [11]) (by kernel_rfl) (by simp) (AllReadyH.cons (o := { dst := some 17, op := Go.Op.box 53 (Go.Operand.tmp 16), type := 45, pos := "maxflow.go:53", after := #[{ on := 10, ground := Go.Ground.data }], guard := none }) rfl (fun K hK => ?_) AllReadyH.nil)
      go_simp
      have HW := Lib.hid (filw_make (w := w) (wz := wt) (b := b) (cap := cap) HE.out.arcs HLT.out HSR.out HSG.out ⟨HLO.out, HHI.out⟩ HF.out HT.out HNE.out HTO.out)
      have b7 := (Below.refl _ wt).alloc (Nat.le_refl _) (.cells #[.int .i64 (N : Int), .bool b, .slice ao Z.length cap, .slice (some ⟨sg, 0, none⟩) N N, .slice (some ⟨wc.heap.size, 0, none⟩) Z.length Z.length, .slice none 0 0, .slice (some ⟨wf.heap.size, 0, none⟩) N N] 53)
      have HP := Lib.hid HE.out.big
      have HE := Lib.hid (HE.out.next b7)
      have HTB : Hid (w.heap.size ≤ wf.heap.size) := Lib.hid (own_lt2 HT.out rfl).1
      clear b7 hHeld
      refine hK.out _ _ HE.out.held (fun hHeld => ?_)
      clear hK
      try simp only [Act.put, List.setIfInBounds_toArray, List.set_cons_zero, List.set_cons_succ]
      refine wpAnyH_take (i := 12) (oi := { dst := some 2, op := Go.Op.assign (Go.Operand.tmp 17), type := 45, pos := "maxflow.go:53", after := #[{ on := 11, ground := Go.Ground.data }, { on := 2, ground := Go.Ground.chain }, { on := 0, ground := Go.Ground.phase }, { on := 1, ground := Go.Ground.phase }, { on := 2, ground := Go.Ground.phase }, { on := 3, ground := Go.Ground.phase }, { on := 4, ground := Go.Ground.phase }, { on := 5, ground := Go.Ground.phase }, { on := 6, ground := Go.Ground.phase }, { on := 7, ground := Go.Ground.phase }, { on := 8, ground := Go.Ground.phase }, { on := 9, ground := Go.Ground.phase }, { on := 10, ground := Go.Ground.phase }, { on := 11, ground := Go.Ground.phase }], guard := none }) (v := .pointer (some ⟨wt.heap.size, 0, none⟩)) rfl (by kernel_rfl) (by kernel_rfl) (by kernel_rfl) (fun _ _ _ h => h) (Or.inl ⟨by rfl, ?_⟩) (by assumption) ?_
      · (intro w hSw; (try dsimp only [HeldE] at hSw); go_simp)
      try simp only [Act.put, List.setIfInBounds_toArray, List.set_cons_zero, List.set_cons_succ]
      refine wpAnyH_done (by kernel_rfl) ?_ _
      clear hHeld
      go_wp2
      go_ret
      exact ⟨_, _, _, _, rfl, HP.out, HTB.out, HW.out, HE.out.below⟩
    · go_simp
      have b7 := (Below.refl _ wc).alloc (Nat.le_refl _) (.cells (madeCells #[.int .i64 0] N) 3)
      have HTO : Hid (wc.heap.size < wd.heap.size ∨ wc.heap.size ≤ wc.heap.size) := Lib.hid (.inr HHI.out)
      have HT := Lib.hid (made_ints wc w.heap.size N HE.out.big (by omega))
      have HTL : Hid (wc.heap.size < (wc.alloc (.cells (madeCells #[.int .i64 0] N) 3)).heap.size) := Lib.hid (by simp)
      have HE := Lib.hid (HE.out.next b7)
      have HSR := Lib.hid (HSR.out.next HSB.out b7)
      have HSB := Lib.hid (Nat.lt_of_lt_of_le HSB.out b7.size)
      have HHI := Lib.hid (Nat.le_trans HHI.out b7.size)
      clear b7 hHeld
      refine hK.out _ _ HE.out.held (fun hHeld => ?_)
      clear hK
      generalize wc.alloc (.cells (madeCells #[.int .i64 0] N) 3) = wt at *
      try simp only [Act.put, List.setIfInBounds_toArray, List.set_cons_zero, List.set_cons_succ]
      refine wpAnyH_ready (rs := [6]) (by kernel_rfl) (by simp) (AllReadyH.cons (o := { dst := some 12, op := Go.Op.makeSlice 33 (Go.Operand.tmp 11) (Go.Operand.tmp 11), type := 33, pos := "maxflow.go:53", after := #[{ on := 5, ground := Go.Ground.data }, { on := 5, ground := Go.Ground.data }], guard := none }) rfl (fun K hK => ?_) AllReadyH.nil)
      go_simp
      have b7 := (Below.refl _ wt).alloc (Nat.le_refl _) (.cells (madeCells #[.int .i64 0] Z.length) 3)
      have HNE : Hid (wt.heap.size ≠ wc.heap.size) := Lib.hid (by have := HTL.out; omega)
      have HF := Lib.hid (made_ints wt w.heap.size Z.length HE.out.big (by omega))
      have HFL : Hid (wt.heap.size < (wt.alloc (.cells (madeCells #[.int .i64 0] Z.length) 3)).heap.size) := Lib.hid (by simp)
      have HE := Lib.hid (HE.out.next b7)
      have HSR := Lib.hid (HSR.out.next HSB.out b7)
      have HSB := Lib.hid (Nat.lt_of_lt_of_le HSB.out b7.size)
      have HHI := Lib.hid (Nat.le_trans HHI.out b7.size)
      have HT := Lib.hid (HT.out.below b7)
      have HTL := Lib.hid (Nat.lt_of_lt_of_le HTL.out b7.size)
      clear b7 hHeld
      refine hK.out _ _ HE.out.held (fun hHeld => ?_)
      clear hK
      generalize wt.alloc (.cells (madeCells #[.int .i64 0] Z.length) 3) = wf at *
      try simp only [Act.put, List.setIfInBounds_toArray, List.set_cons_zero, List.set_cons_succ]
      refine wpAnyH_take (i := 10) (oi := { dst := some 16, op := Go.Op.build 53 #[(0, Go.Operand.tmp 6), (1, Go.Operand.tmp 8), (2, Go.Operand.tmp 12), (4, Go.Operand.tmp 15)], type := 53, pos := "maxflow.go:53", after := #[{ on := 0, ground := Go.Ground.data }, { on := 2, ground := Go.Ground.data }, { on := 6, ground := Go.Ground.data }, { on := 9, ground := Go.Ground.data }], guard := none }) (v := .agg #[.int .i64 (N : Int), .bool b, .slice ao Z.length cap, .slice (some ⟨sg, 0, none⟩) N N, .slice (some ⟨wt.heap.size, 0, none⟩) Z.length Z.length, .slice none 0 0, .slice (some ⟨wc.heap.size, 0, none⟩) N N]) rfl (by kernel_rfl) (by kernel_rfl) (by kernel_rfl) (fun _ _ _ h => h) (Or.inl ⟨by rfl, ?_⟩) (by assumption) ?_
      · (intro w hSw; (try dsimp only [HeldE] at hSw); go_simp)
      try simp only [Act.put, List.setIfInBounds_toArray, List.set_cons_zero, List.set_cons_succ]
      refine wpAnyH_ready (rs := [11]) (by kernel_rfl) (by simp) (AllReadyH.cons (o := { dst := some 17, op := Go.Op.box 53 (Go.Operand.tmp 16), type := 45, pos := "maxflow.go:53", after := #[{ on := 10, ground := Go.Ground.data }], guard := none }) rfl (fun K hK => ?_) AllReadyH.nil)
      go_simp
      have HW := Lib.hid (filw_make (w := w) (wz := wf) (b := b) (cap := cap) HE.out.arcs HLT.out HSR.out HSG.out ⟨HLO.out, HHI.out⟩ HF.out HT.out HNE.out HTO.out)
      have b7 := (Below.refl _ wf).alloc (Nat.le_refl _) (.cells #[.int .i64 (N : Int), .bool b, .slice ao Z.length cap, .slice (some ⟨sg, 0, none⟩) N N, .slice (some ⟨wt.heap.size, 0, none⟩) Z.length Z.length, .slice none 0 0, .slice (some ⟨wc.heap.size, 0, none⟩) N N] 53)
      have HP := Lib.hid HE.out.big
      have HE := Lib.hid (HE.out.next b7)
      have HTB : Hid (w.heap.size ≤ wc.heap.size) := Lib.hid (own_lt2 HT.out rfl).1
      clear b7 hHeld
      refine hK.out _ _ HE.out.held (fun hHeld => ?_)
      clear hK
      try simp only [Act.put, List.setIfInBounds_toArray, List.set_cons_zero, List.set_cons_succ]
      refine wpAnyH_take (i := 12) (oi := { dst := some 2, op := Go.Op.assign (Go.Operand.tmp 17), type := 45, pos := "maxflow.go:53", after := #[{ on := 11, ground := Go.Ground.data }, { on := 2, ground := Go.Ground.chain }, { on := 0, ground := Go.Ground.phase }, { on := 1, ground := Go.Ground.phase }, { on := 2, ground := Go.Ground.phase }, { on := 3, ground := Go.Ground.phase }, { on := 4, ground := Go.Ground.phase }, { on := 5, ground := Go.Ground.phase }, { on := 6, ground := Go.Ground.phase }, { on := 7, ground := Go.Ground.phase }, { on := 8, ground := Go.Ground.phase }, { on := 9, ground := Go.Ground.phase }, { on := 10, ground := Go.Ground.phase }, { on := 11, ground := Go.Ground.phase }], guard := none }) (v := .pointer (some ⟨wf.heap.size, 0, none⟩)) rfl (by kernel_rfl) (by kernel_rfl) (by kernel_rfl) (fun _ _ _ h => h) (Or.inl ⟨by rfl, ?_⟩) (by assumption) ?_
      · (intro w hSw; (try dsimp only [HeldE] at hSw); go_simp)
      try simp only [Act.put, List.setIfInBounds_toArray, List.set_cons_zero, List.set_cons_succ]
      refine wpAnyH_done (by kernel_rfl) ?_ _
      clear hHeld
      go_wp2
      go_ret
      exact ⟨_, _, _, _, rfl, HP.out, HTB.out, HW.out, HE.out.below⟩
  · go_simp
    have b7 := (Below.refl _ wd).alloc (Nat.le_refl _) (.cells (madeCells #[.int .i64 0] Z.length) 3)
    have HF := Lib.hid (made_ints wd w.heap.size Z.length HE.out.big (by omega))
    have HFL : Hid (wd.heap.size < (wd.alloc (.cells (madeCells #[.int .i64 0] Z.length) 3)).heap.size) := Lib.hid (by simp)
    have HE := Lib.hid (HE.out.next b7)
    clear b7 hHeld
    refine hK.out _ _ HE.out.held (fun hHeld => ?_)
    clear hK
    generalize wd.alloc (.cells (madeCells #[.int .i64 0] Z.length) 3) = wf at *
    try simp only [Act.put, List.setIfInBounds_toArray, List.set_cons_zero, List.set_cons_succ]
    refine wpAnyH_ready (rs := [2, 9]) (by kernel_rfl) (by simp) (AllReadyH.cons (o := { dst := some 8, op := Go.Op.call { callee := Go.Callee.value (Go.Operand.func 33), args := #[Go.Operand.tmp 7], argTypes := #[50] }, type := 51, pos := "maxflow.go:55", after := #[{ on := 1, ground := Go.Ground.data }], guard := none }) rfl (fun K hK => ?_) (AllReadyH.cons (o := { dst := some 15, op := Go.Op.makeSlice 33 (Go.Operand.tmp 14) (Go.Operand.tmp 14), type := 33, pos := "maxflow.go:53", after := #[{ on := 8, ground := Go.Ground.data }, { on := 8, ground := Go.Ground.data }], guard := none }) rfl (fun K hK => ?_) AllReadyH.nil))
    · go_simp
      refine (xfrom_at b ao cap Z N _ HE.out.arcs HC.out).mono ?_
      rintro e wc ⟨sg, vs, own, rfl, hix, b7⟩
      have HLO : Hid (w.heap.size ≤ wf.heap.size) := Lib.hid HE.out.big
      have HE := Lib.hid (HE.out.next b7)
      have HF := Lib.hid (HF.out.below b7)
      have HFL := Lib.hid (Nat.lt_of_lt_of_le HFL.out b7.size)
      have HSR := Lib.hid hix.srb
      have HSG : Hid (wf.heap.size ≤ sg ∧ sg < wc.heap.size) := Lib.hid hix.lt
      have HSB : Hid (sg < wc.heap.size) := Lib.hid hix.lt.2
      have HHI : Hid (wc.heap.size ≤ wc.heap.size) := Lib.hid (Nat.le_refl _)
      clear b7 hix hHeld
      go_wp2_with fail
      refine hK.out _ _ HE.out.held (fun hHeld => ?_)
      clear hK
      try simp only [Act.put, List.setIfInBounds_toArray, List.set_cons_zero, List.set_cons_succ]
      refine wpAnyH_ready (rs := [9]) (by kernel_rfl) (by simp) (AllReadyH.cons (o := { dst := some 15, op := Go.Op.makeSlice 33 (Go.Operand.tmp 14) (Go.Operand.tmp 14), type := 33, pos := "maxflow.go:53", after := #[{ on := 8, ground := Go.Ground.data }, { on := 8, ground := Go.Ground.data }], guard := none }) rfl (fun K hK => ?_) AllReadyH.nil)
      go_simp
      have b7 := (Below.refl _ wc).alloc (Nat.le_refl _) (.cells (madeCells #[.int .i64 0] N) 3)
      have HNE : Hid (wd.heap.size ≠ wc.heap.size) := Lib.hid (by have := HFL.out; omega)
      have HTO : Hid (wc.heap.size < wf.heap.size ∨ wc.heap.size ≤ wc.heap.size) := Lib.hid (.inr HHI.out)
      have HT := Lib.hid (made_ints wc w.heap.size N HE.out.big (by omega))
      have HTL : Hid (wc.heap.size < (wc.alloc (.cells (madeCells #[.int .i64 0] N) 3)).heap.size) := Lib.hid (by simp)
      have HE := Lib.hid (HE.out.next b7)
      have HSR := Lib.hid (HSR.out.next HSB.out b7)
      have HSB := Lib.hid (Nat.lt_of_lt_of_le HSB.out b7.size)
      have HHI := Lib.hid (Nat.le_trans HHI.out b7.size)
      have HF := Lib.hid (HF.out.below b7)
      have HFL := Lib.hid (Nat.lt_of_lt_of_le HFL.out b7.size)
      clear b7 hHeld
      refine hK.out _ _ HE.out.held (fun hHeld => ?_)
      clear hK
      generalize wc.alloc (.cells (madeCells #[.int .i64 0] N) 3) = wt at *
      try simp only [Act.put, List.setIfInBounds_toArray, List.set_cons_zero, List.set_cons_succ]
      refine wpAnyH_take (i := 10) (oi := { dst := some 16, op := Go.Op.build 53 #[(0, Go.Operand.tmp 6), (1, Go.Operand.tmp 8), (2, Go.Operand.tmp 12), (4, Go.Operand.tmp 15)], type := 53, pos := "maxflow.go:53", after := #[{ on := 0, ground := Go.Ground.data }, { on := 2, ground := Go.Ground.data }, { on := 6, ground := Go.Ground.data }, { on := 9, ground := Go.Ground.data }], guard := none }) (v := .agg #[.int .i64 (N : Int), .bool b, .slice ao Z.length cap, .slice (some ⟨sg, 0, none⟩) N N, .slice (some ⟨wd.heap.size, 0, none⟩) Z.length Z.length, .slice none 0 0, .slice (some ⟨wc.heap.size, 0, none⟩) N N]) rfl (by kernel_rfl) (by kernel_rfl) (by kernel_rfl) (fun _ _ _ h => h) (Or.inl ⟨by rfl, ?_⟩) (by assumption) ?_
      · (intro w hSw; (try dsimp only [HeldE] at hSw); go_simp)
      try simp only [Act.put, List.setIfInBounds_toArray, List.set_cons_zero, List.set_cons_succ]
      refine wpAnyH_ready (rs := [11]) (by kernel_rfl) (by simp) (AllReadyH.cons (o := { dst := some 17, op := Go.Op.box 53 (Go.Operand.tmp 16), type := 45, pos := "maxflow.go:53", after := #[{ on := 10, ground := Go.Ground.data }], guard := none }) rfl (fun K hK => ?_) AllReadyH.nil)
      go_simp
      have HW := Lib.hid (filw_make (w := w) (wz := wt) (b := b) (cap := cap) HE.out.arcs HLT.out HSR.out HSG.out ⟨HLO.out, HHI.out⟩ HF.out HT.out HNE.out HTO.out)
      have b7 := (Below.refl _ wt).alloc (Nat.le_refl _) (.cells #[.int .i64 (N : Int), .bool b, .slice ao Z.length cap, .slice (some ⟨sg, 0, none⟩) N N, .slice (some ⟨wd.heap.size, 0, none⟩) Z.length Z.length, .slice none 0 0, .slice (some ⟨wc.heap.size, 0, none⟩) N N] 53)
      have HP := Lib.hid HE.out.big
      have HE := Lib.hid (HE.out.next b7)
      have HTB : Hid (w.heap.size ≤ wc.heap.size) := Lib.hid (own_lt2 HT.out rfl).1
      clear b7 hHeld
      refine hK.out _ _ HE.out.held (fun hHeld => ?_)
      clear hK
      try simp only [Act.put, List.setIfInBounds_toArray, List.set_cons_zero, List.set_cons_succ]
      refine wpAnyH_take (i := 12) (oi := { dst := some 2, op := Go.Op.assign (Go.Operand.tmp 17), type := 45, pos := "maxflow.go:53", after := #[{ on := 11, ground := Go.Ground.data }, { on := 2, ground := Go.Ground.chain }, { on := 0, ground := Go.Ground.phase }, { on := 1, ground := Go.Ground.phase }, { on := 2, ground := Go.Ground.phase }, { on := 3, ground := Go.Ground.phase }, { on := 4, ground := Go.Ground.phase }, { on := 5, ground := Go.Ground.phase }, { on := 6, ground := Go.Ground.phase }, { on := 7, ground := Go.Ground.phase }, { on := 8, ground := Go.Ground.phase }, { on := 9, ground := Go.Ground.phase }, { on := 10, ground := Go.Ground.phase }, { on := 11, ground := Go.Ground.phase }], guard := none }) (v := .pointer (some ⟨wt.heap.size, 0, none⟩)) rfl (by kernel_rfl) (by kernel_rfl) (by kernel_rfl) (fun _ _ _ h => h) (Or.inl ⟨by rfl, ?_⟩) (by assumption) ?_
      · (intro w hSw; (try dsimp only [HeldE] at hSw); go_simp)
      try simp only [Act.put, List.setIfInBounds_toArray, List.set_cons_zero, List.set_cons_succ]
      refine wpAnyH_done (by kernel_rfl) ?_ _
      clear hHeld
      go_wp2
      go_ret
      exact ⟨_, _, _, _, rfl, HP.out, HTB.out, HW.out, HE.out.below⟩
    · go_simp
      have b7 := (Below.refl _ wf).alloc (Nat.le_refl _) (.cells (madeCells #[.int .i64 0] N) 3)
      have HNE : Hid (wd.heap.size ≠ wf.heap.size) := Lib.hid (by have := HFL.out; omega)
      have HT := Lib.hid (made_ints wf w.heap.size N HE.out.big (by omega))
      have HTL : Hid (wf.heap.size < (wf.alloc (.cells (madeCells #[.int .i64 0] N) 3)).heap.size) := Lib.hid (by simp)
      have HE := Lib.hid (HE.out.next b7)
      have HF := Lib.hid (HF.out.below b7)
      have HFL := Lib.hid (Nat.lt_of_lt_of_le HFL.out b7.size)
      clear b7 hHeld
      refine hK.out _ _ HE.out.held (fun hHeld => ?_)
      clear hK
      generalize wf.alloc (.cells (madeCells #[.int .i64 0] N) 3) = wt at *
      try simp only [Act.put, List.setIfInBounds_toArray, List.set_cons_zero, List.set_cons_succ]
      refine wpAnyH_ready (rs := [2]) (by kernel_rfl) (by simp) (AllReadyH.cons (o := { dst := some 8, op := Go.Op.call { callee := Go.Callee.value (Go.Operand.func 33), args := #[Go.Operand.tmp 7], argTypes := #[50] }, type := 51, pos := "maxflow.go:55", after := #[{ on := 1, ground := Go.Ground.data }], guard := none }) rfl (fun K hK => ?_) AllReadyH.nil)
      go_simp
      refine (xfrom_at b ao cap Z N _ HE.out.arcs HC.out).mono ?_
      rintro e wc ⟨sg, vs, own, rfl, hix, b7⟩
      have HTO : Hid (wf.heap.size < wt.heap.size ∨ wc.heap.size ≤ wf.heap.size) := Lib.hid (.inl HTL.out)
      have HLO : Hid (w.heap.size ≤ wt.heap.size) := Lib.hid HE.out.big
      have HE := Lib.hid (HE.out.next b7)
      have HF := Lib.hid (HF.out.below b7)
      have HFL := Lib.hid (Nat.lt_of_lt_of_le HFL.out b7.size)
      have HT := Lib.hid (HT.out.below b7)
      have HTL := Lib.hid (Nat.lt_of_lt_of_le HTL.out b7.size)
      have HSR := Lib.hid hix.srb
      have HSG : Hid (wt.heap.size ≤ sg ∧ sg < wc.heap.size) := Lib.hid hix.lt
      have HSB : Hid (sg < wc.heap.size) := Lib.hid hix.lt.2
      have HHI : Hid (wc.heap.size ≤ wc.heap.size) := Lib.hid (Nat.le_refl _)
      clear b7 hix hHeld
      go_wp2_with fail
      refine hK.out _ _ HE.out.held (fun hHeld => ?_)
      clear hK
      try simp only [Act.put, List.setIfInBounds_toArray, List.set_cons_zero, List.set_cons_succ]
      refine wpAnyH_take (i := 10) (oi := { dst := some 16, op := Go.Op.build 53 #[(0, Go.Operand.tmp 6), (1, Go.Operand.tmp 8), (2, Go.Operand.tmp 12), (4, Go.Operand.tmp 15)], type := 53, pos := "maxflow.go:53", after := #[{ on := 0, ground := Go.Ground.data }, { on := 2, ground := Go.Ground.data }, { on := 6, ground := Go.Ground.data }, { on := 9, ground := Go.Ground.data }], guard := none }) (v := .agg #[.int .i64 (N : Int), .bool b, .slice ao Z.length cap, .slice (some ⟨sg, 0, none⟩) N N, .slice (some ⟨wd.heap.size, 0, none⟩) Z.length Z.length, .slice none 0 0, .slice (some ⟨wf.heap.size, 0, none⟩) N N]) rfl (by kernel_rfl) (by kernel_rfl) (by kernel_rfl) (fun _ _ _ h => h) (Or.inl ⟨by rfl, ?_⟩) (by assumption) ?_
      · (intro w hSw; (try dsimp only [HeldE] at hSw); go_simp)
      try simp only [Act.put, List.setIfInBounds_toArray, List.set_cons_zero, List.set_cons_succ]
      refine wpAnyH_ready (rs := [11]) (by kernel_rfl) (by simp) (AllReadyH.cons (o := { dst := some 17, op := Go.Op.box 53 (Go.Operand.tmp 16), type := 45, pos := "maxflow.go:53", after := #[{ on := 10, ground := Go.Ground.data }], guard := none }) rfl (fun K hK => ?_) AllReadyH.nil)
      go_simp
      have HW := Lib.hid (filw_make (w := w) (wz := wc) (b := b) (cap := cap) HE.out.arcs HLT.out HSR.out HSG.out ⟨HLO.out, HHI.out⟩ HF.out HT.out HNE.out HTO.out)
      have b7 := (Below.refl _ wc).alloc (Nat.le_refl _) (.cells #[.int .i64 (N : Int), .bool b, .slice ao Z.length cap, .slice (some ⟨sg, 0, none⟩) N N, .slice (some ⟨wd.heap.size, 0, none⟩) Z.length Z.length, .slice none 0 0, .slice (some ⟨wf.heap.size, 0, none⟩) N N] 53)
      have HP := Lib.hid HE.out.big
      have HE := Lib.hid (HE.out.next b7)
      have HTB : Hid (w.heap.size ≤ wf.heap.size) := Lib.hid (own_lt2 HT.out rfl).1
      clear b7 hHeld
      refine hK.out _ _ HE.out.held (fun hHeld => ?_)
      clear hK
      try simp only [Act.put, List.setIfInBounds_toArray, List.set_cons_zero, List.set_cons_succ]
      refine wpAnyH_take (i := 12) (oi := { dst := some 2, op := Go.Op.assign (Go.Operand.tmp 17), type := 45, pos := "maxflow.go:53", after := #[{ on := 11, ground := Go.Ground.data }, { on := 2, ground := Go.Ground.chain }, { on := 0, ground := Go.Ground.phase }, { on := 1, ground := Go.Ground.phase }, { on := 2, ground := Go.Ground.phase }, { on := 3, ground := Go.Ground.phase }, { on := 4, ground := Go.Ground.phase }, { on := 5, ground := Go.Ground.phase }, { on := 6, ground := Go.Ground.phase }, { on := 7, ground := Go.Ground.phase }, { on := 8, ground := Go.Ground.phase }, { on := 9, ground := Go.Ground.phase }, { on := 10, ground := Go.Ground.phase }, { on := 11, ground := Go.Ground.phase }], guard := none }) (v := .pointer (some ⟨wc.heap.size, 0, none⟩)) rfl (by kernel_rfl) (by kernel_rfl) (by kernel_rfl) (fun _ _ _ h => h) (Or.inl ⟨by rfl, ?_⟩) (by assumption) ?_
      · (intro w hSw; (try dsimp only [HeldE] at hSw); go_simp)
      try simp only [Act.put, List.setIfInBounds_toArray, List.set_cons_zero, List.set_cons_succ]
      refine wpAnyH_done (by kernel_rfl) ?_ _
      clear hHeld
      go_wp2
      go_ret
      exact ⟨_, _, _, _, rfl, HP.out, HTB.out, HW.out, HE.out.below⟩
  · go_simp
    have b7 := (Below.refl _ wd).alloc (Nat.le_refl _) (.cells (madeCells #[.int .i64 0] N) 3)
    have HT := Lib.hid (made_ints wd w.heap.size N HE.out.big (by omega))
    have HTL : Hid (wd.heap.size < (wd.alloc (.cells (madeCells #[.int .i64 0] N) 3)).heap.size) := Lib.hid (by simp)
    have HE := Lib.hid (HE.out.next b7)
    clear b7 hHeld
    refine hK.out _ _ HE.out.held (fun hHeld => ?_)
    clear hK
    generalize wd.alloc (.cells (madeCells #[.int .i64 0] N) 3) = wt at *
    try simp only [Act.put, List.setIfInBounds_toArray, List.set_cons_zero, List.set_cons_succ]
    refine wpAnyH_ready (rs := [2, 6]) (by kernel_rfl) (by simp) (AllReadyH.cons (o := { dst := some 8, op := Go.Op.call { callee := Go.Callee.value (Go.Operand.func 33), args := #[Go.Operand.tmp 7], argTypes := #[50] }, type := 51, pos := "maxflow.go:55", after := #[{ on := 1, ground := Go.Ground.data }], guard := none }) rfl (fun K hK => ?_) (AllReadyH.cons (o := { dst := some 12, op := Go.Op.makeSlice 33 (Go.Operand.tmp 11) (Go.Operand.tmp 11), type := 33, pos := "maxflow.go:53", after := #[{ on := 5, ground := Go.Ground.data }, { on := 5, ground := Go.Ground.data }], guard := none }) rfl (fun K hK => ?_) AllReadyH.nil))
    · go_simp
      refine (xfrom_at b ao cap Z N _ HE.out.arcs HC.out).mono ?_
      rintro e wc ⟨sg, vs, own, rfl, hix, b7⟩
      have HTO : Hid (wd.heap.size < wt.heap.size ∨ wc.heap.size ≤ wd.heap.size) := Lib.hid (.inl HTL.out)
      have HLO : Hid (w.heap.size ≤ wt.heap.size) := Lib.hid HE.out.big
      have HE := Lib.hid (HE.out.next b7)
      have HT := Lib.hid (HT.out.below b7)
      have HTL := Lib.hid (Nat.lt_of_lt_of_le HTL.out b7.size)
      have HSR := Lib.hid hix.srb
      have HSG : Hid (wt.heap.size ≤ sg ∧ sg < wc.heap.size) := Lib.hid hix.lt
      have HSB : Hid (sg < wc.heap.size) := Lib.hid hix.lt.2
      have HHI : Hid (wc.heap.size ≤ wc.heap.size) := Lib.hid (Nat.le_refl _)
      clear b7 hix hHeld
      go_wp2_with fail
      refine hK.out _ _ HE.out.held (fun hHeld => ?_)
      clear hK
      try simp only [Act.put, List.setIfInBounds_toArray, List.set_cons_zero, List.set_cons_succ]
      refine wpAnyH_ready (rs := [6]) (by kernel_rfl) (by simp) (AllReadyH.cons (o := { dst := some 12, op := Go.Op.makeSlice 33 (Go.Operand.tmp 11) (Go.Operand.tmp 11), type := 33, pos := "maxflow.go:53", after := #[{ on := 5, ground := Go.Ground.data }, { on := 5, ground := Go.Ground.data }], guard := none }) rfl (fun K hK => ?_) AllReadyH.nil)
      go_simp
      have b7 := (Below.refl _ wc).alloc (Nat.le_refl _) (.cells (madeCells #[.int .i64 0] Z.length) 3)
      have HNE : Hid (wc.heap.size ≠ wd.heap.size) := Lib.hid (by have := HTL.out; omega)
      have HF := Lib.hid (made_ints wc w.heap.size Z.length HE.out.big (by omega))
      have HFL : Hid (wc.heap.size < (wc.alloc (.cells (madeCells #[.int .i64 0] Z.length) 3)).heap.size) := Lib.hid (by simp)
      have HE := Lib.hid (HE.out.next b7)
      have HSR := Lib.hid (HSR.out.next HSB.out b7)
      have HSB := Lib.hid (Nat.lt_of_lt_of_le HSB.out b7.size)
      have HHI := Lib.hid (Nat.le_trans HHI.out b7.size)
      have HT := Lib.hid (HT.out.below b7)
      have HTL := Lib.hid (Nat.lt_of_lt_of_le HTL.out b7.size)
      clear b7 hHeld
      refine hK.out _ _ HE.out.held (fun hHeld => ?_)
      clear hK
      generalize wc.alloc (.cells (madeCells #[.int .i64 0] Z.length) 3) = wf at *
      try simp only [Act.put, List.setIfInBounds_toArray, List.set_cons_zero, List.set_cons_succ]
      refine wpAnyH_take (i := 10) (oi := { dst := some 16, op := Go.Op.build 53 #[(0, Go.Operand.tmp 6), (1, Go.Operand.tmp 8), (2, Go.Operand.tmp 12), (4, Go.Operand.tmp 15)], type := 53, pos := "maxflow.go:53", after := #[{ on := 0, ground := Go.Ground.data }, { on := 2, ground := Go.Ground.data }, { on := 6, ground := Go.Ground.data }, { on := 9, ground := Go.Ground.data }], guard := none }) (v := .agg #[.int .i64 (N : Int), .bool b, .slice ao Z.length cap, .slice (some ⟨sg, 0, none⟩) N N, .slice (some ⟨wc.heap.size, 0, none⟩) Z.length Z.length, .slice none 0 0, .slice (some ⟨wd.heap.size, 0, none⟩) N N]) rfl (by kernel_rfl) (by kernel_rfl) (by kernel_rfl) (fun _ _ _ h => h) (Or.inl ⟨by rfl, ?_⟩) (by assumption) ?_
      · (intro w hSw; (try dsimp only [HeldE] at hSw); go_simp)
      try simp only [Act.put, List.setIfInBounds_toArray, List.set_cons_zero, List.set_cons_succ]
      refine wpAnyH_ready (rs := [11]) (by kernel_rfl) (by simp) (AllReadyH.cons (o := { dst := some 17, op := Go.Op.box 53 (Go.Operand.tmp 16), type := 45, pos := "maxflow.go:53", after := #[{ on := 10, ground := Go.Ground.data }], guard := none }) rfl (fun K hK => ?_) AllReadyH.nil)
      go_simp
      have HW := Lib.hid (filw_make (w := w) (wz := wf) (b := b) (cap := cap) HE.out.arcs HLT.out HSR.out HSG.out ⟨HLO.out, HHI.out⟩ HF.out HT.out HNE.out HTO.out)
      have b7 := (Below.refl _ wf).alloc (Nat.le_refl _) (.cells #[.int .i64 (N : Int), .bool b, .slice ao Z.length cap, .slice (some ⟨sg, 0, none⟩) N N, .slice (some ⟨wc.heap.size, 0, none⟩) Z.length Z.length, .slice none 0 0, .slice (some ⟨wd.heap.size, 0, none⟩) N N] 53)
      have HP := Lib.hid HE.out.big
      have HE := Lib.hid (HE.out.next b7)
      have HTB : Hid (w.heap.size ≤ wd.heap.size) := Lib.hid (own_lt2 HT.out rfl).1
      clear b7 hHeld
      refine hK.out _ _ HE.out.held (fun hHeld => ?_)
      clear hK
      try simp only [Act.put, List.setIfInBounds_toArray, List.set_cons_zero, List.set_cons_succ]
      refine wpAnyH_take (i := 12) (oi := { dst := some 2, op := Go.Op.assign (Go.Operand.tmp 17), type := 45, pos := "maxflow.go:53", after := #[{ on := 11, ground := Go.Ground.data }, { on := 2, ground := Go.Ground.chain }, { on := 0, ground := Go.Ground.phase }, { on := 1, ground := Go.Ground.phase }, { on := 2, ground := Go.Ground.phase }, { on := 3, ground := Go.Ground.phase }, { on := 4, ground := Go.Ground.phase }, { on := 5, ground := Go.Ground.phase }, { on := 6, ground := Go.Ground.phase }, { on := 7, ground := Go.Ground.phase }, { on := 8, ground := Go.Ground.phase }, { on := 9, ground := Go.Ground.phase }, { on := 10, ground := Go.Ground.phase }, { on := 11, ground := Go.Ground.phase }], guard := none }) (v := .pointer (some ⟨wf.heap.size, 0, none⟩)) rfl (by kernel_rfl) (by kernel_rfl) (by kernel_rfl) (fun _ _ _ h => h) (Or.inl ⟨by rfl, ?_⟩) (by assumption) ?_
      · (intro w hSw; (try dsimp only [HeldE] at hSw); go_simp)
      try simp only [Act.put, List.setIfInBounds_toArray, List.set_cons_zero, List.set_cons_succ]
      refine wpAnyH_done (by kernel_rfl) ?_ _
      clear hHeld
      go_wp2
      go_ret
      exact ⟨_, _, _, _, rfl, HP.out, HTB.out, HW.out, HE.out.below⟩
    · go_simp
      have b7 := (Below.refl _ wt).alloc (Nat.le_refl _) (.cells (madeCells #[.int .i64 0] Z.length) 3)
      have HNE : Hid (wt.heap.size ≠ wd.heap.size) := Lib.hid (by have := HTL.out; omega)
      have HF := Lib.hid (made_ints wt w.heap.size Z.length HE.out.big (by omega))
      have HFL : Hid (wt.heap.size < (wt.alloc (.cells (madeCells #[.int .i64 0] Z.length) 3)).heap.size) := Lib.hid (by simp)
      have HE := Lib.hid (HE.out.next b7)
      have HT := Lib.hid (HT.out.below b7)
      have HTL := Lib.hid (Nat.lt_of_lt_of_le HTL.out b7.size)
      clear b7 hHeld
      refine hK.out _ _ HE.out.held (fun hHeld => ?_)
      clear hK
      generalize wt.alloc (.cells (madeCells #[.int .i64 0] Z.length) 3) = wf at *
      try simp only [Act.put, List.setIfInBounds_toArray, List.set_cons_zero, List.set_cons_succ]
      refine wpAnyH_ready (rs := [2]) (by kernel_rfl) (by simp) (AllReadyH.cons (o := { dst := some 8, op := Go.Op.call { callee := Go.Callee.value (Go.Operand.func 33), args := #[Go.Operand.tmp 7], argTypes := #[50] }, type := 51, pos := "maxflow.go:55", after := #[{ on := 1, ground := Go.Ground.data }], guard := none }) rfl (fun K hK => ?_) AllReadyH.nil)
      go_simp
      refine (xfrom_at b ao cap Z N _ HE.out.arcs HC.out).mono ?_
      rintro e wc ⟨sg, vs, own, rfl, hix, b7⟩
      have HTO : Hid (wd.heap.size < wf.heap.size ∨ wc.heap.size ≤ wd.heap.size) := Lib.hid (.inl HTL.out)
      have HLO : Hid (w.heap.size ≤ wf.heap.size) := Lib.hid HE.out.big
      have HE := Lib.hid (HE.out.next b7)
      have HF := Lib.hid (HF.out.below b7)
      have HFL := Lib.hid (Nat.lt_of_lt_of_le HFL.out b7.size)
      have HT := Lib.hid (HT.out.below b7)
      have HTL := Lib.hid (Nat.lt_of_lt_of_le HTL.out b7.size)
      have HSR := Lib.hid hix.srb
      have HSG : Hid (wf.heap.size ≤ sg ∧ sg < wc.heap.size) := Lib.hid hix.lt
      have HSB : Hid (sg < wc.heap.size) := Lib.hid hix.lt.2
      have HHI : Hid (wc.heap.size ≤ wc.heap.size) := Lib.hid (Nat.le_refl _)
      clear b7 hix hHeld
      go_wp2_with fail
      refine hK.out _ _ HE.out.held (fun hHeld => ?_)
      clear hK
      try simp only [Act.put, List.setIfInBounds_toArray, List.set_cons_zero, List.set_cons_succ]
      refine wpAnyH_take (i := 10) (oi := { dst := some 16, op := Go.Op.build 53 #[(0, Go.Operand.tmp 6), (1, Go.Operand.tmp 8), (2, Go.Operand.tmp 12), (4, Go.Operand.tmp 15)], type := 53, pos := "maxflow.go:53", after := #[{ on := 0, ground := Go.Ground.data }, { on := 2, ground := Go.Ground.data }, { on := 6, ground := Go.Ground.data }, { on := 9, ground := Go.Ground.data }], guard := none }) (v := .agg #[.int .i64 (N : Int), .bool b, .slice ao Z.length cap, .slice (some ⟨sg, 0, none⟩) N N, .slice (some ⟨wt.heap.size, 0, none⟩) Z.length Z.length, .slice none 0 0, .slice (some ⟨wd.heap.size, 0, none⟩) N N]) rfl (by kernel_rfl) (by kernel_rfl) (by kernel_rfl) (fun _ _ _ h => h) (Or.inl ⟨by rfl, ?_⟩) (by assumption) ?_
      · (intro w hSw; (try dsimp only [HeldE] at hSw); go_simp)
      try simp only [Act.put, List.setIfInBounds_toArray, List.set_cons_zero, List.set_cons_succ]
      refine wpAnyH_ready (rs := [11]) (by kernel_rfl) (by simp) (AllReadyH.cons (o := { dst := some 17, op := Go.Op.box 53 (Go.Operand.tmp 16), type := 45, pos := "maxflow.go:53", after := #[{ on := 10, ground := Go.Ground.data }], guard := none }) rfl (fun K hK => ?_) AllReadyH.nil)
      go_simp
      have HW := Lib.hid (filw_make (w := w) (wz := wc) (b := b) (cap := cap) HE.out.arcs HLT.out HSR.out HSG.out ⟨HLO.out, HHI.out⟩ HF.out HT.out HNE.out HTO.out)
      have b7 := (Below.refl _ wc).alloc (Nat.le_refl _) (.cells #[.int .i64 (N : Int), .bool b, .slice ao Z.length cap, .slice (some ⟨sg, 0, none⟩) N N, .slice (some ⟨wt.heap.size, 0, none⟩) Z.length Z.length, .slice none 0 0, .slice (some ⟨wd.heap.size, 0, none⟩) N N] 53)
      have HP := Lib.hid HE.out.big
      have HE := Lib.hid (HE.out.next b7)
      have HTB : Hid (w.heap.size ≤ wd.heap.size) := Lib.hid (own_lt2 HT.out rfl).1
      clear b7 hHeld
      refine hK.out _ _ HE.out.held (fun hHeld => ?_)
      clear hK
      try simp only [Act.put, List.setIfInBounds_toArray, List.set_cons_zero, List.set_cons_succ]
      refine wpAnyH_take (i := 12) (oi := { dst := some 2, op := Go.Op.assign (Go.Operand.tmp 17), type := 45, pos := "maxflow.go:53", after := #[{ on := 11, ground := Go.Ground.data }, { on := 2, ground := Go.Ground.chain }, { on := 0, ground := Go.Ground.phase }, { on := 1, ground := Go.Ground.phase }, { on := 2, ground := Go.Ground.phase }, { on := 3, ground := Go.Ground.phase }, { on := 4, ground := Go.Ground.phase }, { on := 5, ground := Go.Ground.phase }, { on := 6, ground := Go.Ground.phase }, { on := 7, ground := Go.Ground.phase }, { on := 8, ground := Go.Ground.phase }, { on := 9, ground := Go.Ground.phase }, { on := 10, ground := Go.Ground.phase }, { on := 11, ground := Go.Ground.phase }], guard := none }) (v := .pointer (some ⟨wc.heap.size, 0, none⟩)) rfl (by kernel_rfl) (by kernel_rfl) (by kernel_rfl) (fun _ _ _ h => h) (Or.inl ⟨by rfl, ?_⟩) (by assumption) ?_
      · (intro w hSw; (try dsimp only [HeldE] at hSw); go_simp)
      try simp only [Act.put, List.setIfInBounds_toArray, List.set_cons_zero, List.set_cons_succ]
      refine wpAnyH_done (by kernel_rfl) ?_ _
      clear hHeld
      go_wp2
      go_ret
      exact ⟨_, _, _, _, rfl, HP.out, HTB.out, HW.out, HE.out.below⟩
end
end Go.Proofs.YtbgnoaijgngifaaGreat
