/- Lemmas of the layers below, several texts in one. -/
import Derived.Test.YtlkbohpnlbfopaaBA
import Derived.Test.YtlkbohpnlbfopaaBB
import Derived.Deep.DeepCutAuto
import Derived.Deep.RegionHeld3
import Derived.Deep.RegionLaw
import Derived.Deep.AppendLies
import Derived.BigQuiet
import Derived.Test.YtlkbohpnlbfopaaCI
namespace Go.Proofs.Ytlkbohpnlbfopaa
open Go.RowKit
set_option linter.unusedVariables false
theorem keptR {w w' : World} {g : Nat} {o : Obj} (h : w.heap[g]? = some o) (hb : Below w.heap.size w w') : w'.heap[g]? = some o := (hb.block g (lt_whole h)).trans h
theorem wholeR {w : World} {g : Nat} {o : Obj} (h : w.heap[g]? = some o) (x : Obj) : (w.alloc x).heap[g]? = some o := keptR h ((Below.refl _ w).alloc (Nat.le_refl _) x)
theorem newR1 (w : World) (x : Obj) (cs : Array Value) (t : TypeId) : ((w.alloc x).alloc (.cells cs t)).heap[w.heap.size + 1]? = some (.cells cs t (0, 0)) := by
  have := heap_alloc_new (w.alloc x) (.cells cs t)
  simpa using this
abbrev BitT := Int × Int × Int × Int
def encBit (x : BitT) : List Value := [.int .u8 x.1, .int .u8 x.2.1, .int .u8 x.2.2.1, .int .u8 x.2.2.2]
def ByteB (x : Int) : Prop := 0 ≤ x ∧ x ≤ 255
def BitOk (x : BitT) : Prop := ByteB x.1 ∧ ByteB x.2.1 ∧ ByteB x.2.2.1 ∧ ByteB x.2.2.2
def readA (N : Nat) (x : BitT) : ArcT := (x.1 % (N : Int), x.2.1 % (N : Int), x.2.2.1 % 6, x.2.2.2 % 4)
def readZ (N A : Nat) (B : List BitT) : List ArcT := (B.take A).map (readA N)
theorem readZ_len (N A : Nat) (B : List BitT) : (readZ N A B).length = min A B.length := by simp [readZ]
theorem readZ_succ {N A : Nat} {B : List BitT} {k : Nat} {x : BitT} (hx : B[k]? = some x) (hA : k < A) : readZ N (k + 1) B = readZ N k B ++ [readA N x] := by
  obtain ⟨hk, rfl⟩ := List.getElem?_eq_some_iff.1 hx
  unfold readZ
  rw [List.take_succ_eq_append_getElem hk, List.map_append]
  rfl
def OwnAr (w : World) (base : Nat) (v : Value) (L : List ArcT) : Prop := w.ownsRow base 73 4 v L.length (L.flatMap encA)
theorem OwnAr.nil (w : World) (base : Nat) : OwnAr w base (.slice none 0 0) [] := World.ownsRow_nil _ _ _ _
theorem OwnAr.below {w w' : World} {base : Nat} {v : Value} {L : List ArcT} (h : OwnAr w base v L) (hb : Below w.heap.size w w') : OwnAr w' base v L := own_below h hb
theorem OwnAr.row {w : World} {base : Nat} {v : Value} {L : List ArcT} (h : OwnAr w base v L) : ∃ ao cap, v = .slice ao L.length cap ∧ Row encA 4 w ao L := own_row encA_len h
theorem infoArcR : (Try.prog.info? 73).map (fun i => (i.zero, i.size, i.bytes)) = some (some (.agg #[.int .i64 0, .int .i64 0, .int .i64 0, .int .i64 0]), 4, 32) := by kernel_rfl
theorem bit_at {w : World} {ba : Option Addr} {B : List BitT} (h : Row encBit 4 w ba B) {i : Nat} {x : BitT} (hx : B[i]? = some x) :
    ∃ b o, ba = some ⟨b, o, none⟩ ∧ b < w.heap.size ∧ w.cell? ⟨b, o + i * 4, none⟩ = some (.int .u8 x.1) ∧ w.cell? ⟨b, o + i * 4 + 1, none⟩ = some (.int .u8 x.2.1) ∧ w.cell? ⟨b, o + i * 4 + 2, none⟩ = some (.int .u8 x.2.2.1) ∧ w.cell? ⟨b, o + i * 4 + 3, none⟩ = some (.int .u8 x.2.2.2) := by
  obtain ⟨hi, rfl⟩ := List.getElem?_eq_some_iff.1 hx
  obtain ⟨b, o, e, hb, hc⟩ := h i hi
  exact ⟨b, o, e, hb, hc 0 (by decide), hc 1 (by decide), hc 2 (by decide), hc 3 (by decide)⟩
structure RN (w1 wr : World) (gv N : Nat) (hold : Bool) (v : Value) (Z : List ArcT) : Prop where
  box : wr.heap[gv]? = some (.cells #[.int .i64 (N : Int), .bool hold, v] 24 (0, 0))
  own : OwnAr wr w1.heap.size v Z
  kept : Kept (fun i => i = gv) w1 wr
  lt : gv < w1.heap.size
section
variable {w1 wr w2 : World} {gv N : Nat} {hold : Bool} {v : Value} {Z : List ArcT}
theorem RN.next (h : RN w1 wr gv N hold v Z) (hb : Below wr.heap.size wr w2) : RN w1 w2 gv N hold v Z :=
  ⟨keptR h.box hb, h.own.below hb, h.kept.trans (Kept.of_below (S := fun i => i = gv) hb) (fun i _ e => e), h.lt⟩
theorem RN.add {w4 : World} {g4 cap4 : Nat} {x : ArcT} (h : RN w1 wr gv N hold v Z) (ho : OwnAr w4 w1.heap.size (.slice (some ⟨g4, 0, none⟩) (Z.length + 1) cap4) (Z ++ [x])) (hg : wr.grownBy w4 v.ownBlock) :
    RN w1 (w4.setCell ⟨gv, 2, none⟩ (.slice (some ⟨g4, 0, none⟩) (Z.length + 1) cap4)) gv N hold (.slice (some ⟨g4, 0, none⟩) (Z.length + 1) cap4) (Z ++ [x]) := by
  have hlt := h.lt
  have hv : ∀ k, v.ownBlock = some k → w1.heap.size ≤ k := fun k e => own_block h.own e
  have k4 : Kept (fun i => w1.heap.size ≤ i) wr w4 := Kept.of_grown hg hv
  have b4 := k4.old h.box (by show ¬ w1.heap.size ≤ gv; omega)
  have hb4 : w1.heap.size ≤ g4 := own_block ho rfl
  refine ⟨?_, ?_, ?_, hlt⟩
  · exact set_whole b4 2 _
  · exact ownsRow_setCell_below ho hlt _
  · exact (h.kept.trans k4 (fun i hi e => by have e2 : w1.heap.size ≤ i := e; omega)).set (.inl rfl) _
end
theorem RN.below {w w1 wr : World} {gv N : Nat} {hold : Bool} {v : Value} {Z : List ArcT} (h : RN w1 wr gv N hold v Z) (hb : Below w.heap.size w w1) (hg : w.heap.size ≤ gv) : Below w.heap.size w wr := hb.trans (h.kept.below hb.size (fun i e => by have e2 : i = gv := e; omega))
theorem readZ_stop {N A k : Nat} {B : List BitT} (hk : k ≤ B.length) (hA : k ≤ A) (h : ¬ (k < B.length ∧ k < A)) : readZ N k B = readZ N A B := by
  unfold readZ
  congr 1
  by_cases h1 : k = A
  · rw [h1]
  · rw [List.take_of_length_le (by omega), List.take_of_length_le (by omega)]
def HeldN (gv gb N : Nat) (xf xt xc xu : Int) (W : World) : Prop := W.cell? ⟨gv, 0, none⟩ = some (.int .i64 (N : Int)) ∧ W.cell? ⟨gb, 0, none⟩ = some (.int .u8 xf) ∧ W.cell? ⟨gb, 1, none⟩ = some (.int .u8 xt) ∧ W.cell? ⟨gb, 2, none⟩ = some (.int .u8 xc) ∧ W.cell? ⟨gb, 3, none⟩ = some (.int .u8 xu)
theorem heldN {W : World} {gv gb N : Nat} {h v : Value} {xf xt xc xu : Int} {t1 t2 : TypeId} (hv : W.heap[gv]? = some (.cells #[.int .i64 (N : Int), h, v] t1 (0, 0))) (hb : W.heap[gb]? = some (.cells #[.int .u8 xf, .int .u8 xt, .int .u8 xc, .int .u8 xu] t2 (0, 0))) : HeldN gv gb N xf xt xc xu W :=
  ⟨cell_whole hv 0, cell_whole hb 0, cell_whole hb 1, cell_whole hb 2, cell_whole hb 3⟩
theorem RN.held {w1 wr : World} {gv gb N : Nat} {hold : Bool} {v : Value} {Z : List ArcT} {xf xt xc xu : Int} {t2 : TypeId} (h : RN w1 wr gv N hold v Z) (hb : wr.heap[gb]? = some (.cells #[.int .u8 xf, .int .u8 xt, .int .u8 xc, .int .u8 xu] t2 (0, 0))) : HeldN gv gb N xf xt xc xu wr := heldN h.box hb
def ReadRes (hold : Bool) (N s t H : Nat) (Z : List ArcT) (w : World) (e : Ending) (w' : World) : Prop :=
  ∃ a c, e = .returned (.tuple #[.agg #[.int .i64 (N : Int), .bool hold, .slice a Z.length c], .int .i64 (s : Int), .int .i64 (t : Int), .int .i64 (H : Int)]) ∧ Row encA 4 w' a Z ∧ Below w.heap.size w w'
theorem arcR_snoc {w : World} {B : Nat} {v : Value} {Z : List ArcT} {x : ArcT} (h : w.ownsRow B 73 4 v (Z.length + 1) (Z.flatMap encA ++ encA x)) : OwnAr w B v (Z ++ [x]) := by
  unfold OwnAr
  rw [List.length_append, List.length_singleton, List.flatMap_append, List.flatMap_singleton]
  exact h
def nodeN (nn : Int) : Nat := 2 + (nn % 4).toNat
def srcN (nn s : Int) : Nat := (s % (nodeN nn : Int)).toNat
def snkN (nn s t : Int) : Nat := (((srcN nn s : Int) + 1 + t % ((nodeN nn : Int) - 1)) % (nodeN nn : Int)).toNat
def horN (sp : Int) : Nat := (sp % 8).toNat
theorem tmod_emod {a b : Int} (h : 0 ≤ a) : a.tmod b = a % b := Int.tmod_eq_emod_of_nonneg h
set_option maxRecDepth 100000 in
set_option maxHeartbeats 8000000 in
theorem read12_any (A : Nat) (nn s t sp : Int) (hold : Bool) (ba : Option Addr) (bc : Nat) (B : List BitT) (w : World) (h : Row encBit 4 w ba B) (hB : ∀ x ∈ B, BitOk x) (hbl : B.length ≤ maxLen) (hA : A ≤ 100)
    (hn : ByteB nn) (hs : ByteB s) (ht : ByteB t) (hp : ByteB sp) :
    Calls Try.prog 12 #[.agg #[.int .u8 nn, .bool hold, .slice ba B.length bc, .int .u8 s, .int .u8 t, .int .u8 sp], .int .i64 (A : Int)] w (ReadRes hold (nodeN nn) (srcN nn s) (snkN nn s t) (horN sp) (readZ (nodeN nn) A B) w) := by
  have hb00' := (((Below.refl _ w).alloc (Nat.le_refl _) (.cells #[.int .u8 nn, .bool hold, .slice ba B.length bc, .int .u8 s, .int .u8 t, .int .u8 sp] 39)).alloc (by simp) (.cells #[.int .i64 0, .bool false, .slice none 0 0] 24))
  have HR0 := Lib.hid h
  have HBB := Lib.hid hB
  unfold maxLen at hbl
  obtain ⟨hn0, hn1⟩ := hn
  obtain ⟨hs0, hs1⟩ := hs
  obtain ⟨ht0, ht1⟩ := ht
  obtain ⟨hp0, hp1⟩ := hp
  obtain ⟨N, hN⟩ : ∃ N, nodeN nn = N := ⟨_, rfl⟩
  have HND := Lib.hid hN
  have hN1 : 2 ≤ N ∧ N ≤ 5 ∧ (N : Int) = 2 + nn % 4 := by
    rw [← hN]
    unfold nodeN
    omega
  obtain ⟨hN2, hN5, hNe⟩ := hN1
  have e4 : nn.tmod 4 = nn % 4 := tmod_emod hn0
  clear h hB hN
  rw [HND.out]
  have hb0 := hb00'.alloc (by simp; omega) (.cells #[.int .i64 (N : Int), .bool hold, .slice none 0 0] 24)
  have HB0 := Lib.hid hb0
  have hx0 := keptR (heap_alloc_new w (.cells #[.int .u8 nn, .bool hold, .slice ba B.length bc, .int .u8 s, .int .u8 t, .int .u8 sp] 39)) ((((Below.refl _ (w.alloc (.cells #[.int .u8 nn, .bool hold, .slice ba B.length bc, .int .u8 s, .int .u8 t, .int .u8 sp] 39))).alloc (Nat.le_refl _) (.cells #[.int .i64 0, .bool false, .slice none 0 0] 24))).alloc (by simp) (.cells #[.int .i64 (N : Int), .bool hold, .slice none 0 0] 24))
  have HX0 := Lib.hid hx0
  have hr0 := newR1 w (.cells #[.int .u8 nn, .bool hold, .slice ba B.length bc, .int .u8 s, .int .u8 t, .int .u8 sp] 39) #[.int .i64 0, .bool false, .slice none 0 0] 24
  have HRES := Lib.hid (wholeR hr0 (.cells #[.int .i64 (N : Int), .bool hold, .slice none 0 0] 24))
  have HNB := Lib.hid (heap_alloc_new ((w.alloc (.cells #[.int .u8 nn, .bool hold, .slice ba B.length bc, .int .u8 s, .int .u8 t, .int .u8 sp] 39)).alloc (.cells #[.int .i64 0, .bool false, .slice none 0 0] 24)) (.cells #[.int .i64 (N : Int), .bool hold, .slice none 0 0] 24))
  clear hb00' hb0 hx0 hr0
  go_enter Try.func12, Try.ntmps12
  go_upto_region 2 with (fail)
  rw [show 2 + nn % 4 = (N : Int) from hNe.symm]
  have HNE := Lib.hid hNe
  clear hNe
  obtain ⟨g0, hg0⟩ : ∃ g0, w.heap.size = g0 := ⟨_, rfl⟩
  rw [show ((w.alloc (.cells #[.int .u8 nn, .bool hold, .slice ba B.length bc, .int .u8 s, .int .u8 t, .int .u8 sp] 39)).alloc (.cells #[.int .i64 0, .bool false, .slice none 0 0] 24)).heap.size = w.heap.size + 1 + 1 by simp] at HNB
  generalize ((w.alloc (.cells #[.int .u8 nn, .bool hold, .slice ba B.length bc, .int .u8 s, .int .u8 t, .int .u8 sp] 39)).alloc (.cells #[.int .i64 0, .bool false, .slice none 0 0] 24)).alloc (.cells #[.int .i64 (N : Int), .bool hold, .slice none 0 0] 24) = w1 at *
  rw [hg0] at HX0 HRES HNB ⊢
  have hlt1 := lt_whole HNB.out
  have HRN : Hid (RN w1 w1 (g0 + 1 + 1) N hold (.slice none 0 0) []) := Lib.hid ⟨HNB.out, OwnAr.nil _ _, Kept.refl _ _, hlt1⟩
  have x2 := cell_whole HX0.out 2
  clear HNB
  go_wp2_with fail
  go_loopw [9] (fun iv wr => ∃ (k : Nat) (v : Value), k ≤ B.length ∧ k ≤ A ∧ iv = .int .i64 (k : Int) ∧ Hid (RN w1 wr (g0 + 1 + 1) N hold v (readZ N k B))) (fun iv _ => A - (intOf iv).toNat)
  case atStart => exact ⟨0, .slice none 0 0, Nat.zero_le _, Nat.zero_le _, rfl, HRN⟩
  case round =>
    clear HRN
    obtain ⟨k, v, hk, hkA, rfl, HRN⟩ := hrel
    have hx := HRN.out.kept.old HX0.out (show ¬ g0 = g0 + 1 + 1 by omega)
    have HX := Lib.hid hx
    have HBW := Lib.hid (HRN.out.below HB0.out (by omega))
    have b2 := cell_whole hx 2
    have hkA2 : (A : Int) ≤ 100 := by omega
    by_cases hc : k < B.length ∧ k < A
    · obtain ⟨hlt, hltA⟩ := hc
      have hli : (k : Int) < (B.length : Int) := by omega
      have hlA : (k : Int) < (A : Int) := by omega
      have hxk := List.getElem?_eq_getElem hlt
      obtain ⟨lb, lx, e, hlb, d0, d1, d2, d3⟩ := bit_at (HR0.out.below' HBW.out) hxk
      obtain ⟨⟨o0, p0⟩, ⟨o1, p1⟩, ⟨o2, p2⟩, ⟨o3, p3⟩⟩ := HBB.out _ (List.getElem_mem hlt)
      cases e
      have HS := Lib.hid (readZ_succ (N := N) hxk (Nat.lt_succ_self k) |>.trans (by rfl) : readZ N (k + 1) B = readZ N k B ++ [readA N B[k]])
      have hZl : (readZ N k B).length ≤ 100 := by rw [readZ_len]; omega
      obtain ⟨va, vc, hv, _⟩ := HRN.out.own.row
      subst hv
      generalize B[k] = x at *
      generalize readZ N k B = S at *
      obtain ⟨xf, xt, xc, xu⟩ := x
      simp only at d0 d1 d2 d3 o0 p0 o1 p1 o2 p2 o3 p3
      have HRX := Lib.hid (HRN.out.next ((Below.refl _ wr).alloc (Nat.le_refl _) (.cells #[.int .u8 xf, .int .u8 xt, .int .u8 xc, .int .u8 xu] 71)))
      have HGB := Lib.hid (heap_alloc_new wr (.cells #[.int .u8 xf, .int .u8 xt, .int .u8 xc, .int .u8 xu] 71))
      have HVK : Hid (∀ k, (Value.slice va S.length vc).ownBlock = some k → w1.heap.size ≤ k ∧ k < wr.heap.size) := Lib.hid (fun k e => ⟨own_block HRN.out.own e, own_lt HRN.out.own e⟩)
      go_wp2_with fail
      clear d0 d1 d2 d3 b2 hx
      obtain ⟨gb, hgb⟩ : ∃ gb, wr.heap.size = gb := ⟨_, rfl⟩
      rw [hgb] at HGB HVK ⊢
      have hgw : w1.heap.size ≤ gb := by rw [← hgb]; exact HRN.out.kept.size
      have hgv : g0 + 1 + 1 < w1.heap.size := HRN.out.lt
      generalize wr.alloc (.cells #[.int .u8 xf, .int .u8 xt, .int .u8 xc, .int .u8 xu] 71) = wx at *
      obtain ⟨i0, hi0, hz0, hz1, hz2⟩ := info_parts infoArcR
      have HI := Lib.hid (And.intro hi0 (And.intro hz0 (And.intro hz1 hz2)))
      have hN0 : ((N : Int) == 0) = false := by simp; omega
      have hN0' : ¬ (N : Int) = 0 := by omega
      have hNz : ¬ N = 0 := by omega
      clear hi0 hz0 hz1 hz2 hgb
      have wf : IntKind.i64.wrap xf = xf := IntWalk.i64_in _ (by omega)
      have wt : IntKind.i64.wrap xt = xt := IntWalk.i64_in _ (by omega)
      have wc : IntKind.i64.wrap xc = xc := IntWalk.i64_in _ (by omega)
      have wu : IntKind.i64.wrap xu = xu := IntWalk.i64_in _ (by omega)
      have tf : xf.tmod (N : Int) = xf % (N : Int) := tmod_emod o0
      have tt : xt.tmod (N : Int) = xt % (N : Int) := tmod_emod o1
      have tc : xc.tmod 6 = xc % 6 := tmod_emod o2
      have tu : xu.tmod 4 = xu % 4 := tmod_emod o3
      refine wp_region_held_drew (S := fun W => HeldN (g0 + 1 + 1) gb N xf xt xc xu W) (by kernel_rfl) (HRX.out.held HGB.out) (fun hHeld => ?_)
      have HRX := Lib.hid (HRX.out.next (below_drew (Below.refl _ _)))
      have HGB : Hid (wx.drew.heap[gb]? = some (.cells #[.int .u8 xf, .int .u8 xt, .int .u8 xc, .int .u8 xu] 71 (0, 0))) := HGB
      generalize wx.drew = wd at *
      refine wpAnyH_take (i := 0) (oi := { dst := some 38, op := Go.Op.fieldAddr 24 (Go.Operand.tmp 8) 2, type := 0, pos := "law.go:30", after := #[], guard := none }) (v := .pointer (some ⟨g0 + 1 + 1, 2, none⟩)) rfl (by kernel_rfl) (by kernel_rfl) (by kernel_rfl) (fun _ _ _ h => h) (Or.inl ⟨by rfl, ?_⟩) (by assumption) ?_
      · (intro w hSw; (try dsimp only [HeldN] at hSw); go_simp)
      try simp only [Act.put, List.setIfInBounds_toArray, List.set_cons_zero, List.set_cons_succ]
      refine wpAnyH_take (i := 2) (oi := { dst := some 40, op := Go.Op.fieldAddr 71 (Go.Operand.tmp 10) 0, type := 0, pos := "law.go:30", after := #[], guard := none }) (v := .pointer (some ⟨gb, 0, none⟩)) rfl (by kernel_rfl) (by kernel_rfl) (by kernel_rfl) (fun _ _ _ h => h) (Or.inl ⟨by rfl, ?_⟩) (by assumption) ?_
      · (intro w hSw; (try dsimp only [HeldN] at hSw); go_simp)
      try simp only [Act.put, List.setIfInBounds_toArray, List.set_cons_zero, List.set_cons_succ]
      refine wpAnyH_take (i := 3) (oi := { dst := some 41, op := Go.Op.load 5 (Go.Operand.tmp 40), type := 5, pos := "law.go:30", after := #[{ on := 2, ground := Go.Ground.data }], guard := none }) (v := .int .u8 xf) rfl (by kernel_rfl) (by kernel_rfl) (by kernel_rfl) (fun _ _ _ h => h) (Or.inl ⟨by rfl, ?_⟩) (by assumption) ?_
      · (intro w hSw; (try dsimp only [HeldN] at hSw); go_simp)
      try simp only [Act.put, List.setIfInBounds_toArray, List.set_cons_zero, List.set_cons_succ]
      refine wpAnyH_take (i := 4) (oi := { dst := some 42, op := Go.Op.convert 5 3 (Go.Operand.tmp 41), type := 3, pos := "law.go:30", after := #[{ on := 3, ground := Go.Ground.data }], guard := none }) (v := .int .i64 xf) rfl (by kernel_rfl) (by kernel_rfl) (by kernel_rfl) (fun _ _ _ h => h) (Or.inl ⟨by rfl, ?_⟩) (by assumption) ?_
      · (intro w hSw; (try dsimp only [HeldN] at hSw); go_simp)
      try simp only [Act.put, List.setIfInBounds_toArray, List.set_cons_zero, List.set_cons_succ]
      refine wpAnyH_take (i := 5) (oi := { dst := some 43, op := Go.Op.fieldAddr 24 (Go.Operand.tmp 8) 0, type := 0, pos := "law.go:30", after := #[], guard := none }) (v := .pointer (some ⟨g0 + 1 + 1, 0, none⟩)) rfl (by kernel_rfl) (by kernel_rfl) (by kernel_rfl) (fun _ _ _ h => h) (Or.inl ⟨by rfl, ?_⟩) (by assumption) ?_
      · (intro w hSw; (try dsimp only [HeldN] at hSw); go_simp)
      try simp only [Act.put, List.setIfInBounds_toArray, List.set_cons_zero, List.set_cons_succ]
      refine wpAnyH_take (i := 6) (oi := { dst := some 44, op := Go.Op.load 3 (Go.Operand.tmp 43), type := 3, pos := "law.go:30", after := #[{ on := 5, ground := Go.Ground.data }], guard := none }) (v := .int .i64 (N : Int)) rfl (by kernel_rfl) (by kernel_rfl) (by kernel_rfl) (fun _ _ _ h => h) (Or.inl ⟨by rfl, ?_⟩) (by assumption) ?_
      · (intro w hSw; (try dsimp only [HeldN] at hSw); go_simp)
      try simp only [Act.put, List.setIfInBounds_toArray, List.set_cons_zero, List.set_cons_succ]
      refine wpAnyH_take (i := 7) (oi := { dst := some 45, op := Go.Op.binOp Go.BinOp.rem 3 (Go.Operand.tmp 42) (Go.Operand.tmp 44) 3, type := 3, pos := "law.go:30", after := #[{ on := 4, ground := Go.Ground.data }, { on := 6, ground := Go.Ground.data }], guard := none }) (v := .int .i64 (xf % (N : Int))) rfl (by kernel_rfl) (by kernel_rfl) (by kernel_rfl) (fun _ _ _ h => h) (Or.inl ⟨by rfl, ?_⟩) (by assumption) ?_
      · (intro w hSw; (try dsimp only [HeldN] at hSw); go_simp)
      try simp only [Act.put, List.setIfInBounds_toArray, List.set_cons_zero, List.set_cons_succ]
      refine wpAnyH_take (i := 8) (oi := { dst := some 46, op := Go.Op.fieldAddr 71 (Go.Operand.tmp 10) 1, type := 0, pos := "law.go:30", after := #[], guard := none }) (v := .pointer (some ⟨gb, 1, none⟩)) rfl (by kernel_rfl) (by kernel_rfl) (by kernel_rfl) (fun _ _ _ h => h) (Or.inl ⟨by rfl, ?_⟩) (by assumption) ?_
      · (intro w hSw; (try dsimp only [HeldN] at hSw); go_simp)
      try simp only [Act.put, List.setIfInBounds_toArray, List.set_cons_zero, List.set_cons_succ]
      refine wpAnyH_take (i := 9) (oi := { dst := some 47, op := Go.Op.load 5 (Go.Operand.tmp 46), type := 5, pos := "law.go:30", after := #[{ on := 8, ground := Go.Ground.data }], guard := none }) (v := .int .u8 xt) rfl (by kernel_rfl) (by kernel_rfl) (by kernel_rfl) (fun _ _ _ h => h) (Or.inl ⟨by rfl, ?_⟩) (by assumption) ?_
      · (intro w hSw; (try dsimp only [HeldN] at hSw); go_simp)
      try simp only [Act.put, List.setIfInBounds_toArray, List.set_cons_zero, List.set_cons_succ]
      refine wpAnyH_take (i := 10) (oi := { dst := some 48, op := Go.Op.convert 5 3 (Go.Operand.tmp 47), type := 3, pos := "law.go:30", after := #[{ on := 9, ground := Go.Ground.data }], guard := none }) (v := .int .i64 xt) rfl (by kernel_rfl) (by kernel_rfl) (by kernel_rfl) (fun _ _ _ h => h) (Or.inl ⟨by rfl, ?_⟩) (by assumption) ?_
      · (intro w hSw; (try dsimp only [HeldN] at hSw); go_simp)
      try simp only [Act.put, List.setIfInBounds_toArray, List.set_cons_zero, List.set_cons_succ]
      refine wpAnyH_take (i := 11) (oi := { dst := some 49, op := Go.Op.fieldAddr 24 (Go.Operand.tmp 8) 0, type := 0, pos := "law.go:30", after := #[], guard := none }) (v := .pointer (some ⟨g0 + 1 + 1, 0, none⟩)) rfl (by kernel_rfl) (by kernel_rfl) (by kernel_rfl) (fun _ _ _ h => h) (Or.inl ⟨by rfl, ?_⟩) (by assumption) ?_
      · (intro w hSw; (try dsimp only [HeldN] at hSw); go_simp)
      try simp only [Act.put, List.setIfInBounds_toArray, List.set_cons_zero, List.set_cons_succ]
      refine wpAnyH_take (i := 12) (oi := { dst := some 50, op := Go.Op.load 3 (Go.Operand.tmp 49), type := 3, pos := "law.go:30", after := #[{ on := 11, ground := Go.Ground.data }], guard := none }) (v := .int .i64 (N : Int)) rfl (by kernel_rfl) (by kernel_rfl) (by kernel_rfl) (fun _ _ _ h => h) (Or.inl ⟨by rfl, ?_⟩) (by assumption) ?_
      · (intro w hSw; (try dsimp only [HeldN] at hSw); go_simp)
      try simp only [Act.put, List.setIfInBounds_toArray, List.set_cons_zero, List.set_cons_succ]
      refine wpAnyH_take (i := 13) (oi := { dst := some 51, op := Go.Op.binOp Go.BinOp.rem 3 (Go.Operand.tmp 48) (Go.Operand.tmp 50) 3, type := 3, pos := "law.go:30", after := #[{ on := 10, ground := Go.Ground.data }, { on := 12, ground := Go.Ground.data }], guard := none }) (v := .int .i64 (xt % (N : Int))) rfl (by kernel_rfl) (by kernel_rfl) (by kernel_rfl) (fun _ _ _ h => h) (Or.inl ⟨by rfl, ?_⟩) (by assumption) ?_
      · (intro w hSw; (try dsimp only [HeldN] at hSw); go_simp)
      try simp only [Act.put, List.setIfInBounds_toArray, List.set_cons_zero, List.set_cons_succ]
      refine wpAnyH_take (i := 14) (oi := { dst := some 52, op := Go.Op.fieldAddr 71 (Go.Operand.tmp 10) 2, type := 0, pos := "law.go:30", after := #[], guard := none }) (v := .pointer (some ⟨gb, 2, none⟩)) rfl (by kernel_rfl) (by kernel_rfl) (by kernel_rfl) (fun _ _ _ h => h) (Or.inl ⟨by rfl, ?_⟩) (by assumption) ?_
      · (intro w hSw; (try dsimp only [HeldN] at hSw); go_simp)
      try simp only [Act.put, List.setIfInBounds_toArray, List.set_cons_zero, List.set_cons_succ]
      refine wpAnyH_take (i := 15) (oi := { dst := some 53, op := Go.Op.load 5 (Go.Operand.tmp 52), type := 5, pos := "law.go:30", after := #[{ on := 14, ground := Go.Ground.data }], guard := none }) (v := .int .u8 xc) rfl (by kernel_rfl) (by kernel_rfl) (by kernel_rfl) (fun _ _ _ h => h) (Or.inl ⟨by rfl, ?_⟩) (by assumption) ?_
      · (intro w hSw; (try dsimp only [HeldN] at hSw); go_simp)
      try simp only [Act.put, List.setIfInBounds_toArray, List.set_cons_zero, List.set_cons_succ]
      refine wpAnyH_take (i := 16) (oi := { dst := some 54, op := Go.Op.convert 5 3 (Go.Operand.tmp 53), type := 3, pos := "law.go:30", after := #[{ on := 15, ground := Go.Ground.data }], guard := none }) (v := .int .i64 xc) rfl (by kernel_rfl) (by kernel_rfl) (by kernel_rfl) (fun _ _ _ h => h) (Or.inl ⟨by rfl, ?_⟩) (by assumption) ?_
      · (intro w hSw; (try dsimp only [HeldN] at hSw); go_simp)
      try simp only [Act.put, List.setIfInBounds_toArray, List.set_cons_zero, List.set_cons_succ]
      refine wpAnyH_take (i := 17) (oi := { dst := some 55, op := Go.Op.binOp Go.BinOp.rem 3 (Go.Operand.tmp 54) (Go.Operand.const (Go.Value.int Go.IntKind.i64 6)) 3, type := 3, pos := "law.go:30", after := #[{ on := 16, ground := Go.Ground.data }], guard := none }) (v := .int .i64 (xc % 6)) rfl (by kernel_rfl) (by kernel_rfl) (by kernel_rfl) (fun _ _ _ h => h) (Or.inl ⟨by rfl, ?_⟩) (by assumption) ?_
      · (intro w hSw; (try dsimp only [HeldN] at hSw); go_simp)
      try simp only [Act.put, List.setIfInBounds_toArray, List.set_cons_zero, List.set_cons_succ]
      refine wpAnyH_take (i := 18) (oi := { dst := some 56, op := Go.Op.fieldAddr 71 (Go.Operand.tmp 10) 3, type := 0, pos := "law.go:30", after := #[], guard := none }) (v := .pointer (some ⟨gb, 3, none⟩)) rfl (by kernel_rfl) (by kernel_rfl) (by kernel_rfl) (fun _ _ _ h => h) (Or.inl ⟨by rfl, ?_⟩) (by assumption) ?_
      · (intro w hSw; (try dsimp only [HeldN] at hSw); go_simp)
      try simp only [Act.put, List.setIfInBounds_toArray, List.set_cons_zero, List.set_cons_succ]
      refine wpAnyH_take (i := 19) (oi := { dst := some 57, op := Go.Op.load 5 (Go.Operand.tmp 56), type := 5, pos := "law.go:30", after := #[{ on := 18, ground := Go.Ground.data }], guard := none }) (v := .int .u8 xu) rfl (by kernel_rfl) (by kernel_rfl) (by kernel_rfl) (fun _ _ _ h => h) (Or.inl ⟨by rfl, ?_⟩) (by assumption) ?_
      · (intro w hSw; (try dsimp only [HeldN] at hSw); go_simp)
      try simp only [Act.put, List.setIfInBounds_toArray, List.set_cons_zero, List.set_cons_succ]
      refine wpAnyH_take (i := 20) (oi := { dst := some 58, op := Go.Op.convert 5 3 (Go.Operand.tmp 57), type := 3, pos := "law.go:30", after := #[{ on := 19, ground := Go.Ground.data }], guard := none }) (v := .int .i64 xu) rfl (by kernel_rfl) (by kernel_rfl) (by kernel_rfl) (fun _ _ _ h => h) (Or.inl ⟨by rfl, ?_⟩) (by assumption) ?_
      · (intro w hSw; (try dsimp only [HeldN] at hSw); go_simp)
      try simp only [Act.put, List.setIfInBounds_toArray, List.set_cons_zero, List.set_cons_succ]
      refine wpAnyH_take (i := 21) (oi := { dst := some 59, op := Go.Op.binOp Go.BinOp.rem 3 (Go.Operand.tmp 58) (Go.Operand.const (Go.Value.int Go.IntKind.i64 4)) 3, type := 3, pos := "law.go:30", after := #[{ on := 20, ground := Go.Ground.data }], guard := none }) (v := .int .i64 (xu % 4)) rfl (by kernel_rfl) (by kernel_rfl) (by kernel_rfl) (fun _ _ _ h => h) (Or.inl ⟨by rfl, ?_⟩) (by assumption) ?_
      · (intro w hSw; (try dsimp only [HeldN] at hSw); go_simp)
      try simp only [Act.put, List.setIfInBounds_toArray, List.set_cons_zero, List.set_cons_succ]
      refine wpAnyH_take (i := 22) (oi := { dst := some 60, op := Go.Op.build 73 #[(0, Go.Operand.tmp 45), (1, Go.Operand.tmp 51), (2, Go.Operand.tmp 55), (3, Go.Operand.tmp 59)], type := 73, pos := "law.go:30", after := #[{ on := 7, ground := Go.Ground.data }, { on := 13, ground := Go.Ground.data }, { on := 17, ground := Go.Ground.data }, { on := 21, ground := Go.Ground.data }], guard := none }) (v := .agg #[.int .i64 (xf % (N : Int)), .int .i64 (xt % (N : Int)), .int .i64 (xc % 6), .int .i64 (xu % 4)]) rfl (by kernel_rfl) (by kernel_rfl) (by kernel_rfl) (fun _ _ _ h => h) (Or.inl ⟨by rfl, ?_⟩) (by assumption) ?_
      · (intro w hSw; (try dsimp only [HeldN] at hSw); go_simp)
      try simp only [Act.put, List.setIfInBounds_toArray, List.set_cons_zero, List.set_cons_succ]
      refine wpAnyH_ready (rs := [1, 23]) (by kernel_rfl) (by simp) (AllReadyH.cons (o := { dst := some 39, op := Go.Op.load 22 (Go.Operand.tmp 38), type := 22, pos := "law.go:30", after := #[{ on := 0, ground := Go.Ground.data }], guard := none }) rfl (fun K hK => ?_) (AllReadyH.cons (o := { dst := some 61, op := Go.Op.buildSlice 22 1 #[(0, Go.Operand.tmp 60)], type := 22, pos := "law.go:30", after := #[{ on := 22, ground := Go.Ground.data }], guard := none }) rfl (fun K hK => ?_) AllReadyH.nil))
      · have n2 := cell_whole HRX.out.box 2
        go_simp
        refine hK.out _ _ (HRX.out.held HGB.out) (fun hHeld => ?_)
        clear hK n2
        try simp only [Act.put, List.setIfInBounds_toArray, List.set_cons_zero, List.set_cons_succ]
        refine wpAnyH_ready (rs := [23]) (by kernel_rfl) (by simp) (AllReadyH.cons (o := { dst := some 61, op := Go.Op.buildSlice 22 1 #[(0, Go.Operand.tmp 60)], type := 22, pos := "law.go:30", after := #[{ on := 22, ground := Go.Ground.data }], guard := none }) rfl (fun K hK => ?_) AllReadyH.nil)
        obtain ⟨nb2, hnb2⟩ : ∃ nb2, (wd).heap.size = nb2 := ⟨_, rfl⟩
        go_simp
        have HRX := Lib.hid (HRX.out.next ((Below.refl _ _).alloc (Nat.le_refl _) (.cells #[.int .i64 (xf % (N : Int)), .int .i64 (xt % (N : Int)), .int .i64 (xc % 6), .int .i64 (xu % 4)] 73)))
        have HGB := Lib.hid (wholeR HGB.out (.cells #[.int .i64 (xf % (N : Int)), .int .i64 (xt % (N : Int)), .int .i64 (xc % 6), .int .i64 (xu % 4)] 73))
        have HNW : Hid (((wd).alloc (.cells #[.int .i64 (xf % (N : Int)), .int .i64 (xt % (N : Int)), .int .i64 (xc % 6), .int .i64 (xu % 4)] 73)).heap[nb2]? = some (.cells #[.int .i64 (xf % (N : Int)), .int .i64 (xt % (N : Int)), .int .i64 (xc % 6), .int .i64 (xu % 4)] 73 (0, 0))) := Lib.hid (by rw [← hnb2]; exact heap_alloc_new _ _)
        clear hHeld
        refine hK.out _ _ (HRX.out.held HGB.out) (fun hHeld => ?_)
        clear hK
        generalize (wd).alloc (.cells #[.int .i64 (xf % (N : Int)), .int .i64 (xt % (N : Int)), .int .i64 (xc % 6), .int .i64 (xu % 4)] 73) = wn at *
        clear hnb2
        try simp only [Act.put, List.setIfInBounds_toArray, List.set_cons_zero, List.set_cons_succ]
        refine wpAnyH_ready (rs := [24]) (by kernel_rfl) (by simp) (AllReadyH.cons (o := { dst := some 62, op := Go.Op.call { callee := Go.Callee.builtin Go.Builtin.append, args := #[Go.Operand.tmp 39, Go.Operand.tmp 61], argTypes := #[22, 22] }, type := 22, pos := "law.go:30", after := #[{ on := 1, ground := Go.Ground.data }, { on := 23, ground := Go.Ground.data }], guard := none }) rfl (fun K hK => ?_) AllReadyH.nil)
        have HOW : Hid ((wn).ownsRow w1.heap.size 73 4 (.slice va S.length vc) S.length (S.flatMap encA)) := Lib.hid HRX.out.own
        refine step_append_lies _ (by rfl) _ _ _ (by rfl) w1.heap.size 73 i0 _ 4 32 Try.underlying22 HI.out.1 HI.out.2.1 HI.out.2.2.1 HI.out.2.2.2 rfl (by omega) (.slice va S.length vc) S.length (S.flatMap encA) (by rfl) HOW.out ⟨nb2, 0, none⟩ 1 1 (encA ((xf % (N : Int)), (xt % (N : Int)), (xc % 6), (xu % 4))) (by rfl) (by rfl) (World.news_of_block (cs := #[.int .i64 (xf % (N : Int)), .int .i64 (xt % (N : Int)), .int .i64 (xc % 6), .int .i64 (xu % 4)]) (t := 73) (fr := (0, 0)) HNW.out) (encA_one _) (by omega) (by unfold maxLen; omega) (by omega) HRX.out.kept.size _ rfl ?_
        intro g12 cap12 w12 ho12 hg12 hl12 hlt12
        have hk12 := Kept.of_grown (S := fun i => w1.heap.size ≤ i ∧ i < gb) hg12 (fun k e => HVK.out k e)
        have HB12 := Lib.hid (hk12.old HRX.out.box (by have := HRX.out.lt; omega))
        have HGC := Lib.hid (hk12.old HGB.out (by omega))
        have HRZ := Lib.hid (HRX.out.add (x := ((xf % (N : Int)), (xt % (N : Int)), (xc % 6), (xu % 4))) (arcR_snoc ho12) hg12)
        have r0 := cell_whole HB12.out 2
        have r1 := frozen_whole HB12.out 2
        clear hHeld hk12 ho12 hg12 hl12
        refine hK.out _ _ (heldN HB12.out HGC.out) (fun hHeld => ?_)
        clear hK
        try simp only [Act.put, List.setIfInBounds_toArray, List.set_cons_zero, List.set_cons_succ]
        refine wpAnyH_take (i := 25) (oi := { dst := some 63, op := Go.Op.fieldAddr 24 (Go.Operand.tmp 8) 2, type := 0, pos := "law.go:30", after := #[{ on := 0, ground := Go.Ground.phase }, { on := 1, ground := Go.Ground.phase }, { on := 2, ground := Go.Ground.phase }, { on := 3, ground := Go.Ground.phase }, { on := 4, ground := Go.Ground.phase }, { on := 5, ground := Go.Ground.phase }, { on := 6, ground := Go.Ground.phase }, { on := 7, ground := Go.Ground.phase }, { on := 8, ground := Go.Ground.phase }, { on := 9, ground := Go.Ground.phase }, { on := 10, ground := Go.Ground.phase }, { on := 11, ground := Go.Ground.phase }, { on := 12, ground := Go.Ground.phase }, { on := 13, ground := Go.Ground.phase }, { on := 14, ground := Go.Ground.phase }, { on := 15, ground := Go.Ground.phase }, { on := 16, ground := Go.Ground.phase }, { on := 17, ground := Go.Ground.phase }, { on := 18, ground := Go.Ground.phase }, { on := 19, ground := Go.Ground.phase }, { on := 20, ground := Go.Ground.phase }, { on := 21, ground := Go.Ground.phase }, { on := 22, ground := Go.Ground.phase }, { on := 23, ground := Go.Ground.phase }, { on := 24, ground := Go.Ground.phase }], guard := none }) (v := .pointer (some ⟨g0 + 1 + 1, 2, none⟩)) rfl (by kernel_rfl) (by kernel_rfl) (by kernel_rfl) (fun _ _ _ h => h) (Or.inl ⟨by rfl, ?_⟩) (by assumption) ?_
        · (intro w hSw; (try dsimp only [HeldN] at hSw); go_simp)
        try simp only [Act.put, List.setIfInBounds_toArray, List.set_cons_zero, List.set_cons_succ]
        refine wpAnyH_ready (rs := [26]) (by kernel_rfl) (by simp) (AllReadyH.cons (o := { dst := none, op := Go.Op.store 22 (Go.Operand.tmp 63) (Go.Operand.tmp 62), type := 0, pos := "law.go:30", after := #[{ on := 25, ground := Go.Ground.data }, { on := 24, ground := Go.Ground.data }, { on := 24, ground := Go.Ground.chain }, { on := 0, ground := Go.Ground.phase }, { on := 1, ground := Go.Ground.phase }, { on := 2, ground := Go.Ground.phase }, { on := 3, ground := Go.Ground.phase }, { on := 4, ground := Go.Ground.phase }, { on := 5, ground := Go.Ground.phase }, { on := 6, ground := Go.Ground.phase }, { on := 7, ground := Go.Ground.phase }, { on := 8, ground := Go.Ground.phase }, { on := 9, ground := Go.Ground.phase }, { on := 10, ground := Go.Ground.phase }, { on := 11, ground := Go.Ground.phase }, { on := 12, ground := Go.Ground.phase }, { on := 13, ground := Go.Ground.phase }, { on := 14, ground := Go.Ground.phase }, { on := 15, ground := Go.Ground.phase }, { on := 16, ground := Go.Ground.phase }, { on := 17, ground := Go.Ground.phase }, { on := 18, ground := Go.Ground.phase }, { on := 19, ground := Go.Ground.phase }, { on := 20, ground := Go.Ground.phase }, { on := 21, ground := Go.Ground.phase }, { on := 22, ground := Go.Ground.phase }, { on := 23, ground := Go.Ground.phase }, { on := 24, ground := Go.Ground.phase }], guard := none }) rfl (fun K hK => ?_) AllReadyH.nil)
        go_simp
        have HGZ := Lib.hid (set_other (b := g0 + 1 + 1) HGC.out (by omega) 2 (.slice (some ⟨g12, 0, none⟩) (S.length + 1) cap12))
        clear hHeld r0 r1
        refine hK.out _ _ (HRZ.out.held HGZ.out) (fun hHeld => ?_)
        clear hK
        try simp only [Act.put, List.setIfInBounds_toArray, List.set_cons_zero, List.set_cons_succ]
        refine wpAnyH_done (by kernel_rfl) ?_ _
        clear hHeld
        go_wp2
        go_roundw
        case rel => exact ⟨k + 1, _, by omega, by omega, by go_num, Lib.hid (by rw [HS.out]; exact HRZ.out)⟩
        case measure => simp [intOf]; omega
      · obtain ⟨nb2, hnb2⟩ : ∃ nb2, (wd).heap.size = nb2 := ⟨_, rfl⟩
        go_simp
        have HRX := Lib.hid (HRX.out.next ((Below.refl _ _).alloc (Nat.le_refl _) (.cells #[.int .i64 (xf % (N : Int)), .int .i64 (xt % (N : Int)), .int .i64 (xc % 6), .int .i64 (xu % 4)] 73)))
        have HGB := Lib.hid (wholeR HGB.out (.cells #[.int .i64 (xf % (N : Int)), .int .i64 (xt % (N : Int)), .int .i64 (xc % 6), .int .i64 (xu % 4)] 73))
        have HNW : Hid (((wd).alloc (.cells #[.int .i64 (xf % (N : Int)), .int .i64 (xt % (N : Int)), .int .i64 (xc % 6), .int .i64 (xu % 4)] 73)).heap[nb2]? = some (.cells #[.int .i64 (xf % (N : Int)), .int .i64 (xt % (N : Int)), .int .i64 (xc % 6), .int .i64 (xu % 4)] 73 (0, 0))) := Lib.hid (by rw [← hnb2]; exact heap_alloc_new _ _)
        clear hHeld
        refine hK.out _ _ (HRX.out.held HGB.out) (fun hHeld => ?_)
        clear hK
        generalize (wd).alloc (.cells #[.int .i64 (xf % (N : Int)), .int .i64 (xt % (N : Int)), .int .i64 (xc % 6), .int .i64 (xu % 4)] 73) = wn at *
        clear hnb2
        try simp only [Act.put, List.setIfInBounds_toArray, List.set_cons_zero, List.set_cons_succ]
        refine wpAnyH_ready (rs := [1]) (by kernel_rfl) (by simp) (AllReadyH.cons (o := { dst := some 39, op := Go.Op.load 22 (Go.Operand.tmp 38), type := 22, pos := "law.go:30", after := #[{ on := 0, ground := Go.Ground.data }], guard := none }) rfl (fun K hK => ?_) AllReadyH.nil)
        have n2 := cell_whole HRX.out.box 2
        go_simp
        refine hK.out _ _ (HRX.out.held HGB.out) (fun hHeld => ?_)
        clear hK n2
        try simp only [Act.put, List.setIfInBounds_toArray, List.set_cons_zero, List.set_cons_succ]
        refine wpAnyH_ready (rs := [24]) (by kernel_rfl) (by simp) (AllReadyH.cons (o := { dst := some 62, op := Go.Op.call { callee := Go.Callee.builtin Go.Builtin.append, args := #[Go.Operand.tmp 39, Go.Operand.tmp 61], argTypes := #[22, 22] }, type := 22, pos := "law.go:30", after := #[{ on := 1, ground := Go.Ground.data }, { on := 23, ground := Go.Ground.data }], guard := none }) rfl (fun K hK => ?_) AllReadyH.nil)
        have HOW : Hid ((wn).ownsRow w1.heap.size 73 4 (.slice va S.length vc) S.length (S.flatMap encA)) := Lib.hid HRX.out.own
        refine step_append_lies _ (by rfl) _ _ _ (by rfl) w1.heap.size 73 i0 _ 4 32 Try.underlying22 HI.out.1 HI.out.2.1 HI.out.2.2.1 HI.out.2.2.2 rfl (by omega) (.slice va S.length vc) S.length (S.flatMap encA) (by rfl) HOW.out ⟨nb2, 0, none⟩ 1 1 (encA ((xf % (N : Int)), (xt % (N : Int)), (xc % 6), (xu % 4))) (by rfl) (by rfl) (World.news_of_block (cs := #[.int .i64 (xf % (N : Int)), .int .i64 (xt % (N : Int)), .int .i64 (xc % 6), .int .i64 (xu % 4)]) (t := 73) (fr := (0, 0)) HNW.out) (encA_one _) (by omega) (by unfold maxLen; omega) (by omega) HRX.out.kept.size _ rfl ?_
        intro g12 cap12 w12 ho12 hg12 hl12 hlt12
        have hk12 := Kept.of_grown (S := fun i => w1.heap.size ≤ i ∧ i < gb) hg12 (fun k e => HVK.out k e)
        have HB12 := Lib.hid (hk12.old HRX.out.box (by have := HRX.out.lt; omega))
        have HGC := Lib.hid (hk12.old HGB.out (by omega))
        have HRZ := Lib.hid (HRX.out.add (x := ((xf % (N : Int)), (xt % (N : Int)), (xc % 6), (xu % 4))) (arcR_snoc ho12) hg12)
        have r0 := cell_whole HB12.out 2
        have r1 := frozen_whole HB12.out 2
        clear hHeld hk12 ho12 hg12 hl12
        refine hK.out _ _ (heldN HB12.out HGC.out) (fun hHeld => ?_)
        clear hK
        try simp only [Act.put, List.setIfInBounds_toArray, List.set_cons_zero, List.set_cons_succ]
        refine wpAnyH_take (i := 25) (oi := { dst := some 63, op := Go.Op.fieldAddr 24 (Go.Operand.tmp 8) 2, type := 0, pos := "law.go:30", after := #[{ on := 0, ground := Go.Ground.phase }, { on := 1, ground := Go.Ground.phase }, { on := 2, ground := Go.Ground.phase }, { on := 3, ground := Go.Ground.phase }, { on := 4, ground := Go.Ground.phase }, { on := 5, ground := Go.Ground.phase }, { on := 6, ground := Go.Ground.phase }, { on := 7, ground := Go.Ground.phase }, { on := 8, ground := Go.Ground.phase }, { on := 9, ground := Go.Ground.phase }, { on := 10, ground := Go.Ground.phase }, { on := 11, ground := Go.Ground.phase }, { on := 12, ground := Go.Ground.phase }, { on := 13, ground := Go.Ground.phase }, { on := 14, ground := Go.Ground.phase }, { on := 15, ground := Go.Ground.phase }, { on := 16, ground := Go.Ground.phase }, { on := 17, ground := Go.Ground.phase }, { on := 18, ground := Go.Ground.phase }, { on := 19, ground := Go.Ground.phase }, { on := 20, ground := Go.Ground.phase }, { on := 21, ground := Go.Ground.phase }, { on := 22, ground := Go.Ground.phase }, { on := 23, ground := Go.Ground.phase }, { on := 24, ground := Go.Ground.phase }], guard := none }) (v := .pointer (some ⟨g0 + 1 + 1, 2, none⟩)) rfl (by kernel_rfl) (by kernel_rfl) (by kernel_rfl) (fun _ _ _ h => h) (Or.inl ⟨by rfl, ?_⟩) (by assumption) ?_
        · (intro w hSw; (try dsimp only [HeldN] at hSw); go_simp)
        try simp only [Act.put, List.setIfInBounds_toArray, List.set_cons_zero, List.set_cons_succ]
        refine wpAnyH_ready (rs := [26]) (by kernel_rfl) (by simp) (AllReadyH.cons (o := { dst := none, op := Go.Op.store 22 (Go.Operand.tmp 63) (Go.Operand.tmp 62), type := 0, pos := "law.go:30", after := #[{ on := 25, ground := Go.Ground.data }, { on := 24, ground := Go.Ground.data }, { on := 24, ground := Go.Ground.chain }, { on := 0, ground := Go.Ground.phase }, { on := 1, ground := Go.Ground.phase }, { on := 2, ground := Go.Ground.phase }, { on := 3, ground := Go.Ground.phase }, { on := 4, ground := Go.Ground.phase }, { on := 5, ground := Go.Ground.phase }, { on := 6, ground := Go.Ground.phase }, { on := 7, ground := Go.Ground.phase }, { on := 8, ground := Go.Ground.phase }, { on := 9, ground := Go.Ground.phase }, { on := 10, ground := Go.Ground.phase }, { on := 11, ground := Go.Ground.phase }, { on := 12, ground := Go.Ground.phase }, { on := 13, ground := Go.Ground.phase }, { on := 14, ground := Go.Ground.phase }, { on := 15, ground := Go.Ground.phase }, { on := 16, ground := Go.Ground.phase }, { on := 17, ground := Go.Ground.phase }, { on := 18, ground := Go.Ground.phase }, { on := 19, ground := Go.Ground.phase }, { on := 20, ground := Go.Ground.phase }, { on := 21, ground := Go.Ground.phase }, { on := 22, ground := Go.Ground.phase }, { on := 23, ground := Go.Ground.phase }, { on := 24, ground := Go.Ground.phase }], guard := none }) rfl (fun K hK => ?_) AllReadyH.nil)
        go_simp
        have HGZ := Lib.hid (set_other (b := g0 + 1 + 1) HGC.out (by omega) 2 (.slice (some ⟨g12, 0, none⟩) (S.length + 1) cap12))
        clear hHeld r0 r1
        refine hK.out _ _ (HRZ.out.held HGZ.out) (fun hHeld => ?_)
        clear hK
        try simp only [Act.put, List.setIfInBounds_toArray, List.set_cons_zero, List.set_cons_succ]
        refine wpAnyH_done (by kernel_rfl) ?_ _
        clear hHeld
        go_wp2
        go_roundw
        case rel => exact ⟨k + 1, _, by omega, by omega, by go_num, Lib.hid (by rw [HS.out]; exact HRZ.out)⟩
        case measure => simp [intOf]; omega
    · have HST := Lib.hid (readZ_stop (N := N) hk hkA hc)
      rw [HST.out] at HRN
      have hcc : ¬ (k : Int) < (B.length : Int) ∨ (k : Int) < (B.length : Int) ∧ ¬ (k : Int) < (A : Int) := by omega
      have HRS := Lib.hid (HRN.out.kept.old HRES.out (show ¬ g0 + 1 = g0 + 1 + 1 by omega))
      obtain ⟨va, vc, hv, _⟩ := HRN.out.own.row
      subst hv
      have b3 := cell_whole hx 3
      have b4 := cell_whole hx 4
      have b5 := cell_whole hx 5
      have n0 := cell_whole HRN.out.box 0
      have n1 := cell_whole HRN.out.box 1
      have n2 := cell_whole HRN.out.box 2
      have r0 := cell_whole HRS.out 0
      have r1 := cell_whole HRS.out 1
      have r2 := cell_whole HRS.out 2
      have f0 := frozen_whole HRS.out 0
      have f1 := frozen_whole HRS.out 1
      have f2 := frozen_whole HRS.out 2
      have ws : IntKind.i64.wrap s = s := IntWalk.i64_in _ (by omega)
      have wt : IntKind.i64.wrap t = t := IntWalk.i64_in _ (by omega)
      have wp : IntKind.i64.wrap sp = sp := IntWalk.i64_in _ (by omega)
      have ts : s.tmod (N : Int) = s % (N : Int) := tmod_emod hs0
      have tt : t.tmod ((N : Int) - 1) = t % ((N : Int) - 1) := tmod_emod ht0
      have tp : sp.tmod 8 = sp % 8 := tmod_emod hp0
      have hs2 := Int.emod_nonneg s (show (N : Int) ≠ 0 by omega)
      have hs3 := Int.emod_lt_of_pos s (show (0 : Int) < (N : Int) by omega)
      have ht2 := Int.emod_nonneg t (show (N : Int) - 1 ≠ 0 by omega)
      have ht3 := Int.emod_lt_of_pos t (show (0 : Int) < (N : Int) - 1 by omega)
      have hES : Hid ((srcN nn s : Int) = s % (N : Int)) := Lib.hid (by unfold srcN; rw [HND.out]; omega)
      obtain ⟨s2, hs4⟩ : ∃ s2, s % (N : Int) = s2 := ⟨_, rfl⟩
      obtain ⟨t2, ht4⟩ : ∃ t2, t % ((N : Int) - 1) = t2 := ⟨_, rfl⟩
      rw [hs4] at ts hs2 hs3 hES
      rw [ht4] at tt ht2 ht3
      have hET : Hid ((snkN nn s t : Int) = (s2 + 1 + t2) % (N : Int)) := Lib.hid (by
        unfold snkN
        rw [HND.out, hES.out, ht4]
        exact Int.toNat_of_nonneg (Int.emod_nonneg _ (by omega)))
      have hEH : Hid ((horN sp : Int) = sp % 8) := Lib.hid (by unfold horN; omega)
      have w1a : IntKind.i64.wrap (s2 + 1) = s2 + 1 := IntWalk.i64_in _ (by omega)
      have w1b : IntKind.i64.wrap ((N : Int) - 1) = (N : Int) - 1 := IntWalk.i64_in _ (by omega)
      have w1c : IntKind.i64.wrap (s2 + 1 + t2) = s2 + 1 + t2 := IntWalk.i64_in _ (by omega)
      have te : (s2 + 1 + t2).tmod (N : Int) = (s2 + 1 + t2) % (N : Int) := tmod_emod (by omega)
      have hN0 : ((N : Int) == 0) = false := by simp; omega
      have hN0' : ¬ (N : Int) = 0 := by omega
      have hNz : ¬ N = 0 := by omega
      have hM0 : ((N : Int) - 1 == 0) = false := by simp; omega
      have hM0' : ¬ (N : Int) - 1 = 0 := by omega
      have HZL : Hid ((readZ N A B).length ≤ 100) := Lib.hid (by rw [readZ_len]; omega)
      clear hc hs4 ht4 hx
      generalize readZ N A B = S at *
      rcases hcc with hli | ⟨hli, hlA⟩
      all_goals
        go_wp2_with fail
        go_quiet (fail)
        go_wp2_with fail
        go_region
        go_wp2
        generalize nq + 1 = q1 at *
        have hfin := set_whole (set_whole (set_whole (show (wr.drewN q1).heap[g0 + 1]? = _ from HRS.out) 0 (.int .i64 (N : Int))) 1 (.bool hold)) 2 (.slice va S.length vc)
        have hown : OwnAr ((((wr.drewN q1).setCell ⟨g0 + 1, 0, none⟩ (.int .i64 (N : Int))).setCell ⟨g0 + 1, 1, none⟩ (.bool hold)).setCell ⟨g0 + 1, 2, none⟩ (.slice va S.length vc)) w1.heap.size (.slice va S.length vc) S := by
          have hl1 := HRN.out.lt
          have h0 := HRN.out.own.below (below_drewN (Below.refl _ _) q1)
          exact ownsRow_setCell_below (ownsRow_setCell_below (ownsRow_setCell_below h0 (a := ⟨g0 + 1, 0, none⟩) (by show g0 + 1 < _; omega) _) (a := ⟨g0 + 1, 1, none⟩) (by show g0 + 1 < _; omega) _) (a := ⟨g0 + 1, 2, none⟩) (by show g0 + 1 < _; omega) _
        have hbel := below_set (below_set (below_set (below_drewN (HRN.out.below HB0.out (by omega)) q1) (g := g0 + 1) (by omega) (j := 0) (.int .i64 (N : Int))) (g := g0 + 1) (by omega) (j := 1) (.bool hold)) (g := g0 + 1) (by omega) (j := 2) (.slice va S.length vc)
        generalize (((wr.drewN q1).setCell ⟨g0 + 1, 0, none⟩ (.int .i64 (N : Int))).setCell ⟨g0 + 1, 1, none⟩ (.bool hold)).setCell ⟨g0 + 1, 2, none⟩ (.slice va S.length vc) = wz at *
        have y0 := cell_whole hfin 0
        have y1 := cell_whole hfin 1
        have y2 := cell_whole hfin 2
        have HOW := Lib.hid hown
        have HBZ := Lib.hid hbel
        clear hfin hown hbel
        refine bodyPost_ret (v := .tuple #[.agg #[.int .i64 (N : Int), .bool hold, .slice va S.length vc], .int .i64 s2, .int .i64 ((s2 + 1 + t2) % (N : Int)), .int .i64 (sp % 8)]) (by simp [results, Try.results12, go_sem, y0, y1, y2]) rfl ?_
        obtain ⟨va2, vc2, e, hrow⟩ := HOW.out.row
        injection e with e1 e2 e3
        subst e1
        exact ⟨va, vc, by rw [hES.out, hET.out, hEH.out], hrow, HBZ.out⟩
end Go.Proofs.Ytlkbohpnlbfopaa
namespace Go.Proofs.Ytlkbohpnlbfopaa
open Go.RowKit
set_option linter.unusedVariables false
theorem node_bd (nn : Int) : 2 ≤ nodeN nn ∧ nodeN nn ≤ 5 := by unfold nodeN; omega
theorem src_lt (nn s : Int) : srcN nn s < nodeN nn := by
  obtain ⟨h1, h2⟩ := node_bd nn
  unfold srcN
  have h3 := Int.emod_nonneg s (show (nodeN nn : Int) ≠ 0 by omega)
  have h4 := Int.emod_lt_of_pos s (show (0 : Int) < (nodeN nn : Int) by omega)
  omega
theorem snk_lt (nn s t : Int) : snkN nn s t < nodeN nn ∧ srcN nn s ≠ snkN nn s t := by
  obtain ⟨h1, h2⟩ := node_bd nn
  have h3 := src_lt nn s
  unfold snkN
  generalize srcN nn s = i at *
  generalize nodeN nn = N at *
  have h4 := Int.emod_nonneg t (show (N : Int) - 1 ≠ 0 by omega)
  have h5 := Int.emod_lt_of_pos t (show (0 : Int) < (N : Int) - 1 by omega)
  generalize t % ((N : Int) - 1) = t2 at *
  have h6 : N = 2 ∨ N = 3 ∨ N = 4 ∨ N = 5 := by omega
  rcases h6 with rfl | rfl | rfl | rfl <;> omega
theorem hor_bd (sp : Int) : horN sp ≤ 7 := by unfold horN; omega
theorem read_arcs {N A : Nat} {B : List BitT} (hN : 2 ≤ N) : ∀ a ∈ readZ N A B, (0 ≤ a.1 ∧ a.1 < (N : Int)) ∧ (0 ≤ a.2.1 ∧ a.2.1 < (N : Int)) ∧ (0 ≤ a.2.2.1 ∧ a.2.2.1 ≤ 5) ∧ 0 ≤ a.2.2.2 ∧ a.2.2.2 ≤ 3 := by
  intro a ha
  obtain ⟨x, hx, rfl⟩ := List.mem_map.1 ha
  unfold readA
  have h1 := Int.emod_nonneg x.1 (show (N : Int) ≠ 0 by omega)
  have h2 := Int.emod_lt_of_pos x.1 (show (0 : Int) < (N : Int) by omega)
  have h3 := Int.emod_nonneg x.2.1 (show (N : Int) ≠ 0 by omega)
  have h4 := Int.emod_lt_of_pos x.2.1 (show (0 : Int) < (N : Int) by omega)
  simp only
  omega
def SmallA (N : Nat) (a : ArcT) : Prop := (0 ≤ a.1 ∧ a.1 < (N : Int)) ∧ (0 ≤ a.2.1 ∧ a.2.1 < (N : Int)) ∧ (0 ≤ a.2.2.1 ∧ a.2.2.1 ≤ 5) ∧ 0 ≤ a.2.2.2 ∧ a.2.2.2 ≤ 3
theorem small_check {N : Nat} {Z : List ArcT} (hN : 2 ≤ N ∧ N ≤ 5) (hl : Z.length ≤ 200) (h : ∀ a ∈ Z, SmallA N a) : checkE (N : Int) Z = 0 := by
  refine (right_iff (b := true)).2 ⟨?_, hl, fun a ha => ?_⟩
  · unfold nodesE
    simp only
    rw [if_neg (by omega), if_neg (by omega)]
  · obtain ⟨⟨h1, h2⟩, ⟨h3, h4⟩, ⟨h5, h6⟩, h7, h8⟩ := h a ha
    have g1 : ¬ badEnds (N : Int) a := by unfold badEnds; omega
    have g2 : ¬ bigArc a := by unfold bigArc; omega
    show arcE (N : Int) a = 0
    unfold arcE
    rw [if_neg g1, if_neg g2]
theorem small_ends {N i j : Nat} {Z : List ArcT} (hc : checkE (N : Int) Z = 0) (hi : i < N) (hj : j < N) (hij : i ≠ j) : endsE (N : Int) Z (i : Int) (j : Int) = 0 := by
  refine endsE_yes hc ?_ ?_ (by omega)
  · unfold nodeB; rw [decide_eq_true_eq]; omega
  · unfold nodeB; rw [decide_eq_true_eq]; omega
theorem small_ask {n s t H : Int} {Z : List ArcT} (hE : endsE n Z s t = 0) (h0 : 0 ≤ H) (h1 : H ≤ 1024) : askE n Z s t H = 0 := by unfold askE; rw [if_pos hE]; exact spanE_ok.2 ⟨h0, h1⟩
end Go.Proofs.Ytlkbohpnlbfopaa
