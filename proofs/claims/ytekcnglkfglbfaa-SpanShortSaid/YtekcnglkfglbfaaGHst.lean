/- Which arcs can be on fastest ways: package span's hasten. -/
import Derived.Test.YtekcnglkfglbfaaGCln
import Derived.Test.YtekcnglkfglbfaaGFar
import Derived.Test.YtekcnglkfglbfaaGBds
namespace Go.Proofs.Ytekcnglkfglbfaa
open Go.RowKit
set_option linter.unusedVariables false

/-- The arcs of a network, the first k of them as they are on fastest ways. -/
def partZ (V : List Int) (Z : List ArcT) (k : Nat) : List ArcT := fastZ V (Z.take k) ++ Z.drop k
theorem partZ_len (V : List Int) (Z : List ArcT) (k : Nat) : (partZ V Z k).length = Z.length := by unfold partZ; rw [List.length_append, fastZ_len, List.length_take, List.length_drop]; omega
theorem partZ_0 (V : List Int) (Z : List ArcT) : partZ V Z 0 = Z := by simp [partZ, fastZ]
theorem partZ_end (V : List Int) (Z : List ArcT) : partZ V Z Z.length = fastZ V Z := by simp [partZ]
theorem partZ_at {V : List Int} {Z : List ArcT} {k : Nat} (hk : k < Z.length) : (partZ V Z k)[k]? = some Z[k] := by
  unfold partZ
  rw [List.getElem?_append_right (by rw [fastZ_len, List.length_take]; omega), fastZ_len, List.length_take, show k - min k Z.length = 0 by omega, List.getElem?_drop, Nat.add_zero, List.getElem?_eq_getElem hk]
theorem partZ_set {V : List Int} {Z : List ArcT} {k : Nat} (hk : k < Z.length) : (partZ V Z k).set k (fastA V Z[k]) = partZ V Z (k + 1) := by
  unfold partZ
  rw [List.set_append_right _ _ (by rw [fastZ_len, List.length_take]; omega), fastZ_len, List.length_take, show k - min k Z.length = 0 by omega, List.drop_eq_getElem_cons hk, List.set_cons_zero, List.take_succ_eq_append_getElem hk]
  unfold fastZ
  rw [List.map_append, List.append_assoc]
  rfl
theorem partZ_same {V : List Int} {Z : List ArcT} {k : Nat} (hk : k < Z.length) (h : fastA V Z[k] = Z[k]) : partZ V Z k = partZ V Z (k + 1) := by
  rw [← partZ_set hk, h]
  have h1 := partZ_at (V := V) hk
  obtain ⟨h2, h3⟩ := List.getElem?_eq_some_iff.1 h1
  rw [← h3, List.set_getElem_self]
/-- What is kept while the copy is turned. -/
structure HsI (wc wr : World) (p N : Nat) (b : Bool) (ao : Option Addr) (cap : Nat) (Z : List ArcT) (s t : Nat) (fo : Option Addr) (fc : Nat) (F : List Int) (base : Nat) (xo : Option Addr) (xc : Nat) (X : List ArcT) : Prop where
  box : wr.heap[p]? = some (.cells #[.int .i64 (N : Int), .bool b, .slice ao Z.length cap, .int .i64 (s : Int), .int .i64 (t : Int), .slice fo F.length fc, .int .i64 (N : Int), .bool b, .slice xo X.length xc] 64 (0, 0))
  own : OwnC wr base (.slice xo X.length xc) X
  kept : Kept (fun i => i = p) wc wr
  big : wc.heap.size ≤ base
section
variable {wc wr w2 : World} {p N : Nat} {b : Bool} {ao : Option Addr} {cap : Nat} {Z : List ArcT} {s t : Nat} {fo : Option Addr} {fc : Nat} {F : List Int} {m : Int} {q : Bool} {xo : Option Addr} {xc : Nat} {X : List ArcT} {base : Nat} {yo : Option Addr} {yc : Nat} {Y : List ArcT}
theorem HsI.next (h : HsI wc wr p N b ao cap Z s t fo fc F base xo xc X) (hb : Below wr.heap.size wr w2) : HsI wc w2 p N b ao cap Z s t fo fc F base xo xc X :=
  ⟨kept_box h.box hb, h.own.below hb, h.kept.trans (Kept.of_below (S := fun i => i = p) hb) (fun i _ e => e), h.big⟩
theorem HsI.spw (h : HsI wc wr p N b ao cap Z s t fo fc F base xo xc X) (hw : SpW wc p N b ao cap Z s t fo fc F m q yo yc Y) : SpW wr p N b ao cap Z s t fo fc F (N : Int) b xo xc X := by
  obtain ⟨xo', xc', e, hr⟩ := h.own.row
  injection e with e1 e2 e3
  subst e1
  refine hw.turn h.kept h.box (lst_offP hw.flow h.kept (fun ad e h0 => hw.flowO ad e h0)) hw.flowO hr (fun ad e h0 => ?_)
  obtain ⟨g, cp, e4, h5, _⟩ := own_someC h.own h0
  injection e4 with e6 _ _
  rw [e] at e6
  cases e6
  have h6 := h.big
  have h7 := hw.lt
  show g ≠ p
  omega
theorem HsI.cut {g : Nat} (h : HsI wc wr p N b ao cap Z s t fo fc F base (some ⟨g, 0, none⟩) xc X) (hp : p < base) {j : Nat} {a : ArcT} (ha : X[j]? = some a) (c : Int) : HsI wc (wr.setCell ⟨g, j * 4 + 2, none⟩ (.int .i64 c)) p N b ao cap Z s t fo fc F base (some ⟨g, 0, none⟩) xc (X.set j (a.1, a.2.1, c, a.2.2.2)) := by
  have hj := (List.getElem?_eq_some_iff.1 ha).1
  obtain ⟨g', cp, e4, h5, _⟩ := own_someC h.own (by omega)
  injection e4 with e6 _ _
  injection e6 with e7
  injection e7 with e8
  subst e8
  have hk : Kept (fun i => i = g) wr (wr.setCell ⟨g, j * 4 + 2, none⟩ (.int .i64 c)) := (Kept.refl (fun i => i = g) wr).set (.inl rfl) _
  refine ⟨?_, ?_, h.kept.trans hk (fun i hi e => ?_), h.big⟩
  · rw [List.length_set]; exact hk.old h.box (fun e => by have e2 : p = g := e; omega)
  · have := h.own.cut ha c
    rw [List.length_set]
    exact this
  · have e2 : i = g := e
    have h6 := h.big
    omega
/-- All of the network is put into the place of the copy. -/
theorem SpW.setX (h : SpW wc p N b ao cap Z s t fo fc F m q yo yc Y) : SpW (((wc.setCell ⟨p, 6, none⟩ (.int .i64 (N : Int))).setCell ⟨p, 7, none⟩ (.bool b)).setCell ⟨p, 8, none⟩ (.slice ao Z.length cap)) p N b ao cap Z s t fo fc F (N : Int) b ao cap Z ∧ Kept (fun i => i = p) wc (((wc.setCell ⟨p, 6, none⟩ (.int .i64 (N : Int))).setCell ⟨p, 7, none⟩ (.bool b)).setCell ⟨p, 8, none⟩ (.slice ao Z.length cap)) := by
  have hk : Kept (fun i => i = p) wc (((wc.setCell ⟨p, 6, none⟩ (.int .i64 (N : Int))).setCell ⟨p, 7, none⟩ (.bool b)).setCell ⟨p, 8, none⟩ (.slice ao Z.length cap)) := (((Kept.refl (fun i => i = p) wc).set (.inl rfl) _).set (.inl rfl) _).set (.inl rfl) _
  exact ⟨h.turn hk (set_whole (set_whole (set_whole h.box 6 _) 7 _) 8 _) (lst_offP h.flow hk (fun ad e h0 => h.flowO ad e h0)) h.flowO (row_offP h.arcs hk (fun ad e h0 => h.arcsO ad e h0)) h.arcsO, hk⟩
/-- The copy is put in its place. -/
theorem HsI.start {w5 w6 : World} (h : SpW wc p N b ao cap Z s t fo fc F m q yo yc Y) (h5 : SpW w5 p N b ao cap Z s t fo fc F (N : Int) b ao cap Z) (hk : Kept (fun i => i = p) wc w5) (ho : OwnC w6 w5.heap.size (.slice xo Z.length xc) Z) (hb : Below w5.heap.size w5 w6) :
    HsI wc (w6.setCell ⟨p, 8, none⟩ (.slice xo Z.length xc)) p N b ao cap Z s t fo fc F w5.heap.size xo xc Z := by
  have h6 := h5.next hb
  exact ⟨set_whole h6.box 8 _, ownsRow_setCell_below ho h5.lt _, (hk.trans (Kept.of_below (S := fun i => i = p) hb) (fun i _ e => e)).set (.inl rfl) _, hk.size⟩
end
section
variable (p N : Nat) (b : Bool) (ao : Option Addr) (cap : Nat) (Z : List ArcT) (s t : Nat) (fo : Option Addr) (fc : Nat) (F : List Int) (m : Int) (z : Bool) (xo : Option Addr) (xc : Nat) (X : List ArcT)
set_option maxRecDepth 100000 in
set_option maxHeartbeats 4000000 in
theorem phasten_no (H : Int) (w : World) (h : SpW w p N b ao cap Z s t fo fc F m z xo xc X) (he : flowE (N : Int) Z F = 0) (hs : s < N) (ht : t < N) (hcm : calmN Z F N s = true) (hno : ∀ x, getO (dN Z F N s N) t = some x → H < x) :
    Calls Try.prog 41 #[.pointer (some ⟨p, 0, none⟩), .int .i64 H] w fun e w' => e = .returned (.bool false) ∧ Below w.heap.size w w' := by
  obtain ⟨⟨k0, k1, k2, k3, k4, k5, k6, k7, k8⟩, _⟩ := c9Cells h.box
  have HW := Lib.hid h
  have HE := Lib.hid he
  have HCM := Lib.hid hcm
  have hti : (t : Int) < (N : Int) := by omega
  obtain ⟨d, hd⟩ : ∃ d, dN Z F N s N = d := ⟨_, rfl⟩
  have hdl : d.length = N := by rw [← hd]; exact bellK_len _
  have HD := Lib.hid hd
  rw [hd] at hno
  obtain ⟨bt, hbt⟩ : ∃ bt, (getO d t).isSome = bt := ⟨_, rfl⟩
  obtain ⟨x, hx⟩ : ∃ x, valO (getO d t) = x := ⟨_, rfl⟩
  have HI1 : Hid ((isO d)[t]? = some bt) := Lib.hid (by rw [← hbt]; exact isO_at (by omega))
  have HV1 : Hid ((valsO d)[t]? = some x) := Lib.hid (by rw [← hx]; exact valsO_at (by omega))
  have hor : bt = false ∨ bt = true ∧ H < x := by
    cases hg : getO d t with
    | none => left; rw [← hbt, hg]; rfl
    | some y => right; rw [← hbt, ← hx, hg]; exact ⟨rfl, hno y hg⟩
  clear h he hcm hd hbt hx hno k6 k7 k8
  go_enter Try.func41, Try.ntmps41
  go_wp2_with fail
  go_cut [5, 6] (fun p5 p6 wc => ∃ gd gi, p5 = .slice (some ⟨gd, 0, none⟩) N N ∧ p6 = .slice (some ⟨gi, 0, none⟩) N N ∧ Hid (Lst encI wc (some ⟨gd, 0, none⟩) (valsO d)) ∧ Hid (Lst encB wc (some ⟨gi, 0, none⟩) (isO d)) ∧ Hid (Below w.heap.size w wc))
  case first =>
    go_region_held3 (fun W => W.cell? ⟨p, 0, none⟩ = some (.int .i64 (N : Int)) ∧ W.cell? ⟨p, 1, none⟩ = some (.bool b) ∧ W.cell? ⟨p, 2, none⟩ = some (.slice ao Z.length cap) ∧ W.cell? ⟨p, 3, none⟩ = some (.int .i64 (s : Int)) ∧ W.cell? ⟨p, 5, none⟩ = some (.slice fo F.length fc)) (first | exact ⟨k0, k1, k2, k3, k5⟩ | exact ⟨z0, z1, z2, z3, z5⟩ | go_keep)
      (first
        | (go_at_call 52; refine (ofar_new b ao fo cap fc Z F N s w.drew HW.out.drew.arcs HW.out.drew.flow HE.out hs HCM.out).mono ?_; rw [HD.out]; rintro e w4 ⟨gd, gi, rfl, _, hv4, hi4, b4⟩; have HV4 := Lib.hid hv4; have HI4 := Lib.hid hi4; have HB4 := Lib.hid ((below_drew (Below.refl w.heap.size w)).trans b4); have z0 := cell_below (w := w.drew) b4 k0; have z1 := cell_below (w := w.drew) b4 k1; have z2 := cell_below (w := w.drew) b4 k2; have z3 := cell_below (w := w.drew) b4 k3; have z5 := cell_below (w := w.drew) b4 k5; clear b4 hv4 hi4))
    all_goals
      go_wp2
      go_meet
      exact ⟨gd, gi, rfl, rfl, HV4, HI4, HB4⟩
  case rest =>
    obtain ⟨gd, gi, rfl, rfl, HV4, HI4, HB4⟩ := hcut
    clear k0 k1 k2 k3 k5
    obtain ⟨⟨_, _, _, _, k4, _, _, _, _⟩, _⟩ := c9Cells (HW.out.next HB4.out).box
    obtain ⟨db2, dx2, hde2, _, dv⟩ := lst_cell HV4.out HV1.out
    cases hde2
    obtain ⟨ib2, ix2, hie2, _, iv⟩ := lst_cell HI4.out HI1.out
    cases hie2
    unfold encI at dv
    unfold encB at iv
    rw [Nat.zero_add] at dv iv
    rcases hor with rfl | ⟨rfl, hlt⟩
    · go_wp2
      go_ret
      exact ⟨rfl, HB4.out⟩
    · go_wp2
      go_ret
      exact ⟨rfl, HB4.out⟩
set_option maxRecDepth 100000 in
set_option maxHeartbeats 8000000 in
theorem phasten_yes (H x : Int) (w : World) (h : SpW w p N b ao cap Z s t fo fc F m z xo xc X) (he : flowE (N : Int) Z F = 0) (hs : s < N) (ht : t < N) (hcm : calmN Z F N s = true) (hxt : getO (dN Z F N s N) t = some x) (hxH : x ≤ H) :
    Calls Try.prog 41 #[.pointer (some ⟨p, 0, none⟩), .int .i64 H] w fun e w' => ∃ xo' xc', e = .returned (.bool true) ∧ SpW w' p N b ao cap Z s t fo fc F (N : Int) b xo' xc' (fastZ (valsO (dN Z F N s N)) Z) ∧ Kept (fun i => i = p) w w' := by
  obtain ⟨hR, hFl, hzl, hfz, hn1, hn2⟩ := flow_facts (b := b) he
  obtain ⟨⟨k0, k1, k2, k3, k4, k5, k6, k7, k8⟩, _⟩ := c9Cells h.box
  have hpl := h.lt
  have HW := Lib.hid h
  have HE := Lib.hid he
  have HCM := Lib.hid hcm
  have HSN := Lib.hid (span_of (b := b) hR)
  rw [Int.toNat_natCast] at HSN
  have hti : (t : Int) < (N : Int) := by omega
  obtain ⟨d, hd⟩ : ∃ d, dN Z F N s N = d := ⟨_, rfl⟩
  have hdl : d.length = N := by rw [← hd]; exact bellK_len _
  have HD := Lib.hid hd
  have HBD := Lib.hid (dN_bd (F := F) (s := s) HSN.out.time (by omega) hzl)
  rw [hd] at hxt HBD ⊢
  have HI1 : Hid ((isO d)[t]? = some true) := Lib.hid (by rw [isO_at (by omega), hxt]; rfl)
  have HV1 : Hid ((valsO d)[t]? = some x) := Lib.hid (by rw [valsO_at (by omega), hxt]; rfl)
  obtain ⟨V, hV⟩ : ∃ V, valsO d = V := ⟨_, rfl⟩
  have HVV := Lib.hid hV
  rw [hV] at HV1 ⊢
  have HVB : Hid (∀ v, -2147483648000000 ≤ atI V v ∧ atI V v ≤ 2147483648000000) := Lib.hid (fun v => by rw [← hV, valsO_atI]; have := HBD.out.val v; omega)
  have HVL : Hid (V.length = N) := Lib.hid (by rw [← hV, valsO_len]; exact hdl)
  clear hV
  clear h he hcm hd hxt k6 k7 k8 hR hFl hn1 hn2 hfz hdl
  go_enter Try.func41, Try.ntmps41
  go_wp2_with fail
  go_cut [5, 6] (fun p5 p6 wc => ∃ gd gi, p5 = .slice (some ⟨gd, 0, none⟩) N N ∧ p6 = .slice (some ⟨gi, 0, none⟩) N N ∧ w.heap.size ≤ gd ∧ Hid (Lst encI wc (some ⟨gd, 0, none⟩) V) ∧ Hid (Lst encB wc (some ⟨gi, 0, none⟩) (isO d)) ∧ Hid (Below w.heap.size w wc))
  case first =>
    go_region_held3 (fun W => W.cell? ⟨p, 0, none⟩ = some (.int .i64 (N : Int)) ∧ W.cell? ⟨p, 1, none⟩ = some (.bool b) ∧ W.cell? ⟨p, 2, none⟩ = some (.slice ao Z.length cap) ∧ W.cell? ⟨p, 3, none⟩ = some (.int .i64 (s : Int)) ∧ W.cell? ⟨p, 5, none⟩ = some (.slice fo F.length fc)) (first | exact ⟨k0, k1, k2, k3, k5⟩ | exact ⟨z0, z1, z2, z3, z5⟩ | go_keep)
      (first
        | (go_at_call 52; refine (ofar_new b ao fo cap fc Z F N s w.drew HW.out.drew.arcs HW.out.drew.flow HE.out hs HCM.out).mono ?_; rw [HD.out, HVV.out]; rintro e w4 ⟨gd, gi, rfl, ⟨hgd, _⟩, hv4, hi4, b4⟩; have HGD : Hid (w.heap.size ≤ gd) := Lib.hid hgd; have HV4 := Lib.hid hv4; have HI4 := Lib.hid hi4; have HB4 := Lib.hid ((below_drew (Below.refl w.heap.size w)).trans b4); have z0 := cell_below (w := w.drew) b4 k0; have z1 := cell_below (w := w.drew) b4 k1; have z2 := cell_below (w := w.drew) b4 k2; have z3 := cell_below (w := w.drew) b4 k3; have z5 := cell_below (w := w.drew) b4 k5; clear b4 hv4 hi4 hgd))
    all_goals
      go_wp2
      go_meet
      exact ⟨gd, gi, rfl, rfl, HGD.out, HV4, HI4, HB4⟩
  case rest =>
    obtain ⟨gd, gi, rfl, rfl, hgd, HV4, HI4, HB4⟩ := hcut
    clear k0 k1 k2 k3 k5
    have hw4 := HW.out.next HB4.out
    obtain ⟨⟨k0, k1, k2, _, k4, _, _, _, _⟩, _, y6, y7, y8⟩ := c9Cells hw4.box
    have HW4 := Lib.hid hw4
    obtain ⟨db2, dx2, hde2, _, dv⟩ := lst_cell HV4.out HV1.out
    cases hde2
    obtain ⟨ib2, ix2, hie2, _, iv⟩ := lst_cell HI4.out HI1.out
    cases hie2
    unfold encI at dv
    unfold encB at iv
    rw [Nat.zero_add] at dv iv
    clear hw4
    have HBIG : Hid (w.heap.size ≤ wc.heap.size) := Lib.hid HB4.out.size
    clear y6 y7 y8
    obtain ⟨_, y5, y6, y7, y8⟩ := c9Cells HW4.out.box
    obtain ⟨⟨hx5, hk5⟩, _⟩ : _ ∧ True := ⟨HW4.out.setX, trivial⟩
    obtain ⟨⟨z0, z1, z2, _, _, _, _, _, _⟩, _, _, _, fx8⟩ := c9Cells hx5.box
    have HX5 := Lib.hid hx5
    have HK5 := Lib.hid hk5
    clear hx5 hk5
    go_wp2_with (first
      | (go_at_call 53; refine (pclone_any ao cap Z _ HX5.out.arcs hzl).mono ?_; rintro e w6 ⟨v6, rfl, ho6, b6⟩; obtain ⟨xo, xc, rfl, hr6⟩ := ho6.row; have HI6 := Lib.hid (HsI.start HW4.out HX5.out HK5.out ho6 b6); have fx8 := frozen_whole (HX5.out.next b6).box 8; have cx8 := cell_whole (HX5.out.next b6).box 8; have q2 := cell_whole HI6.out.box 2; clear ho6 b6 hr6))
    have HBASE : Hid (w.heap.size ≤ (((wc.setCell ⟨p, 6, none⟩ (.int .i64 (N : Int))).setCell ⟨p, 7, none⟩ (.bool b)).setCell ⟨p, 8, none⟩ (.slice ao Z.length cap)).heap.size) := Lib.hid (by have h1 := HBIG.out; have h2 := HK5.out.size; omega)
    generalize (((wc.setCell ⟨p, 6, none⟩ (.int .i64 (N : Int))).setCell ⟨p, 7, none⟩ (.bool b)).setCell ⟨p, 8, none⟩ (.slice ao Z.length cap)).heap.size = base at *
    clear dv iv k0 k1 k2 k4 y5 y6 y7 y8 z0 z1 z2 fx8 cx8 q2 hti
    clear HX5 HK5
    go_loopw [69] (fun iv wr => ∃ k : Nat, k ≤ Z.length ∧ iv = .int .i64 (k : Int) ∧ Hid (HsI wc wr p N b ao cap Z s t fo fc F base xo xc (partZ V Z k))) (fun iv _ => Z.length - (intOf iv).toNat)
    case atStart => exact ⟨0, Nat.zero_le _, rfl, by rw [partZ_0]; exact HI6⟩
    case round =>
      clear HI6
      obtain ⟨k, hk, rfl, HS⟩ := hrel
      by_cases hlt : k < Z.length
      · have hli : (k : Int) < (Z.length : Int) := by omega
        have hSP := HS.out.spw HW4.out
        obtain ⟨ab, ax, e, hab, c0, c1, c2, c3⟩ := hSP.arcs.arc hlt
        cases e
        have hmem : Z[k] ∈ Z := List.getElem_mem hlt
        obtain ⟨a1, a2⟩ := HSN.out.ends _ hmem
        obtain ⟨a3, a4⟩ := HSN.out.lt _ hmem
        have a5 := HSN.out.times _ hmem
        have HPS := Lib.hid (partZ_set (V := V) hlt)
        have HPA := Lib.hid (partZ_at (V := V) hlt)
        have HSM := Lib.hid (fun h => partZ_same (V := V) (Z := Z) hlt h)
        generalize Z[k] = a at *
        obtain ⟨uf, huf⟩ : ∃ uf, frN a = uf := ⟨_, rfl⟩
        obtain ⟨ut, hut⟩ : ∃ ut, toN a = ut := ⟨_, rfl⟩
        have hfa : fastA V a = if atI V ut - atI V uf = a.2.2.2 then a else (a.1, a.2.1, 0, a.2.2.2) := by unfold fastA; rw [huf, hut]; rfl
        rw [huf] at a1 a3
        rw [hut] at a2 a4
        have HFA := Lib.hid hfa
        unfold tm at a5
        have hVl := HVL.out
        have hVK := lst_offP HV4.out HS.out.kept (fun ad e _ => by cases e; show ¬ gd = p; omega)
        obtain ⟨db, dx, hde, _, du⟩ := lst_cell hVK (atI_get (d := V) (v := uf) (by omega))
        cases hde
        obtain ⟨db, dx, hde, _, dv⟩ := lst_cell hVK (atI_get (d := V) (v := ut) (by omega))
        cases hde
        unfold encI at du dv
        rw [Nat.zero_add] at du dv
        have b1 := HVB.out uf
        have b2 := HVB.out ut
        have hui : (uf : Int) < (N : Int) := by omega
        have hti : (ut : Int) < (N : Int) := by omega
        obtain ⟨x1, x2, x3, x4⟩ := a
        simp only at c0 c1 c2 c3 a1 a2 a5 hfa
        subst a1
        subst a2
        have HSP := Lib.hid hSP
        clear hmem huf hut hfa hSP hVK hVl
        go_wp2_with fail
        have du := cell_alloc du (.cells #[.int .i64 (uf : Int), .int .i64 (ut : Int), .int .i64 x3, .int .i64 x4] 40)
        have dv := cell_alloc dv (.cells #[.int .i64 (uf : Int), .int .i64 (ut : Int), .int .i64 x3, .int .i64 x4] 40)
        have e0 := cell_new wr #[.int .i64 (uf : Int), .int .i64 (ut : Int), .int .i64 x3, .int .i64 x4] 40 0
        have e1 := cell_new wr #[.int .i64 (uf : Int), .int .i64 (ut : Int), .int .i64 x3, .int .i64 x4] 40 1
        have e3 := cell_new wr #[.int .i64 (uf : Int), .int .i64 (ut : Int), .int .i64 x3, .int .i64 x4] 40 3
        have HSX := Lib.hid (HS.out.next ((Below.refl _ wr).alloc (Nat.le_refl _) (.cells #[.int .i64 (uf : Int), .int .i64 (ut : Int), .int .i64 x3, .int .i64 x4] 40)))
        obtain ⟨gb, hgb⟩ : ∃ gb, wr.heap.size = gb := ⟨_, rfl⟩
        rw [hgb] at e0 e1 e3 ⊢
        generalize wr.alloc (.cells #[.int .i64 (uf : Int), .int .i64 (ut : Int), .int .i64 x3, .int .i64 x4] 40) = wx at *
        clear c0 c1 c2 c3 hgb
        have hwr : IntKind.i64.wrap (atI V ut - atI V uf) = atI V ut - atI V uf := IntWalk.i64_in _ (by omega)
        generalize atI V ut = yt at *
        generalize atI V uf = yf at *
        by_cases hc : yt - yf = x4
        · have hcc : (yt - yf != x4) = false := by simpa using hc
          have HNX : Hid (partZ V Z (k + 1) = partZ V Z k) := Lib.hid (HSM.out (by rw [HFA.out, if_pos hc])).symm
          go_quiet (fail)
          go_wp2
          go_roundw
          case rel => exact ⟨k + 1, by omega, by go_num, by rw [HNX.out]; exact Lib.hid (HSX.out.next (below_drewN (Below.refl _ _) _))⟩
          case measure => simp [intOf]; omega
        · have hcc : (yt - yf != x4) = true := by simpa using hc
          obtain ⟨g, cp, e4, hg5, hgl⟩ := own_someC HSX.out.own (by rw [partZ_len]; omega)
          injection e4 with e6 e7 e8
          subst e6
          have HNX : Hid (partZ V Z (k + 1) = (partZ V Z k).set k ((uf : Int), (ut : Int), 0, x4)) := Lib.hid (by rw [← HPS.out, HFA.out, if_neg hc])
          have h8 := cell_whole HSX.out.box 8
          obtain ⟨g1, g2⟩ := HSX.out.own.cap HPA.out
          rw [partZ_len] at h8
          go_quiet (fail)
          go_wp2
          go_roundw
          case rel => exact ⟨k + 1, by omega, by go_num, by rw [HNX.out]; exact Lib.hid ((HSX.out.next (below_drewN (Below.refl _ _) _)).cut (by have := HBASE.out; omega) HPA.out 0)⟩
          case measure => simp [intOf]; omega
      · have hli : ¬ (k : Int) < (Z.length : Int) := by omega
        obtain rfl : k = Z.length := by omega
        have HE9 := Lib.hid (partZ_end V Z)
        have HK9 := Lib.hid ((Kept.of_below (S := fun i => i = p) HB4.out).trans HS.out.kept (fun i _ e => e))
        go_wp2
        go_ret
        exact ⟨rfl, ⟨xo, xc, by rw [← HE9.out]; exact HS.out.spw HW4.out⟩, HK9.out⟩
end
end Go.Proofs.Ytekcnglkfglbfaa
