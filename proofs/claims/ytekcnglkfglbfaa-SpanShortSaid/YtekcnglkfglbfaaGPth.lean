/- The flow along the arcs that can be on fastest ways, and a way with room along them: package span's fastFlow and path. -/
import Derived.Test.YtekcnglkfglbfaaGMem
namespace Go.Proofs.Ytekcnglkfglbfaa
open Go.RowKit
set_option linter.unusedVariables false

theorem min_len {F : List Int} {X : List ArcT} (h : F.length = X.length) : (minF F X).length = F.length := by unfold minF; rw [List.length_zipWith]; omega
theorem min_get {F : List Int} {X : List ArcT} {k : Nat} {x : Int} {a : ArcT} (h1 : F[k]? = some x) (h2 : X[k]? = some a) : (minF F X)[k]? = some (min x (capN a)) := by
  unfold minF
  rw [List.getElem?_zipWith, h1, h2]
def putK (A : List Int) (k : Nat) : List Int := A.take k ++ List.replicate (A.length - k) 0
theorem putK_len {A : List Int} {k : Nat} (h : k ≤ A.length) : (putK A k).length = A.length := by unfold putK; rw [List.length_append, List.length_take, List.length_replicate]; omega
theorem putK_set {A : List Int} {k : Nat} {x : Int} (h : A[k]? = some x) : (putK A k).set k x = putK A (k + 1) := by
  obtain ⟨hk, rfl⟩ := List.getElem?_eq_some_iff.1 h
  unfold putK
  rw [List.set_append_right _ _ (by rw [List.length_take]; omega), List.length_take, show k - min k A.length = 0 by omega, List.take_succ_eq_append_getElem hk, show A.length - k = (A.length - (k + 1)) + 1 by omega, List.replicate_succ, List.set_cons_zero, List.append_assoc]
  rfl
section
variable (p N : Nat) (b : Bool) (ao : Option Addr) (cap : Nat) (Z : List ArcT) (s t : Nat) (fo : Option Addr) (fc : Nat) (F : List Int) (m : Int) (z : Bool) (xo : Option Addr) (xc : Nat) (X : List ArcT)
set_option maxRecDepth 100000 in
set_option maxHeartbeats 4000000 in
theorem pfastflow_at (w : World) (h : SpW w p N b ao cap Z s t fo fc F m z xo xc X) (hl : F.length = X.length) (hz : X.length ≤ 200) :
    Calls Try.prog 55 #[.pointer (some ⟨p, 0, none⟩)] w fun e w' => ∃ g, e = .returned (.slice (some ⟨g, 0, none⟩) (minF F X).length F.length) ∧ Lst encI w' (some ⟨g, 0, none⟩) (minF F X) ∧ Below w.heap.size w w' := by
  obtain ⟨⟨k0, k1, k2, k3, k4, k5, k6, k7, k8⟩, _⟩ := c9Cells h.box
  have H := Lib.hid h
  have hlt := h.lt
  have HML := Lib.hid (min_len hl)
  have hfl : F.length ≤ 200 := by omega
  obtain ⟨A, hA⟩ : ∃ A, minF F X = A := ⟨_, rfl⟩
  have HG : Hid (∀ k x a, F[k]? = some x → X[k]? = some a → A[k]? = some (min x (capN a))) := Lib.hid (fun k x a h1 h2 => by rw [← hA]; exact min_get h1 h2)
  rw [hA] at HML ⊢
  have HL := Lib.hid hl
  clear h hA hl
  go_enter Try.func55, Try.ntmps55
  go_wp2_with (first
    | (at_make; refine wpList_make_L (enc := encI) 0 Try.underlying25 infoInt rfl (by omega) rfl _ _ rfl F.length rfl rfl (by omega) ?_; intro w2 ho2 hb2; have HO2 := Lib.hid ho2; have HB2 := Lib.hid hb2; have k8 := cell_below hb2 k8; clear ho2 hb2 k5))
  obtain ⟨g, hg⟩ : ∃ g, w.heap.size = g := ⟨_, rfl⟩
  have HGE := Lib.hid hg
  rw [hg] at HO2 HB2 ⊢
  clear hg
  go_loopw [18] (fun iv wr => ∃ k : Nat, k ≤ F.length ∧ iv = .int .i64 (k : Int) ∧ Hid (OwnL encI wr g 3 (.slice (some ⟨g, 0, none⟩) F.length F.length) (putK A k)) ∧ Hid (Below g w wr)) (fun iv _ => F.length - (intOf iv).toNat)
  case atStart => exact ⟨0, Nat.zero_le _, rfl, Lib.hid (by unfold putK; rw [HML.out]; simpa using HO2.out), HB2⟩
  case round =>
    clear HO2 HB2 k0 k1 k2 k3 k4 k6 k7 k8
    obtain ⟨k, hk, rfl, HO, HB⟩ := hrel
    have HW := Lib.hid (H.out.next (by rw [HGE.out]; exact HB.out))
    by_cases hlt2 : k < F.length
    · have hlx : k < X.length := by have := HL.out; omega
      have hli : (k : Int) < (X.length : Int) := by have := HL.out; omega
      have hlf : (k : Int) < (F.length : Int) := by omega
      obtain ⟨xb, xx, e, hxb, c0, c1, c2, c3⟩ := HW.out.fast.arc hlx
      cases e
      have HAG := Lib.hid (HG.out k _ _ (List.getElem?_eq_getElem hlt2) (List.getElem?_eq_getElem hlx))
      generalize X[k] = a at *
      obtain ⟨xf, xt, xcp, xu⟩ := a
      simp only at c0 c1 c2 c3
      unfold capN at HAG
      simp only at HAG
      go_wp2_with fail
      have HWX := Lib.hid (HW.out.alloc (.cells #[.int .i64 xf, .int .i64 xt, .int .i64 xcp, .int .i64 xu] 40))
      have hox := HO.out.below ((Below.refl _ wr).alloc (Nat.le_refl _) (.cells #[.int .i64 xf, .int .i64 xt, .int .i64 xcp, .int .i64 xu] 40))
      have hbx := HB.out.alloc (by have h1 := HB.out.size; have h2 := HGE.out; omega) (.cells #[.int .i64 xf, .int .i64 xt, .int .i64 xcp, .int .i64 xu] 40)
      have HOX := Lib.hid hox
      have HBX := Lib.hid hbx
      have e2 := cell_new wr #[.int .i64 xf, .int .i64 xt, .int .i64 xcp, .int .i64 xu] 40 2
      obtain ⟨gb, hgb⟩ : ∃ gb, wr.heap.size = gb := ⟨_, rfl⟩
      rw [hgb] at e2 ⊢
      generalize wr.alloc (.cells #[.int .i64 xf, .int .i64 xt, .int .i64 xcp, .int .i64 xu] 40) = wx at *
      obtain ⟨⟨_, _, _, _, _, k5, _, _, _⟩, _⟩ := c9Cells HWX.out.box
      obtain ⟨fb, fx, e, hfb, d0⟩ := lst_cell HWX.out.flow (List.getElem?_eq_getElem hlt2)
      cases e
      unfold encI at d0
      obtain ⟨cy, fy⟩ := HOX.out.cell (atI_get (d := putK A k) (v := k) (by have := HML.out; rw [putK_len (by omega)]; omega))
      unfold encI at cy
      generalize F[k] = x at *
      generalize atI (putK A k) k = y at *
      clear hox hbx c0 c1 c2 c3
      go_region
      go_wp2
      go_roundw
      case rel => exact ⟨k + 1, by omega, by go_num, Lib.hid (by rw [← putK_set HAG.out]; exact (HOX.out.put k _).below (below_drew (Below.refl _ _))), Lib.hid (below_drew (below_set HBX.out (Nat.le_refl _) _))⟩
      case measure => simp [intOf]; omega
    · have hli : ¬ (k : Int) < (X.length : Int) := by have := HL.out; omega
      obtain rfl : k = F.length := by omega
      have HE : Hid (putK A F.length = A) := Lib.hid (by unfold putK; rw [List.take_of_length_le (by rw [HML.out]; omega), HML.out]; simp)
      go_wp2
      go_ret
      refine ⟨g, by rw [HML.out]; rfl, ?_, by rw [HGE.out]; exact HB.out⟩
      have := HO.out.lstK
      rwa [HE.out] at this
/-- What path tells. -/
def PPathRes (F : List Int) (X : List ArcT) (N s t : Nat) (w : World) (e : Ending) (w' : World) : Prop :=
  ∃ a c, e = .returned (.tuple #[.slice a (wayL (N : Int) X (minF F X) (s : Int) (t : Int)).length c, .bool (wayB (N : Int) X (minF F X) (s : Int) (t : Int))]) ∧ Row encS 2 w' a (wayL (N : Int) X (minF F X) (s : Int) (t : Int)) ∧ Below w.heap.size w w'
set_option maxRecDepth 100000 in
set_option maxHeartbeats 4000000 in
theorem ppath_at (w : World) (h : SpW w p N b ao cap Z s t fo fc F (N : Int) b xo xc X) (hl : F.length = X.length) (hz : X.length ≤ 200) :
    Calls Try.prog 42 #[.pointer (some ⟨p, 0, none⟩)] w (PPathRes F X N s t w) := by
  obtain ⟨⟨k0, k1, k2, k3, k4, k5, k6, k7, k8⟩, _⟩ := c9Cells h.box
  have H := Lib.hid h
  have HL := Lib.hid hl
  have HZ : Hid (X.length ≤ maxLen) := Lib.hid (by unfold maxLen; omega)
  have HM : Hid ((minF F X).length ≤ maxLen) := Lib.hid (by rw [min_len hl]; unfold maxLen; omega)
  clear h hl k0 k1 k2 k5
  go_enter Try.func42, Try.ntmps42
  go_wp2_with fail
  go_region_held3 (fun W => W.cell? ⟨p, 3, none⟩ = some (.int .i64 (s : Int)) ∧ W.cell? ⟨p, 4, none⟩ = some (.int .i64 (t : Int)) ∧ W.cell? ⟨p, 6, none⟩ = some (.int .i64 (N : Int)) ∧ W.cell? ⟨p, 7, none⟩ = some (.bool b) ∧ W.cell? ⟨p, 8, none⟩ = some (.slice xo X.length xc)) (first | exact ⟨k3, k4, k6, k7, k8⟩ | exact ⟨z3, z4, z6, z7, z8⟩ | exact ⟨y3, y4, y6, y7, y8⟩ | go_keep)
    (first
      | (go_at_call 55; refine (pfastflow_at p N b ao cap Z s t fo fc F (N : Int) b xo xc X w.drew H.out.drew HL.out hz).mono ?_; rintro e w4 ⟨g4, rfl, hf4, b4⟩; have HW4 := Lib.hid (H.out.drew.next b4); have HF4 := Lib.hid hf4; have HB4 := Lib.hid ((below_drew (Below.refl w.heap.size w)).trans b4); have z3 := cell_below (w := w.drew) b4 k3; have z4 := cell_below (w := w.drew) b4 k4; have z6 := cell_below (w := w.drew) b4 k6; have z7 := cell_below (w := w.drew) b4 k7; have z8 := cell_below (w := w.drew) b4 k8; clear b4 hf4)
      | (go_at_call 54; refine (vpath_any (N : Int) b xo (some ⟨g4, 0, none⟩) xc F.length X (minF F X) (s : Int) (t : Int) w4 HW4.out.fast HF4.out HZ.out HM.out).mono ?_; rintro e w5 ⟨a5, c5, rfl, hr5, b5⟩; have HR5 := Lib.hid hr5; have HB5 := Lib.hid (HB4.out.trans (b5.mono HB4.out.size)); have y3 := cell_below b5 z3; have y4 := cell_below b5 z4; have y6 := cell_below b5 z6; have y7 := cell_below b5 z7; have y8 := cell_below b5 z8; clear b5 hr5))
  all_goals
    go_wp2
    go_ret2
    exact ⟨a5, c5, rfl, HR5.out, HB5.out⟩
end
end Go.Proofs.Ytekcnglkfglbfaa
