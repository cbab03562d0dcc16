/- What is left of a flow, in memory; the path along it: package decomp's path. -/
import Derived.Test.YtmflleifglefiaaDCat
import Derived.Test.YtmflleifglefiaaGCln
import Derived.Test.YtmflleifglefiaaDSpw
namespace Go.Proofs.Ytmflleifglefiaa
open Go.RowKit
set_option linter.unusedVariables false

theorem OwnC.rowL {w : World} {B : Nat} {ao : Option Addr} {n cap : Nat} {L : List ArcT} (h : OwnC w B (.slice ao n cap) L) : Row encA 4 w ao L := own_rowK encA_len h
/-- What is left: the arcs with their rests in a row of the call's own, and zeros elsewhere. -/
structure RstW (w : World) (B : Nat) (ao : Option Addr) (cap : Nat) (zo : Option Addr) (nl : Nat) (Z : List ArcT) (f : List Int) : Prop where
  len : Z.length = nl
  flow : Flow Z f
  own : OwnC w B (.slice ao nl cap) (restZ Z f)
  zer : Lst encI w zo (zerosK nl)
  sep : ∀ ad, zo = some ad → 0 < nl → ¬ OwnB (.slice ao nl cap) ad.block
section
variable {w w' : World} {B : Nat} {ao : Option Addr} {cap : Nat} {zo : Option Addr} {nl : Nat} {Z : List ArcT} {f : List Int}
theorem RstW.below (h : RstW w B ao cap zo nl Z f) (hb : Below w.heap.size w w') : RstW w' B ao cap zo nl Z f := ⟨h.len, h.flow, h.own.below hb, h.zer.below hb, h.sep⟩
theorem RstW.row (h : RstW w B ao cap zo nl Z f) : Row encA 4 w ao (restZ Z f) := h.own.rowL
theorem RstW.lens (h : RstW w B ao cap zo nl Z f) : (restZ Z f).length = nl ∧ f.length = nl ∧ (zerosK nl).length = nl := ⟨by rw [restZ_len h.flow.1, h.len], by rw [h.flow.1, h.len], zerosK_len nl⟩
end
section
variable (N : Nat) (b : Bool) (B : Nat) (ao : Option Addr) (cap : Nat) (zo : Option Addr) (zc nl : Nat) (Z : List ArcT) (f : List Int)
theorem vpath_rest (i j : Nat) (w : World) (h : RstW w B ao cap zo nl Z f) (hc : checkE (N : Int) Z = 0) (hnl : nl ≤ 200) (hi : i < N) (hj : j < N) (hij : i ≠ j) :
    Calls Try.prog 63 #[.agg #[.int .i64 (N : Int), .bool b, .slice ao nl cap], .slice zo nl zc, .int .i64 (i : Int), .int .i64 (j : Int)] w fun e w' =>
      ∃ a c, e = .returned (.tuple #[.slice a ((wayK (fromS Z) (toS Z) (alongL f) N i j).getD []).length c, .bool (wayK (fromS Z) (toS Z) (alongL f) N i j).isSome, .int .i64 0]) ∧ Row encS 2 w' a ((wayK (fromS Z) (toS Z) (alongL f) N i j).getD []) ∧ Below w.heap.size w w' := by
  obtain ⟨l1, l2, l3⟩ := h.lens
  obtain ⟨p1, p2⟩ := restZ_way hc h.flow hi hj hij
  rw [h.len] at p1 p2
  have hv := vpath_any (N : Int) b ao zo cap zc (restZ Z f) (zerosK nl) (i : Int) (j : Int) w h.row h.zer (by rw [l1]; unfold maxLen; omega) (by rw [l3]; unfold maxLen; omega)
  rw [l1, l3] at hv
  refine hv.mono ?_
  rintro e w' ⟨a, c, he, hr, hb⟩
  have e1 : wayL (N : Int) (restZ Z f) (zerosK nl) (i : Int) (j : Int) = (wayK (fromS Z) (toS Z) (alongL f) N i j).getD [] := by unfold wayL; rw [p2]
  have e2 : wayB (N : Int) (restZ Z f) (zerosK nl) (i : Int) (j : Int) = (wayK (fromS Z) (toS Z) (alongL f) N i j).isSome := by unfold wayB; rw [p2]
  rw [e1, e2, p1] at he
  rw [e1] at hr
  exact ⟨a, c, he, hr, hb⟩
/-- What path tells. -/
def DPathRes (o : Option (List StepT)) (w : World) (e : Ending) (w' : World) : Prop :=
  (o = none ∧ e = .returned (.tuple #[.slice none 0 0, .bool false]) ∧ Below w.heap.size w w') ∨
  (∃ l v, o = some l ∧ e = .returned (.tuple #[v, .bool true]) ∧ OwnL encI w' w.heap.size 3 v (arcsL l) ∧ Below w.heap.size w w')
set_option maxRecDepth 100000 in
set_option maxHeartbeats 8000000 in
theorem dpath_at (i j : Nat) (w : World) (h : RstW w B ao cap zo nl Z f) (hc : checkE (N : Int) Z = 0) (hnl : nl ≤ 200) (hN : N ≤ 50) (hi : i < N) (hj : j < N) (hij : i ≠ j) :
    Calls Try.prog 49 #[.agg #[.int .i64 (N : Int), .bool b, .slice ao nl cap, .slice zo nl zc], .int .i64 (i : Int), .int .i64 (j : Int)] w (DPathRes (wayK (fromS Z) (toS Z) (alongL f) N i j) w) := by
  have hb00 := (Below.refl _ w).alloc (Nat.le_refl _) (.cells #[.int .i64 (N : Int), .bool b, .slice ao nl cap, .slice zo nl zc] 57)
  have hn0 := heap_alloc_new w (.cells #[.int .i64 (N : Int), .bool b, .slice ao nl cap, .slice zo nl zc] 57)
  have c0 := cell_whole hn0 0
  have c1 := cell_whole hn0 1
  have c2 := cell_whole hn0 2
  have c3 := cell_whole hn0 3
  have HB0 := Lib.hid hb00
  have HCALL := Lib.hid (vpath_rest N b B ao cap zo zc nl Z f i j _ (h.below hb00) hc hnl hi hj hij)
  have HWN : Hid (∀ l, wayK (fromS Z) (toS Z) (alongL f) N i j = some l → l.length ≤ 100000) := Lib.hid (fun l hw => by
    obtain ⟨hZ1, hZ2, _⟩ := netD (b := true) (right_iff.1 hc)
    rw [Int.toNat_natCast] at hZ2
    obtain ⟨w1', w2, w3, w4'⟩ := way_props hi (fun y hy => (along_to hZ2 h.flow.1 y hy).1) hw
    have h1 : l.length = (l.map (toS Z)).length := by simp
    rw [h1]
    have h2 := nodup_le (N := N) w3 (fun v hv => by
      obtain ⟨y, hy, rfl⟩ := List.mem_map.1 hv
      exact (along_to hZ2 h.flow.1 y (w2 y hy)).1)
    omega)
  obtain ⟨W, hW⟩ : ∃ W, wayK (fromS Z) (toS Z) (alongL f) N i j = W := ⟨_, rfl⟩
  rw [hW] at HCALL HWN ⊢
  clear h hc hb00 hn0 hW
  go_enter Try.func49, Try.ntmps49
  go_wp2_with (first
    | (go_at_call 63; refine HCALL.out.mono ?_; rintro e w4 ⟨la, lc, rfl, hr4, hb4⟩; have HR4 := Lib.hid hr4; have HB4 := Lib.hid (HB0.out.trans (hb4.mono HB0.out.size)); clear hr4 hb4 c0 c1 c2 c3))
  clear HCALL
  obtain ⟨L, hL⟩ : ∃ L, W.getD [] = L := ⟨_, rfl⟩
  have HLE := Lib.hid hL
  have hLL : L.length ≤ 100000 := by
    rw [← hL]
    cases W with
    | none => simp
    | some l => exact HWN.out l rfl
  rw [hL] at HR4 ⊢
  clear hL
  go_loopw [6, 25] (fun ov iv wr => ∃ k : Nat, k ≤ L.length ∧ iv = .int .i64 (k : Int) ∧ Hid (k = 0 → ov = .slice none 0 0) ∧ Hid (Below w4.heap.size w4 wr) ∧ Hid (OwnL encI wr w4.heap.size 3 ov (arcsL (L.take k)))) (fun _ iv _ => L.length - (intOf iv).toNat)
  case atStart => exact ⟨0, Nat.zero_le _, rfl, Lib.hid (fun _ => rfl), Lib.hid (Below.refl _ _), Lib.hid (OwnL.nil _ _ _)⟩
  case round =>
    obtain ⟨k, hk, rfl, HK0, HB, HO⟩ := hrel
    have hsz := HB.out.size
    by_cases hlt : k < L.length
    · have hli : (k : Int) < (L.length : Int) := by omega
      obtain ⟨lb, lx, e, hlb, s0, s1⟩ := step_at (HR4.out.below' HB.out) (List.getElem?_eq_getElem hlt)
      cases e
      have hSl : (arcsL (L.take k)).length ≤ 200000 := by rw [arcsL_len, List.length_take]; omega
      have HS := Lib.hid (arcsL_take hlt)
      generalize L[k] = y at *
      generalize arcsL (L.take k) = S at *
      obtain ⟨p, q⟩ := y
      simp only at s0 s1
      obtain ⟨oo, oc, hov, _⟩ := HO.out.lst
      subst hov
      have e0 := cell_new wr #[.int .i64 p, .bool q] 90 0
      have HOX := Lib.hid (HO.out.alloc (.cells #[.int .i64 p, .bool q] 90))
      have HBX := Lib.hid (HB.out.alloc hsz (.cells #[.int .i64 p, .bool q] 90))
      go_wp2_with (first
        | (at_builtin; refine wpList_append_one (enc := encI) Try.underlying25 infoInt rfl (by omega) rfl _ _ rfl w4.heap.size _ S p rfl rfl (HOX.out.alloc (.cells #[.int .i64 p] 3)) _ 1 rfl (cell_whole (new_whole1 _ _ _) 0) hSl (by simp; omega) ?_; intro g4 cap4 w5 ho5 hg5 hl5 hb5 hlt5; have HO5 := Lib.hid ho5; have HB5 := Lib.hid (below_grown (HBX.out.alloc HBX.out.size (.cells #[.int .i64 p] 3)) (by simp; omega) hg5 (fun g e => own_block HO.out e)); clear ho5 hg5 hl5))
      go_roundw
      case rel => exact ⟨k + 1, by omega, by go_num, Lib.hid (fun e => by omega), HB5, Lib.hid (by rw [HS.out]; exact HO5.out)⟩
      case measure => simp [intOf]; omega
    · have hli : ¬ (k : Int) < (L.length : Int) := by omega
      obtain rfl : k = L.length := by omega
      rw [List.take_length] at HO
      cases W with
      | none =>
        have hl0 : L = [] := HLE.out.symm
        have h0 := HK0.out (by rw [hl0]; rfl)
        subst h0
        go_wp2
        go_ret2
        exact .inl ⟨rfl, rfl, HB4.out.trans (HB.out.mono HB4.out.size)⟩
      | some l =>
        have hl0 : L = l := HLE.out.symm
        subst hl0
        go_wp2
        go_ret2
        exact .inr ⟨_, _, rfl, rfl, HO.out.mono HB4.out.size, HB4.out.trans (HB.out.mono HB4.out.size)⟩
end
end Go.Proofs.Ytmflleifglefiaa
