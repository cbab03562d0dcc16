/- Two networks, two rows of moves and two rows of numbers of the document: are they the same. -/
import Derived.Test.YtbkmfjegbmjknaaBX
import Derived.Test.YtbkmfjegbmjknaaBR
namespace Go.Proofs.Ytbkmfjegbmjknaa
open Go.RowKit
set_option linter.unusedVariables false

theorem arc_eq {x y : ArcT} (h : x = y) : (!(x.1 == y.1 && x.2.1 == y.2.1 && x.2.2.1 == y.2.2.1 && x.2.2.2 == y.2.2.2)) = false := by subst h; simp
theorem arc_ne {x y : ArcT} (h : x ≠ y) : (!(x.1 == y.1 && x.2.1 == y.2.1 && x.2.2.1 == y.2.2.1 && x.2.2.2 == y.2.2.2)) = true := by
  obtain ⟨x1, x2, x3, x4⟩ := x
  obtain ⟨y1, y2, y3, y4⟩ := y
  rcases hb : (!(x1 == y1 && x2 == y2 && x3 == y3 && x4 == y4)) with _ | _
  · exfalso; apply h; simp at hb; simp [hb]
  · rfl
set_option maxHeartbeats 2000000 in
theorem samearcs_some (a b : Addr) (ca cb : Nat) (Y Z : List ArcT) (w : World) (hl : Y.length = Z.length) (ha : Row encA 4 w (some a) Y) (hb : Row encA 4 w (some b) Z) (hs : Z.length ≤ 1099511627776) :
    Calls Try.prog 70 #[.slice (some a) Z.length ca, .slice (some b) Z.length cb] w fun e w' => e = .returned (.bool (decide (Y = Z))) ∧ ∃ n, w' = w.drewN n := by
  have HA := Lib.hid ha
  have HB := Lib.hid hb
  have HL := Lib.hid hl
  clear ha hb
  go_enter Try.func70, Try.ntmps70
  go_wp2
  go_loopw [5] (fun si wr => ∃ (i n : Nat), i ≤ Z.length ∧ Hid (wr = w.drewN n) ∧ si = .int .i64 (i : Int) ∧ Hid (Y.take i = Z.take i)) (fun si _ => Z.length - (intOf si).toNat)
  case atStart => exact ⟨0, 0, by omega, Lib.hid rfl, rfl, Lib.hid rfl⟩
  case round =>
    obtain ⟨i, n, hi, HW, rfl, HT⟩ := hrel
    by_cases hlt : i < Z.length
    · have hli : (i : Int) < (Z.length : Int) := by omega
      have hlt2 : i < Y.length := by omega
      obtain ⟨ab, ax, e, _, c0, c1, c2, c3⟩ := HA.out.arc hlt2
      cases e
      obtain ⟨bb, bx, e, _, d0, d1, d2, d3⟩ := HB.out.arc hlt
      cases e
      have HS1 := Lib.hid (List.take_succ_eq_append_getElem hlt2)
      have HS2 := Lib.hid (List.take_succ_eq_append_getElem hlt)
      have hneq : Y[i] ≠ Z[i] → Y ≠ Z := fun h e => h (by subst e; rfl)
      generalize Y[i] = x at *
      generalize Z[i] = y at *
      have c0' := cell_drew HW.out c0
      have c1' := cell_drew HW.out c1
      have c2' := cell_drew HW.out c2
      have c3' := cell_drew HW.out c3
      have d0' := cell_drew HW.out d0
      have d1' := cell_drew HW.out d1
      have d2' := cell_drew HW.out d2
      have d3' := cell_drew HW.out d3
      clear c0 c1 c2 c3 d0 d1 d2 d3
      have e1 := fun W => ne_arc x.1 x.2.1 x.2.2.1 x.2.2.2 y.1 y.2.1 y.2.2.1 y.2.2.2 W
      by_cases hxy : x = y
      · have e2 := arc_eq hxy
        have HXY := Lib.hid hxy
        clear hxy hneq
        go_wp2
        go_quiet (fail)
        go_wp2
        go_roundw
        case rel => exact ⟨i + 1, n + nq, by omega, Lib.hid (by rw [HW.out, World.drewN_drewN]), by go_num, Lib.hid (by rw [HS1.out, HS2.out, HT.out, HXY.out])⟩
        case measure => simp [intOf]; omega
      · have e2 := arc_ne hxy
        have HNE := Lib.hid (hneq hxy)
        clear hxy hneq
        go_wp2
        go_quiet (fail)
        go_wp2
        go_ret
        exact ⟨ret_bool (decide_eq_false HNE.out).symm, n + nq, by rw [HW.out, World.drewN_drewN]⟩
    · have hli : (Z.length : Int) ≤ (i : Int) := by omega
      have hE : Y = Z := by
        have := HT.out
        rwa [List.take_of_length_le (by omega), List.take_of_length_le (by omega)] at this
      have HE := Lib.hid hE
      clear hE
      go_wp2
      go_ret
      exact ⟨ret_bool (decide_eq_true HE.out).symm, n, HW.out⟩
theorem samearcs_nil (a b : Option Addr) (ca cb : Nat) (w : World) : Calls Try.prog 70 #[.slice a 0 ca, .slice b 0 cb] w fun e w' => e = .returned (.bool true) ∧ ∃ n, w' = w.drewN n := by
  go_enter Try.func70, Try.ntmps70
  go_wp2
  refine wp_loop_rounds 1 ?_
  rw [rounds_succ]
  go_wp2
  go_ret
  exact ⟨rfl, 0, rfl⟩
theorem samearcs_len (a b : Option Addr) (la lb ca cb : Nat) (w : World) (h : la ≠ lb) : Calls Try.prog 70 #[.slice a la ca, .slice b lb cb] w fun e w' => e = .returned (.bool false) ∧ ∃ n, w' = w.drewN n := by
  have hne : ((la : Int) == (lb : Int)) = false := by simp; omega
  have hne2 : ((la : Int) != (lb : Int)) = true := by rw [bne, hne]; rfl
  go_enter Try.func70, Try.ntmps70
  go_wp2
  go_ret
  exact ⟨rfl, 0, rfl⟩
theorem samearcs_any (a b : Option Addr) (ca cb : Nat) (Y Z : List ArcT) (w : World) (ha : Row encA 4 w a Y) (hb : Row encA 4 w b Z) (hs : Z.length ≤ 1099511627776) :
    Calls Try.prog 70 #[.slice a Y.length ca, .slice b Z.length cb] w fun e w' => e = .returned (.bool (decide (Y = Z))) ∧ ∃ n, w' = w.drewN n := by
  by_cases hl : Y.length = Z.length
  · cases Z with
    | nil =>
      have : Y = [] := List.eq_nil_of_length_eq_zero (by simpa using hl)
      subst this
      exact samearcs_nil a b ca cb w
    | cons z Z =>
      obtain ⟨b1, o1, rfl, _⟩ := ha 0 (by rw [hl]; simp)
      obtain ⟨b2, o2, rfl, _⟩ := hb 0 (by simp)
      rw [hl]
      exact samearcs_some _ _ ca cb _ _ w hl ha hb hs
  · rw [decide_eq_false (fun e => hl (by rw [e]))]
    exact samearcs_len a b _ _ ca cb w hl
def sameB (n m : NetT) : Bool := n.1 == m.1 && (n.2.1 == m.2.1 && decide (n.2.2 = m.2.2))
set_option maxRecDepth 100000 in
set_option maxHeartbeats 2000000 in
theorem rsame_any (n m : Int) (b c : Bool) (Y Z : List ArcT) (ao bo : Option Addr) (ca cb : Nat) (w : World) (ha : Row encA 4 w ao Y) (hb : Row encA 4 w bo Z) (hs : Z.length ≤ 1099511627776) :
    Calls Try.prog 44 #[.agg #[.int .i64 n, .bool b, .slice ao Y.length ca], .agg #[.int .i64 m, .bool c, .slice bo Z.length cb]] w fun e w' => e = .returned (.bool (sameB (n, b, Y) (m, c, Z))) ∧ Below w.heap.size w w' := by
  have HB0 := Lib.hid (((Below.refl w.heap.size w).alloc (Nat.le_refl _) (.cells #[.int .i64 n, .bool b, .slice ao Y.length ca] 24)).alloc (by simp) (.cells #[.int .i64 m, .bool c, .slice bo Z.length cb] 24))
  have HA := Lib.hid (ha.below' HB0.out)
  have HB := Lib.hid (hb.below' HB0.out)
  have hG := alloc_whole (heap_alloc_new w (.cells #[.int .i64 n, .bool b, .slice ao Y.length ca] 24)) (.cells #[.int .i64 m, .bool c, .slice bo Z.length cb] 24)
  have hW := new_whole1 w (.cells #[.int .i64 n, .bool b, .slice ao Y.length ca] 24) (.cells #[.int .i64 m, .bool c, .slice bo Z.length cb] 24)
  obtain ⟨c0, c1, c2, _, _, _⟩ := netCells hG
  obtain ⟨d0, d1, d2, _, _, _⟩ := netCells hW
  clear ha hb hG hW
  by_cases hn : n = m
  · subst hn
    by_cases hbc : b = c
    · subst hbc
      have HS : Hid (sameB (n, b, Y) (n, b, Z) = decide (Y = Z)) := Lib.hid (by simp [sameB])
      go_enter Try.func44, Try.ntmps44
      go_wp2_with (go_at_call 70; refine (samearcs_any _ _ _ _ Y Z _ HA.out HB.out hs).mono ?_; rintro e w2 ⟨rfl, n2, rfl⟩)
      go_ret
      exact ⟨ret_bool HS.out.symm, below_drewN HB0.out n2⟩
    · have HS : Hid (sameB (n, b, Y) (n, c, Z) = false) := Lib.hid (by simp [sameB, hbc])
      have hbe : (b == c) = false := by simpa using hbc
      go_enter Try.func44, Try.ntmps44
      go_wp2
      go_ret
      exact ⟨ret_bool HS.out.symm, HB0.out⟩
  · have HS : Hid (sameB (n, b, Y) (m, c, Z) = false) := Lib.hid (by simp [sameB, hn])
    have hne : (n == m) = false := by simpa using hn
    go_enter Try.func44, Try.ntmps44
    go_wp2
    go_ret
    exact ⟨ret_bool HS.out.symm, HB0.out⟩
theorem sameB_rfl (n : Int) (b : Bool) (Z : List ArcT) : sameB (n, b, Z) (n, b, Z) = true := by simp [sameB]
set_option maxRecDepth 100000 in
set_option maxHeartbeats 2000000 in
theorem rsame15_any (n : Int) (b : Bool) (Z : List ArcT) (l : Nat) (hz : Z.length = l) (ao bo : Option Addr) (ca cb : Nat) (w : World) (ha : Row encA 4 w ao Z) (hb : Row encA 4 w bo Z) (hs : l ≤ 1099511627776) :
    Calls Try.prog 19 #[.agg #[.int .i64 n, .bool b, .slice ao l ca], .agg #[.int .i64 n, .bool b, .slice bo l cb]] w fun e w' => e = .returned (.bool true) ∧ Below w.heap.size w w' := by
  subst hz
  have HB0 := Lib.hid (((Below.refl w.heap.size w).alloc (Nat.le_refl _) (.cells #[.int .i64 n, .bool b, .slice ao Z.length ca] 24)).alloc (by simp) (.cells #[.int .i64 n, .bool b, .slice bo Z.length cb] 24))
  have HA := Lib.hid (ha.below' HB0.out)
  have HB := Lib.hid (hb.below' HB0.out)
  have hG := alloc_whole (heap_alloc_new w (.cells #[.int .i64 n, .bool b, .slice ao Z.length ca] 24)) (.cells #[.int .i64 n, .bool b, .slice bo Z.length cb] 24)
  have hW := new_whole1 w (.cells #[.int .i64 n, .bool b, .slice ao Z.length ca] 24) (.cells #[.int .i64 n, .bool b, .slice bo Z.length cb] 24)
  obtain ⟨c0, c1, c2, _, _, _⟩ := netCells hG
  obtain ⟨d0, d1, d2, _, _, _⟩ := netCells hW
  clear ha hb hG hW
  go_enter Try.func19, Try.ntmps19
  go_wp2_with (go_at_call 44; refine (rsame_any n n b b Z Z ao bo ca cb _ HA.out HB.out hs).mono ?_; rintro e w2 ⟨rfl, hb2⟩; have HB2 := Lib.hid (HB0.out.trans (hb2.mono HB0.out.size)))
  go_ret
  exact ⟨ret_bool (sameB_rfl n b Z), HB2.out⟩
theorem ne_move (x1 x2 x3 y1 y2 y3 : Int) (w : World) : (binOp .neq 94 (.agg #[.int .i64 x1, .int .i64 x2, .int .i64 x3]) (.agg #[.int .i64 y1, .int .i64 y2, .int .i64 y3])).run Try.prog w = .ok (.bool (!(x1 == y1 && x2 == y2 && x3 == y3))) w := by
  have u3 := Try.underlying3
  have a3 := Try.isAgg3
  have z3 := Try.sizeOf3
  have hS : Try.prog.underlying 94 = some (.struct (Try.prog.fieldsOf 94)) := by kernel_rfl
  have hp : Try.prog.stoodInHeld 94 = false := by kernel_rfl
  rw [run_neq_struct, show (10000 : Nat) = 9999 + 1 from rfl, run_equalIn_agg w 9999 94 _ _ hS hp]
  simp only [Program.fieldsOf, Try.underlying94]
  go_simp
  by_cases h1 : x1 = y1 <;> by_cases h2 : x2 = y2 <;> by_cases h3 : x3 = y3 <;> simp [h1, h2, h3]
set_option maxHeartbeats 1000000 in
theorem samemoves_some (a b : Addr) (ca cb : Nat) (Z : List (Int × Int × Int)) (w : World) (ha : Row encK 3 w (some a) Z) (hb : Row encK 3 w (some b) Z) (hs : Z.length ≤ 65536) :
    Calls Try.prog 23 #[.slice (some a) Z.length ca, .slice (some b) Z.length cb] w fun e w' => e = .returned (.bool true) ∧ ∃ n, w' = w.drewN n := by
  have HA := Lib.hid ha
  have HB := Lib.hid hb
  clear ha hb
  go_enter Try.func23, Try.ntmps23
  go_wp2
  go_loopw [5] (fun si wr => ∃ (i n : Nat), i ≤ Z.length ∧ Hid (wr = w.drewN n) ∧ si = .int .i64 (i : Int)) (fun si _ => Z.length - (intOf si).toNat)
  case atStart => exact ⟨0, 0, by omega, Lib.hid rfl, rfl⟩
  case round =>
    obtain ⟨i, n, hi, HW, rfl⟩ := hrel
    by_cases hlt : i < Z.length
    · have hli : (i : Int) < (Z.length : Int) := by omega
      obtain ⟨ab, ax, e, _, c0, c1, c2⟩ := HA.out.tri hlt
      cases e
      obtain ⟨bb, bx, e, _, d0, d1, d2⟩ := HB.out.tri hlt
      cases e
      generalize Z[i] = x at *
      have c0' := cell_drew HW.out c0
      have c1' := cell_drew HW.out c1
      have c2' := cell_drew HW.out c2
      have d0' := cell_drew HW.out d0
      have d1' := cell_drew HW.out d1
      have d2' := cell_drew HW.out d2
      clear c0 c1 c2 d0 d1 d2
      have e1 := fun W => ne_move x.1 x.2.1 x.2.2 x.1 x.2.1 x.2.2 W
      have e2 : (!(x.1 == x.1 && x.2.1 == x.2.1 && x.2.2 == x.2.2)) = false := by simp
      go_wp2
      go_quiet (fail)
      go_wp2
      go_roundw
      case rel => exact ⟨i + 1, n + nq, by omega, Lib.hid (by rw [HW.out, World.drewN_drewN]), by go_num⟩
      case measure => simp [intOf]; omega
    · have hli : (Z.length : Int) ≤ (i : Int) := by omega
      go_wp2
      go_ret
      exact ⟨rfl, n, HW.out⟩
theorem samemoves_nil (a b : Option Addr) (ca cb : Nat) (w : World) : Calls Try.prog 23 #[.slice a 0 ca, .slice b 0 cb] w fun e w' => e = .returned (.bool true) ∧ ∃ n, w' = w.drewN n := by
  go_enter Try.func23, Try.ntmps23
  go_wp2
  refine wp_loop_rounds 1 ?_
  rw [rounds_succ]
  go_wp2
  go_ret
  exact ⟨rfl, 0, rfl⟩
theorem samemoves_any (a b : Option Addr) (la lb ca cb : Nat) (Z : List (Int × Int × Int)) (w : World) (hla : Z.length = la) (hlb : Z.length = lb) (ha : Row encK 3 w a Z) (hb : Row encK 3 w b Z) (hs : Z.length ≤ 65536) :
    Calls Try.prog 23 #[.slice a la ca, .slice b lb cb] w fun e w' => e = .returned (.bool true) ∧ ∃ n, w' = w.drewN n := by
  subst hla
  subst hlb
  cases Z with
  | nil => exact samemoves_nil a b ca cb w
  | cons z Z =>
    obtain ⟨b1, o1, rfl, _⟩ := ha 0 (by simp)
    obtain ⟨b2, o2, rfl, _⟩ := hb 0 (by simp)
    exact samemoves_some _ _ ca cb _ w ha hb hs
end Go.Proofs.Ytbkmfjegbmjknaa
