/- What Turn does, in package table and in the document: From and To exchanged; and the walk of statement TableTurns. -/
import Derived.Test.YtieomjkiabfhcaaTAwake
namespace Go.Proofs.Ytieomjkiabfhcaa
open Go.RowKit
set_option linter.unusedVariables false

def turnA (a : ArcT) : ArcT := (a.2.1, a.1, a.2.2.1, a.2.2.2)
theorem turn_turn (Z : List ArcT) : (Z.map turnA).map turnA = Z := by
  rw [List.map_map]
  conv => rhs; rw [← List.map_id Z]
  apply List.map_congr_left
  intro x _; rfl
def TurnRes (Z : List ArcT) (w : World) (e : Ending) (w' : World) : Prop := ∃ ao cap, e = .returned (.slice ao Z.length cap) ∧ Row encA 4 w' ao Z ∧ Below w.heap.size w w'
set_option maxRecDepth 100000 in
set_option maxHeartbeats 2000000 in
theorem turn_some (ad : Addr) (cap : Nat) (Z : List ArcT) (w : World) (h : Row encA 4 w (some ad) Z) (hn : Z.length ≤ 200) :
    Calls Try.prog 24 #[.slice (some ad) Z.length cap] w (TurnRes (Z.map turnA) w) := by
  have HR := Lib.hid h
  clear h
  go_enter Try.func24, Try.ntmps24
  go_wp2_with (at_make; refine wpList_make_row Try.underlying22 infoArc (by omega) encA rfl _ _ rfl w.heap.size Z.length rfl rfl (by omega) (Nat.le_refl _) ?_; intro w1 ho1 hb1; have HO1 := Lib.hid ho1; have HB1 := Lib.hid hb1; clear ho1 hb1)
  go_loopw [3, 11] (fun mv si wr => ∃ (i : Nat), i ≤ Z.length ∧ Hid (Below w.heap.size w wr) ∧ Hid (wr.ownsRow w.heap.size 52 4 mv ((Z.map turnA).take i).length (((Z.map turnA).take i).flatMap encA)) ∧ si = .int .i64 (i : Int)) (fun _ si _ => Z.length - (intOf si).toNat)
  case atStart => exact ⟨0, by omega, HB1, HO1, rfl⟩
  case round =>
    clear HO1 HB1
    obtain ⟨i, hi, HB, HO, rfl⟩ := hrel
    by_cases hlt : i < Z.length
    · have hli : (i : Int) < (Z.length : Int) := by omega
      obtain ⟨ab, ax, e, hab, c0, c1, c2, c3⟩ := (HR.out.below' HB.out).arc hlt
      cases e
      have htk : (Z.map turnA).take (i + 1) = (Z.map turnA).take i ++ [turnA Z[i]] := take_snoc' (by rw [List.getElem?_map, List.getElem?_eq_getElem hlt]; rfl)
      have hroom : ((Z.map turnA).take i).length ≤ 200000 := by rw [List.length_take]; omega
      generalize Z[i] = z at *
      obtain ⟨x, y, u, v⟩ := z
      simp only at c0 c1 c2 c3
      generalize (Z.map turnA).take i = A at *
      have HTK := Lib.hid htk
      have hab2 : ab ≠ wr.heap.size := by omega
      clear htk
      have HO2 := Lib.hid ((HO.out.alloc (.cells #[.int .i64 y, .int .i64 x, .int .i64 u, .int .i64 v] 52)).alloc (.cells #[.int .i64 y, .int .i64 x, .int .i64 u, .int .i64 v] 52))
      have HB2 := Lib.hid ((HB.out.alloc HB.out.size (.cells #[.int .i64 y, .int .i64 x, .int .i64 u, .int .i64 v] 52)).alloc (by have := HB.out.size; simp; omega) (.cells #[.int .i64 y, .int .i64 x, .int .i64 u, .int .i64 v] 52))
      go_wp2_with (at_builtin; refine wpList_append_row (enc := encA) Try.underlying22 infoArc rfl (by omega) (by omega) encA_len rfl _ _ rfl w.heap.size _ A (y, x, u, v) (encA_one _) rfl HO2.out _ 1 rfl (fun i hi => cell_newL (by simp) (encA (y, x, u, v)) 52 i) hroom HB2.out.size ?_; intro g7 cap7 w7 ho7 hg7 hl7 hb7 hlt7; have HO7 := Lib.hid ho7; have HB7 := Lib.hid (HB2.out.grown hg7 HB2.out.size (fun k hk => (HO2.out.lt k hk).1)); clear ho7 hg7 hl7)
      go_roundw
      case rel => exact ⟨i + 1, by omega, HB7, Lib.hid (by rw [HTK.out]; exact HO7.out), by go_num⟩
      case measure => simp [intOf]; omega
    · obtain rfl : i = Z.length := by omega
      have htl : (Z.map turnA).take Z.length = Z.map turnA := List.take_of_length_le (by simp)
      rw [htl] at HO
      generalize Z.map turnA = A at *
      obtain ⟨aa, ac, rfl, har, haf⟩ := own_row encA_len HO.out
      have HR2 := Lib.hid har
      clear har haf HO htl
      go_wp2
      go_ret
      exact ⟨aa, ac, rfl, HR2.out, HB.out⟩
theorem turn_nil (ao : Option Addr) (cap : Nat) (w : World) : Calls Try.prog 24 #[.slice ao 0 cap] w (TurnRes [] w) := by
  go_enter Try.func24, Try.ntmps24
  go_wp2_with (at_make; refine wpList_make_row Try.underlying22 infoArc (by omega) encA rfl _ _ rfl w.heap.size 0 rfl rfl (by omega) (Nat.le_refl _) ?_; intro w1 ho1 hb1; have HB1 := Lib.hid hb1; clear ho1 hb1)
  refine wp_loop_rounds 1 ?_
  rw [rounds_succ]
  go_wp2
  go_ret
  exact ⟨_, _, rfl, Row.nil _ _, HB1.out⟩
theorem turn_any (ao : Option Addr) (cap : Nat) (Z : List ArcT) (w : World) (h : Row encA 4 w ao Z) (hn : Z.length ≤ 200) : Calls Try.prog 24 #[.slice ao Z.length cap] w (TurnRes (Z.map turnA) w) := by
  cases Z with
  | nil => exact turn_nil ao cap w
  | cons z Z =>
    obtain ⟨b, o, rfl, _⟩ := h 0 (by simp)
    exact turn_some _ cap _ w h hn
theorem turn_at (ao : Option Addr) (len cap : Nat) (Z : List ArcT) (w : World) (hl : Z.length = len) (h : Row encA 4 w ao Z) (hn : Z.length ≤ 200) : Calls Try.prog 24 #[.slice ao len cap] w (TurnRes (Z.map turnA) w) := by
  subst hl; exact turn_any ao cap Z w h hn
set_option maxRecDepth 100000 in
set_option maxHeartbeats 2000000 in
theorem rturn_some (ad : Addr) (cap : Nat) (Z : List ArcT) (w : World) (h : Row encA 4 w (some ad) Z) (hn : Z.length ≤ 200) :
    Calls Try.prog 25 #[.slice (some ad) Z.length cap] w (TurnRes (Z.map turnA) w) := by
  have HR := Lib.hid h
  clear h
  go_enter Try.func25, Try.ntmps25
  go_wp2
  have HO1 : Hid (w.ownsRow w.heap.size 52 4 (.slice none 0 0) (([] : List ArcT)).length (([] : List ArcT).flatMap encA)) := Lib.hid (World.ownsRow_nil _ _ _ _)
  have HB1 : Hid (Below w.heap.size w w) := Lib.hid (Below.refl _ _)
  go_loopw [3, 4] (fun mv si wr => ∃ (i : Nat), i ≤ Z.length ∧ Hid (Below w.heap.size w wr) ∧ Hid (wr.ownsRow w.heap.size 52 4 mv ((Z.map turnA).take i).length (((Z.map turnA).take i).flatMap encA)) ∧ si = .int .i64 (i : Int)) (fun _ si _ => Z.length - (intOf si).toNat)
  case atStart => exact ⟨0, by omega, HB1, HO1, rfl⟩
  case round =>
    clear HO1 HB1
    obtain ⟨i, hi, HB, HO, rfl⟩ := hrel
    by_cases hlt : i < Z.length
    · have hli : (i : Int) < (Z.length : Int) := by omega
      obtain ⟨ab, ax, e, hab, c0, c1, c2, c3⟩ := (HR.out.below' HB.out).arc hlt
      cases e
      have htk : (Z.map turnA).take (i + 1) = (Z.map turnA).take i ++ [turnA Z[i]] := take_snoc' (by rw [List.getElem?_map, List.getElem?_eq_getElem hlt]; rfl)
      have hroom : ((Z.map turnA).take i).length ≤ 200000 := by rw [List.length_take]; omega
      generalize Z[i] = z at *
      obtain ⟨x, y, u, v⟩ := z
      simp only at c0 c1 c2 c3
      generalize (Z.map turnA).take i = A at *
      have HTK := Lib.hid htk
      have hab2 : ab ≠ wr.heap.size := by omega
      clear htk
      have HO2 := Lib.hid ((HO.out.alloc (.cells #[.int .i64 y, .int .i64 x, .int .i64 u, .int .i64 v] 52)).alloc (.cells #[.int .i64 y, .int .i64 x, .int .i64 u, .int .i64 v] 52))
      have HB2 := Lib.hid ((HB.out.alloc HB.out.size (.cells #[.int .i64 y, .int .i64 x, .int .i64 u, .int .i64 v] 52)).alloc (by have := HB.out.size; simp; omega) (.cells #[.int .i64 y, .int .i64 x, .int .i64 u, .int .i64 v] 52))
      go_wp2_with (at_builtin; refine wpList_append_row (enc := encA) Try.underlying22 infoArc rfl (by omega) (by omega) encA_len rfl _ _ rfl w.heap.size _ A (y, x, u, v) (encA_one _) rfl HO2.out _ 1 rfl (fun i hi => cell_newL (by simp) (encA (y, x, u, v)) 52 i) hroom HB2.out.size ?_; intro g7 cap7 w7 ho7 hg7 hl7 hb7 hlt7; have HO7 := Lib.hid ho7; have HB7 := Lib.hid (HB2.out.grown hg7 HB2.out.size (fun k hk => (HO2.out.lt k hk).1)); clear ho7 hg7 hl7)
      go_roundw
      case rel => exact ⟨i + 1, by omega, HB7, Lib.hid (by rw [HTK.out]; exact HO7.out), by go_num⟩
      case measure => simp [intOf]; omega
    · obtain rfl : i = Z.length := by omega
      have htl : (Z.map turnA).take Z.length = Z.map turnA := List.take_of_length_le (by simp)
      rw [htl] at HO
      generalize Z.map turnA = A at *
      obtain ⟨aa, ac, rfl, har, haf⟩ := own_row encA_len HO.out
      have HR2 := Lib.hid har
      clear har haf HO htl
      go_wp2
      go_ret
      exact ⟨aa, ac, rfl, HR2.out, HB.out⟩
theorem rturn_nil (ao : Option Addr) (cap : Nat) (w : World) : Calls Try.prog 25 #[.slice ao 0 cap] w (TurnRes [] w) := by
  go_enter Try.func25, Try.ntmps25
  go_wp2
  have HB1 : Hid (Below w.heap.size w w) := Lib.hid (Below.refl _ _)
  refine wp_loop_rounds 1 ?_
  rw [rounds_succ]
  go_wp2
  go_ret
  exact ⟨_, _, rfl, Row.nil _ _, HB1.out⟩
theorem rturn_any (ao : Option Addr) (cap : Nat) (Z : List ArcT) (w : World) (h : Row encA 4 w ao Z) (hn : Z.length ≤ 200) : Calls Try.prog 25 #[.slice ao Z.length cap] w (TurnRes (Z.map turnA) w) := by
  cases Z with
  | nil => exact rturn_nil ao cap w
  | cons z Z =>
    obtain ⟨b, o, rfl, _⟩ := h 0 (by simp)
    exact rturn_some _ cap _ w h hn
theorem rturn_at (ao : Option Addr) (len cap : Nat) (Z : List ArcT) (w : World) (hl : Z.length = len) (h : Row encA 4 w ao Z) (hn : Z.length ≤ 200) : Calls Try.prog 25 #[.slice ao len cap] w (TurnRes (Z.map turnA) w) := by
  subst hl; exact rturn_any ao cap Z w h hn
set_option maxRecDepth 100000 in
set_option maxHeartbeats 2000000 in
theorem turns_law (w : World) (ao : Option Addr) (len cap : Nat) (Z : List ArcT) (hl : Z.length = len) (hm : len ≤ maxLen) (hr : Row encA 4 w ao Z) (hk : OkA Z) :
    Calls Try.prog 7 #[.slice ao len cap] w fun e w' => e = .returned (.bool true) ∧ Below w.heap.size w w' := by
  unfold maxLen at hm
  subst hl
  have HR := Lib.hid hr
  clear hr hk
  by_cases h : 200 < Z.length
  · go_enter Try.func7, Try.ntmps7
    go_wp2_with (go_at_call 13; refine (awake_any _).mono ?_; rintro e w1 ⟨rfl, hb1⟩)
    go_ret
    exact ⟨rfl, hb1⟩
  · have hs : Z.length ≤ 200 := by omega
    go_enter Try.func7, Try.ntmps7
    go_wp2_with (first
      | (go_at_call 24; refine (turn_at ao _ cap Z _ rfl HR.out hs).mono ?_; rintro e w1 ⟨a1, c1, rfl, hr1, hb1⟩; have HR1 := Lib.hid hr1; have HZ1 := Lib.hid (HR.out.below' hb1); have HB1 := Lib.hid hb1; clear hr1 hb1 HR)
      | (go_at_call 13; refine (awake_any _).mono ?_; rintro e w2 ⟨rfl, hb2⟩; have HR2 := Lib.hid (HR1.out.below' hb2); have HZ2 := Lib.hid (HZ1.out.below' hb2); have HB2 := Lib.hid (HB1.out.trans (hb2.mono HB1.out.size)); clear hb2)
      | (go_at_call 25; refine (rturn_at ao _ cap Z _ rfl HZ2.out hs).mono ?_; rintro e w3 ⟨a3, c3, rfl, hr3, hb3⟩; have HS3 := Lib.hid hr3; have HR3 := Lib.hid (HR2.out.below' hb3); have HZ3 := Lib.hid (HZ2.out.below' hb3); have HB3 := Lib.hid (HB2.out.trans (hb3.mono HB2.out.size)); clear hr3 hb3 HR2 HZ2)
      | (go_at_call 21; refine (samearcs_any a1 a3 _ _ c1 c3 (Z.map turnA) _ (by simp) (by simp) HR3.out HS3.out (by simp; omega)).mono ?_; rintro e w4 ⟨rfl, n4, hw4⟩; have HR4 : Hid (Row encA 4 w4 a1 (Z.map turnA)) := (by rw [hw4]; exact HR3); have HZ4 : Hid (Row encA 4 w4 ao Z) := (by rw [hw4]; exact HZ3); have HB4 : Hid (Below w.heap.size w w4) := (by rw [hw4]; exact Lib.hid ⟨HB3.out.os, HB3.out.tape, HB3.out.output, HB3.out.size, HB3.out.block⟩); clear hw4 HR3 HZ3 HS3)
      | (go_at_call 24; refine (turn_at a1 _ c1 (Z.map turnA) _ (by simp) HR4.out (by simp; omega)).mono ?_; rintro e w5 ⟨a5, c5, rfl, hr5, hb5⟩; rw [turn_turn] at hr5; have HR5 := Lib.hid hr5; have HZ5 := Lib.hid (HZ4.out.below' hb5); have HB5 := Lib.hid (HB4.out.trans (hb5.mono HB4.out.size)); clear hr5 hb5 HR4)
      | (go_at_call 21; refine (samearcs_any a5 ao _ _ c5 cap Z _ (by simp) rfl HR5.out HZ5.out (by omega)).mono ?_; rintro e w6 ⟨rfl, n6, hw6⟩; have HB6 : Hid (Below w.heap.size w w6) := (by rw [hw6]; exact Lib.hid ⟨HB5.out.os, HB5.out.tape, HB5.out.output, HB5.out.size, HB5.out.block⟩); clear hw6))
    go_ret
    exact ⟨rfl, HB6.out⟩
end Go.Proofs.Ytieomjkiabfhcaa
