/- Lemmas of the layers below that one statement more needs. -/
import Derived.Test.YtbkmfjegbmjknaaSuq
import Derived.Test.YtbkmfjegbmjknaaBB
import Derived.Test.YtbkmfjegbmjknaaBD
import Derived.Test.YtbkmfjegbmjknaaARord
import Derived.Test.YtbkmfjegbmjknaaBG
import Derived.Test.YtbkmfjegbmjknaaVPlant
import Derived.Test.YtbkmfjegbmjknaaBH
import Derived.Test.YtbkmfjegbmjknaaCD
import Derived.BigQuiet
import Derived.Deep.AppendLies
import Derived.Deep.DeepCutAuto
import Derived.Deep.LoopGhost
import Derived.Deep.OwnRows
import Derived.Deep.QuietTactic
import Derived.Deep.RegionHeld3
import Derived.Deep.RegionLaw
import Derived.Laws.AppendOwnNone
import Derived.Laws.CopyOwn
import Derived.Laws.StructEq
import Derived.LoopTactic
import Derived.Maps.OwnSet
import Derived.Shelf.SlSortFuncK.ComposeK
namespace Go.Proofs.Ytbkmfjegbmjknaa
open Go.RowKit
set_option linter.unusedVariables false
section
variable {α : Type} {enc : α → Value}
end
end Go.Proofs.Ytbkmfjegbmjknaa
namespace Go.Proofs.Ytbkmfjegbmjknaa
open Go.RowKit
set_option linter.unusedVariables false
section
variable {B : Nat} {w w' : World} {g cap : Nat} {vs : List Value} {G : List (List Nat)} {own : Nat → Nat}
end
end Go.Proofs.Ytbkmfjegbmjknaa
namespace Go.Proofs.Ytbkmfjegbmjknaa
set_option linter.unusedVariables false
section
variable {Z : List ArcT} {N : Nat} {pend : List Int} {P : List Nat} {L : List (Int × Int)} {l T : List Nat}
end
end Go.Proofs.Ytbkmfjegbmjknaa
namespace Go.Proofs.Ytbkmfjegbmjknaa
open Go.RowKit
set_option linter.unusedVariables false
end Go.Proofs.Ytbkmfjegbmjknaa
namespace Go.Proofs.Ytbkmfjegbmjknaa
open Go.RowKit
set_option linter.unusedVariables false
end Go.Proofs.Ytbkmfjegbmjknaa
namespace Go.Proofs.Ytbkmfjegbmjknaa
open Go.RowKit
set_option linter.unusedVariables false
theorem natI_at {l : List Nat} {j : Nat} (h : j < l.length) : (natI l)[j]? = some ((l[j] : Nat) : Int) := by simp [natI, h]
section
variable {w1 wr w2 : World} {gd qb qg N : Nat} {d : List Int} {Q Q' : List Nat}
end
end Go.Proofs.Ytbkmfjegbmjknaa
namespace Go.Proofs.Ytbkmfjegbmjknaa
open Go.RowKit
set_option linter.unusedVariables false
end Go.Proofs.Ytbkmfjegbmjknaa
namespace Go.Proofs.Ytbkmfjegbmjknaa
open Go.RowKit
set_option linter.unusedVariables false
def roomI (a : ArcT) (x : Int) : Bool → Int
  | true => x
  | false => a.2.2.1 - x
section
variable (n : Int) (b : Bool) (ao : Option Addr) (cap : Nat) (Z : List ArcT)
set_option maxHeartbeats 1000000 in
theorem rleft_at (fo : Option Addr) (fc : Nat) (F : List Int) (i : Nat) (k : Bool) (a : ArcT) (x : Int) (w : World) (h : Row encA 4 w ao Z) (hf : Lst encI w fo F) (ha : Z[i]? = some a) (hx : F[i]? = some x) (hz : Z.length ≤ 200000) (hfl : F.length ≤ 200000) (h0 : 0 ≤ x) (h1 : x ≤ 4398046511104) (h2 : 0 ≤ a.2.2.1) (h3 : a.2.2.1 ≤ 4398046511104) :
    Calls Try.prog 87 #[.agg #[.int .i64 n, .bool b, .slice ao Z.length cap], .slice fo F.length fc, .agg #[.int .i64 (i : Int), .bool k]] w fun e w' => e = .returned (.int .i64 (roomI a x k)) ∧ Below w.heap.size w w' := by
  obtain ⟨hi, rfl⟩ := List.getElem?_eq_some_iff.1 ha
  obtain ⟨ab, ax, rfl, hab, c0, c1, c2, c3⟩ := h.arc hi
  have hif : i < F.length := (List.getElem?_eq_some_iff.1 hx).1
  obtain ⟨fb, fx, rfl, hfb, d0⟩ := lst_cell hf hx
  have hli : (i : Int) < (Z.length : Int) := by omega
  have hlf : (i : Int) < (F.length : Int) := by omega
  clear h ha hf hx c0 c1 c3
  generalize Z[i] = a at *
  obtain ⟨p, y, c, t⟩ := a
  simp only at c2 h2 h3
  unfold encI at d0
  have e0 := cell_alloc (cell_alloc c2 (.cells #[.int .i64 n, .bool b, .slice (some ⟨ab, ax, none⟩) Z.length cap] 24)) (.cells #[.int .i64 (i : Int), .bool k] 150)
  have e1 := cell_alloc (cell_alloc d0 (.cells #[.int .i64 n, .bool b, .slice (some ⟨ab, ax, none⟩) Z.length cap] 24)) (.cells #[.int .i64 (i : Int), .bool k] 150)
  have HB := Lib.hid (((Below.refl _ w).alloc (Nat.le_refl _) (.cells #[.int .i64 n, .bool b, .slice (some ⟨ab, ax, none⟩) Z.length cap] 24)).alloc (by simp) (.cells #[.int .i64 (i : Int), .bool k] 150))
  cases k
  · go_enter Try.func87, Try.ntmps87
    go_wp2
    go_quiet (fail)
    go_wp2
    go_ret
    exact ⟨rfl, below_drewN HB.out _⟩
  · go_enter Try.func87, Try.ntmps87
    go_wp2
    go_ret
    exact ⟨rfl, HB.out⟩
set_option maxHeartbeats 1000000 in
theorem rfrom_at (i : Nat) (k : Bool) (a : ArcT) (w : World) (h : Row encA 4 w ao Z) (ha : Z[i]? = some a) (hz : Z.length ≤ 200000) :
    Calls Try.prog 86 #[.agg #[.int .i64 n, .bool b, .slice ao Z.length cap], .agg #[.int .i64 (i : Int), .bool k]] w fun e w' => e = .returned (.int .i64 (begI a k)) ∧ Below w.heap.size w w' := by
  obtain ⟨hi, rfl⟩ := List.getElem?_eq_some_iff.1 ha
  obtain ⟨ab, ax, rfl, hab, c0, c1, c2, c3⟩ := h.arc hi
  have hli : (i : Int) < (Z.length : Int) := by omega
  clear h ha c2 c3
  generalize Z[i] = a at *
  obtain ⟨x, y, c, t⟩ := a
  simp only at c0 c1
  have e0 := cell_alloc (cell_alloc c0 (.cells #[.int .i64 n, .bool b, .slice (some ⟨ab, ax, none⟩) Z.length cap] 24)) (.cells #[.int .i64 (i : Int), .bool k] 150)
  have e1 := cell_alloc (cell_alloc c1 (.cells #[.int .i64 n, .bool b, .slice (some ⟨ab, ax, none⟩) Z.length cap] 24)) (.cells #[.int .i64 (i : Int), .bool k] 150)
  have HB := Lib.hid (((Below.refl _ w).alloc (Nat.le_refl _) (.cells #[.int .i64 n, .bool b, .slice (some ⟨ab, ax, none⟩) Z.length cap] 24)).alloc (by simp) (.cells #[.int .i64 (i : Int), .bool k] 150))
  cases k
  · go_enter Try.func86, Try.ntmps86
    go_wp2
    go_ret
    exact ⟨rfl, HB.out⟩
  · go_enter Try.func86, Try.ntmps86
    go_wp2
    go_ret
    exact ⟨rfl, HB.out⟩
set_option maxHeartbeats 1000000 in
theorem rto_at (i : Nat) (k : Bool) (a : ArcT) (w : World) (h : Row encA 4 w ao Z) (ha : Z[i]? = some a) (hz : Z.length ≤ 200000) :
    Calls Try.prog 102 #[.agg #[.int .i64 n, .bool b, .slice ao Z.length cap], .agg #[.int .i64 (i : Int), .bool k]] w fun e w' => e = .returned (.int .i64 (endI a k)) ∧ Below w.heap.size w w' := by
  obtain ⟨hi, rfl⟩ := List.getElem?_eq_some_iff.1 ha
  obtain ⟨ab, ax, rfl, hab, c0, c1, c2, c3⟩ := h.arc hi
  have hli : (i : Int) < (Z.length : Int) := by omega
  clear h ha c2 c3
  generalize Z[i] = a at *
  obtain ⟨x, y, c, t⟩ := a
  simp only at c0 c1
  have e0 := cell_alloc (cell_alloc c0 (.cells #[.int .i64 n, .bool b, .slice (some ⟨ab, ax, none⟩) Z.length cap] 24)) (.cells #[.int .i64 (i : Int), .bool k] 150)
  have e1 := cell_alloc (cell_alloc c1 (.cells #[.int .i64 n, .bool b, .slice (some ⟨ab, ax, none⟩) Z.length cap] 24)) (.cells #[.int .i64 (i : Int), .bool k] 150)
  have HB := Lib.hid (((Below.refl _ w).alloc (Nat.le_refl _) (.cells #[.int .i64 n, .bool b, .slice (some ⟨ab, ax, none⟩) Z.length cap] 24)).alloc (by simp) (.cells #[.int .i64 (i : Int), .bool k] 150))
  cases k
  · go_enter Try.func102, Try.ntmps102
    go_wp2
    go_ret
    exact ⟨rfl, HB.out⟩
  · go_enter Try.func102, Try.ntmps102
    go_wp2
    go_ret
    exact ⟨rfl, HB.out⟩
end
end Go.Proofs.Ytbkmfjegbmjknaa
namespace Go.Proofs.Ytbkmfjegbmjknaa
open Go.RowKit
set_option linter.unusedVariables false
section
variable (n : Int) (b : Bool) (ao fo : Option Addr) (cap fc : Nat) (Z : List ArcT) (F : List Int)
end
end Go.Proofs.Ytbkmfjegbmjknaa
namespace Go.Proofs.Ytbkmfjegbmjknaa
open Go.RowKit
set_option linter.unusedVariables false
section
variable (n : Int) (b : Bool) (ao fo : Option Addr) (cap fc : Nat) (Z : List ArcT) (F : List Int)
theorem lst_src {w : World} {fo : Option Addr} {F : List Int} {CS : List Value} (h : Lst encI w fo F) (e : F.map encI = CS) (h0 : 0 < CS.length) : ∃ ad, fo = some ad ∧ ∀ j v, CS[j]? = some v → w.cell? (ad.add j) = some v := by
  subst e
  have hF : 0 < F.length := by simpa using h0
  obtain ⟨b, o, e, _, _⟩ := h 0 hF
  refine ⟨_, e, fun j v hj => ?_⟩
  rw [List.getElem?_map] at hj
  cases hj2 : F[j]? with
  | none => rw [hj2] at hj; cases hj
  | some x =>
    rw [hj2] at hj
    obtain ⟨b2, o2, e2, _, hc⟩ := lst_cell h hj2
    rw [e] at e2; cases e2
    rw [Addr.add_lit, hc]; exact hj
theorem encI_ones {F : List Int} {CS : List Value} (e : F.map encI = CS) : ∀ v ∈ CS, v.oneCell' = true := by
  subst e
  intro v hv
  obtain ⟨x, _, rfl⟩ := List.mem_map.1 hv
  rfl
end
end Go.Proofs.Ytbkmfjegbmjknaa
namespace Go.Proofs.Ytbkmfjegbmjknaa
open Go.RowKit
set_option linter.unusedVariables false
theorem left_room {Z : List ArcT} {F : List Int} {i : Nat} {k : Bool} {a : ArcT} (ha : Z[i]? = some a) : leftS Z F ((i : Int), k) = roomI a (atI F i) k := by
  have e : arcOf Z ((i : Int), k) = a := by unfold arcOf; simp [List.getD_eq_getElem?_getD, ha]
  unfold leftS
  rw [e]
  cases k <;> simp [roomI, capN]
section
variable (n : Int) (b : Bool) (ao : Option Addr) (cap : Nat) (Z : List ArcT) (F : List Int)
end
end Go.Proofs.Ytbkmfjegbmjknaa
namespace Go.Proofs.Ytbkmfjegbmjknaa
open Go.RowKit
set_option linter.unusedVariables false
theorem encS_one (x : StepT) : ∀ u ∈ encS x, u.oneCell' = true := by intro u hu; simp [encS] at hu; rcases hu with rfl | rfl <;> rfl
section
variable {w1 wr w3 : World} {g V M : Nat} {c : Array Value} {F F' : List Int}
end
section
variable (n : Int) (b : Bool) (ao fo lo : Option Addr) (cap fc lc : Nat) (Z : List ArcT) (F : List Int) (L : List StepT)
end
end Go.Proofs.Ytbkmfjegbmjknaa
namespace Go.Proofs.Ytbkmfjegbmjknaa
open Go.RowKit
set_option linter.unusedVariables false
theorem stepOf_len (a : ArcT) (x : Int) (i : Nat) : (stepOf a x i).length ≤ 2 := by
  unfold stepOf
  rw [List.length_append]
  split <;> split <;> simp
theorem stepsK_len (Z : List ArcT) (F : List Int) : ∀ i, (stepsK Z F i).length ≤ 2 * i
  | 0 => by simp [stepsK]
  | i + 1 => by
    have ih := stepsK_len Z F i
    show (stepsK Z F i ++ _).length ≤ _
    rw [List.length_append]
    cases hz : Z[i]? with
    | none => simp; omega
    | some a =>
      have := stepOf_len a (atI F i) i
      simp only
      omega
theorem infoStep : (Try.prog.info? 150).map (fun i => (i.zero, i.size, i.bytes)) = some (some (.agg #[.int .i64 0, .bool false]), 2, 16) := by kernel_rfl
theorem cells2 (w : World) (t : TypeId) (g : Nat) (hg : w.heap.size = g) (x : Int) (q : Bool) : ∀ j, j < 2 → (w.alloc (.cells #[.int .i64 x, .bool q] t)).cell? ⟨g, j, none⟩ = (encS (x, q))[j]? := by
  intro j hj
  rw [cell_new' hg]
  match j, hj with
  | 0, _ => rfl
  | 1, _ => rfl
theorem wpList_append_step {w : World} {ops : Array Oper} {rest : List Oper} {o : Oper} {a : Act} {Q : Exit → Act → World → Prop} (hgd : o.guard = none) (s y : Operand)
    (ho : o.op = .call { callee := .builtin .append, args := #[s, y], argTypes := #[105, 105] })
    (base : Nat) (v : Value) (A : List StepT) (x : StepT) (hs : a.eval s = v) (hown : OwnS w base v A) (gs : Nat) (c : Nat) (hx : a.eval y = .slice (some ⟨gs, 0, none⟩) 1 c) (hc : ∀ j, j < 2 → w.cell? ⟨gs, j, none⟩ = (encS x)[j]?)
    (hroom : A.length ≤ 200000) (hbase : base ≤ w.heap.size)
    (hK : ∀ g cap w', OwnS w' base (.slice (some ⟨g, 0, none⟩) (A.length + 1) cap) (A ++ [x]) → w.grownBy w' v.ownBlock → (v.ownBlock = some g ∨ g = w.heap.size) → base ≤ g → g < w'.heap.size → wpList Try.prog ops Q rest (a.put o.dst (.slice (some ⟨g, 0, none⟩) (A.length + 1) cap)) w') : wpList Try.prog ops Q (o :: rest) a w :=
  wpList_append_row (enc := encS) Try.underlying105 infoStep rfl (by omega) (by omega) encS_len hgd s y ho base v A x (encS_one x) hs hown gs c hx hc hroom hbase hK
def StepsV (L : List StepT) (w : World) (e : Ending) (w' : World) : Prop := ∃ a c, e = .returned (.slice a L.length c) ∧ Row encS 2 w' a L ∧ Below w.heap.size w w'
section
variable (n : Int) (b : Bool) (ao fo : Option Addr) (cap fc : Nat) (Z : List ArcT) (F : List Int)
set_option maxRecDepth 100000 in
set_option maxHeartbeats 4000000 in
theorem rsteps_any (w : World) (h : Row encA 4 w ao Z) (hf : Lst encI w fo F) (hfl : F.length = Z.length) (hz : Z.length ≤ 50000) :
    Calls Try.prog 56 #[.agg #[.int .i64 n, .bool b, .slice ao Z.length cap], .slice fo F.length fc] w (StepsV (stepsK Z F Z.length) w) := by
  have HL := Lib.hid hfl
  have hfz : F.length ≤ 50000 := by omega
  have hb00 := (Below.refl _ w).alloc (Nat.le_refl _) (.cells #[.int .i64 n, .bool b, .slice ao Z.length cap] 24)
  have HB0 := Lib.hid hb00
  have cc := cell_new w #[.int .i64 n, .bool b, .slice ao Z.length cap] 24 2
  have HR := Lib.hid (h.below' hb00)
  have HF := Lib.hid (hf.below hb00)
  clear h hf hb00 hfl
  go_enter Try.func56, Try.ntmps56
  go_wp2
  generalize w.alloc (.cells #[.int .i64 n, .bool b, .slice ao Z.length cap] 24) = w1 at *
  have hcc := block_lt_of_cell cc
  simp only at hcc
  go_loopw [5, 6] (fun ov i wr => ∃ k : Nat, k ≤ F.length ∧ i = .int .i64 (k : Int) ∧ Hid (Below w1.heap.size w1 wr) ∧ Hid (OwnS wr w1.heap.size ov (stepsK Z F k))) (fun _ i _ => F.length - (intOf i).toNat)
  case atStart => exact ⟨0, Nat.zero_le _, rfl, Lib.hid (Below.refl _ _), Lib.hid (OwnS.nil _ _)⟩
  case round =>
    obtain ⟨k, hk, rfl, HB, HO⟩ := hrel
    have dd := cell_below' HB.out cc hcc
    obtain ⟨la, lc, hlv, _⟩ := HO.out.row
    by_cases hlf : k < F.length
    · have hlfi : (k : Int) < (F.length : Int) := by omega
      have hlt : k < Z.length := by rw [← HL.out]; exact hlf
      have hli : (k : Int) < (Z.length : Int) := by omega
      have ha : Z[k]? = some Z[k] := List.getElem?_eq_getElem hlt
      obtain ⟨ab, ax, e, hab, c0, c1, c2, c3⟩ := arc_at (HR.out.below' HB.out) ha
      cases e
      obtain ⟨fb, fx, e, hfb, d0⟩ := lst_cell (HF.out.below HB.out) (atI_get (d := F) (v := k) hlf)
      cases e
      have HS := Lib.hid (stepsK_succ (F := F) ha)
      have hlen := stepsK_len Z F k
      have hsz := HB.out.size
      unfold encI at d0
      unfold stepOf capN at HS
      have HFU := Lib.hid (atI_get (d := F) (v := k) hlf)
      clear c0 c1 c3 ha
      generalize Z[k] = a at *
      generalize a.2.2.1 = c at *
      generalize atI F k = u at *
      generalize stepsK Z F k = S at *
      subst hlv
      by_cases h1 : u < c <;> by_cases h2 : 0 < u
      · have g1 : decide (u < c) = true := by simpa using h1
        have g2 : decide (0 < u) = true := by simpa using h2
        have HS1 : Hid (stepsK Z F (k + 1) = (S ++ [((k : Int), false)]) ++ [((k : Int), true)]) := Lib.hid (by rw [HS.out, if_pos h1, if_pos h2]; simp)
        clear HS
        go_wp2
        go_quiet (fail)
        have HBn := Lib.hid (below_drewN HB.out nq)
        have HOn := Lib.hid (HO.out.below (below_drewN (Below.refl _ _) nq))
        have dn : (wr.drewN nq).cell? ⟨fb, fx + k, none⟩ = some (.int .i64 u) := d0
        have hszn : w1.heap.size ≤ (wr.drewN nq).heap.size := hsz
        have hroom : S.length ≤ 200000 := by omega
        clear d0 dd c2 HO HB hsz hfb hab
        generalize wr.drewN nq = wz at *
        have HO3 := Lib.hid (HOn.out.alloc (.cells #[.int .i64 (k : Int), .bool false] 150))
        go_wp2_with (first
          | (at_builtin; refine wpList_append_step rfl _ _ rfl w1.heap.size _ S ((k : Int), false) rfl HO3.out _ 1 rfl (cells2 _ _ _ (by simp) _ _) hroom (by simp; omega) ?_; intro g4 cap4 w4 ho4 hg4 hl4 hb4 hlt4; have HO4 := Lib.hid ho4; have HB4 := Lib.hid (below_grown (HBn.out.alloc hszn (.cells #[.int .i64 (k : Int), .bool false] 150)) (by simp; omega) hg4 (fun g e => own_block HO3.out e)); have hs4 := HB4.out.size; obtain ⟨fb2, fx2, e, hfb2, d4⟩ := lst_cell (HF.out.below HB4.out) HFU.out; cases e; unfold encI at d4; clear ho4 hg4 hl4 dn)
          | (at_builtin; refine wpList_append_step rfl _ _ rfl w1.heap.size _ (S ++ [((k : Int), false)]) ((k : Int), true) rfl (HO4.out.alloc (.cells #[.int .i64 (k : Int), .bool true] 150)) _ 1 rfl (cells2 _ _ _ (by simp) _ _) (by simp; omega) (by simp; omega) ?_; intro g5 cap5 w5 ho5 hg5 hl5 hb5 hlt5; rw [List.length_append, List.length_singleton] at ho5; have HO5 := Lib.hid ho5; have HB5 := Lib.hid (below_grown (HB4.out.alloc hs4 (.cells #[.int .i64 (k : Int), .bool true] 150)) (by simp; omega) hg5 (fun g e => own_block HO4.out e)); clear ho5 hg5 hl5))
        go_roundw
        case rel => exact ⟨k + 1, by omega, by go_num, HB5, Lib.hid (by rw [HS1.out]; simpa using HO5.out)⟩
        case measure => simp [intOf]; omega
      · have g1 : decide (u < c) = true := by simpa using h1
        have g2 : decide (0 < u) = false := by simpa using h2
        have HS1 : Hid (stepsK Z F (k + 1) = S ++ [((k : Int), false)]) := Lib.hid (by rw [HS.out, if_pos h1, if_neg h2]; simp)
        clear HS
        go_wp2
        go_quiet (fail)
        have HBn := Lib.hid (below_drewN HB.out nq)
        have HOn := Lib.hid (HO.out.below (below_drewN (Below.refl _ _) nq))
        have dn : (wr.drewN nq).cell? ⟨fb, fx + k, none⟩ = some (.int .i64 u) := d0
        have hszn : w1.heap.size ≤ (wr.drewN nq).heap.size := hsz
        have hroom : S.length ≤ 200000 := by omega
        clear d0 dd c2 HO HB hsz hfb hab
        generalize wr.drewN nq = wz at *
        have HO3 := Lib.hid (HOn.out.alloc (.cells #[.int .i64 (k : Int), .bool false] 150))
        go_wp2_with (first
          | (at_builtin; refine wpList_append_step rfl _ _ rfl w1.heap.size _ S ((k : Int), false) rfl HO3.out _ 1 rfl (cells2 _ _ _ (by simp) _ _) hroom (by simp; omega) ?_; intro g4 cap4 w4 ho4 hg4 hl4 hb4 hlt4; have HO4 := Lib.hid ho4; have HB4 := Lib.hid (below_grown (HBn.out.alloc hszn (.cells #[.int .i64 (k : Int), .bool false] 150)) (by simp; omega) hg4 (fun g e => own_block HO3.out e)); have hs4 := HB4.out.size; obtain ⟨fb2, fx2, e, hfb2, d4⟩ := lst_cell (HF.out.below HB4.out) HFU.out; cases e; unfold encI at d4; clear ho4 hg4 hl4 dn))
        go_roundw
        case rel => exact ⟨k + 1, by omega, by go_num, HB4, Lib.hid (by rw [HS1.out]; exact HO4.out)⟩
        case measure => simp [intOf]; omega
      · have g1 : decide (u < c) = false := by simpa using h1
        have g2 : decide (0 < u) = true := by simpa using h2
        have HS1 : Hid (stepsK Z F (k + 1) = S ++ [((k : Int), true)]) := Lib.hid (by rw [HS.out, if_neg h1, if_pos h2]; simp)
        clear HS
        go_wp2
        go_quiet (fail)
        have HBn := Lib.hid (below_drewN HB.out nq)
        have HOn := Lib.hid (HO.out.below (below_drewN (Below.refl _ _) nq))
        have dn : (wr.drewN nq).cell? ⟨fb, fx + k, none⟩ = some (.int .i64 u) := d0
        have hszn : w1.heap.size ≤ (wr.drewN nq).heap.size := hsz
        have hroom : S.length ≤ 200000 := by omega
        clear d0 dd c2 HO HB hsz hfb hab
        generalize wr.drewN nq = wz at *
        have HO3 := Lib.hid (HOn.out.alloc (.cells #[.int .i64 (k : Int), .bool true] 150))
        go_wp2_with (first
          | (at_builtin; refine wpList_append_step rfl _ _ rfl w1.heap.size _ S ((k : Int), true) rfl HO3.out _ 1 rfl (cells2 _ _ _ (by simp) _ _) hroom (by simp; omega) ?_; intro g4 cap4 w4 ho4 hg4 hl4 hb4 hlt4; have HO4 := Lib.hid ho4; have HB4 := Lib.hid (below_grown (HBn.out.alloc hszn (.cells #[.int .i64 (k : Int), .bool true] 150)) (by simp; omega) hg4 (fun g e => own_block HO3.out e)); have hs4 := HB4.out.size; obtain ⟨fb2, fx2, e, hfb2, d4⟩ := lst_cell (HF.out.below HB4.out) HFU.out; cases e; unfold encI at d4; clear ho4 hg4 hl4 dn))
        go_roundw
        case rel => exact ⟨k + 1, by omega, by go_num, HB4, Lib.hid (by rw [HS1.out]; exact HO4.out)⟩
        case measure => simp [intOf]; omega
      · have g1 : decide (u < c) = false := by simpa using h1
        have g2 : decide (0 < u) = false := by simpa using h2
        have HS1 : Hid (stepsK Z F (k + 1) = S) := Lib.hid (by rw [HS.out, if_neg h1, if_neg h2]; simp)
        clear HS
        go_wp2
        go_quiet (fail)
        have HBn := Lib.hid (below_drewN HB.out nq)
        have HOn := Lib.hid (HO.out.below (below_drewN (Below.refl _ _) nq))
        have dn : (wr.drewN nq).cell? ⟨fb, fx + k, none⟩ = some (.int .i64 u) := d0
        have hszn : w1.heap.size ≤ (wr.drewN nq).heap.size := hsz
        have hroom : S.length ≤ 200000 := by omega
        clear d0 dd c2 HO HB hsz hfb hab
        generalize wr.drewN nq = wz at *
        go_wp2
        go_roundw
        case rel => exact ⟨k + 1, by omega, by go_num, HBn, Lib.hid (by rw [HS1.out]; exact HOn.out)⟩
        case measure => simp [intOf]; omega
    · have hlfi : ¬ (k : Int) < (F.length : Int) := by omega
      obtain rfl : k = F.length := by omega
      subst hlv
      have HO2 := HO
      rw [HL.out] at HO2
      obtain ⟨la2, lc2, e, hrow⟩ := HO2.out.row
      injection e with e1 e2 e3
      subst e1
      have HRW := Lib.hid hrow
      clear hrow
      go_wp2
      go_ret
      exact ⟨la, lc2, by rw [HL.out]; rfl, HRW.out, HB0.out.trans (HB.out.mono HB0.out.size)⟩
end
end Go.Proofs.Ytbkmfjegbmjknaa
namespace Go.Proofs.Ytbkmfjegbmjknaa
open Go.RowKit
set_option linter.unusedVariables false
section
variable (n : Int) (b : Bool) (ao : Option Addr) (cap : Nat) (Z : List ArcT) (s t : Int)
end
end Go.Proofs.Ytbkmfjegbmjknaa
namespace Go.Proofs.Ytbkmfjegbmjknaa
open Go.RowKit
set_option linter.unusedVariables false
section
variable (n : Int) (b : Bool) (ao fo : Option Addr) (cap fc : Nat) (Z : List ArcT) (F : List Int)
section
variable {w2 wr w3 : World} {g N : Nat} {L : List Int}
end
end
end Go.Proofs.Ytbkmfjegbmjknaa
namespace Go.Proofs.Ytbkmfjegbmjknaa
open Go.RowKit
set_option linter.unusedVariables false
section
variable (n : Int) (b : Bool) (ao fo : Option Addr) (cap fc : Nat) (Z : List ArcT) (s t : Int) (F : List Int)
end
end Go.Proofs.Ytbkmfjegbmjknaa
namespace Go.Proofs.Ytbkmfjegbmjknaa
open Go.RowKit
set_option linter.unusedVariables false
theorem wpList_append_all {w : World} {ops : Array Oper} {rest : List Oper} {o : Oper} {a : Act} {Q : Exit → Act → World → Prop} (hgd : o.guard = none) (s y : Operand)
    (ho : o.op = .call { callee := .builtin .append, args := #[s, y], argTypes := #[42, 42] }) (fo : Option Addr) (fc : Nat) (F : List Int) (hs : a.eval s = .slice none 0 0) (hx : a.eval y = .slice fo F.length fc)
    (hf : Lst encI w fo F) (hnil : fo = none → fc = 0) (hl : F.length ≤ 200000)
    (hK : ∀ v w', OwnL encI w' w.heap.size 3 v F → Below w.heap.size w w' → wpList Try.prog ops Q rest (a.put o.dst v) w') : wpList Try.prog ops Q (o :: rest) a w := by
  obtain ⟨i0, hi, hz0, hz1, hz2⟩ := info_parts infoInt
  cases fo with
  | none =>
    have h0 : F = [] := by
      cases F with
      | nil => rfl
      | cons x r => obtain ⟨_, _, e, _⟩ := hf 0 (by simp); cases e
    subst h0
    have hc := hnil rfl
    subst hc
    exact wpList_append_own_none hgd s y 42 ho w.heap.size 3 i0 1 Try.underlying42 hi (.slice none 0 0) 0 [] hs (World.ownsRow_nil _ _ _ _) hx (hK _ _ (OwnL.nil _ _ _) (Below.refl _ _))
  | some ad =>
    refine wpList_append_own_at w hgd s y 42 ho w.heap.size 3 i0 (.int .i64 0) 1 8 Try.underlying42 hi hz0 hz1 hz2 rfl (by decide) _ 0 [] hs (World.ownsRow_nil _ _ _ _) ad F.length fc (F.map encI) hx (by simp) ?_ (encI_ones rfl) (by unfold maxLen; omega) (by omega) (Nat.le_refl _) ?_
    · intro j u hj
      have hp : 0 < (F.map encI).length := by
        have := (List.getElem?_eq_some_iff.1 hj).1
        omega
      obtain ⟨ad', e, h1⟩ := lst_src hf rfl hp
      cases e
      exact h1 j u hj
    · intro v' w' h1 h2 h3 _
      rw [List.nil_append, Nat.zero_add] at h1
      exact hK v' w' h1 ((Below.refl _ w).grown h2 (Nat.le_refl _) (fun j hj => by simp [Value.ownBlock] at hj))
section
variable {w1 wr w3 : World} {v : Value} {F : List Int}
end
section
variable (n : Int) (b : Bool) (ao fo lo : Option Addr) (cap fc lc : Nat) (Z : List ArcT) (F : List Int) (L : List StepT)
end
end Go.Proofs.Ytbkmfjegbmjknaa
namespace Go.Proofs.Ytbkmfjegbmjknaa
open Go.RowKit
set_option linter.unusedVariables false
theorem NextIs.no {Z : List ArcT} {N : Nat} {out : List Nat} {v : Nat} {nx : Int} (h : NextIs Z N out (v + 1) nx) (hf : freeN Z out v = false) : NextIs Z N out v nx := by
  rcases h with ⟨h1, h2⟩ | ⟨x, h1, h2, h3, h4, h5⟩
  · refine .inl ⟨h1, fun u g1 g2 => ?_⟩
    by_cases e : u = v
    · subst e; exact hf
    · exact h2 u (by omega) g2
  · refine .inr ⟨x, h1, by omega, h3, h4, fun u g1 g2 => ?_⟩
    by_cases e : u = v
    · subst e; exact hf
    · exact h5 u (by omega) g2
end Go.Proofs.Ytbkmfjegbmjknaa
namespace Go.Proofs.Ytbkmfjegbmjknaa
set_option linter.unusedVariables false
section
variable {fr «to» : StepT → Nat} {l : List StepT} {s0 : Nat}
theorem expX_app (a b : List StepT) (u p : Nat) (x : List Ent) : expX fr «to» (a ++ b) u p x = expX fr «to» b u p (expX fr «to» a u p x) := by unfold expX; rw [List.foldl_append]
theorem seek_stop {i : Nat} (h : (seekK fr «to» l s0 i).length ≤ i) : ∀ k, seekK fr «to» l s0 (i + k) = seekK fr «to» l s0 i
  | 0 => rfl
  | k + 1 => by
    have ih := seek_stop h k
    show (match (seekK fr «to» l s0 (i + k))[i + k]? with | none => _ | some e => _) = _
    rw [ih, List.getElem?_eq_none (by omega)]
    exact ih
end
end Go.Proofs.Ytbkmfjegbmjknaa
namespace Go.Proofs.Ytbkmfjegbmjknaa
set_option linter.unusedVariables false
section
variable {fr «to» : StepT → Nat} {l : List StepT}
theorem seek_last {s i N : Nat} (h : (seekK fr «to» l s i).length ≤ i) (hi : i ≤ N) : seekK fr «to» l s N = seekK fr «to» l s i := by
  have h2 := seek_stop (fr := fr) («to» := «to») (l := l) (s0 := s) (i := i) h (N - i)
  rwa [show i + (N - i) = N by omega] at h2
end
section
variable (Z : List ArcT) (F : List Int) (N s : Nat)
end
section
variable {Z : List ArcT} {F : List Int} {N s : Nat}
end
end Go.Proofs.Ytbkmfjegbmjknaa
namespace Go.Proofs.Ytbkmfjegbmjknaa
open Go.RowKit
set_option linter.unusedVariables false
theorem begI_fromE {Z : List ArcT} {j : Nat} {a : ArcT} (ha : Z[j]? = some a) (hE : a.1 = (frN a : Int) ∧ a.2.1 = (toN a : Int)) (q : Bool) : begI a q = (fromS Z ((j : Int), q) : Int) ∧ endI a q = (toS Z ((j : Int), q) : Int) := by
  have e := arcOf_nat q ha
  unfold fromS toS
  rw [e]
  cases q <;> simp [begI, endI, hE.1, hE.2]
section
variable (n : Int) (b : Bool) (ao : Option Addr) (cap : Nat) (Z : List ArcT)
end
end Go.Proofs.Ytbkmfjegbmjknaa
namespace Go.Proofs.Ytbkmfjegbmjknaa
open Go.RowKit
set_option linter.unusedVariables false
section
variable {w0 w1 wr w2 : World} {gd gb N : Nat} {d : List Int} {B : List StepT}
theorem TR.weak (h : TR w1 wr gd gb N d B) (hb : Below w0.heap.size w0 w1) : TR w0 wr gd gb N d B := ⟨hb.trans (h.below.mono hb.size), h.lev.mono hb.size, own_mono h.byy hb.size, h.ne⟩
end
section
variable (b : Bool) (ao fo : Option Addr) (cap fc : Nat) (Z : List ArcT) (F : List Int) (g1 c1 g2 c2 N : Nat)
end
end Go.Proofs.Ytbkmfjegbmjknaa
namespace Go.Proofs.Ytbkmfjegbmjknaa
open Go.RowKit
set_option linter.unusedVariables false
section
variable {w1 wr w2 : World} {gd gb gt qb qg N : Nat} {cs : Array Value} {d : List Int} {B : List StepT} {Q Q' : List Nat}
end
section
variable (b : Bool) (ao fo : Option Addr) (cap fc : Nat) (Z : List ArcT) (F : List Int) (g1 c1 g2 c2 N : Nat)
end
end Go.Proofs.Ytbkmfjegbmjknaa
namespace Go.Proofs.Ytbkmfjegbmjknaa
open Go.RowKit
set_option linter.unusedVariables false
section
variable (b : Bool) (ao fo : Option Addr) (cap fc : Nat) (Z : List ArcT) (F : List Int) (g1 c1 g2 c2 N : Nat)
end
end Go.Proofs.Ytbkmfjegbmjknaa
namespace Go.Proofs.Ytbkmfjegbmjknaa
open Go.RowKit
set_option linter.unusedVariables false
theorem stepsK_arc {Z : List ArcT} {F : List Int} {y : StepT} (h : y ∈ stepsK Z F Z.length) : ∃ (p : Nat) (a : ArcT) (q : Bool), Z[p]? = some a ∧ y = ((p : Int), q) := by
  obtain ⟨h1, _, _⟩ := (stepsK_mem (Nat.le_refl _)).1 h
  refine ⟨y.1.toNat, _, y.2, arcOf_at h1, ?_⟩
  unfold isArc at h1
  obtain ⟨y1, y2⟩ := y
  simp only at h1 ⊢
  rw [Int.toNat_of_nonneg h1.1]
section
variable (n : Int) (b : Bool) (ao fo : Option Addr) (cap fc : Nat) (Z : List ArcT) (F : List Int)
end
end Go.Proofs.Ytbkmfjegbmjknaa
namespace Go.Proofs.Ytbkmfjegbmjknaa
open Go.RowKit
set_option linter.unusedVariables false
def hasI (K : List Nat) (v : Nat) : Int := match K.findIdx? (· == v) with | some j => (j : Int) | none => -1
theorem hasI_some {K : List Nat} {v j : Nat} (hj : j < K.length) (h : K[j] = v) (hn : ∀ m (hm : m < j), K[m]'(by omega) ≠ v) : hasI K v = (j : Int) := by
  unfold hasI
  have : K.findIdx? (· == v) = some j := by
    rw [List.findIdx?_eq_some_iff_getElem]
    refine ⟨hj, by simp [h], fun m hm => by simpa using hn m hm⟩
  rw [this]
theorem hasI_none {K : List Nat} {v : Nat} (hn : ∀ m (hm : m < K.length), K[m] ≠ v) : hasI K v = -1 := by
  unfold hasI
  have : K.findIdx? (· == v) = none := by
    rw [List.findIdx?_eq_none_iff]
    intro y hy
    obtain ⟨m, hm, rfl⟩ := List.getElem_of_mem hy
    simpa using hn m hm
  rw [this]
theorem hasI_neg {K : List Nat} {v : Nat} : hasI K v < 0 ↔ v ∉ K := by
  unfold hasI
  cases h : K.findIdx? (· == v) with
  | some j =>
    rw [List.findIdx?_eq_some_iff_getElem] at h
    obtain ⟨h1, h2, _⟩ := h
    simp only
    have e : K[j] = v := by simpa using h2
    have hm : v ∈ K := by rw [← e]; exact List.getElem_mem h1
    constructor
    · intro h3; omega
    · intro h3; exact absurd hm h3
  | none =>
    rw [List.findIdx?_eq_none_iff] at h
    simp only
    constructor
    · intro _ hm; have := h v hm; simp at this
    · intro _; decide
theorem hasI_bd (K : List Nat) (v : Nat) : -1 ≤ hasI K v ∧ hasI K v < (K.length : Int) := by
  unfold hasI
  cases h : K.findIdx? (· == v) with
  | some j =>
    rw [List.findIdx?_eq_some_iff_getElem] at h
    obtain ⟨h1, _⟩ := h
    simp only; omega
  | none => simp only; omega
set_option maxRecDepth 100000 in
set_option maxHeartbeats 2000000 in
theorem rhas_any (no bo : Option Addr) (nc bl bc : Nat) (K : List Nat) (v : Nat) (w : World) (h : Lst encI w no (natI K)) (hK : K.length ≤ 200000) :
    Calls Try.prog 85 #[.agg #[.slice no K.length nc, .slice bo bl bc], .int .i64 (v : Int)] w fun e w' => e = .returned (.int .i64 (hasI K v)) ∧ Below w.heap.size w w' := by
  have hb00 := (Below.refl _ w).alloc (Nat.le_refl _) (.cells #[.slice no K.length nc, .slice bo bl bc] 147)
  have HB0 := Lib.hid hb00
  have c0 := cell_new w #[.slice no K.length nc, .slice bo bl bc] 147 0
  have HL := Lib.hid (h.below hb00)
  clear h hb00
  go_enter Try.func85, Try.ntmps85
  go_wp2
  generalize w.alloc (.cells #[.slice no K.length nc, .slice bo bl bc] 147) = w1 at *
  go_loopw [5] (fun iv wr => ∃ j : Nat, j ≤ K.length ∧ iv = .int .i64 (j : Int) ∧ Hid (∀ m (hm : m < K.length), m < j → K[m] ≠ v) ∧ Hid (Below w1.heap.size w1 wr)) (fun iv _ => K.length - (intOf iv).toNat)
  case atStart => exact ⟨0, Nat.zero_le _, rfl, Lib.hid (fun m hm h => absurd h (by omega)), Lib.hid (Below.refl _ _)⟩
  case round =>
    obtain ⟨j, hj, rfl, HN, HB⟩ := hrel
    have e0 := cell_below' HB.out c0 (block_lt_of_cell c0)
    by_cases hlt : j < K.length
    · have hli : (j : Int) < (K.length : Int) := by omega
      obtain ⟨bb, oo, e, hbb, hcp⟩ := lst_cell HL.out (i := j) (x := ((K[j] : Nat) : Int)) (natI_at hlt)
      cases e
      have hcp' := cell_below' HB.out hcp hbb
      unfold encI at hcp'
      clear hcp
      by_cases hv : K[j] = v
      · have hf1 : ((K[j] : Nat) : Int) == (v : Int) := by simp [hv]
        have HH := Lib.hid (hasI_some hlt hv (fun m hm => HN.out m (by omega) hm))
        clear hv
        generalize K[j] = y at *
        go_wp2
        go_ret
        exact ⟨by rw [HH.out]; rfl, HB0.out.trans (HB.out.mono HB0.out.size)⟩
      · have hf1 : (((K[j] : Nat) : Int) == (v : Int)) = false := by simp; omega
        have HN2 : Hid (∀ m (hm : m < K.length), m < j + 1 → K[m] ≠ v) := Lib.hid (fun m hm h => by
          by_cases e : m = j
          · subst e; exact hv
          · exact HN.out m hm (by omega))
        clear hv
        generalize K[j] = y at *
        go_wp2
        go_roundw
        case rel => exact ⟨j + 1, by omega, by go_num, HN2, HB⟩
        case measure => simp [intOf]; omega
    · have hli : ¬ (j : Int) < (K.length : Int) := by omega
      obtain rfl : j = K.length := by omega
      have HH := Lib.hid (hasI_none (K := K) (v := v) (fun m hm => HN.out m hm hm))
      go_wp2
      go_ret
      exact ⟨by rw [HH.out]; rfl, HB0.out.trans (HB.out.mono HB0.out.size)⟩
theorem rhas_len (no bo : Option Addr) (nc bl bc len : Nat) (K : List Nat) (v : Nat) (hI : Int) (w : World) (h : Lst encI w no (natI K)) (hl : K.length = len) (hK : len ≤ 200000) (hh : hasI K v = hI) :
    Calls Try.prog 85 #[.agg #[.slice no len nc, .slice bo bl bc], .int .i64 (v : Int)] w fun e w' => e = .returned (.int .i64 hI) ∧ Below w.heap.size w w' := by
  subst hl; subst hh; exact rhas_any no bo nc bl bc K v w h hK
end Go.Proofs.Ytbkmfjegbmjknaa
namespace Go.Proofs.Ytbkmfjegbmjknaa
open Go.RowKit
set_option linter.unusedVariables false
section
variable (n : Int) (b : Bool) (ao fo lo : Option Addr) (cap fc lc : Nat) (Z : List ArcT) (F : List Int) (L : List StepT)
set_option maxRecDepth 100000 in
set_option maxHeartbeats 4000000 in
theorem rbottle_any (w : World) (h : Row encA 4 w ao Z) (hf : Lst encI w fo F) (hl : Row encS 2 w lo L) (hL : L ≠ []) (hll : L.length ≤ 200000) (hz : Z.length ≤ 200000) (hfl : F.length ≤ 200000) (hok : ∀ y ∈ L, StepOk Z F y) :
    Calls Try.prog 58 #[.agg #[.int .i64 n, .bool b, .slice ao Z.length cap], .slice fo F.length fc, .slice lo L.length lc] w fun e w' => e = .returned (.int .i64 (botK Z F L)) ∧ Below w.heap.size w w' := by
  have hb00 := (Below.refl _ w).alloc (Nat.le_refl _) (.cells #[.int .i64 n, .bool b, .slice ao Z.length cap] 24)
  have HB0 := Lib.hid hb00
  have c0 := cell_new w #[.int .i64 n, .bool b, .slice ao Z.length cap] 24 0
  have c1 := cell_new w #[.int .i64 n, .bool b, .slice ao Z.length cap] 24 1
  have c2 := cell_new w #[.int .i64 n, .bool b, .slice ao Z.length cap] 24 2
  have HR := Lib.hid (h.below' hb00)
  have HF := Lib.hid (hf.below hb00)
  have HLR := Lib.hid (hl.below' hb00)
  have HOK := Lib.hid hok
  have h0l : 0 < L.length := List.length_pos_iff.2 hL
  have hli0 : (0 : Int) < (L.length : Int) := by omega
  obtain ⟨y0, r, hLe⟩ : ∃ y0 r, L = y0 :: r := by cases L with | nil => exact absurd rfl hL | cons a l => exact ⟨a, l, rfl⟩
  have HLE : Hid (∀ k, 0 < k → botA Z F (leftS Z F y0) ((L.take k).drop 1) = botK Z F (L.take k)) := Lib.hid (fun k hk => by rw [hLe]; obtain ⟨m, rfl⟩ : ∃ m, k = m + 1 := ⟨k - 1, by omega⟩; simp [botK])
  obtain ⟨lb, lx, rfl, hlb, s0, s1⟩ := step_at HLR.out (i := 0) (x := y0) (by rw [hLe]; rfl)
  obtain ⟨p, a, q, hy, ha, hx, b1, b2, b3, b4⟩ := hok y0 (by rw [hLe]; simp)
  have HRM : Hid (roomI a (atI F p) q = leftS Z F y0) := Lib.hid (by rw [hy, left_room ha])
  have HA := Lib.hid ha
  have HXX := Lib.hid hx
  subst hy
  simp only at s0 s1
  have hlt1 : lb < (w.alloc (.cells #[.int .i64 n, .bool b, .slice ao Z.length cap] 24)).heap.size := hlb
  clear h hf hl hok hb00 ha hx hL hLe
  rw [Nat.zero_mul, Nat.add_zero] at s0 s1
  go_enter Try.func58, Try.ntmps58
  go_wp2
  generalize w.alloc (.cells #[.int .i64 n, .bool b, .slice ao Z.length cap] 24) = w1 at *
  go_region_held3 (fun W => W.cell? ⟨w.heap.size, 0, none⟩ = some (.int .i64 n) ∧ W.cell? ⟨w.heap.size, 1, none⟩ = some (.bool b) ∧ W.cell? ⟨w.heap.size, 2, none⟩ = some (.slice ao Z.length cap) ∧ W.cell? ⟨lb, lx, none⟩ = some (.int .i64 (p : Int)) ∧ W.cell? ⟨lb, lx + 1, none⟩ = some (.bool q)) (first | exact ⟨c0, c1, c2, s0, s1⟩ | exact ⟨z0, z1, z2, z3, z4⟩ | go_keep)
    (first | (go_at_call 87; refine (rleft_at n b ao cap Z fo fc F p q a (atI F p) w1.drew (HR.out.below' (below_drew (Below.refl w1.heap.size w1))) (HF.out.below (below_drew (Below.refl w1.heap.size w1))) HA.out HXX.out hz hfl b1 b2 b3 b4).mono ?_; rintro e w6 ⟨rfl, b6⟩; rw [HRM.out]; have z0 := cell_below (w := w1.drew) b6 c0; have z1 := cell_below (w := w1.drew) b6 c1; have z2 := cell_below (w := w1.drew) b6 c2; have z3 := cell_below (w := w1.drew) b6 s0; have z4 := cell_below (w := w1.drew) b6 s1; have HB6 := Lib.hid ((below_drew (Below.refl w1.heap.size w1)).trans b6); clear b6))
  all_goals
    have HL6 := Lib.hid (HLR.out.below' HB6.out)
    go_wp2
    go_loopw [7, 8] (fun kv iv wr => ∃ j : Nat, 0 < j ∧ j ≤ L.length ∧ iv = .int .i64 (j : Int) ∧ kv = .int .i64 (botK Z F (L.take j)) ∧ Hid (Below w1.heap.size w1 wr)) (fun _ iv _ => L.length - (intOf iv).toNat)
    case atStart => exact ⟨1, by omega, by omega, rfl, by rw [← HLE.out 1 (by omega)]; simp [botA], HB6⟩
    case round =>
      clear HB6 HL6
      obtain ⟨j, hj0, hj, rfl, rfl, HB⟩ := hrel
      by_cases hlt : j < L.length
      · have hli : (j : Int) < (L.length : Int) := by omega
        have HBK : Hid (min (botK Z F (L.take j)) (leftS Z F L[j]) = botK Z F (L.take (j + 1))) := Lib.hid (by
          rw [← HLE.out j hj0, ← HLE.out (j + 1) (by omega), List.take_succ_eq_append_getElem hlt, List.drop_append_of_le_length (by simp; omega), botA_snoc])
        obtain ⟨lb2, lx2, e, hlb2, s2, s3⟩ := step_at (HLR.out.below' HB.out) (List.getElem?_eq_getElem hlt)
        cases e
        have hokj := HOK.out _ (List.getElem_mem hlt)
        have d0 := cell_below' HB.out c0 (block_lt_of_cell c0)
        have d1 := cell_below' HB.out c1 (block_lt_of_cell c1)
        have d2 := cell_below' HB.out c2 (block_lt_of_cell c2)
        generalize L[j] = y at *
        obtain ⟨p2, a2, q2, hy2, ha2, hx2, e1, e2, e3, e4⟩ := hokj
        have HRM2 : Hid (roomI a2 (atI F p2) q2 = leftS Z F y) := Lib.hid (by rw [hy2, left_room ha2])
        have HA2 := Lib.hid ha2
        have HX2 := Lib.hid hx2
        subst hy2
        simp only at s2 s3
        obtain ⟨kb, hkb⟩ : ∃ kb, botK Z F (L.take j) = kb := ⟨_, rfl⟩
        rw [hkb] at HBK ⊢
        obtain ⟨rm, hrm⟩ : ∃ rm, leftS Z F ((p2 : Int), q2) = rm := ⟨_, rfl⟩
        rw [hrm] at HBK HRM2
        have HRW := Lib.hid (HR.out.below' HB.out)
        have HFW := Lib.hid (HF.out.below HB.out)
        clear ha2 hx2 hkb hrm
        go_wp2_with fail
        go_region_held3 (fun W => W.cell? ⟨w.heap.size, 0, none⟩ = some (.int .i64 n) ∧ W.cell? ⟨w.heap.size, 1, none⟩ = some (.bool b) ∧ W.cell? ⟨w.heap.size, 2, none⟩ = some (.slice ao Z.length cap) ∧ W.cell? ⟨lb, lx + j * 2, none⟩ = some (.int .i64 (p2 : Int)) ∧ W.cell? ⟨lb, lx + j * 2 + 1, none⟩ = some (.bool q2)) (first | exact ⟨d0, d1, d2, s2, s3⟩ | exact ⟨z0, z1, z2, z3, z4⟩ | go_keep)
          (first | (go_at_call 87; refine (rleft_at n b ao cap Z fo fc F p2 q2 a2 (atI F p2) wr.drew (HRW.out.below' (below_drew (Below.refl wr.heap.size wr))) (HFW.out.below (below_drew (Below.refl wr.heap.size wr))) HA2.out HX2.out hz hfl e1 e2 e3 e4).mono ?_; rintro e w6 ⟨rfl, b6⟩; rw [HRM2.out]; have z0 := cell_below (w := wr.drew) b6 d0; have z1 := cell_below (w := wr.drew) b6 d1; have z2 := cell_below (w := wr.drew) b6 d2; have z3 := cell_below (w := wr.drew) b6 s2; have z4 := cell_below (w := wr.drew) b6 s3; have HB7 := Lib.hid ((below_drew HB.out).trans (b6.mono HB.out.size)); clear b6))
        all_goals
          go_wp2
          go_roundw
          case rel => exact ⟨j + 1, by omega, by omega, by go_num, by rw [← HBK.out], HB7⟩
          case measure => simp [intOf]; omega
      · have hli : ¬ (j : Int) < (L.length : Int) := by omega
        obtain rfl : j = L.length := by omega
        rw [List.take_length]
        go_wp2
        go_ret
        exact ⟨rfl, HB0.out.trans (HB.out.mono HB0.out.size)⟩
end
end Go.Proofs.Ytbkmfjegbmjknaa
namespace Go.Proofs.Ytbkmfjegbmjknaa
open Go.RowKit
set_option linter.unusedVariables false
def byX (x : List Ent) : List StepT := x.map fun e => e.2.1
theorem byX_len (x : List Ent) : (byX x).length = x.length := by simp [byX]
theorem keysX_len (x : List Ent) : (keysX x).length = x.length := by simp [keysX]
section
variable {w wb wr w2 : World} {gv gn nc gs bc : Nat} {K : List Nat} {T : List StepT}
theorem FDW.blocks (h : FDW wb wr gv gn nc gs bc K T) : (wb.heap.size ≤ gn ∧ gn < wr.heap.size) ∧ (wb.heap.size ≤ gs ∧ gs < wr.heap.size) ∧ gv < wb.heap.size ∧ wb.heap.size ≤ wr.heap.size := ⟨own_lt2 h.nodes rfl, h.byy.lt, h.lt, h.kept.size⟩
theorem FDW.ownN (h : FDW wb wr gv gn nc gs bc K T) : wr.ownsRow wb.heap.size 3 1 (.slice (some ⟨gn, 0, none⟩) K.length nc) K.length ((natI K).map encI) := by
  have := h.nodes
  unfold OwnL at this
  rwa [natI_len] at this
theorem FDW.addN {W w4 : World} {g4 cap4 x : Nat} (h : FDW wb W gv gn nc gs bc K T) (ho : OwnL encI w4 wb.heap.size 3 (.slice (some ⟨g4, 0, none⟩) (K.length + 1) cap4) (natI (K ++ [x]))) (hg : W.grownBy w4 (some gn)) (hl : some gn = some g4 ∨ g4 = W.heap.size) :
    FDW wb (w4.setCell ⟨gv, 0, none⟩ (.slice (some ⟨g4, 0, none⟩) (K.length + 1) cap4)) gv g4 cap4 gs bc (K ++ [x]) T := by
  have hb := h.blocks
  have k4 : Kept (fun i => i = gn) W w4 := Kept.of_grown hg (fun k e => by have := Option.some.inj e; show k = gn; omega)
  have ne2 : g4 ≠ gs := by
    rcases hl with e | e
    · have := Option.some.inj e; have := h.ne; omega
    · omega
  have v4 := k4.old h.var (by show gv ≠ gn; omega)
  have hb4 : wb.heap.size ≤ g4 := own_block ho rfl
  refine ⟨?_, ?_, ?_, ne2, h.lt, ?_⟩
  · rw [List.length_append]
    exact set_whole v4 0 _
  · rw [List.length_append]
    exact ownL_kept ho ((Kept.refl (fun i => i = gv) w4).set (.inl rfl) _) (fun g e => by simp [Value.ownBlock] at e; show g ≠ gv; omega)
  · exact (h.byy.kept k4 (by show gs ≠ gn; have := h.ne; omega)).kept ((Kept.refl (fun i => i = gv) w4).set (.inl rfl) _) (by show gs ≠ gv; omega)
  · exact (h.kept.trans k4 (fun i hi e => by have e2 : i = gn := e; omega)).set (.inl rfl) _
theorem FDW.addS {W w4 : World} {g4 cap4 : Nat} {y : StepT} (h : FDW wb W gv gn nc gs bc K T) (ho : OwnS w4 wb.heap.size (.slice (some ⟨g4, 0, none⟩) (T.length + 1) cap4) (T ++ [y])) (hg : W.grownBy w4 (some gs)) (hl : some gs = some g4 ∨ g4 = W.heap.size) :
    FDW wb (w4.setCell ⟨gv, 1, none⟩ (.slice (some ⟨g4, 0, none⟩) (T.length + 1) cap4)) gv gn nc g4 cap4 K (T ++ [y]) := by
  have hb := h.blocks
  have k4 : Kept (fun i => i = gs) W w4 := Kept.of_grown hg (fun k e => by have := Option.some.inj e; show k = gs; omega)
  have ne2 : gn ≠ g4 := by
    rcases hl with e | e
    · have := Option.some.inj e; have := h.ne; omega
    · omega
  have v4 := k4.old h.var (by show gv ≠ gs; omega)
  have hb4 : wb.heap.size ≤ g4 := own_block ho rfl
  refine ⟨?_, ?_, ?_, ne2, h.lt, ?_⟩
  · rw [List.length_append]
    exact set_whole v4 1 _
  · exact ownL_kept (ownL_kept h.nodes k4 (fun g e => by simp [Value.ownBlock] at e; show g ≠ gs; have := h.ne; omega)) ((Kept.refl (fun i => i = gv) w4).set (.inl rfl) _) (fun g e => by simp [Value.ownBlock] at e; show g ≠ gv; omega)
  · rw [List.length_append]
    exact ho.kept ((Kept.refl (fun i => i = gv) w4).set (.inl rfl) _) (by show g4 ≠ gv; omega)
  · exact (h.kept.trans k4 (fun i hi e => by have e2 : i = gs := e; omega)).set (.inl rfl) _
theorem ownI_snoc {w : World} {B : Nat} {v : Value} {K : List Nat} {x : Nat} (h : w.ownsRow B 3 1 v (K.length + 1) ((natI K).map encI ++ [.int .i64 (x : Int)])) : OwnL encI w B 3 v (natI (K ++ [x])) := by
  unfold OwnL
  rw [natI_snoc, List.length_append, List.map_append, natI_len]
  exact h
theorem ownS_snoc {w : World} {B : Nat} {v : Value} {T : List StepT} {y : StepT} (h : w.ownsRow B 150 2 v (T.length + 1) (T.flatMap encS ++ encS y)) : OwnS w B v (T ++ [y]) := by
  unfold OwnS
  rw [List.length_append, List.flatMap_append]
  simpa using h
end
theorem fresh_ne {g4 g5 H : Nat} {v : Value} (hv : v.ownBlock = none) (hl : v.ownBlock = some g5 ∨ g5 = H) (h : g4 < H) : g4 ≠ g5 := by
  rcases hl with e | e
  · rw [hv] at e; cases e
  · omega
def FoundRes (X : List Ent) (w : World) (e : Ending) (w' : World) : Prop :=
  ∃ gn nc gs bc, e = .returned (.agg #[.slice (some ⟨gn, 0, none⟩) X.length nc, .slice (some ⟨gs, 0, none⟩) X.length bc]) ∧ Lst encI w' (some ⟨gn, 0, none⟩) (natI (keysX X)) ∧ Row encS 2 w' (some ⟨gs, 0, none⟩) (byX X) ∧ Below w.heap.size w w'
section
variable (n : Int) (b : Bool) (ao lo : Option Addr) (cap lc : Nat) (Z : List ArcT) (L : List StepT) (N : Nat)
set_option maxRecDepth 100000 in
set_option maxHeartbeats 8000000 in
theorem rsought_any (s : Nat) (w : World) (h : Row encA 4 w ao Z) (hl : Row encS 2 w lo L) (hz : Z.length ≤ 200000) (hll : L.length ≤ 200000) (hN : N ≤ 100000) (hs : s < N) (hto : ∀ y ∈ L, toS Z y < N) (hok : ∀ y ∈ L, ∃ (p : Nat) (a : ArcT) (q : Bool), Z[p]? = some a ∧ y = ((p : Int), q)) (hE : ∀ a ∈ Z, a.1 = (frN a : Int) ∧ a.2.1 = (toN a : Int)) :
    Calls Try.prog 84 #[.agg #[.int .i64 n, .bool b, .slice ao Z.length cap], .int .i64 (s : Int), .slice lo L.length lc] w (FoundRes (seekK (fromS Z) (toS Z) L s N) w) := by
  have hb00 := (((Below.refl _ w).alloc (Nat.le_refl _) (.cells #[.int .i64 n, .bool b, .slice ao Z.length cap] 24)).alloc (by simp) (.cells #[.slice none 0 0, .slice none 0 0] 147)).alloc (by simp; omega) (.cells #[.slice none 0 0, .slice none 0 0] 147)
  have HB0 := Lib.hid hb00
  have hn1 := alloc_whole (alloc_whole (heap_alloc_new w (.cells #[.int .i64 n, .bool b, .slice ao Z.length cap] 24)) (.cells #[.slice none 0 0, .slice none 0 0] 147)) (.cells #[.slice none 0 0, .slice none 0 0] 147)
  have HV := Lib.hid (alloc_whole (new_whole1 w (.cells #[.int .i64 n, .bool b, .slice ao Z.length cap] 24) (.cells #[.slice none 0 0, .slice none 0 0] 147)) (.cells #[.slice none 0 0, .slice none 0 0] 147))
  have HG : Hid ((((w.alloc (.cells #[.int .i64 n, .bool b, .slice ao Z.length cap] 24)).alloc (.cells #[.slice none 0 0, .slice none 0 0] 147)).alloc (.cells #[.slice none 0 0, .slice none 0 0] 147)).heap[w.heap.size + 1 + 1]? = some (.cells #[.slice none 0 0, .slice none 0 0] 147 (0, 0))) := Lib.hid (by
    have := heap_alloc_new ((w.alloc (.cells #[.int .i64 n, .bool b, .slice ao Z.length cap] 24)).alloc (.cells #[.slice none 0 0, .slice none 0 0] 147)) (.cells #[.slice none 0 0, .slice none 0 0] 147)
    simpa using this)
  have HSZ : Hid ((((w.alloc (.cells #[.int .i64 n, .bool b, .slice ao Z.length cap] 24)).alloc (.cells #[.slice none 0 0, .slice none 0 0] 147)).alloc (.cells #[.slice none 0 0, .slice none 0 0] 147)).heap.size = w.heap.size + 3) := Lib.hid (by simp)
  have k0 := cell_whole hn1 0
  have k1 := cell_whole hn1 1
  have k2 := cell_whole hn1 2
  have HR0 := Lib.hid h
  have HL0 := Lib.hid hl
  have HE := Lib.hid hE
  have HT := Lib.hid hto
  have HOK := Lib.hid hok
  clear h hl hb00 hn1 hE hto hok
  go_enter Try.func84, Try.ntmps84
  go_upto_region 2 with (fail)
  generalize ((w.alloc (.cells #[.int .i64 n, .bool b, .slice ao Z.length cap] 24)).alloc (.cells #[.slice none 0 0, .slice none 0 0] 147)).alloc (.cells #[.slice none 0 0, .slice none 0 0] 147) = wb at *
  obtain ⟨gv, hgv⟩ : ∃ gv, w.heap.size + 1 + 1 = gv := ⟨_, rfl⟩
  rw [hgv] at HG ⊢
  have hwb : wb.heap.size = gv + 1 := by rw [HSZ.out]; omega
  have g0 := cell_whole HG.out 0
  have g1 := cell_whole HG.out 1
  have HEX : Hid (wb.heap.size ≤ wb.heap.size) := Lib.hid (Nat.le_refl _)
  go_wp2_with (first
    | (at_builtin; refine wpList_append_one (enc := encI) Try.underlying42 infoInt rfl (by omega) rfl _ _ rfl wb.heap.size (.slice none 0 0) [] (s : Int) rfl rfl (OwnL.nil _ _ _) _ 1 rfl (cell_new' hwb _ _ 0) (by simp) (by simp) ?_; intro g4 cap4 w4 ho4 hg4 hl4 hb4 hlt4; have k4 : Kept (fun i => False) wb w4 := ((Kept.refl _ wb).alloc (.cells #[.int .i64 (s : Int)] 3)).trans (Kept.of_grown (S := fun i => False) hg4 (fun k e => by cases e)) (fun i _ h => h); have HK4 := Lib.hid k4; have v4 := k4.old HG.out (fun h => h); have HV4 := Lib.hid v4; have c40 := cell_whole v4 0; have c41 := cell_whole v4 1; have f40 := frozen_whole v4 0; have HO4 := Lib.hid ho4; clear v4 k4 ho4 hg4 hl4 g0 g1)
    | (at_builtin; refine wpList_append_step rfl _ _ rfl wb.heap.size (.slice none 0 0) [] (0, false) rfl (OwnS.nil _ _) _ 1 rfl (cells2 _ _ _ (by simp [World.setCell]) _ _) (by simp) (by simp [World.setCell]; omega) ?_; intro g5 cap5 w5 ho5 hg5 hl5 hb5 hlt5; have hs4 := HK4.out.size; have k45 : Kept (fun i => i = gv) w4 w5 := (((Kept.refl (fun i => i = gv) w4).set (.inl rfl) (.slice (some ⟨g4, 0, none⟩) 1 cap4)).alloc (.cells #[.int .i64 0, .bool false] 150)).trans (Kept.of_grown (S := fun i => i = gv) hg5 (fun k e => by cases e)) (fun i _ h => h); have k5 : Kept (fun i => False) (w4.setCell ⟨gv, 0, none⟩ (.slice (some ⟨g4, 0, none⟩) 1 cap4)) w5 := ((Kept.refl (fun i => False) _).alloc (.cells #[.int .i64 0, .bool false] 150)).trans (Kept.of_grown (S := fun i => False) hg5 (fun k e => by cases e)) (fun i _ h => h); have v5 := k5.old (set_whole HV4.out 0 (.slice (some ⟨g4, 0, none⟩) 1 cap4)) (fun h => h); have HV5 := Lib.hid v5; have HK5 := Lib.hid k45; have c50 := cell_whole v5 0; have c51 := cell_whole v5 1; have f51 := frozen_whole v5 1; have HO5 := Lib.hid ho5; have HL5 : Hid (g4 ≠ g5) := Lib.hid (fresh_ne rfl hl5 (by simp [World.setCell]; omega)); clear v5 k5 k45 ho5 hg5 hl5 c40 c41 f40))
  have HF6 : Hid (FDW wb (w5.setCell ⟨gv, 1, none⟩ (.slice (some ⟨g5, 0, none⟩) 1 cap5)) gv g4 cap4 g5 cap5 (keysX [(s, (0, false), 0)]) (byX [(s, (0, false), 0)])) := Lib.hid (by
    have ho4 := HO4.out
    have ho5 := HO5.out
    rw [List.nil_append] at ho5 ho4
    have hb4 : wb.heap.size ≤ g4 := own_block ho4 rfl
    have hb5 : wb.heap.size ≤ g5 := own_block ho5 rfl
    refine ⟨set_whole HV5.out 1 _, ?_, ?_, HL5.out, by omega, ?_⟩
    · exact ownL_kept (ownL_kept ho4 HK5.out (fun g e => by simp [Value.ownBlock] at e; show g ≠ gv; omega)) ((Kept.refl (fun i => i = gv) w5).set (.inl rfl) _) (fun g e => by simp [Value.ownBlock] at e; show g ≠ gv; omega)
    · exact OwnS.kept ho5 ((Kept.refl (fun i => i = gv) w5).set (.inl rfl) _) (by show g5 ≠ gv; omega)
    · exact ((HK4.out.mono (fun i _ h => h.elim)).trans' HK5.out).set (.inl rfl) _)
  clear HO4 HO5 HV4 HV5 HK4 HK5 HL5 c50 c51 f51
  generalize w5.setCell ⟨gv, 1, none⟩ (.slice (some ⟨g5, 0, none⟩) 1 cap5) = w6 at *
  have hgb : w.heap.size ≤ gv := by omega
  go_loopw [8] (fun iv wr => ∃ (i gn nc gs bc : Nat) (x : List Ent), iv = .int .i64 (i : Int) ∧ i ≤ x.length ∧ x.length ≤ N ∧ Hid (x = seekK (fromS Z) (toS Z) L s i) ∧ Hid (SK (fromS Z) (toS Z) L s x i []) ∧ Hid (FDW wb wr gv gn nc gs bc (keysX x) (byX x))) (fun iv _ => N - (intOf iv).toNat)
  case atStart => exact ⟨0, g4, cap4, g5, cap5, [(s, (0, false), 0)], rfl, Nat.zero_le _, by simp; omega, Lib.hid rfl, Lib.hid SK.start, HF6⟩
  case round =>
    clear HF6
    obtain ⟨i, gn, nc, gs, bc, x, rfl, hix, hxN, HX, HS, HF⟩ := hrel
    have g0 := cell_whole HF.out.var 0
    have g1 := cell_whole HF.out.var 1
    rw [keysX_len] at g0
    rw [byX_len] at g1
    by_cases hlt : i < x.length
    · have hli : (i : Int) < (x.length : Int) := by omega
      obtain ⟨e, he⟩ : ∃ e, x[i]? = some e := ⟨_, List.getElem?_eq_getElem hlt⟩
      have HXE := Lib.hid he
      obtain ⟨u, hu⟩ : ∃ u, e.1 = u := ⟨_, rfl⟩
      have HU := Lib.hid hu
      clear he hu
      go_wp2
      generalize wr = wz at *
      go_loopw [9] (fun kv wi => ∃ (k gn nc gs bc : Nat) (y : List Ent), kv = .int .i64 (k : Int) ∧ k ≤ L.length ∧ i < y.length ∧ Hid (y = expX (fromS Z) (toS Z) (L.take k) u i x) ∧ Hid (SK (fromS Z) (toS Z) L s y i (L.take k)) ∧ Hid (y[i]? = some e) ∧ Hid (FDW wb wi gv gn nc gs bc (keysX y) (byX y))) (fun kv _ => L.length - (intOf kv).toNat)
      case atStart => exact ⟨0, gn, nc, gs, bc, x, rfl, Nat.zero_le _, hlt, Lib.hid rfl, HS, HXE, HF⟩
      case round =>
        clear HF g0 g1
        obtain ⟨k, gn, nc, gs, bc, y, rfl, hk, hiy, HY, HSY, HYE, HF⟩ := hrel
        by_cases hlt2 : k < L.length
        · have hli2 : (k : Int) < (L.length : Int) := by omega
          have hyN := seek_len HSY.out hs HT.out
          have HBW := Lib.hid (HF.out.below HB0.out hgb)
          have g0 := cell_whole HF.out.var 0
          have g1 := cell_whole HF.out.var 1
          obtain ⟨lb, lx, el, hlb, t0, t1⟩ := step_at HL0.out (List.getElem?_eq_getElem hlt2)
          cases el
          have s0 := cell_below' HBW.out t0 hlb
          have s1 := cell_below' HBW.out t1 hlb
          have hsl : L[k] ∈ L := List.getElem_mem hlt2
          have HTK : Hid (L.take (k + 1) = L.take k ++ [L[k]]) := Lib.hid (List.take_succ_eq_append_getElem hlt2)
          generalize L[k] = z at *
          obtain ⟨p, a, q, ha, hz2⟩ := HOK.out z hsl
          obtain ⟨hE1, hE2⟩ := begI_fromE ha (HE.out a (List.mem_of_getElem? ha)) q
          subst hz2
          simp only at s0 s1
          have hki : i < (keysX y).length := by rw [keysX_len]; exact hiy
          have hku : (natI (keysX y))[i]? = some (u : Int) := by
            have := HYE.out
            simp [natI, keysX, this, HU.out]
          obtain ⟨nu, _⟩ := HF.out.nodes.cell hku
          unfold encI at nu
          have d0 := HF.out.cell k0 (by omega)
          have d1 := HF.out.cell k1 (by omega)
          have d2 := HF.out.cell k2 (by omega)
          have hiyi : (i : Int) < ((keysX y).length : Int) := by omega
          obtain ⟨f, hf⟩ : ∃ f, fromS Z ((p : Int), q) = f := ⟨_, rfl⟩
          obtain ⟨v, hv⟩ : ∃ v, toS Z ((p : Int), q) = v := ⟨_, rfl⟩
          rw [hf] at hE1
          rw [hv] at hE2
          have HEB := Lib.hid hE1
          have HEE := Lib.hid hE2
          have HFF := Lib.hid hf
          have HVV := Lib.hid hv
          have HA := Lib.hid ha
          have HSL := Lib.hid hsl
          have HRW := Lib.hid (HR0.out.below' HBW.out)
          have HT01 := Lib.hid (And.intro t0 t1)
          clear t0 t1 hE1 hE2 hf hv ha hsl hku
          by_cases hfu : f = u
          · have hf1 : ((f : Int) == (u : Int)) = true := by simp [hfu]
            have hf2 : (f : Int) = (u : Int) := by omega
            obtain ⟨hI, hhI⟩ : ∃ hI, hasI (keysX y) v = hI := ⟨_, rfl⟩
            have HHI := Lib.hid hhI
            have hneg : hI < 0 ↔ v ∉ keysX y := by rw [← hhI]; exact hasI_neg
            have hbd := hasI_bd (keysX y) v
            rw [hhI, keysX_len] at hbd
            have HYL : Hid ((keysX y).length = y.length) := Lib.hid (keysX_len y)
            have HCALL := Lib.hid (rfrom_at n b ao cap Z p q a wr.drew (HRW.out.below' (below_drew (Below.refl wr.heap.size wr))) HA.out hz)
            clear hhI
            by_cases hnew : hI < 0
            · have hdn : decide (hI < 0) = true := decide_eq_true hnew
              have hin : v ∉ keysX y := hneg.1 hnew
              have HY2 : Hid (y ++ [(v, ((p : Int), q), i)] = expX (fromS Z) (toS Z) (L.take (k + 1)) u i x) := Lib.hid (by
                rw [HTK.out, expX_app, ← HY.out]
                show _ = addX (fromS Z) (toS Z) u i y _
                unfold addX
                rw [if_pos ⟨by rw [HFF.out]; exact hfu, by rw [HVV.out]; exact hin⟩, HVV.out])
              have HSY2 : Hid (SK (fromS Z) (toS Z) L s (y ++ [(v, ((p : Int), q), i)]) i (L.take (k + 1))) := Lib.hid (by
                rw [HTK.out]
                have h1 := HSY.out.add HYE.out HSL.out
                have e1 : addX (fromS Z) (toS Z) e.1 i y ((p : Int), q) = y ++ [(v, ((p : Int), q), i)] := by
                  unfold addX
                  rw [if_pos ⟨by rw [HFF.out, HU.out]; exact hfu, by rw [HVV.out]; exact hin⟩, HVV.out]
                rwa [e1] at h1)
              have HYE2 : Hid ((y ++ [(v, ((p : Int), q), i)])[i]? = some e) := Lib.hid (by rw [List.getElem?_append_left hiy]; exact HYE.out)
              have HKK : Hid (keysX (y ++ [(v, ((p : Int), q), i)]) = keysX y ++ [v]) := Lib.hid (by simp [keysX])
              have HTT2 : Hid (byX (y ++ [(v, ((p : Int), q), i)]) = byX y ++ [((p : Int), q)]) := Lib.hid (by simp [byX])
              have hkb : (keysX y).length ≤ 100000 := by rw [keysX_len]; omega
              have htb : (byX y).length ≤ 100000 := by rw [byX_len]; omega
              clear hneg hin
              go_wp2_with fail
              go_region_held3 (fun W => W.cell? ⟨w.heap.size, 0, none⟩ = some (.int .i64 n) ∧ W.cell? ⟨w.heap.size, 1, none⟩ = some (.bool b) ∧ W.cell? ⟨w.heap.size, 2, none⟩ = some (.slice ao Z.length cap) ∧ W.cell? ⟨lb, lx + k * 2, none⟩ = some (.int .i64 (p : Int)) ∧ W.cell? ⟨lb, lx + k * 2 + 1, none⟩ = some (.bool q) ∧ W.cell? ⟨gv, 0, none⟩ = some (.slice (some ⟨gn, 0, none⟩) (keysX y).length nc) ∧ W.cell? ⟨gv, 1, none⟩ = some (.slice (some ⟨gs, 0, none⟩) (byX y).length bc) ∧ W.cell? ⟨gn, i, none⟩ = some (.int .i64 (u : Int))) (first | exact ⟨d0, d1, d2, s0, s1, g0, g1, nu⟩ | exact ⟨z0, z1, z2, z3, z4, z5, z6, z7⟩ | go_keep)
                (first
                  | (go_at_call 86; refine HCALL.out.mono ?_; rintro e w7 ⟨rfl, b7⟩; rw [HEB.out]; have z0 := cell_below (w := wr.drew) b7 d0; have z1 := cell_below (w := wr.drew) b7 d1; have z2 := cell_below (w := wr.drew) b7 d2; have z3 := cell_below (w := wr.drew) b7 s0; have z4 := cell_below (w := wr.drew) b7 s1; have z5 := cell_below (w := wr.drew) b7 g0; have z6 := cell_below (w := wr.drew) b7 g1; have z7 := cell_below (w := wr.drew) b7 nu; have HF7 := Lib.hid ((HF.out.next (below_drew (Below.refl wr.heap.size wr))).next b7); have HR7 := Lib.hid ((HRW.out.below' (below_drew (Below.refl wr.heap.size wr))).below' b7); clear b7)
                  | (go_at_call 102; refine (rto_at n b ao cap Z p q a _ HR7.out HA.out hz).mono ?_; rintro e w8 ⟨rfl, b8⟩; rw [HEE.out]; have z0 := cell_below b8 z0; have z1 := cell_below b8 z1; have z2 := cell_below b8 z2; have z3 := cell_below b8 z3; have z4 := cell_below b8 z4; have z5 := cell_below b8 z5; have z6 := cell_below b8 z6; have z7 := cell_below b8 z7; have HF7 := Lib.hid (HF7.out.next b8); have HR7 := Lib.hid (HR7.out.below' b8); clear b8)
                  | (go_at_call 85; refine (rhas_len (some ⟨gn, 0, none⟩) (some ⟨gs, 0, none⟩) nc (byX y).length bc (keysX y).length (keysX y) v hI _ HF7.out.nodes.lstK rfl (by rw [keysX_len]; omega) HHI.out).mono ?_; rintro e w9 ⟨rfl, b9⟩; have z0 := cell_below b9 z0; have z1 := cell_below b9 z1; have z2 := cell_below b9 z2; have z3 := cell_below b9 z3; have z4 := cell_below b9 z4; have z5 := cell_below b9 z5; have z6 := cell_below b9 z6; have z7 := cell_below b9 z7; have HF7 := Lib.hid (HF7.out.next b9); have HR7 := Lib.hid (HR7.out.below' b9); clear b9))
              all_goals
                go_wp2_with fail
                obtain ⟨i0, hi0, hz0, hz1, hz2⟩ := info_parts infoInt
                have HI := Lib.hid (And.intro hi0 (And.intro hz0 (And.intro hz1 hz2)))
                obtain ⟨i1, hi0, hz0, hz1, hz2⟩ := info_parts infoStep
                have HJ := Lib.hid (And.intro hi0 (And.intro hz0 (And.intro hz1 hz2)))
                clear hi0 hz0 hz1 hz2 hdn hbd g0 g1 nu d0 d1 d2 s0 s1 HCALL
                have hb9 := HF7.out.blocks
                have hne1 : gv ≠ gn := by omega
                have hne2 : gv ≠ gs := by omega
                go_cut [] (fun wc => ∃ gn2 nc2, Hid (FDW wb wc gv gn2 nc2 gs bc (keysX y ++ [v]) (byX y)))
                case first =>
                  go_region_law (first
                    | (go_simp; go_at_call 102; refine (rto_at n b ao cap Z p q a w9.drew (HR7.out.below' (below_drew (Below.refl w9.heap.size w9))) HA.out hz).mono ?_; rintro e w10 ⟨rfl, b10⟩; rw [HEE.out]; have y0 := cell_below (w := w9.drew) b10 z0; have y1 := cell_below (w := w9.drew) b10 z1; have y2 := cell_below (w := w9.drew) b10 z2; have y3 := cell_below (w := w9.drew) b10 z3; have y4 := cell_below (w := w9.drew) b10 z4; have y5 := cell_below (w := w9.drew) b10 z5; have yq := cell_alloc y5 (.cells #[.int .i64 (v : Int)] 3); have HF10 := Lib.hid ((HF7.out.next (below_drew (Below.refl w9.heap.size w9))).next b10); have HO10 := Lib.hid HF10.out.ownN; have hs10 := HF10.out.blocks; clear b10; go_wp2_with fail)
                    | (refine step_append_lies _ (by rfl) _ _ _ (by rfl) wb.heap.size 3 i0 _ 1 8 Try.underlying42 HI.out.1 HI.out.2.1 HI.out.2.2.1 HI.out.2.2.2 rfl (by omega) (.slice (some ⟨gn, 0, none⟩) (keysX y).length nc) (keysX y).length ((natI (keysX y)).map encI) (by rfl) (HO10.out.alloc _) ⟨w10.heap.size, 0, none⟩ 1 1 [.int .i64 (v : Int)] (by rfl) (by rfl) (World.news_of_block (cs := #[.int .i64 (v : Int)]) (t := 3) (fr := (0, 0)) (heap_alloc_new w10 _)) (by simp [Value.oneCell']) (by omega) (by unfold maxLen; omega) (by omega) (by simp; omega) (w10.heap.size + 1) (by simp) ?_; intro g11 cap11 w11 ho11 hg11 hl11 hlt11; have HFA := Lib.hid (HF10.out.next ((Below.refl _ w10).alloc (Nat.le_refl _) (.cells #[.int .i64 (v : Int)] 3))); have hv11 := (Kept.of_grown (S := fun i => i = gn) hg11 (fun k e => (Option.some.inj e).symm)).old HFA.out.var hne1; have r0 := cell_whole hv11 0; have r1 := frozen_whole hv11 0; have HO11 := Lib.hid (ownI_snoc ho11); have HG11 := Lib.hid hg11; have HL11 := Lib.hid hl11; clear hv11 ho11 hg11 hl11))
                  all_goals
                    go_wp2
                    go_meet
                    exact ⟨g11, cap11, Lib.hid (HFA.out.addN HO11.out HG11.out (by simpa [Value.ownBlock] using HL11.out))⟩
                case rest =>
                  obtain ⟨gn2, nc2, HF2⟩ := hcut
                  have c1 := cell_whole HF2.out.var 1
                  have c1a := cell_alloc (b := gv) (o := 1) (v := .slice (some ⟨gs, 0, none⟩) (byX y).length bc) c1 (.cells #[.int .i64 (p : Int), .bool q] 150)
                  have s0 := cell_below' (HF2.out.below HB0.out hgb) HT01.out.1 hlb
                  have s1 := cell_below' (HF2.out.below HB0.out hgb) HT01.out.2 hlb
                  have HOS : Hid (wc.ownsRow wb.heap.size 150 2 (.slice (some ⟨gs, 0, none⟩) (byX y).length bc) (byX y).length ((byX y).flatMap encS)) := Lib.hid HF2.out.byy
                  have hb2 := HF2.out.blocks
                  clear z0 z1 z2 z3 z4 z5 z6 z7
                  go_wp2_with fail
                  go_region_law (refine step_append_lies _ (by rfl) _ _ _ (by rfl) wb.heap.size 150 i1 _ 2 16 Try.underlying105 HJ.out.1 HJ.out.2.1 HJ.out.2.2.1 HJ.out.2.2.2 rfl (by omega) (.slice (some ⟨gs, 0, none⟩) (byX y).length bc) (byX y).length ((byX y).flatMap encS) (by rfl) ((HOS.out.alloc _).drew) ⟨wc.heap.size, 0, none⟩ 1 1 (encS ((p : Int), q)) (by rfl) (by rfl) (World.news_of_block (cs := #[.int .i64 (p : Int), .bool q]) (t := 150) (fr := (0, 0)) (heap_alloc_new wc _)) (encS_one _) (by omega) (by unfold maxLen; omega) (by omega) (by simp; omega) (wc.heap.size + 1) (by simp) ?_; intro g12 cap12 w12 ho12 hg12 hl12 hlt12; have HFB := Lib.hid ((HF2.out.next ((Below.refl _ wc).alloc (Nat.le_refl _) (.cells #[.int .i64 (p : Int), .bool q] 150))).next (below_drew (Below.refl _ _))); have hv12 := (Kept.of_grown (S := fun i => i = gs) hg12 (fun k e => (Option.some.inj e).symm)).old HFB.out.var hne2; have r0 := cell_whole hv12 1; have r1 := frozen_whole hv12 1; have HO12 := Lib.hid (ownS_snoc ho12); have HG12 := Lib.hid hg12; have HL12 := Lib.hid hl12; clear hv12 ho12 hg12 hl12)
                  all_goals
                    go_wp2
                    go_roundw
                    case rel => exact ⟨k + 1, gn2, nc2, g12, cap12, y ++ [(v, ((p : Int), q), i)], by go_num, by omega, by simp; omega, HY2, HSY2, HYE2, Lib.hid (by rw [HKK.out, HTT2.out]; exact HFB.out.addS HO12.out HG12.out (by simpa [Value.ownBlock] using HL12.out))⟩
                    case measure => simp [intOf]; omega
            · have hdn : decide (hI < 0) = false := decide_eq_false hnew
              have hin : v ∈ keysX y := Classical.byContradiction fun h => hnew (hneg.2 h)
              have HY2 : Hid (y = expX (fromS Z) (toS Z) (L.take (k + 1)) u i x) := Lib.hid (by
                rw [HTK.out, expX_app, ← HY.out]
                show y = addX (fromS Z) (toS Z) u i y _
                unfold addX
                rw [if_neg (fun h => h.2 (by rw [HVV.out]; exact hin))])
              have HSY2 : Hid (SK (fromS Z) (toS Z) L s y i (L.take (k + 1))) := Lib.hid (by
                rw [HTK.out]
                have h1 := HSY.out.add HYE.out HSL.out
                have e1 : addX (fromS Z) (toS Z) e.1 i y ((p : Int), q) = y := by unfold addX; rw [if_neg (fun h => h.2 (by rw [HVV.out]; exact hin))]
                rwa [e1] at h1)
              clear hneg hin
              go_wp2_with fail
              go_region_held3 (fun W => W.cell? ⟨w.heap.size, 0, none⟩ = some (.int .i64 n) ∧ W.cell? ⟨w.heap.size, 1, none⟩ = some (.bool b) ∧ W.cell? ⟨w.heap.size, 2, none⟩ = some (.slice ao Z.length cap) ∧ W.cell? ⟨lb, lx + k * 2, none⟩ = some (.int .i64 (p : Int)) ∧ W.cell? ⟨lb, lx + k * 2 + 1, none⟩ = some (.bool q) ∧ W.cell? ⟨gv, 0, none⟩ = some (.slice (some ⟨gn, 0, none⟩) (keysX y).length nc) ∧ W.cell? ⟨gv, 1, none⟩ = some (.slice (some ⟨gs, 0, none⟩) (byX y).length bc) ∧ W.cell? ⟨gn, i, none⟩ = some (.int .i64 (u : Int))) (first | exact ⟨d0, d1, d2, s0, s1, g0, g1, nu⟩ | exact ⟨z0, z1, z2, z3, z4, z5, z6, z7⟩ | go_keep)
                (first
                  | (go_at_call 86; refine HCALL.out.mono ?_; rintro e w7 ⟨rfl, b7⟩; rw [HEB.out]; have z0 := cell_below (w := wr.drew) b7 d0; have z1 := cell_below (w := wr.drew) b7 d1; have z2 := cell_below (w := wr.drew) b7 d2; have z3 := cell_below (w := wr.drew) b7 s0; have z4 := cell_below (w := wr.drew) b7 s1; have z5 := cell_below (w := wr.drew) b7 g0; have z6 := cell_below (w := wr.drew) b7 g1; have z7 := cell_below (w := wr.drew) b7 nu; have HF7 := Lib.hid ((HF.out.next (below_drew (Below.refl wr.heap.size wr))).next b7); have HR7 := Lib.hid ((HRW.out.below' (below_drew (Below.refl wr.heap.size wr))).below' b7); clear b7)
                  | (go_at_call 102; refine (rto_at n b ao cap Z p q a _ HR7.out HA.out hz).mono ?_; rintro e w8 ⟨rfl, b8⟩; rw [HEE.out]; have z0 := cell_below b8 z0; have z1 := cell_below b8 z1; have z2 := cell_below b8 z2; have z3 := cell_below b8 z3; have z4 := cell_below b8 z4; have z5 := cell_below b8 z5; have z6 := cell_below b8 z6; have z7 := cell_below b8 z7; have HF7 := Lib.hid (HF7.out.next b8); have HR7 := Lib.hid (HR7.out.below' b8); clear b8)
                  | (go_at_call 85; refine (rhas_len (some ⟨gn, 0, none⟩) (some ⟨gs, 0, none⟩) nc (byX y).length bc (keysX y).length (keysX y) v hI _ HF7.out.nodes.lstK rfl (by rw [keysX_len]; omega) HHI.out).mono ?_; rintro e w9 ⟨rfl, b9⟩; have z0 := cell_below b9 z0; have z1 := cell_below b9 z1; have z2 := cell_below b9 z2; have z3 := cell_below b9 z3; have z4 := cell_below b9 z4; have z5 := cell_below b9 z5; have z6 := cell_below b9 z6; have z7 := cell_below b9 z7; have HF7 := Lib.hid (HF7.out.next b9); have HR7 := Lib.hid (HR7.out.below' b9); clear b9))
              all_goals
                go_wp2
                go_roundw
                case rel => exact ⟨k + 1, gn, nc, gs, bc, y, by go_num, by omega, hiy, HY2, HSY2, HYE, HF7⟩
                case measure => simp [intOf]; omega
          · have hf1 : ((f : Int) == (u : Int)) = false := by simp; omega
            have hf2 : ¬ (f : Int) = (u : Int) := by omega
            have HY2 : Hid (y = expX (fromS Z) (toS Z) (L.take (k + 1)) u i x) := Lib.hid (by
              rw [HTK.out, expX_app, ← HY.out]
              show y = addX (fromS Z) (toS Z) u i y _
              unfold addX
              rw [if_neg (fun h => hfu (by rw [← HFF.out]; exact h.1))])
            have HSY2 : Hid (SK (fromS Z) (toS Z) L s y i (L.take (k + 1))) := Lib.hid (by
              rw [HTK.out]
              have h1 := HSY.out.add HYE.out HSL.out
              have e1 : addX (fromS Z) (toS Z) e.1 i y ((p : Int), q) = y := by unfold addX; rw [if_neg (fun h => hfu (by rw [← HFF.out, ← HU.out]; exact h.1))]
              rwa [e1] at h1)
            have HCALL := Lib.hid (rfrom_at n b ao cap Z p q a wr.drew (HRW.out.below' (below_drew (Below.refl wr.heap.size wr))) HA.out hz)
            go_wp2_with fail
            refine wp_region_held_drew (S := fun W => W.cell? ⟨w.heap.size, 0, none⟩ = some (.int .i64 n) ∧ W.cell? ⟨w.heap.size, 1, none⟩ = some (.bool b) ∧ W.cell? ⟨w.heap.size, 2, none⟩ = some (.slice ao Z.length cap) ∧ W.cell? ⟨lb, lx + k * 2, none⟩ = some (.int .i64 (p : Int)) ∧ W.cell? ⟨lb, lx + k * 2 + 1, none⟩ = some (.bool q) ∧ W.cell? ⟨gv, 0, none⟩ = some (.slice (some ⟨gn, 0, none⟩) (keysX y).length nc) ∧ W.cell? ⟨gv, 1, none⟩ = some (.slice (some ⟨gs, 0, none⟩) (byX y).length bc) ∧ W.cell? ⟨gn, i, none⟩ = some (.int .i64 (u : Int))) (by kernel_rfl) ⟨d0, d1, d2, s0, s1, g0, g1, nu⟩ (fun hHeld => ?_)
            refine wpAnyH_take (i := 0) (oi := { dst := some 35, op := Go.Op.load 24 (Go.Operand.tmp 3), type := 24, pos := "ref.go:33", after := #[], guard := none }) (v := .agg #[.int .i64 n, .bool b, .slice ao Z.length cap]) rfl (by kernel_rfl) (by kernel_rfl) (by kernel_rfl) (fun _ _ _ h => h) (Or.inl ⟨by rfl, ?_⟩) (by assumption) ?_
            · (intro w hSw; (try dsimp only at hSw); go_simp)
            try simp only [Act.put, List.setIfInBounds_toArray, List.set_cons_zero, List.set_cons_succ]
            refine wpAnyH_take (i := 1) (oi := { dst := some 36, op := Go.Op.move (Go.Operand.tmp 2), type := 105, pos := "ref.go:33", after := #[], guard := none }) (v := .slice (some ⟨lb, lx, none⟩) L.length lc) rfl (by kernel_rfl) (by kernel_rfl) (by kernel_rfl) (fun _ _ _ h => h) (Or.inl ⟨by rfl, ?_⟩) (by assumption) ?_
            · (intro w hSw; (try dsimp only at hSw); go_simp)
            try simp only [Act.put, List.setIfInBounds_toArray, List.set_cons_zero, List.set_cons_succ]
            refine wpAnyH_take (i := 2) (oi := { dst := some 37, op := Go.Op.move (Go.Operand.tmp 9), type := 3, pos := "ref.go:33", after := #[], guard := none }) (v := .int .i64 (k : Int)) rfl (by kernel_rfl) (by kernel_rfl) (by kernel_rfl) (fun _ _ _ h => h) (Or.inl ⟨by rfl, ?_⟩) (by assumption) ?_
            · (intro w hSw; (try dsimp only at hSw); go_simp)
            try simp only [Act.put, List.setIfInBounds_toArray, List.set_cons_zero, List.set_cons_succ]
            refine wpAnyH_take (i := 3) (oi := { dst := some 38, op := Go.Op.indexAddr 105 (Go.Operand.tmp 36) (Go.Operand.tmp 37), type := 0, pos := "ref.go:33", after := #[{ on := 1, ground := Go.Ground.data }, { on := 2, ground := Go.Ground.data }], guard := none }) (v := .pointer (some ⟨lb, lx + k * 2, none⟩)) rfl (by kernel_rfl) (by kernel_rfl) (by kernel_rfl) (fun _ _ _ h => h) (Or.inl ⟨by rfl, ?_⟩) (by assumption) ?_
            · (intro w hSw; (try dsimp only at hSw); go_simp)
            try simp only [Act.put, List.setIfInBounds_toArray, List.set_cons_zero, List.set_cons_succ]
            refine wpAnyH_take (i := 4) (oi := { dst := some 39, op := Go.Op.load 150 (Go.Operand.tmp 38), type := 150, pos := "ref.go:33", after := #[{ on := 3, ground := Go.Ground.data }], guard := none }) (v := .agg #[.int .i64 (p : Int), .bool q]) rfl (by kernel_rfl) (by kernel_rfl) (by kernel_rfl) (fun _ _ _ h => h) (Or.inl ⟨by rfl, ?_⟩) (by assumption) ?_
            · (intro w hSw; (try dsimp only at hSw); go_simp)
            try simp only [Act.put, List.setIfInBounds_toArray, List.set_cons_zero, List.set_cons_succ]
            refine wpAnyH_take (i := 6) (oi := { dst := some 41, op := Go.Op.fieldAddr 147 (Go.Operand.tmp 7) 0, type := 0, pos := "ref.go:33", after := #[], guard := none }) (v := .pointer (some ⟨gv, 0, none⟩)) rfl (by kernel_rfl) (by kernel_rfl) (by kernel_rfl) (fun _ _ _ h => h) (Or.inl ⟨by rfl, ?_⟩) (by assumption) ?_
            · (intro w hSw; (try dsimp only at hSw); go_simp)
            try simp only [Act.put, List.setIfInBounds_toArray, List.set_cons_zero, List.set_cons_succ]
            refine wpAnyH_take (i := 7) (oi := { dst := some 42, op := Go.Op.load 42 (Go.Operand.tmp 41), type := 42, pos := "ref.go:33", after := #[{ on := 6, ground := Go.Ground.data }], guard := none }) (v := .slice (some ⟨gn, 0, none⟩) (keysX y).length nc) rfl (by kernel_rfl) (by kernel_rfl) (by kernel_rfl) (fun _ _ _ h => h) (Or.inl ⟨by rfl, ?_⟩) (by assumption) ?_
            · (intro w hSw; (try dsimp only at hSw); go_simp)
            try simp only [Act.put, List.setIfInBounds_toArray, List.set_cons_zero, List.set_cons_succ]
            refine wpAnyH_take (i := 8) (oi := { dst := some 43, op := Go.Op.move (Go.Operand.tmp 8), type := 3, pos := "ref.go:33", after := #[], guard := none }) (v := .int .i64 (i : Int)) rfl (by kernel_rfl) (by kernel_rfl) (by kernel_rfl) (fun _ _ _ h => h) (Or.inl ⟨by rfl, ?_⟩) (by assumption) ?_
            · (intro w hSw; (try dsimp only at hSw); go_simp)
            try simp only [Act.put, List.setIfInBounds_toArray, List.set_cons_zero, List.set_cons_succ]
            refine wpAnyH_take (i := 9) (oi := { dst := some 44, op := Go.Op.indexAddr 42 (Go.Operand.tmp 42) (Go.Operand.tmp 43), type := 0, pos := "ref.go:33", after := #[{ on := 7, ground := Go.Ground.data }, { on := 8, ground := Go.Ground.data }], guard := none }) (v := .pointer (some ⟨gn, i, none⟩)) rfl (by kernel_rfl) (by kernel_rfl) (by kernel_rfl) (fun _ _ _ h => h) (Or.inl ⟨by rfl, ?_⟩) (by assumption) ?_
            · (intro w hSw; (try dsimp only at hSw); go_simp)
            try simp only [Act.put, List.setIfInBounds_toArray, List.set_cons_zero, List.set_cons_succ]
            refine wpAnyH_take (i := 10) (oi := { dst := some 45, op := Go.Op.load 3 (Go.Operand.tmp 44), type := 3, pos := "ref.go:33", after := #[{ on := 9, ground := Go.Ground.data }], guard := none }) (v := .int .i64 (u : Int)) rfl (by kernel_rfl) (by kernel_rfl) (by kernel_rfl) (fun _ _ _ h => h) (Or.inl ⟨by rfl, ?_⟩) (by assumption) ?_
            · (intro w hSw; (try dsimp only at hSw); go_simp)
            try simp only [Act.put, List.setIfInBounds_toArray, List.set_cons_zero, List.set_cons_succ]
            refine wpAnyH_ready (rs := [5]) (by kernel_rfl) (by simp) (AllReadyH.cons (o := { dst := some 40, op := Go.Op.call { callee := Go.Callee.value (Go.Operand.func 86), args := #[Go.Operand.tmp 35, Go.Operand.tmp 39], argTypes := #[24, 150] }, type := 3, pos := "ref.go:33", after := #[{ on := 0, ground := Go.Ground.data }, { on := 4, ground := Go.Ground.data }], guard := none }) rfl (fun K hK => ?_) AllReadyH.nil)
            go_simp
            refine HCALL.out.mono ?_
            rintro e w7 ⟨rfl, b7⟩
            rw [HEB.out]
            have hn7 : w7.cell? ⟨w.heap.size, 0, none⟩ = some (.int .i64 n) ∧ w7.cell? ⟨w.heap.size, 1, none⟩ = some (.bool b) ∧ w7.cell? ⟨w.heap.size, 2, none⟩ = some (.slice ao Z.length cap) ∧ w7.cell? ⟨lb, lx + k * 2, none⟩ = some (.int .i64 (p : Int)) ∧ w7.cell? ⟨lb, lx + k * 2 + 1, none⟩ = some (.bool q) ∧ w7.cell? ⟨gv, 0, none⟩ = some (.slice (some ⟨gn, 0, none⟩) (keysX y).length nc) ∧ w7.cell? ⟨gv, 1, none⟩ = some (.slice (some ⟨gs, 0, none⟩) (byX y).length bc) ∧ w7.cell? ⟨gn, i, none⟩ = some (.int .i64 (u : Int)) := ⟨cell_below (w := wr.drew) b7 d0, cell_below (w := wr.drew) b7 d1, cell_below (w := wr.drew) b7 d2, cell_below (w := wr.drew) b7 s0, cell_below (w := wr.drew) b7 s1, cell_below (w := wr.drew) b7 g0, cell_below (w := wr.drew) b7 g1, cell_below (w := wr.drew) b7 nu⟩
            have HF7 := Lib.hid ((HF.out.next (below_drew (Below.refl wr.heap.size wr))).next b7)
            clear b7 hHeld
            go_wp2_with fail
            refine hK.out _ _ hn7 (fun hHeld => ?_)
            clear hK
            try simp only [Act.put, List.setIfInBounds_toArray, List.set_cons_zero, List.set_cons_succ]
            refine wpAnyH_take (i := 11) (oi := { dst := some 46, op := Go.Op.binOp Go.BinOp.eql 3 (Go.Operand.tmp 40) (Go.Operand.tmp 45) 3, type := 4, pos := "ref.go:33", after := #[{ on := 5, ground := Go.Ground.data }, { on := 10, ground := Go.Ground.data }], guard := none }) (v := .bool false) rfl (by kernel_rfl) (by kernel_rfl) (by kernel_rfl) (fun _ _ _ h => h) (Or.inl ⟨by rfl, ?_⟩) (by assumption) ?_
            · (intro w hSw; (try dsimp only at hSw); go_simp)
            try simp only [Act.put, List.setIfInBounds_toArray, List.set_cons_zero, List.set_cons_succ]
            refine wpAnyH_take (i := 12) (oi := { dst := some 47, op := Go.Op.move (Go.Operand.tmp 46), type := 4, pos := "ref.go:33", after := #[{ on := 11, ground := Go.Ground.data }, { on := 5, ground := Go.Ground.chain }], guard := none }) (v := .bool false) rfl (by kernel_rfl) (by kernel_rfl) (by kernel_rfl) (fun _ _ _ h => h) (Or.inl ⟨by rfl, ?_⟩) (by assumption) ?_
            · (intro w hSw; (try dsimp only at hSw); go_simp)
            try simp only [Act.put, List.setIfInBounds_toArray, List.set_cons_zero, List.set_cons_succ]
            refine wpAnyH_take (i := 13) (oi := { dst := some 48, op := Go.Op.load 147 (Go.Operand.tmp 7), type := 147, pos := "ref.go:33", after := #[{ on := 12, ground := Go.Ground.guard }], guard := some (12, true) }) (v := undef) rfl (by kernel_rfl) (by kernel_rfl) (by kernel_rfl) (fun _ _ _ h => h) (Or.inr ⟨by simp [Region.wanted, yielded], rfl⟩) (by assumption) ?_
            try simp only [Act.put, List.setIfInBounds_toArray, List.set_cons_zero, List.set_cons_succ]
            refine wpAnyH_take (i := 14) (oi := { dst := some 49, op := Go.Op.load 24 (Go.Operand.tmp 3), type := 24, pos := "ref.go:33", after := #[{ on := 12, ground := Go.Ground.guard }], guard := some (12, true) }) (v := undef) rfl (by kernel_rfl) (by kernel_rfl) (by kernel_rfl) (fun _ _ _ h => h) (Or.inr ⟨by simp [Region.wanted, yielded], rfl⟩) (by assumption) ?_
            try simp only [Act.put, List.setIfInBounds_toArray, List.set_cons_zero, List.set_cons_succ]
            refine wpAnyH_take (i := 15) (oi := { dst := some 50, op := Go.Op.move (Go.Operand.tmp 2), type := 105, pos := "ref.go:33", after := #[{ on := 12, ground := Go.Ground.guard }], guard := some (12, true) }) (v := undef) rfl (by kernel_rfl) (by kernel_rfl) (by kernel_rfl) (fun _ _ _ h => h) (Or.inr ⟨by simp [Region.wanted, yielded], rfl⟩) (by assumption) ?_
            try simp only [Act.put, List.setIfInBounds_toArray, List.set_cons_zero, List.set_cons_succ]
            refine wpAnyH_take (i := 16) (oi := { dst := some 51, op := Go.Op.move (Go.Operand.tmp 9), type := 3, pos := "ref.go:33", after := #[{ on := 12, ground := Go.Ground.guard }], guard := some (12, true) }) (v := undef) rfl (by kernel_rfl) (by kernel_rfl) (by kernel_rfl) (fun _ _ _ h => h) (Or.inr ⟨by simp [Region.wanted, yielded], rfl⟩) (by assumption) ?_
            try simp only [Act.put, List.setIfInBounds_toArray, List.set_cons_zero, List.set_cons_succ]
            refine wpAnyH_take (i := 17) (oi := { dst := some 52, op := Go.Op.indexAddr 105 (Go.Operand.tmp 50) (Go.Operand.tmp 51), type := 0, pos := "ref.go:33", after := #[{ on := 15, ground := Go.Ground.data }, { on := 16, ground := Go.Ground.data }, { on := 12, ground := Go.Ground.guard }], guard := some (12, true) }) (v := undef) rfl (by kernel_rfl) (by kernel_rfl) (by kernel_rfl) (fun _ _ _ h => h) (Or.inr ⟨by simp [Region.wanted, yielded], rfl⟩) (by assumption) ?_
            try simp only [Act.put, List.setIfInBounds_toArray, List.set_cons_zero, List.set_cons_succ]
            refine wpAnyH_take (i := 18) (oi := { dst := some 53, op := Go.Op.load 150 (Go.Operand.tmp 52), type := 150, pos := "ref.go:33", after := #[{ on := 17, ground := Go.Ground.data }, { on := 12, ground := Go.Ground.guard }], guard := some (12, true) }) (v := undef) rfl (by kernel_rfl) (by kernel_rfl) (by kernel_rfl) (fun _ _ _ h => h) (Or.inr ⟨by simp [Region.wanted, yielded], rfl⟩) (by assumption) ?_
            try simp only [Act.put, List.setIfInBounds_toArray, List.set_cons_zero, List.set_cons_succ]
            refine wpAnyH_take (i := 19) (oi := { dst := some 54, op := Go.Op.call { callee := Go.Callee.value (Go.Operand.func 102), args := #[Go.Operand.tmp 49, Go.Operand.tmp 53], argTypes := #[24, 150] }, type := 3, pos := "ref.go:33", after := #[{ on := 14, ground := Go.Ground.data }, { on := 18, ground := Go.Ground.data }, { on := 12, ground := Go.Ground.chain }, { on := 12, ground := Go.Ground.guard }], guard := some (12, true) }) (v := undef) rfl (by kernel_rfl) (by kernel_rfl) (by kernel_rfl) (fun _ _ _ h => h) (Or.inr ⟨by simp [Region.wanted, yielded], rfl⟩) (by assumption) ?_
            try simp only [Act.put, List.setIfInBounds_toArray, List.set_cons_zero, List.set_cons_succ]
            refine wpAnyH_take (i := 20) (oi := { dst := some 55, op := Go.Op.call { callee := Go.Callee.value (Go.Operand.func 85), args := #[Go.Operand.tmp 48, Go.Operand.tmp 54], argTypes := #[147, 3] }, type := 3, pos := "ref.go:33", after := #[{ on := 13, ground := Go.Ground.data }, { on := 19, ground := Go.Ground.data }, { on := 19, ground := Go.Ground.chain }, { on := 12, ground := Go.Ground.guard }], guard := some (12, true) }) (v := undef) rfl (by kernel_rfl) (by kernel_rfl) (by kernel_rfl) (fun _ _ _ h => h) (Or.inr ⟨by simp [Region.wanted, yielded], rfl⟩) (by assumption) ?_
            try simp only [Act.put, List.setIfInBounds_toArray, List.set_cons_zero, List.set_cons_succ]
            refine wpAnyH_take (i := 21) (oi := { dst := some 56, op := Go.Op.binOp Go.BinOp.lss 3 (Go.Operand.tmp 55) (Go.Operand.const (Go.Value.int Go.IntKind.i64 0)) 3, type := 4, pos := "ref.go:33", after := #[{ on := 20, ground := Go.Ground.data }, { on := 12, ground := Go.Ground.guard }], guard := some (12, true) }) (v := undef) rfl (by kernel_rfl) (by kernel_rfl) (by kernel_rfl) (fun _ _ _ h => h) (Or.inr ⟨by simp [Region.wanted, yielded], rfl⟩) (by assumption) ?_
            try simp only [Act.put, List.setIfInBounds_toArray, List.set_cons_zero, List.set_cons_succ]
            refine wpAnyH_take (i := 22) (oi := { dst := some 57, op := Go.Op.pick (Go.Operand.tmp 47) (Go.Operand.tmp 56) (Go.Operand.const (Go.Value.bool false)), type := 4, pos := "ref.go:33", after := #[{ on := 12, ground := Go.Ground.data }, { on := 21, ground := Go.Ground.data }], guard := none }) (v := .bool false) rfl (by kernel_rfl) (by kernel_rfl) (by kernel_rfl) (fun _ _ _ h => h) (Or.inl ⟨by rfl, ?_⟩) (by assumption) ?_
            · (intro w hSw; (try dsimp only at hSw); go_simp)
            try simp only [Act.put, List.setIfInBounds_toArray, List.set_cons_zero, List.set_cons_succ]
            refine wpAnyH_done (by kernel_rfl) ?_ _
            all_goals
              go_wp2
              go_roundw
              case rel => exact ⟨k + 1, gn, nc, gs, bc, y, by go_num, by omega, hiy, HY2, HSY2, HYE, HF7⟩
              case measure => simp [intOf]; omega
        · have hli2 : ¬ (k : Int) < (L.length : Int) := by omega
          obtain rfl : k = L.length := by omega
          have HX2 : Hid (y = seekK (fromS Z) (toS Z) L s (i + 1)) := Lib.hid (by
            have h1 := HY.out
            rw [List.take_length] at h1
            have h2 := HXE.out
            rw [HX.out] at h2
            rw [seek_next h2, ← HX.out, HU.out]
            exact h1)
          have HS2 : Hid (SK (fromS Z) (toS Z) L s y (i + 1) []) := Lib.hid (by
            have h1 := HSY.out
            rw [List.take_length] at h1
            exact h1.next HYE.out)
          have hyN := seek_len HSY.out hs HT.out
          go_wp2
          go_roundw
          case rel => exact ⟨i + 1, gn, nc, gs, bc, y, by go_num, by omega, hyN, HX2, HS2, HF⟩
          case measure => simp [intOf]; omega
    · have hli : ¬ (i : Int) < (x.length : Int) := by omega
      obtain rfl : i = x.length := by omega
      have HXN : Hid (seekK (fromS Z) (toS Z) L s N = x) := Lib.hid (by
        have h2 := seek_last (s := s) (i := x.length) (N := N) (by rw [← HX.out]; exact Nat.le_refl _) hxN
        rw [h2, ← HX.out])
      have hv1 := HF.out.kept.old HV.out (by show w.heap.size + 1 ≠ gv; omega)
      have m0 := cell_whole hv1 0
      have m1 := cell_whole hv1 1
      have f0 := frozen_whole hv1 0
      have f1 := frozen_whole hv1 1
      have HV1 := Lib.hid hv1
      clear hv1
      go_wp2
      have hs1 := set_whole (set_whole HV1.out 0 (.slice (some ⟨gn, 0, none⟩) x.length nc)) 1 (.slice (some ⟨gs, 0, none⟩) x.length bc)
      have hk1 : Kept (fun i => i = w.heap.size + 1) wr ((wr.setCell ⟨w.heap.size + 1, 0, none⟩ (.slice (some ⟨gn, 0, none⟩) x.length nc)).setCell ⟨w.heap.size + 1, 1, none⟩ (.slice (some ⟨gs, 0, none⟩) x.length bc)) := ((Kept.refl (fun i => i = w.heap.size + 1) wr).set (.inl rfl) _).set (.inl rfl) _
      have HB1 := Lib.hid (HF.out.below HB0.out hgb)
      have hbk := HF.out.blocks
      clear m0 m1 f0 f1 g0 g1
      generalize (wr.setCell ⟨w.heap.size + 1, 0, none⟩ (.slice (some ⟨gn, 0, none⟩) x.length nc)).setCell ⟨w.heap.size + 1, 1, none⟩ (.slice (some ⟨gs, 0, none⟩) x.length bc) = W at *
      have r0 := cell_whole hs1 0
      have r1 := cell_whole hs1 1
      refine bodyPost_ret (v := .agg #[.slice (some ⟨gn, 0, none⟩) x.length nc, .slice (some ⟨gs, 0, none⟩) x.length bc]) (by simp [results, Try.results84, go_sem, r0, r1]) rfl ?_
      rw [HXN.out]
      have hn := ownL_kept HF.out.nodes hk1 (fun g e => by simp [Value.ownBlock] at e; show g ≠ w.heap.size + 1; omega)
      have hb := HF.out.byy.kept hk1 (by show gs ≠ w.heap.size + 1; omega)
      exact ⟨gn, nc, gs, bc, rfl, hn.lstK, own_rowK encS_len hb, HB1.out.trans (hk1.below HB1.out.size (fun i e => by have e2 : i = w.heap.size + 1 := e; omega))⟩
end
end Go.Proofs.Ytbkmfjegbmjknaa
namespace Go.Proofs.Ytbkmfjegbmjknaa
open Go.RowKit
set_option linter.unusedVariables false
theorem pushedL_len (k : Int) : ∀ (L : List StepT) (F : List Int), (pushedL k F L).length = F.length
  | [], F => rfl
  | x :: r, F => by
    show (pushedL k (stepTo k F x) r).length = _
    rw [pushedL_len k r, stepTo_len]
theorem pushedL_take {k : Int} {F : List Int} {L : List StepT} {m : Nat} (hm : m < L.length) : pushedL k F (L.take (m + 1)) = stepTo k (pushedL k F (L.take m)) L[m] := by
  rw [List.take_succ_eq_append_getElem hm]
  unfold pushedL
  rw [List.foldl_append]
  rfl
section
variable (fo lo : Option Addr) (fc lc : Nat) (F : List Int) (L : List StepT)
set_option maxRecDepth 100000 in
set_option maxHeartbeats 4000000 in
theorem rpushed_any (k : Int) (w : World) (hf : Lst encI w fo F) (hl : Row encS 2 w lo L) (hnil : fo = none → fc = 0) (hll : L.length ≤ 200000) (hfl : F.length ≤ 200000) (hk0 : -8796093022208 ≤ k) (hk1 : k ≤ 8796093022208) (hL : ∀ y ∈ L, ∃ (p : Nat) (q : Bool), y = ((p : Int), q) ∧ p < F.length)
    (hb : ∀ m, m ≤ L.length → ∀ p, p < F.length → -8796093022208 ≤ atI (pushedL k F (L.take m)) p ∧ atI (pushedL k F (L.take m)) p ≤ 8796093022208) :
    Calls Try.prog 57 #[.slice fo F.length fc, .slice lo L.length lc, .int .i64 k] w fun e w' => ∃ fo' fc', e = .returned (.slice fo' F.length fc') ∧ Lst encI w' fo' (pushedL k F L) ∧ (fo' = none → fc' = 0) ∧ Below w.heap.size w w' := by
  have HF := Lib.hid hf
  have HS := Lib.hid hl
  have HNL := Lib.hid hnil
  have HLO := Lib.hid hL
  have HBD := Lib.hid hb
  clear hf hl hnil hL hb
  go_enter Try.func57, Try.ntmps57
  go_wp2_with (first
    | (at_builtin; refine wpList_append_all rfl _ _ rfl fo fc F rfl rfl HF.out HNL.out hfl ?_; intro v w2 ho2 hb2; have HW2 := Lib.hid (RW.mk hb2 ho2); clear ho2 hb2))
  obtain ⟨fa, ca, hv, _⟩ := HW2.out.own.lst
  subst hv
  go_loopw [8] (fun i wr => ∃ m : Nat, m ≤ L.length ∧ i = .int .i64 (m : Int) ∧ Hid (RW w wr (.slice fa F.length ca) (pushedL k F (L.take m)))) (fun i _ => L.length - (intOf i).toNat)
  case atStart => exact ⟨0, Nat.zero_le _, rfl, HW2⟩
  case round =>
    clear HW2
    obtain ⟨m, hm, rfl, HP⟩ := hrel
    have HFN := Lib.hid (pushedL_len k (L.take m) F)
    by_cases hlt : m < L.length
    · have hli : (m : Int) < (L.length : Int) := by omega
      obtain ⟨lb, lx, e, hlb, s0, s1⟩ := step_at (HS.out.below' HP.out.below) (List.getElem?_eq_getElem hlt)
      cases e
      have HTK := Lib.hid (pushedL_take (k := k) (F := F) hlt)
      obtain ⟨p, q, hpq, hp⟩ := HLO.out _ (List.getElem_mem hlt)
      obtain ⟨b0, b1⟩ := HBD.out m hm p hp
      obtain ⟨b2, b3⟩ := HBD.out (m + 1) hlt p hp
      generalize L[m] = y at *
      subst hpq
      have hST : stepTo k (pushedL k F (L.take m)) ((p : Int), q) = (pushedL k F (L.take m)).set p (if q then atI (pushedL k F (L.take m)) p - k else atI (pushedL k F (L.take m)) p + k) := by unfold stepTo; simp
      rw [HTK.out, hST, atI_set (by rw [HFN.out]; exact hp), if_pos rfl] at b2 b3
      have HST := Lib.hid hST
      have hpi : (p : Int) < (F.length : Int) := by omega
      have hX := atI_get (d := pushedL k F (L.take m)) (v := p) (by rw [HFN.out]; exact hp)
      obtain ⟨g, cg, e, hgb, hgl⟩ := HP.out.own.some (by rw [HFN.out]; omega)
      injection e with e3 e4 e5
      subst e3
      subst e5
      clear e4
      obtain ⟨cy, fy⟩ := HP.out.own.cell hX
      unfold encI at cy
      simp only at s0 s1
      clear hST hX
      generalize pushedL k F (L.take m) = G at *
      generalize atI G p = x at *
      cases q
      all_goals
        simp only [Bool.false_eq_true, if_false, if_true] at b2 b3
        go_wp2_with fail
        go_region
        go_wp2
        go_roundw
        case rel => exact ⟨m + 1, by omega, by go_num, Lib.hid (by rw [HTK.out, HST.out]; exact (HP.out.put p _).drew)⟩
        case measure => simp [intOf]; omega
    · have hli : ¬ (m : Int) < (L.length : Int) := by omega
      obtain rfl : m = L.length := by omega
      rw [List.take_length] at HP HFN
      go_wp2
      go_ret
      refine ⟨fa, ca, rfl, HP.out.own.lstK, ?_, HP.out.below⟩
      intro e
      subst e
      rcases HP.out.own.2 with ⟨h0, _⟩ | ⟨g', cap', cur, e1, _⟩
      · injection h0
      · cases e1
end
end Go.Proofs.Ytbkmfjegbmjknaa
namespace Go.Proofs.Ytbkmfjegbmjknaa
open Go.RowKit
set_option linter.unusedVariables false
end Go.Proofs.Ytbkmfjegbmjknaa
namespace Go.Proofs.Ytbkmfjegbmjknaa
set_option linter.unusedVariables false
end Go.Proofs.Ytbkmfjegbmjknaa
namespace Go.Proofs.Ytbkmfjegbmjknaa
set_option linter.unusedVariables false
namespace Exp
variable {E : Exp}
theorem dep_congr {x y : Kd → Int} (h : ∀ i u, E.ok i u = true → x (Kd.mv i u) = y (Kd.mv i u)) (v a : Nat) : E.dep x v a = E.dep y v a := by
  unfold dep
  refine sumTo_congr (fun i _ => ?_)
  by_cases hk : E.ok i a = true
  · rw [if_pos hk, if_pos hk, h i a hk]
  · rw [if_neg hk, if_neg hk]
theorem arr_congr {x y : Kd → Int} (h : ∀ i u, E.ok i u = true → x (Kd.mv i u) = y (Kd.mv i u)) (v a : Nat) : E.arr x v a = E.arr y v a := by
  unfold arr
  refine sumTo_congr (fun u _ => sumTo_congr (fun i _ => ?_))
  by_cases hk : E.ok i u = true
  · rw [if_pos hk, if_pos hk, h i u hk]
  · rw [if_neg hk, if_neg hk]
theorem stock_congr {x y : Kd → Int} (h : ∀ i u, E.ok i u = true → x (Kd.mv i u) = y (Kd.mv i u)) (v a : Nat) : E.stock x v a = E.stock y v a := by
  unfold stock
  exact sumTo_congr (fun u _ => by rw [dep_congr h, arr_congr h])
end Exp
end Go.Proofs.Ytbkmfjegbmjknaa
namespace Go.Proofs.Ytbkmfjegbmjknaa
set_option linter.unusedVariables false
end Go.Proofs.Ytbkmfjegbmjknaa
namespace Go.Proofs.Ytbkmfjegbmjknaa
set_option linter.unusedVariables false
theorem map_exists : ∀ (K : List Kd) (F : List Int), K.Nodup → F.length = K.length → ∃ x : Kd → Int, K.map x = F
  | [], [], _, _ => ⟨fun _ => 0, rfl⟩
  | [], f :: F, _, h => by simp at h
  | k :: K, [], _, h => by simp at h
  | k :: K, f :: F, hn, h => by
    obtain ⟨h1, h2⟩ := List.nodup_cons.1 hn
    obtain ⟨x, hx⟩ := map_exists K F h2 (by simpa using h)
    refine ⟨fun q => if q = k then f else x q, ?_⟩
    rw [List.map_cons, if_pos rfl]
    congr 1
    rw [← hx]
    exact List.map_congr_left (fun q hq => if_neg (fun e : q = k => h1 (e ▸ hq)))
namespace Exp
variable {E : Exp}
theorem mem_wtK {v u : Nat} (h : E.wok v u = true) : ∀ {n}, v < n → Kd.wt v u ∈ E.wtK u n
  | 0, h1 => by omega
  | n + 1, h1 => by
    refine List.mem_append.2 ?_
    by_cases e : v = n
    · subst e; right; rw [if_pos h]; exact List.mem_singleton.2 rfl
    · left; exact mem_wtK h (by omega)
theorem mem_wt {v u : Nat} (hv : v < E.N) (h : E.wok v u = true) : Kd.wt v u ∈ E.kinds :=
  List.mem_append.2 (.inl (mem_timeK (List.mem_append.2 (.inr (mem_wtK h hv))) (by have := (E.wok_is.1 h).2.1; omega)))
end Exp
theorem flow_at {E : Exp} {x : Kd → Int} (h : Flow E.net (E.kinds.map x)) {k : Kd} (hk : k ∈ E.kinds) : 0 ≤ x k ∧ x k ≤ capN (E.arcKd k) := by
  obtain ⟨j, hj⟩ := List.mem_iff_getElem?.1 hk
  have h1 := h.2 j (E.arcKd k) (by unfold Exp.net; rw [List.getElem?_map, hj]; rfl)
  have e : atI (E.kinds.map x) j = x k := by unfold atI; rw [List.getD_eq_getElem?_getD, List.getElem?_map, hj]; rfl
  rw [e] at h1
  exact h1
theorem okM_of {E : Exp} (hW : SpanNet E.Z E.N) {i u : Nat} {y : Int} (h : E.ok i u = true) (h0 : 0 ≤ y) (h1 : ∀ a, E.Z[i]? = some a → y ≤ capN a) : okM E.Z (E.s : Int) (E.t : Int) (E.H : Int) ((i : Int), (u : Int), y) = true := by
  obtain ⟨a, ha, g1, g2, g3⟩ := E.ok_arc h
  obtain ⟨hi, rfl⟩ := List.getElem?_eq_some_iff.1 ha
  have he := hW.ends _ (List.getElem_mem hi)
  have ht := hW.times _ (List.getElem_mem hi)
  have hc := h1 _ ha
  refine okM_yes.2 ?_
  simp only
  rw [arcI_at hi]
  unfold tmN tm toN frN capN at *
  omega
section
variable {E : Exp}
theorem flow_amt {x : Kd → Int} (h : Flow E.net (E.kinds.map x)) {i u : Nat} (ho : E.ok i u = true) : nOf (mvsL E.kinds (E.kinds.map x)) ((u : Int), (i : Int)) = x (Kd.mv i u) := by
  have hs := mvsL_sorted (F := E.kinds.map x) (kinds_sorted E)
  have hn := mvLt_pairs hs
  have hz : ∀ m ∈ mvsL E.kinds (E.kinds.map x), m.2.2 ≠ 0 := fun m hm => by
    obtain ⟨_, _, y, _, _, _, h4, rfl⟩ := mvsL_mem.1 hm
    simp only; omega
  have hm := (mvs_again hn hz).1
  have hmem : ∀ m, m ∈ mvsL E.kinds (E.kinds.map x) → m.2.2 = nOf (mvsL E.kinds (E.kinds.map x)) (m.2.1, m.1) := fun m hm2 => by
    rw [nOf, filter_one_of (f := fun m : MoveT => (m.2.1, m.1)) hm2 hn]; simp
  obtain ⟨j, hj⟩ := List.mem_iff_getElem?.1 (Exp.mem_mv ho)
  have hx : (E.kinds.map x)[j]? = some (x (Kd.mv i u)) := by rw [List.getElem?_map, hj]; rfl
  have h0 := (flow_at h (Exp.mem_mv ho)).1
  by_cases hp : 0 < x (Kd.mv i u)
  · exact (hmem _ (mvsL_mem.2 ⟨j, _, _, hj, hx, rfl, hp, rfl⟩)).symm
  · have e0 : x (Kd.mv i u) = 0 := by omega
    rw [e0]
    refine nOf_none (fun hc => ?_)
    obtain ⟨m, hm1, e1⟩ := List.mem_map.1 hc
    obtain ⟨j', ⟨a, i', u'⟩, y, h1, h2, h3, h4, rfl⟩ := mvsL_mem.1 hm1
    have h3 : a = 0 := h3
    subst h3
    obtain ⟨e2, e3⟩ := Prod.mk.inj e1
    have e2 : u' = u := by have : ((u' : Nat) : Int) = (u : Int) := e2; omega
    have e3 : i' = i := by have : ((i' : Nat) : Int) = (i : Int) := e3; omega
    subst e2; subst e3
    rw [List.getElem?_map, h1] at h2
    have : x (Kd.mv i' u') = y := Option.some.inj h2
    omega
theorem runs_plan (hW : SpanNet E.Z E.N) (hs : E.s < E.N) (ht : E.t < E.N) (hne : E.s ≠ E.t) {F : List Int} {k : Int} (h : FlowST E.net (E.last + 1) E.first E.last F k) (hask : askE (E.N : Int) E.Z (E.s : Int) (E.t : Int) (E.H : Int) = 0) :
    plnE (E.N : Int) E.Z (E.s : Int) (E.t : Int) (E.H : Int) E.hold (mvsL E.kinds F) = 0 ∧ plnV (E.N : Int) E.Z (E.s : Int) (E.t : Int) (E.H : Int) E.hold (mvsL E.kinds F) = k := by
  have hG := Exp.good_of hW hs ht hne
  obtain ⟨x, rfl⟩ := map_exists E.kinds F (kinds_nodup E) (by rw [h.1.1]; unfold Exp.net; exact List.length_map _)
  have hcap : ∀ i u, E.ok i u = true → 0 ≤ x (Kd.mv i u) ∧ ∀ a, E.Z[i]? = some a → x (Kd.mv i u) ≤ capN a := fun i u ho => by
    have h1 := flow_at h.1 (Exp.mem_mv ho)
    refine ⟨h1.1, fun a ha => ?_⟩
    have e4 : E.arcKd (Kd.mv i u) = ((E.slot (frN a) u : Int), (E.slot (toN a) (u + tmN a) : Int), capN a, 0) := by simp only [Exp.arcKd, ha]
    rw [e4] at h1
    exact h1.2
  obtain ⟨hP, hk⟩ := Exp.runs hG x h hcap (fun v u hv ho => (flow_at h.1 (Exp.mem_wt hv ho)).1)
  have hsrt := mvsL_sorted (F := E.kinds.map x) (kinds_sorted E)
  have hn := mvLt_pairs hsrt
  have hz : ∀ m ∈ mvsL E.kinds (E.kinds.map x), m.2.2 ≠ 0 := fun m hm => by
    obtain ⟨_, _, y, _, _, _, h4, rfl⟩ := mvsL_mem.1 hm
    simp only; omega
  have hin : ∀ m ∈ mvsL E.kinds (E.kinds.map x), ∃ i u : Nat, E.ok i u = true ∧ m = ((i : Int), (u : Int), x (Kd.mv i u)) := fun m hm => by
    obtain ⟨j, ⟨a, i, u⟩, y, h1, h2, h3, h4, rfl⟩ := mvsL_mem.1 hm
    have h3 : a = 0 := h3
    subst h3
    rw [List.getElem?_map, h1] at h2
    have e : x (Kd.mv i u) = y := Option.some.inj h2
    refine ⟨i, u, ?_, by rw [e]⟩
    rcases Exp.kinds_cases (List.mem_of_getElem? h1) with ⟨i', u', e, ho⟩ | ⟨v, u', _, e, _⟩ | ⟨u', _, e⟩ | ⟨u', _, e⟩
    · have e1 : i = i' := congrArg (fun k : Kd => k.2.1) e
      have e2 : u = u' := congrArg (fun k : Kd => k.2.2) e
      rw [e1, e2]; exact ho
    · exact absurd (Prod.mk.inj e).1 (by decide)
    · exact absurd (Prod.mk.inj e).1 (by decide)
    · exact absurd (Prod.mk.inj e).1 (by decide)
  have hok : ∀ m ∈ mvsL E.kinds (E.kinds.map x), okM E.Z (E.s : Int) (E.t : Int) (E.H : Int) m = true := fun m hm => by
    obtain ⟨i, u, ho, rfl⟩ := hin m hm
    exact okM_of hW ho (hcap i u ho).1 (hcap i u ho).2
  have hstk : ∀ v u : Nat, stk E.Z (mvsL E.kinds (E.kinds.map x)) (v : Int) (u : Int) = E.stock x v u := fun v u => by
    rw [stk_exp hW v u (fun m hm => mv_in hW (hok m hm))]
    exact Exp.stock_congr (fun i u ho => flow_amt h.1 ho) v u
  have hmv : mvE (E.N : Int) E.Z (E.s : Int) (E.t : Int) (E.H : Int) (mvsL E.kinds (E.kinds.map x)) = 0 := by
    refine mvE_ok.2 ⟨hask, ?_, ?_⟩
    · rw [(mvs_again hn hz).2]
      intro y hy
      obtain ⟨m, hm, rfl⟩ := List.mem_map.1 hy
      obtain ⟨i, u, ho, rfl⟩ := hin m hm
      obtain ⟨a, ha, _⟩ := E.ok_arc ho
      have h1 := (hcap i u ho).1
      have h2 := (hcap i u ho).2 a ha
      have h3 := (hW.caps a (List.mem_of_getElem? ha)).2
      unfold in64
      simp only
      omega
    · rw [(mvs_again hn hz).1]; exact hok
  have hpl : planB E.Z (mvsL E.kinds (E.kinds.map x)) E.N E.s E.t E.H E.hold = true := by
    refine planG_is.2 (fun u hu v hv h1 h2 => ?_)
    have := hP.2 v hv h1 h2 u hu
    unfold stkN
    rw [hstk]
    exact this
  have he : plnE (E.N : Int) E.Z (E.s : Int) (E.t : Int) (E.H : Int) E.hold (mvsL E.kinds (E.kinds.map x)) = 0 := by rw [plnE_good hmv, if_pos hpl]
  refine ⟨he, ?_⟩
  unfold plnV
  rw [if_pos he, hstk, hk]
end
end Go.Proofs.Ytbkmfjegbmjknaa
