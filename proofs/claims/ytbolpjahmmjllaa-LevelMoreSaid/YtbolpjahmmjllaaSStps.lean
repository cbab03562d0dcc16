/- The document's Steps: all steps that have room. -/
import Derived.Test.YtbolpjahmmjllaaSPus
namespace Go.Proofs.Ytbolpjahmmjllaa
open Go.RowKit
set_option linter.unusedVariables false

/-- The steps along an arc and back that have room. -/
def stepOf (a : ArcT) (x : Int) (i : Nat) : List StepT := (if x < capN a then [((i : Int), false)] else []) ++ (if 0 < x then [((i : Int), true)] else [])
def stepsK (Z : List ArcT) (F : List Int) : Nat → List StepT
  | 0 => []
  | i + 1 => stepsK Z F i ++ match Z[i]? with | some a => stepOf a (atI F i) i | none => []
theorem stepsK_succ {Z : List ArcT} {F : List Int} {i : Nat} {a : ArcT} (h : Z[i]? = some a) : stepsK Z F (i + 1) = stepsK Z F i ++ stepOf a (atI F i) i := by
  show stepsK Z F i ++ _ = _
  rw [h]
theorem stepOf_len (a : ArcT) (x : Int) (i : Nat) : (stepOf a x i).length ≤ 2 := by
  unfold stepOf
  rw [List.length_append]
  split <;> split <;> simp
theorem stepsK_len (Z : List ArcT) (F : List Int) : ∀ i, (stepsK Z F i).length ≤ 2 * i
  | 0 => by simp [stepsK]
  | i + 1 => by
    have ih := stepsK_len Z F i
    show (stepsK Z F i ++ _).length ≤ _
    rw [List.length_append]
    cases hz : Z[i]? with
    | none => simp; omega
    | some a =>
      have := stepOf_len a (atI F i) i
      simp only
      omega
theorem stepsK_mem {Z : List ArcT} {F : List Int} {x : StepT} : ∀ {i}, i ≤ Z.length → (x ∈ stepsK Z F i ↔ isArc Z x ∧ x.1 < (i : Int) ∧ 0 < leftS Z F x)
  | 0, _ => by
    constructor
    · intro h; cases h
    · rintro ⟨h1, h2, _⟩
      unfold isArc at h1
      omega
  | i + 1, hi => by
    have ha : Z[i]? = some (Z[i]'(by omega)) := List.getElem?_eq_getElem (by omega)
    rw [stepsK_succ ha, List.mem_append, stepsK_mem (by omega)]
    generalize Z[i]'(by omega) = a at *
    have hl : ∀ q, leftS Z F ((i : Int), q) = if q = true then atI F i else capN a - atI F i := by
      intro q
      unfold leftS arcOf
      simp [List.getD_eq_getElem?_getD, ha]
    constructor
    · rintro (⟨h1, h2, h3⟩ | h)
      · exact ⟨h1, by omega, h3⟩
      · unfold stepOf at h
        rw [List.mem_append] at h
        rcases h with h | h
        · split at h
          · next hc =>
            rw [List.mem_singleton] at h
            subst h
            refine ⟨⟨by simp, by simp only; omega⟩, by simp only; omega, ?_⟩
            rw [hl]; simp; omega
          · cases h
        · split at h
          · next hc =>
            rw [List.mem_singleton] at h
            subst h
            refine ⟨⟨by simp, by simp only; omega⟩, by simp only; omega, ?_⟩
            rw [hl]; simp; omega
          · cases h
    · rintro ⟨h1, h2, h3⟩
      by_cases hx : x.1 < (i : Int)
      · exact .inl ⟨h1, hx, h3⟩
      · right
        have he : x.1 = (i : Int) := by omega
        obtain ⟨y, q⟩ := x
        simp only at he
        subst he
        rw [hl] at h3
        unfold stepOf
        rw [List.mem_append]
        cases q with
        | false =>
          left
          rw [if_pos (by simp at h3; omega)]
          simp
        | true =>
          right
          rw [if_pos (by simpa using h3)]
          simp
/-- A row of steps of a call's own. -/
def OwnS (w : World) (base : Nat) (v : Value) (L : List StepT) : Prop := w.ownsRow base 40 2 v L.length (L.flatMap encS)
theorem OwnS.nil (w : World) (base : Nat) : OwnS w base (.slice none 0 0) [] := World.ownsRow_nil _ _ _ _
theorem OwnS.below {w w' : World} {base : Nat} {v : Value} {L : List StepT} (h : OwnS w base v L) (hb : Below w.heap.size w w') : OwnS w' base v L := own_below h hb
theorem OwnS.alloc {w : World} {base : Nat} {v : Value} {L : List StepT} (h : OwnS w base v L) (o : Obj) : OwnS (w.alloc o) base v L := World.ownsRow.alloc h o
theorem OwnS.row {w : World} {base : Nat} {v : Value} {L : List StepT} (h : OwnS w base v L) : ∃ ao cap, v = .slice ao L.length cap ∧ Row encS 2 w ao L := own_row encS_len h
theorem infoStep : (Try.prog.info? 40).map (fun i => (i.zero, i.size, i.bytes)) = some (some (.agg #[.int .i64 0, .bool false]), 2, 16) := by kernel_rfl
theorem cells2 (w : World) (t : TypeId) (g : Nat) (hg : w.heap.size = g) (x : Int) (q : Bool) : ∀ j, j < 2 → (w.alloc (.cells #[.int .i64 x, .bool q] t)).cell? ⟨g, j, none⟩ = (encS (x, q))[j]? := by
  intro j hj
  rw [cell_new' hg]
  match j, hj with
  | 0, _ => rfl
  | 1, _ => rfl
/-- One step is appended. -/
theorem wpList_append_step {w : World} {ops : Array Oper} {rest : List Oper} {o : Oper} {a : Act} {Q : Exit → Act → World → Prop} (hgd : o.guard = none) (s y : Operand)
    (ho : o.op = .call { callee := .builtin .append, args := #[s, y], argTypes := #[32, 32] })
    (base : Nat) (v : Value) (A : List StepT) (x : StepT) (hs : a.eval s = v) (hown : OwnS w base v A) (gs : Nat) (c : Nat) (hx : a.eval y = .slice (some ⟨gs, 0, none⟩) 1 c) (hc : ∀ j, j < 2 → w.cell? ⟨gs, j, none⟩ = (encS x)[j]?)
    (hroom : A.length ≤ 200000) (hbase : base ≤ w.heap.size)
    (hK : ∀ g cap w', OwnS w' base (.slice (some ⟨g, 0, none⟩) (A.length + 1) cap) (A ++ [x]) → w.grownBy w' v.ownBlock → (v.ownBlock = some g ∨ g = w.heap.size) → base ≤ g → g < w'.heap.size → wpList Try.prog ops Q rest (a.put o.dst (.slice (some ⟨g, 0, none⟩) (A.length + 1) cap)) w') : wpList Try.prog ops Q (o :: rest) a w :=
  wpList_append_row (enc := encS) Try.underlying32 infoStep rfl (by omega) (by omega) encS_len hgd s y ho base v A x (encS_one x) hs hown gs c hx hc hroom hbase hK
/-- What Steps tells. -/
def StepsV (L : List StepT) (w : World) (e : Ending) (w' : World) : Prop := ∃ a c, e = .returned (.slice a L.length c) ∧ Row encS 2 w' a L ∧ Below w.heap.size w w'
section
variable (n : Int) (b : Bool) (ao fo : Option Addr) (cap fc : Nat) (Z : List ArcT) (F : List Int)
set_option maxRecDepth 100000 in
set_option maxHeartbeats 4000000 in
theorem rsteps_any (w : World) (h : Row encA 4 w ao Z) (hf : Lst encI w fo F) (hfl : F.length = Z.length) (hz : Z.length ≤ 50000) :
    Calls Try.prog 18 #[.agg #[.int .i64 n, .bool b, .slice ao Z.length cap], .slice fo F.length fc] w (StepsV (stepsK Z F Z.length) w) := by
  have HL := Lib.hid hfl
  have hfz : F.length ≤ 50000 := by omega
  have hb00 := (Below.refl _ w).alloc (Nat.le_refl _) (.cells #[.int .i64 n, .bool b, .slice ao Z.length cap] 24)
  have HB0 := Lib.hid hb00
  have cc := cell_new w #[.int .i64 n, .bool b, .slice ao Z.length cap] 24 2
  have HR := Lib.hid (h.below' hb00)
  have HF := Lib.hid (hf.below hb00)
  clear h hf hb00 hfl
  go_enter Try.func18, Try.ntmps18
  go_wp2
  generalize w.alloc (.cells #[.int .i64 n, .bool b, .slice ao Z.length cap] 24) = w1 at *
  have hcc := block_lt_of_cell cc
  simp only at hcc
  go_loopw [5, 6] (fun ov i wr => ∃ k : Nat, k ≤ F.length ∧ i = .int .i64 (k : Int) ∧ Hid (Below w1.heap.size w1 wr) ∧ Hid (OwnS wr w1.heap.size ov (stepsK Z F k))) (fun _ i _ => F.length - (intOf i).toNat)
  case atStart => exact ⟨0, Nat.zero_le _, rfl, Lib.hid (Below.refl _ _), Lib.hid (OwnS.nil _ _)⟩
  case round =>
    obtain ⟨k, hk, rfl, HB, HO⟩ := hrel
    have dd := cell_below' HB.out cc hcc
    obtain ⟨la, lc, hlv, _⟩ := HO.out.row
    by_cases hlf : k < F.length
    · have hlfi : (k : Int) < (F.length : Int) := by omega
      have hlt : k < Z.length := by rw [← HL.out]; exact hlf
      have hli : (k : Int) < (Z.length : Int) := by omega
      have ha : Z[k]? = some Z[k] := List.getElem?_eq_getElem hlt
      obtain ⟨ab, ax, e, hab, c0, c1, c2, c3⟩ := arc_at (HR.out.below' HB.out) ha
      cases e
      obtain ⟨fb, fx, e, hfb, d0⟩ := lst_cell (HF.out.below HB.out) (atI_get (d := F) (v := k) hlf)
      cases e
      have HS := Lib.hid (stepsK_succ (F := F) ha)
      have hlen := stepsK_len Z F k
      have hsz := HB.out.size
      unfold encI at d0
      unfold stepOf capN at HS
      have HFU := Lib.hid (atI_get (d := F) (v := k) hlf)
      clear c0 c1 c3 ha
      generalize Z[k] = a at *
      generalize a.2.2.1 = c at *
      generalize atI F k = u at *
      generalize stepsK Z F k = S at *
      subst hlv
      by_cases h1 : u < c <;> by_cases h2 : 0 < u
      · have g1 : decide (u < c) = true := by simpa using h1
        have g2 : decide (0 < u) = true := by simpa using h2
        have HS1 : Hid (stepsK Z F (k + 1) = (S ++ [((k : Int), false)]) ++ [((k : Int), true)]) := Lib.hid (by rw [HS.out, if_pos h1, if_pos h2]; simp)
        clear HS
        go_wp2
        go_quiet (fail)
        have HBn := Lib.hid (below_drewN HB.out nq)
        have HOn := Lib.hid (HO.out.below (below_drewN (Below.refl _ _) nq))
        have dn : (wr.drewN nq).cell? ⟨fb, fx + k, none⟩ = some (.int .i64 u) := d0
        have hszn : w1.heap.size ≤ (wr.drewN nq).heap.size := hsz
        have hroom : S.length ≤ 200000 := by omega
        clear d0 dd c2 HO HB hsz hfb hab
        generalize wr.drewN nq = wz at *
        have HO3 := Lib.hid (HOn.out.alloc (.cells #[.int .i64 (k : Int), .bool false] 40))
        go_wp2_with (first
          | (at_builtin; refine wpList_append_step rfl _ _ rfl w1.heap.size _ S ((k : Int), false) rfl HO3.out _ 1 rfl (cells2 _ _ _ (by simp) _ _) hroom (by simp; omega) ?_; intro g4 cap4 w4 ho4 hg4 hl4 hb4 hlt4; have HO4 := Lib.hid ho4; have HB4 := Lib.hid (below_grown (HBn.out.alloc hszn (.cells #[.int .i64 (k : Int), .bool false] 40)) (by simp; omega) hg4 (fun g e => own_block HO3.out e)); have hs4 := HB4.out.size; obtain ⟨fb2, fx2, e, hfb2, d4⟩ := lst_cell (HF.out.below HB4.out) HFU.out; cases e; unfold encI at d4; clear ho4 hg4 hl4 dn)
          | (at_builtin; refine wpList_append_step rfl _ _ rfl w1.heap.size _ (S ++ [((k : Int), false)]) ((k : Int), true) rfl (HO4.out.alloc (.cells #[.int .i64 (k : Int), .bool true] 40)) _ 1 rfl (cells2 _ _ _ (by simp) _ _) (by simp; omega) (by simp; omega) ?_; intro g5 cap5 w5 ho5 hg5 hl5 hb5 hlt5; rw [List.length_append, List.length_singleton] at ho5; have HO5 := Lib.hid ho5; have HB5 := Lib.hid (below_grown (HB4.out.alloc hs4 (.cells #[.int .i64 (k : Int), .bool true] 40)) (by simp; omega) hg5 (fun g e => own_block HO4.out e)); clear ho5 hg5 hl5))
        go_roundw
        case rel => exact ⟨k + 1, by omega, by go_num, HB5, Lib.hid (by rw [HS1.out]; simpa using HO5.out)⟩
        case measure => simp [intOf]; omega
      · have g1 : decide (u < c) = true := by simpa using h1
        have g2 : decide (0 < u) = false := by simpa using h2
        have HS1 : Hid (stepsK Z F (k + 1) = S ++ [((k : Int), false)]) := Lib.hid (by rw [HS.out, if_pos h1, if_neg h2]; simp)
        clear HS
        go_wp2
        go_quiet (fail)
        have HBn := Lib.hid (below_drewN HB.out nq)
        have HOn := Lib.hid (HO.out.below (below_drewN (Below.refl _ _) nq))
        have dn : (wr.drewN nq).cell? ⟨fb, fx + k, none⟩ = some (.int .i64 u) := d0
        have hszn : w1.heap.size ≤ (wr.drewN nq).heap.size := hsz
        have hroom : S.length ≤ 200000 := by omega
        clear d0 dd c2 HO HB hsz hfb hab
        generalize wr.drewN nq = wz at *
        have HO3 := Lib.hid (HOn.out.alloc (.cells #[.int .i64 (k : Int), .bool false] 40))
        go_wp2_with (first
          | (at_builtin; refine wpList_append_step rfl _ _ rfl w1.heap.size _ S ((k : Int), false) rfl HO3.out _ 1 rfl (cells2 _ _ _ (by simp) _ _) hroom (by simp; omega) ?_; intro g4 cap4 w4 ho4 hg4 hl4 hb4 hlt4; have HO4 := Lib.hid ho4; have HB4 := Lib.hid (below_grown (HBn.out.alloc hszn (.cells #[.int .i64 (k : Int), .bool false] 40)) (by simp; omega) hg4 (fun g e => own_block HO3.out e)); have hs4 := HB4.out.size; obtain ⟨fb2, fx2, e, hfb2, d4⟩ := lst_cell (HF.out.below HB4.out) HFU.out; cases e; unfold encI at d4; clear ho4 hg4 hl4 dn))
        go_roundw
        case rel => exact ⟨k + 1, by omega, by go_num, HB4, Lib.hid (by rw [HS1.out]; exact HO4.out)⟩
        case measure => simp [intOf]; omega
      · have g1 : decide (u < c) = false := by simpa using h1
        have g2 : decide (0 < u) = true := by simpa using h2
        have HS1 : Hid (stepsK Z F (k + 1) = S ++ [((k : Int), true)]) := Lib.hid (by rw [HS.out, if_neg h1, if_pos h2]; simp)
        clear HS
        go_wp2
        go_quiet (fail)
        have HBn := Lib.hid (below_drewN HB.out nq)
        have HOn := Lib.hid (HO.out.below (below_drewN (Below.refl _ _) nq))
        have dn : (wr.drewN nq).cell? ⟨fb, fx + k, none⟩ = some (.int .i64 u) := d0
        have hszn : w1.heap.size ≤ (wr.drewN nq).heap.size := hsz
        have hroom : S.length ≤ 200000 := by omega
        clear d0 dd c2 HO HB hsz hfb hab
        generalize wr.drewN nq = wz at *
        have HO3 := Lib.hid (HOn.out.alloc (.cells #[.int .i64 (k : Int), .bool true] 40))
        go_wp2_with (first
          | (at_builtin; refine wpList_append_step rfl _ _ rfl w1.heap.size _ S ((k : Int), true) rfl HO3.out _ 1 rfl (cells2 _ _ _ (by simp) _ _) hroom (by simp; omega) ?_; intro g4 cap4 w4 ho4 hg4 hl4 hb4 hlt4; have HO4 := Lib.hid ho4; have HB4 := Lib.hid (below_grown (HBn.out.alloc hszn (.cells #[.int .i64 (k : Int), .bool true] 40)) (by simp; omega) hg4 (fun g e => own_block HO3.out e)); have hs4 := HB4.out.size; obtain ⟨fb2, fx2, e, hfb2, d4⟩ := lst_cell (HF.out.below HB4.out) HFU.out; cases e; unfold encI at d4; clear ho4 hg4 hl4 dn))
        go_roundw
        case rel => exact ⟨k + 1, by omega, by go_num, HB4, Lib.hid (by rw [HS1.out]; exact HO4.out)⟩
        case measure => simp [intOf]; omega
      · have g1 : decide (u < c) = false := by simpa using h1
        have g2 : decide (0 < u) = false := by simpa using h2
        have HS1 : Hid (stepsK Z F (k + 1) = S) := Lib.hid (by rw [HS.out, if_neg h1, if_neg h2]; simp)
        clear HS
        go_wp2
        go_quiet (fail)
        have HBn := Lib.hid (below_drewN HB.out nq)
        have HOn := Lib.hid (HO.out.below (below_drewN (Below.refl _ _) nq))
        have dn : (wr.drewN nq).cell? ⟨fb, fx + k, none⟩ = some (.int .i64 u) := d0
        have hszn : w1.heap.size ≤ (wr.drewN nq).heap.size := hsz
        have hroom : S.length ≤ 200000 := by omega
        clear d0 dd c2 HO HB hsz hfb hab
        generalize wr.drewN nq = wz at *
        go_wp2
        go_roundw
        case rel => exact ⟨k + 1, by omega, by go_num, HBn, Lib.hid (by rw [HS1.out]; exact HOn.out)⟩
        case measure => simp [intOf]; omega
    · have hlfi : ¬ (k : Int) < (F.length : Int) := by omega
      obtain rfl : k = F.length := by omega
      subst hlv
      have HO2 := HO
      rw [HL.out] at HO2
      obtain ⟨la2, lc2, e, hrow⟩ := HO2.out.row
      injection e with e1 e2 e3
      subst e1
      have HRW := Lib.hid hrow
      clear hrow
      go_wp2
      go_ret
      exact ⟨la, lc2, by rw [HL.out]; rfl, HRW.out, HB0.out.trans (HB.out.mono HB0.out.size)⟩
end
end Go.Proofs.Ytbolpjahmmjllaa
