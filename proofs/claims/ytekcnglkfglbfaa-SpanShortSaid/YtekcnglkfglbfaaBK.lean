/- Lemmas of the layers below, several texts in one. -/
import Derived.Test.YtekcnglkfglbfaaBJ
import Derived.Test.YtekcnglkfglbfaaBB
import Derived.Deep.DeepCutAuto
import Derived.Deep.RegionHeld3
import Derived.BigQuiet
import Derived.Deep.QuietTactic
namespace Go.Proofs.Ytekcnglkfglbfaa
open Go.RowKit
set_option linter.unusedVariables false

def encLk (a : ArcT) : List Value := [.int .i64 a.1, .int .i64 a.2.1, .int .i64 a.2.2.2]
theorem encLk_len (z : ArcT) : (encLk z).length = 3 := rfl
theorem encLk_one (z : ArcT) : ∀ u ∈ encLk z, u.oneCell' = true := by intro u hu; simp [encLk] at hu; rcases hu with rfl | rfl | rfl <;> rfl
theorem infoLink : (Try.prog.info? 119).map (fun i => (i.zero, i.size, i.bytes)) = some (some (.agg #[.int .i64 0, .int .i64 0, .int .i64 0]), 3, 24) := by kernel_rfl
/-- A row of links of a call's own. -/
def OwnK (w : World) (base : Nat) (v : Value) (L : List ArcT) : Prop := w.ownsRow base 119 3 v L.length (L.flatMap encLk)
theorem OwnK.nil (w : World) (base : Nat) : OwnK w base (.slice none 0 0) [] := World.ownsRow_nil _ _ _ _
theorem OwnK.below {w w' : World} {base : Nat} {v : Value} {L : List ArcT} (h : OwnK w base v L) (hb : Below w.heap.size w w') : OwnK w' base v L := own_below h hb
theorem OwnK.alloc {w : World} {base : Nat} {v : Value} {L : List ArcT} (h : OwnK w base v L) (o : Obj) : OwnK (w.alloc o) base v L := World.ownsRow.alloc h o
theorem OwnK.row {w : World} {base : Nat} {v : Value} {L : List ArcT} (h : OwnK w base v L) : ∃ ao cap, v = .slice ao L.length cap ∧ Row encLk 3 w ao L := own_row encLk_len h
theorem OwnK.old {w : World} {base : Nat} {v : Value} {L : List ArcT} (h : OwnK w base v L) {g : Nat} (e : v.ownBlock = some g) : g < w.heap.size := own_lt h e
theorem OwnK.facts {w : World} {base n c : Nat} {a : Option Addr} {L : List ArcT} (h : OwnK w base (.slice a n c) L) : Row encLk 3 w a L ∧ L.length ≤ c ∧ ∀ ad, a = some ad → base ≤ ad.block ∧ ad.block < w.heap.size := by
  refine ⟨own_rowK encLk_len h, ?_, ?_⟩
  · rcases h.2 with ⟨e1, h0⟩ | ⟨g, cap', cur, e1, hb, hg, h1, h2, h3, h4⟩
    · omega
    · cases e1; exact h1
  · intro ad hd
    subst hd
    rcases h.2 with ⟨e1, h0⟩ | ⟨g, cap', cur, e1, hb, hg, h1, h2, h3, h4⟩
    · cases e1
    · cases e1; exact ⟨hb, lt_whole hg⟩
theorem cells3 (w : World) (t : TypeId) (g : Nat) (hg : w.heap.size = g) (x y z : Int) (a : ArcT) (ha : a.1 = x ∧ a.2.1 = y ∧ a.2.2.2 = z) : ∀ j, j < 3 → (w.alloc (.cells #[.int .i64 x, .int .i64 y, .int .i64 z] t)).cell? ⟨g, j, none⟩ = (encLk a)[j]? := by
  intro j hj
  obtain ⟨rfl, rfl, rfl⟩ := ha
  rw [cell_new' hg]
  match j, hj with
  | 0, _ => rfl
  | 1, _ => rfl
  | 2, _ => rfl
/-- One link is appended. -/
theorem wpList_append_link {w : World} {ops : Array Oper} {rest : List Oper} {o : Oper} {a : Act} {Q : Exit → Act → World → Prop} (hgd : o.guard = none) (s y : Operand)
    (ho : o.op = .call { callee := .builtin .append, args := #[s, y], argTypes := #[103, 103] })
    (base : Nat) (v : Value) (A : List ArcT) (x : ArcT) (hs : a.eval s = v) (hown : OwnK w base v A) (gs : Nat) (c : Nat) (hx : a.eval y = .slice (some ⟨gs, 0, none⟩) 1 c) (hc : ∀ j, j < 3 → w.cell? ⟨gs, j, none⟩ = (encLk x)[j]?)
    (hroom : A.length ≤ 200000) (hbase : base ≤ w.heap.size)
    (hK : ∀ g cap w', OwnK w' base (.slice (some ⟨g, 0, none⟩) (A.length + 1) cap) (A ++ [x]) → w.grownBy w' v.ownBlock → (v.ownBlock = some g ∨ g = w.heap.size) → base ≤ g → g < w'.heap.size → wpList Try.prog ops Q rest (a.put o.dst (.slice (some ⟨g, 0, none⟩) (A.length + 1) cap)) w') : wpList Try.prog ops Q (o :: rest) a w :=
  wpList_append_row (enc := encLk) Try.underlying103 infoLink rfl (by omega) (by omega) encLk_len hgd s y ho base v A x (encLk_one x) hs hown gs c hx hc hroom hbase hK
/-- A box that lies above the row's block stays, when the row grows. -/
theorem box_grown {w w' : World} {row : Option Nat} {g : Nat} {o : Obj} (h : w.heap[g]? = some o) (hg : w.grownBy w' row) (hn : ∀ k, row = some k → k ≠ g) : w'.heap[g]? = some o :=
  (Kept.of_grown (S := fun i => row = some i) hg (fun k e => e)).old h (fun e => hn g e rfl)
/-- What Links tells. -/
def LinksV (L : List ArcT) (w : World) (e : Ending) (w' : World) : Prop := ∃ a c, e = .returned (.slice a L.length c) ∧ OwnK w' w.heap.size (.slice a L.length c) L ∧ Below w.heap.size w w'
def rowsKO (Z : List ArcT) (F : List Int) (i : Nat) : List ArcT := (stepsK Z F i).map (rowS Z)
theorem rowsK_full (Z : List ArcT) (F : List Int) : rowsKO Z F Z.length = rowsR Z F := rfl
theorem rowsKO_zero (Z : List ArcT) (F : List Int) : rowsKO Z F 0 = [] := rfl
theorem rowsKO_len (Z : List ArcT) (F : List Int) (i : Nat) : (rowsKO Z F i).length ≤ 2 * i := by unfold rowsKO; rw [List.length_map]; exact stepsK_len Z F i
theorem rowsK_succ {Z : List ArcT} {F : List Int} {i : Nat} {a : ArcT} (h : Z[i]? = some a) : rowsKO Z F (i + 1) = rowsKO Z F i ++ ((if atI F i < capN a then [((frN a : Int), (toN a : Int), 0, tm a)] else []) ++ (if 0 < atI F i then [((toN a : Int), (frN a : Int), 0, - tm a)] else [])) := by
  unfold rowsKO
  rw [stepsK_succ h, List.map_append]
  congr 1
  unfold stepOf
  rw [List.map_append]
  have e := fun q => arcOf_nat (Z := Z) q h
  congr 1
  · split
    · simp only [List.map_cons, List.map_nil]
      unfold rowS fromS toS tmS
      rw [e]
      rfl
    · rfl
  · split
    · simp only [List.map_cons, List.map_nil]
      unfold rowS fromS toS tmS
      rw [e]
      rfl
    · rfl
section
variable (n : Int) (b : Bool) (ao fo : Option Addr) (cap fc : Nat) (Z : List ArcT) (F : List Int)
set_option maxRecDepth 100000 in
set_option maxHeartbeats 4000000 in
theorem olinks_any {N : Nat} (w : World) (h : Row encA 4 w ao Z) (hf : Lst encI w fo F) (hfl : F.length = Z.length) (hT : TimeNet Z N) :
    Calls Try.prog 67 #[.agg #[.int .i64 n, .bool b, .slice ao Z.length cap], .slice fo F.length fc] w (LinksV (rowsR Z F) w) := by
  have HL := Lib.hid hfl
  have HTN := Lib.hid hT
  have hz := hT.len
  have hb00 := (Below.refl _ w).alloc (Nat.le_refl _) (.cells #[.int .i64 n, .bool b, .slice ao Z.length cap] 24)
  have HB0 := Lib.hid hb00
  have cc := cell_new w #[.int .i64 n, .bool b, .slice ao Z.length cap] 24 2
  have HR := Lib.hid (h.below' hb00)
  have HF := Lib.hid (hf.below hb00)
  clear h hf hb00 hfl hT
  go_enter Try.func67, Try.ntmps67
  go_wp2
  generalize w.alloc (.cells #[.int .i64 n, .bool b, .slice ao Z.length cap] 24) = w1 at *
  go_loopw [5, 11] (fun ov i wr => ∃ k : Nat, k ≤ Z.length ∧ i = .int .i64 (k : Int) ∧ Hid (Below w1.heap.size w1 wr) ∧ Hid (OwnK wr w1.heap.size ov (rowsKO Z F k))) (fun _ i _ => Z.length - (intOf i).toNat)
  case atStart => exact ⟨0, Nat.zero_le _, rfl, Lib.hid (Below.refl _ _), Lib.hid (OwnK.nil _ _)⟩
  case round =>
    obtain ⟨k, hk, rfl, HB, HO⟩ := hrel
    obtain ⟨la, lc, hlv, _⟩ := HO.out.row
    by_cases hlt : k < Z.length
    · have hli : (k : Int) < (Z.length : Int) := by omega
      have hlf : k < F.length := by rw [HL.out]; exact hlt
      have hlfi : (k : Int) < (F.length : Int) := by omega
      have ha : Z[k]? = some Z[k] := List.getElem?_eq_getElem hlt
      have hmem := List.mem_of_getElem? ha
      obtain ⟨h1, h2⟩ := HTN.out.ends _ hmem
      have hti := HTN.out.times _ hmem
      obtain ⟨ab, ax, e, hab, c0, c1, c2, c3⟩ := arc_at (HR.out.below' HB.out) ha
      cases e
      obtain ⟨fb, fx, e, hfb, d0⟩ := lst_cell (HF.out.below HB.out) (atI_get (d := F) (v := k) hlf)
      cases e
      rw [h1] at c0
      rw [h2] at c1
      have HS := Lib.hid (rowsK_succ (F := F) ha)
      have hlen := rowsKO_len Z F k
      have hsz := HB.out.size
      unfold encI at d0
      unfold capN tm at HS
      unfold tm at hti
      have HFU := Lib.hid (atI_get (d := F) (v := k) hlf)
      clear ha hmem h1 h2
      generalize Z[k] = a at *
      generalize a.2.2.1 = c at *
      generalize a.2.2.2 = t at *
      generalize frN a = x at *
      generalize toN a = y at *
      generalize atI F k = u at *
      generalize rowsKO Z F k = S at *
      subst hlv
      have HOB : Hid (∀ g, (Value.slice la S.length lc).ownBlock = some g → g < wr.heap.size) := Lib.hid (fun g e => HO.out.old e)
      have hnt : IntKind.i64.wrap (-t) = -t := IntWalk.i64_in _ (by omega)
      have hroom : S.length ≤ 200000 := by omega
      have d1 := cell_alloc d0 (.cells #[.int .i64 (x : Int), .int .i64 (y : Int), .int .i64 c, .int .i64 t] 40)
      have HXB := Lib.hid (heap_alloc_new wr (.cells #[.int .i64 (x : Int), .int .i64 (y : Int), .int .i64 c, .int .i64 t] 40))
      have HBX := Lib.hid (HB.out.alloc hsz (.cells #[.int .i64 (x : Int), .int .i64 (y : Int), .int .i64 c, .int .i64 t] 40))
      have HOX := Lib.hid (HO.out.alloc (.cells #[.int .i64 (x : Int), .int .i64 (y : Int), .int .i64 c, .int .i64 t] 40))
      go_wp2_with fail
      obtain ⟨g, hg⟩ : ∃ g, wr.heap.size = g := ⟨_, rfl⟩
      rw [hg] at HXB HOB hsz ⊢
      have hszx : w1.heap.size ≤ (wr.alloc (.cells #[.int .i64 (x : Int), .int .i64 (y : Int), .int .i64 c, .int .i64 t] 40)).heap.size := by simp; omega
      generalize wr.alloc (.cells #[.int .i64 (x : Int), .int .i64 (y : Int), .int .i64 c, .int .i64 t] 40) = wx at *
      have x0 := cell_whole HXB.out 0
      have x1 := cell_whole HXB.out 1
      have x2 := cell_whole HXB.out 2
      have x3 := cell_whole HXB.out 3
      clear c0 c1 c2 c3 d0 HB HO
      by_cases h1 : u < c <;> by_cases h2 : 0 < u
      · have g1 : decide (u < c) = true := by simpa using h1
        have g2 : decide (0 < u) = true := by simpa using h2
        have HS1 : Hid (rowsKO Z F (k + 1) = (S ++ [((x : Int), (y : Int), 0, t)]) ++ [((y : Int), (x : Int), 0, -t)]) := Lib.hid (by rw [HS.out, if_pos h1, if_pos h2]; simp)
        clear HS
        go_quiet (fail)
        have HBn := Lib.hid (below_drewN HBX.out nq)
        have HOn := Lib.hid (HOX.out.below (below_drewN (Below.refl _ _) nq))
        have HXn : Hid ((wx.drewN nq).heap[g]? = some _) := HXB
        have dn : (wx.drewN nq).cell? ⟨fb, fx + k, none⟩ = some (.int .i64 u) := d1
        have hszn : w1.heap.size ≤ (wx.drewN nq).heap.size := hszx
        have x0 : (wx.drewN nq).cell? ⟨g, 0, none⟩ = _ := x0
        have x1 : (wx.drewN nq).cell? ⟨g, 1, none⟩ = _ := x1
        have x2 : (wx.drewN nq).cell? ⟨g, 2, none⟩ = _ := x2
        have x3 : (wx.drewN nq).cell? ⟨g, 3, none⟩ = _ := x3
        clear d1 HBX HOX HXB hszx
        generalize wx.drewN nq = wz at *
        go_wp2_with (first
          | (at_builtin; refine wpList_append_link rfl _ _ rfl w1.heap.size _ S (((x : Int), (y : Int), 0, t)) rfl (HOn.out.alloc (.cells #[.int .i64 (x : Int), .int .i64 (y : Int), .int .i64 t] 119)) _ 1 rfl (cells3 _ _ _ (by simp) _ _ _ _ ⟨rfl, rfl, rfl⟩) (by first | exact hroom | (simp; omega)) (by simp; omega) ?_; intro g4 cap4 w4 ho4 hg4 hl4 hb4 hlt4; have HO4 := Lib.hid ho4; have HB4 := Lib.hid (below_grown (HBn.out.alloc hszn (.cells #[.int .i64 (x : Int), .int .i64 (y : Int), .int .i64 t] 119)) (by simp; omega) hg4 (fun g e => own_block HOn.out e)); have hs4 := HB4.out.size; have hx4 := box_grown (kept_box HXn.out ((Below.refl _ wz).alloc (Nat.le_refl _) (.cells #[.int .i64 (x : Int), .int .i64 (y : Int), .int .i64 t] 119))) hg4 (fun k e => by have := HOB.out k e; omega); obtain ⟨fb2, fx2, e, hfb2, d4⟩ := lst_cell (HF.out.below HB4.out) HFU.out; cases e; unfold encI at d4; have y0 := cell_whole hx4 0; have y1 := cell_whole hx4 1; have y3 := cell_whole hx4 3; clear ho4 hg4 hl4 dn x0 x1 x2 x3 hx4)
          | (at_builtin; refine wpList_append_link rfl _ _ rfl w1.heap.size _ (S ++ [((x : Int), (y : Int), 0, t)]) (((y : Int), (x : Int), 0, -t)) rfl (HO4.out.alloc (.cells #[.int .i64 (y : Int), .int .i64 (x : Int), .int .i64 (-t)] 119)) _ 1 rfl (cells3 _ _ _ (by simp) _ _ _ _ ⟨rfl, rfl, rfl⟩) (by first | exact hroom | (simp; omega)) (by simp; omega) ?_; intro g5 cap5 w5 ho5 hg5 hl5 hb5 hlt5; rw [List.length_append, List.length_singleton] at ho5; have HO5 := Lib.hid ho5; have HB5 := Lib.hid (below_grown (HB4.out.alloc hs4 (.cells #[.int .i64 (y : Int), .int .i64 (x : Int), .int .i64 (-t)] 119)) (by simp; omega) hg5 (fun g e => own_block HO4.out e)); clear ho5 hg5 hl5))
        go_roundw
        case rel => exact ⟨k + 1, by omega, by go_num, HB5, Lib.hid (by rw [HS1.out]; simpa using HO5.out)⟩
        case measure => simp [intOf]; omega
      · have g1 : decide (u < c) = true := by simpa using h1
        have g2 : decide (0 < u) = false := by simpa using h2
        have HS1 : Hid (rowsKO Z F (k + 1) = S ++ [((x : Int), (y : Int), 0, t)]) := Lib.hid (by rw [HS.out, if_pos h1, if_neg h2]; simp)
        clear HS
        go_quiet (fail)
        have HBn := Lib.hid (below_drewN HBX.out nq)
        have HOn := Lib.hid (HOX.out.below (below_drewN (Below.refl _ _) nq))
        have HXn : Hid ((wx.drewN nq).heap[g]? = some _) := HXB
        have dn : (wx.drewN nq).cell? ⟨fb, fx + k, none⟩ = some (.int .i64 u) := d1
        have hszn : w1.heap.size ≤ (wx.drewN nq).heap.size := hszx
        have x0 : (wx.drewN nq).cell? ⟨g, 0, none⟩ = _ := x0
        have x1 : (wx.drewN nq).cell? ⟨g, 1, none⟩ = _ := x1
        have x2 : (wx.drewN nq).cell? ⟨g, 2, none⟩ = _ := x2
        have x3 : (wx.drewN nq).cell? ⟨g, 3, none⟩ = _ := x3
        clear d1 HBX HOX HXB hszx
        generalize wx.drewN nq = wz at *
        go_wp2_with (first
          | (at_builtin; refine wpList_append_link rfl _ _ rfl w1.heap.size _ S (((x : Int), (y : Int), 0, t)) rfl (HOn.out.alloc (.cells #[.int .i64 (x : Int), .int .i64 (y : Int), .int .i64 t] 119)) _ 1 rfl (cells3 _ _ _ (by simp) _ _ _ _ ⟨rfl, rfl, rfl⟩) (by first | exact hroom | (simp; omega)) (by simp; omega) ?_; intro g4 cap4 w4 ho4 hg4 hl4 hb4 hlt4; have HO4 := Lib.hid ho4; have HB4 := Lib.hid (below_grown (HBn.out.alloc hszn (.cells #[.int .i64 (x : Int), .int .i64 (y : Int), .int .i64 t] 119)) (by simp; omega) hg4 (fun g e => own_block HOn.out e)); have hs4 := HB4.out.size; have hx4 := box_grown (kept_box HXn.out ((Below.refl _ wz).alloc (Nat.le_refl _) (.cells #[.int .i64 (x : Int), .int .i64 (y : Int), .int .i64 t] 119))) hg4 (fun k e => by have := HOB.out k e; omega); obtain ⟨fb2, fx2, e, hfb2, d4⟩ := lst_cell (HF.out.below HB4.out) HFU.out; cases e; unfold encI at d4; have y0 := cell_whole hx4 0; have y1 := cell_whole hx4 1; have y3 := cell_whole hx4 3; clear ho4 hg4 hl4 dn x0 x1 x2 x3 hx4))
        go_roundw
        case rel => exact ⟨k + 1, by omega, by go_num, HB4, Lib.hid (by rw [HS1.out]; exact HO4.out)⟩
        case measure => simp [intOf]; omega
      · have g1 : decide (u < c) = false := by simpa using h1
        have g2 : decide (0 < u) = true := by simpa using h2
        have HS1 : Hid (rowsKO Z F (k + 1) = S ++ [((y : Int), (x : Int), 0, -t)]) := Lib.hid (by rw [HS.out, if_neg h1, if_pos h2]; simp)
        clear HS
        go_quiet (fail)
        have HBn := Lib.hid (below_drewN HBX.out nq)
        have HOn := Lib.hid (HOX.out.below (below_drewN (Below.refl _ _) nq))
        have HXn : Hid ((wx.drewN nq).heap[g]? = some _) := HXB
        have dn : (wx.drewN nq).cell? ⟨fb, fx + k, none⟩ = some (.int .i64 u) := d1
        have hszn : w1.heap.size ≤ (wx.drewN nq).heap.size := hszx
        have x0 : (wx.drewN nq).cell? ⟨g, 0, none⟩ = _ := x0
        have x1 : (wx.drewN nq).cell? ⟨g, 1, none⟩ = _ := x1
        have x2 : (wx.drewN nq).cell? ⟨g, 2, none⟩ = _ := x2
        have x3 : (wx.drewN nq).cell? ⟨g, 3, none⟩ = _ := x3
        clear d1 HBX HOX HXB hszx
        generalize wx.drewN nq = wz at *
        go_wp2_with (first
          | (at_builtin; refine wpList_append_link rfl _ _ rfl w1.heap.size _ S (((y : Int), (x : Int), 0, -t)) rfl (HOn.out.alloc (.cells #[.int .i64 (y : Int), .int .i64 (x : Int), .int .i64 (-t)] 119)) _ 1 rfl (cells3 _ _ _ (by simp) _ _ _ _ ⟨rfl, rfl, rfl⟩) (by first | exact hroom | (simp; omega)) (by simp; omega) ?_; intro g5 cap5 w5 ho5 hg5 hl5 hb5 hlt5; have HO5 := Lib.hid ho5; have HB5 := Lib.hid (below_grown (HBn.out.alloc hszn (.cells #[.int .i64 (y : Int), .int .i64 (x : Int), .int .i64 (-t)] 119)) (by simp; omega) hg5 (fun g e => own_block HOn.out e)); clear ho5 hg5 hl5))
        go_roundw
        case rel => exact ⟨k + 1, by omega, by go_num, HB5, Lib.hid (by rw [HS1.out]; exact HO5.out)⟩
        case measure => simp [intOf]; omega
      · have g1 : decide (u < c) = false := by simpa using h1
        have g2 : decide (0 < u) = false := by simpa using h2
        have HS1 : Hid (rowsKO Z F (k + 1) = S) := Lib.hid (by rw [HS.out, if_neg h1, if_neg h2]; simp)
        clear HS
        go_quiet (fail)
        have HBn := Lib.hid (below_drewN HBX.out nq)
        have HOn := Lib.hid (HOX.out.below (below_drewN (Below.refl _ _) nq))
        have HXn : Hid ((wx.drewN nq).heap[g]? = some _) := HXB
        have dn : (wx.drewN nq).cell? ⟨fb, fx + k, none⟩ = some (.int .i64 u) := d1
        have hszn : w1.heap.size ≤ (wx.drewN nq).heap.size := hszx
        have x0 : (wx.drewN nq).cell? ⟨g, 0, none⟩ = _ := x0
        have x1 : (wx.drewN nq).cell? ⟨g, 1, none⟩ = _ := x1
        have x2 : (wx.drewN nq).cell? ⟨g, 2, none⟩ = _ := x2
        have x3 : (wx.drewN nq).cell? ⟨g, 3, none⟩ = _ := x3
        clear d1 HBX HOX HXB hszx
        generalize wx.drewN nq = wz at *
        go_wp2
        go_roundw
        case rel => exact ⟨k + 1, by omega, by go_num, HBn, Lib.hid (by rw [HS1.out]; exact HOn.out)⟩
        case measure => simp [intOf]; omega
    · have hli : ¬ (k : Int) < (Z.length : Int) := by omega
      obtain rfl : k = Z.length := by omega
      subst hlv
      have HB2 := Lib.hid (HB0.out.trans (HB.out.mono HB0.out.size))
      have HRW := Lib.hid (own_mono HO.out HB0.out.size)
      go_wp2
      go_ret
      exact ⟨la, lc, rfl, HRW.out, HB2.out⟩
end
end Go.Proofs.Ytekcnglkfglbfaa

namespace Go.Proofs.Ytekcnglkfglbfaa
open Go.RowKit
set_option linter.unusedVariables false

theorem link_at {w : World} {la : Option Addr} {R : List ArcT} (h : Row encLk 3 w la R) {i : Nat} {a : ArcT} (ha : R[i]? = some a) :
    ∃ b o, la = some ⟨b, o, none⟩ ∧ b < w.heap.size ∧ w.cell? ⟨b, o + i * 3, none⟩ = some (.int .i64 a.1) ∧ w.cell? ⟨b, o + i * 3 + 1, none⟩ = some (.int .i64 a.2.1) ∧ w.cell? ⟨b, o + i * 3 + 2, none⟩ = some (.int .i64 a.2.2.2) := by
  obtain ⟨hi, rfl⟩ := List.getElem?_eq_some_iff.1 ha
  obtain ⟨b, o, e, hb, hc⟩ := h i hi
  exact ⟨b, o, e, hb, hc 0 (by decide), hc 1 (by decide), hc 2 (by decide)⟩
theorem leadR_succ {R : List ArcT} {B : List Bool} {k : Nat} {a : ArcT} (h : R[k]? = some a) : leadR (R.take (k + 1)) B = leadR (R.take k) B ++ if isAt B (frN a) = true then [a] else [] := by
  obtain ⟨hk, rfl⟩ := List.getElem?_eq_some_iff.1 h
  unfold leadR
  rw [List.take_succ_eq_append_getElem hk, List.filter_append]
  congr 1
  by_cases hb : isAt B (frN R[k]) = true
  · rw [if_pos hb]; simp [hb]
  · rw [if_neg hb]; simp [hb]
theorem leadR_len (R : List ArcT) (B : List Bool) : (leadR R B).length ≤ R.length := List.length_filter_le _ _
set_option maxRecDepth 100000 in
set_option maxHeartbeats 4000000 in
theorem oleading_any (R : List ArcT) (B : List Bool) (la ba : Option Addr) (lc bc : Nat) (w : World) (h : Row encLk 3 w la R) (hB : Lst encB w ba B) (hR : ∀ a ∈ R, a.1 = (frN a : Int) ∧ frN a < B.length) (hl : R.length ≤ 2000) :
    Calls Try.prog 66 #[.slice la R.length lc, .slice ba B.length bc] w (LinksV (leadR R B) w) := by
  have HR := Lib.hid h
  have HBO := Lib.hid hB
  have HA := Lib.hid hR
  clear h hB hR
  go_enter Try.func66, Try.ntmps66
  go_wp2
  go_loopw [5, 10] (fun ov i wr => ∃ k : Nat, k ≤ R.length ∧ i = .int .i64 (k : Int) ∧ Hid (Below w.heap.size w wr) ∧ Hid (OwnK wr w.heap.size ov (leadR (R.take k) B))) (fun _ i _ => R.length - (intOf i).toNat)
  case atStart => exact ⟨0, Nat.zero_le _, rfl, Lib.hid (Below.refl _ _), Lib.hid (OwnK.nil _ _)⟩
  case round =>
    obtain ⟨k, hk, rfl, HB, HO⟩ := hrel
    obtain ⟨oa, oc, hlv, _⟩ := HO.out.row
    by_cases hlt : k < R.length
    · have hli : (k : Int) < (R.length : Int) := by omega
      have ha : R[k]? = some R[k] := List.getElem?_eq_getElem hlt
      obtain ⟨h1, hfB⟩ := HA.out _ (List.mem_of_getElem? ha)
      obtain ⟨lb, lx, e, hlb, c0, c1, c2⟩ := link_at (HR.out.below' HB.out) ha
      cases e
      obtain ⟨bb, bx, e, hbb, d0⟩ := lst_cell (HBO.out.below HB.out) (isAt_get hfB)
      cases e
      rw [h1] at c0
      have HS := Lib.hid (leadR_succ (B := B) ha)
      have hlen := leadR_len (R.take k) B
      rw [List.length_take] at hlen
      have hsz := HB.out.size
      unfold encB at d0
      have HAE : Hid (R[k].1 = (frN R[k] : Int)) := Lib.hid h1
      have hfi : (frN R[k] : Int) < (B.length : Int) := by omega
      clear ha h1
      generalize R[k] = a at *
      generalize isAt B (frN a) = q at *
      generalize leadR (R.take k) B = S at *
      have HEQ : Hid (a.1 = (frN a : Int) ∧ a.2.1 = a.2.1 ∧ a.2.2.2 = a.2.2.2) := Lib.hid ⟨HAE.out, rfl, rfl⟩
      obtain ⟨x, hx⟩ : ∃ x, frN a = x := ⟨_, rfl⟩
      obtain ⟨y, hy⟩ : ∃ y, a.2.1 = y := ⟨_, rfl⟩
      obtain ⟨t, ht⟩ : ∃ t, a.2.2.2 = t := ⟨_, rfl⟩
      rw [hx] at c0 d0 hfi HEQ hfB
      rw [hy] at c1
      rw [ht] at c2
      have HE2 : Hid (a.1 = (x : Int) ∧ a.2.1 = y ∧ a.2.2.2 = t) := Lib.hid ⟨HEQ.out.1, hy, ht⟩
      clear hx hy ht HEQ HAE
      subst hlv
      have hroom : S.length ≤ 200000 := by omega
      have d1 := cell_alloc d0 (.cells #[.int .i64 (x : Int), .int .i64 y, .int .i64 t] 119)
      have e0 := cell_new wr #[.int .i64 (x : Int), .int .i64 y, .int .i64 t] 119 0
      have e1 := cell_new wr #[.int .i64 (x : Int), .int .i64 y, .int .i64 t] 119 1
      have e2 := cell_new wr #[.int .i64 (x : Int), .int .i64 y, .int .i64 t] 119 2
      have HBX := Lib.hid (HB.out.alloc hsz (.cells #[.int .i64 (x : Int), .int .i64 y, .int .i64 t] 119))
      have HOX := Lib.hid (HO.out.alloc (.cells #[.int .i64 (x : Int), .int .i64 y, .int .i64 t] 119))
      cases q
      · have HS1 : Hid (leadR (R.take (k + 1)) B = S) := Lib.hid (by rw [HS.out]; simp)
        go_wp2
        go_roundw
        case rel => exact ⟨k + 1, by omega, by go_num, HBX, Lib.hid (by rw [HS1.out]; exact HOX.out)⟩
        case measure => simp [intOf]; omega
      · have HS1 : Hid (leadR (R.take (k + 1)) B = S ++ [a]) := Lib.hid (by rw [HS.out]; simp)
        go_wp2_with (first
          | (at_builtin; refine wpList_append_link rfl _ _ rfl w.heap.size _ S a rfl (HOX.out.alloc (.cells #[.int .i64 (x : Int), .int .i64 y, .int .i64 t] 119)) _ 1 rfl (cells3 _ _ _ (by simp) _ _ _ _ HE2.out) hroom (by simp; omega) ?_; intro g4 cap4 w4 ho4 hg4 hl4 hb4 hlt4; have HO4 := Lib.hid ho4; have HB4 := Lib.hid (below_grown (HBX.out.alloc (by simp; omega) (.cells #[.int .i64 (x : Int), .int .i64 y, .int .i64 t] 119)) (by simp; omega) hg4 (fun g e => own_block HOX.out e)); clear ho4 hg4 hl4))
        go_roundw
        case rel => exact ⟨k + 1, by omega, by go_num, HB4, Lib.hid (by rw [HS1.out]; exact HO4.out)⟩
        case measure => simp [intOf]; omega
    · have hli : ¬ (k : Int) < (R.length : Int) := by omega
      obtain rfl : k = R.length := by omega
      rw [List.take_length] at HO hlv
      subst hlv
      go_wp2
      go_ret
      exact ⟨oa, oc, rfl, HO.out, HB.out⟩
theorem oleading_is (zl zb : Nat) (R : List ArcT) (B : List Bool) (la ba : Option Addr) (lc bc : Nat) (w : World) (hz : R.length = zl) (hzb : B.length = zb) (h : Row encLk 3 w la R) (hB : Lst encB w ba B) (hR : ∀ a ∈ R, a.1 = (frN a : Int) ∧ frN a < B.length) (hl : R.length ≤ 2000) :
    Calls Try.prog 66 #[.slice la zl lc, .slice ba zb bc] w (LinksV (leadR R B) w) := by
  subst hz; subst hzb; exact oleading_any R B la ba lc bc w h hB hR hl
/-! Lists that are filled from the front -/
def partL {α : Type} (l : List α) (z : α) (t : Nat) : List α := l.take t ++ List.replicate (l.length - t) z
theorem partL_zero {α : Type} (l : List α) (z : α) : partL l z 0 = List.replicate l.length z := by simp [partL]
theorem partL_full {α : Type} (l : List α) (z : α) : partL l z l.length = l := by simp [partL]
theorem partL_len {α : Type} (l : List α) (z : α) (t : Nat) (h : t ≤ l.length) : (partL l z t).length = l.length := by simp [partL]; omega
theorem partL_at {α : Type} {l : List α} {z : α} {t : Nat} (h : t < l.length) : (partL l z t)[t]? = some z := by
  unfold partL
  rw [List.getElem?_append_right (by simp; omega), List.length_take, List.getElem?_replicate, if_pos (by omega)]
theorem partL_set {α : Type} {l : List α} {z : α} {t : Nat} (h : t < l.length) : (partL l z t).set t l[t] = partL l z (t + 1) := by
  unfold partL
  rw [List.set_append_right _ _ (by simp; omega), List.length_take, show t - min t l.length = 0 by omega, show l.length - t = (l.length - (t + 1)) + 1 by omega, List.replicate_succ, List.set_cons_zero, List.take_succ_eq_append_getElem h, List.append_assoc]
  rfl
theorem partL_same {α : Type} {l : List α} {z : α} {t : Nat} (h : t < l.length) (e : l[t] = z) : partL l z (t + 1) = partL l z t := by
  unfold partL
  rw [show l.length - t = (l.length - (t + 1)) + 1 by omega, List.replicate_succ, List.take_succ_eq_append_getElem h, e, List.append_assoc]
  rfl
theorem hopsT_get {D : List Int} {t : Nat} (h : t < D.length) : (hopsT D)[t]'(by rw [hopsT_len]; exact h) = if D[t] = -1 then 0 else D[t] * 1048576 := by simp [hopsT]
theorem isLev_get {D : List Int} {t : Nat} (h : t < D.length) : (isLev D)[t]'(by rw [isLev_len]; exact h) = (D[t] != -1) := by simp [isLev]
/-- The two rows of a call's own. -/
structure TwoW (w1 wr : World) (gd gi N : Nat) (P : List Int) (B : List Bool) : Prop where
  below : Below w1.heap.size w1 wr
  dd : OwnL encI wr w1.heap.size 3 (.slice (some ⟨gd, 0, none⟩) N N) P
  ii : OwnL encB wr w1.heap.size 4 (.slice (some ⟨gi, 0, none⟩) N N) B
  ne : gd ≠ gi
section
variable {w1 wr w2 : World} {gd gi N : Nat} {P : List Int} {B : List Bool}
theorem TwoW.lt (h : TwoW w1 wr gd gi N P B) : (w1.heap.size ≤ gd ∧ gd < wr.heap.size) ∧ (w1.heap.size ≤ gi ∧ gi < wr.heap.size) := ⟨own_lt2 h.dd rfl, own_lt2 h.ii rfl⟩
theorem TwoW.next (h : TwoW w1 wr gd gi N P B) (hb : Below wr.heap.size wr w2) : TwoW w1 w2 gd gi N P B := ⟨h.below.trans (hb.mono h.below.size), h.dd.below hb, h.ii.below hb, h.ne⟩
theorem TwoW.upd (h : TwoW w1 wr gd gi N P B) (v : Nat) (y : Int) (q : Bool) : TwoW w1 ((wr.setCell ⟨gd, v, none⟩ (.int .i64 y)).setCell ⟨gi, v, none⟩ (.bool q)) gd gi N (P.set v y) (B.set v q) := by
  have hk1 : Kept (fun i => i = gd) wr (wr.setCell ⟨gd, v, none⟩ (.int .i64 y)) := (Kept.refl (fun i => i = gd) wr).set (.inl rfl) _
  have hk2 : Kept (fun i => i = gi) (wr.setCell ⟨gd, v, none⟩ (.int .i64 y)) ((wr.setCell ⟨gd, v, none⟩ (.int .i64 y)).setCell ⟨gi, v, none⟩ (.bool q)) := (Kept.refl (fun i => i = gi) _).set (.inl rfl) _
  refine ⟨below_set (below_set h.below h.lt.1.1 _) h.lt.2.1 _, ?_, ?_, h.ne⟩
  · refine ownL_kept (h.dd.put v y) hk2 (fun g e => ?_)
    simp [Value.ownBlock] at e
    subst e
    exact h.ne
  · refine (ownL_kept h.ii hk1 (fun g e => ?_)).put v q
    simp [Value.ownBlock] at e
    subst e
    exact fun e => h.ne e.symm
end
theorem two_DI (w1 : World) (N : Nat) (hN : N ≤ 1000) : TwoW w1 ((w1.alloc (.cells (madeCells #[.int .i64 0] N) 3)).alloc (.cells (madeCells #[.bool false] N) 4)) (w1.heap.size) (w1.heap.size + 1) N (List.replicate N 0) (List.replicate N false) :=
  ⟨((Below.refl _ w1).alloc (Nat.le_refl _) _).alloc (by simp) _, (madeI w1 w1.heap.size N (Nat.le_refl _) (by omega)).alloc _, by have := madeB (w1.alloc (.cells (madeCells #[.int .i64 0] N) 3)) w1.heap.size N (by simp) (by omega); simpa using this, by omega⟩
theorem two_ID (w1 : World) (N : Nat) (hN : N ≤ 1000) : TwoW w1 ((w1.alloc (.cells (madeCells #[.bool false] N) 4)).alloc (.cells (madeCells #[.int .i64 0] N) 3)) (w1.heap.size + 1) (w1.heap.size) N (List.replicate N 0) (List.replicate N false) :=
  ⟨((Below.refl _ w1).alloc (Nat.le_refl _) _).alloc (by simp) _, by have := madeI (w1.alloc (.cells (madeCells #[.bool false] N) 4)) w1.heap.size N (by simp) (by omega); simpa using this, (madeB w1 w1.heap.size N (Nat.le_refl _) (by omega)).alloc _, by omega⟩
/-- What bounds tells. -/
def BoundsV (D : List Int) (w : World) (e : Ending) (w' : World) : Prop :=
  ∃ gd gi, e = .returned (.tuple #[.slice (some ⟨gd, 0, none⟩) D.length D.length, .slice (some ⟨gi, 0, none⟩) D.length D.length]) ∧ TwoW w w' gd gi D.length (hopsT D) (isLev D)
set_option maxRecDepth 100000 in
set_option maxHeartbeats 4000000 in
theorem obounds_any (D : List Int) (da : Option Addr) (dc : Nat) (w : World) (hd : Lst encI w da D) (hl : D.length ≤ 50) (hb : ∀ d ∈ D, -1 ≤ d ∧ d ≤ 50) :
    Calls Try.prog 64 #[.slice da D.length dc] w (BoundsV D w) := by
  have HD := Lib.hid hd
  have HBD := Lib.hid hb
  have hmk := fun W => run_make_row' (P := Try.prog) 25 3 (.int .i64 0) 8 Try.underlying25 infoInt rfl .i64 .i64 D.length (by omega) (by omega) W
  have hmk2 := fun W => run_make_row' (P := Try.prog) 90 4 (.bool false) 1 Try.underlying90 infoBool rfl .i64 .i64 D.length (by omega) (by omega) W
  clear hd hb
  go_enter Try.func64, Try.ntmps64
  go_wp2
  go_cut [2, 3] (fun v2 v3 wc => ∃ gd gi, v2 = .slice (some ⟨gd, 0, none⟩) D.length D.length ∧ v3 = .slice (some ⟨gi, 0, none⟩) D.length D.length ∧ Hid (TwoW w wc gd gi D.length (List.replicate D.length 0) (List.replicate D.length false)))
  case first =>
    go_region
    all_goals
      go_wp2
      go_meet
      first
        | exact ⟨_, _, rfl, rfl, Lib.hid ((two_DI _ _ (by omega)).next (below_drew (Below.refl _ _)))⟩
        | exact ⟨_, _, rfl, rfl, Lib.hid ((two_ID _ _ (by omega)).next (below_drew (Below.refl _ _)))⟩
  case rest =>
    obtain ⟨gd, gi, rfl, rfl, HT⟩ := hcut
    clear hmk hmk2
    go_wp2
    go_loopw [14] (fun iv wr => ∃ t : Nat, t ≤ D.length ∧ iv = .int .i64 (t : Int) ∧ Hid (TwoW w wr gd gi D.length (partL (hopsT D) 0 t) (partL (isLev D) false t))) (fun iv _ => D.length - (intOf iv).toNat)
    case atStart => exact ⟨0, Nat.zero_le _, rfl, Lib.hid (by rw [partL_zero, partL_zero, hopsT_len, isLev_len]; exact HT.out)⟩
    case round =>
      clear HT
      obtain ⟨t, ht, rfl, HT⟩ := hrel
      by_cases hlt : t < D.length
      · have hli : (t : Int) < (D.length : Int) := by omega
        have hlh : t < (hopsT D).length := by rw [hopsT_len]; exact hlt
        have hll : t < (isLev D).length := by rw [isLev_len]; exact hlt
        obtain ⟨db, dx, e, hdb, d0⟩ := (HD.out.below HT.out.below) t hlt
        cases e
        obtain ⟨c0, f0⟩ := HT.out.dd.cell (partL_at (z := 0) hlh)
        obtain ⟨c1, f1⟩ := HT.out.ii.cell (partL_at (z := false) hll)
        have hbd := HBD.out _ (List.getElem_mem hlt)
        have hs1 := partL_set (z := 0) hlh
        have hs2 := partL_set (z := false) hll
        have he1 := partL_same (z := 0) hlh
        have he2 := partL_same (z := false) hll
        rw [hopsT_get hlt] at hs1 he1
        rw [isLev_get hlt] at hs2 he2
        unfold encI at d0 c0
        unfold encB at c1
        generalize D[t] = d at *
        have hne : gd ≠ gi := HT.out.ne
        have hne2 : gi ≠ gd := fun e => hne e.symm
        by_cases hd1 : d = -1
        · subst hd1
          have HE1 := Lib.hid (he1 (by simp))
          have HE2 := Lib.hid (he2 (by simp))
          clear hs1 hs2 he1 he2
          go_wp2
          go_roundw
          case rel => exact ⟨t + 1, by omega, by go_num, Lib.hid (by rw [HE1.out, HE2.out]; exact HT.out)⟩
          case measure => simp [intOf]; omega
        · have hdn : (d != -1) = true := by simpa using hd1
          have hwr : IntKind.i64.wrap (d * 1048576) = d * 1048576 := IntWalk.i64_in _ (by omega)
          rw [if_neg hd1] at hs1
          rw [hdn] at hs2
          have HS1 := Lib.hid hs1
          have HS2 := Lib.hid hs2
          have HW := Lib.hid hwr
          clear hs1 hs2 he1 he2 hwr
          have hwr := HW.out
          go_wp2
          go_roundw
          case rel => exact ⟨t + 1, by omega, by go_num, Lib.hid (by rw [← HS1.out, ← HS2.out]; exact HT.out.upd t (d * 1048576) true)⟩
          case measure => simp [intOf]; omega
      · have hli : ¬ (t : Int) < (D.length : Int) := by omega
        obtain rfl : t = D.length := by omega
        have HT2 : Hid (TwoW w wr gd gi D.length (hopsT D) (isLev D)) := Lib.hid (by
          have h1 := partL_full (hopsT D) 0
          have h2 := partL_full (isLev D) false
          rw [hopsT_len] at h1
          rw [isLev_len] at h2
          have := HT.out
          rw [h1, h2] at this
          exact this)
        go_wp2
        go_ret2
        exact ⟨gd, gi, rfl, HT2.out⟩
/-- The program's own test of numbers. -/
def numB (n : Int) (P : List Int) : Bool := decide ((P.length : Int) = n) && potB P
end Go.Proofs.Ytekcnglkfglbfaa

namespace Go.Proofs.Ytekcnglkfglbfaa
open Go.RowKit
set_option linter.unusedVariables false

set_option maxHeartbeats 2000000 in
theorem oistight_at (P : List Int) (po : Option Addr) (pc : Nat) (a : ArcT) (u : Nat) (w : World) (hp : Lst encI w po P) (h1 : a.1 = (frN a : Int)) (h2 : a.2.1 = (toN a : Int)) (hx : frN a < P.length) (hy : toN a < P.length) (hb : BdI P u) (hu : u ≤ 1000000) (ht : -1073741824 ≤ tm a ∧ tm a ≤ 1073741824) :
    Calls Try.prog 74 #[.agg #[.int .i64 a.1, .int .i64 a.2.1, .int .i64 a.2.2.2], .slice po P.length pc] w fun e w' => e = .returned (.bool (tightA P a)) ∧ Below w.heap.size w w' := by
  have hbx := hb (frN a)
  have hby := hb (toN a)
  rw [h1, h2, show a.2.2.2 = tm a from rfl]
  obtain ⟨pb, px, e, hpb, p0⟩ := lst_cell hp (atI_get hx)
  subst e
  obtain ⟨pb2, px2, e, hpb2, p1⟩ := lst_cell hp (atI_get hy)
  cases e
  have hta : tightA P a = decide (atI P (toN a) ≤ atI P (frN a) + tm a) := rfl
  rw [hta]
  unfold encI at p0 p1
  clear hp hb hta h1 h2
  generalize atI P (frN a) = fx at *
  generalize atI P (toN a) = fy at *
  generalize tm a = t at *
  generalize frN a = x at *
  generalize toN a = y at *
  have hxi : (x : Int) < (P.length : Int) := by omega
  have hyi : (y : Int) < (P.length : Int) := by omega
  have hwr : IntKind.i64.wrap (fx + t) = fx + t := IntWalk.i64_in _ (by omega)
  have e0 := cell_alloc p0 (.cells #[.int .i64 (x : Int), .int .i64 (y : Int), .int .i64 t] 119)
  have e1 := cell_alloc p1 (.cells #[.int .i64 (x : Int), .int .i64 (y : Int), .int .i64 t] 119)
  have HB := Lib.hid ((Below.refl _ w).alloc (Nat.le_refl _) (.cells #[.int .i64 (x : Int), .int .i64 (y : Int), .int .i64 t] 119))
  have c0 := cell_new w #[.int .i64 (x : Int), .int .i64 (y : Int), .int .i64 t] 119 0
  have c1 := cell_new w #[.int .i64 (x : Int), .int .i64 (y : Int), .int .i64 t] 119 1
  have c2 := cell_new w #[.int .i64 (x : Int), .int .i64 (y : Int), .int .i64 t] 119 2
  go_enter Try.func74, Try.ntmps74
  go_wp2
  go_quiet (fail)
  go_wp2
  go_ret
  exact ⟨rfl, below_drewN HB.out _⟩
theorem oistight_is (q : Bool) (N : Nat) (P : List Int) (po : Option Addr) (pc : Nat) (a : ArcT) (u : Nat) (w : World) (hN : P.length = N) (hp : Lst encI w po P) (h1 : a.1 = (frN a : Int)) (h2 : a.2.1 = (toN a : Int)) (hx : frN a < N) (hy : toN a < N) (hb : BdI P u) (hu : u ≤ 1000000) (ht : -1073741824 ≤ tm a ∧ tm a ≤ 1073741824) (hq : tightA P a = q) :
    Calls Try.prog 74 #[.agg #[.int .i64 a.1, .int .i64 a.2.1, .int .i64 a.2.2.2], .slice po N pc] w fun e w' => e = .returned (.bool q) ∧ Below w.heap.size w w' := by
  subst hq; subst hN; exact oistight_at P po pc a u w hp h1 h2 hx hy hb hu ht
/-- The times that are a call's to write, and the steps. -/
structure TW (w0 w : World) (B gd N : Nat) (P : List Int) (la : Option Addr) (R : List ArcT) : Prop where
  len : P.length = N
  own : OwnL encI w B 3 (.slice (some ⟨gd, 0, none⟩) N N) P
  row : Row encLk 3 w la R
  off : ∀ ad, la = some ad → 0 < R.length → ad.block ≠ gd
  kept : Kept (fun i => i = gd) w0 w
section
variable {w0 w w2 : World} {B gd N : Nat} {P : List Int} {la : Option Addr} {R : List ArcT}
theorem TW.next (h : TW w0 w B gd N P la R) (hb : Below w.heap.size w w2) : TW w0 w2 B gd N P la R :=
  ⟨h.len, h.own.below hb, h.row.below' hb, h.off, h.kept.trans (Kept.of_below (S := fun i => i = gd) hb) (fun i _ e => e)⟩
theorem TW.lt (h : TW w0 w B gd N P la R) : gd < w.heap.size := (own_lt2 h.own rfl).2
theorem TW.upd (h : TW w0 w B gd N P la R) (v : Nat) (y : Int) : TW w0 (w.setCell ⟨gd, v, none⟩ (.int .i64 y)) B gd N (P.set v y) la R := by
  have hk : Kept (fun i => i = gd) w (w.setCell ⟨gd, v, none⟩ (.int .i64 y)) := (Kept.refl (fun i => i = gd) w).set (.inl rfl) _
  exact ⟨by rw [List.length_set]; exact h.len, h.own.put v y, rowOffO h.row hk (fun ad e hl => h.off ad e hl), h.off, h.kept.set (.inl rfl) _⟩
theorem TW.time (h : TW w0 w B gd N P la R) {v : Nat} (hv : v < N) : w.cell? ⟨gd, v, none⟩ = some (.int .i64 (atI P v)) ∧ w.frozen? ⟨gd, v, none⟩ = false := h.own.cell (atI_get (by rw [h.len]; exact hv))
theorem TW.lst (h : TW w0 w B gd N P la R) : Lst encI w (some ⟨gd, 0, none⟩) P := h.own.lstK
theorem TW.drop (h : TW w0 w B gd N P la R) {lb lx k : Nat} (e : la = some ⟨lb, lx, none⟩) (hk : k ≤ R.length) : TW w w B gd N P (some ⟨lb, lx + k * 3, none⟩) (R.drop k) := by
  refine ⟨h.len, h.own, fun i hi => ?_, fun ad e2 hl => ?_, Kept.refl _ _⟩
  · rw [List.length_drop] at hi
    obtain ⟨b, o, e3, hb, hc⟩ := h.row (k + i) (by omega)
    rw [e] at e3
    cases e3
    refine ⟨lb, lx + k * 3, rfl, hb, fun j hj => ?_⟩
    rw [List.getElem_drop, show lx + k * 3 + i * 3 + j = lx + (k + i) * 3 + j by omega]
    exact hc j hj
  · cases e2
    rw [List.length_drop] at hl
    exact h.off ⟨lb, lx, none⟩ e (by omega)
theorem TW.back (h : TW w0 w B gd N P la R) {P2 : List Int} {lb : Option Addr} {R2 : List ArcT} (k : TW w w2 B gd N P2 lb R2) : TW w0 w2 B gd N P2 la R :=
  ⟨k.len, k.own, rowOffO h.row k.kept (fun ad e hl => h.off ad e hl), h.off, h.kept.trans k.kept (fun i _ e => e)⟩
end
/-- A step's ends and time. -/
def LinkOk (N : Nat) (a : ArcT) : Prop := (a.1 = (frN a : Int) ∧ a.2.1 = (toN a : Int)) ∧ (frN a < N ∧ toN a < N) ∧ -1073741824 ≤ tm a ∧ tm a ≤ 1073741824
set_option maxRecDepth 100000 in
set_option maxHeartbeats 4000000 in
theorem odecrease_at (B gd N : Nat) (P : List Int) (la : Option Addr) (lc : Nat) (R : List ArcT) (u : Nat) (w : World) (h : TW w w B gd N P la R) (hR : ∀ a ∈ R, LinkOk N a) (hN : N ≤ 1000) (hl : R.length ≤ 2000) (hb : BdI P u) (hu : u ≤ 900000) :
    Calls Try.prog 75 #[.slice (some ⟨gd, 0, none⟩) N N, .slice la R.length lc] w fun e w' => e = .returned (.tuple #[]) ∧ TW w w' B gd N (relAllI P R) la R := by
  have H := Lib.hid h
  have HA := Lib.hid hR
  have HBD := Lib.hid hb
  clear h hR hb
  go_enter Try.func75, Try.ntmps75
  go_wp2
  go_loopw [8] (fun iv wr => ∃ i : Nat, i ≤ R.length ∧ iv = .int .i64 (i : Int) ∧ Hid (TW w wr B gd N (relAllI P (R.take i)) la R) ∧ Hid (BdI (relAllI P (R.take i)) (u + i))) (fun iv _ => R.length - (intOf iv).toNat)
  case atStart => exact ⟨0, Nat.zero_le _, rfl, H, HBD⟩
  case round =>
    clear H HBD
    obtain ⟨i, hi, rfl, H, HBD⟩ := hrel
    by_cases hlt : i < R.length
    · have hli : (i : Int) < (R.length : Int) := by omega
      have ha : R[i]? = some R[i] := List.getElem?_eq_getElem hlt
      obtain ⟨⟨h1, h2⟩, ⟨hf, ht⟩, hti⟩ := HA.out _ (List.mem_of_getElem? ha)
      obtain ⟨lb, lx, e, hlb, c0, c1, c2⟩ := link_at H.out.row ha
      cases e
      rw [h1] at c0
      rw [h2] at c1
      rw [show R[i].2.2.2 = tm R[i] from rfl] at c2
      have hst : relAllI P (R.take (i + 1)) = relI (relAllI P (R.take i)) R[i] := by
        rw [List.take_succ_eq_append_getElem hlt, relAllI_snoc]
      have hbn : BdI (relAllI P (R.take (i + 1))) (u + (i + 1)) := by
        rw [hst]
        exact HBD.out.rel hti (by rw [H.out.len]; exact ht)
      have hrl : relI (relAllI P (R.take i)) R[i] = (relAllI P (R.take i)).set (toN R[i]) (min (atI (relAllI P (R.take i)) (toN R[i])) (atI (relAllI P (R.take i)) (frN R[i]) + tm R[i])) := rfl
      rw [hrl, show min (atI (relAllI P (R.take i)) (toN R[i])) (atI (relAllI P (R.take i)) (frN R[i]) + tm R[i]) = if atI (relAllI P (R.take i)) (frN R[i]) + tm R[i] < atI (relAllI P (R.take i)) (toN R[i]) then atI (relAllI P (R.take i)) (frN R[i]) + tm R[i] else atI (relAllI P (R.take i)) (toN R[i]) by split <;> omega] at hst
      have HST := Lib.hid hst
      have HBN := Lib.hid hbn
      obtain ⟨t0, f0⟩ := H.out.time hf
      obtain ⟨t1, f1⟩ := H.out.time ht
      have hbx := HBD.out (frN R[i])
      have hby := HBD.out (toN R[i])
      clear h1 h2 ha hst hbn hrl
      generalize R[i] = a at *
      generalize relAllI P (R.take i) = P1 at *
      generalize atI P1 (frN a) = fx at *
      generalize atI P1 (toN a) = fy at *
      generalize tm a = t at *
      generalize frN a = x at *
      generalize toN a = y at *
      have hxi : (x : Int) < (N : Int) := by omega
      have hyi : (y : Int) < (N : Int) := by omega
      have hwr : IntKind.i64.wrap (fx + t) = fx + t := IntWalk.i64_in _ (by omega)
      have HX := Lib.hid (H.out.next ((Below.refl _ wr).alloc (Nat.le_refl _) (.cells #[.int .i64 (x : Int), .int .i64 (y : Int), .int .i64 t] 119)))
      have x0 := cell_new wr #[.int .i64 (x : Int), .int .i64 (y : Int), .int .i64 t] 119 0
      have x1 := cell_new wr #[.int .i64 (x : Int), .int .i64 (y : Int), .int .i64 t] 119 1
      have x2 := cell_new wr #[.int .i64 (x : Int), .int .i64 (y : Int), .int .i64 t] 119 2
      have t0 := cell_alloc t0 (.cells #[.int .i64 (x : Int), .int .i64 (y : Int), .int .i64 t] 119)
      have t1 := cell_alloc t1 (.cells #[.int .i64 (x : Int), .int .i64 (y : Int), .int .i64 t] 119)
      have f1 := (HX.out.time ht).2
      go_wp2_with fail
      clear c0 c1 c2 H f0
      generalize wr.alloc (.cells #[.int .i64 (x : Int), .int .i64 (y : Int), .int .i64 t] 119) = wx at *
      go_region
      all_goals
        go_wp2
        go_roundw
        case rel => exact ⟨i + 1, by omega, by go_num, Lib.hid (by rw [HST.out]; exact (HX.out.upd y (if fx + t < fy then fx + t else fy)).next (below_drew (Below.refl _ _))), HBN⟩
        case measure => simp [intOf]; omega
    · have hli : ¬ (i : Int) < (R.length : Int) := by omega
      obtain rfl : i = R.length := by omega
      have H2 := H.out
      rw [List.take_length] at H2
      have HH := Lib.hid H2
      clear H2
      go_wp2
      refine bodyPost_end (results_none rfl _ _ _) rfl ?_
      exact ⟨rfl, HH.out⟩
theorem odecrease_is (zl : Nat) (B gd N : Nat) (P : List Int) (la : Option Addr) (lc : Nat) (R : List ArcT) (u : Nat) (w : World) (hz : R.length = zl) (h : TW w w B gd N P la R) (hR : ∀ a ∈ R, LinkOk N a) (hN : N ≤ 1000) (hl : R.length ≤ 2000) (hb : BdI P u) (hu : u ≤ 900000) :
    Calls Try.prog 75 #[.slice (some ⟨gd, 0, none⟩) N N, .slice la zl lc] w fun e w' => e = .returned (.tuple #[]) ∧ TW w w' B gd N (relAllI P R) la R := by
  subst hz; exact odecrease_at B gd N P la lc R u w h hR hN hl hb hu
set_option maxRecDepth 100000 in
set_option maxHeartbeats 4000000 in
theorem osettle_at (B gd N : Nat) (P : List Int) (la : Option Addr) (lc : Nat) (R : List ArcT) (u : Nat) (w : World) (h : TW w w B gd N P la R) (hR : ∀ a ∈ R, LinkOk N a) (hN : N ≤ 100) (hl : R.length ≤ 2000) (hlc : R.length ≤ lc) (hb : BdI P u) (hu : u ≤ 1000) :
    Calls Try.prog 65 #[.slice (some ⟨gd, 0, none⟩) N N, .slice la R.length lc] w fun e w' => ∃ q Q, e = .returned (.bool q) ∧ SetIs R P q Q ∧ TW w w' B gd N Q la R := by
  have H := Lib.hid h
  have HA := Lib.hid hR
  have HLN := Lib.hid h.len
  have HBD := Lib.hid (fun k => hb.it (R := R) (fun a ha => ⟨(hR a ha).2.2, by rw [h.len]; exact (hR a ha).2.1.2⟩) k)
  clear h hR hb
  go_enter Try.func65, Try.ntmps65
  go_wp2
  go_step3
  go_wp2
  go_step3
  go_wp2
  go_loopg [9] (N + 1) (fun k iv wr => ∃ m : Nat, m ≤ N ∧ iv = .int .i64 (m : Int) ∧ Hid (k = N + 1 - m) ∧ Hid (TW w wr B gd N (itI R P m) la R) ∧ Hid (∀ j, j < m → ∃ a ∈ R, tightA (itI R P j) a = false))
  case atStart => exact ⟨0, Nat.zero_le _, rfl, Lib.hid rfl, H, Lib.hid (fun j h => by omega)⟩
  case round =>
    clear H
    obtain ⟨m, hm, rfl, HK, H, HF⟩ := hrel
    obtain ⟨gk0, hgk⟩ : ∃ gk0, gk0 = gk := ⟨_, rfl⟩
    subst hgk
    by_cases hmN : m < N
    · have hmi : (m : Int) < (N : Int) := by omega
      have HBM := Lib.hid (HBD.out m)
      have HKL : Hid (m * R.length ≤ 200000) := Lib.hid (Nat.mul_le_mul (by omega : m ≤ 100) hl)
      have HLP : Hid ((itI R P m).length = N) := Lib.hid (by rw [itI_len]; exact HLN.out)
      have HNX : Hid (itI R P (m + 1) = relAllI (itI R P m) R) := Lib.hid rfl
      obtain ⟨P1, hp1⟩ : ∃ P1, itI R P m = P1 := ⟨_, rfl⟩
      rw [hp1] at HBM HLP HNX H
      have HP1 := Lib.hid hp1
      clear hp1
      go_wp2
      go_loopg [13] (R.length + 1) (fun k jv wi => ∃ i : Nat, i ≤ R.length ∧ jv = .int .i64 (i : Int) ∧ Hid (k = R.length + 1 - i) ∧ Hid (TW w wi B gd N P1 la R) ∧ Hid (∀ a ∈ R.take i, tightA P1 a = true))
      case atStart => exact ⟨0, Nat.zero_le _, rfl, Lib.hid rfl, H, Lib.hid (fun a ha => by simp at ha)⟩
      case round =>
        clear H
        obtain ⟨i, hi, rfl, HK2, H, HT⟩ := hrel
        by_cases hlt : i < R.length
        · have hli : (i : Int) < (R.length : Int) := by omega
          have ha : R[i]? = some R[i] := List.getElem?_eq_getElem hlt
          have HOK := Lib.hid (HA.out _ (List.mem_of_getElem? ha))
          obtain ⟨lb, lx, e, hlb, c0, c1, c2⟩ := link_at H.out.row ha
          cases e
          have HAI := Lib.hid ha
          have HTK : Hid (R.take (i + 1) = R.take i ++ [R[i]]) := Lib.hid (List.take_succ_eq_append_getElem hlt)
          have HMEM : Hid (R[i] ∈ R) := Lib.hid (List.getElem_mem hlt)
          have hu2 : u + m * R.length ≤ 300000 := by have := HKL.out; omega
          obtain ⟨q, hq⟩ : ∃ q, tightA P1 R[i] = q := ⟨_, rfl⟩
          have HQ := Lib.hid hq
          have HX := Lib.hid (H.out.next ((Below.refl _ wr).alloc (Nat.le_refl _) (.cells #[.int .i64 R[i].1, .int .i64 R[i].2.1, .int .i64 R[i].2.2.2] 119)))
          clear ha hq
          generalize R[i] = a at *
          cases q
          · have hlci : ¬ lc = i := by omega
            have HU : Hid (∃ a ∈ R, tightA P1 a = false) := Lib.hid ⟨a, HMEM.out, HQ.out⟩
            have HDR : Hid (relAllI P1 (R.drop i) = itI R P (m + 1)) := Lib.hid (by rw [HNX.out]; exact relAllI_drop HT.out)
            have HDL : Hid ((R.drop i).length = R.length - i) := Lib.hid (List.length_drop)
            have HLD : Hid (∀ a ∈ R.drop i, LinkOk N a) := Lib.hid (fun a ha => HA.out a (List.mem_of_mem_drop ha))
            go_wp2_with (first
              | (go_at_call 74; refine (oistight_is false N P1 (some ⟨gd, 0, none⟩) N a (u + m * R.length) _ HLP.out HX.out.lst HOK.out.1.1 HOK.out.1.2 HOK.out.2.1.1 HOK.out.2.1.2 HBM.out (by omega) HOK.out.2.2 HQ.out).mono ?_; rintro e w5 ⟨rfl, hb5⟩; have HX5 := Lib.hid (HX.out.next hb5); clear hb5)
              | (go_at_call 75; refine (odecrease_is (R.length - i) B gd N P1 (some ⟨lb, lx + i * 3, none⟩) (lc - i) (R.drop i) (u + m * R.length) _ HDL.out (HX5.out.drop rfl hi) HLD.out (by omega) (by rw [HDL.out]; omega) HBM.out (by omega)).mono ?_; rintro e w6 ⟨rfl, hk6⟩; rw [HDR.out] at hk6; have HX6 := Lib.hid (HX5.out.back hk6); clear hk6))
            go_roundg (N + 1 - (m + 1))
            case measure => have := HK.out; omega
            case rel => exact ⟨m + 1, by omega, by go_num, Lib.hid rfl, HX6, Lib.hid (fun j hj => by
              by_cases e : j = m
              · subst e; rw [HP1.out]; exact HU.out
              · exact HF.out j (by omega))⟩
          · have HT2 : Hid (∀ b ∈ R.take (i + 1), tightA P1 b = true) := Lib.hid (fun b hb => by
              rw [HTK.out] at hb
              rcases List.mem_append.1 hb with hb | hb
              · exact HT.out b hb
              · rw [List.mem_singleton] at hb; subst hb; exact HQ.out)
            go_wp2_with (first
              | (go_at_call 74; refine (oistight_is true N P1 (some ⟨gd, 0, none⟩) N a (u + m * R.length) _ HLP.out HX.out.lst HOK.out.1.1 HOK.out.1.2 HOK.out.2.1.1 HOK.out.2.1.2 HBM.out (by omega) HOK.out.2.2 HQ.out).mono ?_; rintro e w5 ⟨rfl, hb5⟩; have HX5 := Lib.hid (HX.out.next hb5); clear hb5))
            go_roundg (R.length + 1 - (i + 1))
            case measure => have := HK2.out; omega
            case rel => exact ⟨i + 1, by omega, by go_num, Lib.hid rfl, HX5, HT2⟩
        · have hli : ¬ (i : Int) < (R.length : Int) := by omega
          obtain rfl : i = R.length := by omega
          have HT2 : Hid (∀ b ∈ R, tightA P1 b = true) := Lib.hid (by have := HT.out; rwa [List.take_length] at this)
          go_wp2
          try rw [Exit.noGoto_ret]
          go_ret
          exact ⟨true, P1, rfl, ⟨m, by rw [HLN.out]; exact hm, HP1.out.symm, fun _ => HT2.out, fun h => by cases h⟩, H.out⟩
    · have hmi : ¬ (m : Int) < (N : Int) := by omega
      obtain rfl : m = N := by omega
      go_wp2
      try rw [Exit.noGoto_ret]
      go_ret
      exact ⟨false, _, rfl, ⟨m, by rw [HLN.out]; exact Nat.le_refl _, rfl, (fun h => by cases h), fun _ j hj => HF.out j (by rw [HLN.out] at hj; exact hj)⟩, H.out⟩
end Go.Proofs.Ytekcnglkfglbfaa
