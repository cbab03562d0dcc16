/- Package cost's links, leading, bounds and areNumbers. -/
import Derived.Test.YtfklkcnopngpgaaOSet
import Derived.Test.YtfklkcnopngpgaaBB
namespace Go.Proofs.Ytfklkcnopngpgaa
open Go.RowKit
set_option linter.unusedVariables false

def encLk (a : ArcT) : List Value := [.int .i64 a.1, .int .i64 a.2.1, .int .i64 a.2.2.2]
theorem encLk_len (z : ArcT) : (encLk z).length = 3 := rfl
theorem encLk_one (z : ArcT) : ∀ u ∈ encLk z, u.oneCell' = true := by intro u hu; simp [encLk] at hu; rcases hu with rfl | rfl | rfl <;> rfl
theorem infoLink : (Try.prog.info? 64).map (fun i => (i.zero, i.size, i.bytes)) = some (some (.agg #[.int .i64 0, .int .i64 0, .int .i64 0]), 3, 24) := by kernel_rfl
/-- A row of links of a call's own. -/
def OwnK (w : World) (base : Nat) (v : Value) (L : List ArcT) : Prop := w.ownsRow base 64 3 v L.length (L.flatMap encLk)
theorem OwnK.nil (w : World) (base : Nat) : OwnK w base (.slice none 0 0) [] := World.ownsRow_nil _ _ _ _
theorem OwnK.below {w w' : World} {base : Nat} {v : Value} {L : List ArcT} (h : OwnK w base v L) (hb : Below w.heap.size w w') : OwnK w' base v L := own_below h hb
theorem OwnK.alloc {w : World} {base : Nat} {v : Value} {L : List ArcT} (h : OwnK w base v L) (o : Obj) : OwnK (w.alloc o) base v L := World.ownsRow.alloc h o
theorem OwnK.row {w : World} {base : Nat} {v : Value} {L : List ArcT} (h : OwnK w base v L) : ∃ ao cap, v = .slice ao L.length cap ∧ Row encLk 3 w ao L := own_row encLk_len h
theorem OwnK.old {w : World} {base : Nat} {v : Value} {L : List ArcT} (h : OwnK w base v L) {g : Nat} (e : v.ownBlock = some g) : g < w.heap.size := own_lt h e
theorem OwnK.facts {w : World} {base n c : Nat} {a : Option Addr} {L : List ArcT} (h : OwnK w base (.slice a n c) L) : Row encLk 3 w a L ∧ L.length ≤ c ∧ ∀ ad, a = some ad → base ≤ ad.block ∧ ad.block < w.heap.size := by
  refine ⟨own_rowK encLk_len h, ?_, ?_⟩
  · rcases h.2 with ⟨e1, h0⟩ | ⟨g, cap', cur, e1, hb, hg, h1, h2, h3, h4⟩
    · omega
    · cases e1; exact h1
  · intro ad hd
    subst hd
    rcases h.2 with ⟨e1, h0⟩ | ⟨g, cap', cur, e1, hb, hg, h1, h2, h3, h4⟩
    · cases e1
    · cases e1; exact ⟨hb, lt_whole hg⟩
theorem cells3 (w : World) (t : TypeId) (g : Nat) (hg : w.heap.size = g) (x y z : Int) (a : ArcT) (ha : a.1 = x ∧ a.2.1 = y ∧ a.2.2.2 = z) : ∀ j, j < 3 → (w.alloc (.cells #[.int .i64 x, .int .i64 y, .int .i64 z] t)).cell? ⟨g, j, none⟩ = (encLk a)[j]? := by
  intro j hj
  obtain ⟨rfl, rfl, rfl⟩ := ha
  rw [cell_new' hg]
  match j, hj with
  | 0, _ => rfl
  | 1, _ => rfl
  | 2, _ => rfl
/-- One link is appended. -/
theorem wpList_append_link {w : World} {ops : Array Oper} {rest : List Oper} {o : Oper} {a : Act} {Q : Exit → Act → World → Prop} (hgd : o.guard = none) (s y : Operand)
    (ho : o.op = .call { callee := .builtin .append, args := #[s, y], argTypes := #[52, 52] })
    (base : Nat) (v : Value) (A : List ArcT) (x : ArcT) (hs : a.eval s = v) (hown : OwnK w base v A) (gs : Nat) (c : Nat) (hx : a.eval y = .slice (some ⟨gs, 0, none⟩) 1 c) (hc : ∀ j, j < 3 → w.cell? ⟨gs, j, none⟩ = (encLk x)[j]?)
    (hroom : A.length ≤ 200000) (hbase : base ≤ w.heap.size)
    (hK : ∀ g cap w', OwnK w' base (.slice (some ⟨g, 0, none⟩) (A.length + 1) cap) (A ++ [x]) → w.grownBy w' v.ownBlock → (v.ownBlock = some g ∨ g = w.heap.size) → base ≤ g → g < w'.heap.size → wpList Try.prog ops Q rest (a.put o.dst (.slice (some ⟨g, 0, none⟩) (A.length + 1) cap)) w') : wpList Try.prog ops Q (o :: rest) a w :=
  wpList_append_row (enc := encLk) Try.underlying52 infoLink rfl (by omega) (by omega) encLk_len hgd s y ho base v A x (encLk_one x) hs hown gs c hx hc hroom hbase hK
/-- A box that lies above the row's block stays, when the row grows. -/
theorem box_grown {w w' : World} {row : Option Nat} {g : Nat} {o : Obj} (h : w.heap[g]? = some o) (hg : w.grownBy w' row) (hn : ∀ k, row = some k → k ≠ g) : w'.heap[g]? = some o :=
  (Kept.of_grown (S := fun i => row = some i) hg (fun k e => e)).old h (fun e => hn g e rfl)
/-- What Links tells. -/
def LinksV (L : List ArcT) (w : World) (e : Ending) (w' : World) : Prop := ∃ a c, e = .returned (.slice a L.length c) ∧ OwnK w' w.heap.size (.slice a L.length c) L ∧ Below w.heap.size w w'
def rowsK (Z : List ArcT) (F : List Int) (i : Nat) : List ArcT := (stepsK Z F i).map (rowS Z)
theorem rowsK_full (Z : List ArcT) (F : List Int) : rowsK Z F Z.length = rowsR Z F := rfl
theorem rowsK_zero (Z : List ArcT) (F : List Int) : rowsK Z F 0 = [] := rfl
theorem rowsK_len (Z : List ArcT) (F : List Int) (i : Nat) : (rowsK Z F i).length ≤ 2 * i := by unfold rowsK; rw [List.length_map]; exact stepsK_len Z F i
theorem rowsK_succ {Z : List ArcT} {F : List Int} {i : Nat} {a : ArcT} (h : Z[i]? = some a) : rowsK Z F (i + 1) = rowsK Z F i ++ ((if atI F i < capN a then [((frN a : Int), (toN a : Int), 0, tm a)] else []) ++ (if 0 < atI F i then [((toN a : Int), (frN a : Int), 0, - tm a)] else [])) := by
  unfold rowsK
  rw [stepsK_succ h, List.map_append]
  congr 1
  unfold stepOf
  rw [List.map_append]
  have e := fun q => arcOf_nat (Z := Z) q h
  congr 1
  · split
    · simp only [List.map_cons, List.map_nil]
      unfold rowS fromS toS tmS
      rw [e]
      rfl
    · rfl
  · split
    · simp only [List.map_cons, List.map_nil]
      unfold rowS fromS toS tmS
      rw [e]
      rfl
    · rfl
section
variable (n : Int) (b : Bool) (ao fo : Option Addr) (cap fc : Nat) (Z : List ArcT) (F : List Int)
set_option maxRecDepth 100000 in
set_option maxHeartbeats 4000000 in
theorem olinks_any {N : Nat} (w : World) (h : Row encA 4 w ao Z) (hf : Lst encI w fo F) (hfl : F.length = Z.length) (hT : TimeNet Z N) :
    Calls Try.prog 28 #[.agg #[.int .i64 n, .bool b, .slice ao Z.length cap], .slice fo F.length fc] w (LinksV (rowsR Z F) w) := by
  have HL := Lib.hid hfl
  have HTN := Lib.hid hT
  have hz := hT.len
  have hb00 := (Below.refl _ w).alloc (Nat.le_refl _) (.cells #[.int .i64 n, .bool b, .slice ao Z.length cap] 24)
  have HB0 := Lib.hid hb00
  have cc := cell_new w #[.int .i64 n, .bool b, .slice ao Z.length cap] 24 2
  have HR := Lib.hid (h.below' hb00)
  have HF := Lib.hid (hf.below hb00)
  clear h hf hb00 hfl hT
  go_enter Try.func28, Try.ntmps28
  go_wp2
  generalize w.alloc (.cells #[.int .i64 n, .bool b, .slice ao Z.length cap] 24) = w1 at *
  go_loopw [5, 11] (fun ov i wr => ∃ k : Nat, k ≤ Z.length ∧ i = .int .i64 (k : Int) ∧ Hid (Below w1.heap.size w1 wr) ∧ Hid (OwnK wr w1.heap.size ov (rowsK Z F k))) (fun _ i _ => Z.length - (intOf i).toNat)
  case atStart => exact ⟨0, Nat.zero_le _, rfl, Lib.hid (Below.refl _ _), Lib.hid (OwnK.nil _ _)⟩
  case round =>
    obtain ⟨k, hk, rfl, HB, HO⟩ := hrel
    obtain ⟨la, lc, hlv, _⟩ := HO.out.row
    by_cases hlt : k < Z.length
    · have hli : (k : Int) < (Z.length : Int) := by omega
      have hlf : k < F.length := by rw [HL.out]; exact hlt
      have hlfi : (k : Int) < (F.length : Int) := by omega
      have ha : Z[k]? = some Z[k] := List.getElem?_eq_getElem hlt
      have hmem := List.mem_of_getElem? ha
      obtain ⟨h1, h2⟩ := HTN.out.ends _ hmem
      have hti := HTN.out.times _ hmem
      obtain ⟨ab, ax, e, hab, c0, c1, c2, c3⟩ := arc_at (HR.out.below' HB.out) ha
      cases e
      obtain ⟨fb, fx, e, hfb, d0⟩ := lst_cell (HF.out.below HB.out) (atI_get (d := F) (v := k) hlf)
      cases e
      rw [h1] at c0
      rw [h2] at c1
      have HS := Lib.hid (rowsK_succ (F := F) ha)
      have hlen := rowsK_len Z F k
      have hsz := HB.out.size
      unfold encI at d0
      unfold capN tm at HS
      unfold tm at hti
      have HFU := Lib.hid (atI_get (d := F) (v := k) hlf)
      clear ha hmem h1 h2
      generalize Z[k] = a at *
      generalize a.2.2.1 = c at *
      generalize a.2.2.2 = t at *
      generalize frN a = x at *
      generalize toN a = y at *
      generalize atI F k = u at *
      generalize rowsK Z F k = S at *
      subst hlv
      have HOB : Hid (∀ g, (Value.slice la S.length lc).ownBlock = some g → g < wr.heap.size) := Lib.hid (fun g e => HO.out.old e)
      have hnt : IntKind.i64.wrap (-t) = -t := IntWalk.i64_in _ (by omega)
      have hroom : S.length ≤ 200000 := by omega
      have d1 := cell_alloc d0 (.cells #[.int .i64 (x : Int), .int .i64 (y : Int), .int .i64 c, .int .i64 t] 61)
      have HXB := Lib.hid (heap_alloc_new wr (.cells #[.int .i64 (x : Int), .int .i64 (y : Int), .int .i64 c, .int .i64 t] 61))
      have HBX := Lib.hid (HB.out.alloc hsz (.cells #[.int .i64 (x : Int), .int .i64 (y : Int), .int .i64 c, .int .i64 t] 61))
      have HOX := Lib.hid (HO.out.alloc (.cells #[.int .i64 (x : Int), .int .i64 (y : Int), .int .i64 c, .int .i64 t] 61))
      go_wp2_with fail
      obtain ⟨g, hg⟩ : ∃ g, wr.heap.size = g := ⟨_, rfl⟩
      rw [hg] at HXB HOB hsz ⊢
      have hszx : w1.heap.size ≤ (wr.alloc (.cells #[.int .i64 (x : Int), .int .i64 (y : Int), .int .i64 c, .int .i64 t] 61)).heap.size := by simp; omega
      generalize wr.alloc (.cells #[.int .i64 (x : Int), .int .i64 (y : Int), .int .i64 c, .int .i64 t] 61) = wx at *
      have x0 := cell_whole HXB.out 0
      have x1 := cell_whole HXB.out 1
      have x2 := cell_whole HXB.out 2
      have x3 := cell_whole HXB.out 3
      clear c0 c1 c2 c3 d0 HB HO
      by_cases h1 : u < c <;> by_cases h2 : 0 < u
      · have g1 : decide (u < c) = true := by simpa using h1
        have g2 : decide (0 < u) = true := by simpa using h2
        have HS1 : Hid (rowsK Z F (k + 1) = (S ++ [((x : Int), (y : Int), 0, t)]) ++ [((y : Int), (x : Int), 0, -t)]) := Lib.hid (by rw [HS.out, if_pos h1, if_pos h2]; simp)
        clear HS
        go_quiet (fail)
        have HBn := Lib.hid (below_drewN HBX.out nq)
        have HOn := Lib.hid (HOX.out.below (below_drewN (Below.refl _ _) nq))
        have HXn : Hid ((wx.drewN nq).heap[g]? = some _) := HXB
        have dn : (wx.drewN nq).cell? ⟨fb, fx + k, none⟩ = some (.int .i64 u) := d1
        have hszn : w1.heap.size ≤ (wx.drewN nq).heap.size := hszx
        have x0 : (wx.drewN nq).cell? ⟨g, 0, none⟩ = _ := x0
        have x1 : (wx.drewN nq).cell? ⟨g, 1, none⟩ = _ := x1
        have x2 : (wx.drewN nq).cell? ⟨g, 2, none⟩ = _ := x2
        have x3 : (wx.drewN nq).cell? ⟨g, 3, none⟩ = _ := x3
        clear d1 HBX HOX HXB hszx
        generalize wx.drewN nq = wz at *
        go_wp2_with (first
          | (at_builtin; refine wpList_append_link rfl _ _ rfl w1.heap.size _ S (((x : Int), (y : Int), 0, t)) rfl (HOn.out.alloc (.cells #[.int .i64 (x : Int), .int .i64 (y : Int), .int .i64 t] 64)) _ 1 rfl (cells3 _ _ _ (by simp) _ _ _ _ ⟨rfl, rfl, rfl⟩) (by first | exact hroom | (simp; omega)) (by simp; omega) ?_; intro g4 cap4 w4 ho4 hg4 hl4 hb4 hlt4; have HO4 := Lib.hid ho4; have HB4 := Lib.hid (below_grown (HBn.out.alloc hszn (.cells #[.int .i64 (x : Int), .int .i64 (y : Int), .int .i64 t] 64)) (by simp; omega) hg4 (fun g e => own_block HOn.out e)); have hs4 := HB4.out.size; have hx4 := box_grown (kept_box HXn.out ((Below.refl _ wz).alloc (Nat.le_refl _) (.cells #[.int .i64 (x : Int), .int .i64 (y : Int), .int .i64 t] 64))) hg4 (fun k e => by have := HOB.out k e; omega); obtain ⟨fb2, fx2, e, hfb2, d4⟩ := lst_cell (HF.out.below HB4.out) HFU.out; cases e; unfold encI at d4; have y0 := cell_whole hx4 0; have y1 := cell_whole hx4 1; have y3 := cell_whole hx4 3; clear ho4 hg4 hl4 dn x0 x1 x2 x3 hx4)
          | (at_builtin; refine wpList_append_link rfl _ _ rfl w1.heap.size _ (S ++ [((x : Int), (y : Int), 0, t)]) (((y : Int), (x : Int), 0, -t)) rfl (HO4.out.alloc (.cells #[.int .i64 (y : Int), .int .i64 (x : Int), .int .i64 (-t)] 64)) _ 1 rfl (cells3 _ _ _ (by simp) _ _ _ _ ⟨rfl, rfl, rfl⟩) (by first | exact hroom | (simp; omega)) (by simp; omega) ?_; intro g5 cap5 w5 ho5 hg5 hl5 hb5 hlt5; rw [List.length_append, List.length_singleton] at ho5; have HO5 := Lib.hid ho5; have HB5 := Lib.hid (below_grown (HB4.out.alloc hs4 (.cells #[.int .i64 (y : Int), .int .i64 (x : Int), .int .i64 (-t)] 64)) (by simp; omega) hg5 (fun g e => own_block HO4.out e)); clear ho5 hg5 hl5))
        go_roundw
        case rel => exact ⟨k + 1, by omega, by go_num, HB5, Lib.hid (by rw [HS1.out]; simpa using HO5.out)⟩
        case measure => simp [intOf]; omega
      · have g1 : decide (u < c) = true := by simpa using h1
        have g2 : decide (0 < u) = false := by simpa using h2
        have HS1 : Hid (rowsK Z F (k + 1) = S ++ [((x : Int), (y : Int), 0, t)]) := Lib.hid (by rw [HS.out, if_pos h1, if_neg h2]; simp)
        clear HS
        go_quiet (fail)
        have HBn := Lib.hid (below_drewN HBX.out nq)
        have HOn := Lib.hid (HOX.out.below (below_drewN (Below.refl _ _) nq))
        have HXn : Hid ((wx.drewN nq).heap[g]? = some _) := HXB
        have dn : (wx.drewN nq).cell? ⟨fb, fx + k, none⟩ = some (.int .i64 u) := d1
        have hszn : w1.heap.size ≤ (wx.drewN nq).heap.size := hszx
        have x0 : (wx.drewN nq).cell? ⟨g, 0, none⟩ = _ := x0
        have x1 : (wx.drewN nq).cell? ⟨g, 1, none⟩ = _ := x1
        have x2 : (wx.drewN nq).cell? ⟨g, 2, none⟩ = _ := x2
        have x3 : (wx.drewN nq).cell? ⟨g, 3, none⟩ = _ := x3
        clear d1 HBX HOX HXB hszx
        generalize wx.drewN nq = wz at *
        go_wp2_with (first
          | (at_builtin; refine wpList_append_link rfl _ _ rfl w1.heap.size _ S (((x : Int), (y : Int), 0, t)) rfl (HOn.out.alloc (.cells #[.int .i64 (x : Int), .int .i64 (y : Int), .int .i64 t] 64)) _ 1 rfl (cells3 _ _ _ (by simp) _ _ _ _ ⟨rfl, rfl, rfl⟩) (by first | exact hroom | (simp; omega)) (by simp; omega) ?_; intro g4 cap4 w4 ho4 hg4 hl4 hb4 hlt4; have HO4 := Lib.hid ho4; have HB4 := Lib.hid (below_grown (HBn.out.alloc hszn (.cells #[.int .i64 (x : Int), .int .i64 (y : Int), .int .i64 t] 64)) (by simp; omega) hg4 (fun g e => own_block HOn.out e)); have hs4 := HB4.out.size; have hx4 := box_grown (kept_box HXn.out ((Below.refl _ wz).alloc (Nat.le_refl _) (.cells #[.int .i64 (x : Int), .int .i64 (y : Int), .int .i64 t] 64))) hg4 (fun k e => by have := HOB.out k e; omega); obtain ⟨fb2, fx2, e, hfb2, d4⟩ := lst_cell (HF.out.below HB4.out) HFU.out; cases e; unfold encI at d4; have y0 := cell_whole hx4 0; have y1 := cell_whole hx4 1; have y3 := cell_whole hx4 3; clear ho4 hg4 hl4 dn x0 x1 x2 x3 hx4))
        go_roundw
        case rel => exact ⟨k + 1, by omega, by go_num, HB4, Lib.hid (by rw [HS1.out]; exact HO4.out)⟩
        case measure => simp [intOf]; omega
      · have g1 : decide (u < c) = false := by simpa using h1
        have g2 : decide (0 < u) = true := by simpa using h2
        have HS1 : Hid (rowsK Z F (k + 1) = S ++ [((y : Int), (x : Int), 0, -t)]) := Lib.hid (by rw [HS.out, if_neg h1, if_pos h2]; simp)
        clear HS
        go_quiet (fail)
        have HBn := Lib.hid (below_drewN HBX.out nq)
        have HOn := Lib.hid (HOX.out.below (below_drewN (Below.refl _ _) nq))
        have HXn : Hid ((wx.drewN nq).heap[g]? = some _) := HXB
        have dn : (wx.drewN nq).cell? ⟨fb, fx + k, none⟩ = some (.int .i64 u) := d1
        have hszn : w1.heap.size ≤ (wx.drewN nq).heap.size := hszx
        have x0 : (wx.drewN nq).cell? ⟨g, 0, none⟩ = _ := x0
        have x1 : (wx.drewN nq).cell? ⟨g, 1, none⟩ = _ := x1
        have x2 : (wx.drewN nq).cell? ⟨g, 2, none⟩ = _ := x2
        have x3 : (wx.drewN nq).cell? ⟨g, 3, none⟩ = _ := x3
        clear d1 HBX HOX HXB hszx
        generalize wx.drewN nq = wz at *
        go_wp2_with (first
          | (at_builtin; refine wpList_append_link rfl _ _ rfl w1.heap.size _ S (((y : Int), (x : Int), 0, -t)) rfl (HOn.out.alloc (.cells #[.int .i64 (y : Int), .int .i64 (x : Int), .int .i64 (-t)] 64)) _ 1 rfl (cells3 _ _ _ (by simp) _ _ _ _ ⟨rfl, rfl, rfl⟩) (by first | exact hroom | (simp; omega)) (by simp; omega) ?_; intro g5 cap5 w5 ho5 hg5 hl5 hb5 hlt5; have HO5 := Lib.hid ho5; have HB5 := Lib.hid (below_grown (HBn.out.alloc hszn (.cells #[.int .i64 (y : Int), .int .i64 (x : Int), .int .i64 (-t)] 64)) (by simp; omega) hg5 (fun g e => own_block HOn.out e)); clear ho5 hg5 hl5))
        go_roundw
        case rel => exact ⟨k + 1, by omega, by go_num, HB5, Lib.hid (by rw [HS1.out]; exact HO5.out)⟩
        case measure => simp [intOf]; omega
      · have g1 : decide (u < c) = false := by simpa using h1
        have g2 : decide (0 < u) = false := by simpa using h2
        have HS1 : Hid (rowsK Z F (k + 1) = S) := Lib.hid (by rw [HS.out, if_neg h1, if_neg h2]; simp)
        clear HS
        go_quiet (fail)
        have HBn := Lib.hid (below_drewN HBX.out nq)
        have HOn := Lib.hid (HOX.out.below (below_drewN (Below.refl _ _) nq))
        have HXn : Hid ((wx.drewN nq).heap[g]? = some _) := HXB
        have dn : (wx.drewN nq).cell? ⟨fb, fx + k, none⟩ = some (.int .i64 u) := d1
        have hszn : w1.heap.size ≤ (wx.drewN nq).heap.size := hszx
        have x0 : (wx.drewN nq).cell? ⟨g, 0, none⟩ = _ := x0
        have x1 : (wx.drewN nq).cell? ⟨g, 1, none⟩ = _ := x1
        have x2 : (wx.drewN nq).cell? ⟨g, 2, none⟩ = _ := x2
        have x3 : (wx.drewN nq).cell? ⟨g, 3, none⟩ = _ := x3
        clear d1 HBX HOX HXB hszx
        generalize wx.drewN nq = wz at *
        go_wp2
        go_roundw
        case rel => exact ⟨k + 1, by omega, by go_num, HBn, Lib.hid (by rw [HS1.out]; exact HOn.out)⟩
        case measure => simp [intOf]; omega
    · have hli : ¬ (k : Int) < (Z.length : Int) := by omega
      obtain rfl : k = Z.length := by omega
      subst hlv
      have HB2 := Lib.hid (HB0.out.trans (HB.out.mono HB0.out.size))
      have HRW := Lib.hid (own_mono HO.out HB0.out.size)
      go_wp2
      go_ret
      exact ⟨la, lc, rfl, HRW.out, HB2.out⟩
end
end Go.Proofs.Ytfklkcnopngpgaa
