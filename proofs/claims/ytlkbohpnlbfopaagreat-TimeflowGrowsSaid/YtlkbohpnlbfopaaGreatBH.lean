/- Lemmas of the layers below, several texts in one. -/
import Derived.Test.YtlkbohpnlbfopaaGreatCL
import Derived.Test.YtlkbohpnlbfopaaGreatBG
import Derived.Test.YtlkbohpnlbfopaaGreatBE
import Derived.Shelf.SlSortFuncK.ComposeK
import Derived.Deep.RegionHeld3
import Derived.Test.YtlkbohpnlbfopaaGreatBD
import Derived.Laws.StructEq
import Derived.BigQuiet
import Derived.Deep.QuietTactic
import Derived.Deep.RegionLaw
import Derived.Deep.AppendLies
import Derived.Deep.DeepCutAuto
namespace Go.Proofs.YtlkbohpnlbfopaaGreat
open Go.RowKit
set_option linter.unusedVariables false
section
variable {w1 wr w2 : World} {gd gb gt qb qg N : Nat} {cs : Array Value} {d : List Int} {B : List StepT} {Q Q' : List Nat}
end
section
variable (b : Bool) (ao fo : Option Addr) (cap fc : Nat) (Z : List ArcT) (F : List Int) (g1 c1 g2 c2 N : Nat)
end
end Go.Proofs.YtlkbohpnlbfopaaGreat
namespace Go.Proofs.YtlkbohpnlbfopaaGreat
open Go.RowKit
set_option linter.unusedVariables false
section
variable (b : Bool) (ao fo : Option Addr) (cap fc : Nat) (Z : List ArcT) (F : List Int) (g1 c1 g2 c2 N : Nat)
end
end Go.Proofs.YtlkbohpnlbfopaaGreat
namespace Go.Proofs.YtlkbohpnlbfopaaGreat
open Go.RowKit
set_option linter.unusedVariables false
theorem stepsK_arc {Z : List ArcT} {F : List Int} {y : StepT} (h : y ∈ stepsK Z F Z.length) : ∃ (p : Nat) (a : ArcT) (q : Bool), Z[p]? = some a ∧ y = ((p : Int), q) := by
  obtain ⟨h1, _, _⟩ := (stepsK_mem (Nat.le_refl _)).1 h
  refine ⟨y.1.toNat, _, y.2, arcOf_at h1, ?_⟩
  unfold isArc at h1
  obtain ⟨y1, y2⟩ := y
  simp only at h1 ⊢
  rw [Int.toNat_of_nonneg h1.1]
section
variable (n : Int) (b : Bool) (ao fo : Option Addr) (cap fc : Nat) (Z : List ArcT) (F : List Int)
end
end Go.Proofs.YtlkbohpnlbfopaaGreat
namespace Go.Proofs.YtlkbohpnlbfopaaGreat
open Go.RowKit
set_option linter.unusedVariables false
def hasI (K : List Nat) (v : Nat) : Int := match K.findIdx? (· == v) with | some j => (j : Int) | none => -1
theorem hasI_some {K : List Nat} {v j : Nat} (hj : j < K.length) (h : K[j] = v) (hn : ∀ m (hm : m < j), K[m]'(by omega) ≠ v) : hasI K v = (j : Int) := by
  unfold hasI
  have : K.findIdx? (· == v) = some j := by
    rw [List.findIdx?_eq_some_iff_getElem]
    refine ⟨hj, by simp [h], fun m hm => by simpa using hn m hm⟩
  rw [this]
theorem hasI_none {K : List Nat} {v : Nat} (hn : ∀ m (hm : m < K.length), K[m] ≠ v) : hasI K v = -1 := by
  unfold hasI
  have : K.findIdx? (· == v) = none := by
    rw [List.findIdx?_eq_none_iff]
    intro y hy
    obtain ⟨m, hm, rfl⟩ := List.getElem_of_mem hy
    simpa using hn m hm
  rw [this]
theorem hasI_neg {K : List Nat} {v : Nat} : hasI K v < 0 ↔ v ∉ K := by
  unfold hasI
  cases h : K.findIdx? (· == v) with
  | some j =>
    rw [List.findIdx?_eq_some_iff_getElem] at h
    obtain ⟨h1, h2, _⟩ := h
    simp only
    have e : K[j] = v := by simpa using h2
    have hm : v ∈ K := by rw [← e]; exact List.getElem_mem h1
    constructor
    · intro h3; omega
    · intro h3; exact absurd hm h3
  | none =>
    rw [List.findIdx?_eq_none_iff] at h
    simp only
    constructor
    · intro _ hm; have := h v hm; simp at this
    · intro _; decide
theorem hasI_bd (K : List Nat) (v : Nat) : -1 ≤ hasI K v ∧ hasI K v < (K.length : Int) := by
  unfold hasI
  cases h : K.findIdx? (· == v) with
  | some j =>
    rw [List.findIdx?_eq_some_iff_getElem] at h
    obtain ⟨h1, _⟩ := h
    simp only; omega
  | none => simp only; omega
set_option maxRecDepth 100000 in
set_option maxHeartbeats 2000000 in
theorem rhas_any (no bo : Option Addr) (nc bl bc : Nat) (K : List Nat) (v : Nat) (w : World) (h : Lst encI w no (natI K)) (hK : K.length ≤ 200000) :
    Calls Tryz.prog 56 #[.agg #[.slice no K.length nc, .slice bo bl bc], .int .i64 (v : Int)] w fun e w' => e = .returned (.int .i64 (hasI K v)) ∧ Below w.heap.size w w' := by
  have hb00 := (Below.refl _ w).alloc (Nat.le_refl _) (.cells #[.slice no K.length nc, .slice bo bl bc] 111)
  have HB0 := Lib.hid hb00
  have c0 := cell_new w #[.slice no K.length nc, .slice bo bl bc] 111 0
  have HL := Lib.hid (h.below hb00)
  clear h hb00
  go_enter Tryz.func56, Tryz.ntmps56
  go_wp2
  generalize w.alloc (.cells #[.slice no K.length nc, .slice bo bl bc] 111) = w1 at *
  go_loopw [5] (fun iv wr => ∃ j : Nat, j ≤ K.length ∧ iv = .int .i64 (j : Int) ∧ Hid (∀ m (hm : m < K.length), m < j → K[m] ≠ v) ∧ Hid (Below w1.heap.size w1 wr)) (fun iv _ => K.length - (intOf iv).toNat)
  case atStart => exact ⟨0, Nat.zero_le _, rfl, Lib.hid (fun m hm h => absurd h (by omega)), Lib.hid (Below.refl _ _)⟩
  case round =>
    obtain ⟨j, hj, rfl, HN, HB⟩ := hrel
    have e0 := cell_below' HB.out c0 (block_lt_of_cell c0)
    by_cases hlt : j < K.length
    · have hli : (j : Int) < (K.length : Int) := by omega
      obtain ⟨bb, oo, e, hbb, hcp⟩ := lst_cell HL.out (i := j) (x := ((K[j] : Nat) : Int)) (natI_at hlt)
      cases e
      have hcp' := cell_below' HB.out hcp hbb
      unfold encI at hcp'
      clear hcp
      by_cases hv : K[j] = v
      · have hf1 : ((K[j] : Nat) : Int) == (v : Int) := by simp [hv]
        have HH := Lib.hid (hasI_some hlt hv (fun m hm => HN.out m (by omega) hm))
        clear hv
        generalize K[j] = y at *
        go_wp2
        go_ret
        exact ⟨by rw [HH.out]; rfl, HB0.out.trans (HB.out.mono HB0.out.size)⟩
      · have hf1 : (((K[j] : Nat) : Int) == (v : Int)) = false := by simp; omega
        have HN2 : Hid (∀ m (hm : m < K.length), m < j + 1 → K[m] ≠ v) := Lib.hid (fun m hm h => by
          by_cases e : m = j
          · subst e; exact hv
          · exact HN.out m hm (by omega))
        clear hv
        generalize K[j] = y at *
        go_wp2
        go_roundw
        case rel => exact ⟨j + 1, by omega, by go_num, HN2, HB⟩
        case measure => simp [intOf]; omega
    · have hli : ¬ (j : Int) < (K.length : Int) := by omega
      obtain rfl : j = K.length := by omega
      have HH := Lib.hid (hasI_none (K := K) (v := v) (fun m hm => HN.out m hm hm))
      go_wp2
      go_ret
      exact ⟨by rw [HH.out]; rfl, HB0.out.trans (HB.out.mono HB0.out.size)⟩
theorem rhas_len (no bo : Option Addr) (nc bl bc len : Nat) (K : List Nat) (v : Nat) (hI : Int) (w : World) (h : Lst encI w no (natI K)) (hl : K.length = len) (hK : len ≤ 200000) (hh : hasI K v = hI) :
    Calls Tryz.prog 56 #[.agg #[.slice no len nc, .slice bo bl bc], .int .i64 (v : Int)] w fun e w' => e = .returned (.int .i64 hI) ∧ Below w.heap.size w w' := by
  subst hl; subst hh; exact rhas_any no bo nc bl bc K v w h hK
end Go.Proofs.YtlkbohpnlbfopaaGreat
namespace Go.Proofs.YtlkbohpnlbfopaaGreat
open Go.RowKit
set_option linter.unusedVariables false
def StepOk (Z : List ArcT) (F : List Int) (y : StepT) : Prop := ∃ (p : Nat) (a : ArcT) (q : Bool), y = ((p : Int), q) ∧ Z[p]? = some a ∧ F[p]? = some (atI F p) ∧ 0 ≤ atI F p ∧ atI F p ≤ 4398046511104 ∧ 0 ≤ a.2.2.1 ∧ a.2.2.1 ≤ 4398046511104
theorem StepOk.left {Z : List ArcT} {F : List Int} {y : StepT} (h : StepOk Z F y) : -4398046511104 ≤ leftS Z F y ∧ leftS Z F y ≤ 4398046511104 := by
  obtain ⟨p, a, q, rfl, ha, _, h1, h2, h3, h4⟩ := h
  obtain ⟨l0, l1⟩ := left_at (F := F) ha
  cases q
  · rw [l0]; unfold capN; omega
  · rw [l1]; omega
section
variable (n : Int) (b : Bool) (ao fo lo : Option Addr) (cap fc lc : Nat) (Z : List ArcT) (F : List Int) (L : List StepT)
set_option maxRecDepth 100000 in
set_option maxHeartbeats 4000000 in
theorem rbottle_any (w : World) (h : Row encA 4 w ao Z) (hf : Lst encI w fo F) (hl : Row encS 2 w lo L) (hL : L ≠ []) (hll : L.length ≤ 200000) (hz : Z.length ≤ 200000) (hfl : F.length ≤ 200000) (hok : ∀ y ∈ L, StepOk Z F y) :
    Calls Tryz.prog 37 #[.agg #[.int .i64 n, .bool b, .slice ao Z.length cap], .slice fo F.length fc, .slice lo L.length lc] w fun e w' => e = .returned (.int .i64 (botK Z F L)) ∧ Below w.heap.size w w' := by
  have hb00 := (Below.refl _ w).alloc (Nat.le_refl _) (.cells #[.int .i64 n, .bool b, .slice ao Z.length cap] 27)
  have HB0 := Lib.hid hb00
  have c0 := cell_new w #[.int .i64 n, .bool b, .slice ao Z.length cap] 27 0
  have c1 := cell_new w #[.int .i64 n, .bool b, .slice ao Z.length cap] 27 1
  have c2 := cell_new w #[.int .i64 n, .bool b, .slice ao Z.length cap] 27 2
  have HR := Lib.hid (h.below' hb00)
  have HF := Lib.hid (hf.below hb00)
  have HLR := Lib.hid (hl.below' hb00)
  have HOK := Lib.hid hok
  have h0l : 0 < L.length := List.length_pos_iff.2 hL
  have hli0 : (0 : Int) < (L.length : Int) := by omega
  obtain ⟨y0, r, hLe⟩ : ∃ y0 r, L = y0 :: r := by cases L with | nil => exact absurd rfl hL | cons a l => exact ⟨a, l, rfl⟩
  have HLE : Hid (∀ k, 0 < k → botA Z F (leftS Z F y0) ((L.take k).drop 1) = botK Z F (L.take k)) := Lib.hid (fun k hk => by rw [hLe]; obtain ⟨m, rfl⟩ : ∃ m, k = m + 1 := ⟨k - 1, by omega⟩; simp [botK])
  obtain ⟨lb, lx, rfl, hlb, s0, s1⟩ := step_at HLR.out (i := 0) (x := y0) (by rw [hLe]; rfl)
  obtain ⟨p, a, q, hy, ha, hx, b1, b2, b3, b4⟩ := hok y0 (by rw [hLe]; simp)
  have HRM : Hid (roomI a (atI F p) q = leftS Z F y0) := Lib.hid (by rw [hy, left_room ha])
  have HA := Lib.hid ha
  have HXX := Lib.hid hx
  subst hy
  simp only at s0 s1
  have hlt1 : lb < (w.alloc (.cells #[.int .i64 n, .bool b, .slice ao Z.length cap] 27)).heap.size := hlb
  clear h hf hl hok hb00 ha hx hL hLe
  rw [Nat.zero_mul, Nat.add_zero] at s0 s1
  go_enter Tryz.func37, Tryz.ntmps37
  go_wp2
  generalize w.alloc (.cells #[.int .i64 n, .bool b, .slice ao Z.length cap] 27) = w1 at *
  go_region_held3 (fun W => W.cell? ⟨w.heap.size, 0, none⟩ = some (.int .i64 n) ∧ W.cell? ⟨w.heap.size, 1, none⟩ = some (.bool b) ∧ W.cell? ⟨w.heap.size, 2, none⟩ = some (.slice ao Z.length cap) ∧ W.cell? ⟨lb, lx, none⟩ = some (.int .i64 (p : Int)) ∧ W.cell? ⟨lb, lx + 1, none⟩ = some (.bool q)) (first | exact ⟨c0, c1, c2, s0, s1⟩ | exact ⟨z0, z1, z2, z3, z4⟩ | go_keep)
    (first | (go_at_call 58; refine (rleft_at n b ao cap Z fo fc F p q a (atI F p) w1.drew (HR.out.below' (below_drew (Below.refl w1.heap.size w1))) (HF.out.below (below_drew (Below.refl w1.heap.size w1))) HA.out HXX.out hz hfl b1 b2 b3 b4).mono ?_; rintro e w6 ⟨rfl, b6⟩; rw [HRM.out]; have z0 := cell_below (w := w1.drew) b6 c0; have z1 := cell_below (w := w1.drew) b6 c1; have z2 := cell_below (w := w1.drew) b6 c2; have z3 := cell_below (w := w1.drew) b6 s0; have z4 := cell_below (w := w1.drew) b6 s1; have HB6 := Lib.hid ((below_drew (Below.refl w1.heap.size w1)).trans b6); clear b6))
  all_goals
    have HL6 := Lib.hid (HLR.out.below' HB6.out)
    go_wp2
    go_loopw [7, 8] (fun kv iv wr => ∃ j : Nat, 0 < j ∧ j ≤ L.length ∧ iv = .int .i64 (j : Int) ∧ kv = .int .i64 (botK Z F (L.take j)) ∧ Hid (Below w1.heap.size w1 wr)) (fun _ iv _ => L.length - (intOf iv).toNat)
    case atStart => exact ⟨1, by omega, by omega, rfl, by rw [← HLE.out 1 (by omega)]; simp [botA], HB6⟩
    case round =>
      clear HB6 HL6
      obtain ⟨j, hj0, hj, rfl, rfl, HB⟩ := hrel
      by_cases hlt : j < L.length
      · have hli : (j : Int) < (L.length : Int) := by omega
        have HBK : Hid (min (botK Z F (L.take j)) (leftS Z F L[j]) = botK Z F (L.take (j + 1))) := Lib.hid (by
          rw [← HLE.out j hj0, ← HLE.out (j + 1) (by omega), List.take_succ_eq_append_getElem hlt, List.drop_append_of_le_length (by simp; omega), botA_snoc])
        obtain ⟨lb2, lx2, e, hlb2, s2, s3⟩ := step_at (HLR.out.below' HB.out) (List.getElem?_eq_getElem hlt)
        cases e
        have hokj := HOK.out _ (List.getElem_mem hlt)
        have d0 := cell_below' HB.out c0 (block_lt_of_cell c0)
        have d1 := cell_below' HB.out c1 (block_lt_of_cell c1)
        have d2 := cell_below' HB.out c2 (block_lt_of_cell c2)
        generalize L[j] = y at *
        obtain ⟨p2, a2, q2, hy2, ha2, hx2, e1, e2, e3, e4⟩ := hokj
        have HRM2 : Hid (roomI a2 (atI F p2) q2 = leftS Z F y) := Lib.hid (by rw [hy2, left_room ha2])
        have HA2 := Lib.hid ha2
        have HX2 := Lib.hid hx2
        subst hy2
        simp only at s2 s3
        obtain ⟨kb, hkb⟩ : ∃ kb, botK Z F (L.take j) = kb := ⟨_, rfl⟩
        rw [hkb] at HBK ⊢
        obtain ⟨rm, hrm⟩ : ∃ rm, leftS Z F ((p2 : Int), q2) = rm := ⟨_, rfl⟩
        rw [hrm] at HBK HRM2
        have HRW := Lib.hid (HR.out.below' HB.out)
        have HFW := Lib.hid (HF.out.below HB.out)
        clear ha2 hx2 hkb hrm
        go_wp2_with fail
        go_region_held3 (fun W => W.cell? ⟨w.heap.size, 0, none⟩ = some (.int .i64 n) ∧ W.cell? ⟨w.heap.size, 1, none⟩ = some (.bool b) ∧ W.cell? ⟨w.heap.size, 2, none⟩ = some (.slice ao Z.length cap) ∧ W.cell? ⟨lb, lx + j * 2, none⟩ = some (.int .i64 (p2 : Int)) ∧ W.cell? ⟨lb, lx + j * 2 + 1, none⟩ = some (.bool q2)) (first | exact ⟨d0, d1, d2, s2, s3⟩ | exact ⟨z0, z1, z2, z3, z4⟩ | go_keep)
          (first | (go_at_call 58; refine (rleft_at n b ao cap Z fo fc F p2 q2 a2 (atI F p2) wr.drew (HRW.out.below' (below_drew (Below.refl wr.heap.size wr))) (HFW.out.below (below_drew (Below.refl wr.heap.size wr))) HA2.out HX2.out hz hfl e1 e2 e3 e4).mono ?_; rintro e w6 ⟨rfl, b6⟩; rw [HRM2.out]; have z0 := cell_below (w := wr.drew) b6 d0; have z1 := cell_below (w := wr.drew) b6 d1; have z2 := cell_below (w := wr.drew) b6 d2; have z3 := cell_below (w := wr.drew) b6 s2; have z4 := cell_below (w := wr.drew) b6 s3; have HB7 := Lib.hid ((below_drew HB.out).trans (b6.mono HB.out.size)); clear b6))
        all_goals
          go_wp2
          go_roundw
          case rel => exact ⟨j + 1, by omega, by omega, by go_num, by rw [← HBK.out], HB7⟩
          case measure => simp [intOf]; omega
      · have hli : ¬ (j : Int) < (L.length : Int) := by omega
        obtain rfl : j = L.length := by omega
        rw [List.take_length]
        go_wp2
        go_ret
        exact ⟨rfl, HB0.out.trans (HB.out.mono HB0.out.size)⟩
end
end Go.Proofs.YtlkbohpnlbfopaaGreat
namespace Go.Proofs.YtlkbohpnlbfopaaGreat
open Go.RowKit
set_option linter.unusedVariables false
def byX (x : List Ent) : List StepT := x.map fun e => e.2.1
theorem byX_len (x : List Ent) : (byX x).length = x.length := by simp [byX]
theorem keysX_len (x : List Ent) : (keysX x).length = x.length := by simp [keysX]
structure FDW (wb wr : World) (gv gn nc gs bc : Nat) (K : List Nat) (T : List StepT) : Prop where
  var : wr.heap[gv]? = some (.cells #[.slice (some ⟨gn, 0, none⟩) K.length nc, .slice (some ⟨gs, 0, none⟩) T.length bc] 111 (0, 0))
  nodes : OwnL encI wr wb.heap.size 3 (.slice (some ⟨gn, 0, none⟩) K.length nc) (natI K)
  byy : OwnS wr wb.heap.size (.slice (some ⟨gs, 0, none⟩) T.length bc) T
  ne : gn ≠ gs
  lt : gv < wb.heap.size
  kept : Kept (fun i => i = gv) wb wr
section
variable {w wb wr w2 : World} {gv gn nc gs bc : Nat} {K : List Nat} {T : List StepT}
theorem FDW.blocks (h : FDW wb wr gv gn nc gs bc K T) : (wb.heap.size ≤ gn ∧ gn < wr.heap.size) ∧ (wb.heap.size ≤ gs ∧ gs < wr.heap.size) ∧ gv < wb.heap.size ∧ wb.heap.size ≤ wr.heap.size := ⟨own_lt2 h.nodes rfl, h.byy.lt, h.lt, h.kept.size⟩
theorem FDW.next (h : FDW wb wr gv gn nc gs bc K T) (hb : Below wr.heap.size wr w2) : FDW wb w2 gv gn nc gs bc K T :=
  ⟨kept_box h.var hb, h.nodes.below hb, h.byy.below hb, h.ne, h.lt, h.kept.trans (Kept.of_below (S := fun _ => False) hb) (fun _ _ h => h.elim)⟩
theorem FDW.cell (h : FDW wb wr gv gn nc gs bc K T) {b o : Nat} {v : Value} (hc : wb.cell? ⟨b, o, none⟩ = some v) (hb : b ≠ gv) : wr.cell? ⟨b, o, none⟩ = some v :=
  (cell_of_block (h.kept.block b (block_lt_of_cell hc) hb)).trans hc
theorem FDW.below (h : FDW wb wr gv gn nc gs bc K T) (hb : Below w.heap.size w wb) (hg : w.heap.size ≤ gv) : Below w.heap.size w wr :=
  hb.trans (h.kept.below hb.size (fun i e => by have e2 : i = gv := e; omega))
theorem FDW.ownN (h : FDW wb wr gv gn nc gs bc K T) : wr.ownsRow wb.heap.size 3 1 (.slice (some ⟨gn, 0, none⟩) K.length nc) K.length ((natI K).map encI) := by
  have := h.nodes
  unfold OwnL at this
  rwa [natI_len] at this
theorem FDW.addN {W w4 : World} {g4 cap4 x : Nat} (h : FDW wb W gv gn nc gs bc K T) (ho : OwnL encI w4 wb.heap.size 3 (.slice (some ⟨g4, 0, none⟩) (K.length + 1) cap4) (natI (K ++ [x]))) (hg : W.grownBy w4 (some gn)) (hl : some gn = some g4 ∨ g4 = W.heap.size) :
    FDW wb (w4.setCell ⟨gv, 0, none⟩ (.slice (some ⟨g4, 0, none⟩) (K.length + 1) cap4)) gv g4 cap4 gs bc (K ++ [x]) T := by
  have hb := h.blocks
  have k4 : Kept (fun i => i = gn) W w4 := Kept.of_grown hg (fun k e => by have := Option.some.inj e; show k = gn; omega)
  have ne2 : g4 ≠ gs := by
    rcases hl with e | e
    · have := Option.some.inj e; have := h.ne; omega
    · omega
  have v4 := k4.old h.var (by show gv ≠ gn; omega)
  have hb4 : wb.heap.size ≤ g4 := own_block ho rfl
  refine ⟨?_, ?_, ?_, ne2, h.lt, ?_⟩
  · rw [List.length_append]
    exact set_whole v4 0 _
  · rw [List.length_append]
    exact ownL_kept ho ((Kept.refl (fun i => i = gv) w4).set (.inl rfl) _) (fun g e => by simp [Value.ownBlock] at e; show g ≠ gv; omega)
  · exact (h.byy.kept k4 (by show gs ≠ gn; have := h.ne; omega)).kept ((Kept.refl (fun i => i = gv) w4).set (.inl rfl) _) (by show gs ≠ gv; omega)
  · exact (h.kept.trans k4 (fun i hi e => by have e2 : i = gn := e; omega)).set (.inl rfl) _
theorem FDW.addS {W w4 : World} {g4 cap4 : Nat} {y : StepT} (h : FDW wb W gv gn nc gs bc K T) (ho : OwnS w4 wb.heap.size (.slice (some ⟨g4, 0, none⟩) (T.length + 1) cap4) (T ++ [y])) (hg : W.grownBy w4 (some gs)) (hl : some gs = some g4 ∨ g4 = W.heap.size) :
    FDW wb (w4.setCell ⟨gv, 1, none⟩ (.slice (some ⟨g4, 0, none⟩) (T.length + 1) cap4)) gv gn nc g4 cap4 K (T ++ [y]) := by
  have hb := h.blocks
  have k4 : Kept (fun i => i = gs) W w4 := Kept.of_grown hg (fun k e => by have := Option.some.inj e; show k = gs; omega)
  have ne2 : gn ≠ g4 := by
    rcases hl with e | e
    · have := Option.some.inj e; have := h.ne; omega
    · omega
  have v4 := k4.old h.var (by show gv ≠ gs; omega)
  have hb4 : wb.heap.size ≤ g4 := own_block ho rfl
  refine ⟨?_, ?_, ?_, ne2, h.lt, ?_⟩
  · rw [List.length_append]
    exact set_whole v4 1 _
  · exact ownL_kept (ownL_kept h.nodes k4 (fun g e => by simp [Value.ownBlock] at e; show g ≠ gs; have := h.ne; omega)) ((Kept.refl (fun i => i = gv) w4).set (.inl rfl) _) (fun g e => by simp [Value.ownBlock] at e; show g ≠ gv; omega)
  · rw [List.length_append]
    exact ho.kept ((Kept.refl (fun i => i = gv) w4).set (.inl rfl) _) (by show g4 ≠ gv; omega)
  · exact (h.kept.trans k4 (fun i hi e => by have e2 : i = gs := e; omega)).set (.inl rfl) _
theorem ownI_snoc {w : World} {B : Nat} {v : Value} {K : List Nat} {x : Nat} (h : w.ownsRow B 3 1 v (K.length + 1) ((natI K).map encI ++ [.int .i64 (x : Int)])) : OwnL encI w B 3 v (natI (K ++ [x])) := by
  unfold OwnL
  rw [natI_snoc, List.length_append, List.map_append, natI_len]
  exact h
theorem ownS_snoc {w : World} {B : Nat} {v : Value} {T : List StepT} {y : StepT} (h : w.ownsRow B 73 2 v (T.length + 1) (T.flatMap encS ++ encS y)) : OwnS w B v (T ++ [y]) := by
  unfold OwnS
  rw [List.length_append, List.flatMap_append]
  simpa using h
end
theorem fresh_ne {g4 g5 H : Nat} {v : Value} (hv : v.ownBlock = none) (hl : v.ownBlock = some g5 ∨ g5 = H) (h : g4 < H) : g4 ≠ g5 := by
  rcases hl with e | e
  · rw [hv] at e; cases e
  · omega
def FoundRes (X : List Ent) (w : World) (e : Ending) (w' : World) : Prop :=
  ∃ gn nc gs bc, e = .returned (.agg #[.slice (some ⟨gn, 0, none⟩) X.length nc, .slice (some ⟨gs, 0, none⟩) X.length bc]) ∧ Lst encI w' (some ⟨gn, 0, none⟩) (natI (keysX X)) ∧ Row encS 2 w' (some ⟨gs, 0, none⟩) (byX X) ∧ Below w.heap.size w w'
section
variable (n : Int) (b : Bool) (ao lo : Option Addr) (cap lc : Nat) (Z : List ArcT) (L : List StepT) (N : Nat)
set_option maxRecDepth 100000 in
set_option maxHeartbeats 8000000 in
theorem rsought_any (s : Nat) (w : World) (h : Row encA 4 w ao Z) (hl : Row encS 2 w lo L) (hz : Z.length ≤ 200000) (hll : L.length ≤ 200000) (hN : N ≤ 100000) (hs : s < N) (hto : ∀ y ∈ L, toS Z y < N) (hok : ∀ y ∈ L, ∃ (p : Nat) (a : ArcT) (q : Bool), Z[p]? = some a ∧ y = ((p : Int), q)) (hE : ∀ a ∈ Z, a.1 = (frN a : Int) ∧ a.2.1 = (toN a : Int)) :
    Calls Tryz.prog 55 #[.agg #[.int .i64 n, .bool b, .slice ao Z.length cap], .int .i64 (s : Int), .slice lo L.length lc] w (FoundRes (seekK (fromS Z) (toS Z) L s N) w) := by
  have hb00 := (((Below.refl _ w).alloc (Nat.le_refl _) (.cells #[.int .i64 n, .bool b, .slice ao Z.length cap] 27)).alloc (by simp) (.cells #[.slice none 0 0, .slice none 0 0] 111)).alloc (by simp; omega) (.cells #[.slice none 0 0, .slice none 0 0] 111)
  have HB0 := Lib.hid hb00
  have hn1 := alloc_whole (alloc_whole (heap_alloc_new w (.cells #[.int .i64 n, .bool b, .slice ao Z.length cap] 27)) (.cells #[.slice none 0 0, .slice none 0 0] 111)) (.cells #[.slice none 0 0, .slice none 0 0] 111)
  have HV := Lib.hid (alloc_whole (new_whole1 w (.cells #[.int .i64 n, .bool b, .slice ao Z.length cap] 27) (.cells #[.slice none 0 0, .slice none 0 0] 111)) (.cells #[.slice none 0 0, .slice none 0 0] 111))
  have HG : Hid ((((w.alloc (.cells #[.int .i64 n, .bool b, .slice ao Z.length cap] 27)).alloc (.cells #[.slice none 0 0, .slice none 0 0] 111)).alloc (.cells #[.slice none 0 0, .slice none 0 0] 111)).heap[w.heap.size + 1 + 1]? = some (.cells #[.slice none 0 0, .slice none 0 0] 111 (0, 0))) := Lib.hid (by
    have := heap_alloc_new ((w.alloc (.cells #[.int .i64 n, .bool b, .slice ao Z.length cap] 27)).alloc (.cells #[.slice none 0 0, .slice none 0 0] 111)) (.cells #[.slice none 0 0, .slice none 0 0] 111)
    simpa using this)
  have HSZ : Hid ((((w.alloc (.cells #[.int .i64 n, .bool b, .slice ao Z.length cap] 27)).alloc (.cells #[.slice none 0 0, .slice none 0 0] 111)).alloc (.cells #[.slice none 0 0, .slice none 0 0] 111)).heap.size = w.heap.size + 3) := Lib.hid (by simp)
  have k0 := cell_whole hn1 0
  have k1 := cell_whole hn1 1
  have k2 := cell_whole hn1 2
  have HR0 := Lib.hid h
  have HL0 := Lib.hid hl
  have HE := Lib.hid hE
  have HT := Lib.hid hto
  have HOK := Lib.hid hok
  clear h hl hb00 hn1 hE hto hok
  go_enter Tryz.func55, Tryz.ntmps55
  go_upto_region 2 with (fail)
  generalize ((w.alloc (.cells #[.int .i64 n, .bool b, .slice ao Z.length cap] 27)).alloc (.cells #[.slice none 0 0, .slice none 0 0] 111)).alloc (.cells #[.slice none 0 0, .slice none 0 0] 111) = wb at *
  obtain ⟨gv, hgv⟩ : ∃ gv, w.heap.size + 1 + 1 = gv := ⟨_, rfl⟩
  rw [hgv] at HG ⊢
  have hwb : wb.heap.size = gv + 1 := by rw [HSZ.out]; omega
  have g0 := cell_whole HG.out 0
  have g1 := cell_whole HG.out 1
  have HEX : Hid (wb.heap.size ≤ wb.heap.size) := Lib.hid (Nat.le_refl _)
  go_wp2_with (first
    | (at_builtin; refine wpList_append_one (enc := encI) Tryz.underlying51 infoInt rfl (by omega) rfl _ _ rfl wb.heap.size (.slice none 0 0) [] (s : Int) rfl rfl (OwnL.nil _ _ _) _ 1 rfl (cell_new' hwb _ _ 0) (by simp) (by simp) ?_; intro g4 cap4 w4 ho4 hg4 hl4 hb4 hlt4; have k4 : Kept (fun i => False) wb w4 := ((Kept.refl _ wb).alloc (.cells #[.int .i64 (s : Int)] 3)).trans (Kept.of_grown (S := fun i => False) hg4 (fun k e => by cases e)) (fun i _ h => h); have HK4 := Lib.hid k4; have v4 := k4.old HG.out (fun h => h); have HV4 := Lib.hid v4; have c40 := cell_whole v4 0; have c41 := cell_whole v4 1; have f40 := frozen_whole v4 0; have HO4 := Lib.hid ho4; clear v4 k4 ho4 hg4 hl4 g0 g1)
    | (at_builtin; refine wpList_append_step rfl _ _ rfl wb.heap.size (.slice none 0 0) [] (0, false) rfl (OwnS.nil _ _) _ 1 rfl (cells2 _ _ _ (by simp [World.setCell]) _ _) (by simp) (by simp [World.setCell]; omega) ?_; intro g5 cap5 w5 ho5 hg5 hl5 hb5 hlt5; have hs4 := HK4.out.size; have k45 : Kept (fun i => i = gv) w4 w5 := (((Kept.refl (fun i => i = gv) w4).set (.inl rfl) (.slice (some ⟨g4, 0, none⟩) 1 cap4)).alloc (.cells #[.int .i64 0, .bool false] 73)).trans (Kept.of_grown (S := fun i => i = gv) hg5 (fun k e => by cases e)) (fun i _ h => h); have k5 : Kept (fun i => False) (w4.setCell ⟨gv, 0, none⟩ (.slice (some ⟨g4, 0, none⟩) 1 cap4)) w5 := ((Kept.refl (fun i => False) _).alloc (.cells #[.int .i64 0, .bool false] 73)).trans (Kept.of_grown (S := fun i => False) hg5 (fun k e => by cases e)) (fun i _ h => h); have v5 := k5.old (set_whole HV4.out 0 (.slice (some ⟨g4, 0, none⟩) 1 cap4)) (fun h => h); have HV5 := Lib.hid v5; have HK5 := Lib.hid k45; have c50 := cell_whole v5 0; have c51 := cell_whole v5 1; have f51 := frozen_whole v5 1; have HO5 := Lib.hid ho5; have HL5 : Hid (g4 ≠ g5) := Lib.hid (fresh_ne rfl hl5 (by simp [World.setCell]; omega)); clear v5 k5 k45 ho5 hg5 hl5 c40 c41 f40))
  have HF6 : Hid (FDW wb (w5.setCell ⟨gv, 1, none⟩ (.slice (some ⟨g5, 0, none⟩) 1 cap5)) gv g4 cap4 g5 cap5 (keysX [(s, (0, false), 0)]) (byX [(s, (0, false), 0)])) := Lib.hid (by
    have ho4 := HO4.out
    have ho5 := HO5.out
    rw [List.nil_append] at ho5 ho4
    have hb4 : wb.heap.size ≤ g4 := own_block ho4 rfl
    have hb5 : wb.heap.size ≤ g5 := own_block ho5 rfl
    refine ⟨set_whole HV5.out 1 _, ?_, ?_, HL5.out, by omega, ?_⟩
    · exact ownL_kept (ownL_kept ho4 HK5.out (fun g e => by simp [Value.ownBlock] at e; show g ≠ gv; omega)) ((Kept.refl (fun i => i = gv) w5).set (.inl rfl) _) (fun g e => by simp [Value.ownBlock] at e; show g ≠ gv; omega)
    · exact OwnS.kept ho5 ((Kept.refl (fun i => i = gv) w5).set (.inl rfl) _) (by show g5 ≠ gv; omega)
    · exact ((HK4.out.mono (fun i _ h => h.elim)).trans' HK5.out).set (.inl rfl) _)
  clear HO4 HO5 HV4 HV5 HK4 HK5 HL5 c50 c51 f51
  generalize w5.setCell ⟨gv, 1, none⟩ (.slice (some ⟨g5, 0, none⟩) 1 cap5) = w6 at *
  have hgb : w.heap.size ≤ gv := by omega
  go_loopw [8] (fun iv wr => ∃ (i gn nc gs bc : Nat) (x : List Ent), iv = .int .i64 (i : Int) ∧ i ≤ x.length ∧ x.length ≤ N ∧ Hid (x = seekK (fromS Z) (toS Z) L s i) ∧ Hid (SK (fromS Z) (toS Z) L s x i []) ∧ Hid (FDW wb wr gv gn nc gs bc (keysX x) (byX x))) (fun iv _ => N - (intOf iv).toNat)
  case atStart => exact ⟨0, g4, cap4, g5, cap5, [(s, (0, false), 0)], rfl, Nat.zero_le _, by simp; omega, Lib.hid rfl, Lib.hid SK.start, HF6⟩
  case round =>
    clear HF6
    obtain ⟨i, gn, nc, gs, bc, x, rfl, hix, hxN, HX, HS, HF⟩ := hrel
    have g0 := cell_whole HF.out.var 0
    have g1 := cell_whole HF.out.var 1
    rw [keysX_len] at g0
    rw [byX_len] at g1
    by_cases hlt : i < x.length
    · have hli : (i : Int) < (x.length : Int) := by omega
      obtain ⟨e, he⟩ : ∃ e, x[i]? = some e := ⟨_, List.getElem?_eq_getElem hlt⟩
      have HXE := Lib.hid he
      obtain ⟨u, hu⟩ : ∃ u, e.1 = u := ⟨_, rfl⟩
      have HU := Lib.hid hu
      clear he hu
      go_wp2
      generalize wr = wz at *
      go_loopw [9] (fun kv wi => ∃ (k gn nc gs bc : Nat) (y : List Ent), kv = .int .i64 (k : Int) ∧ k ≤ L.length ∧ i < y.length ∧ Hid (y = expX (fromS Z) (toS Z) (L.take k) u i x) ∧ Hid (SK (fromS Z) (toS Z) L s y i (L.take k)) ∧ Hid (y[i]? = some e) ∧ Hid (FDW wb wi gv gn nc gs bc (keysX y) (byX y))) (fun kv _ => L.length - (intOf kv).toNat)
      case atStart => exact ⟨0, gn, nc, gs, bc, x, rfl, Nat.zero_le _, hlt, Lib.hid rfl, HS, HXE, HF⟩
      case round =>
        clear HF g0 g1
        obtain ⟨k, gn, nc, gs, bc, y, rfl, hk, hiy, HY, HSY, HYE, HF⟩ := hrel
        by_cases hlt2 : k < L.length
        · have hli2 : (k : Int) < (L.length : Int) := by omega
          have hyN := seek_len HSY.out hs HT.out
          have HBW := Lib.hid (HF.out.below HB0.out hgb)
          have g0 := cell_whole HF.out.var 0
          have g1 := cell_whole HF.out.var 1
          obtain ⟨lb, lx, el, hlb, t0, t1⟩ := step_at HL0.out (List.getElem?_eq_getElem hlt2)
          cases el
          have s0 := cell_below' HBW.out t0 hlb
          have s1 := cell_below' HBW.out t1 hlb
          have hsl : L[k] ∈ L := List.getElem_mem hlt2
          have HTK : Hid (L.take (k + 1) = L.take k ++ [L[k]]) := Lib.hid (List.take_succ_eq_append_getElem hlt2)
          generalize L[k] = z at *
          obtain ⟨p, a, q, ha, hz2⟩ := HOK.out z hsl
          obtain ⟨hE1, hE2⟩ := begI_fromE ha (HE.out a (List.mem_of_getElem? ha)) q
          subst hz2
          simp only at s0 s1
          have hki : i < (keysX y).length := by rw [keysX_len]; exact hiy
          have hku : (natI (keysX y))[i]? = some (u : Int) := by
            have := HYE.out
            simp [natI, keysX, this, HU.out]
          obtain ⟨nu, _⟩ := HF.out.nodes.cell hku
          unfold encI at nu
          have d0 := HF.out.cell k0 (by omega)
          have d1 := HF.out.cell k1 (by omega)
          have d2 := HF.out.cell k2 (by omega)
          have hiyi : (i : Int) < ((keysX y).length : Int) := by omega
          obtain ⟨f, hf⟩ : ∃ f, fromS Z ((p : Int), q) = f := ⟨_, rfl⟩
          obtain ⟨v, hv⟩ : ∃ v, toS Z ((p : Int), q) = v := ⟨_, rfl⟩
          rw [hf] at hE1
          rw [hv] at hE2
          have HEB := Lib.hid hE1
          have HEE := Lib.hid hE2
          have HFF := Lib.hid hf
          have HVV := Lib.hid hv
          have HA := Lib.hid ha
          have HSL := Lib.hid hsl
          have HRW := Lib.hid (HR0.out.below' HBW.out)
          have HT01 := Lib.hid (And.intro t0 t1)
          clear t0 t1 hE1 hE2 hf hv ha hsl hku
          by_cases hfu : f = u
          · have hf1 : ((f : Int) == (u : Int)) = true := by simp [hfu]
            have hf2 : (f : Int) = (u : Int) := by omega
            obtain ⟨hI, hhI⟩ : ∃ hI, hasI (keysX y) v = hI := ⟨_, rfl⟩
            have HHI := Lib.hid hhI
            have hneg : hI < 0 ↔ v ∉ keysX y := by rw [← hhI]; exact hasI_neg
            have hbd := hasI_bd (keysX y) v
            rw [hhI, keysX_len] at hbd
            have HYL : Hid ((keysX y).length = y.length) := Lib.hid (keysX_len y)
            have HCALL := Lib.hid (rfrom_at n b ao cap Z p q a wr.drew (HRW.out.below' (below_drew (Below.refl wr.heap.size wr))) HA.out hz)
            clear hhI
            by_cases hnew : hI < 0
            · have hdn : decide (hI < 0) = true := decide_eq_true hnew
              have hin : v ∉ keysX y := hneg.1 hnew
              have HY2 : Hid (y ++ [(v, ((p : Int), q), i)] = expX (fromS Z) (toS Z) (L.take (k + 1)) u i x) := Lib.hid (by
                rw [HTK.out, expX_app, ← HY.out]
                show _ = addX (fromS Z) (toS Z) u i y _
                unfold addX
                rw [if_pos ⟨by rw [HFF.out]; exact hfu, by rw [HVV.out]; exact hin⟩, HVV.out])
              have HSY2 : Hid (SK (fromS Z) (toS Z) L s (y ++ [(v, ((p : Int), q), i)]) i (L.take (k + 1))) := Lib.hid (by
                rw [HTK.out]
                have h1 := HSY.out.add HYE.out HSL.out
                have e1 : addX (fromS Z) (toS Z) e.1 i y ((p : Int), q) = y ++ [(v, ((p : Int), q), i)] := by
                  unfold addX
                  rw [if_pos ⟨by rw [HFF.out, HU.out]; exact hfu, by rw [HVV.out]; exact hin⟩, HVV.out]
                rwa [e1] at h1)
              have HYE2 : Hid ((y ++ [(v, ((p : Int), q), i)])[i]? = some e) := Lib.hid (by rw [List.getElem?_append_left hiy]; exact HYE.out)
              have HKK : Hid (keysX (y ++ [(v, ((p : Int), q), i)]) = keysX y ++ [v]) := Lib.hid (by simp [keysX])
              have HTT2 : Hid (byX (y ++ [(v, ((p : Int), q), i)]) = byX y ++ [((p : Int), q)]) := Lib.hid (by simp [byX])
              have hkb : (keysX y).length ≤ 100000 := by rw [keysX_len]; omega
              have htb : (byX y).length ≤ 100000 := by rw [byX_len]; omega
              clear hneg hin
              go_wp2_with fail
              go_region_held3 (fun W => W.cell? ⟨w.heap.size, 0, none⟩ = some (.int .i64 n) ∧ W.cell? ⟨w.heap.size, 1, none⟩ = some (.bool b) ∧ W.cell? ⟨w.heap.size, 2, none⟩ = some (.slice ao Z.length cap) ∧ W.cell? ⟨lb, lx + k * 2, none⟩ = some (.int .i64 (p : Int)) ∧ W.cell? ⟨lb, lx + k * 2 + 1, none⟩ = some (.bool q) ∧ W.cell? ⟨gv, 0, none⟩ = some (.slice (some ⟨gn, 0, none⟩) (keysX y).length nc) ∧ W.cell? ⟨gv, 1, none⟩ = some (.slice (some ⟨gs, 0, none⟩) (byX y).length bc) ∧ W.cell? ⟨gn, i, none⟩ = some (.int .i64 (u : Int))) (first | exact ⟨d0, d1, d2, s0, s1, g0, g1, nu⟩ | exact ⟨z0, z1, z2, z3, z4, z5, z6, z7⟩ | go_keep)
                (first
                  | (go_at_call 57; refine HCALL.out.mono ?_; rintro e w7 ⟨rfl, b7⟩; rw [HEB.out]; have z0 := cell_below (w := wr.drew) b7 d0; have z1 := cell_below (w := wr.drew) b7 d1; have z2 := cell_below (w := wr.drew) b7 d2; have z3 := cell_below (w := wr.drew) b7 s0; have z4 := cell_below (w := wr.drew) b7 s1; have z5 := cell_below (w := wr.drew) b7 g0; have z6 := cell_below (w := wr.drew) b7 g1; have z7 := cell_below (w := wr.drew) b7 nu; have HF7 := Lib.hid ((HF.out.next (below_drew (Below.refl wr.heap.size wr))).next b7); have HR7 := Lib.hid ((HRW.out.below' (below_drew (Below.refl wr.heap.size wr))).below' b7); clear b7)
                  | (go_at_call 66; refine (rto_at n b ao cap Z p q a _ HR7.out HA.out hz).mono ?_; rintro e w8 ⟨rfl, b8⟩; rw [HEE.out]; have z0 := cell_below b8 z0; have z1 := cell_below b8 z1; have z2 := cell_below b8 z2; have z3 := cell_below b8 z3; have z4 := cell_below b8 z4; have z5 := cell_below b8 z5; have z6 := cell_below b8 z6; have z7 := cell_below b8 z7; have HF7 := Lib.hid (HF7.out.next b8); have HR7 := Lib.hid (HR7.out.below' b8); clear b8)
                  | (go_at_call 56; refine (rhas_len (some ⟨gn, 0, none⟩) (some ⟨gs, 0, none⟩) nc (byX y).length bc (keysX y).length (keysX y) v hI _ HF7.out.nodes.lstK rfl (by rw [keysX_len]; omega) HHI.out).mono ?_; rintro e w9 ⟨rfl, b9⟩; have z0 := cell_below b9 z0; have z1 := cell_below b9 z1; have z2 := cell_below b9 z2; have z3 := cell_below b9 z3; have z4 := cell_below b9 z4; have z5 := cell_below b9 z5; have z6 := cell_below b9 z6; have z7 := cell_below b9 z7; have HF7 := Lib.hid (HF7.out.next b9); have HR7 := Lib.hid (HR7.out.below' b9); clear b9))
              all_goals
                go_wp2_with fail
                obtain ⟨i0, hi0, hz0, hz1, hz2⟩ := info_parts infoInt
                have HI := Lib.hid (And.intro hi0 (And.intro hz0 (And.intro hz1 hz2)))
                obtain ⟨i1, hi0, hz0, hz1, hz2⟩ := info_parts infoStep
                have HJ := Lib.hid (And.intro hi0 (And.intro hz0 (And.intro hz1 hz2)))
                clear hi0 hz0 hz1 hz2 hdn hbd g0 g1 nu d0 d1 d2 s0 s1 HCALL
                have hb9 := HF7.out.blocks
                have hne1 : gv ≠ gn := by omega
                have hne2 : gv ≠ gs := by omega
                go_cut [] (fun wc => ∃ gn2 nc2, Hid (FDW wb wc gv gn2 nc2 gs bc (keysX y ++ [v]) (byX y)))
                case first =>
                  go_region_law (first
                    | (go_simp; go_at_call 66; refine (rto_at n b ao cap Z p q a w9.drew (HR7.out.below' (below_drew (Below.refl w9.heap.size w9))) HA.out hz).mono ?_; rintro e w10 ⟨rfl, b10⟩; rw [HEE.out]; have y0 := cell_below (w := w9.drew) b10 z0; have y1 := cell_below (w := w9.drew) b10 z1; have y2 := cell_below (w := w9.drew) b10 z2; have y3 := cell_below (w := w9.drew) b10 z3; have y4 := cell_below (w := w9.drew) b10 z4; have y5 := cell_below (w := w9.drew) b10 z5; have yq := cell_alloc y5 (.cells #[.int .i64 (v : Int)] 3); have HF10 := Lib.hid ((HF7.out.next (below_drew (Below.refl w9.heap.size w9))).next b10); have HO10 := Lib.hid HF10.out.ownN; have hs10 := HF10.out.blocks; clear b10; go_wp2_with fail)
                    | (refine step_append_lies _ (by rfl) _ _ _ (by rfl) wb.heap.size 3 i0 _ 1 8 Tryz.underlying51 HI.out.1 HI.out.2.1 HI.out.2.2.1 HI.out.2.2.2 rfl (by omega) (.slice (some ⟨gn, 0, none⟩) (keysX y).length nc) (keysX y).length ((natI (keysX y)).map encI) (by rfl) (HO10.out.alloc _) ⟨w10.heap.size, 0, none⟩ 1 1 [.int .i64 (v : Int)] (by rfl) (by rfl) (World.news_of_block (cs := #[.int .i64 (v : Int)]) (t := 3) (fr := (0, 0)) (heap_alloc_new w10 _)) (by simp [Value.oneCell']) (by omega) (by unfold maxLen; omega) (by omega) (by simp; omega) (w10.heap.size + 1) (by simp) ?_; intro g11 cap11 w11 ho11 hg11 hl11 hlt11; have HFA := Lib.hid (HF10.out.next ((Below.refl _ w10).alloc (Nat.le_refl _) (.cells #[.int .i64 (v : Int)] 3))); have hv11 := (Kept.of_grown (S := fun i => i = gn) hg11 (fun k e => (Option.some.inj e).symm)).old HFA.out.var hne1; have r0 := cell_whole hv11 0; have r1 := frozen_whole hv11 0; have HO11 := Lib.hid (ownI_snoc ho11); have HG11 := Lib.hid hg11; have HL11 := Lib.hid hl11; clear hv11 ho11 hg11 hl11))
                  all_goals
                    go_wp2
                    go_meet
                    exact ⟨g11, cap11, Lib.hid (HFA.out.addN HO11.out HG11.out (by simpa [Value.ownBlock] using HL11.out))⟩
                case rest =>
                  obtain ⟨gn2, nc2, HF2⟩ := hcut
                  have c1 := cell_whole HF2.out.var 1
                  have c1a := cell_alloc (b := gv) (o := 1) (v := .slice (some ⟨gs, 0, none⟩) (byX y).length bc) c1 (.cells #[.int .i64 (p : Int), .bool q] 73)
                  have s0 := cell_below' (HF2.out.below HB0.out hgb) HT01.out.1 hlb
                  have s1 := cell_below' (HF2.out.below HB0.out hgb) HT01.out.2 hlb
                  have HOS : Hid (wc.ownsRow wb.heap.size 73 2 (.slice (some ⟨gs, 0, none⟩) (byX y).length bc) (byX y).length ((byX y).flatMap encS)) := Lib.hid HF2.out.byy
                  have hb2 := HF2.out.blocks
                  clear z0 z1 z2 z3 z4 z5 z6 z7
                  go_wp2_with fail
                  go_region_law (refine step_append_lies _ (by rfl) _ _ _ (by rfl) wb.heap.size 73 i1 _ 2 16 Tryz.underlying74 HJ.out.1 HJ.out.2.1 HJ.out.2.2.1 HJ.out.2.2.2 rfl (by omega) (.slice (some ⟨gs, 0, none⟩) (byX y).length bc) (byX y).length ((byX y).flatMap encS) (by rfl) ((HOS.out.alloc _).drew) ⟨wc.heap.size, 0, none⟩ 1 1 (encS ((p : Int), q)) (by rfl) (by rfl) (World.news_of_block (cs := #[.int .i64 (p : Int), .bool q]) (t := 73) (fr := (0, 0)) (heap_alloc_new wc _)) (encS_one _) (by omega) (by unfold maxLen; omega) (by omega) (by simp; omega) (wc.heap.size + 1) (by simp) ?_; intro g12 cap12 w12 ho12 hg12 hl12 hlt12; have HFB := Lib.hid ((HF2.out.next ((Below.refl _ wc).alloc (Nat.le_refl _) (.cells #[.int .i64 (p : Int), .bool q] 73))).next (below_drew (Below.refl _ _))); have hv12 := (Kept.of_grown (S := fun i => i = gs) hg12 (fun k e => (Option.some.inj e).symm)).old HFB.out.var hne2; have r0 := cell_whole hv12 1; have r1 := frozen_whole hv12 1; have HO12 := Lib.hid (ownS_snoc ho12); have HG12 := Lib.hid hg12; have HL12 := Lib.hid hl12; clear hv12 ho12 hg12 hl12)
                  all_goals
                    go_wp2
                    go_roundw
                    case rel => exact ⟨k + 1, gn2, nc2, g12, cap12, y ++ [(v, ((p : Int), q), i)], by go_num, by omega, by simp; omega, HY2, HSY2, HYE2, Lib.hid (by rw [HKK.out, HTT2.out]; exact HFB.out.addS HO12.out HG12.out (by simpa [Value.ownBlock] using HL12.out))⟩
                    case measure => simp [intOf]; omega
            · have hdn : decide (hI < 0) = false := decide_eq_false hnew
              have hin : v ∈ keysX y := Classical.byContradiction fun h => hnew (hneg.2 h)
              have HY2 : Hid (y = expX (fromS Z) (toS Z) (L.take (k + 1)) u i x) := Lib.hid (by
                rw [HTK.out, expX_app, ← HY.out]
                show y = addX (fromS Z) (toS Z) u i y _
                unfold addX
                rw [if_neg (fun h => h.2 (by rw [HVV.out]; exact hin))])
              have HSY2 : Hid (SK (fromS Z) (toS Z) L s y i (L.take (k + 1))) := Lib.hid (by
                rw [HTK.out]
                have h1 := HSY.out.add HYE.out HSL.out
                have e1 : addX (fromS Z) (toS Z) e.1 i y ((p : Int), q) = y := by unfold addX; rw [if_neg (fun h => h.2 (by rw [HVV.out]; exact hin))]
                rwa [e1] at h1)
              clear hneg hin
              go_wp2_with fail
              go_region_held3 (fun W => W.cell? ⟨w.heap.size, 0, none⟩ = some (.int .i64 n) ∧ W.cell? ⟨w.heap.size, 1, none⟩ = some (.bool b) ∧ W.cell? ⟨w.heap.size, 2, none⟩ = some (.slice ao Z.length cap) ∧ W.cell? ⟨lb, lx + k * 2, none⟩ = some (.int .i64 (p : Int)) ∧ W.cell? ⟨lb, lx + k * 2 + 1, none⟩ = some (.bool q) ∧ W.cell? ⟨gv, 0, none⟩ = some (.slice (some ⟨gn, 0, none⟩) (keysX y).length nc) ∧ W.cell? ⟨gv, 1, none⟩ = some (.slice (some ⟨gs, 0, none⟩) (byX y).length bc) ∧ W.cell? ⟨gn, i, none⟩ = some (.int .i64 (u : Int))) (first | exact ⟨d0, d1, d2, s0, s1, g0, g1, nu⟩ | exact ⟨z0, z1, z2, z3, z4, z5, z6, z7⟩ | go_keep)
                (first
                  | (go_at_call 57; refine HCALL.out.mono ?_; rintro e w7 ⟨rfl, b7⟩; rw [HEB.out]; have z0 := cell_below (w := wr.drew) b7 d0; have z1 := cell_below (w := wr.drew) b7 d1; have z2 := cell_below (w := wr.drew) b7 d2; have z3 := cell_below (w := wr.drew) b7 s0; have z4 := cell_below (w := wr.drew) b7 s1; have z5 := cell_below (w := wr.drew) b7 g0; have z6 := cell_below (w := wr.drew) b7 g1; have z7 := cell_below (w := wr.drew) b7 nu; have HF7 := Lib.hid ((HF.out.next (below_drew (Below.refl wr.heap.size wr))).next b7); have HR7 := Lib.hid ((HRW.out.below' (below_drew (Below.refl wr.heap.size wr))).below' b7); clear b7)
                  | (go_at_call 66; refine (rto_at n b ao cap Z p q a _ HR7.out HA.out hz).mono ?_; rintro e w8 ⟨rfl, b8⟩; rw [HEE.out]; have z0 := cell_below b8 z0; have z1 := cell_below b8 z1; have z2 := cell_below b8 z2; have z3 := cell_below b8 z3; have z4 := cell_below b8 z4; have z5 := cell_below b8 z5; have z6 := cell_below b8 z6; have z7 := cell_below b8 z7; have HF7 := Lib.hid (HF7.out.next b8); have HR7 := Lib.hid (HR7.out.below' b8); clear b8)
                  | (go_at_call 56; refine (rhas_len (some ⟨gn, 0, none⟩) (some ⟨gs, 0, none⟩) nc (byX y).length bc (keysX y).length (keysX y) v hI _ HF7.out.nodes.lstK rfl (by rw [keysX_len]; omega) HHI.out).mono ?_; rintro e w9 ⟨rfl, b9⟩; have z0 := cell_below b9 z0; have z1 := cell_below b9 z1; have z2 := cell_below b9 z2; have z3 := cell_below b9 z3; have z4 := cell_below b9 z4; have z5 := cell_below b9 z5; have z6 := cell_below b9 z6; have z7 := cell_below b9 z7; have HF7 := Lib.hid (HF7.out.next b9); have HR7 := Lib.hid (HR7.out.below' b9); clear b9))
              all_goals
                go_wp2
                go_roundw
                case rel => exact ⟨k + 1, gn, nc, gs, bc, y, by go_num, by omega, hiy, HY2, HSY2, HYE, HF7⟩
                case measure => simp [intOf]; omega
          · have hf1 : ((f : Int) == (u : Int)) = false := by simp; omega
            have hf2 : ¬ (f : Int) = (u : Int) := by omega
            have HY2 : Hid (y = expX (fromS Z) (toS Z) (L.take (k + 1)) u i x) := Lib.hid (by
              rw [HTK.out, expX_app, ← HY.out]
              show y = addX (fromS Z) (toS Z) u i y _
              unfold addX
              rw [if_neg (fun h => hfu (by rw [← HFF.out]; exact h.1))])
            have HSY2 : Hid (SK (fromS Z) (toS Z) L s y i (L.take (k + 1))) := Lib.hid (by
              rw [HTK.out]
              have h1 := HSY.out.add HYE.out HSL.out
              have e1 : addX (fromS Z) (toS Z) e.1 i y ((p : Int), q) = y := by unfold addX; rw [if_neg (fun h => hfu (by rw [← HFF.out, ← HU.out]; exact h.1))]
              rwa [e1] at h1)
            have HCALL := Lib.hid (rfrom_at n b ao cap Z p q a wr.drew (HRW.out.below' (below_drew (Below.refl wr.heap.size wr))) HA.out hz)
            go_wp2_with fail
            refine wp_region_held_drew (S := fun W => W.cell? ⟨w.heap.size, 0, none⟩ = some (.int .i64 n) ∧ W.cell? ⟨w.heap.size, 1, none⟩ = some (.bool b) ∧ W.cell? ⟨w.heap.size, 2, none⟩ = some (.slice ao Z.length cap) ∧ W.cell? ⟨lb, lx + k * 2, none⟩ = some (.int .i64 (p : Int)) ∧ W.cell? ⟨lb, lx + k * 2 + 1, none⟩ = some (.bool q) ∧ W.cell? ⟨gv, 0, none⟩ = some (.slice (some ⟨gn, 0, none⟩) (keysX y).length nc) ∧ W.cell? ⟨gv, 1, none⟩ = some (.slice (some ⟨gs, 0, none⟩) (byX y).length bc) ∧ W.cell? ⟨gn, i, none⟩ = some (.int .i64 (u : Int))) (by kernel_rfl) ⟨d0, d1, d2, s0, s1, g0, g1, nu⟩ (fun hHeld => ?_)
            refine wpAnyH_take (i := 0) (oi := { dst := some 35, op := Go.Op.load 27 (Go.Operand.tmp 3), type := 27, pos := "ref.go:33", after := #[], guard := none }) (v := .agg #[.int .i64 n, .bool b, .slice ao Z.length cap]) rfl (by kernel_rfl) (by kernel_rfl) (by kernel_rfl) (fun _ _ _ h => h) (Or.inl ⟨by rfl, ?_⟩) (by assumption) ?_
            · (intro w hSw; (try dsimp only at hSw); go_simp)
            try simp only [Act.put, List.setIfInBounds_toArray, List.set_cons_zero, List.set_cons_succ]
            refine wpAnyH_take (i := 1) (oi := { dst := some 36, op := Go.Op.move (Go.Operand.tmp 2), type := 74, pos := "ref.go:33", after := #[], guard := none }) (v := .slice (some ⟨lb, lx, none⟩) L.length lc) rfl (by kernel_rfl) (by kernel_rfl) (by kernel_rfl) (fun _ _ _ h => h) (Or.inl ⟨by rfl, ?_⟩) (by assumption) ?_
            · (intro w hSw; (try dsimp only at hSw); go_simp)
            try simp only [Act.put, List.setIfInBounds_toArray, List.set_cons_zero, List.set_cons_succ]
            refine wpAnyH_take (i := 2) (oi := { dst := some 37, op := Go.Op.move (Go.Operand.tmp 9), type := 3, pos := "ref.go:33", after := #[], guard := none }) (v := .int .i64 (k : Int)) rfl (by kernel_rfl) (by kernel_rfl) (by kernel_rfl) (fun _ _ _ h => h) (Or.inl ⟨by rfl, ?_⟩) (by assumption) ?_
            · (intro w hSw; (try dsimp only at hSw); go_simp)
            try simp only [Act.put, List.setIfInBounds_toArray, List.set_cons_zero, List.set_cons_succ]
            refine wpAnyH_take (i := 3) (oi := { dst := some 38, op := Go.Op.indexAddr 74 (Go.Operand.tmp 36) (Go.Operand.tmp 37), type := 0, pos := "ref.go:33", after := #[{ on := 1, ground := Go.Ground.data }, { on := 2, ground := Go.Ground.data }], guard := none }) (v := .pointer (some ⟨lb, lx + k * 2, none⟩)) rfl (by kernel_rfl) (by kernel_rfl) (by kernel_rfl) (fun _ _ _ h => h) (Or.inl ⟨by rfl, ?_⟩) (by assumption) ?_
            · (intro w hSw; (try dsimp only at hSw); go_simp)
            try simp only [Act.put, List.setIfInBounds_toArray, List.set_cons_zero, List.set_cons_succ]
            refine wpAnyH_take (i := 4) (oi := { dst := some 39, op := Go.Op.load 73 (Go.Operand.tmp 38), type := 73, pos := "ref.go:33", after := #[{ on := 3, ground := Go.Ground.data }], guard := none }) (v := .agg #[.int .i64 (p : Int), .bool q]) rfl (by kernel_rfl) (by kernel_rfl) (by kernel_rfl) (fun _ _ _ h => h) (Or.inl ⟨by rfl, ?_⟩) (by assumption) ?_
            · (intro w hSw; (try dsimp only at hSw); go_simp)
            try simp only [Act.put, List.setIfInBounds_toArray, List.set_cons_zero, List.set_cons_succ]
            refine wpAnyH_take (i := 6) (oi := { dst := some 41, op := Go.Op.fieldAddr 111 (Go.Operand.tmp 7) 0, type := 0, pos := "ref.go:33", after := #[], guard := none }) (v := .pointer (some ⟨gv, 0, none⟩)) rfl (by kernel_rfl) (by kernel_rfl) (by kernel_rfl) (fun _ _ _ h => h) (Or.inl ⟨by rfl, ?_⟩) (by assumption) ?_
            · (intro w hSw; (try dsimp only at hSw); go_simp)
            try simp only [Act.put, List.setIfInBounds_toArray, List.set_cons_zero, List.set_cons_succ]
            refine wpAnyH_take (i := 7) (oi := { dst := some 42, op := Go.Op.load 51 (Go.Operand.tmp 41), type := 51, pos := "ref.go:33", after := #[{ on := 6, ground := Go.Ground.data }], guard := none }) (v := .slice (some ⟨gn, 0, none⟩) (keysX y).length nc) rfl (by kernel_rfl) (by kernel_rfl) (by kernel_rfl) (fun _ _ _ h => h) (Or.inl ⟨by rfl, ?_⟩) (by assumption) ?_
            · (intro w hSw; (try dsimp only at hSw); go_simp)
            try simp only [Act.put, List.setIfInBounds_toArray, List.set_cons_zero, List.set_cons_succ]
            refine wpAnyH_take (i := 8) (oi := { dst := some 43, op := Go.Op.move (Go.Operand.tmp 8), type := 3, pos := "ref.go:33", after := #[], guard := none }) (v := .int .i64 (i : Int)) rfl (by kernel_rfl) (by kernel_rfl) (by kernel_rfl) (fun _ _ _ h => h) (Or.inl ⟨by rfl, ?_⟩) (by assumption) ?_
            · (intro w hSw; (try dsimp only at hSw); go_simp)
            try simp only [Act.put, List.setIfInBounds_toArray, List.set_cons_zero, List.set_cons_succ]
            refine wpAnyH_take (i := 9) (oi := { dst := some 44, op := Go.Op.indexAddr 51 (Go.Operand.tmp 42) (Go.Operand.tmp 43), type := 0, pos := "ref.go:33", after := #[{ on := 7, ground := Go.Ground.data }, { on := 8, ground := Go.Ground.data }], guard := none }) (v := .pointer (some ⟨gn, i, none⟩)) rfl (by kernel_rfl) (by kernel_rfl) (by kernel_rfl) (fun _ _ _ h => h) (Or.inl ⟨by rfl, ?_⟩) (by assumption) ?_
            · (intro w hSw; (try dsimp only at hSw); go_simp)
            try simp only [Act.put, List.setIfInBounds_toArray, List.set_cons_zero, List.set_cons_succ]
            refine wpAnyH_take (i := 10) (oi := { dst := some 45, op := Go.Op.load 3 (Go.Operand.tmp 44), type := 3, pos := "ref.go:33", after := #[{ on := 9, ground := Go.Ground.data }], guard := none }) (v := .int .i64 (u : Int)) rfl (by kernel_rfl) (by kernel_rfl) (by kernel_rfl) (fun _ _ _ h => h) (Or.inl ⟨by rfl, ?_⟩) (by assumption) ?_
            · (intro w hSw; (try dsimp only at hSw); go_simp)
            try simp only [Act.put, List.setIfInBounds_toArray, List.set_cons_zero, List.set_cons_succ]
            refine wpAnyH_ready (rs := [5]) (by kernel_rfl) (by simp) (AllReadyH.cons (o := { dst := some 40, op := Go.Op.call { callee := Go.Callee.value (Go.Operand.func 57), args := #[Go.Operand.tmp 35, Go.Operand.tmp 39], argTypes := #[27, 73] }, type := 3, pos := "ref.go:33", after := #[{ on := 0, ground := Go.Ground.data }, { on := 4, ground := Go.Ground.data }], guard := none }) rfl (fun K hK => ?_) AllReadyH.nil)
            go_simp
            refine HCALL.out.mono ?_
            rintro e w7 ⟨rfl, b7⟩
            rw [HEB.out]
            have hn7 : w7.cell? ⟨w.heap.size, 0, none⟩ = some (.int .i64 n) ∧ w7.cell? ⟨w.heap.size, 1, none⟩ = some (.bool b) ∧ w7.cell? ⟨w.heap.size, 2, none⟩ = some (.slice ao Z.length cap) ∧ w7.cell? ⟨lb, lx + k * 2, none⟩ = some (.int .i64 (p : Int)) ∧ w7.cell? ⟨lb, lx + k * 2 + 1, none⟩ = some (.bool q) ∧ w7.cell? ⟨gv, 0, none⟩ = some (.slice (some ⟨gn, 0, none⟩) (keysX y).length nc) ∧ w7.cell? ⟨gv, 1, none⟩ = some (.slice (some ⟨gs, 0, none⟩) (byX y).length bc) ∧ w7.cell? ⟨gn, i, none⟩ = some (.int .i64 (u : Int)) := ⟨cell_below (w := wr.drew) b7 d0, cell_below (w := wr.drew) b7 d1, cell_below (w := wr.drew) b7 d2, cell_below (w := wr.drew) b7 s0, cell_below (w := wr.drew) b7 s1, cell_below (w := wr.drew) b7 g0, cell_below (w := wr.drew) b7 g1, cell_below (w := wr.drew) b7 nu⟩
            have HF7 := Lib.hid ((HF.out.next (below_drew (Below.refl wr.heap.size wr))).next b7)
            clear b7 hHeld
            go_wp2_with fail
            refine hK.out _ _ hn7 (fun hHeld => ?_)
            clear hK
            try simp only [Act.put, List.setIfInBounds_toArray, List.set_cons_zero, List.set_cons_succ]
            refine wpAnyH_take (i := 11) (oi := { dst := some 46, op := Go.Op.binOp Go.BinOp.eql 3 (Go.Operand.tmp 40) (Go.Operand.tmp 45) 3, type := 4, pos := "ref.go:33", after := #[{ on := 5, ground := Go.Ground.data }, { on := 10, ground := Go.Ground.data }], guard := none }) (v := .bool false) rfl (by kernel_rfl) (by kernel_rfl) (by kernel_rfl) (fun _ _ _ h => h) (Or.inl ⟨by rfl, ?_⟩) (by assumption) ?_
            · (intro w hSw; (try dsimp only at hSw); go_simp)
            try simp only [Act.put, List.setIfInBounds_toArray, List.set_cons_zero, List.set_cons_succ]
            refine wpAnyH_take (i := 12) (oi := { dst := some 47, op := Go.Op.move (Go.Operand.tmp 46), type := 4, pos := "ref.go:33", after := #[{ on := 11, ground := Go.Ground.data }, { on := 5, ground := Go.Ground.chain }], guard := none }) (v := .bool false) rfl (by kernel_rfl) (by kernel_rfl) (by kernel_rfl) (fun _ _ _ h => h) (Or.inl ⟨by rfl, ?_⟩) (by assumption) ?_
            · (intro w hSw; (try dsimp only at hSw); go_simp)
            try simp only [Act.put, List.setIfInBounds_toArray, List.set_cons_zero, List.set_cons_succ]
            refine wpAnyH_take (i := 13) (oi := { dst := some 48, op := Go.Op.load 111 (Go.Operand.tmp 7), type := 111, pos := "ref.go:33", after := #[{ on := 12, ground := Go.Ground.guard }], guard := some (12, true) }) (v := undef) rfl (by kernel_rfl) (by kernel_rfl) (by kernel_rfl) (fun _ _ _ h => h) (Or.inr ⟨by simp [Region.wanted, yielded], rfl⟩) (by assumption) ?_
            try simp only [Act.put, List.setIfInBounds_toArray, List.set_cons_zero, List.set_cons_succ]
            refine wpAnyH_take (i := 14) (oi := { dst := some 49, op := Go.Op.load 27 (Go.Operand.tmp 3), type := 27, pos := "ref.go:33", after := #[{ on := 12, ground := Go.Ground.guard }], guard := some (12, true) }) (v := undef) rfl (by kernel_rfl) (by kernel_rfl) (by kernel_rfl) (fun _ _ _ h => h) (Or.inr ⟨by simp [Region.wanted, yielded], rfl⟩) (by assumption) ?_
            try simp only [Act.put, List.setIfInBounds_toArray, List.set_cons_zero, List.set_cons_succ]
            refine wpAnyH_take (i := 15) (oi := { dst := some 50, op := Go.Op.move (Go.Operand.tmp 2), type := 74, pos := "ref.go:33", after := #[{ on := 12, ground := Go.Ground.guard }], guard := some (12, true) }) (v := undef) rfl (by kernel_rfl) (by kernel_rfl) (by kernel_rfl) (fun _ _ _ h => h) (Or.inr ⟨by simp [Region.wanted, yielded], rfl⟩) (by assumption) ?_
            try simp only [Act.put, List.setIfInBounds_toArray, List.set_cons_zero, List.set_cons_succ]
            refine wpAnyH_take (i := 16) (oi := { dst := some 51, op := Go.Op.move (Go.Operand.tmp 9), type := 3, pos := "ref.go:33", after := #[{ on := 12, ground := Go.Ground.guard }], guard := some (12, true) }) (v := undef) rfl (by kernel_rfl) (by kernel_rfl) (by kernel_rfl) (fun _ _ _ h => h) (Or.inr ⟨by simp [Region.wanted, yielded], rfl⟩) (by assumption) ?_
            try simp only [Act.put, List.setIfInBounds_toArray, List.set_cons_zero, List.set_cons_succ]
            refine wpAnyH_take (i := 17) (oi := { dst := some 52, op := Go.Op.indexAddr 74 (Go.Operand.tmp 50) (Go.Operand.tmp 51), type := 0, pos := "ref.go:33", after := #[{ on := 15, ground := Go.Ground.data }, { on := 16, ground := Go.Ground.data }, { on := 12, ground := Go.Ground.guard }], guard := some (12, true) }) (v := undef) rfl (by kernel_rfl) (by kernel_rfl) (by kernel_rfl) (fun _ _ _ h => h) (Or.inr ⟨by simp [Region.wanted, yielded], rfl⟩) (by assumption) ?_
            try simp only [Act.put, List.setIfInBounds_toArray, List.set_cons_zero, List.set_cons_succ]
            refine wpAnyH_take (i := 18) (oi := { dst := some 53, op := Go.Op.load 73 (Go.Operand.tmp 52), type := 73, pos := "ref.go:33", after := #[{ on := 17, ground := Go.Ground.data }, { on := 12, ground := Go.Ground.guard }], guard := some (12, true) }) (v := undef) rfl (by kernel_rfl) (by kernel_rfl) (by kernel_rfl) (fun _ _ _ h => h) (Or.inr ⟨by simp [Region.wanted, yielded], rfl⟩) (by assumption) ?_
            try simp only [Act.put, List.setIfInBounds_toArray, List.set_cons_zero, List.set_cons_succ]
            refine wpAnyH_take (i := 19) (oi := { dst := some 54, op := Go.Op.call { callee := Go.Callee.value (Go.Operand.func 66), args := #[Go.Operand.tmp 49, Go.Operand.tmp 53], argTypes := #[27, 73] }, type := 3, pos := "ref.go:33", after := #[{ on := 14, ground := Go.Ground.data }, { on := 18, ground := Go.Ground.data }, { on := 12, ground := Go.Ground.chain }, { on := 12, ground := Go.Ground.guard }], guard := some (12, true) }) (v := undef) rfl (by kernel_rfl) (by kernel_rfl) (by kernel_rfl) (fun _ _ _ h => h) (Or.inr ⟨by simp [Region.wanted, yielded], rfl⟩) (by assumption) ?_
            try simp only [Act.put, List.setIfInBounds_toArray, List.set_cons_zero, List.set_cons_succ]
            refine wpAnyH_take (i := 20) (oi := { dst := some 55, op := Go.Op.call { callee := Go.Callee.value (Go.Operand.func 56), args := #[Go.Operand.tmp 48, Go.Operand.tmp 54], argTypes := #[111, 3] }, type := 3, pos := "ref.go:33", after := #[{ on := 13, ground := Go.Ground.data }, { on := 19, ground := Go.Ground.data }, { on := 19, ground := Go.Ground.chain }, { on := 12, ground := Go.Ground.guard }], guard := some (12, true) }) (v := undef) rfl (by kernel_rfl) (by kernel_rfl) (by kernel_rfl) (fun _ _ _ h => h) (Or.inr ⟨by simp [Region.wanted, yielded], rfl⟩) (by assumption) ?_
            try simp only [Act.put, List.setIfInBounds_toArray, List.set_cons_zero, List.set_cons_succ]
            refine wpAnyH_take (i := 21) (oi := { dst := some 56, op := Go.Op.binOp Go.BinOp.lss 3 (Go.Operand.tmp 55) (Go.Operand.const (Go.Value.int Go.IntKind.i64 0)) 3, type := 4, pos := "ref.go:33", after := #[{ on := 20, ground := Go.Ground.data }, { on := 12, ground := Go.Ground.guard }], guard := some (12, true) }) (v := undef) rfl (by kernel_rfl) (by kernel_rfl) (by kernel_rfl) (fun _ _ _ h => h) (Or.inr ⟨by simp [Region.wanted, yielded], rfl⟩) (by assumption) ?_
            try simp only [Act.put, List.setIfInBounds_toArray, List.set_cons_zero, List.set_cons_succ]
            refine wpAnyH_take (i := 22) (oi := { dst := some 57, op := Go.Op.pick (Go.Operand.tmp 47) (Go.Operand.tmp 56) (Go.Operand.const (Go.Value.bool false)), type := 4, pos := "ref.go:33", after := #[{ on := 12, ground := Go.Ground.data }, { on := 21, ground := Go.Ground.data }], guard := none }) (v := .bool false) rfl (by kernel_rfl) (by kernel_rfl) (by kernel_rfl) (fun _ _ _ h => h) (Or.inl ⟨by rfl, ?_⟩) (by assumption) ?_
            · (intro w hSw; (try dsimp only at hSw); go_simp)
            try simp only [Act.put, List.setIfInBounds_toArray, List.set_cons_zero, List.set_cons_succ]
            refine wpAnyH_done (by kernel_rfl) ?_ _
            all_goals
              go_wp2
              go_roundw
              case rel => exact ⟨k + 1, gn, nc, gs, bc, y, by go_num, by omega, hiy, HY2, HSY2, HYE, HF7⟩
              case measure => simp [intOf]; omega
        · have hli2 : ¬ (k : Int) < (L.length : Int) := by omega
          obtain rfl : k = L.length := by omega
          have HX2 : Hid (y = seekK (fromS Z) (toS Z) L s (i + 1)) := Lib.hid (by
            have h1 := HY.out
            rw [List.take_length] at h1
            have h2 := HXE.out
            rw [HX.out] at h2
            rw [seek_next h2, ← HX.out, HU.out]
            exact h1)
          have HS2 : Hid (SK (fromS Z) (toS Z) L s y (i + 1) []) := Lib.hid (by
            have h1 := HSY.out
            rw [List.take_length] at h1
            exact h1.next HYE.out)
          have hyN := seek_len HSY.out hs HT.out
          go_wp2
          go_roundw
          case rel => exact ⟨i + 1, gn, nc, gs, bc, y, by go_num, by omega, hyN, HX2, HS2, HF⟩
          case measure => simp [intOf]; omega
    · have hli : ¬ (i : Int) < (x.length : Int) := by omega
      obtain rfl : i = x.length := by omega
      have HXN : Hid (seekK (fromS Z) (toS Z) L s N = x) := Lib.hid (by
        have h2 := seek_last (s := s) (i := x.length) (N := N) (by rw [← HX.out]; exact Nat.le_refl _) hxN
        rw [h2, ← HX.out])
      have hv1 := HF.out.kept.old HV.out (by show w.heap.size + 1 ≠ gv; omega)
      have m0 := cell_whole hv1 0
      have m1 := cell_whole hv1 1
      have f0 := frozen_whole hv1 0
      have f1 := frozen_whole hv1 1
      have HV1 := Lib.hid hv1
      clear hv1
      go_wp2
      have hs1 := set_whole (set_whole HV1.out 0 (.slice (some ⟨gn, 0, none⟩) x.length nc)) 1 (.slice (some ⟨gs, 0, none⟩) x.length bc)
      have hk1 : Kept (fun i => i = w.heap.size + 1) wr ((wr.setCell ⟨w.heap.size + 1, 0, none⟩ (.slice (some ⟨gn, 0, none⟩) x.length nc)).setCell ⟨w.heap.size + 1, 1, none⟩ (.slice (some ⟨gs, 0, none⟩) x.length bc)) := ((Kept.refl (fun i => i = w.heap.size + 1) wr).set (.inl rfl) _).set (.inl rfl) _
      have HB1 := Lib.hid (HF.out.below HB0.out hgb)
      have hbk := HF.out.blocks
      clear m0 m1 f0 f1 g0 g1
      generalize (wr.setCell ⟨w.heap.size + 1, 0, none⟩ (.slice (some ⟨gn, 0, none⟩) x.length nc)).setCell ⟨w.heap.size + 1, 1, none⟩ (.slice (some ⟨gs, 0, none⟩) x.length bc) = W at *
      have r0 := cell_whole hs1 0
      have r1 := cell_whole hs1 1
      refine bodyPost_ret (v := .agg #[.slice (some ⟨gn, 0, none⟩) x.length nc, .slice (some ⟨gs, 0, none⟩) x.length bc]) (by simp [results, Tryz.results55, go_sem, r0, r1]) rfl ?_
      rw [HXN.out]
      have hn := ownL_kept HF.out.nodes hk1 (fun g e => by simp [Value.ownBlock] at e; show g ≠ w.heap.size + 1; omega)
      have hb := HF.out.byy.kept hk1 (by show gs ≠ w.heap.size + 1; omega)
      exact ⟨gn, nc, gs, bc, rfl, hn.lstK, own_rowK encS_len hb, HB1.out.trans (hk1.below HB1.out.size (fun i e => by have e2 : i = w.heap.size + 1 := e; omega))⟩
end
end Go.Proofs.YtlkbohpnlbfopaaGreat
namespace Go.Proofs.YtlkbohpnlbfopaaGreat
open Go.RowKit
set_option linter.unusedVariables false
theorem pushedL_len (k : Int) : ∀ (L : List StepT) (F : List Int), (pushedL k F L).length = F.length
  | [], F => rfl
  | x :: r, F => by
    show (pushedL k (stepTo k F x) r).length = _
    rw [pushedL_len k r, stepTo_len]
theorem pushedL_take {k : Int} {F : List Int} {L : List StepT} {m : Nat} (hm : m < L.length) : pushedL k F (L.take (m + 1)) = stepTo k (pushedL k F (L.take m)) L[m] := by
  rw [List.take_succ_eq_append_getElem hm]
  unfold pushedL
  rw [List.foldl_append]
  rfl
theorem pushL_take {Z : List ArcT} {k : Int} : ∀ (L : List StepT) (F : List Int) (m : Nat), (pushL Z k F L).1 = 0 → (pushL Z k F (L.take m)).1 = 0
  | [], F, m, _ => by simp [pushL]
  | x :: r, F, 0, _ => rfl
  | x :: r, F, m + 1, h => by
    have hx : isArc Z x := Classical.byContradiction fun hx => by unfold pushL at h; rw [if_neg hx] at h; cases h
    have hl : ¬ leftS Z F x < k := fun hl => by unfold pushL at h; rw [if_pos hx, if_pos hl] at h; cases h
    have e : ∀ l, pushL Z k F (x :: l) = pushL Z k (stepTo k F x) l := fun l => by show (if _ then _ else _) = _; rw [if_pos hx, if_neg hl]
    rw [e] at h
    rw [List.take_succ_cons, e]
    exact pushL_take r _ m h
theorem pushed_flow {Z : List ArcT} {k : Int} {F : List Int} {L : List StepT} (hk : 0 ≤ k) (hF : Flow Z F) (h : (pushL Z k F L).1 = 0) (m : Nat) : Flow Z (pushedL k F (L.take m)) := by
  have h1 := pushL_take L F m h
  have h2 := pushL_flow hk _ F hF h1
  rw [pushed_of _ F h1] at h2
  exact h2
section
variable (fo lo : Option Addr) (fc lc : Nat) (F : List Int) (L : List StepT)
set_option maxRecDepth 100000 in
set_option maxHeartbeats 4000000 in
theorem rpushed_any (k : Int) (w : World) (hf : Lst encI w fo F) (hl : Row encS 2 w lo L) (hnil : fo = none → fc = 0) (hll : L.length ≤ 200000) (hfl : F.length ≤ 200000) (hk0 : -8796093022208 ≤ k) (hk1 : k ≤ 8796093022208) (hL : ∀ y ∈ L, ∃ (p : Nat) (q : Bool), y = ((p : Int), q) ∧ p < F.length)
    (hb : ∀ m, m ≤ L.length → ∀ p, p < F.length → -8796093022208 ≤ atI (pushedL k F (L.take m)) p ∧ atI (pushedL k F (L.take m)) p ≤ 8796093022208) :
    Calls Tryz.prog 36 #[.slice fo F.length fc, .slice lo L.length lc, .int .i64 k] w fun e w' => ∃ fo' fc', e = .returned (.slice fo' F.length fc') ∧ Lst encI w' fo' (pushedL k F L) ∧ (fo' = none → fc' = 0) ∧ Below w.heap.size w w' := by
  have HF := Lib.hid hf
  have HS := Lib.hid hl
  have HNL := Lib.hid hnil
  have HLO := Lib.hid hL
  have HBD := Lib.hid hb
  clear hf hl hnil hL hb
  go_enter Tryz.func36, Tryz.ntmps36
  go_wp2_with (first
    | (at_builtin; refine wpList_append_all rfl _ _ rfl fo fc F rfl rfl HF.out HNL.out hfl ?_; intro v w2 ho2 hb2; have HW2 := Lib.hid (RW.mk hb2 ho2); clear ho2 hb2))
  obtain ⟨fa, ca, hv, _⟩ := HW2.out.own.lst
  subst hv
  go_loopw [8] (fun i wr => ∃ m : Nat, m ≤ L.length ∧ i = .int .i64 (m : Int) ∧ Hid (RW w wr (.slice fa F.length ca) (pushedL k F (L.take m)))) (fun i _ => L.length - (intOf i).toNat)
  case atStart => exact ⟨0, Nat.zero_le _, rfl, HW2⟩
  case round =>
    clear HW2
    obtain ⟨m, hm, rfl, HP⟩ := hrel
    have HFN := Lib.hid (pushedL_len k (L.take m) F)
    by_cases hlt : m < L.length
    · have hli : (m : Int) < (L.length : Int) := by omega
      obtain ⟨lb, lx, e, hlb, s0, s1⟩ := step_at (HS.out.below' HP.out.below) (List.getElem?_eq_getElem hlt)
      cases e
      have HTK := Lib.hid (pushedL_take (k := k) (F := F) hlt)
      obtain ⟨p, q, hpq, hp⟩ := HLO.out _ (List.getElem_mem hlt)
      obtain ⟨b0, b1⟩ := HBD.out m hm p hp
      obtain ⟨b2, b3⟩ := HBD.out (m + 1) hlt p hp
      generalize L[m] = y at *
      subst hpq
      have hST : stepTo k (pushedL k F (L.take m)) ((p : Int), q) = (pushedL k F (L.take m)).set p (if q then atI (pushedL k F (L.take m)) p - k else atI (pushedL k F (L.take m)) p + k) := by unfold stepTo; simp
      rw [HTK.out, hST, atI_set (by rw [HFN.out]; exact hp), if_pos rfl] at b2 b3
      have HST := Lib.hid hST
      have hpi : (p : Int) < (F.length : Int) := by omega
      have hX := atI_get (d := pushedL k F (L.take m)) (v := p) (by rw [HFN.out]; exact hp)
      obtain ⟨g, cg, e, hgb, hgl⟩ := HP.out.own.some (by rw [HFN.out]; omega)
      injection e with e3 e4 e5
      subst e3
      subst e5
      clear e4
      obtain ⟨cy, fy⟩ := HP.out.own.cell hX
      unfold encI at cy
      simp only at s0 s1
      clear hST hX
      generalize pushedL k F (L.take m) = G at *
      generalize atI G p = x at *
      cases q
      all_goals
        simp only [Bool.false_eq_true, if_false, if_true] at b2 b3
        go_wp2_with fail
        go_region
        go_wp2
        go_roundw
        case rel => exact ⟨m + 1, by omega, by go_num, Lib.hid (by rw [HTK.out, HST.out]; exact (HP.out.put p _).drew)⟩
        case measure => simp [intOf]; omega
    · have hli : ¬ (m : Int) < (L.length : Int) := by omega
      obtain rfl : m = L.length := by omega
      rw [List.take_length] at HP HFN
      go_wp2
      go_ret
      refine ⟨fa, ca, rfl, HP.out.own.lstK, ?_, HP.out.below⟩
      intro e
      subst e
      rcases HP.out.own.2 with ⟨h0, _⟩ | ⟨g', cap', cur, e1, _⟩
      · injection h0
      · cases e1
end
end Go.Proofs.YtlkbohpnlbfopaaGreat
