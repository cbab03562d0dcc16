/- The document's cycle of layer 13: the first arc from whose end its beginning is come to, and the way there. -/
import Derived.Test.YtmflleifglefiaaDTkn
import Derived.BigQuiet
import Derived.Deep.QuietTactic
import Derived.Deep.RegionHeld3
namespace Go.Proofs.Ytmflleifglefiaa
open Go.RowKit
set_option linter.unusedVariables false

/-- All numbers of a list are appended to a row of a call's own. -/
theorem wpList_append_more {w : World} {ops : Array Oper} {rest : List Oper} {o : Oper} {a : Act} {Q : Exit → Act → World → Prop} (hgd : o.guard = none) (s y : Operand)
    (ho : o.op = .call { callee := .builtin .append, args := #[s, y], argTypes := #[25, 25] }) (base : Nat) (v : Value) (A : List Int) (hs : a.eval s = v) (hown : OwnL encI w base 3 v A)
    (fo : Option Addr) (fc : Nat) (F : List Int) (hx : a.eval y = .slice fo F.length fc) (hf : Lst encI w fo F) (h0 : 0 < F.length) (hl : A.length + F.length ≤ 200000) (hbase : base ≤ w.heap.size)
    (hK : ∀ v' w', OwnL encI w' base 3 v' (A ++ F) → Below base w w' → wpList Try.prog ops Q rest (a.put o.dst v') w') : wpList Try.prog ops Q (o :: rest) a w := by
  obtain ⟨i0, hi, hz0, hz1, hz2⟩ := info_parts infoInt
  cases fo with
  | none => obtain ⟨_, _, e, _⟩ := hf 0 h0; cases e
  | some ad =>
    have hown' : w.ownsRow base 3 1 v A.length (A.map encI) := hown
    refine wpList_append_own_at w hgd s y 25 ho base 3 i0 (.int .i64 0) 1 8 Try.underlying25 hi hz0 hz1 hz2 rfl (by decide) v A.length (A.map encI) hs hown' ad F.length fc (F.map encI) hx (by simp) ?_ (encI_ones rfl) (by unfold maxLen; omega) (by omega) hbase ?_
    · intro j u hj
      have hp : 0 < (F.map encI).length := by rw [List.length_map]; exact h0
      obtain ⟨ad', e, h1⟩ := lst_src hf rfl hp
      cases e
      exact h1 j u hj
    · intro v' w' h1 h2 h3 _
      refine hK v' w' ?_ ((Below.refl _ w).grown h2 hbase (fun j hj => own_block hown' hj))
      unfold OwnL
      rw [List.length_append, List.map_append]
      exact h1
theorem cycFrom_skip {Z : List ArcT} {N : Nat} {f : List Int} {i m : Nat} (h : cycAt Z N f i = none) : cycFrom Z N f i (m + 1) = cycFrom Z N f (i + 1) m := by
  show (match cycAt Z N f i with | some l => some l | none => cycFrom Z N f (i + 1) m) = _
  rw [h]
theorem cycFrom_hit {Z : List ArcT} {N : Nat} {f : List Int} {i m : Nat} {l : List StepT} (h : cycAt Z N f i = some l) : cycFrom Z N f i (m + 1) = some l := by
  show (match cycAt Z N f i with | some l => some l | none => cycFrom Z N f (i + 1) m) = _
  rw [h]
/-- What cycle tells. -/
def CycRes (Z : List ArcT) (N : Nat) (F : List Int) (w : World) (e : Ending) (w' : World) : Prop :=
  (∃ l v, cycK Z N F = some l ∧ e = .returned (.tuple #[v, .bool true]) ∧ OwnL encI w' w.heap.size 3 v (arcsL l) ∧ Below w.heap.size w w') ∨
  (cycK Z N F = none ∧ e = .returned (.tuple #[.slice none 0 0, .bool false]) ∧ Below w.heap.size w w')
section
variable (n : Int) (b : Bool) (ao fo : Option Addr) (cap fc : Nat) (Z : List ArcT) (F : List Int) (N : Nat)
set_option maxRecDepth 100000 in
set_option maxHeartbeats 8000000 in
theorem rcycle_any (w : World) (h : Row encA 4 w ao Z) (hf : Lst encI w fo F) (hfl : F.length = Z.length) (hz : Z.length ≤ 50000) (hN : N ≤ 100000) (hZ : ∀ a ∈ Z, frN a < N ∧ toN a < N) (hE : ∀ a ∈ Z, a.1 = (frN a : Int) ∧ a.2.1 = (toN a : Int)) (hF0 : ∀ v, 0 ≤ atI F v) :
    Calls Try.prog 28 #[.agg #[.int .i64 n, .bool b, .slice ao Z.length cap], .slice fo F.length fc] w (CycRes Z N F w) := by
  have hb00 := (Below.refl _ w).alloc (Nat.le_refl _) (.cells #[.int .i64 n, .bool b, .slice ao Z.length cap] 24)
  have HB0 := Lib.hid hb00
  have HN0 := Lib.hid (heap_alloc_new w (.cells #[.int .i64 n, .bool b, .slice ao Z.length cap] 24))
  have HR0 := Lib.hid (h.below' hb00)
  have HF0 := Lib.hid (hf.below hb00)
  have HFL := Lib.hid hfl
  have HZ := Lib.hid hZ
  have HE := Lib.hid hE
  have HPOS := Lib.hid hF0
  have hfz : F.length ≤ 50000 := by omega
  have HCY : Hid (cycK Z N F = cycFrom Z N F 0 F.length) := Lib.hid rfl
  obtain ⟨g0, hg0⟩ : ∃ g0, w.heap.size = g0 := ⟨_, rfl⟩
  have HG0 := Lib.hid hg0
  clear h hf hb00 hfl hZ hE hF0
  go_enter Try.func28, Try.ntmps28
  go_wp2
  rw [hg0] at HN0
  generalize w.alloc (.cells #[.int .i64 n, .bool b, .slice ao Z.length cap] 24) = w1 at *
  clear hg0
  have hgl : g0 < w1.heap.size := lt_whole HN0.out
  go_loopw [6] (fun iv wr => ∃ k : Nat, k ≤ F.length ∧ iv = .int .i64 (k : Int) ∧ Hid (cycK Z N F = cycFrom Z N F k (F.length - k)) ∧ Hid (Below w1.heap.size w1 wr)) (fun iv _ => F.length - (intOf iv).toNat)
  case atStart => exact ⟨0, Nat.zero_le _, rfl, HCY, Lib.hid (Below.refl _ _)⟩
  case round =>
    clear HCY
    obtain ⟨k, hk, rfl, HCY, HB⟩ := hrel
    have hsz := HB.out.size
    have hnb := kept_box HN0.out HB.out
    by_cases hlf : k < F.length
    · have hlfi : (k : Int) < (F.length : Int) := by omega
      have hlt : k < Z.length := by rw [← HFL.out]; exact hlf
      have hli : (k : Int) < (Z.length : Int) := by omega
      obtain ⟨fb, fx, e, hfb, d0⟩ := lst_cell (HF0.out.below HB.out) (atI_get (d := F) (v := k) hlf)
      cases e
      unfold encI at d0
      obtain ⟨m, hm⟩ : ∃ m, F.length - k = m + 1 := ⟨F.length - k - 1, by omega⟩
      rw [hm] at HCY
      have HM : Hid (F.length - (k + 1) = m) := Lib.hid (by omega)
      by_cases h0 : atI F k = 0
      · have HC2 : Hid (cycK Z N F = cycFrom Z N F (k + 1) (F.length - (k + 1))) := Lib.hid (by rw [HM.out, HCY.out]; exact cycFrom_skip (by unfold cycAt; rw [if_neg (by omega)]))
        rw [h0] at d0
        go_wp2
        go_roundw
        case rel => exact ⟨k + 1, by omega, by go_num, HC2, HB⟩
        case measure => simp [intOf]; omega
      · have hpos : 0 < atI F k := by have := HPOS.out k; omega
        have hz0 : (atI F k == 0) = false := by simpa using h0
        obtain ⟨ab, ax, e, hab, c0, c1, c2, c3⟩ := (HR0.out.below' HB.out).arc hlt
        cases e
        have hmem : Z[k] ∈ Z := List.getElem_mem hlt
        obtain ⟨a1, a2⟩ := HE.out _ hmem
        obtain ⟨a3, a4⟩ := HZ.out _ hmem
        have hao : arcOf Z ((k : Int), false) = Z[k] := arcOf_nat false (List.getElem?_eq_getElem hlt)
        have HTS : Hid (toS Z ((k : Int), false) = toN Z[k] ∧ fromS Z ((k : Int), false) = frN Z[k]) := Lib.hid (by unfold toS fromS; rw [hao]; exact ⟨rfl, rfl⟩)
        obtain ⟨uf, huf⟩ : ∃ uf, frN Z[k] = uf := ⟨_, rfl⟩
        obtain ⟨ut, hut⟩ : ∃ ut, toN Z[k] = ut := ⟨_, rfl⟩
        rw [huf] at a1 a3 HTS
        rw [hut] at a2 a4 HTS
        have HAT : Hid (cycAt Z N F k = if ut = uf then some [((k : Int), false)] else (wayK (fromS Z) (toS Z) (alongL F) N ut uf).map (fun l => ((k : Int), false) :: l)) := Lib.hid (by unfold cycAt; rw [if_pos hpos, HTS.out.1, HTS.out.2])
        rw [a1] at c0
        rw [a2] at c1
        have x0 := cell_whole hnb 0
        have x1 := cell_whole hnb 1
        have x2 := cell_whole hnb 2
        clear hao huf hut a1 a2 hmem c2 c3
        generalize atI F k = u at *
        go_wp2_with (first
          | (at_builtin; refine wpList_append_one (enc := encI) Try.underlying25 infoInt rfl (by omega) rfl _ _ rfl w1.heap.size _ [] (k : Int) rfl rfl (OwnL.nil _ _ _) _ 1 rfl (cell_new _ _ _ 0) (by simp) (by simp; omega) ?_; intro g4 cap4 w4 ho4 hg4 hl4 hb4 hlt4; have HO4 := Lib.hid ho4; have hbb := (HB.out.alloc hsz (.cells #[.int .i64 (k : Int)] 3)).grown hg4 (by simp; omega) (fun g e => by have e2 : (none : Option Nat) = some g := e; cases e2); have HB4 := Lib.hid hbb; have hb44 := ((Below.refl _ wr).alloc (Nat.le_refl _) (.cells #[.int .i64 (k : Int)] 3)).grown hg4 (by simp) (fun g e => by have e2 : (none : Option Nat) = some g := e; cases e2); have x0 := cell_below hb44 x0; have x1 := cell_below hb44 x1; have x2 := cell_below hb44 x2; have c0 := cell_below hb44 c0; have c1 := cell_below hb44 c1; have HX4 := Lib.hid hb44; clear ho4 hg4 hl4 hbb hb44))
        have hw1 : w.heap.size ≤ w1.heap.size := HB0.out.size
        have HO5 : Hid (OwnL encI w4 w1.heap.size 3 (.slice (some ⟨g4, 0, none⟩) 1 cap4) [(k : Int)]) := HO4
        clear HO4 d0 hnb
        by_cases hc : ut = uf
        · have HCC : Hid (cycK Z N F = some [((k : Int), false)]) := Lib.hid (by rw [HCY.out]; exact cycFrom_hit (by rw [HAT.out, if_pos hc]))
          have hcc : ((uf : Int) == (ut : Int)) = true := by simp [hc]
          subst hc
          go_quiet (fail)
          go_wp2
          go_ret2
          exact .inl ⟨_, _, HCC.out, rfl, (HO5.out.below (below_drewN (Below.refl _ _) _)).mono hw1, below_drewN (HB0.out.trans (HB4.out.mono hw1)) _⟩
        · have hcc : ((uf : Int) == (ut : Int)) = false := by simp; omega
          have hcd : ¬ (uf : Int) = (ut : Int) := by omega
          have HAT2 : Hid (cycAt Z N F k = (wayK (fromS Z) (toS Z) (alongL F) N ut uf).map (fun l => ((k : Int), false) :: l)) := Lib.hid (by rw [HAT.out, if_neg hc])
          have HWN : Hid (∀ l, wayK (fromS Z) (toS Z) (alongL F) N ut uf = some l → 0 < l.length ∧ l.length ≤ 100000) := Lib.hid (fun l hw => by
            obtain ⟨w1', w2, w3, w4'⟩ := way_props a4 (fun y hy => (along_to HZ.out HFL.out y hy).1) hw
            refine ⟨List.length_pos_iff.2 (fun e => ?_), ?_⟩
            · subst e
              exact hc w1'
            · have h1 : l.length = (l.map (toS Z)).length := by simp
              rw [h1]
              have h2 := nodup_le (N := N) w3 (fun v hv => by
                obtain ⟨y, hy, rfl⟩ := List.mem_map.1 hv
                exact (along_to HZ.out HFL.out y (w2 y hy)).1)
              omega)
          obtain ⟨W, hW⟩ : ∃ W, wayK (fromS Z) (toS Z) (alongL F) N ut uf = W := ⟨_, rfl⟩
          have HWE := Lib.hid hW
          rw [hW] at HAT2 HWN
          have HOK : Hid (∀ y ∈ alongL F, ∃ (p : Nat) (a : ArcT) (q : Bool), Z[p]? = some a ∧ y = ((p : Int), q)) := Lib.hid (fun y hy => by
            obtain ⟨h1, h2, h3⟩ := along_arc HFL.out hy
            obtain ⟨y1, y2⟩ := y
            obtain ⟨p, hp, hpl⟩ := isArc_nat h1
            exact ⟨p, Z[p], y2, List.getElem?_eq_getElem hpl, by rw [hp]⟩)
          have HAF : Hid ((alongL F).length ≤ 200000) := Lib.hid (by have := alongK_len F F.length; unfold alongL; omega)
          clear hW HAT
          go_quiet (fail)
          have HO6 := Lib.hid (HO5.out.below (below_drewN (Below.refl w4.heap.size w4) nq))
          have HB6 := Lib.hid (below_drewN HB4.out nq)
          have HX6 := Lib.hid (below_drewN HX4.out nq)
          have x0 : (w4.drewN nq).cell? ⟨g0, 0, none⟩ = some (.int .i64 n) := x0
          have x1 : (w4.drewN nq).cell? ⟨g0, 1, none⟩ = some (.bool b) := x1
          have x2 : (w4.drewN nq).cell? ⟨g0, 2, none⟩ = some (.slice (some ⟨ab, ax, none⟩) Z.length cap) := x2
          have c0 : (w4.drewN nq).cell? ⟨ab, ax + k * 4, none⟩ = some (.int .i64 (uf : Int)) := c0
          have c1 : (w4.drewN nq).cell? ⟨ab, ax + k * 4 + 1, none⟩ = some (.int .i64 (ut : Int)) := c1
          clear HO5 HB4 HX4
          generalize w4.drewN nq = w5 at *
          have HR5 := Lib.hid (HR0.out.below' HB6.out)
          have HF5 := Lib.hid (HF0.out.below HB6.out)
          go_wp2_with fail
          go_cut [8, 9] (fun p8 p9 wc => ∃ a c, p8 = .slice a (W.getD []).length c ∧ p9 = .bool W.isSome ∧ Hid (Row encS 2 wc a (W.getD [])) ∧ Hid (Below w5.heap.size w5 wc))
          case first =>
            go_region_held3 (fun W => W.cell? ⟨g0, 0, none⟩ = some (.int .i64 n) ∧ W.cell? ⟨g0, 1, none⟩ = some (.bool b) ∧ W.cell? ⟨g0, 2, none⟩ = some (.slice (some ⟨ab, ax, none⟩) Z.length cap) ∧ W.cell? ⟨ab, ax + k * 4, none⟩ = some (.int .i64 (uf : Int)) ∧ W.cell? ⟨ab, ax + k * 4 + 1, none⟩ = some (.int .i64 (ut : Int))) (first | exact ⟨x0, x1, x2, c0, c1⟩ | exact ⟨y0, y1, y2, y3, y4⟩ | exact ⟨z0, z1, z2, z3, z4⟩ | go_keep)
              (first
                | (go_at_call 31; refine (ralong_any _ fc F w5.drew (HF5.out.below (below_drew (Below.refl _ _))) (by omega)).mono ?_; rintro e w7 ⟨la, lc, rfl, hl7, b7⟩; have HL7 := Lib.hid hl7; have HB7 := Lib.hid ((below_drew (Below.refl w5.heap.size w5)).trans b7); have y0 := cell_below (w := w5.drew) b7 x0; have y1 := cell_below (w := w5.drew) b7 x1; have y2 := cell_below (w := w5.drew) b7 x2; have y3 := cell_below (w := w5.drew) b7 c0; have y4 := cell_below (w := w5.drew) b7 c1; clear b7 hl7)
                | (go_at_call 30; refine (rway_any n b (some ⟨ab, ax, none⟩) la cap lc Z (alongL F) N ut uf w7 (HR5.out.below' HB7.out) HL7.out (by omega) HAF.out hN a4 (fun y hy => (along_to HZ.out HFL.out y hy).1) HOK.out HE.out).mono ?_; rw [HWE.out]; rintro e w8 ⟨wa, wc8, rfl, hr8, b8⟩; have HR8 := Lib.hid hr8; have HB8 := Lib.hid (HB7.out.trans (b8.mono HB7.out.size)); have z0 := cell_below b8 y0; have z1 := cell_below b8 y1; have z2 := cell_below b8 y2; have z3 := cell_below b8 y3; have z4 := cell_below b8 y4; clear b8 hr8))
            all_goals
              go_wp2
              go_meet
              exact ⟨wa, wc8, rfl, rfl, HR8, HB8⟩
          case rest =>
            obtain ⟨wa, wc8, rfl, rfl, HR8, HB8⟩ := hcut
            have hs5 := HB6.out.size
            cases W with
            | none =>
              have HC2 : Hid (cycK Z N F = cycFrom Z N F (k + 1) (F.length - (k + 1))) := Lib.hid (by rw [HM.out, HCY.out]; exact cycFrom_skip (by rw [HAT2.out]; rfl))
              go_wp2
              go_roundw
              case rel => exact ⟨k + 1, by omega, by go_num, HC2, Lib.hid (HB6.out.trans (HB8.out.mono hs5))⟩
              case measure => simp [intOf]; omega
            | some l =>
              have HCC : Hid (cycK Z N F = some (((k : Int), false) :: l)) := Lib.hid (by rw [HCY.out]; exact cycFrom_hit (by rw [HAT2.out]; rfl))
              obtain ⟨hl0, hl1⟩ := HWN.out l rfl
              have HR9 : Hid (Row encS 2 wc wa l) := HR8
              have HO9 := Lib.hid (HO6.out.below HB8.out)
              have HB9 := Lib.hid (HB6.out.trans (HB8.out.mono hs5))
              have hg9 : (some l : Option (List StepT)).getD [] = l := rfl
              have HLL := Lib.hid (arcsL_len l)
              rw [hg9]
              clear HR8 hg9
              go_wp2_with (first
                | (go_at_call 32; refine (rplaces_any wa wc8 l _ HR9.out (by omega)).mono ?_; rintro e w9 ⟨v9, rfl, ho9, b9⟩; obtain ⟨va, vc, rfl, hv9⟩ := ho9.lst; rw [HLL.out]; have HV9 := Lib.hid hv9; have HP9 := Lib.hid (HO9.out.below b9); have HQ9 := Lib.hid (HB9.out.trans (b9.mono HB9.out.size)); clear ho9 hv9 b9)
                | (at_builtin; refine wpList_append_more rfl _ _ rfl w1.heap.size _ [(k : Int)] rfl HP9.out va vc (arcsL l) (by rw [HLL.out]; rfl) HV9.out (by rw [HLL.out]; exact hl0) (by rw [HLL.out]; simp; omega) HQ9.out.size ?_; intro v10 w10 ho10 hb10; have HO10 := Lib.hid ho10; have HB10 := Lib.hid (HQ9.out.trans (hb10.mono (Nat.le_refl _))); clear ho10 hb10))
              go_ret2
              exact .inl ⟨((k : Int), false) :: l, v10, HCC.out, rfl, HO10.out.mono hw1, HB0.out.trans (HB10.out.mono hw1)⟩
    · have hli : ¬ (k : Int) < (F.length : Int) := by omega
      have HCC : Hid (cycK Z N F = none) := Lib.hid (by rw [HCY.out, show F.length - k = 0 by omega]; rfl)
      go_wp2
      go_ret2
      exact .inr ⟨HCC.out, rfl, HB0.out.trans (HB.out.mono HB0.out.size)⟩
end
end Go.Proofs.Ytmflleifglefiaa
