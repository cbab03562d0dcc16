/- DecompFlows. -/
import Derived.Test.YtmflleifglefiaaDBck
import Derived.Test.YtmflleifglefiaaDLws
import Derived.Deep.RegionHeld3
import Derived.Deep.AppendLies
import Derived.Deep.RegionLaw
namespace Go.Proofs.Ytmflleifglefiaa
open Go.RowKit
set_option linter.unusedVariables false

theorem infoArcD : (Try.prog.info? 44).map (fun i => (i.zero, i.size, i.bytes)) = some (some (.agg #[.int .i64 0, .int .i64 0, .int .i64 0, .int .i64 0]), 4, 32) := by kernel_rfl
/-- A row of arcs of a call's own. -/
def OwnAD (w : World) (base : Nat) (v : Value) (L : List ArcT) : Prop := w.ownsRow base 44 4 v L.length (L.flatMap encA)
theorem OwnAD.nil (w : World) (base : Nat) : OwnAD w base (.slice none 0 0) [] := World.ownsRow_nil _ _ _ _
theorem OwnAD.below {w w' : World} {base : Nat} {v : Value} {L : List ArcT} (h : OwnAD w base v L) (hb : Below w.heap.size w w') : OwnAD w' base v L := own_below h hb
theorem flatAD_len : ∀ Z : List ArcT, (Z.flatMap encA).length = Z.length * 4
  | [] => rfl
  | a :: r => by rw [List.flatMap_cons, List.length_append, flatAD_len r, encA_len]; simp only [List.length_cons]; omega
theorem flatAD_one (Z : List ArcT) : ∀ u ∈ Z.flatMap encA, u.oneCell' = true := by
  intro u hu
  obtain ⟨a, _, h⟩ := List.mem_flatMap.1 hu
  exact encA_one a u h
/-- All arcs of a network are appended to a nil row. -/
theorem wpList_append_arcsD {w : World} {ops : Array Oper} {rest : List Oper} {o : Oper} {a : Act} {Q : Exit → Act → World → Prop} (hgd : o.guard = none) (s y : Operand)
    (ho : o.op = .call { callee := .builtin .append, args := #[s, y], argTypes := #[22, 22] }) (fo : Option Addr) (fc : Nat) (Z : List ArcT) (hs : a.eval s = .slice none 0 0) (hx : a.eval y = .slice fo Z.length fc)
    (hf : Row encA 4 w fo Z) (hnil : fo = none → fc = 0) (hl : Z.length * 32 ≤ 140737488351232)
    (hK : ∀ v w', OwnAD w' w.heap.size v Z → Below w.heap.size w w' → wpList Try.prog ops Q rest (a.put o.dst v) w') : wpList Try.prog ops Q (o :: rest) a w := by
  obtain ⟨i0, hi, hz0, hz1, hz2⟩ := info_parts infoArcD
  cases fo with
  | none =>
    have h0 : Z = [] := by
      cases Z with
      | nil => rfl
      | cons x r => obtain ⟨_, _, e, _⟩ := hf 0 (by simp); cases e
    subst h0
    have hc := hnil rfl
    subst hc
    exact wpList_append_own_none hgd s y 22 ho w.heap.size 44 i0 4 Try.underlying22 hi (.slice none 0 0) 0 [] hs (World.ownsRow_nil _ _ _ _) hx (hK _ _ (OwnAD.nil _ _) (Below.refl _ _))
  | some ad =>
    refine wpList_append_own_at w hgd s y 22 ho w.heap.size 44 i0 _ 4 32 Try.underlying22 hi hz0 hz1 hz2 rfl (by omega) _ 0 [] hs (World.ownsRow_nil _ _ _ _) ad Z.length fc (Z.flatMap encA) hx (flatAD_len Z) ?_ (flatAD_one Z) (by unfold maxLen; omega) (by omega) (Nat.le_refl _) ?_
    · intro j u hj
      have hjl := (List.getElem?_eq_some_iff.1 hj).1
      rw [flatAD_len] at hjl
      have hi4 : j / 4 < Z.length := by omega
      obtain ⟨b', o', e, hb, hc⟩ := hf (j / 4) hi4
      cases e
      rw [Addr.add_lit, show o' + j = o' + j / 4 * 4 + j % 4 by omega, hc (j % 4) (by omega)]
      have h := flat_get encA_len Z (j / 4) (j % 4) (by omega)
      rw [show j / 4 * 4 + j % 4 = j by omega, hj, List.getElem?_eq_getElem hi4] at h
      exact h.symm
    · intro v' w' h1 h2 h3 _
      rw [List.nil_append, Nat.zero_add] at h1
      exact hK v' w' h1 ((Below.refl _ w).grown h2 (Nat.le_refl _) (fun j hj => by simp [Value.ownBlock] at hj))
/-- One arc more is appended. -/
theorem pick_andD (p : Int) : ∃ r : Nat, bits .and .i64 p 1023 = (r : Int) := by
  have h := i64_and_mask p 10 (by omega)
  have b1 := Int.emod_nonneg p (show ((2 ^ 10 : Nat) : Int) ≠ 0 by omega)
  refine ⟨(p % ((2 ^ 10 : Nat) : Int)).toNat, ?_⟩
  have e : bits .and .i64 p 1023 = p % ((2 ^ 10 : Nat) : Int) := h
  rw [e]; omega
section
variable (n : Int) (b : Bool) (ao : Option Addr) (len cap : Nat) (Z : List ArcT)
theorem ownA_snocD {w : World} {base : Nat} {v : Value} {Y : List ArcT} {x : ArcT} (h : w.ownsRow base 44 4 v (Y.length + 1) (Y.flatMap encA ++ encA x)) : OwnAD w base v (Y ++ [x]) := by
  unfold OwnAD
  rw [List.length_append, List.length_singleton, List.flatMap_append, List.flatMap_singleton]
  exact h
theorem row_ofZ {w : World} {ao : Option Addr} {Z Y : List ArcT} {k : Nat} (e : fewZK k Z = Y) (h : Row encA 4 w ao Z) : Row encA 4 w ao Y := e ▸ row_fewK k h
set_option maxRecDepth 100000 in
set_option maxHeartbeats 8000000 in
theorem flows_law (s t more : Int) (w : World) (hl : Z.length = len) (hcap : len ≤ cap) (hm : len ≤ maxLen) (hr : Row encA 4 w ao Z) :
    Calls Try.prog 4 #[.agg #[.int .i64 n, .bool b, .slice ao len cap], .int .i64 s, .int .i64 t, .int .i64 more] w fun e w' => e = .returned (.bool true) ∧ Below w.heap.size w w' := by
  subst hl
  have HCP := Lib.hid hcap
  have HM := Lib.hid hm
  have HRZ0 := Lib.hid hr
  have hb00 := (Below.refl _ w).alloc (Nat.le_refl _) (.cells #[.int .i64 n, .bool b, .slice ao Z.length cap] 24)
  have HRZ := Lib.hid (hr.below' hb00)
  have HB := Lib.hid hb00
  have HN := Lib.hid (heap_alloc_new w (.cells #[.int .i64 n, .bool b, .slice ao Z.length cap] 24))
  have HMY0 := Lib.hid (Nat.le_trans (fewZK_le 39 Z) hm)
  clear hr hm hcap hb00
  obtain ⟨Y, hY⟩ : ∃ Y, fewZK 39 Z = Y := ⟨_, rfl⟩
  obtain ⟨m, hmn⟩ : ∃ m, fewNK 12 n = m := ⟨_, rfl⟩
  have HY := Lib.hid hY
  have HMN := Lib.hid hmn
  have HMY : Hid (Y.length ≤ maxLen) := Lib.hid (by rw [← hY]; exact HMY0.out)
  obtain ⟨e0, he⟩ : ∃ e0, endsE m Y s t = e0 := ⟨_, rfl⟩
  have HE := Lib.hid he
  have x0 := cell_whole HN.out 0
  have x1 := cell_whole HN.out 1
  have x2 := cell_whole HN.out 2
  clear hY hmn HMY0
  by_cases h0 : e0 = 0
  · subst h0
    have hck := (endsE_ok he).1
    have hR : Right (m, true, Y) := right_iff.1 hck
    have hY39 : Y.length ≤ 39 := by
      have h1 := fewZK_few (m := 39) (Z := Z) (by rw [HY.out]; exact hR.2.1)
      rwa [HY.out] at h1
    by_cases hY0 : Y.length = 0
    · have hyz : ((Y.length : Int) == 0) = true := by simp [hY0]
      have hyd : decide (Y.length = 0) = true := decide_eq_true hY0
      have HY0 := Lib.hid hY0
      clear he hck hR hY0 hY39
      go_enter Try.func4, Try.ntmps4
      go_wp2_with (first
        | (go_at_call 13; refine (dawake_any _).mono ?_; rintro e wn ⟨rfl, hb⟩; have HRZ := Lib.hid (HRZ.out.below' hb); have hn := kept_box HN.out hb; have HN := Lib.hid hn; have x0 := cell_whole hn 0; have x1 := cell_whole hn 1; have x2 := cell_whole hn 2; have HB := Lib.hid (HB.out.trans (hb.mono HB.out.size)); clear hn; clear hb)
        | (go_at_call 8; refine (fewK_any 12 39 39 rfl (by decide) n b ao cap Z _ HRZ.out HM.out HCP.out).mono ?_; rintro e w1 ⟨rfl, hb1⟩; rw [HY.out, HMN.out]; have hn1 := kept_box HN.out hb1; have x0 := cell_whole hn1 0; have x1 := cell_whole hn1 1; have x2 := cell_whole hn1 2; have fx1 := frozen_whole hn1 0; have fy1 := frozen_whole hn1 1; have fz1 := frozen_whole hn1 2; have hB1 := HB.out.trans (hb1.mono HB.out.size); obtain ⟨hn2, hB2⟩ := netSet hn1 hB1 (Nat.le_refl _) (.int .i64 m) (.bool b) (.slice ao Y.length cap); have HN := Lib.hid hn2; have HR : Hid (Row encA 4 _ ao Y) := Lib.hid (row_ofZ HY.out (HRZ0.out.below' hB2)); have HB := Lib.hid hB2; clear hb1 hn1 hB1 hn2 hB2)
        | (go_at_call 16; refine (rends_is m b ao cap Y s t 0 _ HR.out HMY.out HE.out).mono ?_; rintro e wn ⟨rfl, hb⟩; have HR := Lib.hid (HR.out.below' hb); have hn := kept_box HN.out hb; have HN := Lib.hid hn; have x0 := cell_whole hn 0; have x1 := cell_whole hn 1; have x2 := cell_whole hn 2; have HB := Lib.hid (HB.out.trans (hb.mono HB.out.size)); clear hn; clear hb fx1 fy1 fz1))
      go_ret
      exact ⟨by simp, HB.out⟩
    · have hyz : ((Y.length : Int) == 0) = false := by rw [beq_eq_false_iff_ne]; omega
      have hyl : ¬ (Y.length : Int) ≥ 200 := by omega
      have hyd : decide ((200 : Int) ≤ (Y.length : Int)) = false := decide_eq_false (by omega)
      have hyd2 : decide (200 ≤ Y.length) = false := decide_eq_false (by omega)
      have hyd3 : decide (Y.length = 0) = false := decide_eq_false hY0
      obtain ⟨_, i, j, rfl, rfl, hi, hj, hij⟩ := endsE_ok he
      obtain ⟨N, rfl⟩ : ∃ N : Nat, m = (N : Int) := by
        have h1 := nodesE_ok hR.1
        simp only at h1
        exact ⟨m.toNat, by omega⟩
      rw [Int.toNat_natCast] at hi hj
      have HWN : Hid (WideNet Y N) := Lib.hid (by have h1 := wide_of hck; rwa [Int.toNat_natCast] at h1)
      have HIJ := Lib.hid hij
      obtain ⟨ab, ax, e, _⟩ := (row_ofZ HY.out HRZ0.out) 0 (by omega)
      subst e
      obtain ⟨r, hr⟩ := pick_andD more
      obtain ⟨p, hp, hpl⟩ : ∃ p : Nat, ((r : Int)).tmod (Y.length : Int) = (p : Int) ∧ p < Y.length := by
        rw [Int.tmod_eq_emod_of_nonneg (by omega)]
        have h1 := Int.emod_nonneg (r : Int) (show (Y.length : Int) ≠ 0 by omega)
        have h2 := Int.emod_lt_of_pos (r : Int) (show (0 : Int) < (Y.length : Int) by omega)
        exact ⟨((r : Int) % (Y.length : Int)).toNat, by omega, by omega⟩
      have hwp : IntKind.i64.wrap (p : Int) = (p : Int) := IntWalk.i64_in _ (by omega)
      have hnz : ¬ (Y.length : Int) = 0 := by omega
      have HCA := Lib.hid (wide_of hck).caps
      clear he hck hR
      go_enter Try.func4, Try.ntmps4
      go_wp2_with (first
        | (go_at_call 13; refine (dawake_any _).mono ?_; rintro e wn ⟨rfl, hb⟩; have HRZ := Lib.hid (HRZ.out.below' hb); have hn := kept_box HN.out hb; have HN := Lib.hid hn; have x0 := cell_whole hn 0; have x1 := cell_whole hn 1; have x2 := cell_whole hn 2; have HB := Lib.hid (HB.out.trans (hb.mono HB.out.size)); clear hn; clear hb)
        | (go_at_call 8; refine (fewK_any 12 39 39 rfl (by decide) n b (some ⟨ab, ax, none⟩) cap Z _ HRZ.out HM.out HCP.out).mono ?_; rintro e w1 ⟨rfl, hb1⟩; rw [HY.out, HMN.out]; have hn1 := kept_box HN.out hb1; have x0 := cell_whole hn1 0; have x1 := cell_whole hn1 1; have x2 := cell_whole hn1 2; have fx1 := frozen_whole hn1 0; have fy1 := frozen_whole hn1 1; have fz1 := frozen_whole hn1 2; have hB1 := HB.out.trans (hb1.mono HB.out.size); obtain ⟨hn2, hB2⟩ := netSet hn1 hB1 (Nat.le_refl _) (.int .i64 (N : Int)) (.bool b) (.slice (some ⟨ab, ax, none⟩) Y.length cap); have HN := Lib.hid hn2; have HR : Hid (Row encA 4 _ (some ⟨ab, ax, none⟩) Y) := Lib.hid (row_ofZ HY.out (HRZ0.out.below' hB2)); have HB := Lib.hid hB2; clear hb1 hn1 hB1 hn2 hB2)
        | (go_at_call 16; refine (rends_is (N : Int) b (some ⟨ab, ax, none⟩) cap Y (i : Int) (j : Int) 0 _ HR.out HMY.out HE.out).mono ?_; rintro e wn ⟨rfl, hb⟩; have HR := Lib.hid (HR.out.below' hb); have hn := kept_box HN.out hb; have HN := Lib.hid hn; have x0 := cell_whole hn 0; have x1 := cell_whole hn 1; have x2 := cell_whole hn 2; have HB := Lib.hid (HB.out.trans (hb.mono HB.out.size)); clear hn; clear hb fx1 fy1 fz1)
        | (go_at_call 17; refine (rbest_own (N : Int) b (some ⟨ab, ax, none⟩) cap Y N i j _ HR.out HWN.out hi hj HIJ.out).mono ?_; rintro e w2 ⟨v, F, kb, rfl, ho, hfl, hmo, _, hb⟩; have HO := Lib.hid ho; have HFL := Lib.hid hfl; have HMO := Lib.hid hmo; have HS2 := Lib.hid hb.size; have HR := Lib.hid (HR.out.below' hb); have HWS := Lib.hid (lt_whole HN.out); have hn := kept_box HN.out hb; have HN := Lib.hid hn; have x0 := cell_whole hn 0; have x1 := cell_whole hn 1; have x2 := cell_whole hn 2; have HB := Lib.hid (HB.out.trans (hb.mono HB.out.size)); clear hn; clear hb ho hfl hmo)
        | (at_builtin; refine wpList_append_arcsD rfl _ _ rfl (some ⟨ab, ax, none⟩) cap Y rfl rfl HR.out (fun e => by cases e) (by omega) ?_; intro v4 w4 ho4 hb4; have HO4 := Lib.hid ho4; have HB4 := Lib.hid hb4; have hn := kept_box HN.out hb4; have HN4 := Lib.hid hn; have x0 := cell_whole hn 0; have x1 := cell_whole hn 1; have x2 := cell_whole hn 2; clear ho4 hb4 hn))
      clear HRZ0 HRZ HCP HM HMN HY hyz hyl hyd hyd2 hyd3 hr hp hwp
      try clear x0 x1 x2
      have x0_1 := cell_whole HN4.out 0
      have x1_1 := cell_whole HN4.out 1
      have x2_1 := cell_whole HN4.out 2
      have HZL : Hid (F.length = Y.length) := Lib.hid HFL.out.1.1
      obtain ⟨g, fc, hv, hgb, hgs⟩ := HO.out.some (by rw [HZL.out]; omega)
      subst hv
      rw [HZL.out] at HO ⊢
      have HW4 := Lib.hid (HR.out.below' HB4.out)
      obtain ⟨ab2, ax2, e, hab, d0, d1, d2, d3⟩ := HW4.out.arc hpl
      cases e
      have HPA : Hid (Y[p]? = some Y[p]) := Lib.hid (List.getElem?_eq_getElem hpl)
      have hy := HFL.out.1.2 p _ (List.getElem?_eq_getElem hpl)
      have hca := (HCA.out _ (List.getElem_mem hpl)).2
      unfold capN at hy hca
      obtain ⟨a, ha⟩ : ∃ a, Y[p] = a := ⟨_, rfl⟩
      rw [ha] at d0 d1 d2 d3 HPA hy hca
      obtain ⟨x1, x2, x3, x4⟩ := a
      simp only at d0 d1 d2 d3 hy hca
      obtain ⟨y, hay⟩ : ∃ y, atI F p = y := ⟨_, rfl⟩
      rw [hay] at hy
      have HAY := Lib.hid hay
      have hpi : (p : Int) < (Y.length : Int) := by omega
      obtain ⟨i0, hi0, hz0, hz1, hz2⟩ := info_parts infoArcD
      have HI := Lib.hid (And.intro hi0 (And.intro hz0 (And.intro hz1 hz2)))
      have HS4 := Lib.hid HB4.out.size
      have HFY := Lib.hid ha
      clear ha hay hi0 hz0 hz1 hz2 hab
      obtain ⟨q, hq⟩ : ∃ q, min 3 (x3 - y) = q := ⟨_, rfl⟩
      have hq0 : 0 ≤ q ∧ q ≤ 3 ∧ q ≤ x3 - y := by omega
      have HBK : Hid (splitE (N : Int) (Y ++ [backA (x1, x2, x3, x4)]) (i : Int) (j : Int) (backF F p q) = 0) := Lib.hid (back_split HE.out (by omega) hi HPA.out HFL.out HMO.out hq0.1 hq0.2.1 (by rw [HAY.out]; exact hq0.2.2))
      have HQ0 := Lib.hid hq0
      have HWN4 := Lib.hid (HN4.out)
      go_cut [12] (fun v12 wc => ∃ g7 cap7, v12 = .slice (some ⟨g7, 0, none⟩) (Y.length + 1) cap7 ∧ Hid (OwnAD wc w2.heap.size (.slice (some ⟨g7, 0, none⟩) (Y.length + 1) cap7) (Y ++ [backA (x1, x2, x3, x4)])) ∧ Hid (Below w2.heap.size w2 wc))
      case first =>
        go_region_law ((refine step_append_lies _ (by rfl) _ _ _ (by rfl) w2.heap.size 44 i0 _ 4 32 Try.underlying22 HI.out.1 HI.out.2.1 HI.out.2.2.1 HI.out.2.2.2 rfl (by omega) v4 Y.length (Y.flatMap encA) (by rfl) ((HO4.out.alloc _).drew) ⟨w4.heap.size, 0, none⟩ 1 1 (encA (backA (x1, x2, x3, x4))) (by rfl) (by rfl) (World.news_of_block (cs := #[.int .i64 x2, .int .i64 x1, .int .i64 3, .int .i64 0]) (t := 44) (fr := (0, 0)) (heap_alloc_new w4 _)) (encA_one _) (by omega) (by unfold maxLen; omega) (by omega) (by have := HS4.out; simp; omega) (w4.heap.size + 1) (by simp) ?_; intro g7 cap7 w7 ho7 hg7 hl7 hlt7; have HO7 : Hid (OwnAD w7 w2.heap.size (.slice (some ⟨g7, 0, none⟩) (Y.length + 1) cap7) (Y ++ [backA (x1, x2, x3, x4)])) := Lib.hid (ownA_snocD ho7); have hb6 := HB4.out.alloc HB4.out.size (.cells #[.int .i64 x2, .int .i64 x1, .int .i64 3, .int .i64 0] 44); have hb6' : Below w2.heap.size w2 (w4.alloc (.cells #[.int .i64 x2, .int .i64 x1, .int .i64 3, .int .i64 0] 44)).drew := ⟨hb6.os, hb6.tape, hb6.output, hb6.size, hb6.block⟩; have HB7 := Lib.hid (hb6'.grown hg7 hb6'.size (fun k hk => (HO4.out.lt k hk).1)); clear ho7 hg7 hl7 hb6 hb6'))
        all_goals
          go_wp2
          go_meet
          exact ⟨_, _, rfl, HO7, HB7⟩
      case rest =>
        obtain ⟨g7, cap7, rfl, HA7, HB7⟩ := hcut
        clear x0_1 x1_1 x2_1 d0 d1 d2 d3
        have hn7 := kept_box HN.out HB7.out
        have f2 := frozen_whole hn7 2
        have y2 := cell_whole hn7 2
        have hn9 := set_whole hn7 2 (.slice (some ⟨g7, 0, none⟩) (Y.length + 1) cap7)
        have HN9 : Hid ((wc.setCell ⟨w.heap.size, 2, none⟩ (.slice (some ⟨g7, 0, none⟩) (Y.length + 1) cap7)).heap[w.heap.size]? = some (.cells #[.int .i64 (N : Int), .bool b, .slice (some ⟨g7, 0, none⟩) (Y.length + 1) cap7] 24 (0, 0))) := Lib.hid hn9
        have HA9 : Hid (OwnAD (wc.setCell ⟨w.heap.size, 2, none⟩ (.slice (some ⟨g7, 0, none⟩) (Y.length + 1) cap7)) w2.heap.size (.slice (some ⟨g7, 0, none⟩) (Y.length + 1) cap7) (Y ++ [backA (x1, x2, x3, x4)])) := Lib.hid (ownsRow_setCell_below HA7.out (a := ⟨w.heap.size, 2, none⟩) (by have h1 := HWS.out; have h2 := HS2.out; show w.heap.size < w2.heap.size; omega) _)
        have HF9 : Hid (OwnL encI (wc.setCell ⟨w.heap.size, 2, none⟩ (.slice (some ⟨g7, 0, none⟩) (Y.length + 1) cap7)) wn.heap.size 3 (.slice (some ⟨g, 0, none⟩) Y.length fc) F) := Lib.hid (ownsRow_setCell_below (HO.out.below HB7.out) (a := ⟨w.heap.size, 2, none⟩) HWS.out _)
        have HB9 := Lib.hid (below_set (HB.out.trans (HB7.out.mono HB.out.size)) (Nat.le_refl _) (.slice (some ⟨g7, 0, none⟩) (Y.length + 1) cap7) (j := 2))
        clear hn7 hn9 HA7 HB7 HN HN4 HO HO4 HB4 HB HR HW4 HI HWN4
        go_wp2_with fail
        clear f2 y2
        generalize wc.setCell ⟨w.heap.size, 2, none⟩ (.slice (some ⟨g7, 0, none⟩) (Y.length + 1) cap7) = w9 at *
        have x0 := cell_whole HN9.out 0
        have x1_ := cell_whole HN9.out 1
        have x2_ := cell_whole HN9.out 2
        have hrY : Row encA 4 w9 (some ⟨g7, 0, none⟩) Y := by
          have h1 := row_takeK (own_rowK encA_len HA9.out) Y.length
          rwa [List.take_left'] at h1
          rfl
        obtain ⟨ab3, ax3, e, hab3, d0, d1, d2, d3⟩ := hrY.arc hpl
        cases e
        rw [HFY.out] at d2
        simp only [Nat.zero_add] at d2
        have hX : F[p]? = some y := by rw [← HAY.out]; exact atI_get (by rw [HZL.out]; exact hpl)
        obtain ⟨cy, fy⟩ := HF9.out.cell hX
        unfold encI at cy
        have hwr : IntKind.i64.wrap (x3 - y) = x3 - y := IntWalk.i64_in _ (by omega)
        have hpi2 : (p : Int) < (Y.length : Int) + 1 := by omega
        have hgs' := hgs
        clear d0 d1 d3 hrY hX hab3
        go_cut [13] (fun v13 wc => v13 = .int .i64 q ∧ Hid (Below w9.heap.size w9 wc))
        case first =>
          go_region
          go_wp2
          go_meet
          exact ⟨rfl, Lib.hid (below_drew (Below.refl _ _))⟩
        case rest =>
          obtain ⟨rfl, HB10⟩ := hcut
          have HN10 := Lib.hid (kept_box HN9.out HB10.out)
          have HA10 : Hid (OwnAD wc w2.heap.size (.slice (some ⟨g7, 0, none⟩) (Y.length + 1) cap7) (Y ++ [backA (x1, x2, x3, x4)])) := Lib.hid (own_below HA9.out HB10.out)
          have HF10 := Lib.hid (HF9.out.below HB10.out)
          have HBW := Lib.hid (HB9.out.trans (HB10.out.mono HB9.out.size))
          have hX : F[p]? = some y := by rw [← HAY.out]; exact atI_get (by rw [HZL.out]; exact hpl)
          clear x0 x1_ x2_ cy fy d2 HN9 HA9 HF9 HB9
          obtain ⟨cy, fy⟩ := HF10.out.cell hX
          unfold encI at cy
          obtain ⟨hq1, hq2, hq3⟩ := HQ0.out
          have hwr : IntKind.i64.wrap (y + q) = y + q := IntWalk.i64_in _ (by omega)
          have hgne : w.heap.size ≠ g := by have := HWS.out; omega
          have HF11 : Hid (OwnL encI (wc.setCell ⟨g, p, none⟩ (.int .i64 (y + q))) wn.heap.size 3 (.slice (some ⟨g, 0, none⟩) Y.length fc) (F.set p (y + q))) := Lib.hid (HF10.out.put p (y + q))
          have HA11 : Hid (OwnAD (wc.setCell ⟨g, p, none⟩ (.int .i64 (y + q))) w2.heap.size (.slice (some ⟨g7, 0, none⟩) (Y.length + 1) cap7) (Y ++ [backA (x1, x2, x3, x4)])) := Lib.hid (ownsRow_setCell_below HA10.out (a := ⟨g, p, none⟩) hgs _)
          have HN11 := Lib.hid (set_other HN10.out hgne p (.int .i64 (y + q)))
          have HB11 := Lib.hid (below_set HBW.out (show w.heap.size ≤ g by have := HWS.out; omega) (.int .i64 (y + q)) (j := p))
          have HGL : Hid ((F.set p (y + q)).length = Y.length) := Lib.hid (by rw [List.length_set]; exact HZL.out)
          have HFE : Hid (F.set p (y + q) ++ [q] = backF F p q) := Lib.hid (by unfold backF; rw [HAY.out])
          clear hX HN10 HA10 HF10 HBW HQ0 HB10 hq
          obtain ⟨G, hG⟩ : ∃ G, F.set p (y + q) = G := ⟨_, rfl⟩
          rw [hG] at HF11 HGL HFE
          clear hG
          obtain ⟨w11, hw11⟩ : ∃ w11, wc.setCell ⟨g, p, none⟩ (.int .i64 (y + q)) = w11 := ⟨_, rfl⟩
          rw [hw11] at HF11 HA11 HN11 HB11
          have HW11 := Lib.hid hw11
          have HSZ : Hid (w11.heap.size = wc.heap.size) := Lib.hid (by rw [← hw11]; simp)
          clear hw11
          have hs11 := HB11.out.size
          have hws := HWS.out
          have hn11 := lt_whole HN11.out
          have hgl11 := (own_lt2 HF11.out rfl).2
          have hgl11 : g < w11.heap.size := hgl11
          obtain ⟨ZZ, hZZ⟩ : ∃ ZZ, Y ++ [backA (x1, x2, x3, x4)] = ZZ := ⟨_, rfl⟩
          have HZZ : Hid (ZZ.length = Y.length + 1) := Lib.hid (by rw [← hZZ, List.length_append, List.length_singleton])
          rw [hZZ] at HA11 HBK
          clear hZZ
          obtain ⟨FF, hFF⟩ : ∃ FF, backF F p q = FF := ⟨_, rfl⟩
          rw [hFF] at HFE HBK
          have HFFL : Hid (FF.length = Y.length + 1) := Lib.hid (by rw [← HFE.out, List.length_append, List.length_singleton, HGL.out])
          clear hFF
          obtain ⟨hS1, hS2⟩ := split_short (N : Int) ZZ (i : Int) (j : Int) FF
          obtain ⟨P, hP⟩ : ∃ P, chainsE (N : Int) ZZ (i : Int) (j : Int) FF = P := ⟨_, rfl⟩
          obtain ⟨Q, hQ⟩ : ∃ Q, cycsE (N : Int) ZZ (i : Int) (j : Int) FF = Q := ⟨_, rfl⟩
          have HP := Lib.hid hP
          have HQ := Lib.hid hQ
          rw [hP] at hS1
          rw [hQ] at hS2
          have HS1 := Lib.hid hS1
          have HS2' := Lib.hid hS2
          have HLM : Hid (Y.length + 1 ≤ maxLen) := Lib.hid (by unfold maxLen; omega)
          clear hP hQ hS1 hS2
          go_wp2_with (first
            | (at_builtin; (rw [HW11.out]; refine wpList_append_one (enc := encI) Try.underlying25 infoInt rfl (by omega) rfl _ _ rfl wn.heap.size _ G q rfl rfl (HF11.out.alloc (.cells #[.int .i64 q] 3)) _ 1 rfl (cell_new' HSZ.out _ _ 0) (by rw [HGL.out]; omega) (by simp; omega) ?_; intro g12 cap12 w12 ho12 hg12 hl12 hb12 hlt12; rw [HGL.out, HFE.out] at ho12; rw [HGL.out]; have HF : Hid (Lst encI w12 (some ⟨g12, 0, none⟩) FF) := Lib.hid ho12.lstK; have ha12 := own_grown (HA11.out.alloc (.cells #[.int .i64 q] 3)) hg12 (fun g' e' => by have e2 : some g = some g' := e'; injection e2 with e3; omega); have HR : Hid (Row encA 4 w12 (some ⟨g7, 0, none⟩) ZZ) := Lib.hid (own_rowK encA_len ha12); have hx12 := (hg12.block w.heap.size (lt_whole (alloc_whole HN11.out (.cells #[.int .i64 q] 3))) (fun e' => by have e2 : some w.heap.size = some g := e'; injection e2 with e3; omega)).trans (alloc_whole HN11.out (.cells #[.int .i64 q] 3)); have HN := Lib.hid hx12; have x0 := cell_whole hx12 0; have x1 := cell_whole hx12 1; have x2 := cell_whole hx12 2; have HB := Lib.hid (below_grown (HB11.out.alloc hs11 (.cells #[.int .i64 q] 3)) (by simp; omega) hg12 (fun g' e' => by have e2 : some g = some g' := e'; injection e2 with e3; omega)); clear ho12 hg12 hl12 ha12 hx12))
            | (go_at_call 9; refine (dsplit_one (N : Int) b (some ⟨g7, 0, none⟩) (some ⟨g12, 0, none⟩) cap7 cap12 (Y.length + 1) (Y.length + 1) ZZ FF (i : Int) (j : Int) _ HZZ.out HFFL.out HR.out HF.out HLM.out HLM.out).mono ?_; rw [HP.out, HQ.out, HBK.out]; rintro e wn ⟨c1, y1, cc1, yc1, X1, Y1, rfl, hx, hy, hb⟩; have HR := Lib.hid (HR.out.below' hb); have HF := Lib.hid (HF.out.below hb); have hn := kept_box HN.out hb; have HN := Lib.hid hn; have x0 := cell_whole hn 0; have x1 := cell_whole hn 1; have x2 := cell_whole hn 2; clear hn; have HB := Lib.hid (HB.out.trans (hb.mono HB.out.size)); have HX1 := Lib.hid hx; have HY1 := Lib.hid hy; clear hx hy; clear hb)
            | (go_at_call 10; refine (rsplit13_one (N : Int) b (some ⟨g7, 0, none⟩) (some ⟨g12, 0, none⟩) cap7 cap12 (Y.length + 1) (Y.length + 1) ZZ FF (i : Int) (j : Int) _ HZZ.out HFFL.out HR.out HF.out (fun e => by cases e) HLM.out HLM.out).mono ?_; rw [HP.out, HQ.out, HBK.out]; rintro e wn ⟨c2, y2, cc2, yc2, X2, Y2, rfl, hx, hy, hb⟩; have HR := Lib.hid (HR.out.below' hb); have HF := Lib.hid (HF.out.below hb); have HX1 := Lib.hid (HX1.out.below hb); have HY1 := Lib.hid (HY1.out.below hb); have HB := Lib.hid (HB.out.trans (hb.mono HB.out.size)); have ha := (Below.refl wn.heap.size wn).alloc (Nat.le_refl _) (.cells #[.slice c2 X2.length cc2, .slice y2 Y2.length yc2] 32); have HPB := Lib.hid (heap_alloc_new wn (.cells #[.slice c2 X2.length cc2, .slice y2 Y2.length yc2] 32)); have hn := kept_box (kept_box HN.out hb) ha; have HN := Lib.hid hn; have x0 := cell_whole hn 0; have x1 := cell_whole hn 1; have x2 := cell_whole hn 2; have HR := Lib.hid (HR.out.below' ha); have HF := Lib.hid (HF.out.below ha); have HX1 := Lib.hid (HX1.out.below ha); have HY1 := Lib.hid (HY1.out.below ha); have HX2 := Lib.hid (hx.below ha); have HY2 := Lib.hid (hy.below ha); have HB := Lib.hid (HB.out.trans (ha.mono HB.out.size)); clear hx hy ha hn; clear hb))
          refine (rsame_parts X1 X2 X1.length X2.length c1 c2 cc1 cc2 P _ rfl rfl HX1.out HX2.out HS1.out).mono ?_
          rintro e wn ⟨rfl, hb⟩
          have HR := Lib.hid (HR.out.below' hb)
          have HF := Lib.hid (HF.out.below hb)
          have HX1 := Lib.hid (HX1.out.below hb)
          have HY1 := Lib.hid (HY1.out.below hb)
          have HX2 := Lib.hid (HX2.out.below hb)
          have HY2 := Lib.hid (HY2.out.below hb)
          have hn := kept_box HN.out hb
          have HN := Lib.hid hn
          have x0 := cell_whole hn 0
          have x1 := cell_whole hn 1
          have x2 := cell_whole hn 2
          clear hn
          have hn := kept_box HPB.out hb
          have HPB := Lib.hid hn
          have p0 := cell_whole hn 0
          have p1 := cell_whole hn 1
          clear hn
          have HB := Lib.hid (HB.out.trans (hb.mono HB.out.size))
          clear hb
          go_wp2_with fail
          refine (rsame_parts Y1 Y2 Y1.length Y2.length y1 y2 yc1 yc2 Q _ rfl rfl HY1.out HY2.out HS2'.out).mono ?_
          rintro e wn ⟨rfl, hb⟩
          have HR := Lib.hid (HR.out.below' hb)
          have HF := Lib.hid (HF.out.below hb)
          have HX1 := Lib.hid (HX1.out.below hb)
          have HY1 := Lib.hid (HY1.out.below hb)
          have HX2 := Lib.hid (HX2.out.below hb)
          have HY2 := Lib.hid (HY2.out.below hb)
          have hn := kept_box HN.out hb
          have HN := Lib.hid hn
          have x0 := cell_whole hn 0
          have x1 := cell_whole hn 1
          have x2 := cell_whole hn 2
          clear hn
          have hn := kept_box HPB.out hb
          have HPB := Lib.hid hn
          have p0 := cell_whole hn 0
          have p1 := cell_whole hn 1
          clear hn
          have HB := Lib.hid (HB.out.trans (hb.mono HB.out.size))
          clear hb
          go_wp2_with fail
          go_ret
          exact ⟨by simp, HB.out⟩
  · have hf1 : (e0 != 0) = true := by simpa using h0
    have hf2 : (e0 == 0) = false := by simpa using h0
    clear h0 he
    go_enter Try.func4, Try.ntmps4
    go_wp2_with (first
      | (go_at_call 13; refine (dawake_any _).mono ?_; rintro e wn ⟨rfl, hb⟩; have HRZ := Lib.hid (HRZ.out.below' hb); have hn := kept_box HN.out hb; have HN := Lib.hid hn; have x0 := cell_whole hn 0; have x1 := cell_whole hn 1; have x2 := cell_whole hn 2; have HB := Lib.hid (HB.out.trans (hb.mono HB.out.size)); clear hn; clear hb)
      | (go_at_call 8; refine (fewK_any 12 39 39 rfl (by decide) n b ao cap Z _ HRZ.out HM.out HCP.out).mono ?_; rintro e w1 ⟨rfl, hb1⟩; rw [HY.out, HMN.out]; have hn1 := kept_box HN.out hb1; have x0 := cell_whole hn1 0; have x1 := cell_whole hn1 1; have x2 := cell_whole hn1 2; have fx1 := frozen_whole hn1 0; have fy1 := frozen_whole hn1 1; have fz1 := frozen_whole hn1 2; have hB1 := HB.out.trans (hb1.mono HB.out.size); obtain ⟨hn2, hB2⟩ := netSet hn1 hB1 (Nat.le_refl _) (.int .i64 m) (.bool b) (.slice ao Y.length cap); have HN := Lib.hid hn2; have HR : Hid (Row encA 4 _ ao Y) := Lib.hid (row_ofZ HY.out (HRZ0.out.below' hB2)); have HB := Lib.hid hB2; clear hb1 hn1 hB1 hn2 hB2)
      | (go_at_call 16; refine (rends_is m b ao cap Y s t e0 _ HR.out HMY.out HE.out).mono ?_; rintro e wn ⟨rfl, hb⟩; have HR := Lib.hid (HR.out.below' hb); have hn := kept_box HN.out hb; have HN := Lib.hid hn; have x0 := cell_whole hn 0; have x1 := cell_whole hn 1; have x2 := cell_whole hn 2; have HB := Lib.hid (HB.out.trans (hb.mono HB.out.size)); clear hn; clear hb fx1 fy1 fz1))
    go_ret
    exact ⟨by simp, HB.out⟩
end
end Go.Proofs.Ytmflleifglefiaa
