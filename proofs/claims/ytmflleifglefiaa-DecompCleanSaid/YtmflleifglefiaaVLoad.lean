/- Rows of steps that a call makes and writes; load of package level. -/
import Derived.Test.YtmflleifglefiaaBG
import Derived.Test.YtmflleifglefiaaBD
namespace Go.Proofs.Ytmflleifglefiaa
open Go.RowKit
set_option linter.unusedVariables false

/-! Rows of steps -/
theorem OwnS.lt {w : World} {base g n cap : Nat} {L : List StepT} (h : OwnS w base (.slice (some ⟨g, 0, none⟩) n cap) L) : base ≤ g ∧ g < w.heap.size := ⟨own_block h rfl, own_lt h rfl⟩
theorem OwnS.kept {S : Nat → Prop} {w w' : World} {base g n cap : Nat} {L : List StepT} (h : OwnS w base (.slice (some ⟨g, 0, none⟩) n cap) L) (k : Kept S w w') (hn : ¬ S g) : OwnS w' base (.slice (some ⟨g, 0, none⟩) n cap) L := by
  refine ⟨h.1, ?_⟩
  rcases h.2 with h1 | ⟨g', cap', cur, e, h2, h3, h4⟩
  · exact .inl h1
  · have e2 := e
    injection e2 with e2
    injection e2 with e2
    have hg : g' = g := by injection e2 with q; exact q.symm
    exact .inr ⟨g', cap', cur, e, h2, k.old h3 (by rw [hg]; exact hn), h4⟩
theorem OwnS.cell {w : World} {base g n cap : Nat} {L : List StepT} (h : OwnS w base (.slice (some ⟨g, 0, none⟩) n cap) L) {j : Nat} {x : StepT} (hj : L[j]? = some x) :
    (w.cell? ⟨g, j * 2, none⟩ = some (.int .i64 x.1) ∧ w.cell? ⟨g, j * 2 + 1, none⟩ = some (.bool x.2)) ∧ w.frozen? ⟨g, j * 2, none⟩ = false ∧ w.frozen? ⟨g, j * 2 + 1, none⟩ = false := by
  obtain ⟨b, o, e, _, c0, c1⟩ := step_at (own_rowK encS_len h) hj
  cases e
  rw [Nat.zero_add] at c0 c1
  refine ⟨⟨c0, c1⟩, ?_⟩
  rcases h.2 with ⟨h0, _⟩ | ⟨g', cap', cur, e1, hb, hg, _⟩
  · cases h0
  · injection e1 with e2 e3 e4
    injection e2 with e2
    have hg' : g' = g := by injection e2 with q; exact q.symm
    subst hg'
    exact ⟨frozen_whole hg _, frozen_whole hg _⟩
theorem flat_set (L : List StepT) (j : Nat) (x : StepT) (hj : j < L.length) : (((L.flatMap encS).set (j * 2) (.int .i64 x.1)).set (j * 2 + 1) (.bool x.2)) = (L.set j x).flatMap encS := by
  induction L generalizing j with
  | nil => simp at hj
  | cons y r ih =>
    cases j with
    | zero => rfl
    | succ j =>
      have := ih j (by simpa using hj)
      rw [List.set_cons_succ, List.flatMap_cons, List.flatMap_cons, ← this]
      have e1 : (j + 1) * 2 = j * 2 + 2 := by omega
      rw [e1]
      rfl
theorem OwnS.put {w : World} {base g n cap : Nat} {L : List StepT} (h : OwnS w base (.slice (some ⟨g, 0, none⟩) n cap) L) {j : Nat} (hj : j < L.length) (x : Int) (q : Bool) :
    OwnS ((w.setCell ⟨g, j * 2, none⟩ (.int .i64 x)).setCell ⟨g, j * 2 + 1, none⟩ (.bool q)) base (.slice (some ⟨g, 0, none⟩) n cap) (L.set j (x, q)) := by
  have hf := flat_set L j (x, q) hj
  have hl := h.1
  refine ⟨by rw [← hf, List.length_set, List.length_set, List.length_set]; exact hl, ?_⟩
  rcases h.2 with ⟨h0, _⟩ | ⟨g', cap', cur, e1, hb, hg, h1, h2, h3, h4⟩
  · cases h0
  · injection e1 with e2 e3 e4
    injection e2 with e2
    have hg' : g' = g := by injection e2 with q; exact q.symm
    subst hg'
    subst e4
    refine .inr ⟨g', cap, _, by rw [List.length_set, ← e3], hb, set_whole (set_whole hg _ _) _ _, by rw [List.length_set]; exact h1, h2, by simpa using h3, ?_⟩
    rw [Array.toList_setIfInBounds, Array.toList_setIfInBounds, List.length_set, List.take_set, List.take_set, h4, hf]
theorem made_flat (n : Nat) : (madeCells #[.int .i64 0, .bool false] (n * 2)).toList = (List.replicate n ((0, false) : StepT)).flatMap encS := by
  apply List.ext_getElem?
  intro i
  by_cases hi : i < n * 2
  · have e : i = i / 2 * 2 + i % 2 := by omega
    have hr : ((List.replicate n ((0, false) : StepT)).flatMap encS)[i]? = (encS (0, false))[i % 2]? := by
      conv => lhs; rw [e]
      rw [flat_get encS_len _ _ _ (by omega), List.getElem?_replicate, if_pos (by omega)]
      rfl
    rw [hr]
    have hm : i % 2 = 0 ∨ i % 2 = 1 := by omega
    rcases hm with hm | hm <;> simp [madeCells, hi, hm, encS]
  · rw [List.getElem?_eq_none (by simp [madeCells]; omega), List.getElem?_eq_none]
    rw [List.length_flatMap]
    simp [encS]
    omega
theorem run_make_steps (n : Nat) (hn : n ≤ 200000) (w : World) :
    (Instr.makeSlice 65 (.int .i64 (n : Int)) (.int .i64 (n : Int))).run Try.prog w = .ok (.slice (some ⟨w.heap.size, 0, none⟩) n n) (w.alloc (.cells (madeCells #[.int .i64 0, .bool false] (n * 2)) 90)) := by
  obtain ⟨i, hi, hz0, hz1, hz2⟩ := info_parts infoStep
  have hr := run_make (P := Try.prog) w 65 90 i _ Try.underlying65 hi hz0 .i64 .i64 n n (by omega) (Int.le_refl _) (by rw [hz2]; omega) (by omega)
  simp only [Int.toNat_natCast, hz1] at hr
  exact hr
theorem made_steps (w : World) (B n : Nat) (hB : B ≤ w.heap.size) (hn : n ≤ 200000) : OwnS (w.alloc (.cells (madeCells #[.int .i64 0, .bool false] (n * 2)) 90)) B (.slice (some ⟨w.heap.size, 0, none⟩) n n) (List.replicate n (0, false)) := by
  have hf := made_flat n
  refine ⟨by rw [← hf]; simp [madeCells], .inr ⟨w.heap.size, n, _, by rw [List.length_replicate], hB, heap_alloc_new _ _, by simp, by unfold maxLen; omega, by simp [madeCells], ?_⟩⟩
  rw [← hf]
  apply List.take_of_length_le
  simp [madeCells]
theorem wpList_make_steps {w : World} {ops : Array Oper} {rest : List Oper} {o : Oper} {a : Act} {Q : Exit → Act → World → Prop} (hgd : o.guard = none) (l c : Operand) (hop : o.op = Op.makeSlice 65 l c)
    (n : Nat) (hl : a.eval l = .int .i64 (n : Int)) (hc : a.eval c = .int .i64 (n : Int)) (hn : n ≤ 200000)
    (hK : ∀ w', OwnS w' w.heap.size (.slice (some ⟨w.heap.size, 0, none⟩) n n) (List.replicate n (0, false)) → Below w.heap.size w w' → wpList Try.prog ops Q rest (a.put o.dst (.slice (some ⟨w.heap.size, 0, none⟩) n n)) w') : wpList Try.prog ops Q (o :: rest) a w := by
  obtain ⟨i0, hi, hz0, hz1, hz2⟩ := info_parts infoStep
  refine wpList_make_full w hgd l c 65 hop w.heap.size 90 i0 (.agg #[.int .i64 0, .bool false]) 2 Try.underlying65 hi hz0 hz1 .i64 .i64 (n : Int) (n : Int) n hl hc rfl rfl ?_ (by unfold maxLen; omega) (Nat.le_refl _) ?_
  · rw [hz2]
    omega
  · intro w' h1 h2
    refine hK w' ?_ ((Below.refl _ w).grown h2 (Nat.le_refl _) (fun k hk => by cases hk))
    unfold OwnS
    rw [List.length_replicate, ← made_flat]
    exact h1
/-! load -/
theorem ld6Set {w0 w : World} {B g : Nat} {a b c d e f : Value} {t : TypeId} (h : w.heap[g]? = some (.cells #[a, b, c, d, e, f] t (0, 0))) (hb : Below B w0 w) (hg : B ≤ g) (x y z u v r : Value) :
    ((((((w.setCell ⟨g, 0, none⟩ x).setCell ⟨g, 1, none⟩ y).setCell ⟨g, 2, none⟩ z).setCell ⟨g, 3, none⟩ u).setCell ⟨g, 4, none⟩ v).setCell ⟨g, 5, none⟩ r).heap[g]? = some (.cells #[x, y, z, u, v, r] t (0, 0)) ∧ Below B w0 ((((((w.setCell ⟨g, 0, none⟩ x).setCell ⟨g, 1, none⟩ y).setCell ⟨g, 2, none⟩ z).setCell ⟨g, 3, none⟩ u).setCell ⟨g, 4, none⟩ v).setCell ⟨g, 5, none⟩ r) ∧
    Kept (fun i => i = g) w ((((((w.setCell ⟨g, 0, none⟩ x).setCell ⟨g, 1, none⟩ y).setCell ⟨g, 2, none⟩ z).setCell ⟨g, 3, none⟩ u).setCell ⟨g, 4, none⟩ v).setCell ⟨g, 5, none⟩ r) :=
  ⟨set_whole (set_whole (set_whole (set_whole (set_whole (set_whole h 0 x) 1 y) 2 z) 3 u) 4 v) 5 r, (((((hb.setCell (p := ⟨g, 0, none⟩) hg x).setCell (p := ⟨g, 1, none⟩) hg y).setCell (p := ⟨g, 2, none⟩) hg z).setCell (p := ⟨g, 3, none⟩) hg u).setCell (p := ⟨g, 4, none⟩) hg v).setCell (p := ⟨g, 5, none⟩) hg r,
   ((((((Kept.refl (fun i => i = g) w).set (.inl rfl) x).set (.inl rfl) y).set (.inl rfl) z).set (.inl rfl) u).set (.inl rfl) v).set (.inl rfl) r⟩
theorem ld6Cells {w : World} {g : Nat} {x y z u v r : Value} {t : TypeId} (h : w.heap[g]? = some (.cells #[x, y, z, u, v, r] t (0, 0))) :
    (w.cell? ⟨g, 0, none⟩ = some x ∧ w.cell? ⟨g, 1, none⟩ = some y ∧ w.cell? ⟨g, 2, none⟩ = some z ∧ w.cell? ⟨g, 3, none⟩ = some u ∧ w.cell? ⟨g, 4, none⟩ = some v ∧ w.cell? ⟨g, 5, none⟩ = some r) ∧ w.frozen? ⟨g, 0, none⟩ = false ∧ w.frozen? ⟨g, 1, none⟩ = false ∧ w.frozen? ⟨g, 2, none⟩ = false ∧ w.frozen? ⟨g, 3, none⟩ = false ∧ w.frozen? ⟨g, 4, none⟩ = false ∧ w.frozen? ⟨g, 5, none⟩ = false :=
  ⟨⟨cell_whole h 0, cell_whole h 1, cell_whole h 2, cell_whole h 3, cell_whole h 4, cell_whole h 5⟩, frozen_whole h 0, frozen_whole h 1, frozen_whole h 2, frozen_whole h 3, frozen_whole h 4, frozen_whole h 5⟩
theorem row_kept {α : Type} {enc : α → List Value} {k : Nat} {S : Nat → Prop} {w w' : World} {ao : Option Addr} {A : List α} (h : Row enc k w ao A) (hk : Kept S w w') (hn : ∀ ad, ao = some ad → ¬ S ad.block) : Row enc k w' ao A := by
  intro i hi
  obtain ⟨b, o, e, hb, hc⟩ := h i hi
  subst e
  exact ⟨b, o, rfl, Nat.lt_of_lt_of_le hb hk.size, fun j hj => by rw [cell_of_block (hk.block b hb (hn _ rfl))]; exact hc j hj⟩
theorem lst_kept {α : Type} {enc : α → Value} {S : Nat → Prop} {w w' : World} {ao : Option Addr} {A : List α} (h : Lst enc w ao A) (hk : Kept S w w') (hn : ∀ ad, ao = some ad → ¬ S ad.block) : Lst enc w' ao A := by
  intro i hi
  obtain ⟨b, o, e, hb, hc⟩ := h i hi
  subst e
  exact ⟨b, o, rfl, Nat.lt_of_lt_of_le hb hk.size, by rw [cell_of_block (hk.block b hb (hn _ rfl))]; exact hc⟩
theorem GNew.below {B : Nat} {w w' : World} {g : Nat} {G : List (List Nat)} (h : GNew B w g G) (hg : g < w.heap.size) (hb : Below w.heap.size w w') : GNew B w' g G := by
  refine ⟨h.row.below hb, h.hd, fun i hi => ?_⟩
  obtain ⟨ao, cap, h1, h2, h3⟩ := h.inn i hi
  exact ⟨ao, cap, cell_below' hb h1 hg, h2.below hb, h3⟩
theorem GNew.lt {B : Nat} {w : World} {g : Nat} {G : List (List Nat)} (h : GNew B w g G) (h0 : 0 < G.length) : g < w.heap.size := by
  obtain ⟨b, o, ao, cap, e, h1, _⟩ := h.row 0 h0
  cases e
  exact h1
theorem GNew.kept {B x : Nat} {w w' : World} {g : Nat} {G : List (List Nat)} (h : GNew B w g G) (hk : Kept (fun i => i = x) w w') (hx : x < B) : GRow w' (some ⟨g, 0, none⟩) G := by
  intro i hi
  have hg := h.lt (by omega)
  obtain ⟨ao, cap, h1, h2, h3⟩ := h.inn i hi
  have hd := h.hd
  rw [getD_lt hi] at h1 h2
  refine ⟨g, 0, ao, cap, rfl, Nat.lt_of_lt_of_le hg hk.size, ?_, lst_kept h2 hk (fun ad e => by have := h3 ad e; omega)⟩
  rw [Nat.zero_add, cell_of_block (hk.block g hg (by omega))]
  exact h1
section
variable (n : Int) (b : Bool) (ao fo : Option Addr) (cap fc : Nat) (Z : List ArcT) (F : List Int)
def VLoad (w : World) (e : Ending) (w' : World) : Prop :=
  ∃ g1 c1 g2 c2, e = .returned (.tuple #[.agg #[.int .i64 n, .bool b, .slice ao Z.length cap, .slice fo F.length fc, .slice (some ⟨g1, 0, none⟩) n.toNat c1, .slice (some ⟨g2, 0, none⟩) n.toNat c2], .int .i64 0]) ∧ LD w' ao fo Z F g1 g2 n.toNat ∧ Below w.heap.size w w'
set_option maxRecDepth 100000 in
set_option maxHeartbeats 2000000 in
theorem vload_ok (w : World) (h : Row encA 4 w ao Z) (hf : Lst encI w fo F) (hz : Z.length ≤ maxLen) (hfl : F.length ≤ maxLen) (he : flowE n Z F = 0) :
    Calls Try.prog 68 #[.agg #[.int .i64 n, .bool b, .slice ao Z.length cap], .slice fo F.length fc] w (VLoad n b ao fo cap fc Z F w) := by
  obtain ⟨hc, hq⟩ := flowE_ok he
  have hn1 := (flow_facts (b := b) he).2.2.2.2.1
  have HC := Lib.hid hc
  have HE := Lib.hid he
  have hb00 := ((Below.refl _ w).alloc (Nat.le_refl _) (.cells #[.int .i64 n, .bool b, .slice ao Z.length cap] 24)).alloc (by simp) (.cells #[.int .i64 0, .bool false, .slice none 0 0, .slice none 0 0, .slice none 0 0, .slice none 0 0] 113)
  have HB0 := Lib.hid hb00
  have HN := Lib.hid (alloc_whole (heap_alloc_new w (.cells #[.int .i64 n, .bool b, .slice ao Z.length cap] 24)) (.cells #[.int .i64 0, .bool false, .slice none 0 0, .slice none 0 0, .slice none 0 0, .slice none 0 0] 113))
  have HL := Lib.hid (new_whole1 w (.cells #[.int .i64 n, .bool b, .slice ao Z.length cap] 24) (.cells #[.int .i64 0, .bool false, .slice none 0 0, .slice none 0 0, .slice none 0 0, .slice none 0 0] 113))
  have HR0 := Lib.hid h
  have HF0 := Lib.hid hf
  have HR := Lib.hid (h.below' hb00)
  have HF := Lib.hid (hf.below hb00)
  have HZ := Lib.hid hz
  have HFL := Lib.hid hfl
  obtain ⟨P, hP⟩ : ∃ k, balsL n Z F = k := ⟨_, rfl⟩
  have HP := Lib.hid hP
  clear h hf hz hfl he hc hq hb00 hP
  go_enter Try.func68, Try.ntmps68
  go_wp2_with (first
    | (go_at_call 45; refine (balance_is n b ao fo cap fc Z F 0 P _ HR.out HF.out HZ.out HFL.out HE.out HP.out).mono ?_; rintro e w1 ⟨a1, k1, rfl, hl1, hb1⟩; have hn1 := kept_box HN.out hb1; have HN1 := Lib.hid hn1; have HL1 := Lib.hid (kept_box HL.out hb1); have HR1 := Lib.hid (HR.out.below' hb1); have HB1 := Lib.hid (HB0.out.trans (hb1.mono HB0.out.size)); have x1 := cell_whole hn1 0; have y1 := cell_whole hn1 1; have z1 := cell_whole hn1 2; clear hb1 hn1 hl1)
    | (go_at_call 71; refine (out_new n b ao cap Z _ HR1.out HC.out).mono ?_; rintro e w2 ⟨g1, c1, rfl, hg1, hb2⟩; have hn2 := kept_box HN1.out hb2; have HN2 := Lib.hid hn2; have HL2 := Lib.hid (kept_box HL1.out hb2); have HR2 := Lib.hid (HR1.out.below' hb2); have HB2 := Lib.hid (HB1.out.trans (hb2.mono HB1.out.size)); have HG1 := Lib.hid hg1; have x2 := cell_whole hn2 0; have y2 := cell_whole hn2 1; have z2 := cell_whole hn2 2; clear hb2 hn2 hg1 x1 y1 z1)
    | (go_at_call 72; refine (into_new n b ao cap Z _ HR2.out HC.out).mono ?_; rintro e w3 ⟨g2, c2, rfl, hg2, hb3⟩; have hn3 := kept_box HN2.out hb3; have hl3 := kept_box HL2.out hb3; have HL3 := Lib.hid hl3; have HB3 := Lib.hid (HB2.out.trans (hb3.mono HB2.out.size)); have HG1 := Lib.hid (HG1.out.below (HG1.out.lt (by rw [lists_len]; omega)) hb3); have HG2 := Lib.hid hg2; have hx1 := lt_whole HL1.out; have hx2 := lt_whole HL2.out; have x3 := cell_whole hn3 0; have y3 := cell_whole hn3 1; have z3 := cell_whole hn3 2; obtain ⟨⟨k0, k1, k2, k3, k4, k5⟩, f0, f1, f2, f3, f4, f5⟩ := ld6Cells hl3; clear hb3 hn3 hl3 hg2 x2 y2 z2))
  obtain ⟨hs, hb, hk⟩ := ld6Set HL3.out HB3.out (by omega) (.int .i64 n) (.bool b) (.slice ao Z.length cap) (.slice fo F.length fc) (.slice (some ⟨g1, 0, none⟩) n.toNat c1) (.slice (some ⟨g2, 0, none⟩) n.toNat c2)
  clear k0 k1 k2 k3 k4 k5 f0 f1 f2 f3 f4 f5
  generalize World.setCell (World.setCell (World.setCell (World.setCell (World.setCell (World.setCell _ _ _) _ _) _ _) _ _) _ _) _ _ = W at *
  obtain ⟨⟨k0, k1, k2, k3, k4, k5⟩, _⟩ := ld6Cells hs
  refine bodyPost_ret (v := .tuple #[.agg #[.int .i64 n, .bool b, .slice ao Z.length cap, .slice fo F.length fc, .slice (some ⟨g1, 0, none⟩) n.toNat c1, .slice (some ⟨g2, 0, none⟩) n.toNat c2], .int .i64 0]) (by simp [results, Try.results68, go_sem, k0, k1, k2, k3, k4, k5]) rfl ⟨g1, c1, g2, c2, rfl, ⟨HR0.out.below' hb, HF0.out.below hb, ?_, ?_⟩, hb⟩
  · exact HG1.out.kept hk (by omega)
  · exact HG2.out.kept hk (by omega)
set_option maxRecDepth 100000 in
set_option maxHeartbeats 2000000 in
theorem vload_no (e0 : Int) (w : World) (h : Row encA 4 w ao Z) (hf : Lst encI w fo F) (hz : Z.length ≤ maxLen) (hfl : F.length ≤ maxLen) (he : flowE n Z F = e0) (h0 : e0 ≠ 0) :
    Calls Try.prog 68 #[.agg #[.int .i64 n, .bool b, .slice ao Z.length cap], .slice fo F.length fc] w fun e w' => e = .returned (.tuple #[.agg #[.int .i64 0, .bool false, .slice none 0 0, .slice none 0 0, .slice none 0 0, .slice none 0 0], .int .i64 e0]) ∧ Below w.heap.size w w' := by
  have HE := Lib.hid he
  have hb00 := ((Below.refl _ w).alloc (Nat.le_refl _) (.cells #[.int .i64 n, .bool b, .slice ao Z.length cap] 24)).alloc (by simp) (.cells #[.int .i64 0, .bool false, .slice none 0 0, .slice none 0 0, .slice none 0 0, .slice none 0 0] 113)
  have HB0 := Lib.hid hb00
  have HL := Lib.hid (new_whole1 w (.cells #[.int .i64 n, .bool b, .slice ao Z.length cap] 24) (.cells #[.int .i64 0, .bool false, .slice none 0 0, .slice none 0 0, .slice none 0 0, .slice none 0 0] 113))
  have HR := Lib.hid (h.below' hb00)
  have HF := Lib.hid (hf.below hb00)
  have HZ := Lib.hid hz
  have HFL := Lib.hid hfl
  obtain ⟨P, hP⟩ : ∃ k, balsL n Z F = k := ⟨_, rfl⟩
  have HP := Lib.hid hP
  have hf2 : (e0 != 0) = true := by simpa using h0
  have hf1 : (e0 == 0) = false := by simpa using h0
  clear h hf hz hfl he h0 hb00 hP
  go_enter Try.func68, Try.ntmps68
  go_wp2_with (first
    | (go_at_call 45; refine (balance_is n b ao fo cap fc Z F e0 P _ HR.out HF.out HZ.out HFL.out HE.out HP.out).mono ?_; rintro e w1 ⟨a1, q1, rfl, hl1, hb1⟩; have hl3 := kept_box HL.out hb1; have HL3 := Lib.hid hl3; have HB3 := Lib.hid (HB0.out.trans (hb1.mono HB0.out.size)); obtain ⟨⟨k0, k1, k2, k3, k4, k5⟩, f0, f1, f2, f3, f4, f5⟩ := ld6Cells hl3; clear hb1 hl1 hl3))
  obtain ⟨hs, hb, hk⟩ := ld6Set HL3.out HB3.out (by omega) (.int .i64 0) (.bool false) (.slice none 0 0) (.slice none 0 0) (.slice none 0 0) (.slice none 0 0)
  clear k0 k1 k2 k3 k4 k5 f0 f1 f2 f3 f4 f5
  generalize World.setCell (World.setCell (World.setCell (World.setCell (World.setCell (World.setCell _ _ _) _ _) _ _) _ _) _ _) _ _ = W at *
  obtain ⟨⟨k0, k1, k2, k3, k4, k5⟩, _⟩ := ld6Cells hs
  refine bodyPost_ret (v := .tuple #[.agg #[.int .i64 0, .bool false, .slice none 0 0, .slice none 0 0, .slice none 0 0, .slice none 0 0], .int .i64 e0]) (by simp [results, Try.results68, go_sem, k0, k1, k2, k3, k4, k5]) rfl ⟨rfl, hb⟩
end
end Go.Proofs.Ytmflleifglefiaa
