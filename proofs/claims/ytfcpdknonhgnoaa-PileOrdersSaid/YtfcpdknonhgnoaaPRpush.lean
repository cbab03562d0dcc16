/- What Push of the document's pile does: the pair is put where it belongs. -/
import Derived.Test.YtfcpdknonhgnoaaPRef
import Derived.Laws.AppendOwnNone
namespace Go.Proofs.Ytfcpdknonhgnoaa
open Go.RowKit Go.Sort
set_option linter.unusedVariables false

theorem rbefore_any (a b : Int × Int) (w : World) : Calls Try.prog 33 #[.agg #[.int .i64 a.1, .int .i64 a.2], .agg #[.int .i64 b.1, .int .i64 b.2]] w fun e w' => e = .returned (.bool (ltP a b)) ∧ Below w.heap.size w w' := by
  obtain ⟨x, y⟩ := a
  obtain ⟨z, u⟩ := b
  simp only
  rcases Int.lt_trichotomy x z with h | h | h
  · have HE : Hid (ltP (x, y) (z, u) = true) := Lib.hid (by simp [ltP]; omega)
    have hd : decide (x < z) = true := decide_eq_true h
    go_enter Try.func33, Try.ntmps33
    go_wp2
    go_ret
    exact ⟨ret_bool HE.out.symm, ((Below.refl _ w).alloc (Nat.le_refl _) _).alloc (by simp) _⟩
  · subst h
    have HE : Hid (ltP (x, y) (x, u) = decide (y < u)) := Lib.hid (by simp [ltP])
    go_enter Try.func33, Try.ntmps33
    go_wp2
    go_ret
    exact ⟨ret_bool HE.out.symm, ((Below.refl _ w).alloc (Nat.le_refl _) _).alloc (by simp) _⟩
  · have HE : Hid (ltP (x, y) (z, u) = false) := Lib.hid (by simp [ltP]; omega)
    have hd : decide (x < z) = false := decide_eq_false (by omega)
    have he : (x == z) = false := by simp; omega
    go_enter Try.func33, Try.ntmps33
    go_wp2
    go_ret
    exact ⟨ret_bool HE.out.symm, ((Below.refl _ w).alloc (Nat.le_refl _) _).alloc (by simp) _⟩
theorem rpush_no (b : Nat) (G : Option Nat) (most : Nat) (L : List (Int × Int)) (x : Int × Int) (w : World) (h : RPIs w b G most L) (hm : L.length = most) (h1 : most ≤ 65536) :
    Calls Try.prog 17 #[.pointer (some ⟨b, 0, none⟩), .agg #[.int .i64 x.1, .int .i64 x.2]] w fun e w' => e = .returned (.int .i64 20) ∧ Below w.heap.size w w' := by
  have hlt := h.lt
  obtain ⟨ao, cap, c1⟩ := h.slice
  obtain ⟨hn, v, hb, hv⟩ := h
  have c0 := cell_whole hb 0
  simp at c0
  clear hb hv hn
  have h2 : most ≤ L.length := by omega
  have n1 : b ≠ w.heap.size := by omega
  clear hm
  go_enter Try.func17, Try.ntmps17
  go_wp2
  go_quiet (fail)
  go_wp2
  go_ret
  have hb := (Below.refl w.heap.size w).alloc (Nat.le_refl _) (.cells #[.int .i64 x.1, .int .i64 x.2] 34)
  exact ⟨rfl, ⟨hb.os, hb.tape, hb.output, hb.size, hb.block⟩⟩
/-- Pairs appended to a row of the call's own. -/
theorem wpList_append_pairs {w : World} {ops : Array Oper} {rest : List Oper} {o : Oper} {a : Act} {Q : Exit → Act → World → Prop} (hgd : o.guard = none) (s x : Operand)
    (ho : o.op = .call { callee := .builtin .append, args := #[s, x], argTypes := #[38, 38] })
    (base : Nat) (v : Value) (n : Nat) (xs : List (Int × Int)) (hs : a.eval s = v) (hown : w.ownsRow base 34 2 v n (flatP xs))
    (gs os m c : Nat) (ys : List (Int × Int)) (hx : a.eval x = .slice (some ⟨gs, os, none⟩) m c) (hm : ys.length = m)
    (hc : ∀ j, j < ys.length → w.cell? ⟨gs, os + j * 2, none⟩ = some (.int .i64 (ys.getD j (0, 0)).1) ∧ w.cell? ⟨gs, os + j * 2 + 1, none⟩ = some (.int .i64 (ys.getD j (0, 0)).2))
    (hpos : 0 < n + m) (hroom : n + m ≤ 200000) (hbase : base ≤ w.heap.size)
    (hK : ∀ g cap w', w'.ownsRow base 34 2 (.slice (some ⟨g, 0, none⟩) (n + m) cap) (n + m) (flatP (xs ++ ys)) → w.grownBy w' v.ownBlock → (v.ownBlock = some g ∨ g = w.heap.size) → base ≤ g → g < w'.heap.size → wpList Try.prog ops Q rest (a.put o.dst (.slice (some ⟨g, 0, none⟩) (n + m) cap)) w') : wpList Try.prog ops Q (o :: rest) a w := by
  obtain ⟨i0, hi, hz0, hz1, hz2⟩ := info_parts Try.infoPair
  refine wpList_append_own_at w hgd s x 38 ho base 34 i0 _ 2 16 Try.underlying38 hi hz0 hz1 hz2 rfl (by omega) v n (flatP xs) hs hown ⟨gs, os, none⟩ m c (flatP ys) hx (by rw [flatP_length, hm]) ?_ (flatP_one ys) (by unfold maxLen; omega) (by omega) hbase ?_
  · intro j u hj
    rw [Addr.add_lit]
    have hjl : j < ys.length * 2 := by
      rcases Nat.lt_or_ge j (ys.length * 2) with h | h
      · exact h
      · rw [List.getElem?_eq_none (by rw [flatP_length]; exact h)] at hj; cases hj
    have hj2 : j / 2 < ys.length := by omega
    obtain ⟨c0, c1⟩ := hc (j / 2) hj2
    obtain ⟨e0, e1⟩ := flatP_get ys (j / 2) hj2
    have hg : ys.getD (j / 2) (0, 0) = ys[j / 2] := by rw [List.getD_eq_getElem?_getD, List.getElem?_eq_getElem hj2]; rfl
    rw [hg] at c0 c1
    have em : j = j / 2 * 2 ∨ j = j / 2 * 2 + 1 := by omega
    rcases em with em | em
    · rw [← em] at c0 e0; rw [c0, ← hj, e0]
    · rw [Nat.add_assoc, ← em] at c1; rw [← em] at e1; rw [c1, ← hj, e1]
  · intro v' w' h1 h2 h3 h4
    rw [← flatP_append] at h1
    obtain ⟨g, cap, rfl, hb, hlt⟩ := h1.form hpos
    refine hK g cap w' h1 h2 ?_ hb hlt
    rcases h4 with h4 | h4
    · exact .inl (by rw [← h4]; rfl)
    · right; simpa [Value.ownBlock] using h4
/-- What stands while the document's Push goes along its pairs. -/
def RLoop (w wr : World) (b g o cap most : Nat) (L : List (Int × Int)) (x : Int × Int) (cur : Array Value) : Prop :=
  wr.heap[b]? = some (.cells #[.int .i64 (most : Int), .slice (some ⟨g, o, none⟩) L.length cap] 40 (0, 0)) ∧ wr.heap[g]? = some (.cells cur 34 (0, 0)) ∧
  wr.heap[w.heap.size]? = some (.cells #[.int .i64 x.1, .int .i64 x.2] 34 (0, 0)) ∧ Below w.heap.size w wr ∧ w.heap.size + 1 ≤ wr.heap.size ∧ b < w.heap.size ∧ g < w.heap.size
section
variable {w wr w' : World} {b g o cap most : Nat} {L : List (Int × Int)} {x : Int × Int} {cur : Array Value}
theorem RLoop.next (h : RLoop w wr b g o cap most L x cur) (k : Below (w.heap.size + 1) wr w') : RLoop w w' b g o cap most L x cur := by
  obtain ⟨h1, h2, h3, h4, h5, h6, h7⟩ := h
  exact ⟨(k.block b (by omega)).trans h1, (k.block g (by omega)).trans h2, (k.block _ (by omega)).trans h3, h4.trans (k.mono (by omega)), Nat.le_trans h5 k.size, h6, h7⟩
theorem RLoop.c1 (h : RLoop w wr b g o cap most L x cur) : wr.cell? ⟨b, 1, none⟩ = some (.slice (some ⟨g, o, none⟩) L.length cap) := by
  have := cell_whole h.1 1; simpa using this
theorem RLoop.f1 (h : RLoop w wr b g o cap most L x cur) : wr.frozen? ⟨b, 1, none⟩ = false := frozen_whole h.1 1
theorem RLoop.x0 (h : RLoop w wr b g o cap most L x cur) : wr.cell? ⟨w.heap.size, 0, none⟩ = some (.int .i64 x.1) := by
  have := cell_whole h.2.2.1 0; simpa using this
theorem RLoop.x1 (h : RLoop w wr b g o cap most L x cur) : wr.cell? ⟨w.heap.size, 1, none⟩ = some (.int .i64 x.2) := by
  have := cell_whole h.2.2.1 1; simpa using this
theorem RLoop.y (h : RLoop w wr b g o cap most L x cur) (j : Nat) : wr.cell? ⟨g, j, none⟩ = cur[j]? := cell_whole h.2.1 j
end
theorem take_while_of {L : List (Int × Int)} {x : Int × Int} {k : Nat} (hk : k ≤ L.length) (h : ∀ j, j < k → ltP (L.getD j (0, 0)) x = true) (hn : k < L.length → ltP (L.getD k (0, 0)) x = false) : insP x L = L.take k ++ x :: L.drop k := by
  induction L generalizing k with
  | nil => simp at hk; subst hk; rfl
  | cons y L ih =>
    rw [insP_cons]
    cases k with
    | zero =>
      have := hn (by simp)
      simp at this
      rw [if_neg (by simp [this])]
      rfl
    | succ k =>
      have := h 0 (by omega)
      simp at this
      rw [if_pos this, ih (k := k) (by simpa using hk) (fun j hj => by have := h (j + 1) (by omega); simpa using this) (fun hk => by have := hn (by simpa using hk); simpa using this)]
      rfl
def PushedR (b most : Nat) (G : Option Nat) (L : List (Int × Int)) (w : World) (e : Ending) (w' : World) : Prop :=
  ∃ g', e = .returned (.int .i64 0) ∧ RPIs w' b (some g') most L ∧ Kept (fun i => i = b) w w' ∧ w.heap.size ≤ g'
theorem row_of_own' {w : World} {base g n cap : Nat} {l : List (Int × Int)} (h : w.ownsRow base 34 2 (.slice (some ⟨g, 0, none⟩) n cap) n (flatP l)) : RowR w (some g) (.slice (some ⟨g, 0, none⟩) n cap) l := by
  have hl : l.length = n := by have := h.1; rw [flatP_length] at this; omega
  subst hl
  rcases h.2 with ⟨h0, _⟩ | ⟨g', cap', cur, hv, hb, hg, hnc, hcm, hcs, ht⟩
  · cases h0
  · cases hv
    refine .inr ⟨g, 0, cap, cur, rfl, rfl, hg, hnc, fun j hj => ?_⟩
    have key : ∀ t, t < l.length * 2 → cur[t]? = (flatP l)[t]? := fun t h => by
      rw [← ht, List.getElem?_take, if_pos h, Array.getElem?_toList]
    obtain ⟨c, e⟩ := flatP_get l j hj
    have hg : l.getD j (0, 0) = l[j] := by rw [List.getD_eq_getElem?_getD, List.getElem?_eq_getElem hj]; rfl
    rw [Nat.zero_add, key _ (by omega), key _ (by omega), hg]
    exact ⟨c, e⟩
theorem own_below {w w' : World} {base : Nat} {v : Value} {n : Nat} {xs : List Value} (h : w.ownsRow base 34 2 v n xs) (k : Below w.heap.size w w') : w'.ownsRow base 34 2 v n xs :=
  h.kept (row := none) ⟨k.os, k.tape, k.output, k.size, fun i hi _ => k.block i hi⟩ (by cases v.ownBlock <;> simp)
theorem below_grown {w w' : World} {N : Nat} {o : Obj} {v : Value} {base n : Nat} {xs : List Value} (hown : w.ownsRow base 34 2 v n xs) (hN : N ≤ base) (hs : N ≤ w.heap.size) (h : (w.alloc o).grownBy w' v.ownBlock) : Below N w w' :=
  ((Below.refl _ w).alloc hs o).grown h (by simp; omega) (fun k hk => Nat.le_trans hN (hown.lt k hk).1)
theorem below_grown' {w w' : World} {N : Nat} {v : Value} {base n : Nat} {xs : List Value} (hown : w.ownsRow base 34 2 v n xs) (hN : N ≤ base) (hs : N ≤ w.heap.size) (h : w.grownBy w' v.ownBlock) : Below N w w' :=
  (Below.refl _ w).grown h hs (fun k hk => Nat.le_trans hN (hown.lt k hk).1)
theorem one_pair {w : World} {y : Int × Int} : ∀ j, j < [y].length → (w.alloc (.cells #[.int .i64 y.1, .int .i64 y.2] 34)).cell? ⟨w.heap.size, 0 + j * 2, none⟩ = some (.int .i64 ([y].getD j (0, 0)).1) ∧ (w.alloc (.cells #[.int .i64 y.1, .int .i64 y.2] 34)).cell? ⟨w.heap.size, 0 + j * 2 + 1, none⟩ = some (.int .i64 ([y].getD j (0, 0)).2) := by
  intro j hj
  obtain rfl : j = 0 := by simpa using hj
  exact ⟨cell_new w _ _ 0, cell_new w _ _ 1⟩
theorem take_snocP {L : List (Int × Int)} {k : Nat} (h : k < L.length) : L.take k ++ [L.getD k (0, 0)] = L.take (k + 1) := by
  rw [List.take_succ_eq_append_getElem h, List.getD_eq_getElem?_getD, List.getElem?_eq_getElem h]; rfl
theorem drop_cells {L : List (Int × Int)} {k : Nat} {j : Nat} (h : j < (L.drop k).length) : (L.drop k).getD j (0, 0) = L.getD (k + j) (0, 0) := by
  rw [List.getD_eq_getElem?_getD, List.getD_eq_getElem?_getD, List.getElem?_drop]
theorem rpush_end {w w6 : World} {b g o cap most : Nat} {L : List (Int × Int)} {x : Int × Int} {cur : Array Value} {k g6 cap6 n : Nat} (hI : RLoop w w6 b g o cap most L x cur) (hn : n = k + 1 + (L.length - k)) (hown : w6.ownsRow (w.heap.size + 1) 34 2 (.slice (some ⟨g6, 0, none⟩) n cap6) n (flatP (L.take k ++ [x] ++ L.drop k))) (hge : w.heap.size + 1 ≤ g6)
    (hk : k ≤ L.length) (hl : ∀ j, j < k → ltP (L.getD j (0, 0)) x = true) (hx : k < L.length → ltP (L.getD k (0, 0)) x = false) :
    PushedR b most (some g) (insP x L) w (.returned (.int .i64 0)) (w6.setCell ⟨b, 1, none⟩ (.slice (some ⟨g6, 0, none⟩) n cap6)) := by
  have hb := hI.2.2.2.2.2.1
  have hr := row_of_own' hown
  rw [show L.take k ++ [x] ++ L.drop k = insP x L by rw [take_while_of hk hl hx]; simp] at hr
  refine ⟨g6, rfl, ⟨fun e => by have := Option.some.inj e; omega, _, set_whole hI.1 _ _, hr.kept ((Kept.refl (fun i => i = b) w6).set (.inl rfl) _) (fun g' e h => by have := Option.some.inj e; omega)⟩, ?_, by omega⟩
  exact (Kept.of_below (S := fun i => i = b) hI.2.2.2.1).set (.inl rfl) _
set_option maxRecDepth 100000 in
set_option maxHeartbeats 4000000 in
theorem rpush_some (b g o cap : Nat) (most : Nat) (L : List (Int × Int)) (x : Int × Int) (cur : Array Value) (w : World) (hne : g ≠ b)
    (hb : w.heap[b]? = some (.cells #[.int .i64 (most : Int), .slice (some ⟨g, o, none⟩) L.length cap] 40 (0, 0))) (hg : w.heap[g]? = some (.cells cur 34 (0, 0))) (hcap : L.length ≤ cap)
    (hc : ∀ j, j < L.length → cur[o + j * 2]? = some (.int .i64 (L.getD j (0, 0)).1) ∧ cur[o + j * 2 + 1]? = some (.int .i64 (L.getD j (0, 0)).2)) (hm : L.length < most) (h1 : most ≤ 65536) :
    Calls Try.prog 17 #[.pointer (some ⟨b, 0, none⟩), .agg #[.int .i64 x.1, .int .i64 x.2]] w (PushedR b most (some g) (insP x L) w) := by
  have hbs := lt_whole hb
  have hgs := lt_whole hg
  have HC := Lib.hid hc
  have HB := Lib.hid hb
  have HG := Lib.hid hg
  have hdd : decide (most ≤ L.length) = false := decide_eq_false (by omega)
  clear hb hg hc
  go_enter Try.func17, Try.ntmps17
  go_wp2
  generalize hw1 : w.alloc (.cells #[.int .i64 x.1, .int .i64 x.2] 34) = w1
  have I1 : RLoop w w1 b g o cap most L x cur := by
    subst hw1
    exact ⟨alloc_whole HB.out _, alloc_whole HG.out _, heap_alloc_new w _, (Below.refl _ w).alloc (Nat.le_refl _) _, by simp, hbs, hgs⟩
  have d0 : w1.cell? ⟨b, 0, none⟩ = some (.int .i64 (most : Int)) := by have := cell_whole I1.1 0; simpa using this
  have d1 := I1.c1
  have HI1 := Lib.hid I1
  clear hw1 I1
  go_quiet (fail)
  go_wp2
  clear d0 d1
  generalize hwq : w1.drewN nq = wq
  have HIQ : Hid (RLoop w wq b g o cap most L x cur) := Lib.hid (by subst hwq; exact HI1.out.next ⟨rfl, rfl, rfl, Nat.le_refl _, fun _ _ => rfl⟩)
  clear hwq HI1
  go_loopw [5, 6] (fun u si wr => ∃ (k : Nat), k ≤ L.length ∧ Hid (wr.ownsRow (w.heap.size + 1) 34 2 u k (flatP (L.take k))) ∧ Hid (RLoop w wr b g o cap most L x cur) ∧ Hid (∀ j, j < k → ltP (L.getD j (0, 0)) x = true) ∧ si = .int .i64 (k : Int)) (fun _ si _ => L.length - (intOf si).toNat)
  case atStart => exact ⟨0, by omega, Lib.hid (World.ownsRow_nil _ _ _ _), HIQ, Lib.hid (fun j hj => by omega), rfl⟩
  case round =>
    clear HIQ
    obtain ⟨k, hk, HO, HI, HL, rfl⟩ := hrel
    by_cases hlt : k < L.length
    · have hki : (k : Int) < (L.length : Int) := by omega
      have c1 := HI.out.c1
      have x0 := HI.out.x0
      have x1 := HI.out.x1
      obtain ⟨y, hy⟩ : ∃ y, L.getD k (0, 0) = y := ⟨_, rfl⟩
      have y0 := (HI.out.y (o + k * 2)).trans (HC.out k hlt).1
      have y1 := (HI.out.y (o + k * 2 + 1)).trans (HC.out k hlt).2
      rw [hy] at y0 y1
      have HY := Lib.hid hy
      clear hy
      cases hl : ltP y x
      · have HLT := Lib.hid hl
        clear hl
        go_wp2_with fail
        go_region_held3 (fun W => W.cell? ⟨b, 1, none⟩ = some (.slice (some ⟨g, o, none⟩) L.length cap) ∧ W.cell? ⟨g, o + k * 2, none⟩ = some (.int .i64 y.1) ∧ W.cell? ⟨g, o + k * 2 + 1, none⟩ = some (.int .i64 y.2) ∧ W.cell? ⟨w.heap.size, 0, none⟩ = some (.int .i64 x.1) ∧ W.cell? ⟨w.heap.size, 1, none⟩ = some (.int .i64 x.2))
          (first | go_keep | (refine ⟨?_, ?_, ?_, ?_, ?_⟩ <;> assumption))
          (first | (go_at_call 33; refine (rbefore_any y x _).mono ?_; rintro e w3 ⟨rfl, hb3⟩; rw [HLT.out]; have HI3 := Lib.hid (HI.out.next (Below.mono ⟨hb3.os, hb3.tape, hb3.output, hb3.size, hb3.block⟩ HI.out.2.2.2.2.1)); have HO3 := Lib.hid (own_below HO.out ⟨hb3.os, hb3.tape, hb3.output, hb3.size, hb3.block⟩); have hz0 : w3.cell? ⟨g, o + k * 2, none⟩ = some (.int .i64 y.1) := ((HI3.out.y _).trans (HI.out.y _).symm).trans y0; have hz1 : w3.cell? ⟨g, o + k * 2 + 1, none⟩ = some (.int .i64 y.2) := ((HI3.out.y _).trans (HI.out.y _).symm).trans y1; have d1 := HI3.out.c1; have e0 := HI3.out.x0; have e1 := HI3.out.x1; clear hb3))
        have HN : Hid (k < L.length → ltP (L.getD k (0, 0)) x = false) := Lib.hid (fun _ => by rw [HY.out]; exact HLT.out)
        clear c1 x0 x1 y0 y1
        have hsz3 := HI3.out.2.2.2.2.1
        have nb1 : b ≠ w3.heap.size := by have := HI3.out.2.2.2.2.2.1; omega
        have nb2 : w.heap.size ≠ w3.heap.size := by omega
        have hck : ¬ cap = k := by omega
        go_wp2_with (first
          | (at_builtin; refine wpList_append_pairs rfl (.tmp 47) (.tmp 49) rfl (w.heap.size + 1) u5 k (L.take k) rfl (HO3.out.alloc _) w3.heap.size 0 1 1 [x] rfl rfl one_pair (by omega) (by omega) (by simp; omega) ?_; intro g5 cap5 w5 hown5 hgrow5 hat5 hge5 hlt5; have HI5 := Lib.hid (HI3.out.next (below_grown HO3.out (Nat.le_refl _) hsz3 hgrow5)); have c5 := HI5.out.c1; have HO5 := Lib.hid hown5; have hsz5 := HI5.out.2.2.2.2.1; clear hown5 hgrow5 hat5)
          | (at_builtin; refine wpList_append_pairs rfl (.tmp 52) (.tmp 58) rfl (w.heap.size + 1) (.slice (some ⟨g5, 0, none⟩) (k + 1) cap5) (k + 1) (L.take k ++ [x]) rfl HO5.out g (o + k * 2) (L.length - k) (cap - k) (L.drop k) rfl (by simp) (fun j hj => by rw [drop_cells hj, HI5.out.y, HI5.out.y]; have := HC.out (k + j) (by simp at hj; omega); rw [show o + k * 2 + j * 2 = o + (k + j) * 2 by omega]; exact this) (by omega) (by omega) (by omega) ?_; intro g6 cap6 w6 hown6 hgrow6 hat6 hge6 hlt6; have HI6 := Lib.hid (HI5.out.next (below_grown' HO5.out (Nat.le_refl _) hsz5 hgrow6)); have c6 := HI6.out.c1; have f6 := HI6.out.f1; have HO6 := Lib.hid hown6; clear hown6 hgrow6 hat6))
        go_ret
        exact rpush_end HI6.out rfl HO6.out hge6 hk HL.out HN.out
      · have HLT := Lib.hid hl
        clear hl
        go_wp2_with fail
        go_region_held3 (fun W => W.cell? ⟨b, 1, none⟩ = some (.slice (some ⟨g, o, none⟩) L.length cap) ∧ W.cell? ⟨g, o + k * 2, none⟩ = some (.int .i64 y.1) ∧ W.cell? ⟨g, o + k * 2 + 1, none⟩ = some (.int .i64 y.2) ∧ W.cell? ⟨w.heap.size, 0, none⟩ = some (.int .i64 x.1) ∧ W.cell? ⟨w.heap.size, 1, none⟩ = some (.int .i64 x.2))
          (first | go_keep | (refine ⟨?_, ?_, ?_, ?_, ?_⟩ <;> assumption))
          (first | (go_at_call 33; refine (rbefore_any y x _).mono ?_; rintro e w3 ⟨rfl, hb3⟩; rw [HLT.out]; have HI3 := Lib.hid (HI.out.next (Below.mono ⟨hb3.os, hb3.tape, hb3.output, hb3.size, hb3.block⟩ HI.out.2.2.2.2.1)); have HO3 := Lib.hid (own_below HO.out ⟨hb3.os, hb3.tape, hb3.output, hb3.size, hb3.block⟩); have hz0 : w3.cell? ⟨g, o + k * 2, none⟩ = some (.int .i64 y.1) := ((HI3.out.y _).trans (HI.out.y _).symm).trans y0; have hz1 : w3.cell? ⟨g, o + k * 2 + 1, none⟩ = some (.int .i64 y.2) := ((HI3.out.y _).trans (HI.out.y _).symm).trans y1; have d1 := HI3.out.c1; have e0 := HI3.out.x0; have e1 := HI3.out.x1; clear hb3))
        clear c1 x0 x1 y0 y1
        have hsz3 := HI3.out.2.2.2.2.1
        have nb1 : b ≠ w3.heap.size := by have := HI3.out.2.2.2.2.2.1; omega
        have nb3 : g ≠ w3.heap.size := by have := HI3.out.2.2.2.2.2.2; omega
        go_wp2_with (at_builtin; refine wpList_append_pairs rfl (.tmp 35) (.tmp 43) rfl (w.heap.size + 1) u5 k (L.take k) rfl (HO3.out.alloc _) w3.heap.size 0 1 1 [y] rfl rfl one_pair (by omega) (by omega) (by simp; omega) ?_; intro g5 cap5 w5 hown5 hgrow5 hat5 hge5 hlt5; have HI5 := Lib.hid (HI3.out.next (below_grown HO3.out (Nat.le_refl _) hsz3 hgrow5)); have HO5 := Lib.hid hown5; clear hown5 hgrow5 hat5)
        go_roundw
        case rel => exact ⟨k + 1, by omega, Lib.hid (by rw [← take_snocP hlt, HY.out]; exact HO5.out), HI5, Lib.hid (fun j hj => by
          rcases Nat.lt_or_ge j k with h | h
          · exact HL.out j h
          · obtain rfl : j = k := by omega
            rw [HY.out]; exact HLT.out), by go_num⟩
        case measure => simp [intOf]; omega
    · obtain rfl : k = L.length := by omega
      have c1 := HI.out.c1
      have hdk : decide ((L.length : Int) < (L.length : Int)) = false := by simp
      go_wp2_with fail
      go_quiet (fail)
      clear c1 hdk
      generalize hw3 : wr.drewN nq = w3
      have HI3 : Hid (RLoop w w3 b g o cap most L x cur) := Lib.hid (by subst hw3; exact HI.out.next ⟨rfl, rfl, rfl, Nat.le_refl _, fun _ _ => rfl⟩)
      have HO3 : Hid (w3.ownsRow (w.heap.size + 1) 34 2 u5 L.length (flatP (L.take L.length))) := Lib.hid (by subst hw3; exact HO.out)
      have d1 := HI3.out.c1
      have e0 := HI3.out.x0
      have e1 := HI3.out.x1
      have hsz3 := HI3.out.2.2.2.2.1
      have nb1 : b ≠ w3.heap.size := by have := HI3.out.2.2.2.2.2.1; omega
      have nb2 : w.heap.size ≠ w3.heap.size := by omega
      clear hw3 HI HO
      by_cases hck : cap = L.length
      · subst hck
        go_wp2_with (first
          | (at_builtin; refine wpList_append_pairs rfl (.tmp 47) (.tmp 49) rfl (w.heap.size + 1) u5 L.length (L.take L.length) rfl (HO3.out.alloc _) w3.heap.size 0 1 1 [x] rfl rfl one_pair (by omega) (by omega) (by simp; omega) ?_; intro g5 cap5 w5 hown5 hgrow5 hat5 hge5 hlt5; have HI5 := Lib.hid (HI3.out.next (below_grown HO3.out (Nat.le_refl _) hsz3 hgrow5)); have c5 := HI5.out.c1; have HO5 := Lib.hid hown5; have hsz5 := HI5.out.2.2.2.2.1; clear hown5 hgrow5 hat5)
          | (at_builtin; refine wpList_append_pairs rfl (.tmp 52) (.tmp 58) rfl (w.heap.size + 1) (.slice (some ⟨g5, 0, none⟩) (L.length + 1) cap5) (L.length + 1) (L.take L.length ++ [x]) rfl HO5.out g o 0 0 [] rfl rfl (fun j hj => by simp at hj) (by omega) (by omega) (by omega) ?_; intro g6 cap6 w6 hown6 hgrow6 hat6 hge6 hlt6; have HI6 := Lib.hid (HI5.out.next (below_grown' HO5.out (Nat.le_refl _) hsz5 hgrow6)); have c6 := HI6.out.c1; have f6 := HI6.out.f1; have HO6 := Lib.hid hown6; clear hown6 hgrow6 hat6))
        go_ret
        exact rpush_end HI6.out (k := L.length) (by simp) (by rw [List.drop_length]; exact HO6.out) hge6 (Nat.le_refl _) HL.out (fun h => by omega)
      · go_wp2_with (first
          | (at_builtin; refine wpList_append_pairs rfl (.tmp 47) (.tmp 49) rfl (w.heap.size + 1) u5 L.length (L.take L.length) rfl (HO3.out.alloc _) w3.heap.size 0 1 1 [x] rfl rfl one_pair (by omega) (by omega) (by simp; omega) ?_; intro g5 cap5 w5 hown5 hgrow5 hat5 hge5 hlt5; have HI5 := Lib.hid (HI3.out.next (below_grown HO3.out (Nat.le_refl _) hsz3 hgrow5)); have c5 := HI5.out.c1; have HO5 := Lib.hid hown5; have hsz5 := HI5.out.2.2.2.2.1; clear hown5 hgrow5 hat5)
          | (at_builtin; refine wpList_append_pairs rfl (.tmp 52) (.tmp 58) rfl (w.heap.size + 1) (.slice (some ⟨g5, 0, none⟩) (L.length + 1) cap5) (L.length + 1) (L.take L.length ++ [x]) rfl HO5.out g (o + L.length * 2) 0 (cap - L.length) [] rfl rfl (fun j hj => by simp at hj) (by omega) (by omega) (by omega) ?_; intro g6 cap6 w6 hown6 hgrow6 hat6 hge6 hlt6; have HI6 := Lib.hid (HI5.out.next (below_grown' HO5.out (Nat.le_refl _) hsz5 hgrow6)); have c6 := HI6.out.c1; have f6 := HI6.out.f1; have HO6 := Lib.hid hown6; clear hown6 hgrow6 hat6))
        go_ret
        exact rpush_end HI6.out (k := L.length) (by simp) (by rw [List.drop_length]; exact HO6.out) hge6 (Nat.le_refl _) HL.out (fun h => by omega)
set_option maxRecDepth 100000 in
set_option maxHeartbeats 2000000 in
theorem rpush_nil (b : Nat) (most : Nat) (x : Int × Int) (w : World)
    (hb : w.heap[b]? = some (.cells #[.int .i64 (most : Int), .slice none 0 0] 40 (0, 0))) (hm : 0 < most) (h1 : most ≤ 65536) :
    Calls Try.prog 17 #[.pointer (some ⟨b, 0, none⟩), .agg #[.int .i64 x.1, .int .i64 x.2]] w (PushedR b most none (insP x []) w) := by
  have hbs := lt_whole hb
  have HB := Lib.hid hb
  have hdd : decide ((most : Int) ≤ 0) = false := decide_eq_false (by omega)
  clear hb
  go_enter Try.func17, Try.ntmps17
  go_wp2
  generalize hw1 : w.alloc (.cells #[.int .i64 x.1, .int .i64 x.2] 34) = w1
  have hb1 : w1.heap[b]? = some (.cells #[.int .i64 (most : Int), .slice none 0 0] 40 (0, 0)) := by subst hw1; exact alloc_whole HB.out _
  have hx1 : w1.heap[w.heap.size]? = some (.cells #[.int .i64 x.1, .int .i64 x.2] 34 (0, 0)) := by subst hw1; exact heap_alloc_new w _
  have hk1 : Below w.heap.size w w1 := by subst hw1; exact (Below.refl _ w).alloc (Nat.le_refl _) _
  have hs1 := lt_whole hx1
  have d0 := cell_whole hb1 0
  have d1 := cell_whole hb1 1
  simp at d0 d1
  have HB1 := Lib.hid hb1
  have HX1 := Lib.hid hx1
  have HK1 := Lib.hid hk1
  clear hw1 hb1 hx1 hk1
  go_quiet (fail)
  go_wp2
  refine wp_loop_rounds 1 ?_
  rw [rounds_succ]
  go_wp2_with fail
  go_quiet (fail)
  clear d0 d1
  generalize hw3 : (w1.drewN _).drewN _ = w3
  have hb3 : w3.heap[b]? = some (.cells #[.int .i64 (most : Int), .slice none 0 0] 40 (0, 0)) := by subst hw3; exact HB1.out
  have hx3 : w3.heap[w.heap.size]? = some (.cells #[.int .i64 x.1, .int .i64 x.2] 34 (0, 0)) := by subst hw3; exact HX1.out
  have hk3 : Below w.heap.size w w3 := by subst hw3; exact ⟨HK1.out.os, HK1.out.tape, HK1.out.output, HK1.out.size, HK1.out.block⟩
  have hs3 := lt_whole hx3
  have e0 := cell_whole hx3 0
  have e1 := cell_whole hx3 1
  simp at e0 e1
  have HB3 := Lib.hid hb3
  have HX3 := Lib.hid hx3
  have HK3 := Lib.hid hk3
  have nb1 : b ≠ w3.heap.size := by omega
  have nb2 : w.heap.size ≠ w3.heap.size := by omega
  clear hw3 hb3 hx3 hk3 HB1 HX1 HK1
  obtain ⟨i0, hi0, hz0, hz1, hz2⟩ := info_parts Try.infoPair
  have HII := Lib.hid hi0
  clear hi0 hz0 hz1 hz2
  go_wp2_with (first
    | (at_builtin; refine wpList_append_pairs rfl (.tmp 47) (.tmp 49) rfl (w.heap.size + 1) (.slice none 0 0) 0 [] rfl (World.ownsRow_nil _ _ _ _) w3.heap.size 0 1 1 [x] rfl rfl one_pair (by omega) (by omega) (by simp; omega) ?_; intro g5 cap5 w5 hown5 hgrow5 hat5 hge5 hlt5; have hbb := ((Below.refl _ w3).alloc (Nat.le_refl _) (.cells #[.int .i64 x.1, .int .i64 x.2] 34)).grown hgrow5 (by simp) (fun k hk => by cases hk); have hb5 := (hbb.block b (by omega)).trans HB3.out; have c5 := cell_whole hb5 1; have f5 := frozen_whole hb5 1; simp at c5; have HB5 := Lib.hid hb5; have HBB := Lib.hid hbb; have HO5 := Lib.hid hown5; clear hown5 hgrow5 hat5 hbb hb5)
    | (at_builtin; refine wpList_append_own_none rfl (.tmp 52) (.tmp 58) 38 rfl (w.heap.size + 1) 34 i0 2 Try.underlying38 HII.out (.slice (some ⟨g5, 0, none⟩) (0 + 1) cap5) (0 + 1) (flatP ([] ++ [x])) rfl HO5.out rfl ?_))
  go_ret
  have hr := row_of_own' HO5.out
  refine ⟨g5, rfl, ⟨fun e => by have := Option.some.inj e; omega, _, set_whole HB5.out _ _, hr.kept ((Kept.refl (fun i => i = b) w5).set (.inl rfl) _) (fun g' e h => by have := Option.some.inj e; omega)⟩, ?_, by omega⟩
  exact (Kept.of_below (S := fun i => i = b) (HK3.out.trans (HBB.out.mono (by omega)))).set (.inl rfl) _
theorem rpush_yes (b : Nat) (G : Option Nat) (most : Nat) (L : List (Int × Int)) (x : Int × Int) (w : World) (h : RPIs w b G most L) (hm : L.length < most) (h1 : most ≤ 65536) :
    Calls Try.prog 17 #[.pointer (some ⟨b, 0, none⟩), .agg #[.int .i64 x.1, .int .i64 x.2]] w (PushedR b most G (insP x L) w) := by
  obtain ⟨hn, v, hb, hv⟩ := h
  rcases hv with ⟨rfl, rfl, rfl⟩ | ⟨g, o, cap, cur, rfl, rfl, h3, h4, h5⟩
  · exact rpush_nil b most x w hb (by simpa using hm) h1
  · exact rpush_some b g o cap most L x cur w (fun e => hn (by rw [e])) hb h3 h4 h5 hm h1
end Go.Proofs.Ytfcpdknonhgnoaa
