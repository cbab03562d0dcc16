/- What the queue of the document's answer does: NewQueue, Put and Take, for any queue that NewQueue made, as long as it has few numbers. -/
import Derived.Test.YtfcpdknonhgnoaaPQueue
import Derived.ArgAppend
namespace Go.Proofs.Ytfcpdknonhgnoaa
open Go.RowKit
set_option linter.unusedVariables false

/-- A slice of numbers that may be appended to: nil, or some of a row of block g. -/
def RowQ (w : World) (G : Option Nat) (v : Value) (l : List Int) : Prop :=
  (v = .slice none 0 0 ∧ l = [] ∧ G = none) ∨
  ∃ g off cap cur, G = some g ∧ v = .slice (some ⟨g, off, none⟩) l.length cap ∧ w.heap[g]? = some (.cells cur 3 (0, 0)) ∧ l.length ≤ cap ∧ off + cap ≤ cur.size ∧ ∀ j, j < l.length → cur[off + j]? = some (.int .i64 (l.getD j 0))
/-- The document's queue: its struct at block b, its row in block G. -/
def RQIs (w : World) (b : Nat) (G : Option Nat) (most : Nat) (l : List Int) : Prop :=
  G ≠ some b ∧ ∃ v, w.heap[b]? = some (.cells #[.int .i64 (most : Int), v] 54 (0, 0)) ∧ RowQ w G v l
theorem RowQ.kept {S : Nat → Prop} {w w' : World} {G : Option Nat} {v : Value} {l : List Int} (h : RowQ w G v l) (k : Kept S w w') (hg : ∀ g, G = some g → ¬ S g) : RowQ w' G v l := by
  rcases h with h | ⟨g, off, cap, cur, h1, h2, h3, h4⟩
  · exact .inl h
  · exact .inr ⟨g, off, cap, cur, h1, h2, k.old h3 (hg g h1), h4⟩
theorem RQIs.kept {S : Nat → Prop} {w w' : World} {b : Nat} {G : Option Nat} {most : Nat} {l : List Int} (h : RQIs w b G most l) (k : Kept S w w') (hb : ¬ S b) (hg : ∀ g, G = some g → ¬ S g) : RQIs w' b G most l := by
  obtain ⟨hn, v, h1, h2⟩ := h
  exact ⟨hn, v, k.old h1 hb, h2.kept k hg⟩
theorem RQIs.lt {w : World} {b : Nat} {G : Option Nat} {most : Nat} {l : List Int} (h : RQIs w b G most l) : b < w.heap.size ∧ ∀ g, G = some g → g < w.heap.size := by
  obtain ⟨hn, v, h1, h2⟩ := h
  refine ⟨lt_whole h1, fun g hg => ?_⟩
  rcases h2 with ⟨_, _, h⟩ | ⟨g', off, cap, cur, h, _, h3, _⟩
  · rw [h] at hg; cases hg
  · rw [h] at hg; cases hg; exact lt_whole h3
theorem RowQ.len {w : World} {G : Option Nat} {v : Value} {l : List Int} (h : RowQ w G v l) : ∃ ao cap, v = .slice ao l.length cap := by
  rcases h with ⟨rfl, rfl, _⟩ | ⟨g, off, cap, cur, _, rfl, _⟩
  · exact ⟨none, 0, rfl⟩
  · exact ⟨_, cap, rfl⟩
def NewRQ (most : Nat) (w : World) (e : Ending) (w' : World) : Prop :=
  ∃ b, w.heap.size ≤ b ∧ e = .returned (.tuple #[.pointer (some ⟨b, 0, none⟩), .int .i64 0]) ∧ RQIs w' b none most [] ∧ Below w.heap.size w w'
theorem rnewq_yes (most : Nat) (w : World) (h1 : most ≤ 65536) : Calls Try.prog 19 #[.int .i64 (most : Int)] w (NewRQ most w) := by
  go_enter Try.func19, Try.ntmps19
  go_wp2
  go_ret2
  exact ⟨w.heap.size, by omega, rfl, ⟨by simp, _, heap_alloc_new _ _, .inl ⟨rfl, rfl, rfl⟩⟩, (Below.refl _ _).alloc (Nat.le_refl _) _⟩
theorem rnewq_no (n : Int) (w : World) (h : n < 0 ∨ 65536 < n) : Calls Try.prog 19 #[.int .i64 n] w fun e w' => e = .returned (.tuple #[.pointer none, .int .i64 1]) ∧ w = w' := by
  rcases h with h | h
  · go_enter Try.func19, Try.ntmps19
    go_wp2
    go_ret2
    exact ⟨rfl, rfl⟩
  · have h' : 0 ≤ n := by omega
    go_enter Try.func19, Try.ntmps19
    go_wp2
    go_ret2
    exact ⟨rfl, rfl⟩
theorem rtake_no (b : Nat) (G : Option Nat) (most : Nat) (w : World) (h : RQIs w b G most []) :
    Calls Try.prog 21 #[.pointer (some ⟨b, 0, none⟩)] w fun e w' => e = .returned (.tuple #[.int .i64 0, .int .i64 21]) ∧ w = w' := by
  obtain ⟨hn, v, hb, hv⟩ := h
  obtain ⟨ao, cap, rfl⟩ := hv.len
  have c1 := cell_whole hb 1
  simp at c1
  clear hb hv
  go_enter Try.func21, Try.ntmps21
  go_wp2
  go_ret2
  exact ⟨rfl, rfl⟩
theorem rput_no (b : Nat) (G : Option Nat) (most : Nat) (l : List Int) (x : Int) (w : World) (h : RQIs w b G most l) (hm : l.length = most) (h1 : most ≤ 65536) :
    Calls Try.prog 23 #[.pointer (some ⟨b, 0, none⟩), .int .i64 x] w fun e w' => e = .returned (.int .i64 20) ∧ ∃ n, w' = w.drewN n := by
  obtain ⟨hn, v, hb, hv⟩ := h
  obtain ⟨ao, cap, rfl⟩ := hv.len
  have c0 := cell_whole hb 0
  have c1 := cell_whole hb 1
  simp at c0 c1
  clear hb hv
  have h2 : most ≤ l.length := by omega
  clear hm
  go_enter Try.func23, Try.ntmps23
  go_wp2
  go_quiet (fail)
  go_wp2
  go_ret
  exact ⟨rfl, _, rfl⟩
def TookRQ (b most : Nat) (G : Option Nat) (x : Int) (l : List Int) (w : World) (e : Ending) (w' : World) : Prop :=
  e = .returned (.tuple #[.int .i64 x, .int .i64 0]) ∧ RQIs w' b G most l ∧ Kept (fun i => i = b) w w'
theorem rtake_yes (b : Nat) (G : Option Nat) (most : Nat) (x : Int) (l : List Int) (w : World) (h : RQIs w b G most (x :: l)) (h1 : l.length ≤ 65536) :
    Calls Try.prog 21 #[.pointer (some ⟨b, 0, none⟩)] w (TookRQ b most G x l w) := by
  obtain ⟨hn, v, hb, hv⟩ := h
  rcases hv with ⟨_, h, _⟩ | ⟨g, off, cap, cur, rfl, rfl, hg, hl, hs, hc⟩
  · cases h
  have c1 := cell_whole hb 1
  simp at c1
  have f1 := frozen_whole hb 1
  have cg : w.cell? ⟨g, off, none⟩ = some (.int .i64 x) := by rw [cell_whole hg]; simpa using hc 0 (by simp)
  have HB := Lib.hid hb
  have HG := Lib.hid hg
  have HC := Lib.hid hc
  have HN := Lib.hid hn
  simp at hl
  clear hb hg hc hn
  go_enter Try.func21, Try.ntmps21
  go_wp2
  · go_ret2
    obtain rfl : l = [] := List.eq_nil_of_length_eq_zero (by omega)
    refine ⟨rfl, ⟨HN.out, _, set_whole HB.out _ _, .inr ⟨g, off, 0, cur, rfl, rfl, set_other HG.out (fun e => HN.out (by rw [e])) _ _, by simp, by omega, fun j hj => absurd hj (by simp)⟩⟩, (Kept.refl (fun i => i = b) w).setCell (.inl rfl) _⟩
  · go_ret2
    refine ⟨rfl, ⟨HN.out, _, set_whole HB.out _ _, .inr ⟨g, off + 1, cap - 1, cur, rfl, rfl, set_other HG.out (fun e => HN.out (by rw [e])) _ _, by omega, by omega, fun j hj => ?_⟩⟩, (Kept.refl (fun i => i = b) w).setCell (.inl rfl) _⟩
    have h := HC.out (j + 1) (by simp; omega)
    rw [show off + 1 + j = off + (j + 1) by omega, h]
    rfl

theorem own_rowq {w : World} {base n : Nat} {v : Value} {l : List Int} (h : w.ownsRow base 3 1 v n (l.map (Value.int .i64))) (hn : 0 < n) :
    ∃ g cap, v = .slice (some ⟨g, 0, none⟩) n cap ∧ base ≤ g ∧ RowQ w (some g) v l ∧ l.length = n := by
  have hl : l.length = n := by have := h.1; rw [List.length_map] at this; omega
  rcases h.2 with ⟨_, h0⟩ | ⟨g, cap, cur, hv, hb, hg, hnc, _, hcs, ht⟩
  · omega
  subst hv
  subst hl
  refine ⟨g, cap, rfl, hb, .inr ⟨g, 0, cap, cur, rfl, rfl, hg, hnc, by omega, fun j hj => ?_⟩, rfl⟩
  have e : (cur.toList.take (l.length * 1))[j]? = (l.map (Value.int .i64))[j]? := by rw [ht]
  rw [List.getElem?_take, if_pos (by omega)] at e
  rw [Nat.zero_add]
  rw [Array.getElem?_toList] at e
  rw [e]
  simp [List.getD, hj]
theorem wpList_append_rowq {w : World} {ops : Array Oper} {rest : List Oper} {o : Oper} {a : Act} {Q : Exit → Act → World → Prop} (hgd : o.guard = none) (s x : Operand)
    (ho : o.op = .call { callee := .builtin .append, args := #[s, x], argTypes := #[52, 52] })
    (G : Option Nat) (v : Value) (l : List Int) (z : Int) (hs : a.eval s = v) (hv : RowQ w G v l) (nb : Nat) (hx : a.eval x = .slice (some ⟨nb, 0, none⟩) 1 1) (hz : w.cell? ⟨nb, 0, none⟩ = some (.int .i64 z)) (hroom : l.length ≤ 65536)
    (hK : ∀ ao cap w' G', RowQ w' G' (.slice ao (l.length + 1) cap) (l ++ [z]) → Kept (fun i => some i = G) w w' → (G' = G ∨ ∃ k, G' = some k ∧ w.heap.size ≤ k) → wpList Try.prog ops Q rest (a.put o.dst (.slice ao (l.length + 1) cap)) w') : wpList Try.prog ops Q (o :: rest) a w := by
  obtain ⟨i0, hi, hz0, hz1, hz2⟩ := info_parts Try.infoInt
  have hnew : ∀ j u, [Value.int .i64 z][j]? = some u → w.cell? ((⟨nb, 0, none⟩ : Addr).add j) = some u := by
    intro j u hj
    rw [Addr.add_lit]
    cases j with
    | zero => simp at hj; rw [← hj]; exact hz
    | succ j => simp at hj
  have h1c : ∀ u ∈ [Value.int .i64 z], u.oneCell' = true := by simp [Value.oneCell']
  rcases hv with ⟨rfl, rfl, rfl⟩ | ⟨g, off, cap, cur, rfl, rfl, hg, hnc, hsz, hc⟩
  · refine wpList_append_grows w hgd s x 52 ho 3 i0 (.int .i64 0) 1 8 Try.underlying52 hi hz0 hz1 hz2 rfl (by decide) none 0 0 [] hs (fun _ => ⟨rfl, rfl⟩) rfl (fun b h => by cases h) ⟨nb, 0, none⟩ 1 1 [.int .i64 z] hx rfl hnew h1c (by omega) (by unfold maxLen; omega) (by omega) ?_
    intro v' w' hown hgrow
    obtain ⟨g, cap, rfl, hb, hr, _⟩ := own_rowq (l := [z]) hown (by omega)
    exact hK _ _ _ _ hr (Kept.of_grown hgrow (fun k hk => by cases hk)) (.inr ⟨g, rfl, hb⟩)
  · refine wpList_append_arg w hgd s x 52 ho 3 i0 (.int .i64 0) 1 8 Try.underlying52 hi hz0 hz1 hz2 rfl (by decide) g off l.length cap (l.map (Value.int .i64)) hs (by simp) ?_ ⟨nb, 0, none⟩ 1 1 [.int .i64 z] hx rfl hnew h1c ?_ (by unfold maxLen; omega) (by omega) ?_ ?_
    · intro j u hj
      have hjl : j < l.length := by
        rcases Nat.lt_or_ge j l.length with h | h
        · exact h
        · rw [List.getElem?_eq_none (by simpa using h)] at hj; cases hj
      rw [cell_whole hg, hc j hjl, ← hj]
      simp [List.getD, hjl]
    · intro hr j hj
      simp at hj
      subst hj
      refine ⟨?_, frozen_whole hg _⟩
      rw [cell_whole hg]
      rw [Array.getElem?_eq_getElem (by omega)]
      rfl
    · intro hr
      refine hK _ _ _ (some g) (.inr ⟨g, off, cap, cur.setIfInBounds (off + l.length) (.int .i64 z), rfl, by simp, ?_, by simp; omega, by simp; omega, fun j hj => ?_⟩) ?_ (.inl rfl)
      · simp only [World.setCells, Nat.mul_one]
        exact set_whole hg _ _
      · simp only [List.length_append, List.length_cons, List.length_nil] at hj
        rcases Nat.lt_or_ge j l.length with h | h
        · rw [Array.getElem?_setIfInBounds_ne (by omega), hc j h]
          simp [List.getD, List.getElem?_append_left h]
        · obtain rfl : j = l.length := by omega
          rw [Array.getElem?_setIfInBounds_self_of_lt (by omega)]
          simp [List.getD]
      · simp only [World.setCells]
        exact (Kept.refl (fun i => some i = some g) w).setCell (.inl rfl) _
    · intro hr v' w' hown hgrow
      have e : l.map (Value.int .i64) ++ [.int .i64 z] = (l ++ [z]).map (Value.int .i64) := by simp
      rw [e] at hown
      obtain ⟨g', cap', rfl, hb, hrow, _⟩ := own_rowq (l := l ++ [z]) hown (by omega)
      exact hK _ _ _ _ hrow (Kept.of_grown hgrow (fun k hk => by cases hk)) (.inr ⟨g', rfl, hb⟩)
def PutRQ (b most : Nat) (G : Option Nat) (x : Int) (l : List Int) (w : World) (e : Ending) (w' : World) : Prop :=
  ∃ G', e = .returned (.int .i64 0) ∧ RQIs w' b G' most (l ++ [x]) ∧ Kept (fun i => i = b ∨ some i = G) w w' ∧ (G' = G ∨ ∃ k, G' = some k ∧ w.heap.size ≤ k)
set_option maxHeartbeats 1000000 in
theorem rput_yes (b : Nat) (G : Option Nat) (most : Nat) (l : List Int) (x : Int) (w : World) (h : RQIs w b G most l) (hm : l.length < most) (h1 : most ≤ 65536) :
    Calls Try.prog 23 #[.pointer (some ⟨b, 0, none⟩), .int .i64 x] w (PutRQ b most G x l w) := by
  obtain ⟨hn, v, hb, hv⟩ := h
  have H := Lib.hid hv
  obtain ⟨ao, cap, rfl⟩ := hv.len
  have c0 := cell_whole hb 0
  have c1 := cell_whole hb 1
  simp at c0 c1
  have HB := Lib.hid hb
  have HN := Lib.hid hn
  clear hb hv hn
  go_enter Try.func23, Try.ntmps23
  go_wp2
  go_quiet (fail)
  go_wp2_with (at_builtin; refine wpList_append_rowq rfl (.tmp 19) (.tmp 21) rfl G (.slice ao l.length cap) l x rfl (H.out.kept (((Kept.refl (fun _ => False) w).drewN _).alloc _) (fun _ _ h => h)) w.heap.size rfl (cell_new (w.drewN _) _ _ 0) (by omega) ?_; intro ao2 cap2 w2 G2 hr2 hk2 hg2; have hb2 := hk2.old (alloc_whole (w := w.drewN _) HB.out _) (fun e => HN.out e.symm); have d1 := cell_whole hb2 1; have f1 := frozen_whole hb2 1; simp at d1; have HB2 := Lib.hid hb2; have HR2 := Lib.hid hr2; have HK2 := Lib.hid hk2; have HG2 := Lib.hid hg2; clear hb2 hr2 hk2 hg2)
  go_ret
  have hg2 := HG2.out
  have hbs := lt_whole HB.out
  refine ⟨G2, rfl, ⟨?_, _, set_whole HB2.out _ _, HR2.out.kept ((Kept.refl (fun i => i = b) w2).setCell (.inl rfl) _) ?_⟩, ?_, ?_⟩
  · rcases hg2 with rfl | ⟨k, rfl, hk⟩
    · exact HN.out
    · simp at hk ⊢; omega
  · intro g hg e
    subst e
    rcases hg2 with rfl | ⟨k, rfl, hk⟩
    · exact HN.out hg
    · cases hg; simp at hk; omega
  · exact ((((Kept.refl (fun i => i = b ∨ some i = G) w).drewN _).alloc _).trans HK2.out (fun i _ h => .inr h)).setCell (.inl (.inl rfl)) _
  · rcases hg2 with h | ⟨k, h, hk⟩
    · exact .inl h
    · exact .inr ⟨k, h, by simp at hk; omega⟩
end Go.Proofs.Ytfcpdknonhgnoaa
