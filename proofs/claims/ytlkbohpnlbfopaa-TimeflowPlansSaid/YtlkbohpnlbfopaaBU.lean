/- Lemmas of the layers below, several texts in one. -/
import Derived.Test.YtlkbohpnlbfopaaCI
import Derived.Deep.QuietTactic
import Derived.BigQuiet
import Derived.Test.YtlkbohpnlbfopaaBR
import Derived.Deep.RegionHeld3
import Derived.Test.YtlkbohpnlbfopaaUMap
namespace Go.Proofs.Ytlkbohpnlbfopaa
set_option linter.unusedVariables false
def fitN (n : Int) (Z : List ArcT) (H : Int) : Bool := decide (checkE n Z = 0 ∧ 0 ≤ H ∧ H ≤ 1024 ∧ (H + 1) * n ≤ 4000 ∧ (H + 1) * (Z.length : Int) ≤ 10000)
theorem fitN_is {n : Int} {Z : List ArcT} {H : Int} : fitN n Z H = true ↔ checkE n Z = 0 ∧ 0 ≤ H ∧ H ≤ 1024 ∧ (H + 1) * n ≤ 4000 ∧ (H + 1) * (Z.length : Int) ≤ 10000 := by unfold fitN; exact decide_eq_true_iff
def xpE (n : Int) (Z : List ArcT) (s t H : Int) : Int := if askE n Z s t H = 0 then (if fitN n Z H = true then 0 else 2) else askE n Z s t H
theorem xpE_ask {n : Int} {Z : List ArcT} {s t H : Int} (h : askE n Z s t H ≠ 0) : xpE n Z s t H = askE n Z s t H := by unfold xpE; rw [if_neg h]
theorem xpE_fit {n : Int} {Z : List ArcT} {s t H : Int} (h : askE n Z s t H = 0) : xpE n Z s t H = if fitN n Z H = true then 0 else 2 := by unfold xpE; rw [if_pos h]
theorem xpE_ok {n : Int} {Z : List ArcT} {s t H : Int} : xpE n Z s t H = 0 ↔ askE n Z s t H = 0 ∧ fitN n Z H = true := by
  unfold xpE
  split
  · next h =>
    split
    · next h2 => exact ⟨fun _ => ⟨h, h2⟩, fun _ => rfl⟩
    · next h2 => exact ⟨fun e => absurd e (by decide), fun e => absurd e.2 h2⟩
  · next h => exact ⟨fun e => absurd e h, fun e => absurd e.1 h⟩
def inB (n H i : Int) : Bool := decide (0 ≤ i ∧ i < (H + 1) * n)
def plcE (f : Bool) (n H i : Int) : Int := if f = true then (if inB n H i = true then 0 else 180) else 2
def plcV (f : Bool) (n H i : Int) : Int × Int := if f = true then (if inB n H i = true then (i % n, i / n) else (0, 0)) else (0, 0)
theorem fit_nat {n : Int} {Z : List ArcT} {H : Int} (h : fitN n Z H = true) : ∃ N K : Nat, n = (N : Int) ∧ H = (K : Int) ∧ 1 ≤ N ∧ N ≤ 50 ∧ K ≤ 1024 ∧ (K + 1) * N ≤ 4000 ∧ (K + 1) * Z.length ≤ 10000 ∧ Z.length ≤ 200 := by
  obtain ⟨h1, h2, h3, h4, h5⟩ := fitN_is.1 h
  have hR := nodesE_ok (right_iff.1 (show checkE n Z = 0 from h1) : Right (n, true, Z)).1
  have hl := (right_iff.1 (show checkE n Z = 0 from h1) : Right (n, true, Z)).2.1
  simp only at hR hl
  refine ⟨n.toNat, H.toNat, by omega, by omega, by omega, by omega, by omega, ?_, ?_, by omega⟩
  · have e : ((H.toNat + 1 : Nat) : Int) * (n.toNat : Int) = (H + 1) * n := by rw [show ((H.toNat + 1 : Nat) : Int) = H + 1 by omega, show (n.toNat : Int) = n by omega]
    have : (((H.toNat + 1) * n.toNat : Nat) : Int) ≤ 4000 := by rw [Int.natCast_mul, e]; exact h4
    omega
  · have e : ((H.toNat + 1 : Nat) : Int) * (Z.length : Int) = (H + 1) * (Z.length : Int) := by rw [show ((H.toNat + 1 : Nat) : Int) = H + 1 by omega]
    have : (((H.toNat + 1) * Z.length : Nat) : Int) ≤ 10000 := by rw [Int.natCast_mul, e]; exact h5
    omega
end Go.Proofs.Ytlkbohpnlbfopaa
namespace Go.Proofs.Ytlkbohpnlbfopaa
open Go.RowKit
set_option linter.unusedVariables false
section
variable (n : Int) (b : Bool) (ao : Option Addr) (nl cap : Nat) (Z : List ArcT) (H : Int)
theorem mul_wrap {x y c : Int} (hx : 0 ≤ x ∧ x ≤ 1025) (hy : 0 ≤ y ∧ y ≤ 200) : IntKind.i64.wrap (x * y) = x * y ∧ 0 ≤ x * y := by
  have h0 : 0 ≤ x * y := Int.mul_nonneg hx.1 hy.1
  have h1 : x * y ≤ 1025 * 200 := Int.mul_le_mul hx.2 hy.2 hy.1 (by omega)
  exact ⟨IntWalk.i64_in _ (by omega), h0⟩
set_option maxRecDepth 100000 in
set_option maxHeartbeats 4000000 in
theorem ufits_any (w : World) (h : Row encA 4 w ao Z) (hl : Z.length = nl) (hz : Z.length ≤ maxLen) :
    Calls Try.prog 59 #[.agg #[.int .i64 n, .bool b, .slice ao nl cap], .int .i64 H] w fun e w' => e = .returned (.bool (fitN n Z H)) ∧ Below w.heap.size w w' := by
  have hb00 := (Below.refl _ w).alloc (Nat.le_refl _) (.cells #[.int .i64 n, .bool b, .slice ao nl cap] 24)
  have HB := Lib.hid hb00
  have HNB := Lib.hid (heap_alloc_new w (.cells #[.int .i64 n, .bool b, .slice ao nl cap] 24))
  have c0 := cell_whole HNB.out 0
  have c1 := cell_whole HNB.out 1
  have c2 := cell_whole HNB.out 2
  obtain ⟨e0, he⟩ : ∃ e0, checkE n Z = e0 := ⟨_, rfl⟩
  have HCALL : Hid (Calls Try.prog 75 #[.agg #[.int .i64 n, .bool b, .slice ao nl cap]] (w.alloc (.cells #[.int .i64 n, .bool b, .slice ao nl cap] 24)) fun e w' => e = .returned (.int .i64 e0) ∧ Below (w.alloc (.cells #[.int .i64 n, .bool b, .slice ao nl cap] 24)).heap.size (w.alloc (.cells #[.int .i64 n, .bool b, .slice ao nl cap] 24)) w') := Lib.hid (by
    rw [← he, ← hl]
    exact ncheck_any n b ao cap Z _ (hl ▸ h.below' hb00) hz)
  have HE := Lib.hid he
  have HL := Lib.hid hl
  clear h hb00 hl hz
  by_cases h0 : e0 = 0
  · subst h0
    have hR := nodesE_ok (right_iff.1 (show checkE n Z = 0 from he) : Right (n, true, Z)).1
    have hlen := (right_iff.1 (show checkE n Z = 0 from he) : Right (n, true, Z)).2.1
    simp only at hR hlen
    rw [HL.out] at hlen
    clear he
    by_cases h1 : H < 0
    · have HF : Hid (fitN n Z H = false) := Lib.hid (by rw [Bool.eq_false_iff]; intro e; have := fitN_is.1 e; omega)
      rw [HF.out]
      go_enter Try.func59, Try.ntmps59
      go_wp2_with (go_at_call 75; refine HCALL.out.mono ?_; rintro e w1 ⟨rfl, hb1⟩; have HB1 := Lib.hid (HB.out.trans (hb1.mono HB.out.size)); clear hb1)
      go_ret
      exact ⟨rfl, HB1.out⟩
    · by_cases h2 : H > 1024
      · have HF : Hid (fitN n Z H = false) := Lib.hid (by rw [Bool.eq_false_iff]; intro e; have := fitN_is.1 e; omega)
        rw [HF.out]
        go_enter Try.func59, Try.ntmps59
        go_wp2_with (go_at_call 75; refine HCALL.out.mono ?_; rintro e w1 ⟨rfl, hb1⟩; have HB1 := Lib.hid (HB.out.trans (hb1.mono HB.out.size)); clear hb1)
        go_ret
        exact ⟨rfl, HB1.out⟩
      · have hw1 : IntKind.i64.wrap (H + 1) = H + 1 := IntWalk.i64_in _ (by omega)
        obtain ⟨hw2, hp2⟩ := mul_wrap (c := 0) (x := H + 1) (y := n) (by omega) (by omega)
        obtain ⟨hw3, hp3⟩ := mul_wrap (c := 0) (x := H + 1) (y := (nl : Int)) (by omega) (by omega)
        have HF : Hid (fitN n Z H = (decide ((H + 1) * n ≤ 4000) && decide ((H + 1) * (nl : Int) ≤ 10000))) := Lib.hid (by
          rw [Bool.eq_iff_iff, fitN_is, Bool.and_eq_true, decide_eq_true_eq, decide_eq_true_eq, HE.out, HL.out]
          constructor
          · rintro ⟨_, _, _, a, b⟩; exact ⟨a, b⟩
          · rintro ⟨a, b⟩; exact ⟨rfl, by omega, by omega, a, b⟩)
        rw [HF.out]
        go_enter Try.func59, Try.ntmps59
        go_wp2_with (go_at_call 75; refine HCALL.out.mono ?_; rintro e w1 ⟨rfl, hb1⟩; have HB1 := Lib.hid (HB.out.trans (hb1.mono HB.out.size)); have hn1 := kept_box HNB.out hb1; have c0 := cell_whole hn1 0; have c2 := cell_whole hn1 2; clear hb1 hn1)
        all_goals
          go_ret
          exact ⟨ret_bool (by first | rfl | (simp; omega) | (simp only [*]; simp; omega)), HB1.out⟩
  · have hf1 : (e0 != 0) = true := by simpa using h0
    have hf2 : (e0 == 0) = false := by simpa using h0
    have HF : Hid (fitN n Z H = false) := Lib.hid (by rw [Bool.eq_false_iff]; intro e; have := (fitN_is.1 e).1; rw [HE.out] at this; exact h0 this)
    rw [HF.out]
    clear he h0
    go_enter Try.func59, Try.ntmps59
    go_wp2_with (go_at_call 75; refine HCALL.out.mono ?_; rintro e w1 ⟨rfl, hb1⟩; have HB1 := Lib.hid (HB.out.trans (hb1.mono HB.out.size)); clear hb1)
    go_ret
    exact ⟨rfl, HB1.out⟩
set_option maxRecDepth 100000 in
set_option maxHeartbeats 4000000 in
theorem rfits15_any (w : World) (h : Row encA 4 w ao Z) (hl : Z.length = nl) (hz : Z.length ≤ maxLen) :
    Calls Try.prog 20 #[.agg #[.int .i64 n, .bool b, .slice ao nl cap], .int .i64 H] w fun e w' => e = .returned (.bool (fitN n Z H)) ∧ Below w.heap.size w w' := by
  have hb00 := (Below.refl _ w).alloc (Nat.le_refl _) (.cells #[.int .i64 n, .bool b, .slice ao nl cap] 24)
  have HB := Lib.hid hb00
  have HNB := Lib.hid (heap_alloc_new w (.cells #[.int .i64 n, .bool b, .slice ao nl cap] 24))
  have c0 := cell_whole HNB.out 0
  have c1 := cell_whole HNB.out 1
  have c2 := cell_whole HNB.out 2
  obtain ⟨e0, he⟩ : ∃ e0, checkE n Z = e0 := ⟨_, rfl⟩
  have HCALL : Hid (Calls Try.prog 31 #[.agg #[.int .i64 n, .bool b, .slice ao nl cap]] (w.alloc (.cells #[.int .i64 n, .bool b, .slice ao nl cap] 24)) fun e w' => e = .returned (.int .i64 e0) ∧ Below (w.alloc (.cells #[.int .i64 n, .bool b, .slice ao nl cap] 24)).heap.size (w.alloc (.cells #[.int .i64 n, .bool b, .slice ao nl cap] 24)) w') := Lib.hid (by
    rw [← he, ← hl]
    exact rcheck_any n b ao cap Z _ (hl ▸ h.below' hb00) hz)
  have HE := Lib.hid he
  have HL := Lib.hid hl
  clear h hb00 hl hz
  by_cases h0 : e0 = 0
  · subst h0
    have hR := nodesE_ok (right_iff.1 (show checkE n Z = 0 from he) : Right (n, true, Z)).1
    have hlen := (right_iff.1 (show checkE n Z = 0 from he) : Right (n, true, Z)).2.1
    simp only at hR hlen
    rw [HL.out] at hlen
    clear he
    obtain ⟨e1, he1⟩ : ∃ e1, spanE H = e1 := ⟨_, rfl⟩
    have HE1 := Lib.hid he1
    by_cases h1 : e1 = 0
    · subst h1
      obtain ⟨h2, h3⟩ := spanE_ok.1 he1
      clear he1
      have hw1 : IntKind.i64.wrap (H + 1) = H + 1 := IntWalk.i64_in _ (by omega)
      obtain ⟨hw2, hp2⟩ := mul_wrap (c := 0) (x := H + 1) (y := n) (by omega) (by omega)
      obtain ⟨hw3, hp3⟩ := mul_wrap (c := 0) (x := H + 1) (y := (nl : Int)) (by omega) (by omega)
      have HF : Hid (fitN n Z H = (decide ((H + 1) * n ≤ 4000) && decide ((H + 1) * (nl : Int) ≤ 10000))) := Lib.hid (by
        rw [Bool.eq_iff_iff, fitN_is, Bool.and_eq_true, decide_eq_true_eq, decide_eq_true_eq, HE.out, HL.out]
        constructor
        · rintro ⟨_, _, _, a, b⟩; exact ⟨a, b⟩
        · rintro ⟨a, b⟩; exact ⟨rfl, by omega, by omega, a, b⟩)
      rw [HF.out]
      go_enter Try.func20, Try.ntmps20
      go_wp2_with (first
        | (go_at_call 31; refine HCALL.out.mono ?_; rintro e w1 ⟨rfl, hb1⟩; have HB1 := Lib.hid (HB.out.trans (hb1.mono HB.out.size)); have HN1 := Lib.hid (kept_box HNB.out hb1); clear hb1)
        | (go_at_call 30; refine (rspan_any H _).mono ?_; rw [HE1.out]; rintro e w2 ⟨rfl, hb2⟩; have HB2 := Lib.hid (HB1.out.trans (hb2.mono HB1.out.size)); have hn1 := kept_box HN1.out hb2; have c0 := cell_whole hn1 0; have c2 := cell_whole hn1 2; clear hb2 hn1))
      all_goals
        go_ret
        exact ⟨ret_bool (by first | rfl | (simp; omega) | (simp only [*]; simp; omega)), HB2.out⟩
    · have hf1 : (e1 != 0) = true := by simpa using h1
      have hf2 : (e1 == 0) = false := by simpa using h1
      have HF : Hid (fitN n Z H = false) := Lib.hid (by rw [Bool.eq_false_iff]; intro e; have := fitN_is.1 e; exact h1 (he1 ▸ spanE_ok.2 ⟨this.2.1, this.2.2.1⟩))
      rw [HF.out]
      clear he1 h1
      go_enter Try.func20, Try.ntmps20
      go_wp2_with (first
        | (go_at_call 31; refine HCALL.out.mono ?_; rintro e w1 ⟨rfl, hb1⟩; have HB1 := Lib.hid (HB.out.trans (hb1.mono HB.out.size)); clear hb1)
        | (go_at_call 30; refine (rspan_any H _).mono ?_; rw [HE1.out]; rintro e w2 ⟨rfl, hb2⟩; have HB2 := Lib.hid (HB1.out.trans (hb2.mono HB1.out.size)); clear hb2))
      go_ret
      exact ⟨rfl, HB2.out⟩
  · have hf1 : (e0 != 0) = true := by simpa using h0
    have hf2 : (e0 == 0) = false := by simpa using h0
    have HF : Hid (fitN n Z H = false) := Lib.hid (by rw [Bool.eq_false_iff]; intro e; have := (fitN_is.1 e).1; rw [HE.out] at this; exact h0 this)
    rw [HF.out]
    clear he h0
    go_enter Try.func20, Try.ntmps20
    go_wp2_with (go_at_call 31; refine HCALL.out.mono ?_; rintro e w1 ⟨rfl, hb1⟩; have HB1 := Lib.hid (HB.out.trans (hb1.mono HB.out.size)); clear hb1)
    go_ret
    exact ⟨rfl, HB1.out⟩
end
end Go.Proofs.Ytlkbohpnlbfopaa
namespace Go.Proofs.Ytlkbohpnlbfopaa
open Go.RowKit
set_option linter.unusedVariables false
theorem sizeGrid : (Try.prog.info? 97).map (·.size) = some 2 := by kernel_rfl
theorem sizeSlot15 : (Try.prog.info? 56).map (·.size) = some 2 := by kernel_rfl
theorem wpList_store_box {T : TypeId} {k : Nat} (hT : (Try.prog.info? T).map (·.size) = some k) {w : World} {ops : Array Oper} {rest : List Oper} {o : Oper} {a : Act} {Q : Exit → Act → World → Prop} (hgd : o.guard = none) (x y : Operand) (ho : o.op = .store T x y)
    (g : Nat) (c : Array Value) (l : List Value) (hx : a.eval x = .pointer (some ⟨g, 0, none⟩)) (hy : a.eval y = .agg l.toArray) (hg : w.heap[g]? = some (.cells c T (0, 0))) (hc : c.size = k) (hl : l.length = k) (h1 : ∀ v ∈ l, v.oneCell' = true)
    (h : ∀ w', w'.heap[g]? = some (.cells l.toArray T (0, 0)) → Kept (fun i => i = g) w w' → wpList Try.prog ops Q rest (a.put o.dst undef) w') : wpList Try.prog ops Q (o :: rest) a w := by
  refine wpList_plain hgd fun K hK => ?_
  have hs : l.toArray.size = k := by rw [List.size_toArray, hl]
  have hrun := run_storeVar_row (P := Try.prog) w g T T c l.toArray hg (by rw [hs]; exact hT) (by rw [hc, hs]) (all_oneCell_toArray h1)
  unfold Oper.wp execOp
  simp only [ho, hx, hy, Instr.storeAt, Instr.sureAddr, Sem.run_bind, Sem.run_pure, Result.andThen_ok, hrun]
  refine hK _ _ (h _ (setRow_heap w g c _ T _ hg) ⟨rfl, rfl, rfl, by simp, fun k _ hk => setRow_other w g k _ (fun e => hk e)⟩)
theorem two_one (x y : Int) : ∀ v ∈ [Value.int .i64 x, Value.int .i64 y], v.oneCell' = true := by
  intro v hv
  simp only [List.mem_cons, List.not_mem_nil, or_false] at hv
  rcases hv with rfl | rfl <;> rfl
section
variable (n H : Int)
theorem ugindex_any (N : Nat) (v u : Int) (w : World) (hN : N ≤ 50) (hv : 0 ≤ v ∧ v ≤ 50) (hu : 0 ≤ u ∧ u ≤ 1025) :
    Calls Try.prog 68 #[.agg #[.int .i64 (N : Int), .int .i64 H], .agg #[.int .i64 v, .int .i64 u]] w fun e w' => e = .returned (.int .i64 (u * (N : Int) + v)) ∧ Below w.heap.size w w' := by
  have hb00 := ((Below.refl _ w).alloc (Nat.le_refl _) (.cells #[.int .i64 (N : Int), .int .i64 H] 97)).alloc (by simp) (.cells #[.int .i64 v, .int .i64 u] 56)
  have HB := Lib.hid hb00
  obtain ⟨hw1, hp⟩ := mul_wrap (c := 0) (x := u) (y := (N : Int)) (by omega) (by omega)
  have hp2 : u * (N : Int) ≤ 1025 * 200 := Int.mul_le_mul (by omega) (by omega) (by omega) (by omega)
  have hw2 : IntKind.i64.wrap (u * (N : Int) + v) = u * (N : Int) + v := IntWalk.i64_in _ (by omega)
  clear hb00
  go_enter Try.func68, Try.ntmps68
  go_wp2
  go_ret
  exact ⟨rfl, HB.out⟩
theorem ugsize_any (N K : Nat) (w : World) (hN : N ≤ 50) (hK : K ≤ 1024) : Calls Try.prog 40 #[.agg #[.int .i64 (N : Int), .int .i64 (K : Int)]] w fun e w' => e = .returned (.int .i64 (((K : Int) + 1) * (N : Int))) ∧ Below w.heap.size w w' := by
  have hb00 := (Below.refl _ w).alloc (Nat.le_refl _) (.cells #[.int .i64 (N : Int), .int .i64 (K : Int)] 97)
  have HB := Lib.hid hb00
  have hw0 : IntKind.i64.wrap ((K : Int) + 1) = (K : Int) + 1 := IntWalk.i64_in _ (by omega)
  obtain ⟨hw1, hp⟩ := mul_wrap (c := 0) (x := (K : Int) + 1) (y := (N : Int)) (by omega) (by omega)
  clear hb00
  go_enter Try.func40, Try.ntmps40
  go_wp2
  go_ret
  exact ⟨rfl, HB.out⟩
set_option maxHeartbeats 2000000 in
theorem ugridof_any (b : Bool) (ao : Option Addr) (nl cap : Nat) (Z : List ArcT) (f : Bool) (w : World) (h : Row encA 4 w ao Z) (hl : Z.length = nl) (hz : Z.length ≤ maxLen) (hf : fitN n Z H = f) :
    Calls Try.prog 39 #[.agg #[.int .i64 n, .bool b, .slice ao nl cap], .int .i64 H] w fun e w' => e = .returned (.tuple #[.agg #[.int .i64 (if f = true then n else 0), .int .i64 (if f = true then H else 0)], .int .i64 (if f = true then 0 else 2)]) ∧ Below w.heap.size w w' := by
  have hb00 := ((Below.refl _ w).alloc (Nat.le_refl _) (.cells #[.int .i64 n, .bool b, .slice ao nl cap] 24)).alloc (by simp) (.cells #[.int .i64 0, .int .i64 0] 97)
  have HB := Lib.hid hb00
  have HN := Lib.hid (alloc_whole (heap_alloc_new w (.cells #[.int .i64 n, .bool b, .slice ao nl cap] 24)) (.cells #[.int .i64 0, .int .i64 0] 97))
  have HX := Lib.hid (new_whole1 w (.cells #[.int .i64 n, .bool b, .slice ao nl cap] 24) (.cells #[.int .i64 0, .int .i64 0] 97))
  have HCALL := Lib.hid (ufits_any n b ao nl cap Z H _ (h.below' hb00) hl hz)
  rw [hf] at HCALL
  clear h hb00 hf hl hz
  cases f
  · go_enter Try.func39, Try.ntmps39
    go_wp2_with (first
      | (go_at_call 59; refine HCALL.out.mono ?_; rintro e w2 ⟨rfl, hb2⟩; have HB2 := Lib.hid (HB.out.trans (hb2.mono HB.out.size)); have HX2 := Lib.hid (kept_box HX.out hb2); clear hb2)
      | ((with_reducible show wpList _ _ _ (Oper.mk none (Op.store 97 _ _) _ _ _ _ :: _) _ _); refine wpList_store_box sizeGrid rfl _ _ rfl (w.heap.size + 1) _ [.int .i64 0, .int .i64 0] rfl rfl HX2.out rfl rfl (two_one 0 0) ?_; intro w3 hg3 hk3; have HG3 := Lib.hid hg3; have HK3 := Lib.hid hk3; clear hg3 hk3))
    have k0 := cell_whole HG3.out 0
    have k1 := cell_whole HG3.out 1
    refine bodyPost_ret (v := .tuple #[.agg #[.int .i64 0, .int .i64 0], .int .i64 2]) (by simp [results, Try.results39, go_sem, k0, k1]) rfl ⟨rfl, HB2.out.trans (HK3.out.below HB2.out.size (fun i e => by have e2 : i = w.heap.size + 1 := e; omega))⟩
  · have c0 := cell_whole HN.out 0
    go_enter Try.func39, Try.ntmps39
    go_wp2_with (first
      | (go_at_call 59; refine HCALL.out.mono ?_; rintro e w2 ⟨rfl, hb2⟩; have HB2 := Lib.hid (HB.out.trans (hb2.mono HB.out.size)); have HX2 := Lib.hid (kept_box HX.out hb2); have hn2 := kept_box HN.out hb2; have c0 := cell_whole hn2 0; clear hb2 hn2)
      | ((with_reducible show wpList _ _ _ (Oper.mk none (Op.store 97 _ _) _ _ _ _ :: _) _ _); refine wpList_store_box sizeGrid rfl _ _ rfl (w.heap.size + 1) _ [.int .i64 n, .int .i64 H] rfl rfl HX2.out rfl rfl (two_one n H) ?_; intro w3 hg3 hk3; have HG3 := Lib.hid hg3; have HK3 := Lib.hid hk3; clear hg3 hk3))
    have k0 := cell_whole HG3.out 0
    have k1 := cell_whole HG3.out 1
    refine bodyPost_ret (v := .tuple #[.agg #[.int .i64 n, .int .i64 H], .int .i64 0]) (by simp [results, Try.results39, go_sem, k0, k1]) rfl ⟨rfl, HB2.out.trans (HK3.out.below HB2.out.size (fun i e => by have e2 : i = w.heap.size + 1 := e; omega))⟩
theorem ugslot_any (N i : Nat) (w : World) (hN : 0 < N) (hN2 : N ≤ 50) (hi : i ≤ 100000) :
    Calls Try.prog 41 #[.agg #[.int .i64 (N : Int), .int .i64 H], .int .i64 (i : Int)] w fun e w' => e = .returned (.agg #[.int .i64 ((i : Int) % (N : Int)), .int .i64 ((i : Int) / (N : Int))]) ∧ Below w.heap.size w w' := by
  have hb00 := ((Below.refl _ w).alloc (Nat.le_refl _) (.cells #[.int .i64 (N : Int), .int .i64 H] 97)).alloc (by simp) (.cells #[.int .i64 0, .int .i64 0] 56)
  have HB := Lib.hid hb00
  have HN := Lib.hid (alloc_whole (heap_alloc_new w (.cells #[.int .i64 (N : Int), .int .i64 H] 97)) (.cells #[.int .i64 0, .int .i64 0] 56))
  have HX := Lib.hid (new_whole1 w (.cells #[.int .i64 (N : Int), .int .i64 H] 97) (.cells #[.int .i64 0, .int .i64 0] 56))
  have c0 := cell_whole HN.out 0
  have f0 := frozen_whole HX.out 0
  have f1 := frozen_whole HX.out 1
  have x0 := cell_whole HX.out 0
  have x1 := cell_whole HX.out 1
  have hz : ¬ (N : Int) = 0 := by omega
  have hq : IntKind.i64.wrap ((i : Int) / (N : Int)) = (i : Int) / (N : Int) := IntWalk.i64_in _ (by have h1 := Int.ediv_nonneg (a := (i : Int)) (b := (N : Int)) (by omega) (by omega); have h2 := Int.ediv_le_self (N : Int) (a := (i : Int)) (by omega); omega)
  clear hb00
  go_enter Try.func41, Try.ntmps41
  go_wp2_with fail
  go_region
  go_wp2
  have HY := new_whole1 w (.cells #[.int .i64 (N : Int), .int .i64 H] 97) (.cells #[.int .i64 ((i : Int) % (N : Int)), .int .i64 ((i : Int) / (N : Int))] 56)
  have hb3 := below_drew (((Below.refl _ w).alloc (Nat.le_refl _) (.cells #[.int .i64 (N : Int), .int .i64 H] 97)).alloc (by simp) (.cells #[.int .i64 ((i : Int) % (N : Int)), .int .i64 ((i : Int) / (N : Int))] 56))
  have q0 := cell_whole HY 0
  have q1 := cell_whole HY 1
  have q0' : ((w.alloc (.cells #[.int .i64 (N : Int), .int .i64 H] 97)).alloc (.cells #[.int .i64 ((i : Int) % (N : Int)), .int .i64 ((i : Int) / (N : Int))] 56)).drew.cell? ⟨w.heap.size + 1, 0, none⟩ = some (.int .i64 ((i : Int) % (N : Int))) := q0
  have q1' : ((w.alloc (.cells #[.int .i64 (N : Int), .int .i64 H] 97)).alloc (.cells #[.int .i64 ((i : Int) % (N : Int)), .int .i64 ((i : Int) / (N : Int))] 56)).drew.cell? ⟨w.heap.size + 1, 1, none⟩ = some (.int .i64 ((i : Int) / (N : Int))) := q1
  exact bodyPost_ret (v := .agg #[.int .i64 ((i : Int) % (N : Int)), .int .i64 ((i : Int) / (N : Int))]) (by simp [results, Try.results41, go_sem, q0', q1']) rfl ⟨rfl, hb3⟩
end
end Go.Proofs.Ytlkbohpnlbfopaa
namespace Go.Proofs.Ytlkbohpnlbfopaa
open Go.RowKit
set_option linter.unusedVariables false
section
variable (n H : Int)
set_option maxHeartbeats 2000000 in
theorem uplace_any (b : Bool) (ao : Option Addr) (nl cap : Nat) (Z : List ArcT) (i : Int) (w : World) (h : Row encA 4 w ao Z) (hl : Z.length = nl) (hz : Z.length ≤ maxLen) :
    Calls Try.prog 26 #[.agg #[.int .i64 n, .bool b, .slice ao nl cap], .int .i64 H, .int .i64 i] w fun e w' => e = .returned (.tuple #[slotV (plcV (fitN n Z H) n H i), .int .i64 (plcE (fitN n Z H) n H i)]) ∧ Below w.heap.size w w' := by
  have hb00 := ((Below.refl _ w).alloc (Nat.le_refl _) (.cells #[.int .i64 n, .bool b, .slice ao nl cap] 24)).alloc (by simp) (.cells #[.int .i64 0, .int .i64 0] 56)
  have HB := Lib.hid hb00
  have HN := Lib.hid (alloc_whole (heap_alloc_new w (.cells #[.int .i64 n, .bool b, .slice ao nl cap] 24)) (.cells #[.int .i64 0, .int .i64 0] 56))
  have HX := Lib.hid (new_whole1 w (.cells #[.int .i64 n, .bool b, .slice ao nl cap] 24) (.cells #[.int .i64 0, .int .i64 0] 56))
  obtain ⟨f, hf⟩ : ∃ f, fitN n Z H = f := ⟨_, rfl⟩
  have HCALL := Lib.hid (ugridof_any n H b ao nl cap Z f _ (h.below' hb00) hl hz hf)
  rw [hf]
  have HF := Lib.hid hf
  have c0 := cell_whole HN.out 0
  have c1 := cell_whole HN.out 1
  have c2 := cell_whole HN.out 2
  clear h hb00 hf hl hz
  cases f
  · go_enter Try.func26, Try.ntmps26
    go_wp2_with (first
      | (go_at_call 39; refine HCALL.out.mono ?_; rintro e w2 ⟨rfl, hb2⟩; simp only [Bool.false_eq_true, if_false]; have HB2 := Lib.hid ((HB.out.trans (hb2.mono HB.out.size)).alloc (by have := HB.out.size; have := hb2.size; omega) (.cells #[.int .i64 0, .int .i64 0] 97)); have HX2 := Lib.hid (alloc_whole (kept_box HX.out hb2) (.cells #[.int .i64 0, .int .i64 0] 97)); clear hb2)
      | ((with_reducible show wpList _ _ _ (Oper.mk none (Op.store 56 _ _) _ _ _ _ :: _) _ _); refine wpList_store_box sizeSlot15 rfl _ _ rfl (w.heap.size + 1) _ [.int .i64 0, .int .i64 0] rfl rfl HX2.out rfl rfl (two_one 0 0) ?_; intro w3 hg3 hk3; have HG3 := Lib.hid hg3; have HK3 := Lib.hid hk3; clear hg3 hk3))
    have k0 := cell_whole HG3.out 0
    have k1 := cell_whole HG3.out 1
    refine bodyPost_ret (v := .tuple #[.agg #[.int .i64 0, .int .i64 0], .int .i64 2]) (by simp [results, Try.results26, go_sem, k0, k1]) rfl ⟨rfl, HB2.out.trans (HK3.out.below HB2.out.size (fun i e => by have e2 : i = w.heap.size + 1 := e; omega))⟩
  · obtain ⟨N, K, rfl, rfl, h1, h2, h3, h4, h5, h6⟩ := fit_nat HF.out
    have hsz : ((K : Int) + 1) * (N : Int) ≤ 4000 := by
      have : (((K + 1) * N : Nat) : Int) ≤ 4000 := by omega
      rwa [Int.natCast_mul, show ((K + 1 : Nat) : Int) = (K : Int) + 1 by omega] at this
    by_cases hs0 : i < 0
    · have HP : Hid (plcV true (N : Int) (K : Int) i = (0, 0) ∧ plcE true (N : Int) (K : Int) i = 180) := Lib.hid (by unfold plcV plcE inB; rw [if_pos rfl, if_pos rfl, decide_eq_false (by omega)]; exact ⟨rfl, rfl⟩)
      rw [HP.out.1, HP.out.2]
      go_enter Try.func26, Try.ntmps26
      go_wp2_with (first
        | (go_at_call 39; refine HCALL.out.mono ?_; rintro e w2 ⟨rfl, hb2⟩; simp only [if_true]; have HB2 := Lib.hid ((HB.out.trans (hb2.mono HB.out.size)).alloc (by have := HB.out.size; have := hb2.size; omega) (.cells #[.int .i64 (N : Int), .int .i64 (K : Int)] 97)); have HX2 := Lib.hid (alloc_whole (kept_box HX.out hb2) (.cells #[.int .i64 (N : Int), .int .i64 (K : Int)] 97)); clear hb2)
        | ((with_reducible show wpList _ _ _ (Oper.mk none (Op.store 56 _ _) _ _ _ _ :: _) _ _); refine wpList_store_box sizeSlot15 rfl _ _ rfl (w.heap.size + 1) _ [.int .i64 0, .int .i64 0] rfl rfl HX2.out rfl rfl (two_one 0 0) ?_; intro w3 hg3 hk3; have HG3 := Lib.hid hg3; have HK3 := Lib.hid hk3; clear hg3 hk3))
      have k0 := cell_whole HG3.out 0
      have k1 := cell_whole HG3.out 1
      refine bodyPost_ret (v := .tuple #[.agg #[.int .i64 0, .int .i64 0], .int .i64 180]) (by simp [results, Try.results26, go_sem, k0, k1]) rfl ⟨rfl, HB2.out.trans (HK3.out.below HB2.out.size (fun i e => by have e2 : i = w.heap.size + 1 := e; omega))⟩
    · obtain ⟨i, rfl⟩ : ∃ j : Nat, i = (j : Int) := ⟨i.toNat, by omega⟩
      obtain ⟨z, hz⟩ : ∃ z, ((K : Int) + 1) * (N : Int) = z := ⟨_, rfl⟩
      have HZ := Lib.hid hz
      by_cases hs1 : (i : Int) < z
      · have HP : Hid (plcV true (N : Int) (K : Int) (i : Int) = ((i : Int) % (N : Int), (i : Int) / (N : Int)) ∧ plcE true (N : Int) (K : Int) (i : Int) = 0) := Lib.hid (by unfold plcV plcE inB; rw [if_pos rfl, if_pos rfl, decide_eq_true (by rw [hz]; omega)]; exact ⟨rfl, rfl⟩)
        have hi : i ≤ 100000 := by omega
        rw [HP.out.1, HP.out.2]
        clear hz hsz
        go_enter Try.func26, Try.ntmps26
        go_wp2_with (first
          | (go_at_call 39; refine HCALL.out.mono ?_; rintro e w2 ⟨rfl, hb2⟩; simp only [if_true]; have HB2 := Lib.hid ((HB.out.trans (hb2.mono HB.out.size)).alloc (by have := HB.out.size; have := hb2.size; omega) (.cells #[.int .i64 (N : Int), .int .i64 (K : Int)] 97)); have HX2 := Lib.hid (alloc_whole (kept_box HX.out hb2) (.cells #[.int .i64 (N : Int), .int .i64 (K : Int)] 97)); have hg2 := heap_alloc_new w2 (.cells #[.int .i64 (N : Int), .int .i64 (K : Int)] 97); have HG2 := Lib.hid hg2; have g0 := cell_whole hg2 0; have g1 := cell_whole hg2 1; clear hb2 hg2)
          | (go_at_call 40; refine (ugsize_any N K _ h2 h3).mono ?_; rw [HZ.out]; rintro e w3 ⟨rfl, hb3⟩; have HB3 := Lib.hid (HB2.out.trans (hb3.mono HB2.out.size)); have HX3 := Lib.hid (kept_box HX2.out hb3); have hg3 := kept_box HG2.out hb3; have y0 := cell_whole hg3 0; have y1 := cell_whole hg3 1; clear hb3 hg3)
          | (go_at_call 41; refine (ugslot_any (K : Int) N i _ (by omega) h2 hi).mono ?_; rintro e w4 ⟨rfl, hb4⟩; have HB4 := Lib.hid (HB3.out.trans (hb4.mono HB3.out.size)); have HX4 := Lib.hid (kept_box HX3.out hb4); clear hb4)
          | ((with_reducible show wpList _ _ _ (Oper.mk none (Op.store 56 _ _) _ _ _ _ :: _) _ _); refine wpList_store_box sizeSlot15 rfl _ _ rfl (w.heap.size + 1) _ [.int .i64 ((i : Int) % (N : Int)), .int .i64 ((i : Int) / (N : Int))] rfl rfl HX4.out rfl rfl (two_one _ _) ?_; intro w5 hg5 hk5; have HG5 := Lib.hid hg5; have HK5 := Lib.hid hk5; clear hg5 hk5))
        have k0 := cell_whole HG5.out 0
        have k1 := cell_whole HG5.out 1
        refine bodyPost_ret (v := .tuple #[.agg #[.int .i64 ((i : Int) % (N : Int)), .int .i64 ((i : Int) / (N : Int))], .int .i64 0]) (by simp [results, Try.results26, go_sem, k0, k1]) rfl ⟨rfl, HB4.out.trans (HK5.out.below HB4.out.size (fun i e => by have e2 : i = w.heap.size + 1 := e; omega))⟩
      · have HP : Hid (plcV true (N : Int) (K : Int) (i : Int) = (0, 0) ∧ plcE true (N : Int) (K : Int) (i : Int) = 180) := Lib.hid (by unfold plcV plcE inB; rw [if_pos rfl, if_pos rfl, decide_eq_false (by rw [hz]; omega)]; exact ⟨rfl, rfl⟩)
        rw [HP.out.1, HP.out.2]
        clear hz hsz
        go_enter Try.func26, Try.ntmps26
        go_wp2_with (first
          | (go_at_call 39; refine HCALL.out.mono ?_; rintro e w2 ⟨rfl, hb2⟩; simp only [if_true]; have HB2 := Lib.hid ((HB.out.trans (hb2.mono HB.out.size)).alloc (by have := HB.out.size; have := hb2.size; omega) (.cells #[.int .i64 (N : Int), .int .i64 (K : Int)] 97)); have HX2 := Lib.hid (alloc_whole (kept_box HX.out hb2) (.cells #[.int .i64 (N : Int), .int .i64 (K : Int)] 97)); have hg2 := heap_alloc_new w2 (.cells #[.int .i64 (N : Int), .int .i64 (K : Int)] 97); have HG2 := Lib.hid hg2; have g0 := cell_whole hg2 0; have g1 := cell_whole hg2 1; clear hb2 hg2)
          | (go_at_call 40; refine (ugsize_any N K _ h2 h3).mono ?_; rw [HZ.out]; rintro e w3 ⟨rfl, hb3⟩; have HB3 := Lib.hid (HB2.out.trans (hb3.mono HB2.out.size)); have HX3 := Lib.hid (kept_box HX2.out hb3); clear hb3)
          | ((with_reducible show wpList _ _ _ (Oper.mk none (Op.store 56 _ _) _ _ _ _ :: _) _ _); refine wpList_store_box sizeSlot15 rfl _ _ rfl (w.heap.size + 1) _ [.int .i64 0, .int .i64 0] rfl rfl HX3.out rfl rfl (two_one _ _) ?_; intro w5 hg5 hk5; have HG5 := Lib.hid hg5; have HK5 := Lib.hid hk5; clear hg5 hk5))
        have k0 := cell_whole HG5.out 0
        have k1 := cell_whole HG5.out 1
        refine bodyPost_ret (v := .tuple #[.agg #[.int .i64 0, .int .i64 0], .int .i64 180]) (by simp [results, Try.results26, go_sem, k0, k1]) rfl ⟨rfl, HB3.out.trans (HK5.out.below HB3.out.size (fun i e => by have e2 : i = w.heap.size + 1 := e; omega))⟩
theorem rasked15_any (b : Bool) (ao : Option Addr) (nl cap : Nat) (Z : List ArcT) (s t : Int) (w : World) (h : Row encA 4 w ao Z) (hl : Z.length = nl) (hz : Z.length ≤ maxLen) :
    Calls Try.prog 8 #[.agg #[.int .i64 n, .bool b, .slice ao nl cap], .int .i64 s, .int .i64 t, .int .i64 H] w fun e w' => e = .returned (.int .i64 (xpE n Z s t H)) ∧ Below w.heap.size w w' := by
  have hb00 := (Below.refl _ w).alloc (Nat.le_refl _) (.cells #[.int .i64 n, .bool b, .slice ao nl cap] 24)
  have HB := Lib.hid hb00
  have HN := Lib.hid (heap_alloc_new w (.cells #[.int .i64 n, .bool b, .slice ao nl cap] 24))
  obtain ⟨e0, he⟩ : ∃ e0, askE n Z s t H = e0 := ⟨_, rfl⟩
  have HCALL := Lib.hid (rasked12_is n b ao cap Z e0 s t H _ (h.below' hb00) hz he)
  rw [hl] at HCALL
  have HR := Lib.hid (h.below' hb00)
  have HL := Lib.hid hl
  have HZ := Lib.hid hz
  have c0 := cell_whole HN.out 0
  have c1 := cell_whole HN.out 1
  have c2 := cell_whole HN.out 2
  clear h hb00 hl hz
  by_cases h0 : e0 = 0
  · subst h0
    obtain ⟨f, hf⟩ : ∃ f, fitN n Z H = f := ⟨_, rfl⟩
    have HX : Hid (xpE n Z s t H = if f = true then 0 else 2) := Lib.hid (by rw [xpE_fit he, hf])
    rw [HX.out]
    have HF := Lib.hid hf
    clear he hf
    cases f
    all_goals
      go_enter Try.func8, Try.ntmps8
      go_wp2_with (first
        | (go_at_call 19; refine HCALL.out.mono ?_; rintro e w2 ⟨rfl, hb2⟩; have HB2 := Lib.hid (HB.out.trans (hb2.mono HB.out.size)); have HR2 := Lib.hid (HR.out.below' hb2); have hn2 := kept_box HN.out hb2; have n0 := cell_whole hn2 0; have n1 := cell_whole hn2 1; have n2 := cell_whole hn2 2; clear hb2 hn2)
        | (go_at_call 20; refine (rfits15_any n b ao nl cap Z H _ HR2.out HL.out HZ.out).mono ?_; rw [HF.out]; rintro e w3 ⟨rfl, hb3⟩; have HB3 := Lib.hid (HB2.out.trans (hb3.mono HB2.out.size)); clear hb3))
      go_ret
      exact ⟨rfl, HB3.out⟩
  · have hf1 : (e0 != 0) = true := by simpa using h0
    have hf2 : (e0 == 0) = false := by simpa using h0
    have HX : Hid (xpE n Z s t H = e0) := Lib.hid (by rw [xpE_ask (by rw [he]; exact h0), he])
    rw [HX.out]
    clear he h0
    go_enter Try.func8, Try.ntmps8
    go_wp2_with (go_at_call 19; refine HCALL.out.mono ?_; rintro e w2 ⟨rfl, hb2⟩; have HB2 := Lib.hid (HB.out.trans (hb2.mono HB.out.size)); clear hb2)
    go_ret
    exact ⟨rfl, HB2.out⟩
end
end Go.Proofs.Ytlkbohpnlbfopaa
