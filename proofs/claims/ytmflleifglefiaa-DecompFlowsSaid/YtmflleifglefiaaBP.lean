/- Lemmas of the layers below, several texts in one. -/
import Derived.Test.YtmflleifglefiaaBM
import Derived.Deep.LoopGhost
import Derived.Test.YtmflleifglefiaaBN
import Derived.Lib.SliceRun
namespace Go.Proofs.Ytmflleifglefiaa
open Go.RowKit
set_option linter.unusedVariables false

/-- A row of numbers is cleared. -/
theorem wpList_clear_ints {w : World} {ops : Array Oper} {rest : List Oper} {o : Oper} {a : Act} {Q : Exit → Act → World → Prop} (hgd : o.guard = none) (y : Operand) (ho : o.op = .call { callee := .builtin .clear, args := #[y], argTypes := #[25] }) (hd : o.dst = none)
    (B g n cap : Nat) (T : List Int) (hy : a.eval y = .slice (some ⟨g, 0, none⟩) n cap) (hn : 0 < n) (hT : T.length = n) (hown : OwnL encI w B 3 (.slice (some ⟨g, 0, none⟩) n cap) T)
    (hK : wpList Try.prog ops Q rest a (w.setCells g 0 (List.replicate n (.int .i64 0)))) : wpList Try.prog ops Q (o :: rest) a w := by
  refine wpList_plain hgd fun K hK2 => ?_
  have hat : ∀ j, j < n → w.cell? ⟨g, 0 + j, none⟩ = some (.int .i64 (T.getD j 0)) ∧ w.frozen? ⟨g, 0 + j, none⟩ = false := fun j hj => by
    rw [Nat.zero_add]
    exact hown.cell (atI_get (d := T) (v := j) (by omega))
  have hr := Lib.run_clear_slice (P := Try.prog) w 25 3 o.type (.int .i64 0) Try.underlying25 (fun w => by kernel_rfl) rfl rfl g 0 n cap hn (fun j hj => by rw [(hat j hj).1]; rfl) (fun j hj => (hat j hj).2)
  unfold Oper.wp execOp
  simp only [ho, resolve, invoke, builtin, Sem.run_bind, Sem.run_pure, Result.andThen_ok, List.map_toArray, List.map_cons, List.map_nil, hy, hr]
  have e : a.put o.dst (.tuple #[]) = a := by rw [hd]; rfl
  show K (a.put o.dst (.tuple #[])) _
  rw [e]
  exact hK2 _ _ hK
/-! One round, in plain lists -/
theorem flowE_of {N i j : Nat} {Z : List ArcT} {G : List Int} {v : Int} (he : endsE (N : Int) Z (i : Int) (j : Int) = 0) (h : FlowST Z N i j G v) : flowE (N : Int) Z G = 0 := (valE_ok (of_st he h).1).2.1
theorem arcs_lt {n : Int} {Z : List ArcT} {s t : Int} (he : endsE n Z s t = 0) : (∀ a ∈ Z, frN a < n.toNat ∧ toN a < n.toNat) ∧ ∀ a ∈ Z, 0 ≤ capN a := by
  have hR : Right (n, true, Z) := right_iff.1 (endsE_ok he).1
  refine ⟨fun a ha => ?_, fun a ha => ?_⟩
  · obtain ⟨_, _, h1, h2, _, _⟩ := right_arc hR ha
    exact ⟨h1, h2⟩
  · have h := arcE_ok (hR.2.2 a ha)
    simp only [badEnds] at h
    unfold capN
    omega
/-- No flow has a greater value than what the source's side takes. -/
def mostV (Z : List ArcT) (s : Nat) : Int := capS Z (fun v => decide (v = s))
theorem le_mostV {Z : List ArcT} {N s t : Nat} {f : List Int} {k : Int} (hZ : ∀ a ∈ Z, frN a < N ∧ toN a < N) (hs : s < N) (hne : s ≠ t) (h : FlowST Z N s t f k) : k ≤ mostV Z s := weak hZ hs h ⟨by simp, by simpa using fun e => hne e.symm⟩
/-- Where the levels reach the sink, a way descends to it. -/
theorem not_shut {N s t : Nat} {Z : List ArcT} {F : List Int} (he : flowE (N : Int) Z F = 0) (hs : s < N) (ht : farX (seekN Z F N s) t ≠ -1) : ¬ Shut Z F (farsL (seekN Z F N s) N) t s := by
  intro h
  obtain ⟨hsk, hat, _⟩ := levs_facts he rfl hs
  have hm : t ∈ keysX (seekN Z F N s) := Classical.byContradiction fun hn => ht (farX_none hn)
  obtain ⟨b, q, hb, hq⟩ := keysX_mem.1 hm
  obtain ⟨w1, w2⟩ := path_walk hsk b b q (Nat.le_refl _) hb
  have hd := path_desc hsk b b q (Nat.le_refl _) hb
  refine h (pathX (seekN Z F N s) b) (fun y hy => ?_) (by rw [← hq]; exact w1)
  obtain ⟨y1, _, y3⟩ := (stepsK_mem (Nat.le_refl _)).1 (w2 y hy)
  refine ⟨y1, descB_iff.2 ⟨y3, ?_⟩⟩
  obtain ⟨j, a, r, ha, rfl⟩ := stepsK_arc (w2 y hy)
  have hlt := (flow_arcs he).2 j a r ha
  rw [Int.toNat_natCast] at hlt
  have e1 : atI (farsL (seekN Z F N s) N) (toS Z ((j : Int), r)) = _ := (hat _ hlt.1).1
  have e2 : atI (farsL (seekN Z F N s) N) (fromS Z ((j : Int), r)) = _ := (hat _ hlt.2).1
  rw [e1, e2]
  exact hd _ hy
/-- Where they do not, the value is the greatest. -/
theorem most_of_far {N s t : Nat} {Z : List ArcT} {F : List Int} {k : Int} (he : endsE (N : Int) Z (s : Int) (t : Int) = 0) (hs : s < N) (h : FlowST Z N s t F k) (ht : farX (seekN Z F N s) t = -1) : IsMost Z N s t k ∧ t ∉ keysX (seekN Z F N s) := by
  have hf := flowE_of he h
  obtain ⟨hsk, _, _⟩ := levs_facts hf rfl hs
  have hn : t ∉ keysX (seekN Z F N s) := fun hm => by
    obtain ⟨b, q, hb, hq⟩ := keysX_mem.1 hm
    have := farX_some hsk hb
    rw [hq] at this
    rw [show farX (seekN Z F N s) t = _ from this] at ht
    omega
  have hZ := (arcs_lt he).1
  rw [Int.toNat_natCast] at hZ
  exact ⟨(best_side hZ hs (fun y => by
    rw [stepsK_mem (Nat.le_refl _)]
    constructor
    · rintro ⟨h1, _, h3⟩; exact ⟨h1, h3⟩
    · rintro ⟨h1, h3⟩; exact ⟨h1, h1.2, h3⟩) h hsk hn).2.2.1, hn⟩
/-- A path that is found, filled. -/
theorem fill_found {N s t : Nat} {Z : List ArcT} {F L T : List Int} {P : List StepT} {v : Int} (hne : s ≠ t) (h : FlowST Z N s t F v) (hd : DP Z F L T s P t) : P ≠ [] ∧ 0 < botK Z F P ∧ (pushL Z (botK Z F P) F P).1 = 0 ∧ FlowST Z N s t (pushL Z (botK Z F P) F P).2 (v + botK Z F P) := by
  obtain ⟨h1, h2, h3, h4⟩ := hd.found
  obtain ⟨g1, g2, g3⟩ := augment hne h h1 h2 h3 h4
  refine ⟨fun e => ?_, g1, g2, ?_⟩
  · subst e
    exact hne h1
  · rw [pushed_of P F g2]
    exact g3
end Go.Proofs.Ytmflleifglefiaa

namespace Go.Proofs.Ytmflleifglefiaa
open Go.RowKit
set_option linter.unusedVariables false

/-- What Max answers. -/
def MaxRes (n : Int) (Z : List ArcT) (s t : Int) (w : World) (e : Ending) (w' : World) : Prop :=
  (endsE n Z s t = 0 ∧ ∃ fo fc F k N i j, n = ((N : Nat) : Int) ∧ s = ((i : Nat) : Int) ∧ t = ((j : Nat) : Int) ∧ (i < N ∧ j < N ∧ i ≠ j) ∧ e = .returned (.tuple #[.slice fo F.length fc, .int .i64 k, .int .i64 0]) ∧ Lst encI w' fo F ∧ FlowST Z N i j F k ∧ IsMost Z N i j k ∧ j ∉ keysX (seekN Z F N i) ∧ Below w.heap.size w w') ∨
  (endsE n Z s t ≠ 0 ∧ e = .returned (.tuple #[.slice none 0 0, .int .i64 0, .int .i64 (endsE n Z s t)]) ∧ Below w.heap.size w w')
section
variable (n : Int) (b : Bool) (ao : Option Addr) (cap : Nat) (Z : List ArcT)
/-- What Most answers. -/
def MostRes (n : Int) (Z : List ArcT) (s t : Int) (w : World) (e : Ending) (w' : World) : Prop :=
  (endsE n Z s t = 0 ∧ ∃ k N i j, n = ((N : Nat) : Int) ∧ s = ((i : Nat) : Int) ∧ t = ((j : Nat) : Int) ∧ (i < N ∧ j < N ∧ i ≠ j) ∧ e = .returned (.tuple #[.int .i64 k, .int .i64 0]) ∧ IsMost Z N i j k ∧ Below w.heap.size w w') ∨
  (endsE n Z s t ≠ 0 ∧ e = .returned (.tuple #[.int .i64 0, .int .i64 (endsE n Z s t)]) ∧ Below w.heap.size w w')
end
end Go.Proofs.Ytmflleifglefiaa
