/- The steps that begin at each node, as package maxflow makes them; rows of steps in a row of the call's own. -/
import Derived.Test.YtekcnglkfglbfaaBL
import Derived.Test.YtekcnglkfglbfaaVSght
import Derived.Deep.AppendLies
import Derived.Deep.RegionLaw
namespace Go.Proofs.Ytekcnglkfglbfaa
open Go.RowKit
set_option linter.unusedVariables false

theorem infoSteps : (Try.prog.info? 81).map (fun i => (i.zero, i.size, i.bytes)) = some (some (.slice none 0 0), 1, 24) := by kernel_rfl
theorem OwnS.grown {w w' : World} {base : Nat} {v : Value} {L : List StepT} {row : Option Nat} (h : OwnS w base v L) (hg : w.grownBy w' row) (hne : v.ownBlock = none ∨ v.ownBlock ≠ row) : OwnS w' base v L := by
  refine ⟨h.1, ?_⟩
  rcases h.2 with h1 | ⟨g', cap, cur, rfl, h2, h3, h4⟩
  · exact .inl h1
  · refine .inr ⟨g', cap, cur, rfl, h2, (hg.block g' (lt_whole h3) (fun e => ?_)).trans h3, h4⟩
    rcases hne with hn | hn
    · simp [Value.ownBlock] at hn
    · exact hn (by simp [Value.ownBlock, e])
/-- Rows of steps in a row of the call's own, each in memory of its own. -/
structure IXS (B : Nat) (w : World) (g cap : Nat) (vs : List Value) (G : List (List StepT)) (own : Nat → Nat) : Prop where
  gr : OwnL encV w B 81 (.slice (some ⟨g, 0, none⟩) G.length cap) vs
  len : vs.length = G.length
  inn : ∀ i, i < G.length → OwnS w B (vs.getD i nilS) (G.getD i [])
  og : own g = 0
  oi : ∀ i b, i < G.length → (vs.getD i nilS).ownBlock = some b → own b = i + 1
section
variable {B : Nat} {w w' : World} {g cap : Nat} {vs : List Value} {G : List (List StepT)} {own : Nat → Nat}
theorem IXS.start {N : Nat} (h : OwnL encV w B 81 (.slice (some ⟨g, 0, none⟩) N cap) (List.replicate N nilS)) : IXS B w g cap (List.replicate N nilS) (List.replicate N []) (fun _ => 0) := by
  have e : ∀ i, (List.replicate N nilS).getD i nilS = nilS := by
    intro i; rw [List.getD_eq_getElem?_getD, List.getElem?_replicate]; split <;> rfl
  have e2 : ∀ i, (List.replicate N ([] : List StepT)).getD i [] = [] := by
    intro i; rw [List.getD_eq_getElem?_getD, List.getElem?_replicate]; split <;> rfl
  refine ⟨by rw [List.length_replicate]; exact h, by simp, ?_, rfl, ?_⟩
  · intro i hi; rw [e, e2]; exact OwnS.nil _ _
  · intro i b hi hb; rw [e] at hb; cases hb
theorem IXS.below (h : IXS B w g cap vs G own) (hb : Below w.heap.size w w') : IXS B w' g cap vs G own :=
  ⟨h.gr.below hb, h.len, fun i hi => (h.inn i hi).below hb, h.og, h.oi⟩
theorem IXS.lt (h : IXS B w g cap vs G own) : B ≤ g ∧ g < w.heap.size := own_lt2 h.gr rfl
theorem IXS.cell (h : IXS B w g cap vs G own) {j : Nat} (hj : j < G.length) : w.cell? ⟨g, j, none⟩ = some (vs.getD j nilS) ∧ w.frozen? ⟨g, j, none⟩ = false := by
  have hl := h.len
  have := h.gr.cell (j := j) (x := vs[j]'(by omega)) (List.getElem?_eq_getElem _)
  rw [getD_lt (by omega)]
  exact this
theorem IXS.reown (h : IXS B w g cap vs G own) (r : Nat) : IXS B w g cap vs G (ownSet own w.heap.size r) :=
  { h with
    og := ownSet_old h.og (by have := h.lt; omega)
    oi := fun i b hi e => ownSet_old (h.oi i b hi e) (by have := own_lt (h.inn i hi) e; omega) }
/-- A row has been appended to, and is stored back. -/
theorem IXS.add (h : IXS B w g cap vs G own) {j : Nat} (hj : j < G.length) {p n c : Nat} {t : StepT}
    (hk : OwnS w' B (.slice (some ⟨p, 0, none⟩) n c) (G.getD j [] ++ [t])) (hg : w.grownBy w' (vs.getD j nilS).ownBlock) (hl : (vs.getD j nilS).ownBlock = some p ∨ p = w.heap.size) :
    w'.cell? ⟨g, j, none⟩ = some (vs.getD j nilS) ∧ w'.frozen? ⟨g, j, none⟩ = false ∧ ∃ vs' own', IXS B (w'.setCell ⟨g, j, none⟩ (.slice (some ⟨p, 0, none⟩) n c)) g cap vs' (G.set j (G.getD j [] ++ [t])) own' ∧ ∀ i, i < w.heap.size → own' i = own i := by
  have hlen := h.len
  obtain ⟨hc, hf⟩ := h.cell hj
  have hlt := h.lt
  have hjo : ∀ own', IXS B w g cap vs G own' → ∀ i, (vs.getD j nilS).ownBlock = some i → own' i = j + 1 := fun own' h i e => h.oi j i hj e
  have hne : some g ≠ (vs.getD j nilS).ownBlock := by
    intro e
    have a := hjo _ h g e.symm
    have b := h.og
    omega
  have hcell : w'.cell? ⟨g, j, none⟩ = some (vs.getD j nilS) := hg.cell hc hne
  have hfro : w'.frozen? ⟨g, j, none⟩ = false := by
    rw [World.frozen?_of_block (hg.block g hlt.2 hne)]; exact hf
  have sg : w'.grownBy (w'.setCell ⟨g, j, none⟩ (.slice (some ⟨p, 0, none⟩) n c)) (some g) := ⟨rfl, rfl, rfl, by simp [World.setCell], fun i hi hne => Below.heap_setCell w' _ _ i (fun e => hne (by rw [e]))⟩
  refine ⟨hcell, hfro, ?_⟩
  have main : ∀ own', IXS B w g cap vs G own' → own' p = j + 1 → IXS B (w'.setCell ⟨g, j, none⟩ (.slice (some ⟨p, 0, none⟩) n c)) g cap (vs.set j (.slice (some ⟨p, 0, none⟩) n c)) (G.set j (G.getD j [] ++ [t])) own' := by
    intro own' h hp
    have o0 : ∀ i, some g = some i → own' i = 0 := fun i e => by cases e; exact h.og
    have hgr := h.gr.grown hg (ne_row (a := 0) (b := j + 1) (fun i e => by simp [Value.ownBlock] at e; subst e; exact h.og) (hjo _ h) (by omega))
    refine ⟨?_, by simp [hlen], ?_, h.og, ?_⟩
    · rw [List.length_set]
      exact hgr.put j (.slice (some ⟨p, 0, none⟩) n c)
    · intro i hi
      rw [List.length_set] at hi
      by_cases hij : i = j
      · subst hij
        have e1 : (G.set i (G.getD i [] ++ [t])).getD i [] = G.getD i [] ++ [t] := by rw [List.getD_eq_getElem?_getD, List.getElem?_set_self hj]; rfl
        have e2 : (vs.set i (.slice (some ⟨p, 0, none⟩) n c)).getD i nilS = .slice (some ⟨p, 0, none⟩) n c := by rw [List.getD_eq_getElem?_getD, List.getElem?_set_self (by omega)]; rfl
        rw [e1, e2]
        refine OwnS.grown hk sg (ne_row (a := i + 1) (fun i' e => ?_) o0 (by omega))
        simp [Value.ownBlock] at e
        subst e; exact hp
      · have e1 : (G.set j (G.getD j [] ++ [t])).getD i [] = G.getD i [] := by rw [List.getD_eq_getElem?_getD, List.getElem?_set_ne (fun e => hij e.symm), ← List.getD_eq_getElem?_getD]
        have e2 : (vs.set j (.slice (some ⟨p, 0, none⟩) n c)).getD i nilS = vs.getD i nilS := by rw [List.getD_eq_getElem?_getD, List.getElem?_set_ne (fun e => hij e.symm), ← List.getD_eq_getElem?_getD]
        rw [e1, e2]
        exact OwnS.grown (OwnS.grown (h.inn i hi) hg (ne_row (fun b e => h.oi i b hi e) (hjo _ h) (by omega))) sg (ne_row (fun b e => h.oi i b hi e) o0 (by omega))
    · intro i b hi e
      rw [List.length_set] at hi
      by_cases hij : i = j
      · subst hij
        have e2 : (vs.set i (.slice (some ⟨p, 0, none⟩) n c)).getD i nilS = .slice (some ⟨p, 0, none⟩) n c := by rw [List.getD_eq_getElem?_getD, List.getElem?_set_self (by omega)]; rfl
        rw [e2] at e
        simp [Value.ownBlock] at e
        subst e; exact hp
      · have e2 : (vs.set j (.slice (some ⟨p, 0, none⟩) n c)).getD i nilS = vs.getD i nilS := by rw [List.getD_eq_getElem?_getD, List.getElem?_set_ne (fun e => hij e.symm), ← List.getD_eq_getElem?_getD]
        rw [e2] at e
        exact h.oi i b hi e
  rcases hl with hl | rfl
  · exact ⟨_, own, main own h (h.oi j p hj hl), fun _ _ => rfl⟩
  · exact ⟨_, _, main _ (h.reown (j + 1)) (ownSet_new _ _ _), fun i hi => ownSet_old rfl (by omega)⟩
end
/-! Row by row -/
def rowsK (Z : List ArcT) (N t : Nat) : List (List StepT) := (List.range N).map fun v => (pairsK Z v t).map stepP
theorem rowsK_len (Z : List ArcT) (N t : Nat) : (rowsK Z N t).length = N := by simp [rowsK]
theorem rowsK_zero (Z : List ArcT) (N : Nat) : rowsK Z N 0 = List.replicate N [] := by
  unfold rowsK
  apply List.ext_getElem
  · simp
  · intro i h1 h2; simp [pairsK]
theorem rowsK_all (Z : List ArcT) (N : Nat) : rowsK Z N Z.length = rowsU Z N := rfl
def addR (G : List (List StepT)) (u : Nat) (y : StepT) : List (List StepT) := G.set u (G.getD u [] ++ [y])
theorem addR_len (G : List (List StepT)) (u : Nat) (y : StepT) : (addR G u y).length = G.length := by simp [addR]
theorem addR_at (G : List (List StepT)) (u v : Nat) (y : StepT) (hu : u < G.length) : (addR G u y).getD v [] = if u = v then G.getD v [] ++ [y] else G.getD v [] := by
  unfold addR
  by_cases e : u = v
  · subst e
    rw [if_pos rfl, List.getD_eq_getElem?_getD, List.getElem?_set_self hu]; rfl
  · rw [if_neg e, List.getD_eq_getElem?_getD, List.getElem?_set_ne e, ← List.getD_eq_getElem?_getD]
theorem rowsK_at (Z : List ArcT) {N v : Nat} (t : Nat) (hv : v < N) : (rowsK Z N t).getD v [] = (pairsK Z v t).map stepP := by
  rw [getD_lt (by rw [rowsK_len]; exact hv)]; simp [rowsK]
theorem ext_getD {G H : List (List StepT)} (hl : G.length = H.length) (h : ∀ v, v < G.length → G.getD v [] = H.getD v []) : G = H := by
  apply List.ext_getElem hl
  intro i h1 h2
  have := h i h1
  rwa [getD_lt h1, getD_lt h2] at this
theorem rowsK_step {Z : List ArcT} {N t : Nat} {a : ArcT} (ha : Z[t]? = some a) (h1 : frN a < N) (h2 : toN a < N) : addR (addR (rowsK Z N t) (frN a) ((t : Int), false)) (toN a) ((t : Int), true) = rowsK Z N (t + 1) := by
  apply ext_getD
  · rw [addR_len, addR_len, rowsK_len, rowsK_len]
  · intro v hv
    rw [addR_len, addR_len, rowsK_len] at hv
    rw [addR_at _ _ _ _ (by rw [addR_len, rowsK_len]; exact h2), addR_at _ _ _ _ (by rw [rowsK_len]; exact h1), rowsK_at Z t hv, rowsK_at Z (t + 1) hv, pairsK_succ ha]
    unfold pairOf
    by_cases e1 : frN a = v <;> by_cases e2 : toN a = v <;> simp [e1, e2, stepP]
/-- With so many of an arc's two steps. -/
def rowsJ (Z : List ArcT) (N t : Nat) (a : ArcT) : Nat → List (List StepT)
  | 0 => rowsK Z N t
  | 1 => addR (rowsK Z N t) (frN a) ((t : Int), false)
  | _ => addR (addR (rowsK Z N t) (frN a) ((t : Int), false)) (toN a) ((t : Int), true)
theorem rowsJ_len (Z : List ArcT) (N t : Nat) (a : ArcT) : ∀ j, (rowsJ Z N t a j).length = N
  | 0 => rowsK_len _ _ _
  | 1 => by show (addR _ _ _).length = N; rw [addR_len, rowsK_len]
  | j + 2 => by show (addR _ _ _).length = N; rw [addR_len, addR_len, rowsK_len]
theorem rowsJ_step {Z : List ArcT} {N t : Nat} {a : ArcT} {j : Nat} (hj : j < 2) (h1 : frN a < N) (h2 : toN a < N) (hE : a.1 = (frN a : Int) ∧ a.2.1 = (toN a : Int)) :
    ∃ (q : Bool) (u : Nat), (#[Value.bool false, Value.bool true] : Array Value)[j]? = some (.bool q) ∧ begI a q = (u : Int) ∧ u < N ∧ rowsJ Z N t a (j + 1) = addR (rowsJ Z N t a j) u ((t : Int), q) := by
  match j, hj with
  | 0, _ => exact ⟨false, frN a, rfl, hE.1, h1, rfl⟩
  | 1, _ => exact ⟨true, toN a, rfl, hE.2, h2, rfl⟩
theorem rowsJ_room {Z : List ArcT} {N t : Nat} {a : ArcT} {j : Nat} (ht : t ≤ Z.length) (u : Nat) : ((rowsJ Z N t a j).getD u []).length ≤ 2 * t + 2 := by
  have h0 : ((rowsK Z N t).getD u []).length ≤ 2 * t := by
    by_cases hu : u < N
    · rw [rowsK_at Z t hu, List.length_map]; exact pairsK_len Z u t
    · rw [List.getD_eq_getElem?_getD, List.getElem?_eq_none (by rw [rowsK_len]; omega)]; simp
  have hs : ∀ (G : List (List StepT)) (v : Nat) (y : StepT) (m : Nat), (G.getD u []).length ≤ m → ((addR G v y).getD u []).length ≤ m + 1 := by
    intro G v y m hG
    by_cases hv : v < G.length
    · rw [addR_at _ _ _ _ hv]
      split
      · rw [List.length_append, List.length_singleton]; omega
      · omega
    · have : addR G v y = G := by unfold addR; rw [List.set_eq_of_length_le (by omega)]
      rw [this]; omega
  match j with
  | 0 => exact Nat.le_trans h0 (by omega)
  | 1 => exact Nat.le_trans (hs _ _ _ _ h0) (by omega)
  | j + 2 => exact hs _ _ _ _ (hs _ _ _ _ h0)
/-- What lies about while a step is added. -/
structure SF (B : Nat) (w0 wr : World) (nb xb bb : Nat) (N : Nat) (b : Bool) (ao : Option Addr) (cap : Nat) (Z : List ArcT) (i : Int) (q : Bool) (sg sc : Nat) (vs : List Value) (G : List (List StepT)) (own : Nat → Nat) : Prop where
  below : Below B w0 wr
  big : B ≤ wr.heap.size
  net : wr.heap[nb]? = some (.cells #[.int .i64 (N : Int), .bool b, .slice ao Z.length cap] 68 (0, 0))
  step : wr.heap[xb]? = some (.cells #[.int .i64 i, .bool q] 75 (0, 0))
  bools : wr.heap[bb]? = some (.cells #[.bool false, .bool true] 4 (0, 0))
  arcs : Row encA 4 wr ao Z
  ix : IXS B wr sg sc vs G own
  lt : nb < B ∧ sg ≠ xb ∧ sg ≠ bb
  own0 : own xb = 0 ∧ own bb = 0
section
variable {B : Nat} {w0 wr w2 : World} {nb xb bb N : Nat} {b : Bool} {ao : Option Addr} {cap : Nat} {Z : List ArcT} {i : Int} {q : Bool} {sg sc : Nat} {vs : List Value} {G : List (List StepT)} {own : Nat → Nat}
theorem SF.next (h : SF B w0 wr nb xb bb N b ao cap Z i q sg sc vs G own) (hb : Below wr.heap.size wr w2) : SF B w0 w2 nb xb bb N b ao cap Z i q sg sc vs G own :=
  ⟨h.below.trans (hb.mono h.big), Nat.le_trans h.big hb.size, kept_box h.net hb, kept_box h.step hb, kept_box h.bools hb, h.arcs.below' hb, h.ix.below hb, h.lt, h.own0⟩
/-- The cells that are read. -/
def Held (nb xb N : Nat) (b : Bool) (ao : Option Addr) (zl cap : Nat) (i : Int) (q : Bool) (W : World) : Prop := W.cell? ⟨nb, 0, none⟩ = some (.int .i64 (N : Int)) ∧ W.cell? ⟨nb, 1, none⟩ = some (.bool b) ∧ W.cell? ⟨nb, 2, none⟩ = some (.slice ao zl cap) ∧ W.cell? ⟨xb, 0, none⟩ = some (.int .i64 i) ∧ W.cell? ⟨xb, 1, none⟩ = some (.bool q)
theorem held_of (h1 : w2.heap[nb]? = some (.cells #[.int .i64 (N : Int), .bool b, .slice ao Z.length cap] 68 (0, 0))) (h2 : w2.heap[xb]? = some (.cells #[.int .i64 i, .bool q] 75 (0, 0))) : Held nb xb N b ao Z.length cap i q w2 :=
  ⟨cell_whole h1 0, cell_whole h1 1, cell_whole h1 2, cell_whole h2 0, cell_whole h2 1⟩
theorem SF.held (h : SF B w0 wr nb xb bb N b ao cap Z i q sg sc vs G own) : Held nb xb N b ao Z.length cap i q wr := held_of h.net h.step
/-- A step has been appended, and its row stored back. -/
theorem SF.add (h : SF B w0 wr nb xb bb N b ao cap Z i q sg sc vs G own) {u : Nat} (hu : u < G.length) {p n c : Nat} {y : StepT} (hk : OwnS w2 B (.slice (some ⟨p, 0, none⟩) n c) (G.getD u [] ++ [y])) (hg : wr.grownBy w2 (vs.getD u nilS).ownBlock) (hl : (vs.getD u nilS).ownBlock = some p ∨ p = wr.heap.size) :
    Held nb xb N b ao Z.length cap i q w2 ∧ w2.cell? ⟨sg, u, none⟩ = some (vs.getD u nilS) ∧ w2.frozen? ⟨sg, u, none⟩ = false ∧ Held nb xb N b ao Z.length cap i q (w2.setCell ⟨sg, u, none⟩ (.slice (some ⟨p, 0, none⟩) n c)) ∧
    Below B w0 (w2.setCell ⟨sg, u, none⟩ (.slice (some ⟨p, 0, none⟩) n c)) ∧ (w2.setCell ⟨sg, u, none⟩ (.slice (some ⟨p, 0, none⟩) n c)).heap[bb]? = some (.cells #[.bool false, .bool true] 4 (0, 0)) ∧
    ∃ vs' own', own' bb = 0 ∧ IXS B (w2.setCell ⟨sg, u, none⟩ (.slice (some ⟨p, 0, none⟩) n c)) sg sc vs' (addR G u y) own' := by
  obtain ⟨a1, a2, vs', own', a3, a4⟩ := h.ix.add hu hk hg hl
  have hown : ∀ g, (vs.getD u nilS).ownBlock = some g → B ≤ g ∧ own g = u + 1 := fun g e => ⟨own_block (h.ix.inn u hu) e, h.ix.oi u g hu e⟩
  have ne : ∀ g, g < wr.heap.size → g < B ∨ own g = 0 → w2.heap[g]? = wr.heap[g]? := fun g hg2 h0 => hg.block g hg2 (fun e => by
    obtain ⟨e1, e2⟩ := hown g e.symm
    omega)
  have n1 := (ne nb (lt_whole h.net) (.inl h.lt.1)).trans h.net
  have n2 := (ne xb (lt_whole h.step) (.inr h.own0.1)).trans h.step
  have n3 := (ne bb (lt_whole h.bools) (.inr h.own0.2)).trans h.bools
  have hsg := h.ix.lt
  have hlt := h.lt
  refine ⟨held_of n1 n2, a1, a2, held_of (set_other n1 (by omega) _ _) (set_other n2 (by omega) _ _), below_set (below_grown h.below h.big hg (fun g e => (hown g e).1)) hsg.1 _, set_other n3 (by omega) _ _, vs', own', ?_, a3⟩
  rw [a4 bb (lt_whole h.bools)]
  exact h.own0.2
end
section
variable (b : Bool) (ao : Option Addr) (cap : Nat) (Z : List ArcT)
set_option maxRecDepth 100000 in
set_option maxHeartbeats 4000000 in
theorem xfrom_at (N : Nat) (w : World) (h : Row encA 4 w ao Z) (hc : checkE (N : Int) Z = 0) :
    Calls Try.prog 44 #[.agg #[.int .i64 (N : Int), .bool b, .slice ao Z.length cap]] w fun e w' => ∃ sg vs own, e = .returned (.slice (some ⟨sg, 0, none⟩) N N) ∧ IXS w.heap.size w' sg N vs (rowsU Z N) own ∧ Below w.heap.size w w' := by
  have hR : Right ((N : Int), b, Z) := right_iff.1 hc
  have hn := nodesE_ok hR.1
  have hzl : Z.length ≤ 200 := hR.2.1
  simp only at hn
  have HRT := Lib.hid hR
  have HR := Lib.hid (row_alloc h (.cells #[.int .i64 (N : Int), .bool b, .slice ao Z.length cap] 68))
  have HNB := Lib.hid (heap_alloc_new w (.cells #[.int .i64 (N : Int), .bool b, .slice ao Z.length cap] 68))
  have c0 : (w.alloc (.cells #[.int .i64 (N : Int), .bool b, .slice ao Z.length cap] 68)).cell? ⟨w.heap.size, 0, none⟩ = some (.int .i64 (N : Int)) := cell_new w #[.int .i64 (N : Int), .bool b, .slice ao Z.length cap] 68 0
  have c2 : (w.alloc (.cells #[.int .i64 (N : Int), .bool b, .slice ao Z.length cap] 68)).cell? ⟨w.heap.size, 2, none⟩ = some (.slice ao Z.length cap) := cell_new w #[.int .i64 (N : Int), .bool b, .slice ao Z.length cap] 68 2
  have HB0 : Hid (Below w.heap.size w (w.alloc (.cells #[.int .i64 (N : Int), .bool b, .slice ao Z.length cap] 68))) := Lib.hid ((Below.refl _ w).alloc (Nat.le_refl _) _)
  clear h hc hR
  go_enter Try.func44, Try.ntmps44
  go_upto_region 1 with (fail)
  generalize hw1 : w.alloc (.cells #[.int .i64 (N : Int), .bool b, .slice ao Z.length cap] 68) = w1 at *
  have hnb : w.heap.size < w1.heap.size := by rw [← hw1]; simp
  clear hw1
  go_wp2_with (first
    | (at_make; refine wpList_make_L (enc := encV) nilS Try.underlying69 infoSteps rfl (by omega) rfl _ _ rfl N rfl rfl (by omega) ?_; intro w2 ho2 hb2; have c0 := cell_below hb2 c0; have c2 := cell_below hb2 c2; have HR2 := Lib.hid (HR.out.below' hb2); have HI2 := Lib.hid (IXS.start ho2); have HNB2 := Lib.hid (kept_box HNB.out hb2); have HB2 := Lib.hid hb2; clear ho2 hb2))
  have hg2 := HI2.out.lt
  have hgs := hg2.2
  go_loopw [16] (fun i wr => ∃ t : Nat, t ≤ Z.length ∧ i = .int .i64 (t : Int) ∧ Hid (Below w1.heap.size w1 wr) ∧ Hid (∃ vs own, IXS w1.heap.size wr w1.heap.size N vs (rowsK Z N t) own)) (fun i _ => Z.length - (intOf i).toNat)
  case atStart => exact ⟨0, Nat.zero_le _, rfl, HB2, Lib.hid ⟨_, _, by rw [rowsK_zero]; exact HI2.out⟩⟩
  case round =>
    obtain ⟨t, ht, rfl, HB, HG⟩ := hrel
    by_cases hlt : t < Z.length
    · have hli : (t : Int) < (Z.length : Int) := by omega
      obtain ⟨fz0, fz1, fz2, fz3, _, _⟩ := right_arc HRT.out (List.getElem_mem hlt)
      rw [Int.toNat_natCast] at fz2 fz3
      have HA := Lib.hid (List.getElem?_eq_getElem hlt)
      have HFZ : Hid ((Z[t].1 = (frN Z[t] : Int) ∧ Z[t].2.1 = (toN Z[t] : Int)) ∧ frN Z[t] < N ∧ toN Z[t] < N) := Lib.hid ⟨⟨fz0, fz1⟩, fz2, fz3⟩
      clear fz0 fz1 fz2 fz3
      generalize Z[t] = a at *
      have hsz0 := HB.out.size
      have HBB := Lib.hid (HB.out.alloc hsz0 (.cells #[.bool false, .bool true] 4))
      have hbw := heap_alloc_new wr (.cells #[.bool false, .bool true] 4)
      obtain ⟨bb, hbb⟩ : ∃ bb, wr.heap.size = bb := ⟨_, rfl⟩
      rw [hbb] at hbw
      have HBW := Lib.hid hbw
      have HG0 : Hid (∃ vs own, own bb = 0 ∧ IXS w1.heap.size (wr.alloc (.cells #[.bool false, .bool true] 4)) w1.heap.size N vs (rowsJ Z N t a 0) own) := Lib.hid (by obtain ⟨vs, own, hG⟩ := HG.out; exact ⟨vs, _, by rw [← hbb]; exact ownSet_new own _ 0, (hG.reown 0).below ((Below.refl _ _).alloc (Nat.le_refl _) _)⟩)
      have HSB : Hid (w1.heap.size < bb) := Lib.hid (by obtain ⟨vs, own, hG⟩ := HG.out; have := hG.lt; omega)
      clear HG hbw
      go_wp2_with fail
      generalize hwr : wr.alloc (.cells #[.bool false, .bool true] 4) = wy at *
      have hbsz : bb < wy.heap.size := by rw [← hwr]; simp; omega
      go_loopw [21] (fun i wi => ∃ j : Nat, j ≤ 2 ∧ i = .int .i64 (j : Int) ∧ Hid (Below w1.heap.size w1 wi) ∧ Hid (bb < wi.heap.size) ∧ Hid (wi.heap[bb]? = some (.cells #[.bool false, .bool true] 4 (0, 0))) ∧ Hid (∃ vs own, own bb = 0 ∧ IXS w1.heap.size wi w1.heap.size N vs (rowsJ Z N t a j) own)) (fun i _ => 2 - (intOf i).toNat)
      case atStart => exact ⟨0, by omega, rfl, HBB, Lib.hid hbsz, HBW, HG0⟩
      case round =>
        clear HBB HBW HG0
        obtain ⟨j, hj, rfl, HB, HBL, HBW, HG⟩ := hrel
        by_cases hlt2 : j < 2
        · have hli2 : (j : Int) < 2 := by omega
          obtain ⟨q, u, hq, hu, huN, hGJ⟩ := rowsJ_step (Z := Z) (t := t) hlt2 HFZ.out.2.1 HFZ.out.2.2 HFZ.out.1
          have bc : wr.cell? ⟨bb, j, none⟩ = some (.bool q) := (cell_whole HBW.out j).trans hq
          obtain ⟨vs, own, hvb, hG⟩ := HG.out
          have hsz := HB.out.size
          have hlen := rowsJ_len Z N t a j
          obtain ⟨xb, hxb⟩ : ∃ xb, wr.heap.size = xb := ⟨_, rfl⟩
          have hbx : bb < xb := by rw [← hxb]; exact HBL.out
          have HSF : Hid (SF w1.heap.size w1 (wr.alloc (.cells #[.int .i64 (t : Int), .bool q] 75)) w.heap.size xb bb N b ao cap Z (t : Int) q w1.heap.size N vs (rowsJ Z N t a j) (ownSet own wr.heap.size 0)) := Lib.hid ⟨HB.out.alloc hsz _, by simp; omega, kept_box HNB.out (HB.out.alloc hsz _), by rw [← hxb]; exact heap_alloc_new _ _, alloc_whole HBW.out _, HR.out.below' (HB.out.alloc hsz _), (hG.reown 0).below ((Below.refl _ _).alloc (Nat.le_refl _) _), ⟨hnb, by have := hG.lt; omega, by have := HSB.out; omega⟩, by rw [← hxb]; exact ownSet_new _ _ _, ownSet_old hvb (by omega)⟩
          generalize ownSet own wr.heap.size 0 = own at *
          have HQU := Lib.hid hu
          have HGJ := Lib.hid hGJ
          have HRM := Lib.hid (rowsJ_room (Z := Z) (N := N) (a := a) (j := j) ht u)
          have hui : (u : Int) < (N : Int) := by omega
          obtain ⟨sv, hsv⟩ : ∃ sv, vs.getD u nilS = sv := ⟨_, rfl⟩
          have HSV := Lib.hid hsv
          clear hq hu hGJ hG HG hvb hsv
          go_wp2_with fail
          obtain ⟨i1, hi0, hz0, hz1, hz2⟩ := info_parts infoStep
          have HJ := Lib.hid (And.intro hi0 (And.intro hz0 (And.intro hz1 hz2)))
          clear hi0 hz0 hz1 hz2 c0 c2 bc hxb hlen
          refine wp_region_held_drew (S := fun W => Held w.heap.size xb N b ao Z.length cap (t : Int) q W) (by kernel_rfl) HSF.out.held (fun hHeld => ?_)
          have HS := Lib.hid (HSF.out.next (below_drew (Below.refl _ _)))
          clear HSF
          generalize (wr.alloc (.cells #[.int .i64 (t : Int), .bool q] 75)).drew = wd at *
          refine wpAnyH_take (i := 0) (oi := { dst := some 28, op := Go.Op.move (Go.Operand.tmp 3), type := 69, pos := "maxflow.go:35", after := #[], guard := none }) (v := .slice (some ⟨w1.heap.size, 0, none⟩) N N) rfl (by kernel_rfl) (by kernel_rfl) (by kernel_rfl) (fun _ _ _ h => h) (Or.inl ⟨by rfl, ?_⟩) (by assumption) ?_
          · (intro w hSw; (try dsimp only [Held] at hSw); go_simp)
          try simp only [Act.put, List.setIfInBounds_toArray, List.set_cons_zero, List.set_cons_succ]
          refine wpAnyH_take (i := 1) (oi := { dst := some 29, op := Go.Op.load 68 (Go.Operand.tmp 1), type := 68, pos := "maxflow.go:35", after := #[], guard := none }) (v := .agg #[.int .i64 (N : Int), .bool b, .slice ao Z.length cap]) rfl (by kernel_rfl) (by kernel_rfl) (by kernel_rfl) (fun _ _ _ h => h) (Or.inl ⟨by rfl, ?_⟩) (by assumption) ?_
          · (intro w hSw; (try dsimp only [Held] at hSw); go_simp)
          try simp only [Act.put, List.setIfInBounds_toArray, List.set_cons_zero, List.set_cons_succ]
          refine wpAnyH_take (i := 2) (oi := { dst := some 30, op := Go.Op.load 75 (Go.Operand.tmp 7), type := 75, pos := "maxflow.go:35", after := #[], guard := none }) (v := .agg #[.int .i64 (t : Int), .bool q]) rfl (by kernel_rfl) (by kernel_rfl) (by kernel_rfl) (fun _ _ _ h => h) (Or.inl ⟨by rfl, ?_⟩) (by assumption) ?_
          · (intro w hSw; (try dsimp only [Held] at hSw); go_simp)
          try simp only [Act.put, List.setIfInBounds_toArray, List.set_cons_zero, List.set_cons_succ]
          refine wpAnyH_take (i := 4) (oi := { dst := some 32, op := Go.Op.move (Go.Operand.tmp 3), type := 69, pos := "maxflow.go:35", after := #[], guard := none }) (v := .slice (some ⟨w1.heap.size, 0, none⟩) N N) rfl (by kernel_rfl) (by kernel_rfl) (by kernel_rfl) (fun _ _ _ h => h) (Or.inl ⟨by rfl, ?_⟩) (by assumption) ?_
          · (intro w hSw; (try dsimp only [Held] at hSw); go_simp)
          try simp only [Act.put, List.setIfInBounds_toArray, List.set_cons_zero, List.set_cons_succ]
          refine wpAnyH_take (i := 5) (oi := { dst := some 33, op := Go.Op.load 68 (Go.Operand.tmp 1), type := 68, pos := "maxflow.go:35", after := #[], guard := none }) (v := .agg #[.int .i64 (N : Int), .bool b, .slice ao Z.length cap]) rfl (by kernel_rfl) (by kernel_rfl) (by kernel_rfl) (fun _ _ _ h => h) (Or.inl ⟨by rfl, ?_⟩) (by assumption) ?_
          · (intro w hSw; (try dsimp only [Held] at hSw); go_simp)
          try simp only [Act.put, List.setIfInBounds_toArray, List.set_cons_zero, List.set_cons_succ]
          refine wpAnyH_take (i := 6) (oi := { dst := some 34, op := Go.Op.load 75 (Go.Operand.tmp 7), type := 75, pos := "maxflow.go:35", after := #[], guard := none }) (v := .agg #[.int .i64 (t : Int), .bool q]) rfl (by kernel_rfl) (by kernel_rfl) (by kernel_rfl) (fun _ _ _ h => h) (Or.inl ⟨by rfl, ?_⟩) (by assumption) ?_
          · (intro w hSw; (try dsimp only [Held] at hSw); go_simp)
          try simp only [Act.put, List.setIfInBounds_toArray, List.set_cons_zero, List.set_cons_succ]
          refine wpAnyH_take (i := 10) (oi := { dst := some 38, op := Go.Op.load 75 (Go.Operand.tmp 7), type := 75, pos := "maxflow.go:35", after := #[], guard := none }) (v := .agg #[.int .i64 (t : Int), .bool q]) rfl (by kernel_rfl) (by kernel_rfl) (by kernel_rfl) (fun _ _ _ h => h) (Or.inl ⟨by rfl, ?_⟩) (by assumption) ?_
          · (intro w hSw; (try dsimp only [Held] at hSw); go_simp)
          try simp only [Act.put, List.setIfInBounds_toArray, List.set_cons_zero, List.set_cons_succ]
          refine wpAnyH_ready (rs := [3, 11]) (by kernel_rfl) (by simp) (AllReadyH.cons (o := { dst := some 31, op := Go.Op.call { callee := Go.Callee.value (Go.Operand.func 58), args := #[Go.Operand.tmp 29, Go.Operand.tmp 30], argTypes := #[68, 75] }, type := 3, pos := "maxflow.go:35", after := #[{ on := 1, ground := Go.Ground.data }, { on := 2, ground := Go.Ground.data }], guard := none }) rfl (fun K hK => ?_) (AllReadyH.cons (o := { dst := some 39, op := Go.Op.buildSlice 81 1 #[(0, Go.Operand.tmp 38)], type := 81, pos := "maxflow.go:35", after := #[{ on := 10, ground := Go.Ground.data }], guard := none }) rfl (fun K hK => ?_) AllReadyH.nil))
          · go_simp
            refine (xbegin_at (N : Int) b ao cap Z t q a _ HS.out.arcs HA.out hzl).mono ?_
            rintro e w7 ⟨rfl, b7⟩
            rw [HQU.out]
            have HS := Lib.hid (HS.out.next b7)
            clear b7 hHeld
            go_wp2_with fail
            refine hK.out _ _ HS.out.held (fun hHeld => ?_)
            clear hK
            try simp only [Act.put, List.setIfInBounds_toArray, List.set_cons_zero, List.set_cons_succ]
            refine wpAnyH_ready (rs := [7, 11]) (by kernel_rfl) (by simp) (AllReadyH.cons (o := { dst := some 35, op := Go.Op.call { callee := Go.Callee.value (Go.Operand.func 58), args := #[Go.Operand.tmp 33, Go.Operand.tmp 34], argTypes := #[68, 75] }, type := 3, pos := "maxflow.go:35", after := #[{ on := 5, ground := Go.Ground.data }, { on := 6, ground := Go.Ground.data }, { on := 3, ground := Go.Ground.chain }], guard := none }) rfl (fun K hK => ?_) (AllReadyH.cons (o := { dst := some 39, op := Go.Op.buildSlice 81 1 #[(0, Go.Operand.tmp 38)], type := 81, pos := "maxflow.go:35", after := #[{ on := 10, ground := Go.Ground.data }], guard := none }) rfl (fun K hK => ?_) AllReadyH.nil))
            · go_simp
              refine (xbegin_at (N : Int) b ao cap Z t q a _ HS.out.arcs HA.out hzl).mono ?_
              rintro e w8 ⟨rfl, b7⟩
              rw [HQU.out]
              have HS := Lib.hid (HS.out.next b7)
              clear b7 hHeld
              go_wp2_with fail
              refine hK.out _ _ HS.out.held (fun hHeld => ?_)
              clear hK
              try simp only [Act.put, List.setIfInBounds_toArray, List.set_cons_zero, List.set_cons_succ]
              refine wpAnyH_take (i := 8) (oi := { dst := some 36, op := Go.Op.indexAddr 69 (Go.Operand.tmp 32) (Go.Operand.tmp 35), type := 0, pos := "maxflow.go:35", after := #[{ on := 4, ground := Go.Ground.data }, { on := 7, ground := Go.Ground.data }], guard := none }) (v := .pointer (some ⟨w1.heap.size, u, none⟩)) rfl (by kernel_rfl) (by kernel_rfl) (by kernel_rfl) (fun _ _ _ h => h) (Or.inl ⟨by rfl, ?_⟩) (by assumption) ?_
              · (intro w hSw; (try dsimp only [Held] at hSw); go_simp)
              try simp only [Act.put, List.setIfInBounds_toArray, List.set_cons_zero, List.set_cons_succ]
              refine wpAnyH_ready (rs := [9, 11]) (by kernel_rfl) (by simp) (AllReadyH.cons (o := { dst := some 37, op := Go.Op.load 81 (Go.Operand.tmp 36), type := 81, pos := "maxflow.go:35", after := #[{ on := 8, ground := Go.Ground.data }], guard := none }) rfl (fun K hK => ?_) (AllReadyH.cons (o := { dst := some 39, op := Go.Op.buildSlice 81 1 #[(0, Go.Operand.tmp 38)], type := 81, pos := "maxflow.go:35", after := #[{ on := 10, ground := Go.Ground.data }], guard := none }) rfl (fun K hK => ?_) AllReadyH.nil))
              · have hc : (w8).cell? ⟨w1.heap.size, u, none⟩ = some sv := by rw [← HSV.out]; exact (HS.out.ix.cell (by rw [rowsJ_len]; exact huN)).1
                go_simp
                refine hK.out _ _ HS.out.held (fun hHeld => ?_)
                clear hK hc
                try simp only [Act.put, List.setIfInBounds_toArray, List.set_cons_zero, List.set_cons_succ]
                refine wpAnyH_ready (rs := [11]) (by kernel_rfl) (by simp) (AllReadyH.cons (o := { dst := some 39, op := Go.Op.buildSlice 81 1 #[(0, Go.Operand.tmp 38)], type := 81, pos := "maxflow.go:35", after := #[{ on := 10, ground := Go.Ground.data }], guard := none }) rfl (fun K hK => ?_) AllReadyH.nil)
                obtain ⟨nb2, hnb2⟩ : ∃ nb2, (w8).heap.size = nb2 := ⟨_, rfl⟩
                go_simp
                have HS := Lib.hid (HS.out.next ((Below.refl _ _).alloc (Nat.le_refl _) (.cells #[.int .i64 (t : Int), .bool q] 75)))
                have HNW : Hid (((w8).alloc (.cells #[.int .i64 (t : Int), .bool q] 75)).heap[nb2]? = some (.cells #[.int .i64 (t : Int), .bool q] 75 (0, 0))) := Lib.hid (by rw [← hnb2]; exact heap_alloc_new _ _)
                clear hHeld
                refine hK.out _ _ HS.out.held (fun hHeld => ?_)
                clear hK
                generalize (w8).alloc (.cells #[.int .i64 (t : Int), .bool q] 75) = wn at *
                clear hnb2
                try simp only [Act.put, List.setIfInBounds_toArray, List.set_cons_zero, List.set_cons_succ]
                refine wpAnyH_ready (rs := [12]) (by kernel_rfl) (by simp) (AllReadyH.cons (o := { dst := some 40, op := Go.Op.call { callee := Go.Callee.builtin Go.Builtin.append, args := #[Go.Operand.tmp 37, Go.Operand.tmp 39], argTypes := #[81, 81] }, type := 81, pos := "maxflow.go:35", after := #[{ on := 9, ground := Go.Ground.data }, { on := 11, ground := Go.Ground.data }, { on := 7, ground := Go.Ground.chain }], guard := none }) rfl (fun K hK => ?_) AllReadyH.nil)
                have HOW : Hid (OwnS (wn) w1.heap.size sv ((rowsJ Z N t a j).getD u [])) := Lib.hid (by rw [← HSV.out]; exact HS.out.ix.inn u (by rw [rowsJ_len]; exact huN))
                refine step_append_lies _ (by rfl) _ _ _ (by rfl) w1.heap.size 75 i1 _ 2 16 Try.underlying81 HJ.out.1 HJ.out.2.1 HJ.out.2.2.1 HJ.out.2.2.2 rfl (by omega) sv ((rowsJ Z N t a j).getD u []).length (((rowsJ Z N t a j).getD u []).flatMap encS) (by rfl) HOW.out ⟨nb2, 0, none⟩ 1 1 (encS ((t : Int), q)) (by rfl) (by rfl) (World.news_of_block (cs := #[.int .i64 (t : Int), .bool q]) (t := 75) (fr := (0, 0)) HNW.out) (encS_one _) (by omega) (by have := HRM.out; unfold maxLen; omega) (by have := HRM.out; omega) HS.out.big _ rfl ?_
                intro g12 cap12 w12 ho12 hg12 hl12 hlt12
                obtain ⟨q1, q2, q3, q4, q5, q6, q7⟩ := HS.out.add (u := u) (by rw [rowsJ_len]; exact huN) (ownS_snoc ho12) (by rw [HSV.out]; exact hg12) (by rw [HSV.out]; exact hl12)
                rw [HSV.out] at q2
                have HQ4 := Lib.hid q4
                have HQ5 := Lib.hid q5
                have HQ6 := Lib.hid q6
                have HQ7 := Lib.hid q7
                clear hHeld
                refine hK.out _ _ q1 (fun hHeld => ?_)
                clear hK q1
                try simp only [Act.put, List.setIfInBounds_toArray, List.set_cons_zero, List.set_cons_succ]
                refine wpAnyH_take (i := 13) (oi := { dst := some 41, op := Go.Op.indexAddr 69 (Go.Operand.tmp 28) (Go.Operand.tmp 31), type := 0, pos := "maxflow.go:35", after := #[{ on := 0, ground := Go.Ground.data }, { on := 3, ground := Go.Ground.data }, { on := 0, ground := Go.Ground.phase }, { on := 1, ground := Go.Ground.phase }, { on := 2, ground := Go.Ground.phase }, { on := 3, ground := Go.Ground.phase }, { on := 4, ground := Go.Ground.phase }, { on := 5, ground := Go.Ground.phase }, { on := 6, ground := Go.Ground.phase }, { on := 7, ground := Go.Ground.phase }, { on := 8, ground := Go.Ground.phase }, { on := 9, ground := Go.Ground.phase }, { on := 10, ground := Go.Ground.phase }, { on := 11, ground := Go.Ground.phase }, { on := 12, ground := Go.Ground.phase }], guard := none }) (v := .pointer (some ⟨w1.heap.size, u, none⟩)) rfl (by kernel_rfl) (by kernel_rfl) (by kernel_rfl) (fun _ _ _ h => h) (Or.inl ⟨by rfl, ?_⟩) (by assumption) ?_
                · (intro w hSw; (try dsimp only [Held] at hSw); go_simp)
                try simp only [Act.put, List.setIfInBounds_toArray, List.set_cons_zero, List.set_cons_succ]
                refine wpAnyH_ready (rs := [14]) (by kernel_rfl) (by simp) (AllReadyH.cons (o := { dst := none, op := Go.Op.store 81 (Go.Operand.tmp 41) (Go.Operand.tmp 40), type := 0, pos := "maxflow.go:35", after := #[{ on := 13, ground := Go.Ground.data }, { on := 12, ground := Go.Ground.data }, { on := 12, ground := Go.Ground.chain }, { on := 0, ground := Go.Ground.phase }, { on := 1, ground := Go.Ground.phase }, { on := 2, ground := Go.Ground.phase }, { on := 3, ground := Go.Ground.phase }, { on := 4, ground := Go.Ground.phase }, { on := 5, ground := Go.Ground.phase }, { on := 6, ground := Go.Ground.phase }, { on := 7, ground := Go.Ground.phase }, { on := 8, ground := Go.Ground.phase }, { on := 9, ground := Go.Ground.phase }, { on := 10, ground := Go.Ground.phase }, { on := 11, ground := Go.Ground.phase }, { on := 12, ground := Go.Ground.phase }], guard := none }) rfl (fun K hK => ?_) AllReadyH.nil)
                go_simp
                clear hHeld
                refine hK.out _ _ HQ4.out (fun hHeld => ?_)
                clear hK
                try simp only [Act.put, List.setIfInBounds_toArray, List.set_cons_zero, List.set_cons_succ]
                refine wpAnyH_done (by kernel_rfl) ?_ _
                clear hHeld
                go_wp2
                go_roundw
                case rel => exact ⟨j + 1, by omega, by go_num, HQ5, Lib.hid (lt_whole HQ6.out), HQ6, Lib.hid (by rw [HGJ.out]; exact HQ7.out)⟩
                case measure => simp [intOf]; omega
              · obtain ⟨nb2, hnb2⟩ : ∃ nb2, (w8).heap.size = nb2 := ⟨_, rfl⟩
                go_simp
                have HS := Lib.hid (HS.out.next ((Below.refl _ _).alloc (Nat.le_refl _) (.cells #[.int .i64 (t : Int), .bool q] 75)))
                have HNW : Hid (((w8).alloc (.cells #[.int .i64 (t : Int), .bool q] 75)).heap[nb2]? = some (.cells #[.int .i64 (t : Int), .bool q] 75 (0, 0))) := Lib.hid (by rw [← hnb2]; exact heap_alloc_new _ _)
                clear hHeld
                refine hK.out _ _ HS.out.held (fun hHeld => ?_)
                clear hK
                generalize (w8).alloc (.cells #[.int .i64 (t : Int), .bool q] 75) = wn at *
                clear hnb2
                try simp only [Act.put, List.setIfInBounds_toArray, List.set_cons_zero, List.set_cons_succ]
                refine wpAnyH_ready (rs := [9]) (by kernel_rfl) (by simp) (AllReadyH.cons (o := { dst := some 37, op := Go.Op.load 81 (Go.Operand.tmp 36), type := 81, pos := "maxflow.go:35", after := #[{ on := 8, ground := Go.Ground.data }], guard := none }) rfl (fun K hK => ?_) AllReadyH.nil)
                have hc : (wn).cell? ⟨w1.heap.size, u, none⟩ = some sv := by rw [← HSV.out]; exact (HS.out.ix.cell (by rw [rowsJ_len]; exact huN)).1
                go_simp
                refine hK.out _ _ HS.out.held (fun hHeld => ?_)
                clear hK hc
                try simp only [Act.put, List.setIfInBounds_toArray, List.set_cons_zero, List.set_cons_succ]
                refine wpAnyH_ready (rs := [12]) (by kernel_rfl) (by simp) (AllReadyH.cons (o := { dst := some 40, op := Go.Op.call { callee := Go.Callee.builtin Go.Builtin.append, args := #[Go.Operand.tmp 37, Go.Operand.tmp 39], argTypes := #[81, 81] }, type := 81, pos := "maxflow.go:35", after := #[{ on := 9, ground := Go.Ground.data }, { on := 11, ground := Go.Ground.data }, { on := 7, ground := Go.Ground.chain }], guard := none }) rfl (fun K hK => ?_) AllReadyH.nil)
                have HOW : Hid (OwnS (wn) w1.heap.size sv ((rowsJ Z N t a j).getD u [])) := Lib.hid (by rw [← HSV.out]; exact HS.out.ix.inn u (by rw [rowsJ_len]; exact huN))
                refine step_append_lies _ (by rfl) _ _ _ (by rfl) w1.heap.size 75 i1 _ 2 16 Try.underlying81 HJ.out.1 HJ.out.2.1 HJ.out.2.2.1 HJ.out.2.2.2 rfl (by omega) sv ((rowsJ Z N t a j).getD u []).length (((rowsJ Z N t a j).getD u []).flatMap encS) (by rfl) HOW.out ⟨nb2, 0, none⟩ 1 1 (encS ((t : Int), q)) (by rfl) (by rfl) (World.news_of_block (cs := #[.int .i64 (t : Int), .bool q]) (t := 75) (fr := (0, 0)) HNW.out) (encS_one _) (by omega) (by have := HRM.out; unfold maxLen; omega) (by have := HRM.out; omega) HS.out.big _ rfl ?_
                intro g12 cap12 w12 ho12 hg12 hl12 hlt12
                obtain ⟨q1, q2, q3, q4, q5, q6, q7⟩ := HS.out.add (u := u) (by rw [rowsJ_len]; exact huN) (ownS_snoc ho12) (by rw [HSV.out]; exact hg12) (by rw [HSV.out]; exact hl12)
                rw [HSV.out] at q2
                have HQ4 := Lib.hid q4
                have HQ5 := Lib.hid q5
                have HQ6 := Lib.hid q6
                have HQ7 := Lib.hid q7
                clear hHeld
                refine hK.out _ _ q1 (fun hHeld => ?_)
                clear hK q1
                try simp only [Act.put, List.setIfInBounds_toArray, List.set_cons_zero, List.set_cons_succ]
                refine wpAnyH_take (i := 13) (oi := { dst := some 41, op := Go.Op.indexAddr 69 (Go.Operand.tmp 28) (Go.Operand.tmp 31), type := 0, pos := "maxflow.go:35", after := #[{ on := 0, ground := Go.Ground.data }, { on := 3, ground := Go.Ground.data }, { on := 0, ground := Go.Ground.phase }, { on := 1, ground := Go.Ground.phase }, { on := 2, ground := Go.Ground.phase }, { on := 3, ground := Go.Ground.phase }, { on := 4, ground := Go.Ground.phase }, { on := 5, ground := Go.Ground.phase }, { on := 6, ground := Go.Ground.phase }, { on := 7, ground := Go.Ground.phase }, { on := 8, ground := Go.Ground.phase }, { on := 9, ground := Go.Ground.phase }, { on := 10, ground := Go.Ground.phase }, { on := 11, ground := Go.Ground.phase }, { on := 12, ground := Go.Ground.phase }], guard := none }) (v := .pointer (some ⟨w1.heap.size, u, none⟩)) rfl (by kernel_rfl) (by kernel_rfl) (by kernel_rfl) (fun _ _ _ h => h) (Or.inl ⟨by rfl, ?_⟩) (by assumption) ?_
                · (intro w hSw; (try dsimp only [Held] at hSw); go_simp)
                try simp only [Act.put, List.setIfInBounds_toArray, List.set_cons_zero, List.set_cons_succ]
                refine wpAnyH_ready (rs := [14]) (by kernel_rfl) (by simp) (AllReadyH.cons (o := { dst := none, op := Go.Op.store 81 (Go.Operand.tmp 41) (Go.Operand.tmp 40), type := 0, pos := "maxflow.go:35", after := #[{ on := 13, ground := Go.Ground.data }, { on := 12, ground := Go.Ground.data }, { on := 12, ground := Go.Ground.chain }, { on := 0, ground := Go.Ground.phase }, { on := 1, ground := Go.Ground.phase }, { on := 2, ground := Go.Ground.phase }, { on := 3, ground := Go.Ground.phase }, { on := 4, ground := Go.Ground.phase }, { on := 5, ground := Go.Ground.phase }, { on := 6, ground := Go.Ground.phase }, { on := 7, ground := Go.Ground.phase }, { on := 8, ground := Go.Ground.phase }, { on := 9, ground := Go.Ground.phase }, { on := 10, ground := Go.Ground.phase }, { on := 11, ground := Go.Ground.phase }, { on := 12, ground := Go.Ground.phase }], guard := none }) rfl (fun K hK => ?_) AllReadyH.nil)
                go_simp
                clear hHeld
                refine hK.out _ _ HQ4.out (fun hHeld => ?_)
                clear hK
                try simp only [Act.put, List.setIfInBounds_toArray, List.set_cons_zero, List.set_cons_succ]
                refine wpAnyH_done (by kernel_rfl) ?_ _
                clear hHeld
                go_wp2
                go_roundw
                case rel => exact ⟨j + 1, by omega, by go_num, HQ5, Lib.hid (lt_whole HQ6.out), HQ6, Lib.hid (by rw [HGJ.out]; exact HQ7.out)⟩
                case measure => simp [intOf]; omega
            · obtain ⟨nb2, hnb2⟩ : ∃ nb2, (w7).heap.size = nb2 := ⟨_, rfl⟩
              go_simp
              have HS := Lib.hid (HS.out.next ((Below.refl _ _).alloc (Nat.le_refl _) (.cells #[.int .i64 (t : Int), .bool q] 75)))
              have HNW : Hid (((w7).alloc (.cells #[.int .i64 (t : Int), .bool q] 75)).heap[nb2]? = some (.cells #[.int .i64 (t : Int), .bool q] 75 (0, 0))) := Lib.hid (by rw [← hnb2]; exact heap_alloc_new _ _)
              clear hHeld
              refine hK.out _ _ HS.out.held (fun hHeld => ?_)
              clear hK
              generalize (w7).alloc (.cells #[.int .i64 (t : Int), .bool q] 75) = wn at *
              clear hnb2
              try simp only [Act.put, List.setIfInBounds_toArray, List.set_cons_zero, List.set_cons_succ]
              refine wpAnyH_ready (rs := [7]) (by kernel_rfl) (by simp) (AllReadyH.cons (o := { dst := some 35, op := Go.Op.call { callee := Go.Callee.value (Go.Operand.func 58), args := #[Go.Operand.tmp 33, Go.Operand.tmp 34], argTypes := #[68, 75] }, type := 3, pos := "maxflow.go:35", after := #[{ on := 5, ground := Go.Ground.data }, { on := 6, ground := Go.Ground.data }, { on := 3, ground := Go.Ground.chain }], guard := none }) rfl (fun K hK => ?_) AllReadyH.nil)
              go_simp
              refine (xbegin_at (N : Int) b ao cap Z t q a _ HS.out.arcs HA.out hzl).mono ?_
              rintro e w8 ⟨rfl, b7⟩
              rw [HQU.out]
              have HS := Lib.hid (HS.out.next b7)
              have HNW := Lib.hid (kept_box HNW.out b7)
              clear b7 hHeld
              go_wp2_with fail
              refine hK.out _ _ HS.out.held (fun hHeld => ?_)
              clear hK
              try simp only [Act.put, List.setIfInBounds_toArray, List.set_cons_zero, List.set_cons_succ]
              refine wpAnyH_take (i := 8) (oi := { dst := some 36, op := Go.Op.indexAddr 69 (Go.Operand.tmp 32) (Go.Operand.tmp 35), type := 0, pos := "maxflow.go:35", after := #[{ on := 4, ground := Go.Ground.data }, { on := 7, ground := Go.Ground.data }], guard := none }) (v := .pointer (some ⟨w1.heap.size, u, none⟩)) rfl (by kernel_rfl) (by kernel_rfl) (by kernel_rfl) (fun _ _ _ h => h) (Or.inl ⟨by rfl, ?_⟩) (by assumption) ?_
              · (intro w hSw; (try dsimp only [Held] at hSw); go_simp)
              try simp only [Act.put, List.setIfInBounds_toArray, List.set_cons_zero, List.set_cons_succ]
              refine wpAnyH_ready (rs := [9]) (by kernel_rfl) (by simp) (AllReadyH.cons (o := { dst := some 37, op := Go.Op.load 81 (Go.Operand.tmp 36), type := 81, pos := "maxflow.go:35", after := #[{ on := 8, ground := Go.Ground.data }], guard := none }) rfl (fun K hK => ?_) AllReadyH.nil)
              have hc : (w8).cell? ⟨w1.heap.size, u, none⟩ = some sv := by rw [← HSV.out]; exact (HS.out.ix.cell (by rw [rowsJ_len]; exact huN)).1
              go_simp
              refine hK.out _ _ HS.out.held (fun hHeld => ?_)
              clear hK hc
              try simp only [Act.put, List.setIfInBounds_toArray, List.set_cons_zero, List.set_cons_succ]
              refine wpAnyH_ready (rs := [12]) (by kernel_rfl) (by simp) (AllReadyH.cons (o := { dst := some 40, op := Go.Op.call { callee := Go.Callee.builtin Go.Builtin.append, args := #[Go.Operand.tmp 37, Go.Operand.tmp 39], argTypes := #[81, 81] }, type := 81, pos := "maxflow.go:35", after := #[{ on := 9, ground := Go.Ground.data }, { on := 11, ground := Go.Ground.data }, { on := 7, ground := Go.Ground.chain }], guard := none }) rfl (fun K hK => ?_) AllReadyH.nil)
              have HOW : Hid (OwnS (w8) w1.heap.size sv ((rowsJ Z N t a j).getD u [])) := Lib.hid (by rw [← HSV.out]; exact HS.out.ix.inn u (by rw [rowsJ_len]; exact huN))
              refine step_append_lies _ (by rfl) _ _ _ (by rfl) w1.heap.size 75 i1 _ 2 16 Try.underlying81 HJ.out.1 HJ.out.2.1 HJ.out.2.2.1 HJ.out.2.2.2 rfl (by omega) sv ((rowsJ Z N t a j).getD u []).length (((rowsJ Z N t a j).getD u []).flatMap encS) (by rfl) HOW.out ⟨nb2, 0, none⟩ 1 1 (encS ((t : Int), q)) (by rfl) (by rfl) (World.news_of_block (cs := #[.int .i64 (t : Int), .bool q]) (t := 75) (fr := (0, 0)) HNW.out) (encS_one _) (by omega) (by have := HRM.out; unfold maxLen; omega) (by have := HRM.out; omega) HS.out.big _ rfl ?_
              intro g12 cap12 w12 ho12 hg12 hl12 hlt12
              obtain ⟨q1, q2, q3, q4, q5, q6, q7⟩ := HS.out.add (u := u) (by rw [rowsJ_len]; exact huN) (ownS_snoc ho12) (by rw [HSV.out]; exact hg12) (by rw [HSV.out]; exact hl12)
              rw [HSV.out] at q2
              have HQ4 := Lib.hid q4
              have HQ5 := Lib.hid q5
              have HQ6 := Lib.hid q6
              have HQ7 := Lib.hid q7
              clear hHeld
              refine hK.out _ _ q1 (fun hHeld => ?_)
              clear hK q1
              try simp only [Act.put, List.setIfInBounds_toArray, List.set_cons_zero, List.set_cons_succ]
              refine wpAnyH_take (i := 13) (oi := { dst := some 41, op := Go.Op.indexAddr 69 (Go.Operand.tmp 28) (Go.Operand.tmp 31), type := 0, pos := "maxflow.go:35", after := #[{ on := 0, ground := Go.Ground.data }, { on := 3, ground := Go.Ground.data }, { on := 0, ground := Go.Ground.phase }, { on := 1, ground := Go.Ground.phase }, { on := 2, ground := Go.Ground.phase }, { on := 3, ground := Go.Ground.phase }, { on := 4, ground := Go.Ground.phase }, { on := 5, ground := Go.Ground.phase }, { on := 6, ground := Go.Ground.phase }, { on := 7, ground := Go.Ground.phase }, { on := 8, ground := Go.Ground.phase }, { on := 9, ground := Go.Ground.phase }, { on := 10, ground := Go.Ground.phase }, { on := 11, ground := Go.Ground.phase }, { on := 12, ground := Go.Ground.phase }], guard := none }) (v := .pointer (some ⟨w1.heap.size, u, none⟩)) rfl (by kernel_rfl) (by kernel_rfl) (by kernel_rfl) (fun _ _ _ h => h) (Or.inl ⟨by rfl, ?_⟩) (by assumption) ?_
              · (intro w hSw; (try dsimp only [Held] at hSw); go_simp)
              try simp only [Act.put, List.setIfInBounds_toArray, List.set_cons_zero, List.set_cons_succ]
              refine wpAnyH_ready (rs := [14]) (by kernel_rfl) (by simp) (AllReadyH.cons (o := { dst := none, op := Go.Op.store 81 (Go.Operand.tmp 41) (Go.Operand.tmp 40), type := 0, pos := "maxflow.go:35", after := #[{ on := 13, ground := Go.Ground.data }, { on := 12, ground := Go.Ground.data }, { on := 12, ground := Go.Ground.chain }, { on := 0, ground := Go.Ground.phase }, { on := 1, ground := Go.Ground.phase }, { on := 2, ground := Go.Ground.phase }, { on := 3, ground := Go.Ground.phase }, { on := 4, ground := Go.Ground.phase }, { on := 5, ground := Go.Ground.phase }, { on := 6, ground := Go.Ground.phase }, { on := 7, ground := Go.Ground.phase }, { on := 8, ground := Go.Ground.phase }, { on := 9, ground := Go.Ground.phase }, { on := 10, ground := Go.Ground.phase }, { on := 11, ground := Go.Ground.phase }, { on := 12, ground := Go.Ground.phase }], guard := none }) rfl (fun K hK => ?_) AllReadyH.nil)
              go_simp
              clear hHeld
              refine hK.out _ _ HQ4.out (fun hHeld => ?_)
              clear hK
              try simp only [Act.put, List.setIfInBounds_toArray, List.set_cons_zero, List.set_cons_succ]
              refine wpAnyH_done (by kernel_rfl) ?_ _
              clear hHeld
              go_wp2
              go_roundw
              case rel => exact ⟨j + 1, by omega, by go_num, HQ5, Lib.hid (lt_whole HQ6.out), HQ6, Lib.hid (by rw [HGJ.out]; exact HQ7.out)⟩
              case measure => simp [intOf]; omega
          · obtain ⟨nb2, hnb2⟩ : ∃ nb2, (wd).heap.size = nb2 := ⟨_, rfl⟩
            go_simp
            have HS := Lib.hid (HS.out.next ((Below.refl _ _).alloc (Nat.le_refl _) (.cells #[.int .i64 (t : Int), .bool q] 75)))
            have HNW : Hid (((wd).alloc (.cells #[.int .i64 (t : Int), .bool q] 75)).heap[nb2]? = some (.cells #[.int .i64 (t : Int), .bool q] 75 (0, 0))) := Lib.hid (by rw [← hnb2]; exact heap_alloc_new _ _)
            clear hHeld
            refine hK.out _ _ HS.out.held (fun hHeld => ?_)
            clear hK
            generalize (wd).alloc (.cells #[.int .i64 (t : Int), .bool q] 75) = wn at *
            clear hnb2
            try simp only [Act.put, List.setIfInBounds_toArray, List.set_cons_zero, List.set_cons_succ]
            refine wpAnyH_ready (rs := [3]) (by kernel_rfl) (by simp) (AllReadyH.cons (o := { dst := some 31, op := Go.Op.call { callee := Go.Callee.value (Go.Operand.func 58), args := #[Go.Operand.tmp 29, Go.Operand.tmp 30], argTypes := #[68, 75] }, type := 3, pos := "maxflow.go:35", after := #[{ on := 1, ground := Go.Ground.data }, { on := 2, ground := Go.Ground.data }], guard := none }) rfl (fun K hK => ?_) AllReadyH.nil)
            go_simp
            refine (xbegin_at (N : Int) b ao cap Z t q a _ HS.out.arcs HA.out hzl).mono ?_
            rintro e w7 ⟨rfl, b7⟩
            rw [HQU.out]
            have HS := Lib.hid (HS.out.next b7)
            have HNW := Lib.hid (kept_box HNW.out b7)
            clear b7 hHeld
            go_wp2_with fail
            refine hK.out _ _ HS.out.held (fun hHeld => ?_)
            clear hK
            try simp only [Act.put, List.setIfInBounds_toArray, List.set_cons_zero, List.set_cons_succ]
            refine wpAnyH_ready (rs := [7]) (by kernel_rfl) (by simp) (AllReadyH.cons (o := { dst := some 35, op := Go.Op.call { callee := Go.Callee.value (Go.Operand.func 58), args := #[Go.Operand.tmp 33, Go.Operand.tmp 34], argTypes := #[68, 75] }, type := 3, pos := "maxflow.go:35", after := #[{ on := 5, ground := Go.Ground.data }, { on := 6, ground := Go.Ground.data }, { on := 3, ground := Go.Ground.chain }], guard := none }) rfl (fun K hK => ?_) AllReadyH.nil)
            go_simp
            refine (xbegin_at (N : Int) b ao cap Z t q a _ HS.out.arcs HA.out hzl).mono ?_
            rintro e w8 ⟨rfl, b7⟩
            rw [HQU.out]
            have HS := Lib.hid (HS.out.next b7)
            have HNW := Lib.hid (kept_box HNW.out b7)
            clear b7 hHeld
            go_wp2_with fail
            refine hK.out _ _ HS.out.held (fun hHeld => ?_)
            clear hK
            try simp only [Act.put, List.setIfInBounds_toArray, List.set_cons_zero, List.set_cons_succ]
            refine wpAnyH_take (i := 8) (oi := { dst := some 36, op := Go.Op.indexAddr 69 (Go.Operand.tmp 32) (Go.Operand.tmp 35), type := 0, pos := "maxflow.go:35", after := #[{ on := 4, ground := Go.Ground.data }, { on := 7, ground := Go.Ground.data }], guard := none }) (v := .pointer (some ⟨w1.heap.size, u, none⟩)) rfl (by kernel_rfl) (by kernel_rfl) (by kernel_rfl) (fun _ _ _ h => h) (Or.inl ⟨by rfl, ?_⟩) (by assumption) ?_
            · (intro w hSw; (try dsimp only [Held] at hSw); go_simp)
            try simp only [Act.put, List.setIfInBounds_toArray, List.set_cons_zero, List.set_cons_succ]
            refine wpAnyH_ready (rs := [9]) (by kernel_rfl) (by simp) (AllReadyH.cons (o := { dst := some 37, op := Go.Op.load 81 (Go.Operand.tmp 36), type := 81, pos := "maxflow.go:35", after := #[{ on := 8, ground := Go.Ground.data }], guard := none }) rfl (fun K hK => ?_) AllReadyH.nil)
            have hc : (w8).cell? ⟨w1.heap.size, u, none⟩ = some sv := by rw [← HSV.out]; exact (HS.out.ix.cell (by rw [rowsJ_len]; exact huN)).1
            go_simp
            refine hK.out _ _ HS.out.held (fun hHeld => ?_)
            clear hK hc
            try simp only [Act.put, List.setIfInBounds_toArray, List.set_cons_zero, List.set_cons_succ]
            refine wpAnyH_ready (rs := [12]) (by kernel_rfl) (by simp) (AllReadyH.cons (o := { dst := some 40, op := Go.Op.call { callee := Go.Callee.builtin Go.Builtin.append, args := #[Go.Operand.tmp 37, Go.Operand.tmp 39], argTypes := #[81, 81] }, type := 81, pos := "maxflow.go:35", after := #[{ on := 9, ground := Go.Ground.data }, { on := 11, ground := Go.Ground.data }, { on := 7, ground := Go.Ground.chain }], guard := none }) rfl (fun K hK => ?_) AllReadyH.nil)
            have HOW : Hid (OwnS (w8) w1.heap.size sv ((rowsJ Z N t a j).getD u [])) := Lib.hid (by rw [← HSV.out]; exact HS.out.ix.inn u (by rw [rowsJ_len]; exact huN))
            refine step_append_lies _ (by rfl) _ _ _ (by rfl) w1.heap.size 75 i1 _ 2 16 Try.underlying81 HJ.out.1 HJ.out.2.1 HJ.out.2.2.1 HJ.out.2.2.2 rfl (by omega) sv ((rowsJ Z N t a j).getD u []).length (((rowsJ Z N t a j).getD u []).flatMap encS) (by rfl) HOW.out ⟨nb2, 0, none⟩ 1 1 (encS ((t : Int), q)) (by rfl) (by rfl) (World.news_of_block (cs := #[.int .i64 (t : Int), .bool q]) (t := 75) (fr := (0, 0)) HNW.out) (encS_one _) (by omega) (by have := HRM.out; unfold maxLen; omega) (by have := HRM.out; omega) HS.out.big _ rfl ?_
            intro g12 cap12 w12 ho12 hg12 hl12 hlt12
            obtain ⟨q1, q2, q3, q4, q5, q6, q7⟩ := HS.out.add (u := u) (by rw [rowsJ_len]; exact huN) (ownS_snoc ho12) (by rw [HSV.out]; exact hg12) (by rw [HSV.out]; exact hl12)
            rw [HSV.out] at q2
            have HQ4 := Lib.hid q4
            have HQ5 := Lib.hid q5
            have HQ6 := Lib.hid q6
            have HQ7 := Lib.hid q7
            clear hHeld
            refine hK.out _ _ q1 (fun hHeld => ?_)
            clear hK q1
            try simp only [Act.put, List.setIfInBounds_toArray, List.set_cons_zero, List.set_cons_succ]
            refine wpAnyH_take (i := 13) (oi := { dst := some 41, op := Go.Op.indexAddr 69 (Go.Operand.tmp 28) (Go.Operand.tmp 31), type := 0, pos := "maxflow.go:35", after := #[{ on := 0, ground := Go.Ground.data }, { on := 3, ground := Go.Ground.data }, { on := 0, ground := Go.Ground.phase }, { on := 1, ground := Go.Ground.phase }, { on := 2, ground := Go.Ground.phase }, { on := 3, ground := Go.Ground.phase }, { on := 4, ground := Go.Ground.phase }, { on := 5, ground := Go.Ground.phase }, { on := 6, ground := Go.Ground.phase }, { on := 7, ground := Go.Ground.phase }, { on := 8, ground := Go.Ground.phase }, { on := 9, ground := Go.Ground.phase }, { on := 10, ground := Go.Ground.phase }, { on := 11, ground := Go.Ground.phase }, { on := 12, ground := Go.Ground.phase }], guard := none }) (v := .pointer (some ⟨w1.heap.size, u, none⟩)) rfl (by kernel_rfl) (by kernel_rfl) (by kernel_rfl) (fun _ _ _ h => h) (Or.inl ⟨by rfl, ?_⟩) (by assumption) ?_
            · (intro w hSw; (try dsimp only [Held] at hSw); go_simp)
            try simp only [Act.put, List.setIfInBounds_toArray, List.set_cons_zero, List.set_cons_succ]
            refine wpAnyH_ready (rs := [14]) (by kernel_rfl) (by simp) (AllReadyH.cons (o := { dst := none, op := Go.Op.store 81 (Go.Operand.tmp 41) (Go.Operand.tmp 40), type := 0, pos := "maxflow.go:35", after := #[{ on := 13, ground := Go.Ground.data }, { on := 12, ground := Go.Ground.data }, { on := 12, ground := Go.Ground.chain }, { on := 0, ground := Go.Ground.phase }, { on := 1, ground := Go.Ground.phase }, { on := 2, ground := Go.Ground.phase }, { on := 3, ground := Go.Ground.phase }, { on := 4, ground := Go.Ground.phase }, { on := 5, ground := Go.Ground.phase }, { on := 6, ground := Go.Ground.phase }, { on := 7, ground := Go.Ground.phase }, { on := 8, ground := Go.Ground.phase }, { on := 9, ground := Go.Ground.phase }, { on := 10, ground := Go.Ground.phase }, { on := 11, ground := Go.Ground.phase }, { on := 12, ground := Go.Ground.phase }], guard := none }) rfl (fun K hK => ?_) AllReadyH.nil)
            go_simp
            clear hHeld
            refine hK.out _ _ HQ4.out (fun hHeld => ?_)
            clear hK
            try simp only [Act.put, List.setIfInBounds_toArray, List.set_cons_zero, List.set_cons_succ]
            refine wpAnyH_done (by kernel_rfl) ?_ _
            clear hHeld
            go_wp2
            go_roundw
            case rel => exact ⟨j + 1, by omega, by go_num, HQ5, Lib.hid (lt_whole HQ6.out), HQ6, Lib.hid (by rw [HGJ.out]; exact HQ7.out)⟩
            case measure => simp [intOf]; omega
        · have hli2 : ¬ (j : Int) < 2 := by omega
          obtain rfl : j = 2 := by omega
          have HST : Hid (rowsJ Z N t a 2 = rowsK Z N (t + 1)) := Lib.hid (rowsK_step HA.out HFZ.out.2.1 HFZ.out.2.2)
          go_wp2
          go_roundw
          case rel => exact ⟨t + 1, by omega, by go_num, HB, Lib.hid (by obtain ⟨vs, own, _, hG⟩ := HG.out; rw [← HST.out]; exact ⟨vs, own, hG⟩)⟩
          case measure => simp [intOf]; omega
    · have hli : ¬ (t : Int) < (Z.length : Int) := by omega
      obtain rfl : t = Z.length := by omega
      obtain ⟨vs, own, hG⟩ := HG.out
      have HG2 := Lib.hid hG
      clear hG HG
      go_wp2
      go_ret
      exact ⟨_, rfl, ⟨vs, own, ⟨HG2.out.gr.mono (by omega), HG2.out.len, fun i hi => own_mono (HG2.out.inn i hi) (by omega), HG2.out.og, HG2.out.oi⟩⟩, HB0.out.trans (HB.out.mono (by omega))⟩
end
end Go.Proofs.Ytekcnglkfglbfaa
