/- Lemmas of the layers below, several texts in one. -/
import Derived.Test.YtlkbohpnlbfopaaXSpec
import Derived.Test.YtlkbohpnlbfopaaXBest
import Derived.Test.YtlkbohpnlbfopaaBL
import Derived.ArgAppend
import Derived.BigQuiet
import Derived.Deep.QuietTactic
import Derived.Deep.RegionHeld3
import Derived.Deep.AppendLies
import Derived.Deep.RegionLaw
import Derived.Maps.OwnSet
namespace Go.Proofs.Ytlkbohpnlbfopaa
set_option linter.unusedVariables false
section
variable {Z : List ArcT} {N s t : Nat} {F : List Int}
theorem wide_levs (hW : WideNet Z N) (hF : Flow Z F) (hs : s < N) :
    SK (fromS Z) (toS Z) (stepsK Z F Z.length) s (seekN Z F N s) (seekN Z F N s).length [] ∧
    (∀ v, v < N → atI (farsL (seekN Z F N s) N) v = farX (seekN Z F N s) v ∧ -1 ≤ farX (seekN Z F N s) v ∧ farX (seekN Z F N s) v < (N : Int)) ∧
    farX (seekN Z F N s) s = 0 := by
  have hT : ∀ y ∈ stepsK Z F Z.length, toS Z y < N := fun y hy => (wide_step hW hF hy).1.1
  have hsk := seek_facts hW hF hs
  have hl := seek_len hsk hs hT
  refine ⟨hsk, fun v hv => ⟨farsL_at _ hv, ?_⟩, farX_zero hsk⟩
  rcases farX_bd hsk hl v with h1 | h1
  · exact h1
  · have := hsk.hd
    rw [h1] at this
    cases this
theorem wide_open (hW : WideNet Z N) (hF : Flow Z F) (hs : s < N) (ht : farX (seekN Z F N s) t ≠ -1) : ¬ Shut Z F (farsL (seekN Z F N s) N) t s := by
  intro h
  obtain ⟨hsk, hat, _⟩ := wide_levs hW hF hs
  have hm : t ∈ keysX (seekN Z F N s) := Classical.byContradiction fun hn => ht (farX_none hn)
  obtain ⟨b, q, hb, hq⟩ := keysX_mem.1 hm
  obtain ⟨w1, w2⟩ := path_walk hsk b b q (Nat.le_refl _) hb
  have hd := path_desc hsk b b q (Nat.le_refl _) hb
  refine h (pathX (seekN Z F N s) b) (fun y hy => ?_) (by rw [← hq]; exact w1)
  obtain ⟨⟨y1, y2⟩, y3, y4, _⟩ := wide_step hW hF (w2 y hy)
  refine ⟨y3, descB_iff.2 ⟨y4, ?_⟩⟩
  rw [(hat _ y1).1, (hat _ y2).1]
  exact hd _ hy
theorem wide_most {k : Int} (hW : WideNet Z N) (hs : s < N) (h : FlowST Z N s t F k) (ht : farX (seekN Z F N s) t = -1) : IsMost Z N s t k ∧ t ∉ keysX (seekN Z F N s) := by
  have hsk := seek_facts hW h.1 hs
  have hn : t ∉ keysX (seekN Z F N s) := fun hm => by
    obtain ⟨b, q, hb, hq⟩ := keysX_mem.1 hm
    have := farX_some hsk hb
    rw [hq, ht] at this
    omega
  exact ⟨(best_side hW.lt hs (fun y => by
    rw [stepsK_mem (Nat.le_refl _)]
    constructor
    · rintro ⟨h1, _, h3⟩; exact ⟨h1, h3⟩
    · rintro ⟨h1, h3⟩; exact ⟨h1, h1.2, h3⟩) h hsk hn).2.2.1, hn⟩
theorem stepTo_swap {k : Int} {f : List Int} {x y : StepT} (h : x.1.toNat ≠ y.1.toNat) : stepTo k (stepTo k f x) y = stepTo k (stepTo k f y) x := by
  have hat : ∀ (g : List Int) (z : Int) (i j : Nat), i ≠ j → atI (g.set i z) j = atI g j := fun g z i j hij => by
    unfold atI
    rw [List.getD_eq_getElem?_getD, List.getD_eq_getElem?_getD, List.getElem?_set_ne hij]
  unfold stepTo
  rw [hat _ _ _ _ h, hat _ _ _ _ (Ne.symm h), List.set_comm _ _ h]
theorem pushed_front {k : Int} {x : StepT} : ∀ (l : List StepT) (f : List Int), (∀ y ∈ l, y.1.toNat ≠ x.1.toNat) → pushedL k (stepTo k f x) l = stepTo k (pushedL k f l) x
  | [], f, _ => rfl
  | y :: r, f, h => by
    show pushedL k (stepTo k (stepTo k f x) y) r = stepTo k (pushedL k (stepTo k f y) r) x
    rw [stepTo_swap (Ne.symm (h y (by simp)))]
    exact pushed_front r _ (fun z hz => h z (by simp [hz]))
theorem pushed_snoc (k : Int) (f : List Int) (l : List StepT) (x : StepT) : pushedL k f (l ++ [x]) = stepTo k (pushedL k f l) x := by unfold pushedL; rw [List.foldl_append]; rfl
theorem places_ne {x y : StepT} (hx : isArc Z x) (hy : isArc Z y) (h : y.1 ≠ x.1) : y.1.toNat ≠ x.1.toNat := by unfold isArc at hx hy; omega
theorem pushed_reverse {k : Int} : ∀ (l : List StepT) (f : List Int), (∀ x ∈ l, isArc Z x) → (l.map fun x => x.1).Nodup → pushedL k f l.reverse = pushedL k f l
  | [], f, _, _ => rfl
  | x :: r, f, h, hn => by
    rw [List.map_cons, List.nodup_cons] at hn
    rw [List.reverse_cons, pushed_snoc, pushed_reverse r f (fun y hy => h y (by simp [hy])) hn.2]
    show _ = pushedL k (stepTo k f x) r
    rw [pushed_front r f (fun y hy => places_ne (h x (by simp)) (h y (by simp [hy])) (fun e => hn.1 (List.mem_map.2 ⟨y, hy, e⟩)))]
theorem pushed_others {k : Int} {x : StepT} (hx : isArc Z x) : ∀ (l : List StepT) (f : List Int), f.length = Z.length → (∀ y ∈ l, isArc Z y) → x.1 ∉ l.map (fun y => y.1) → leftS Z (pushedL k f l) x = leftS Z f x
  | [], f, _, _, _ => rfl
  | y :: r, f, hf, h, hn => by
    rw [List.map_cons, List.mem_cons, not_or] at hn
    show leftS Z (pushedL k (stepTo k f y) r) x = _
    rw [pushed_others hx r _ (by rw [stepTo_len]; exact hf) (fun z hz => h z (by simp [hz])) hn.2, left_other (h y (by simp)) hx hf hn.1]
theorem left_step {k : Int} {f : List Int} {x : StepT} (hx : isArc Z x) (hf : f.length = Z.length) : leftS Z (stepTo k f x) x = leftS Z f x - k := by
  have hlt : x.1.toNat < f.length := by rw [hf]; exact (List.getElem?_eq_some_iff.1 (arcOf_at hx)).1
  unfold leftS
  rw [stepTo_at hlt, if_pos rfl]
  cases x.2
  · simp only [Bool.false_eq_true, if_false]; omega
  · simp
theorem pushed_left {k : Int} : ∀ (l : List StepT) (f : List Int), f.length = Z.length → (∀ x ∈ l, isArc Z x) → (l.map fun x => x.1).Nodup → ∀ x ∈ l, leftS Z (pushedL k f l) x = leftS Z f x - k
  | [], f, _, _, _, x, hx => by cases hx
  | y :: r, f, hf, h, hn, x, hx => by
    rw [List.map_cons, List.nodup_cons] at hn
    have hy := h y (by simp)
    show leftS Z (pushedL k (stepTo k f y) r) x = _
    rcases List.mem_cons.1 hx with rfl | hx
    · rw [pushed_others hy r _ (by rw [stepTo_len]; exact hf) (fun z hz => h z (by simp [hz])) hn.1, left_step hy hf]
    · rw [pushed_left r _ (by rw [stepTo_len]; exact hf) (fun z hz => h z (by simp [hz])) hn.2 x hx]
      rw [left_other hy (h x (by simp [hx])) hf (fun e => hn.1 (List.mem_map.2 ⟨x, hx, e⟩))]
def backF (k : Int) (F : List Int) (P : List StepT) (i : Nat) : List Int := pushedL k F (P.drop i).reverse
theorem backF_end (k : Int) (F : List Int) (P : List StepT) : backF k F P P.length = F := by unfold backF; rw [List.drop_length]; rfl
theorem backF_step {k : Int} {F : List Int} {P : List StepT} {i : Nat} (hi : i < P.length) : backF k F P i = stepTo k (backF k F P (i + 1)) P[i] := by
  unfold backF
  rw [List.drop_eq_getElem_cons hi, List.reverse_cons, pushed_snoc]
structure FillP (Z : List ArcT) (F : List Int) (P : List StepT) (k : Int) : Prop where
  flow : Flow Z F
  arcs : ∀ x ∈ P, isArc Z x
  nd : (P.map fun x => x.1).Nodup
  pos : 0 ≤ k
  room : ∀ x ∈ P, k ≤ leftS Z F x
theorem FillP.back {P : List StepT} {k : Int} (h : FillP Z F P k) : ∀ m i, i + m = P.length → Flow Z (backF k F P i) ∧ ∀ j (hj : j < P.length), j < i → leftS Z (backF k F P i) P[j] = leftS Z F P[j]
  | 0, i, hm => by
    obtain rfl : i = P.length := by omega
    rw [backF_end]
    exact ⟨h.flow, fun j hj _ => rfl⟩
  | m + 1, i, hm => by
    obtain ⟨g1, g2⟩ := FillP.back h m (i + 1) (by omega)
    have hi : i < P.length := by omega
    have hx := h.arcs _ (List.getElem_mem hi)
    have hl := g2 i hi (by omega)
    have hr := h.room _ (List.getElem_mem hi)
    rw [backF_step hi]
    refine ⟨stepTo_flow g1 h.pos hx (by rw [hl]; omega), fun j hj hji => ?_⟩
    rw [left_other hx (h.arcs _ (List.getElem_mem _)) g1.1, g2 j hj (by omega)]
    intro e2
    have h2 := List.nodup_iff_pairwise_ne.1 h.nd
    rw [List.pairwise_iff_getElem] at h2
    exact h2 j i (by simp; omega) (by simp; omega) hji (by simpa using e2)
theorem FillP.at {P : List StepT} {k : Int} (h : FillP Z F P k) {i : Nat} (hi : i < P.length) : Flow Z (backF k F P (i + 1)) ∧ leftS Z (backF k F P (i + 1)) P[i] = leftS Z F P[i] ∧ Flow Z (backF k F P i) ∧ leftS Z (backF k F P i) P[i] = leftS Z F P[i] - k := by
  obtain ⟨g1, g2⟩ := h.back (P.length - (i + 1)) (i + 1) (by omega)
  obtain ⟨g3, _⟩ := h.back (P.length - i) i (by omega)
  have g4 := g2 i hi (by omega)
  refine ⟨g1, g4, g3, ?_⟩
  rw [backF_step hi, left_step (h.arcs _ (List.getElem_mem hi)) g1.1, g4]
theorem FillP.all {P : List StepT} {k : Int} (h : FillP Z F P k) : backF k F P 0 = pushedL k F P := by
  unfold backF
  rw [List.drop_zero]
  exact pushed_reverse (Z := Z) P F h.arcs h.nd
structure RestP (Z : List ArcT) (F : List Int) (P : List StepT) (k : Int) (m : Nat) : Prop where
  le : m ≤ P.length
  room : ∀ j (hj : j < P.length), j < m → k < leftS Z F P[j]
theorem DP.fill_of {L T : List Int} {P : List StepT} {v : Int} {s : Nat} (hne : s ≠ t) (h : FlowST Z N s t F v) (hd : DP Z F L T s P t) : P ≠ [] ∧ 0 < botK Z F P ∧ FillP Z F P (botK Z F P) ∧ FlowST Z N s t (pushedL (botK Z F P) F P) (v + botK Z F P) := by
  obtain ⟨h1, h2, h3, h4⟩ := hd.found
  obtain ⟨g1, g2, g3⟩ := augment hne h h1 h2 h3 h4
  refine ⟨fun e => ?_, g1, ⟨h.1, fun x hx => (h4 x hx).1, arcs_nodup h1 h2 h3, by omega, fun x hx => botK_le P x hx⟩, g3⟩
  subst e
  exact hne h1
theorem DP.rest {L T : List Int} {P : List StepT} {v m : Nat} {k : Int} (hd : DP Z F L T s P v) (hf : FillP Z F P k) (hr : RestP Z F P k m) : ∃ u, DP Z (pushedL k F P) L T s (P.take m) u := by
  have hw := hd.walk
  rw [← List.take_append_drop m P] at hw
  obtain ⟨u, w1, _⟩ := walk_app.1 hw
  refine ⟨u, w1, fun y hy => ?_, fun y hy => hd.att y (List.mem_of_mem_take hy)⟩
  obtain ⟨j, hj, e⟩ := List.mem_iff_getElem.1 hy
  have hjl : j < m ∧ j < P.length := by rw [List.length_take] at hj; omega
  rw [List.getElem_take] at e
  have hyP : y ∈ P := by rw [← e]; exact List.getElem_mem _
  obtain ⟨a1, a2⟩ := hd.all y hyP
  refine ⟨a1, descB_iff.2 ⟨?_, (descB_iff.1 a2).2⟩⟩
  rw [pushed_left P F hf.flow.1 hf.arcs hf.nd y hyP, ← e]
  have := hr.room j hjl.2 hjl.1
  omega
def sumF (F : List Int) : List StepT → Int
  | [] => 0
  | y :: r => atI F y.1.toNat + sumF F r
theorem sumF_app (F : List Int) : ∀ (a b : List StepT), sumF F (a ++ b) = sumF F a + sumF F b
  | [], b => by simp [sumF]
  | y :: r, b => by show atI F y.1.toNat + sumF F (r ++ b) = _; rw [sumF_app F r b]; simp only [sumF]; omega
theorem sumF_bd (hW : WideNet Z N) (hF : Flow Z F) : ∀ (l : List StepT), (∀ y ∈ l, isArc Z y) → 0 ≤ sumF F l ∧ sumF F l ≤ (l.length : Int) * 4398046511104
  | [], _ => by simp [sumF]
  | y :: r, h => by
    have ih := sumF_bd hW hF r (fun z hz => h z (by simp [hz]))
    have hy := h y (by simp)
    have h1 := hF.2 _ _ (arcOf_at hy)
    have h2 := hW.caps _ (List.mem_of_getElem? (arcOf_at hy))
    simp only [sumF, List.length_cons]
    omega
theorem sum_pairs {u : Nat} (hn : ∀ a ∈ Z, toN a ≠ u) : ∀ i, i ≤ Z.length → sumF F ((pairsK Z u i).map stepP) = balK Z F u i
  | 0, _ => rfl
  | i + 1, hi => by
    have hz : Z[i]? = some Z[i] := List.getElem?_eq_getElem (by omega)
    rw [pairsK_succ hz, List.map_append, sumF_app, sum_pairs hn i (by omega), balK_succ hz]
    congr 1
    have := hn _ (List.getElem_mem (by omega : i < Z.length))
    unfold pairOf share
    by_cases h1 : frN Z[i] = u
    · simp [h1, this, stepP, sumF]
    · simp [h1, this, sumF]
theorem sum_value {k : Int} (h : FlowST Z N s t F k) (hn : ∀ a ∈ Z, toN a ≠ s) : sumF F (stepsU Z s) = k := by
  rw [← h.2.2]
  exact sum_pairs hn Z.length (Nat.le_refl _)
end
end Go.Proofs.Ytlkbohpnlbfopaa
namespace Go.Proofs.Ytlkbohpnlbfopaa
open Go.RowKit
set_option linter.unusedVariables false
theorem p4Cells {w : World} {g : Nat} {x y z u : Value} {t : TypeId} (h : w.heap[g]? = some (.cells #[x, y, z, u] t (0, 0))) :
    (w.cell? ⟨g, 0, none⟩ = some x ∧ w.cell? ⟨g, 1, none⟩ = some y ∧ w.cell? ⟨g, 2, none⟩ = some z ∧ w.cell? ⟨g, 3, none⟩ = some u) ∧
    w.frozen? ⟨g, 0, none⟩ = false ∧ w.frozen? ⟨g, 1, none⟩ = false ∧ w.frozen? ⟨g, 2, none⟩ = false ∧ w.frozen? ⟨g, 3, none⟩ = false :=
  ⟨⟨cell_whole h 0, cell_whole h 1, cell_whole h 2, cell_whole h 3⟩, frozen_whole h 0, frozen_whole h 1, frozen_whole h 2, frozen_whole h 3⟩
def Und (ao : Option Addr) (n K : Nat) : Prop := ∀ ad, ao = some ad → 0 < n → ad.block < K
theorem row_keptK {α : Type} {enc : α → List Value} {k K : Nat} {S : Nat → Prop} {w w' : World} {ao : Option Addr} {A : List α} (h : Row enc k w ao A) (hk : Kept S w w') (hS : ∀ i, S i → K ≤ i) (hu : Und ao A.length K) : Row enc k w' ao A :=
  h.off hk (fun ad e h0 q => by have := hS _ q; have := hu ad e h0; omega)
def StepK (w : World) (K sg N : Nat) (Z : List ArcT) : Prop := ∀ v, v < N → ∃ ao cap, w.cell? ⟨sg, v, none⟩ = some (.slice ao (stepsU Z v).length cap) ∧ Row encS 2 w ao (stepsU Z v) ∧ Und ao (stepsU Z v).length K
structure ExpW (w : World) (K eb sg N : Nat) (b : Bool) (ao : Option Addr) (cap : Nat) (Z : List ArcT) (sc : Nat) : Prop where
  box : w.heap[eb]? = some (.cells #[.int .i64 (N : Int), .bool b, .slice ao Z.length cap, .slice (some ⟨sg, 0, none⟩) N sc] 90 (0, 0))
  lt : eb < K ∧ sg < K ∧ K ≤ w.heap.size
  arcs : Row encA 4 w ao Z
  arcsU : Und ao Z.length K
  steps : StepK w K sg N Z
section
variable {w w2 : World} {K eb sg N : Nat} {b : Bool} {ao : Option Addr} {cap : Nat} {Z : List ArcT} {sc : Nat}
theorem ExpW.kept {S : Nat → Prop} (h : ExpW w K eb sg N b ao cap Z sc) (hk : Kept S w w2) (hS : ∀ i, S i → K ≤ i) : ExpW w2 K eb sg N b ao cap Z sc := by
  obtain ⟨l1, l2, l3⟩ := h.lt
  refine ⟨hk.old h.box (fun q => by have := hS _ q; omega), ⟨l1, l2, Nat.le_trans l3 hk.size⟩, row_keptK h.arcs hk hS h.arcsU, h.arcsU, fun v hv => ?_⟩
  obtain ⟨a, c, h1, h2, h3⟩ := h.steps v hv
  exact ⟨a, c, (cell_of_block (hk.block sg (by omega) (fun q => by have := hS _ q; omega))).trans h1, row_keptK h2 hk hS h3, h3⟩
theorem ExpW.next (h : ExpW w K eb sg N b ao cap Z sc) (hb : Below w.heap.size w w2) : ExpW w2 K eb sg N b ao cap Z sc := h.kept (S := fun _ => False) (Kept.of_below hb) (fun i e => e.elim)
theorem ExpW.cells (h : ExpW w K eb sg N b ao cap Z sc) : w.cell? ⟨eb, 0, none⟩ = some (.int .i64 (N : Int)) ∧ w.cell? ⟨eb, 1, none⟩ = some (.bool b) ∧ w.cell? ⟨eb, 2, none⟩ = some (.slice ao Z.length cap) ∧ w.cell? ⟨eb, 3, none⟩ = some (.slice (some ⟨sg, 0, none⟩) N sc) := (p4Cells h.box).1
end
structure SolW (w : World) (K p eb sg N : Nat) (b : Bool) (ao : Option Addr) (cap : Nat) (Z : List ArcT) (sc fb fc : Nat) (F : List Int) (lb lc : Nat) (L : List Int) (tb tc : Nat) (T : List Int) : Prop where
  ex : ExpW w K eb sg N b ao cap Z sc
  box : w.heap[p]? = some (.cells #[.pointer (some ⟨eb, 0, none⟩), .slice (some ⟨fb, 0, none⟩) Z.length fc, .slice (some ⟨lb, 0, none⟩) N lc, .slice (some ⟨tb, 0, none⟩) N tc] 67 (0, 0))
  pK : K ≤ p
  flow : OwnL encI w K 3 (.slice (some ⟨fb, 0, none⟩) Z.length fc) F
  levs : OwnL encI w K 3 (.slice (some ⟨lb, 0, none⟩) N lc) L
  tried : OwnL encI w K 3 (.slice (some ⟨tb, 0, none⟩) N tc) T
  lens : F.length = Z.length ∧ L.length = N ∧ T.length = N
  ne : (p ≠ fb ∧ p ≠ lb ∧ p ≠ tb) ∧ fb ≠ lb ∧ fb ≠ tb ∧ lb ≠ tb
section
variable {w w2 : World} {K p eb sg N : Nat} {b : Bool} {ao : Option Addr} {cap : Nat} {Z : List ArcT} {sc fb fc : Nat} {F : List Int} {lb lc : Nat} {L : List Int} {tb tc : Nat} {T F' L' T' : List Int}
theorem ownI_kept {S : Nat → Prop} {B g n c : Nat} {M : List Int} (h : OwnL encI w B 3 (.slice (some ⟨g, 0, none⟩) n c) M) (hk : Kept S w w2) (hn : ¬ S g) : OwnL encI w2 B 3 (.slice (some ⟨g, 0, none⟩) n c) M :=
  ownL_kept h hk (fun i e q => by simp [Value.ownBlock] at e; rw [← e] at q; exact hn q)
theorem SolW.lt (h : SolW w K p eb sg N b ao cap Z sc fb fc F lb lc L tb tc T) : (K ≤ p ∧ p < w.heap.size) ∧ (K ≤ fb ∧ fb < w.heap.size) ∧ (K ≤ lb ∧ lb < w.heap.size) ∧ (K ≤ tb ∧ tb < w.heap.size) ∧ K ≤ w.heap.size :=
  ⟨⟨h.pK, lt_whole h.box⟩, own_lt2 h.flow rfl, own_lt2 h.levs rfl, own_lt2 h.tried rfl, h.ex.lt.2.2⟩
theorem SolW.kept {S : Nat → Prop} (h : SolW w K p eb sg N b ao cap Z sc fb fc F lb lc L tb tc T) (hk : Kept S w w2) (hS : ∀ i, S i → K ≤ i) (hp : ¬ S p)
    (hf : OwnL encI w2 K 3 (.slice (some ⟨fb, 0, none⟩) Z.length fc) F') (hl : OwnL encI w2 K 3 (.slice (some ⟨lb, 0, none⟩) N lc) L') (ht : OwnL encI w2 K 3 (.slice (some ⟨tb, 0, none⟩) N tc) T') (hlen : F'.length = Z.length ∧ L'.length = N ∧ T'.length = N) :
    SolW w2 K p eb sg N b ao cap Z sc fb fc F' lb lc L' tb tc T' := ⟨h.ex.kept hk hS, hk.old h.box hp, h.pK, hf, hl, ht, hlen, h.ne⟩
theorem SolW.next (h : SolW w K p eb sg N b ao cap Z sc fb fc F lb lc L tb tc T) (hb : Below w.heap.size w w2) : SolW w2 K p eb sg N b ao cap Z sc fb fc F lb lc L tb tc T :=
  h.kept (S := fun _ => False) (Kept.of_below hb) (fun i e => e.elim) (fun e => e) (h.flow.below hb) (h.levs.below hb) (h.tried.below hb) h.lens
theorem SolW.alloc (h : SolW w K p eb sg N b ao cap Z sc fb fc F lb lc L tb tc T) (o : Obj) : SolW (w.alloc o) K p eb sg N b ao cap Z sc fb fc F lb lc L tb tc T := h.next ((Below.refl _ _).alloc (Nat.le_refl _) o)
theorem SolW.drewN (h : SolW w K p eb sg N b ao cap Z sc fb fc F lb lc L tb tc T) (n : Nat) : SolW (w.drewN n) K p eb sg N b ao cap Z sc fb fc F lb lc L tb tc T := h.next (below_drewN (Below.refl _ _) n)
theorem SolW.drew (h : SolW w K p eb sg N b ao cap Z sc fb fc F lb lc L tb tc T) : SolW w.drew K p eb sg N b ao cap Z sc fb fc F lb lc L tb tc T := h.next (below_drew (Below.refl _ _))
theorem SolW.keptT {S : Nat → Prop} (h : SolW w K p eb sg N b ao cap Z sc fb fc F lb lc L tb tc T) (hk : Kept S w w2) (hS : ∀ i, i < w.heap.size → S i → i = tb) (ht : OwnL encI w2 K 3 (.slice (some ⟨tb, 0, none⟩) N tc) T') (hl : T'.length = N) : SolW w2 K p eb sg N b ao cap Z sc fb fc F lb lc L tb tc T' := by
  obtain ⟨⟨l1, l2⟩, ⟨l3, l4⟩, ⟨l5, l6⟩, ⟨l7, l8⟩, l9⟩ := h.lt
  obtain ⟨⟨n1, n2, n3⟩, n4, n5, n6⟩ := h.ne
  have hk2 : Kept (fun i => i = tb) w w2 := hk.mono hS
  exact h.kept hk2 (fun i e => by omega) n3 (ownI_kept h.flow hk2 n5) (ownI_kept h.levs hk2 n6) ht ⟨h.lens.1, h.lens.2.1, hl⟩
theorem SolW.keptF {S : Nat → Prop} (h : SolW w K p eb sg N b ao cap Z sc fb fc F lb lc L tb tc T) (hk : Kept S w w2) (hS : ∀ i, i < w.heap.size → S i → i = fb) (hf : OwnL encI w2 K 3 (.slice (some ⟨fb, 0, none⟩) Z.length fc) F') (hl : F'.length = Z.length) : SolW w2 K p eb sg N b ao cap Z sc fb fc F' lb lc L tb tc T := by
  obtain ⟨⟨l1, l2⟩, ⟨l3, l4⟩, ⟨l5, l6⟩, ⟨l7, l8⟩, l9⟩ := h.lt
  obtain ⟨⟨n1, n2, n3⟩, n4, n5, n6⟩ := h.ne
  have hk2 : Kept (fun i => i = fb) w w2 := hk.mono hS
  exact h.kept hk2 (fun i e => by omega) n1 hf (ownI_kept h.levs hk2 (Ne.symm n4)) (ownI_kept h.tried hk2 (Ne.symm n5)) ⟨hl, h.lens.2⟩
theorem SolW.keptL {S : Nat → Prop} (h : SolW w K p eb sg N b ao cap Z sc fb fc F lb lc L tb tc T) (hk : Kept S w w2) (hS : ∀ i, i < w.heap.size → S i → i = lb) (hv : OwnL encI w2 K 3 (.slice (some ⟨lb, 0, none⟩) N lc) L') (hl : L'.length = N) : SolW w2 K p eb sg N b ao cap Z sc fb fc F lb lc L' tb tc T := by
  obtain ⟨⟨l1, l2⟩, ⟨l3, l4⟩, ⟨l5, l6⟩, ⟨l7, l8⟩, l9⟩ := h.lt
  obtain ⟨⟨n1, n2, n3⟩, n4, n5, n6⟩ := h.ne
  have hk2 : Kept (fun i => i = lb) w w2 := hk.mono hS
  exact h.kept hk2 (fun i e => by omega) n2 (ownI_kept h.flow hk2 n4) hv (ownI_kept h.tried hk2 (Ne.symm n6)) ⟨h.lens.1, hl, h.lens.2.2⟩
theorem SolW.setT (h : SolW w K p eb sg N b ao cap Z sc fb fc F lb lc L tb tc T) (j : Nat) (y : Int) : SolW (w.setCell ⟨tb, j, none⟩ (.int .i64 y)) K p eb sg N b ao cap Z sc fb fc F lb lc L tb tc (T.set j y) :=
  h.keptT ((Kept.refl (fun i => i = tb) w).set (.inl rfl) _) (fun i _ e => e) (h.tried.put j y) (by rw [List.length_set]; exact h.lens.2.2)
theorem SolW.setF (h : SolW w K p eb sg N b ao cap Z sc fb fc F lb lc L tb tc T) (j : Nat) (y : Int) : SolW (w.setCell ⟨fb, j, none⟩ (.int .i64 y)) K p eb sg N b ao cap Z sc fb fc (F.set j y) lb lc L tb tc T :=
  h.keptF ((Kept.refl (fun i => i = fb) w).set (.inl rfl) _) (fun i _ e => e) (h.flow.put j y) (by rw [List.length_set]; exact h.lens.1)
theorem SolW.setL (h : SolW w K p eb sg N b ao cap Z sc fb fc F lb lc L tb tc T) (j : Nat) (y : Int) : SolW (w.setCell ⟨lb, j, none⟩ (.int .i64 y)) K p eb sg N b ao cap Z sc fb fc F lb lc (L.set j y) tb tc T :=
  h.keptL ((Kept.refl (fun i => i = lb) w).set (.inl rfl) _) (fun i _ e => e) (h.levs.put j y) (by rw [List.length_set]; exact h.lens.2.1)
theorem SolW.cells (h : SolW w K p eb sg N b ao cap Z sc fb fc F lb lc L tb tc T) : w.cell? ⟨p, 0, none⟩ = some (.pointer (some ⟨eb, 0, none⟩)) ∧ w.cell? ⟨p, 1, none⟩ = some (.slice (some ⟨fb, 0, none⟩) Z.length fc) ∧ w.cell? ⟨p, 2, none⟩ = some (.slice (some ⟨lb, 0, none⟩) N lc) ∧ w.cell? ⟨p, 3, none⟩ = some (.slice (some ⟨tb, 0, none⟩) N tc) := (p4Cells h.box).1
end
theorem SolW.off {w w2 : World} {K p eb sg N : Nat} {b : Bool} {ao : Option Addr} {cap : Nat} {Z : List ArcT} {sc fb fc : Nat} {F : List Int} {lb lc : Nat} {L : List Int} {tb tc : Nat} {T : List Int} {B : Nat} {S : Nat → Prop} (h : SolW w K p eb sg N b ao cap Z sc fb fc F lb lc L tb tc T) (hk : Kept S w w2) (hS : ∀ i, i < w.heap.size → S i → B ≤ i) (hB : (p < B ∧ fb < B) ∧ lb < B ∧ tb < B) : SolW w2 K p eb sg N b ao cap Z sc fb fc F lb lc L tb tc T := by
  obtain ⟨⟨l1, l2⟩, ⟨l3, l4⟩, ⟨l5, l6⟩, ⟨l7, l8⟩, l9⟩ := h.lt
  have hk2 : Kept (fun i => B ≤ i) w w2 := hk.mono hS
  exact h.kept hk2 (fun i e => by have e2 : B ≤ i := e; omega) (by show ¬ B ≤ p; omega) (ownI_kept h.flow hk2 (by show ¬ B ≤ fb; omega)) (ownI_kept h.levs hk2 (by show ¬ B ≤ lb; omega)) (ownI_kept h.tried hk2 (by show ¬ B ≤ tb; omega)) h.lens
theorem ownS_form {w : World} {B : Nat} {v : Value} {L : List StepT} (h : OwnS w B v L) (h0 : 0 < L.length) : ∃ g cap, v = .slice (some ⟨g, 0, none⟩) L.length cap ∧ B ≤ g ∧ g < w.heap.size ∧ L.length ≤ cap ∧ cap ≤ maxLen := by
  rcases h.2 with ⟨_, h1⟩ | ⟨g, cap, cur, e, h1, h2, h3, h4, _⟩
  · omega
  · exact ⟨g, cap, e, h1, lt_whole h2, h3, h4⟩
theorem flatS_lenF : ∀ M : List StepT, (M.flatMap encS).length = M.length * 2
  | [] => rfl
  | a :: r => by rw [List.flatMap_cons, List.length_append, flatS_lenF r, encS_len]; simp only [List.length_cons]; omega
theorem ownS_take {w : World} {B g n cap : Nat} {L M : List StepT} (h : OwnS w B (.slice (some ⟨g, 0, none⟩) n cap) (L ++ M)) : OwnS w B (.slice (some ⟨g, 0, none⟩) L.length cap) L := by
  refine ⟨flatS_lenF L, ?_⟩
  rcases h.2 with ⟨h0, _⟩ | ⟨g', cap', cur, e, h1, h2, h3, h4, h5, h6⟩
  · cases h0
  · injection e with e1 e2 e3
    injection e1 with e1
    have hg : g' = g := by injection e1 with q; exact q.symm
    subst hg
    subst e3
    rw [List.length_append] at h3 h6
    refine .inr ⟨g', cap, cur, rfl, h1, h2, by omega, h4, h5, ?_⟩
    have : cur.toList.take (L.length * 2) = (cur.toList.take ((L.length + M.length) * 2)).take (L.length * 2) := by rw [List.take_take]; congr 1; omega
    rw [this, h6, List.flatMap_append, List.take_append_of_le_length (by rw [flatS_lenF]; exact Nat.le_refl _), List.take_of_length_le (by rw [flatS_lenF]; exact Nat.le_refl _)]
theorem ownS_kept {S : Nat → Prop} {w w' : World} {B : Nat} {v : Value} {L : List StepT} (h : OwnS w B v L) (k : Kept S w w') (hn : ∀ g, v.ownBlock = some g → ¬ S g) : OwnS w' B v L := by
  refine ⟨h.1, ?_⟩
  rcases h.2 with h1 | ⟨g', cap', cur, e, h2, h3, h4⟩
  · exact .inl h1
  · exact .inr ⟨g', cap', cur, e, h2, k.old h3 (hn g' (by rw [e]; rfl)), h4⟩
theorem ownS_cell {w : World} {B g n cap : Nat} {L : List StepT} (h : OwnS w B (.slice (some ⟨g, 0, none⟩) n cap) L) {j : Nat} {x : StepT} (hj : L[j]? = some x) : w.cell? ⟨g, j * 2, none⟩ = some (.int .i64 x.1) ∧ w.cell? ⟨g, j * 2 + 1, none⟩ = some (.bool x.2) := by
  obtain ⟨b, o, e, _, h1, h2⟩ := step_at (own_rowK encS_len h) hj
  cases e
  rw [Nat.zero_add] at h1 h2
  exact ⟨h1, h2⟩
theorem cell_kept {S : Nat → Prop} {w w' : World} (hk : Kept S w w') {b o : Nat} {v : Value} (h : w.cell? ⟨b, o, none⟩ = some v) (hb : b < w.heap.size) (hn : ¬ S b) : w'.cell? ⟨b, o, none⟩ = some v := (cell_of_block (hk.block b hb hn)).trans h
section
variable {Z : List ArcT} {N : Nat}
theorem WideNet.arc (h : WideNet Z N) {i : Nat} (hi : i < Z.length) (q : Bool) : (begI Z[i] q = (fromS Z ((i : Int), q) : Int) ∧ endI Z[i] q = (toS Z ((i : Int), q) : Int)) ∧ fromS Z ((i : Int), q) < N ∧ toS Z ((i : Int), q) < N := by
  have ha : Z[i]? = some Z[i] := List.getElem?_eq_getElem hi
  have hl := h.lt _ (List.getElem_mem hi)
  refine ⟨begI_fromE ha (h.ends _ (List.getElem_mem hi)) q, ?_, ?_⟩
  · unfold fromS; rw [arcOf_nat q ha]; cases q <;> simp [hl]
  · unfold toS; rw [arcOf_nat q ha]; cases q <;> simp [hl]
theorem WideNet.left (h : WideNet Z N) {F : List Int} (hF : Flow Z F) {i : Nat} (hi : i < Z.length) (q : Bool) : (0 ≤ atI F i ∧ atI F i ≤ capN Z[i] ∧ capN Z[i] ≤ 4398046511104) ∧ leftS Z F ((i : Int), q) = (if q then atI F i else capN Z[i] - atI F i) := by
  have ha : Z[i]? = some Z[i] := List.getElem?_eq_getElem hi
  have h1 := hF.2 i _ ha
  have h2 := h.caps _ (List.getElem_mem hi)
  obtain ⟨l0, l1⟩ := left_at (F := F) ha
  exact ⟨⟨h1.1, h1.2, h2.2⟩, by cases q <;> simp [l0, l1]⟩
end
end Go.Proofs.Ytlkbohpnlbfopaa
namespace Go.Proofs.Ytlkbohpnlbfopaa
open Go.RowKit
set_option linter.unusedVariables false
structure QI (w : World) (B g o c : Nat) (Q : List Int) : Prop where
  lo : B ≤ g
  hi : g < w.heap.size
  le : Q.length ≤ c
  at' : ∀ j x, Q[j]? = some x → w.cell? ⟨g, o + j, none⟩ = some (encI x)
  free : ∀ j, j < c → (w.cell? ⟨g, o + j, none⟩).isSome = true ∧ w.frozen? ⟨g, o + j, none⟩ = false
section
variable {w w2 : World} {B g o c : Nat} {Q : List Int}
theorem QI.kept {S : Nat → Prop} (h : QI w B g o c Q) (hk : Kept S w w2) (hn : ¬ S g) : QI w2 B g o c Q := by
  have hb := hk.block g h.hi hn
  refine ⟨h.lo, Nat.lt_of_lt_of_le h.hi hk.size, h.le, fun j x hx => (cell_of_block hb).trans (h.at' j x hx), fun j hj => ?_⟩
  rw [cell_of_block hb, World.frozen?_of_block hb]
  exact h.free j hj
theorem QI.next (h : QI w B g o c Q) (hb : Below w.heap.size w w2) : QI w2 B g o c Q := h.kept (S := fun _ => False) (Kept.of_below hb) (fun e => e)
theorem QI.tail {x : Int} (h : QI w B g o c (x :: Q)) (hc : c ≠ 1) : QI w B g (o + 1) (c - 1) Q := by
  have hl := h.le
  rw [List.length_cons] at hl
  refine ⟨h.lo, h.hi, by omega, fun j y hy => ?_, fun j hj => ?_⟩
  · rw [show o + 1 + j = o + (j + 1) by omega]
    exact h.at' (j + 1) y (by simpa using hy)
  · rw [show o + 1 + j = o + (j + 1) by omega]
    exact h.free (j + 1) (by omega)
theorem QI.tail1 {x : Int} (h : QI w B g o 1 (x :: Q)) : Q = [] ∧ QI w B g o 0 Q := by
  have hl := h.le
  rw [List.length_cons] at hl
  have hQ : Q = [] := List.eq_nil_of_length_eq_zero (by omega)
  subst hQ
  exact ⟨rfl, h.lo, h.hi, Nat.le_refl _, fun j x hx => by simp at hx, fun j hj => by omega⟩
theorem QI.of_own {n cap : Nat} (h : OwnL encI w B 3 (.slice (some ⟨g, 0, none⟩) n cap) Q) : QI w B g 0 cap Q := by
  rcases h.2 with ⟨h0, _⟩ | ⟨g', cap', cur, e, hb, hg, h1, h2, h3, h4⟩
  · cases h0
  · injection e with e1 e2 e3
    injection e1 with e1
    have hg' : g' = g := by injection e1 with q; exact q.symm
    subst hg'
    subst e3
    refine ⟨hb, lt_whole hg, h1, fun j x hx => ?_, fun j hj => ?_⟩
    · rw [Nat.zero_add]; exact (OwnL.cell h hx).1
    · rw [Nat.zero_add]
      refine ⟨?_, frozen_whole hg j⟩
      rw [cell_whole hg, Array.getElem?_eq_getElem (by omega)]
      rfl
theorem wpList_append_qi {ops : Array Oper} {rest : List Oper} {op : Oper} {a : Act} {R : Exit → Act → World → Prop} (hgd : op.guard = none) (s y : Operand)
    (ho : op.op = .call { callee := .builtin .append, args := #[s, y], argTypes := #[65, 65] })
    (B g o c n : Nat) (Q : List Int) (x : Int) (hn : Q.length = n) (hs : a.eval s = .slice (some ⟨g, o, none⟩) n c) (hq : QI w B g o c Q)
    (gs c1 : Nat) (hx : a.eval y = .slice (some ⟨gs, 0, none⟩) 1 c1) (hc : w.cell? ⟨gs, 0, none⟩ = some (encI x)) (hroom : n ≤ 200000) (hB : B ≤ w.heap.size)
    (hK : ∀ g' o' c' w', QI w' B g' o' c' (Q ++ [x]) → Kept (fun i => i = g) w w' → wpList Try.prog ops R rest (a.put op.dst (.slice (some ⟨g', o', none⟩) (n + 1) c')) w') : wpList Try.prog ops R (op :: rest) a w := by
  subst hn
  obtain ⟨i0, hi, hz0, hz1, hz2⟩ := info_parts infoInt
  refine wpList_append_arg w hgd s y 65 ho 3 i0 _ 1 8 Try.underlying65 hi hz0 hz1 hz2 rfl (by omega) g o Q.length c (Q.map encI) hs (by simp) ?_ ⟨gs, 0, none⟩ 1 c1 [encI x] hx rfl ?_ ?_ ?_ (by unfold maxLen; omega) (by omega) ?_ ?_
  · intro j u hj
    rw [List.getElem?_map] at hj
    cases hq2 : Q[j]? with
    | none => rw [hq2] at hj; cases hj
    | some z => rw [hq2] at hj; cases hj; exact hq.at' j z hq2
  · intro j u hj
    rw [Addr.add_lit, Nat.zero_add]
    match j with
    | 0 => cases hj; exact hc
    | j + 1 => simp at hj
  · intro u hu
    rw [List.mem_singleton] at hu
    subst hu; rfl
  · intro hr j hj
    simp only [List.length_singleton] at hj
    rw [Nat.mul_one, Nat.add_assoc]
    exact hq.free (Q.length + j) (by omega)
  · intro hr
    rw [Nat.mul_one]
    have e1 : w.setCells g (o + Q.length) [encI x] = w.setCell ⟨g, o + Q.length, none⟩ (encI x) := rfl
    rw [e1]
    have hf := hq.free Q.length (by omega)
    obtain ⟨u, hu⟩ := Option.isSome_iff_exists.1 hf.1
    refine hK g o c _ ⟨hq.lo, by simpa [World.setCell] using hq.hi, by rw [List.length_append]; exact hr, fun j z hz => ?_, fun j hj => ?_⟩ ((Kept.refl (fun i => i = g) w).set (.inl rfl) _)
    · by_cases hj : j < Q.length
      · rw [List.getElem?_append_left hj] at hz
        rw [World.cell?_setCell_other _ _ _ _ (by intro e; injection e with _ e2 _; omega)]
        exact hq.at' j z hz
      · have hjl : j = Q.length := by have := (List.getElem?_eq_some_iff.1 hz).1; rw [List.length_append, List.length_singleton] at this; omega
        subst hjl
        simp at hz
        subst hz
        exact World.cell?_setCell_same _ _ _ hu
    · have hfj := hq.free j hj
      refine ⟨?_, by rw [World.frozen?_setCell]; exact hfj.2⟩
      by_cases e : j = Q.length
      · subst e
        rw [World.cell?_setCell_same _ _ _ hu]; rfl
      · rw [World.cell?_setCell_other _ _ _ _ (by intro e2; injection e2 with _ e3 _; omega)]
        exact hfj.1
  · intro hr v' w' hown hg
    have hown2 : OwnL encI w' w.heap.size 3 v' (Q ++ [x]) := by
      unfold OwnL
      rw [List.length_append, List.length_singleton, List.map_append]
      exact hown
    obtain ⟨g', cap', e, hb, hl⟩ := hown2.some (by simp)
    subst e
    rw [List.length_append, List.length_singleton] at hown2 ⊢
    exact hK g' 0 cap' w' (QI.of_own (hown2.mono hB)) (Kept.of_grown hg (fun k e => by cases e))
end
end Go.Proofs.Ytlkbohpnlbfopaa
namespace Go.Proofs.Ytlkbohpnlbfopaa
open Go.RowKit
set_option linter.unusedVariables false
section
variable (K eb sg N : Nat) (b : Bool) (ao : Option Addr) (cap : Nat) (Z : List ArcT) (sc : Nat)
set_option maxHeartbeats 1000000 in
theorem ffirst_at (w : World) (h : ExpW w K eb sg N b ao cap Z sc) (h2 : 2 ≤ N) (hN : N ≤ 100000) :
    Calls Try.prog 25 #[.pointer (some ⟨eb, 0, none⟩)] w fun e w' => e = .returned (.int .i64 ((N - 2 : Nat) : Int)) ∧ w = w' := by
  obtain ⟨k0, _, _, _⟩ := h.cells
  clear h
  have HE := Lib.hid (show ((N - 2 : Nat) : Int) = (N : Int) - 2 by omega)
  have q0 : IntKind.i64.wrap ((N : Int) - 2) = (N : Int) - 2 := IntWalk.i64_in _ (by omega)
  rw [HE.out]
  go_enter Try.func25, Try.ntmps25
  go_wp2
  go_ret
  exact ⟨rfl, rfl⟩
set_option maxHeartbeats 1000000 in
theorem flast_at (w : World) (h : ExpW w K eb sg N b ao cap Z sc) (h2 : 2 ≤ N) (hN : N ≤ 100000) :
    Calls Try.prog 49 #[.pointer (some ⟨eb, 0, none⟩)] w fun e w' => e = .returned (.int .i64 ((N - 1 : Nat) : Int)) ∧ w = w' := by
  obtain ⟨k0, _, _, _⟩ := h.cells
  clear h
  have HE := Lib.hid (show ((N - 1 : Nat) : Int) = (N : Int) - 1 by omega)
  have q0 : IntKind.i64.wrap ((N : Int) - 1) = (N : Int) - 1 := IntWalk.i64_in _ (by omega)
  rw [HE.out]
  go_enter Try.func49, Try.ntmps49
  go_wp2
  go_ret
  exact ⟨rfl, rfl⟩
structure BegW (w : World) (eb : Nat) (ao : Option Addr) (cap : Nat) (Z : List ArcT) : Prop where
  cell : w.cell? ⟨eb, 2, none⟩ = some (.slice ao Z.length cap)
  arcs : Row encA 4 w ao Z
theorem BegW.next {w w2 : World} {eb : Nat} {ao : Option Addr} {cap : Nat} {Z : List ArcT} (h : BegW w eb ao cap Z) (hb : Below w.heap.size w w2) : BegW w2 eb ao cap Z := ⟨cell_below hb h.cell, h.arcs.below' hb⟩
theorem ExpW.beg {w : World} {K eb sg N : Nat} {b : Bool} {ao : Option Addr} {cap : Nat} {Z : List ArcT} {sc : Nat} (h : ExpW w K eb sg N b ao cap Z sc) : BegW w eb ao cap Z := ⟨h.cells.2.2.1, h.arcs⟩
set_option maxHeartbeats 2000000 in
theorem fbegin_at (i : Nat) (q : Bool) (w : World) (h : BegW w eb ao cap Z) (hW : WideNet Z N) (hi : i < Z.length) :
    Calls Try.prog 33 #[.pointer (some ⟨eb, 0, none⟩), .agg #[.int .i64 (i : Int), .bool q]] w fun e w' => e = .returned (.int .i64 (fromS Z ((i : Int), q) : Int)) ∧ Below w.heap.size w w' := by
  obtain ⟨⟨hb, _⟩, _⟩ := hW.arc hi q
  have hzl := hW.len
  obtain ⟨ab, ax, rfl, hab, c0, c1, c2, c3⟩ := h.arcs.arc hi
  have k2 := cell_alloc h.cell (.cells #[.int .i64 (i : Int), .bool q] 93)
  have hli : (i : Int) < (Z.length : Int) := by omega
  rw [← hb]
  clear h c2 c3 hb hW
  generalize Z[i] = a at *
  obtain ⟨x, y, c, t⟩ := a
  simp only at c0 c1
  have e0 := cell_alloc c0 (.cells #[.int .i64 (i : Int), .bool q] 93)
  have e1 := cell_alloc c1 (.cells #[.int .i64 (i : Int), .bool q] 93)
  have HB := Lib.hid ((Below.refl _ w).alloc (Nat.le_refl _) (.cells #[.int .i64 (i : Int), .bool q] 93))
  clear c0 c1
  cases q
  · go_enter Try.func33, Try.ntmps33
    go_wp2
    go_quiet (fail)
    go_wp2
    go_ret
    exact ⟨rfl, below_drewN HB.out _⟩
  · go_enter Try.func33, Try.ntmps33
    go_wp2
    go_quiet (fail)
    go_wp2
    go_ret
    exact ⟨rfl, below_drewN HB.out _⟩
set_option maxHeartbeats 1000000 in
theorem fend_at (i : Nat) (q : Bool) (w : World) (h : BegW w eb ao cap Z) (hW : WideNet Z N) (hi : i < Z.length) :
    Calls Try.prog 47 #[.pointer (some ⟨eb, 0, none⟩), .agg #[.int .i64 (i : Int), .bool q]] w fun e w' => e = .returned (.int .i64 (toS Z ((i : Int), q) : Int)) ∧ Below w.heap.size w w' := by
  have HB := Lib.hid ((Below.refl _ w).alloc (Nat.le_refl _) (.cells #[.int .i64 (i : Int), .bool q] 93))
  have HR := Lib.hid (h.next ((Below.refl _ w).alloc (Nat.le_refl _) (.cells #[.int .i64 (i : Int), .bool q] 93)))
  have HW := Lib.hid hW
  have HT : Hid (toS Z ((i : Int), q) = fromS Z ((i : Int), !q)) := Lib.hid (by unfold toS fromS arcOf; cases q <;> simp)
  rw [HT.out]
  clear h hW HT
  cases q
  · go_enter Try.func47, Try.ntmps47
    go_wp2_with (go_at_call 33; refine (fbegin_at eb N ao cap Z i true _ HR.out HW.out hi).mono ?_; rintro e w1 ⟨rfl, hb1⟩; have HB1 := Lib.hid (HB.out.trans (hb1.mono HB.out.size)); clear hb1)
    go_ret
    exact ⟨rfl, HB1.out⟩
  · go_enter Try.func47, Try.ntmps47
    go_wp2_with (go_at_call 33; refine (fbegin_at eb N ao cap Z i false _ HR.out HW.out hi).mono ?_; rintro e w1 ⟨rfl, hb1⟩; have HB1 := Lib.hid (HB.out.trans (hb1.mono HB.out.size)); clear hb1)
    go_ret
    exact ⟨rfl, HB1.out⟩
theorem fend_is (i : Nat) (q : Bool) (u : Nat) (w : World) (h : BegW w eb ao cap Z) (hW : WideNet Z N) (hi : i < Z.length) (hu : toS Z ((i : Int), q) = u) :
    Calls Try.prog 47 #[.pointer (some ⟨eb, 0, none⟩), .agg #[.int .i64 (i : Int), .bool q]] w fun e w' => e = .returned (.int .i64 (u : Int)) ∧ Below w.heap.size w w' := by subst hu; exact fend_at eb N ao cap Z i q w h hW hi
theorem fbegin_is (i : Nat) (q : Bool) (u : Nat) (w : World) (h : BegW w eb ao cap Z) (hW : WideNet Z N) (hi : i < Z.length) (hu : fromS Z ((i : Int), q) = u) :
    Calls Try.prog 33 #[.pointer (some ⟨eb, 0, none⟩), .agg #[.int .i64 (i : Int), .bool q]] w fun e w' => e = .returned (.int .i64 (u : Int)) ∧ Below w.heap.size w w' := by subst hu; exact fbegin_at eb N ao cap Z i q w h hW hi
end
section
variable (K p eb sg N : Nat) (b : Bool) (ao : Option Addr) (cap : Nat) (Z : List ArcT) (sc fb fc : Nat) (F : List Int) (lb lc : Nat) (L : List Int) (tb tc : Nat) (T : List Int)
set_option maxRecDepth 100000 in
set_option maxHeartbeats 2000000 in
theorem froom_at (i : Nat) (q : Bool) (w : World) (h : SolW w K p eb sg N b ao cap Z sc fb fc F lb lc L tb tc T) (hW : WideNet Z N) (hF : Flow Z F) (hi : i < Z.length) :
    Calls Try.prog 48 #[.pointer (some ⟨p, 0, none⟩), .agg #[.int .i64 (i : Int), .bool q]] w fun e w' => e = .returned (.int .i64 (leftS Z F ((i : Int), q))) ∧ Below w.heap.size w w' := by
  obtain ⟨⟨b0, b1, b2⟩, hl⟩ := hW.left hF hi q
  have hzl := hW.len
  obtain ⟨k0, k1, _, _⟩ := h.cells
  obtain ⟨_, _, k2, _⟩ := h.ex.cells
  obtain ⟨ab, ax, rfl, hab, c0, c1, c2, c3⟩ := h.ex.arcs.arc hi
  obtain ⟨d0, _⟩ := h.flow.cell (atI_get (d := F) (v := i) (by rw [h.lens.1]; exact hi))
  have hli : (i : Int) < (Z.length : Int) := by omega
  rw [hl]
  clear h c0 c1 c3 hl hW hF
  unfold capN at b1 b2
  unfold capN
  generalize Z[i] = a at *
  obtain ⟨x0, y0, c, t0⟩ := a
  simp only at c2 b1 b2
  simp only
  unfold encI at d0
  have e0 := cell_alloc c2 (.cells #[.int .i64 (i : Int), .bool q] 93)
  have e1 := cell_alloc d0 (.cells #[.int .i64 (i : Int), .bool q] 93)
  have e2 := cell_alloc k2 (.cells #[.int .i64 (i : Int), .bool q] 93)
  have e3 := cell_alloc k0 (.cells #[.int .i64 (i : Int), .bool q] 93)
  have e4 := cell_alloc k1 (.cells #[.int .i64 (i : Int), .bool q] 93)
  have HB := Lib.hid ((Below.refl _ w).alloc (Nat.le_refl _) (.cells #[.int .i64 (i : Int), .bool q] 93))
  clear c2 d0 k2 k0 k1
  generalize atI F i = x at *
  cases q
  · have hw : IntKind.i64.wrap (c - x) = c - x := IntWalk.i64_in _ (by omega)
    simp only [Bool.false_eq_true, if_false]
    go_enter Try.func48, Try.ntmps48
    go_wp2
    go_quiet (fail)
    go_wp2
    go_ret
    exact ⟨rfl, below_drewN HB.out _⟩
  · simp only [if_true]
    go_enter Try.func48, Try.ntmps48
    go_wp2
    go_quiet (fail)
    go_wp2
    go_ret
    exact ⟨rfl, below_drewN HB.out _⟩
theorem froom_is (i : Nat) (q : Bool) (r : Int) (w : World) (h : SolW w K p eb sg N b ao cap Z sc fb fc F lb lc L tb tc T) (hW : WideNet Z N) (hF : Flow Z F) (hi : i < Z.length) (hr : leftS Z F ((i : Int), q) = r) :
    Calls Try.prog 48 #[.pointer (some ⟨p, 0, none⟩), .agg #[.int .i64 (i : Int), .bool q]] w fun e w' => e = .returned (.int .i64 r) ∧ Below w.heap.size w w' := by subst hr; exact froom_at K p eb sg N b ao cap Z sc fb fc F lb lc L tb tc T i q w h hW hF hi
end
end Go.Proofs.Ytlkbohpnlbfopaa
namespace Go.Proofs.Ytlkbohpnlbfopaa
open Go.RowKit
set_option linter.unusedVariables false
section
variable (K p eb sg N : Nat) (b : Bool) (ao : Option Addr) (cap : Nat) (Z : List ArcT) (sc fb fc : Nat) (F : List Int) (lb lc : Nat) (L : List Int) (tb tc : Nat) (T : List Int)
set_option maxRecDepth 100000 in
set_option maxHeartbeats 4000000 in
theorem ftip_at (po : Option Addr) (pc : Nat) (P : List StepT) (v : Nat) (w : World) (h : SolW w K p eb sg N b ao cap Z sc fb fc F lb lc L tb tc T) (hW : WideNet Z N) (h2 : 2 ≤ N) (hr : Row encS 2 w po P) (hw : Walk (fromS Z) (toS Z) (N - 2) P v) (ha : ∀ y ∈ P, isArc Z y) (hl : P.length ≤ 100000) :
    Calls Try.prog 61 #[.pointer (some ⟨p, 0, none⟩), .slice po P.length pc] w fun e w' => e = .returned (.int .i64 (v : Int)) ∧ Below w.heap.size w w' := by
  obtain ⟨k0, _, _, _⟩ := h.cells
  have HX := Lib.hid h.ex
  have HW := Lib.hid hW
  have hNl := hW.nodes
  clear h hW
  rcases List.eq_nil_or_concat P with hp | ⟨Q, y, hp⟩
  · subst hp
    obtain rfl : N - 2 = v := hw
    clear ha hr
    go_enter Try.func61, Try.ntmps61
    go_wp2_with (go_at_call 25; refine (ffirst_at K eb sg N b ao cap Z sc _ HX.out h2 hNl).mono ?_; rintro e w1 ⟨rfl, rfl⟩)
    go_ret
    exact ⟨rfl, Below.refl _ _⟩
  · obtain rfl : P = Q ++ [y] := by simpa using hp
    clear hp
    obtain ⟨m, _, _, hy⟩ := walk_app.1 hw
    have hya := ha y (by simp)
    obtain ⟨yi, q⟩ := y
    obtain ⟨i, rfl, hi⟩ := isArc_nat hya
    have HV : Hid (toS Z ((i : Int), q) = v) := Lib.hid hy
    obtain ⟨g, o, rfl, hg, y0, y1⟩ := step_at hr (i := Q.length) (x := ((i : Int), q)) (by simp)
    simp only at y0 y1
    have HBG := Lib.hid HX.out.beg
    rw [List.length_append, List.length_singleton] at hl ⊢
    have hne : (((Q.length + 1 : Nat) : Int) == 0) = false := by simp; omega
    have q0 : IntKind.i64.wrap (((Q.length + 1 : Nat) : Int) - 1) = (Q.length : Int) := by rw [IntKind.wrap_i64]; omega
    obtain ⟨qm, hqm⟩ : ∃ qm, Q.length + 1 = qm := ⟨_, rfl⟩
    have hQm : (Q.length : Int) < (qm : Int) := by omega
    have hQ0 : (0 : Int) ≤ (Q.length : Int) := by omega
    rw [hqm] at hne q0 ⊢
    clear hw ha hr hy hya hqm
    go_enter Try.func61, Try.ntmps61
    go_wp2_with fail
    go_region_held3 (fun W => W.cell? ⟨p, 0, none⟩ = some (.pointer (some ⟨eb, 0, none⟩)) ∧ W.cell? ⟨g, o + Q.length * 2, none⟩ = some (.int .i64 (i : Int)) ∧ W.cell? ⟨g, o + Q.length * 2 + 1, none⟩ = some (.bool q)) (first | exact ⟨k0, y0, y1⟩ | exact ⟨z0, z1, z2⟩ | go_keep)
      (first | (go_at_call 47; refine (fend_is eb N ao cap Z i q v w.drew (HBG.out.next (below_drew (Below.refl _ w))) HW.out hi HV.out).mono ?_; rintro e w9 ⟨rfl, b9⟩; have z0 := cell_below (w := w.drew) b9 k0; have z1 := cell_below (w := w.drew) b9 y0; have z2 := cell_below (w := w.drew) b9 y1; have HB9 := Lib.hid ((below_drew (Below.refl w.heap.size w)).trans b9); clear b9))
    all_goals
      go_wp2
      go_ret
      exact ⟨rfl, HB9.out⟩
set_option maxRecDepth 100000 in
set_option maxHeartbeats 4000000 in
theorem fchange_at (i : Nat) (q : Bool) (k : Int) (w : World) (h : SolW w K p eb sg N b ao cap Z sc fb fc F lb lc L tb tc T) (hW : WideNet Z N) (hF : Flow Z F) (hi : i < Z.length) (hk : 0 ≤ k) (hr : k ≤ leftS Z F ((i : Int), q)) :
    Calls Try.prog 63 #[.pointer (some ⟨p, 0, none⟩), .agg #[.int .i64 (i : Int), .bool q], .int .i64 k] w fun e w' => e = .returned (.tuple #[]) ∧ SolW w' K p eb sg N b ao cap Z sc fb fc (stepTo k F ((i : Int), q)) lb lc L tb tc T ∧ Kept (fun j => j = fb) w w' := by
  obtain ⟨⟨b0, b1, b2⟩, hl⟩ := hW.left hF hi q
  rw [hl] at hr
  have hzl := hW.len
  obtain ⟨d0, df⟩ := h.flow.cell (atI_get (d := F) (v := i) (by rw [h.lens.1]; exact hi))
  obtain ⟨_, k1, _, _⟩ := h.cells
  have hli : (i : Int) < (Z.length : Int) := by omega
  unfold encI at d0
  have HA := Lib.hid (h.alloc (.cells #[.int .i64 (i : Int), .bool q] 93))
  have e0 := cell_alloc d0 (.cells #[.int .i64 (i : Int), .bool q] 93)
  have e1 := cell_alloc k1 (.cells #[.int .i64 (i : Int), .bool q] 93)
  obtain ⟨_, ef⟩ := HA.out.flow.cell (atI_get (d := F) (v := i) (by rw [HA.out.lens.1]; exact hi))
  have hsz := h.lt.2.1.2
  have H0 := Lib.hid h
  have HST : Hid (∀ y, (if q then atI F i - k else atI F i + k) = y → stepTo k F ((i : Int), q) = F.set i y) := Lib.hid (fun y hy => by unfold stepTo; simp only [Int.toNat_natCast]; rw [← hy])
  generalize hx : atI F i = x at *
  clear h hW hF hl d0 df k1 hx
  cases q
  · have hw : IntKind.i64.wrap (x + k) = x + k := IntWalk.i64_in _ (by simp at hr; omega)
    rw [HST.out (x + k) (by simp)]
    go_enter Try.func63, Try.ntmps63
    go_wp2
    go_region
    all_goals
      go_wp2
      refine bodyPost_end (results_none rfl _ _ _) rfl ?_
      exact ⟨rfl, ((H0.out.setF i (x + k)).alloc _).drew, (((Kept.refl (fun j => j = fb) w).set (.inl rfl) _).alloc _).drew⟩
  · have hw : IntKind.i64.wrap (x - k) = x - k := IntWalk.i64_in _ (by simp at hr; omega)
    rw [HST.out (x - k) (by simp)]
    go_enter Try.func63, Try.ntmps63
    go_wp2
    go_region
    all_goals
      go_wp2
      refine bodyPost_end (results_none rfl _ _ _) rfl ?_
      exact ⟨rfl, ((H0.out.setF i (x - k)).alloc _).drew, (((Kept.refl (fun j => j = fb) w).set (.inl rfl) _).alloc _).drew⟩
end
end Go.Proofs.Ytlkbohpnlbfopaa
namespace Go.Proofs.Ytlkbohpnlbfopaa
open Go.RowKit
set_option linter.unusedVariables false
section
variable (K p eb sg N : Nat) (b : Bool) (ao : Option Addr) (cap : Nat) (Z : List ArcT) (sc fb fc : Nat) (F : List Int) (lb lc : Nat) (L : List Int) (tb tc : Nat) (T : List Int)
set_option maxRecDepth 100000 in
set_option maxHeartbeats 4000000 in
theorem ffill_at (B pg pc : Nat) (P : List StepT) (w : World) (h : SolW w K p eb sg N b ao cap Z sc fb fc F lb lc L tb tc T) (hW : WideNet Z N) (hP : OwnS w B (.slice (some ⟨pg, 0, none⟩) P.length pc) P) (hpf : pg ≠ fb) (hf : FillP Z F P (botK Z F P)) (hne : P ≠ []) (hl : P.length ≤ 100000) :
    Calls Try.prog 51 #[.pointer (some ⟨p, 0, none⟩), .slice (some ⟨pg, 0, none⟩) P.length pc] w fun e w' => ∃ m, e = .returned (.slice (some ⟨pg, 0, none⟩) m pc) ∧ RestP Z F P (botK Z F P) m ∧ SolW w' K p eb sg N b ao cap Z sc fb fc (pushedL (botK Z F P) F P) lb lc L tb tc T ∧ OwnS w' B (.slice (some ⟨pg, 0, none⟩) m pc) (P.take m) ∧ Kept (fun j => j = fb) w w' := by
  have H := Lib.hid h
  have HW := Lib.hid hW
  have HFP := Lib.hid hf
  have HPO := Lib.hid hP
  have HPA := Lib.hid hf.arcs
  have h0l : 0 < P.length := List.length_pos_iff.2 hne
  have hli0 : (0 : Int) < (P.length : Int) := by omega
  obtain ⟨g', c', e, hg1, hg2, hg3, hg4⟩ := ownS_form hP h0l
  injection e with e1 e2 e3
  injection e1 with e1
  injection e1 with e1 _ _
  subst e1
  subst e3
  have HPR := Lib.hid (own_rowK encS_len hP)
  have HPF := Lib.hid hpf
  obtain ⟨y0, r, hPe⟩ : ∃ y0 r, P = y0 :: r := by cases P with | nil => exact absurd rfl hne | cons a l => exact ⟨a, l, rfl⟩
  have HBT : Hid (botA Z F (leftS Z F y0) P = botK Z F P) := Lib.hid (by rw [hPe]; simp [botA, botK])
  obtain ⟨s0, s1⟩ := ownS_cell hP (j := 0) (x := y0) (by rw [hPe]; rfl)
  rw [Nat.zero_mul] at s0 s1
  have hy0 := hf.arcs y0 (by rw [hPe]; simp)
  have hlb0 : 0 ≤ leftS Z F y0 := by have h1 := hf.room y0 (by rw [hPe]; simp); have h2 := hf.pos; omega
  obtain ⟨i0, q0⟩ := y0
  obtain ⟨j0, rfl, hj0⟩ := isArc_nat hy0
  simp only at s0 s1
  obtain ⟨r0, hr0⟩ : ∃ r0, leftS Z F ((j0 : Int), q0) = r0 := ⟨_, rfl⟩
  have HR0 := Lib.hid hr0
  rw [hr0] at HBT
  clear h hW hP hf hPe hy0 hr0 hne hpf hlb0
  go_enter Try.func51, Try.ntmps51
  go_wp2_with (first
    | (go_at_call 48; refine (froom_is K p eb sg N b ao cap Z sc fb fc F lb lc L tb tc T j0 q0 r0 _ H.out HW.out HFP.out.flow hj0 HR0.out).mono ?_; rintro e w2 ⟨rfl, b2⟩; have HB2 := Lib.hid b2; clear b2))
  go_loopw [5, 17] (fun kv iv wr => ∃ j : Nat, j ≤ P.length ∧ iv = .int .i64 (j : Int) ∧ kv = .int .i64 (botA Z F r0 (P.take j)) ∧ Hid (Below w.heap.size w wr)) (fun _ iv _ => P.length - (intOf iv).toNat)
  case atStart => exact ⟨0, by omega, rfl, rfl, HB2⟩
  case round =>
    clear HB2 s0 s1
    obtain ⟨j, hj, rfl, rfl, HB⟩ := hrel
    by_cases hlt2 : j < P.length
    · have hli : (j : Int) < (P.length : Int) := by omega
      have HBK : Hid (min (botA Z F r0 (P.take j)) (leftS Z F P[j]) = botA Z F r0 (P.take (j + 1))) := Lib.hid (by rw [List.take_succ_eq_append_getElem hlt2, botA_snoc])
      obtain ⟨s2, s3⟩ := ownS_cell (HPO.out.below HB.out) (List.getElem?_eq_getElem hlt2)
      have hyj := HPA.out _ (List.getElem_mem hlt2)
      generalize P[j] = y at *
      obtain ⟨i2, q2⟩ := y
      obtain ⟨j2, rfl, hj2⟩ := isArc_nat hyj
      simp only at s2 s3
      obtain ⟨r2, hr2⟩ : ∃ r2, leftS Z F ((j2 : Int), q2) = r2 := ⟨_, rfl⟩
      have HR2 := Lib.hid hr2
      rw [hr2] at HBK
      obtain ⟨kb, hkb⟩ : ∃ kb, botA Z F r0 (P.take j) = kb := ⟨_, rfl⟩
      rw [hkb] at HBK ⊢
      clear hyj hr2 hkb
      have HWW := Lib.hid ((H.out.next HB.out).alloc (.cells #[.int .i64 (j2 : Int), .bool q2] 93))
      have HBA := Lib.hid (HB.out.alloc HB.out.size (.cells #[.int .i64 (j2 : Int), .bool q2] 93))
      go_wp2_with (first
        | (go_at_call 48; refine (froom_is K p eb sg N b ao cap Z sc fb fc F lb lc L tb tc T j2 q2 r2 _ HWW.out HW.out HFP.out.flow hj2 HR2.out).mono ?_; rintro e w6 ⟨rfl, b6⟩; have HB6 := Lib.hid (HBA.out.trans (b6.mono HBA.out.size)); clear b6))
      go_roundw
      case rel => exact ⟨j + 1, by omega, by go_num, by rw [← HBK.out], HB6⟩
      case measure => simp [intOf]; omega
    · have hli : ¬ (j : Int) < (P.length : Int) := by omega
      obtain rfl : j = P.length := by omega
      rw [List.take_length, HBT.out]
      obtain ⟨kb, hkb⟩ : ∃ kb, botK Z F P = kb := ⟨_, rfl⟩
      rw [hkb] at HFP ⊢
      have HKB := Lib.hid hkb
      have HS0 : Hid (SolW wr K p eb sg N b ao cap Z sc fb fc (backF kb F P P.length) lb lc L tb tc T) := Lib.hid (by rw [backF_end]; exact H.out.next HB.out)
      have HK0 : Hid (Kept (fun j => j = fb) w wr) := Lib.hid (Kept.of_below HB.out)
      have HPOS := Lib.hid HFP.out.pos
      clear HB hkb hli hj
      go_wp2_with fail
      go_loopw [8, 9] (fun rv iv wi => ∃ i m : Nat, iv = .int .i64 ((i : Int) - 1) ∧ rv = .slice (some ⟨pg, 0, none⟩) m pc ∧ i ≤ m ∧ m ≤ P.length ∧ Hid (∀ j (hj : j < P.length), i ≤ j → j < m → kb < leftS Z F P[j]) ∧ Hid (SolW wi K p eb sg N b ao cap Z sc fb fc (backF kb F P i) lb lc L tb tc T) ∧ Hid (Kept (fun j => j = fb) w wi)) (fun _ iv _ => (intOf iv + 1).toNat)
      case atStart => exact ⟨P.length, P.length, by go_num, rfl, Nat.le_refl _, Nat.le_refl _, Lib.hid (fun j hj h1 h2 => by omega), HS0, HK0⟩
      case round =>
        clear HS0 HK0
        obtain ⟨i, m, rfl, rfl, him, hml, HM, HS, HK⟩ := hrel
        by_cases hi0 : 0 < i
        · obtain ⟨i, rfl⟩ : ∃ i', i = i' + 1 := ⟨i - 1, by omega⟩
          rw [show ((i + 1 : Nat) : Int) - 1 = (i : Int) by omega]
          have hiP : i < P.length := by omega
          have hii : (i : Int) < (P.length : Int) := by omega
          have hi00 : (0 : Int) ≤ (i : Int) := by omega
          have hge : decide ((i : Int) ≥ 0) = true := by simp
          obtain ⟨f1, f2, f3, f4⟩ := HFP.out.at hiP
          have HBS : Hid (stepTo kb (backF kb F P (i + 1)) P[i] = backF kb F P i) := Lib.hid (backF_step hiP).symm
          have HRM := Lib.hid (HFP.out.room _ (List.getElem_mem hiP))
          obtain ⟨s2, s3⟩ := ownS_cell (ownS_kept HPO.out HK.out (fun g e q => by simp [Value.ownBlock] at e; have e2 : g = fb := q; exact HPF.out (by omega))) (List.getElem?_eq_getElem hiP)
          have hyj := HPA.out _ (List.getElem_mem hiP)
          have HLI : Hid (∀ j (hj : j < P.length), j = i → leftS Z F P[j] = leftS Z F P[i]) := Lib.hid (fun j hj e => by subst e; rfl)
          generalize P[i] = y at *
          obtain ⟨i2, q2⟩ := y
          obtain ⟨j2, rfl, hj2⟩ := isArc_nat hyj
          simp only at s2 s3
          obtain ⟨r2, hr2⟩ : ∃ r2, leftS Z (backF kb F P i) ((j2 : Int), q2) = r2 := ⟨_, rfl⟩
          have HR2 := Lib.hid hr2
          rw [hr2] at f4
          have HF1 := Lib.hid f1
          have HF2 := Lib.hid f2
          have HF3 := Lib.hid f3
          have HF4 := Lib.hid f4
          clear f1 f2 f3 f4 hr2 hyj
          have HM2 : Hid (r2 ≠ 0 → ∀ j (hj : j < P.length), i ≤ j → j < m → kb < leftS Z F P[j]) := Lib.hid (fun hr0 j hj h1 h2 => by
            by_cases e : j = i
            · rw [HLI.out j hj e]
              have h3 := HF4.out
              have h4 := HRM.out
              omega
            · exact HM.out j hj (by omega) h2)
          by_cases hr0 : r2 = 0
          · have hrb : (r2 == 0) = true := by simpa using hr0
            have hpc : ¬ pc = 0 := by omega
            go_wp2_with (first
              | (go_at_call 63; refine (fchange_at K p eb sg N b ao cap Z sc fb fc (backF kb F P (i + 1)) lb lc L tb tc T j2 q2 kb _ HS.out HW.out HF1.out hj2 HPOS.out (by rw [HF2.out]; exact HRM.out)).mono ?_; rintro e w6 ⟨rfl, hs6, hk6⟩; rw [HBS.out] at hs6; have HS6 := Lib.hid hs6; have HK6 := Lib.hid (HK.out.trans' hk6); obtain ⟨s2, s3⟩ := And.intro (cell_kept hk6 s2 (by have := hg2; have := HK.out.size; omega) HPF.out) (cell_kept hk6 s3 (by have := hg2; have := HK.out.size; omega) HPF.out); clear hs6 hk6)
              | (go_at_call 48; refine (froom_is K p eb sg N b ao cap Z sc fb fc (backF kb F P i) lb lc L tb tc T j2 q2 r2 _ HS6.out HW.out HF3.out hj2 HR2.out).mono ?_; rintro e w7 ⟨rfl, b7⟩; have HS7 := Lib.hid (HS6.out.next b7); have HK7 := Lib.hid (HK6.out.trans' (Kept.of_below b7)); clear b7))
            go_roundw
            case rel => exact ⟨i, i, by go_num, rfl, Nat.le_refl _, by omega, Lib.hid (fun j hj h1 h2 => by omega), HS7, HK7⟩
            case measure => simp [intOf]
          · have hrb : (r2 == 0) = false := by simpa using hr0
            have HM3 := Lib.hid (HM2.out hr0)
            go_wp2_with (first
              | (go_at_call 63; refine (fchange_at K p eb sg N b ao cap Z sc fb fc (backF kb F P (i + 1)) lb lc L tb tc T j2 q2 kb _ HS.out HW.out HF1.out hj2 HPOS.out (by rw [HF2.out]; exact HRM.out)).mono ?_; rintro e w6 ⟨rfl, hs6, hk6⟩; rw [HBS.out] at hs6; have HS6 := Lib.hid hs6; have HK6 := Lib.hid (HK.out.trans' hk6); obtain ⟨s2, s3⟩ := And.intro (cell_kept hk6 s2 (by have := hg2; have := HK.out.size; omega) HPF.out) (cell_kept hk6 s3 (by have := hg2; have := HK.out.size; omega) HPF.out); clear hs6 hk6)
              | (go_at_call 48; refine (froom_is K p eb sg N b ao cap Z sc fb fc (backF kb F P i) lb lc L tb tc T j2 q2 r2 _ HS6.out HW.out HF3.out hj2 HR2.out).mono ?_; rintro e w7 ⟨rfl, b7⟩; have HS7 := Lib.hid (HS6.out.next b7); have HK7 := Lib.hid (HK6.out.trans' (Kept.of_below b7)); clear b7))
            go_roundw
            case rel => exact ⟨i, m, by go_num, rfl, by omega, hml, HM3, HS7, HK7⟩
            case measure => simp [intOf]
        · obtain rfl : i = 0 := by omega
          have HALL : Hid (backF kb F P 0 = pushedL kb F P) := Lib.hid HFP.out.all
          rw [HALL.out] at HS
          rw [show ((0 : Nat) : Int) - 1 = -1 from rfl]
          go_wp2
          go_ret
          rw [HKB.out]
          refine ⟨m, rfl, ⟨hml, fun j hj h1 => HM.out j hj (Nat.zero_le _) h1⟩, HS.out, ?_, HK.out⟩
          have h1 := ownS_kept HPO.out HK.out (fun g e q => by simp [Value.ownBlock] at e; have e2 : g = fb := q; exact HPF.out (by omega))
          rw [← List.take_append_drop m P] at h1
          have h2 := ownS_take h1
          rwa [List.length_take, Nat.min_eq_left hml] at h2
end
end Go.Proofs.Ytlkbohpnlbfopaa
namespace Go.Proofs.Ytlkbohpnlbfopaa
open Go.RowKit
set_option linter.unusedVariables false
section
variable (K p eb sg N : Nat) (b : Bool) (ao : Option Addr) (cap : Nat) (Z : List ArcT) (sc fb fc : Nat) (F : List Int) (lb lc : Nat) (L : List Int) (tb tc : Nat) (T : List Int)
set_option maxRecDepth 100000 in
set_option maxHeartbeats 4000000 in
theorem fvalue_at (w : World) (h : SolW w K p eb sg N b ao cap Z sc fb fc F lb lc L tb tc T) (hW : WideNet Z N) (hF : Flow Z F) (h2 : 2 ≤ N) :
    Calls Try.prog 23 #[.pointer (some ⟨p, 0, none⟩)] w fun e w' => e = .returned (.int .i64 (sumF F (stepsU Z (N - 2)))) ∧ Below w.heap.size w w' := by
  have H := Lib.hid h
  have HW := Lib.hid hW
  have hNl := hW.nodes
  have hzl := hW.len
  obtain ⟨p0, p1, _, _⟩ := h.cells
  obtain ⟨e0, e1, e2, e3⟩ := h.ex.cells
  obtain ⟨ra, rc, hd, hrow, _⟩ := h.ex.steps (N - 2) (by omega)
  have hsl := stepsU_len Z (N - 2)
  have HBD := Lib.hid (sumF_bd hW hF)
  have HAR : Hid (∀ y ∈ stepsU Z (N - 2), isArc Z y) := Lib.hid (fun y hy => (stepsU_arc hy).1)
  have hfl := h.lens.1
  have hvi : ((N - 2 : Nat) : Int) < (N : Int) := by omega
  have hv0 : (0 : Int) ≤ ((N - 2 : Nat) : Int) := by omega
  have HR := Lib.hid hrow
  generalize stepsU Z (N - 2) = S at *
  obtain ⟨u, hu⟩ : ∃ u, N - 2 = u := ⟨_, rfl⟩
  have HU := Lib.hid hu
  rw [hu] at hd hvi hv0
  clear h hW hF hrow hu
  have hp := lt_whole H.out.box
  go_enter Try.func23, Try.ntmps23
  go_wp2_with fail
  go_region_held3 (fun W => W.cell? ⟨p, 0, none⟩ = some (.pointer (some ⟨eb, 0, none⟩)) ∧ W.cell? ⟨eb, 3, none⟩ = some (.slice (some ⟨sg, 0, none⟩) N sc) ∧ W.cell? ⟨sg, u, none⟩ = some (.slice ra S.length rc)) (first | exact ⟨p0, e3, hd⟩ | go_keep)
    (first | (go_at_call 25; refine (ffirst_at K eb sg N b ao cap Z sc w.drew H.out.drew.ex h2 hNl).mono ?_; rintro e w9 ⟨rfl, rfl⟩; rw [HU.out]))
  all_goals
    have HB0 := Lib.hid (below_drew (Below.refl w.heap.size w))
    have HD := Lib.hid H.out.drew
    have HRD := Lib.hid (HR.out.below' (below_drew (Below.refl w.heap.size w)))
    generalize w.drew = w1 at *
    clear p0 p1 e0 e1 e2 e3 hd HR
    go_wp2_with fail
    go_loopw [3, 21] (fun sv iv wr => ∃ j : Nat, j ≤ S.length ∧ iv = .int .i64 (j : Int) ∧ sv = .int .i64 (sumF F (S.take j)) ∧ Hid (Below w1.heap.size w1 wr)) (fun _ iv _ => S.length - (intOf iv).toNat)
    case atStart => exact ⟨0, Nat.zero_le _, rfl, rfl, Lib.hid (Below.refl _ _)⟩
    case round =>
      obtain ⟨j, hj, rfl, rfl, HB⟩ := hrel
      have hbt := HBD.out (S.take j) (fun y hy => HAR.out y (List.mem_of_mem_take hy))
      rw [List.length_take] at hbt
      by_cases hlt : j < S.length
      · have hli : (j : Int) < (S.length : Int) := by omega
        obtain ⟨rb, ro, e, hrb, s0, s1⟩ := step_at HRD.out (List.getElem?_eq_getElem hlt)
        subst e
        have HTK : Hid (sumF F (S.take (j + 1)) = sumF F (S.take j) + atI F S[j].1.toNat) := Lib.hid (by rw [List.take_succ_eq_append_getElem hlt, sumF_app]; simp [sumF])
        have hbt2 := HBD.out (S.take (j + 1)) (fun y hy => HAR.out y (List.mem_of_mem_take hy))
        rw [List.length_take, HTK.out] at hbt2
        have hya := HAR.out _ (List.getElem_mem hlt)
        generalize S[j] = y at *
        obtain ⟨yi, q⟩ := y
        obtain ⟨i, rfl, hi⟩ := isArc_nat hya
        simp only at s0 s1
        rw [show ((i : Int), q).1.toNat = i from Int.toNat_natCast i] at HTK hbt2
        have HWR := Lib.hid (HD.out.next HB.out)
        obtain ⟨_, p1, _, _⟩ := HWR.out.cells
        obtain ⟨d0, _⟩ := HWR.out.flow.cell (atI_get (d := F) (v := i) (by omega))
        unfold encI at d0
        have hii : (i : Int) < (Z.length : Int) := by omega
        have s0 := cell_below' HB.out s0 hrb
        have s1 := cell_below' HB.out s1 hrb
        have p1 := cell_alloc p1 (.cells #[.int .i64 (i : Int), .bool q] 93)
        have d0 := cell_alloc d0 (.cells #[.int .i64 (i : Int), .bool q] 93)
        have x0 := cell_new wr #[.int .i64 (i : Int), .bool q] 93 0
        have HBA := Lib.hid (HB.out.alloc HB.out.size (.cells #[.int .i64 (i : Int), .bool q] 93))
        generalize sumF F (S.take j) = sm at *
        generalize atI F i = x at *
        have hw : IntKind.i64.wrap (sm + x) = sm + x := IntWalk.i64_in _ (by omega)
        clear hya HWR
        go_wp2
        go_quiet (fail)
        go_wp2
        go_roundw
        case rel => exact ⟨j + 1, by omega, by go_num, by rw [HTK.out], Lib.hid (below_drewN HBA.out _)⟩
        case measure => simp [intOf]; omega
      · have hli : ¬ (j : Int) < (S.length : Int) := by omega
        obtain rfl : j = S.length := by omega
        rw [List.take_length]
        go_wp2
        go_ret
        exact ⟨rfl, HB0.out.trans (HB.out.mono HB0.out.size)⟩
end
end Go.Proofs.Ytlkbohpnlbfopaa
namespace Go.Proofs.Ytlkbohpnlbfopaa
open Go.RowKit
set_option linter.unusedVariables false
theorem infoStepsF : (Try.prog.info? 94).map (fun i => (i.zero, i.size, i.bytes)) = some (some (.slice none 0 0), 1, 24) := by kernel_rfl
theorem ownS_grownF {w w' : World} {base : Nat} {v : Value} {L : List StepT} {row : Option Nat} (h : OwnS w base v L) (hg : w.grownBy w' row) (hne : v.ownBlock = none ∨ v.ownBlock ≠ row) : OwnS w' base v L := by
  refine ⟨h.1, ?_⟩
  rcases h.2 with h1 | ⟨g', cap, cur, rfl, h2, h3, h4⟩
  · exact .inl h1
  · refine .inr ⟨g', cap, cur, rfl, h2, (hg.block g' (lt_whole h3) (fun e => ?_)).trans h3, h4⟩
    rcases hne with hn | hn
    · simp [Value.ownBlock] at hn
    · exact hn (by simp [Value.ownBlock, e])
structure IXF (B : Nat) (w : World) (g cap : Nat) (vs : List Value) (G : List (List StepT)) (own : Nat → Nat) : Prop where
  gr : OwnL encV w B 94 (.slice (some ⟨g, 0, none⟩) G.length cap) vs
  len : vs.length = G.length
  inn : ∀ i, i < G.length → OwnS w B (vs.getD i nilS) (G.getD i [])
  og : own g = 0
  oi : ∀ i b, i < G.length → (vs.getD i nilS).ownBlock = some b → own b = i + 1
section
variable {B : Nat} {w w' : World} {g cap : Nat} {vs : List Value} {G : List (List StepT)} {own : Nat → Nat}
theorem IXF.start {N : Nat} (h : OwnL encV w B 94 (.slice (some ⟨g, 0, none⟩) N cap) (List.replicate N nilS)) : IXF B w g cap (List.replicate N nilS) (List.replicate N []) (fun _ => 0) := by
  have e : ∀ i, (List.replicate N nilS).getD i nilS = nilS := by
    intro i; rw [List.getD_eq_getElem?_getD, List.getElem?_replicate]; split <;> rfl
  have e2 : ∀ i, (List.replicate N ([] : List StepT)).getD i [] = [] := by
    intro i; rw [List.getD_eq_getElem?_getD, List.getElem?_replicate]; split <;> rfl
  refine ⟨by rw [List.length_replicate]; exact h, by simp, ?_, rfl, ?_⟩
  · intro i hi; rw [e, e2]; exact OwnS.nil _ _
  · intro i b hi hb; rw [e] at hb; cases hb
theorem IXF.below (h : IXF B w g cap vs G own) (hb : Below w.heap.size w w') : IXF B w' g cap vs G own :=
  ⟨h.gr.below hb, h.len, fun i hi => (h.inn i hi).below hb, h.og, h.oi⟩
theorem IXF.lt (h : IXF B w g cap vs G own) : B ≤ g ∧ g < w.heap.size := own_lt2 h.gr rfl
theorem IXF.cell (h : IXF B w g cap vs G own) {j : Nat} (hj : j < G.length) : w.cell? ⟨g, j, none⟩ = some (vs.getD j nilS) ∧ w.frozen? ⟨g, j, none⟩ = false := by
  have hl := h.len
  have := h.gr.cell (j := j) (x := vs[j]'(by omega)) (List.getElem?_eq_getElem _)
  rw [getD_lt (by omega)]
  exact this
theorem IXF.reown (h : IXF B w g cap vs G own) (r : Nat) : IXF B w g cap vs G (ownSet own w.heap.size r) :=
  { h with
    og := ownSet_old h.og (by have := h.lt; omega)
    oi := fun i b hi e => ownSet_old (h.oi i b hi e) (by have := own_lt (h.inn i hi) e; omega) }
theorem IXF.add (h : IXF B w g cap vs G own) {j : Nat} (hj : j < G.length) {p n c : Nat} {t : StepT}
    (hk : OwnS w' B (.slice (some ⟨p, 0, none⟩) n c) (G.getD j [] ++ [t])) (hg : w.grownBy w' (vs.getD j nilS).ownBlock) (hl : (vs.getD j nilS).ownBlock = some p ∨ p = w.heap.size) :
    w'.cell? ⟨g, j, none⟩ = some (vs.getD j nilS) ∧ w'.frozen? ⟨g, j, none⟩ = false ∧ ∃ vs' own', IXF B (w'.setCell ⟨g, j, none⟩ (.slice (some ⟨p, 0, none⟩) n c)) g cap vs' (G.set j (G.getD j [] ++ [t])) own' ∧ ∀ i, i < w.heap.size → own' i = own i := by
  have hlen := h.len
  obtain ⟨hc, hf⟩ := h.cell hj
  have hlt := h.lt
  have hjo : ∀ own', IXF B w g cap vs G own' → ∀ i, (vs.getD j nilS).ownBlock = some i → own' i = j + 1 := fun own' h i e => h.oi j i hj e
  have hne : some g ≠ (vs.getD j nilS).ownBlock := by
    intro e
    have a := hjo _ h g e.symm
    have b := h.og
    omega
  have hcell : w'.cell? ⟨g, j, none⟩ = some (vs.getD j nilS) := hg.cell hc hne
  have hfro : w'.frozen? ⟨g, j, none⟩ = false := by
    rw [World.frozen?_of_block (hg.block g hlt.2 hne)]; exact hf
  have sg : w'.grownBy (w'.setCell ⟨g, j, none⟩ (.slice (some ⟨p, 0, none⟩) n c)) (some g) := ⟨rfl, rfl, rfl, by simp [World.setCell], fun i hi hne => Below.heap_setCell w' _ _ i (fun e => hne (by rw [e]))⟩
  refine ⟨hcell, hfro, ?_⟩
  have main : ∀ own', IXF B w g cap vs G own' → own' p = j + 1 → IXF B (w'.setCell ⟨g, j, none⟩ (.slice (some ⟨p, 0, none⟩) n c)) g cap (vs.set j (.slice (some ⟨p, 0, none⟩) n c)) (G.set j (G.getD j [] ++ [t])) own' := by
    intro own' h hp
    have o0 : ∀ i, some g = some i → own' i = 0 := fun i e => by cases e; exact h.og
    have hgr := h.gr.grown hg (ne_row (a := 0) (b := j + 1) (fun i e => by simp [Value.ownBlock] at e; subst e; exact h.og) (hjo _ h) (by omega))
    refine ⟨?_, by simp [hlen], ?_, h.og, ?_⟩
    · rw [List.length_set]
      exact hgr.put j (.slice (some ⟨p, 0, none⟩) n c)
    · intro i hi
      rw [List.length_set] at hi
      by_cases hij : i = j
      · subst hij
        have e1 : (G.set i (G.getD i [] ++ [t])).getD i [] = G.getD i [] ++ [t] := by rw [List.getD_eq_getElem?_getD, List.getElem?_set_self hj]; rfl
        have e2 : (vs.set i (.slice (some ⟨p, 0, none⟩) n c)).getD i nilS = .slice (some ⟨p, 0, none⟩) n c := by rw [List.getD_eq_getElem?_getD, List.getElem?_set_self (by omega)]; rfl
        rw [e1, e2]
        refine ownS_grownF hk sg (ne_row (a := i + 1) (fun i' e => ?_) o0 (by omega))
        simp [Value.ownBlock] at e
        subst e; exact hp
      · have e1 : (G.set j (G.getD j [] ++ [t])).getD i [] = G.getD i [] := by rw [List.getD_eq_getElem?_getD, List.getElem?_set_ne (fun e => hij e.symm), ← List.getD_eq_getElem?_getD]
        have e2 : (vs.set j (.slice (some ⟨p, 0, none⟩) n c)).getD i nilS = vs.getD i nilS := by rw [List.getD_eq_getElem?_getD, List.getElem?_set_ne (fun e => hij e.symm), ← List.getD_eq_getElem?_getD]
        rw [e1, e2]
        exact ownS_grownF (ownS_grownF (h.inn i hi) hg (ne_row (fun b e => h.oi i b hi e) (hjo _ h) (by omega))) sg (ne_row (fun b e => h.oi i b hi e) o0 (by omega))
    · intro i b hi e
      rw [List.length_set] at hi
      by_cases hij : i = j
      · subst hij
        have e2 : (vs.set i (.slice (some ⟨p, 0, none⟩) n c)).getD i nilS = .slice (some ⟨p, 0, none⟩) n c := by rw [List.getD_eq_getElem?_getD, List.getElem?_set_self (by omega)]; rfl
        rw [e2] at e
        simp [Value.ownBlock] at e
        subst e; exact hp
      · have e2 : (vs.set j (.slice (some ⟨p, 0, none⟩) n c)).getD i nilS = vs.getD i nilS := by rw [List.getD_eq_getElem?_getD, List.getElem?_set_ne (fun e => hij e.symm), ← List.getD_eq_getElem?_getD]
        rw [e2] at e
        exact h.oi i b hi e
  rcases hl with hl | rfl
  · exact ⟨_, own, main own h (h.oi j p hj hl), fun _ _ => rfl⟩
  · exact ⟨_, _, main _ (h.reown (j + 1)) (ownSet_new _ _ _), fun i hi => ownSet_old rfl (by omega)⟩
end
def rowsKE (Z : List ArcT) (N t : Nat) : List (List StepT) := (List.range N).map fun v => (pairsK Z v t).map stepP
theorem rowsKE_len (Z : List ArcT) (N t : Nat) : (rowsKE Z N t).length = N := by simp [rowsKE]
theorem rowsKE_zero (Z : List ArcT) (N : Nat) : rowsKE Z N 0 = List.replicate N [] := by
  unfold rowsKE
  apply List.ext_getElem
  · simp
  · intro i h1 h2; simp [pairsK]
theorem rowsKE_all (Z : List ArcT) (N : Nat) : rowsKE Z N Z.length = rowsU Z N := rfl
def addRE (G : List (List StepT)) (u : Nat) (y : StepT) : List (List StepT) := G.set u (G.getD u [] ++ [y])
theorem addRE_len (G : List (List StepT)) (u : Nat) (y : StepT) : (addRE G u y).length = G.length := by simp [addRE]
theorem addRE_at (G : List (List StepT)) (u v : Nat) (y : StepT) (hu : u < G.length) : (addRE G u y).getD v [] = if u = v then G.getD v [] ++ [y] else G.getD v [] := by
  unfold addRE
  by_cases e : u = v
  · subst e
    rw [if_pos rfl, List.getD_eq_getElem?_getD, List.getElem?_set_self hu]; rfl
  · rw [if_neg e, List.getD_eq_getElem?_getD, List.getElem?_set_ne e, ← List.getD_eq_getElem?_getD]
theorem rowsKE_at (Z : List ArcT) {N v : Nat} (t : Nat) (hv : v < N) : (rowsKE Z N t).getD v [] = (pairsK Z v t).map stepP := by
  rw [getD_lt (by rw [rowsKE_len]; exact hv)]; simp [rowsKE]
theorem ext_getDF {G H : List (List StepT)} (hl : G.length = H.length) (h : ∀ v, v < G.length → G.getD v [] = H.getD v []) : G = H := by
  apply List.ext_getElem hl
  intro i h1 h2
  have := h i h1
  rwa [getD_lt h1, getD_lt h2] at this
theorem rowsKE_step {Z : List ArcT} {N t : Nat} {a : ArcT} (ha : Z[t]? = some a) (h1 : frN a < N) (h2 : toN a < N) : addRE (addRE (rowsKE Z N t) (frN a) ((t : Int), false)) (toN a) ((t : Int), true) = rowsKE Z N (t + 1) := by
  apply ext_getDF
  · rw [addRE_len, addRE_len, rowsKE_len, rowsKE_len]
  · intro v hv
    rw [addRE_len, addRE_len, rowsKE_len] at hv
    rw [addRE_at _ _ _ _ (by rw [addRE_len, rowsKE_len]; exact h2), addRE_at _ _ _ _ (by rw [rowsKE_len]; exact h1), rowsKE_at Z t hv, rowsKE_at Z (t + 1) hv, pairsK_succ ha]
    unfold pairOf
    by_cases e1 : frN a = v <;> by_cases e2 : toN a = v <;> simp [e1, e2, stepP]
def rowsJE (Z : List ArcT) (N t : Nat) (a : ArcT) : Nat → List (List StepT)
  | 0 => rowsKE Z N t
  | 1 => addRE (rowsKE Z N t) (frN a) ((t : Int), false)
  | _ => addRE (addRE (rowsKE Z N t) (frN a) ((t : Int), false)) (toN a) ((t : Int), true)
theorem rowsJE_len (Z : List ArcT) (N t : Nat) (a : ArcT) : ∀ j, (rowsJE Z N t a j).length = N
  | 0 => rowsKE_len _ _ _
  | 1 => by show (addRE _ _ _).length = N; rw [addRE_len, rowsKE_len]
  | j + 2 => by show (addRE _ _ _).length = N; rw [addRE_len, addRE_len, rowsKE_len]
theorem rowsJE_step {Z : List ArcT} {N t : Nat} {a : ArcT} {j : Nat} (hj : j < 2) (h1 : frN a < N) (h2 : toN a < N) (hE : a.1 = (frN a : Int) ∧ a.2.1 = (toN a : Int)) :
    ∃ (q : Bool) (u : Nat), (#[Value.bool false, Value.bool true] : Array Value)[j]? = some (.bool q) ∧ begI a q = (u : Int) ∧ u < N ∧ rowsJE Z N t a (j + 1) = addRE (rowsJE Z N t a j) u ((t : Int), q) := by
  match j, hj with
  | 0, _ => exact ⟨false, frN a, rfl, hE.1, h1, rfl⟩
  | 1, _ => exact ⟨true, toN a, rfl, hE.2, h2, rfl⟩
theorem rowsJE_room {Z : List ArcT} {N t : Nat} {a : ArcT} {j : Nat} (ht : t ≤ Z.length) (u : Nat) : ((rowsJE Z N t a j).getD u []).length ≤ 2 * t + 2 := by
  have h0 : ((rowsKE Z N t).getD u []).length ≤ 2 * t := by
    by_cases hu : u < N
    · rw [rowsKE_at Z t hu, List.length_map]; exact pairsK_len Z u t
    · rw [List.getD_eq_getElem?_getD, List.getElem?_eq_none (by rw [rowsKE_len]; omega)]; simp
  have hs : ∀ (G : List (List StepT)) (v : Nat) (y : StepT) (m : Nat), (G.getD u []).length ≤ m → ((addRE G v y).getD u []).length ≤ m + 1 := by
    intro G v y m hG
    by_cases hv : v < G.length
    · rw [addRE_at _ _ _ _ hv]
      split
      · rw [List.length_append, List.length_singleton]; omega
      · omega
    · have : addRE G v y = G := by unfold addRE; rw [List.set_eq_of_length_le (by omega)]
      rw [this]; omega
  match j with
  | 0 => exact Nat.le_trans h0 (by omega)
  | 1 => exact Nat.le_trans (hs _ _ _ _ h0) (by omega)
  | j + 2 => exact hs _ _ _ _ (hs _ _ _ _ h0)
structure SE (B : Nat) (w0 wr : World) (eb xb bb N : Nat) (b : Bool) (ao : Option Addr) (cap : Nat) (Z : List ArcT) (i : Int) (q : Bool) (sg sc : Nat) (vs : List Value) (G : List (List StepT)) (own : Nat → Nat) : Prop where
  below : Below B w0 wr
  big : B ≤ wr.heap.size
  net : wr.heap[eb]? = some (.cells #[.int .i64 (N : Int), .bool b, .slice ao Z.length cap, .slice (some ⟨sg, 0, none⟩) N sc] 90 (0, 0))
  step : wr.heap[xb]? = some (.cells #[.int .i64 i, .bool q] 93 (0, 0))
  bools : wr.heap[bb]? = some (.cells #[.bool false, .bool true] 4 (0, 0))
  arcs : Row encA 4 wr ao Z
  arcsB : Und ao Z.length B
  ix : IXF B wr sg sc vs G own
  ne : sg ≠ eb ∧ sg ≠ xb ∧ sg ≠ bb
  own0 : own eb = 0 ∧ own xb = 0 ∧ own bb = 0
section
variable {B : Nat} {w0 wr w2 : World} {eb xb bb N : Nat} {b : Bool} {ao : Option Addr} {cap : Nat} {Z : List ArcT} {i : Int} {q : Bool} {sg sc : Nat} {vs : List Value} {G : List (List StepT)} {own : Nat → Nat}
theorem SE.next (h : SE B w0 wr eb xb bb N b ao cap Z i q sg sc vs G own) (hb : Below wr.heap.size wr w2) : SE B w0 w2 eb xb bb N b ao cap Z i q sg sc vs G own :=
  ⟨h.below.trans (hb.mono h.big), Nat.le_trans h.big hb.size, kept_box h.net hb, kept_box h.step hb, kept_box h.bools hb, h.arcs.below' hb, h.arcsB, h.ix.below hb, h.ne, h.own0⟩
def HeldSE (eb xb N : Nat) (ao : Option Addr) (zl cap sg sc : Nat) (i : Int) (q : Bool) (W : World) : Prop := W.cell? ⟨eb, 2, none⟩ = some (.slice ao zl cap) ∧ W.cell? ⟨eb, 3, none⟩ = some (.slice (some ⟨sg, 0, none⟩) N sc) ∧ W.cell? ⟨xb, 0, none⟩ = some (.int .i64 i) ∧ W.cell? ⟨xb, 1, none⟩ = some (.bool q)
theorem heldE_of (h1 : w2.heap[eb]? = some (.cells #[.int .i64 (N : Int), .bool b, .slice ao Z.length cap, .slice (some ⟨sg, 0, none⟩) N sc] 90 (0, 0))) (h2 : w2.heap[xb]? = some (.cells #[.int .i64 i, .bool q] 93 (0, 0))) : HeldSE eb xb N ao Z.length cap sg sc i q w2 :=
  ⟨cell_whole h1 2, cell_whole h1 3, cell_whole h2 0, cell_whole h2 1⟩
theorem SE.held (h : SE B w0 wr eb xb bb N b ao cap Z i q sg sc vs G own) : HeldSE eb xb N ao Z.length cap sg sc i q wr := heldE_of h.net h.step
theorem SE.beg (h : SE B w0 wr eb xb bb N b ao cap Z i q sg sc vs G own) : BegW wr eb ao cap Z := ⟨h.held.1, h.arcs⟩
theorem SE.add (h : SE B w0 wr eb xb bb N b ao cap Z i q sg sc vs G own) {u : Nat} (hu : u < G.length) {p n c : Nat} {y : StepT} (hk : OwnS w2 B (.slice (some ⟨p, 0, none⟩) n c) (G.getD u [] ++ [y])) (hg : wr.grownBy w2 (vs.getD u nilS).ownBlock) (hl : (vs.getD u nilS).ownBlock = some p ∨ p = wr.heap.size) :
    HeldSE eb xb N ao Z.length cap sg sc i q w2 ∧ w2.cell? ⟨sg, u, none⟩ = some (vs.getD u nilS) ∧ w2.frozen? ⟨sg, u, none⟩ = false ∧ HeldSE eb xb N ao Z.length cap sg sc i q (w2.setCell ⟨sg, u, none⟩ (.slice (some ⟨p, 0, none⟩) n c)) ∧
    Below B w0 (w2.setCell ⟨sg, u, none⟩ (.slice (some ⟨p, 0, none⟩) n c)) ∧ (w2.setCell ⟨sg, u, none⟩ (.slice (some ⟨p, 0, none⟩) n c)).heap[bb]? = some (.cells #[.bool false, .bool true] 4 (0, 0)) ∧
    (w2.setCell ⟨sg, u, none⟩ (.slice (some ⟨p, 0, none⟩) n c)).heap[eb]? = some (.cells #[.int .i64 (N : Int), .bool b, .slice ao Z.length cap, .slice (some ⟨sg, 0, none⟩) N sc] 90 (0, 0)) ∧
    ∃ vs' own', (own' bb = 0 ∧ own' eb = 0) ∧ IXF B (w2.setCell ⟨sg, u, none⟩ (.slice (some ⟨p, 0, none⟩) n c)) sg sc vs' (addRE G u y) own' := by
  obtain ⟨a1, a2, vs', own', a3, a4⟩ := h.ix.add hu hk hg hl
  have hown : ∀ g, (vs.getD u nilS).ownBlock = some g → B ≤ g ∧ own g = u + 1 := fun g e => ⟨own_block (h.ix.inn u hu) e, h.ix.oi u g hu e⟩
  have ne : ∀ g, g < wr.heap.size → own g = 0 → w2.heap[g]? = wr.heap[g]? := fun g hg2 h0 => hg.block g hg2 (fun e => by
    obtain ⟨e1, e2⟩ := hown g e.symm
    omega)
  have n1 := (ne eb (lt_whole h.net) h.own0.1).trans h.net
  have n2 := (ne xb (lt_whole h.step) h.own0.2.1).trans h.step
  have n3 := (ne bb (lt_whole h.bools) h.own0.2.2).trans h.bools
  have hsg := h.ix.lt
  have hne := h.ne
  have n4 := set_other n1 (fun e => hne.1 e.symm) u (.slice (some ⟨p, 0, none⟩) n c)
  have n5 := set_other n2 (fun e => hne.2.1 e.symm) u (.slice (some ⟨p, 0, none⟩) n c)
  refine ⟨heldE_of n1 n2, a1, a2, heldE_of n4 n5, below_set (below_grown h.below h.big hg (fun g e => (hown g e).1)) hsg.1 _, set_other n3 (fun e => hne.2.2 e.symm) _ _, n4, vs', own', ⟨?_, ?_⟩, a3⟩
  · rw [a4 bb (lt_whole h.bools)]
    exact h.own0.2.2
  · rw [a4 eb (lt_whole h.net)]
    exact h.own0.1
end
end Go.Proofs.Ytlkbohpnlbfopaa
