/- Lemmas of the layers below, several texts in one. -/
import Derived.Test.YtbkmfjegbmjknaaBS
import Derived.Test.YtbkmfjegbmjknaaCI
import Derived.Test.YtbkmfjegbmjknaaBQ
import Derived.Maps.OwnOps
import Derived.Deep.MidRow
import Derived.Test.YtbkmfjegbmjknaaCH
import Derived.BigQuiet
namespace Go.Proofs.Ytbkmfjegbmjknaa
set_option linter.unusedVariables false
def arcI (Z : List ArcT) (i : Int) : ArcT := Z.getD i.toNat (0, 0, 0, 0)
def okM (Z : List ArcT) (s t H : Int) (x : MoveT) : Bool := decide (0 ≤ x.1 ∧ x.1 < (Z.length : Int) ∧ 0 ≤ x.2.1 ∧ x.2.1 + (arcI Z x.1).2.2.2 ≤ H ∧ 0 ≤ x.2.2 ∧ x.2.2 ≤ (arcI Z x.1).2.2.1 ∧ (arcI Z x.1).2.1 ≠ s ∧ (arcI Z x.1).1 ≠ t)
def wgt (Z : List ArcT) (v u : Int) (p : Int × Int) : Int := (if (arcI Z p.2).2.1 = v ∧ p.1 + (arcI Z p.2).2.2.2 ≤ u then 1 else 0) - (if (arcI Z p.2).1 = v ∧ p.1 ≤ u then 1 else 0)
def stk (Z : List ArcT) (M : List MoveT) (v u : Int) : Int := (M.map fun x => x.2.2 * wgt Z v u (x.2.1, x.1)).sum
theorem sum_addL {α : Type} (f g : α → Int) : ∀ K : List α, (K.map fun p => f p + g p).sum = (K.map f).sum + (K.map g).sum
  | [] => rfl
  | x :: r => by simp only [List.map_cons, List.sum_cons, sum_addL f g r]; omega
theorem sum_zeroL {α : Type} {f : α → Int} : ∀ {K : List α}, (∀ x ∈ K, f x = 0) → (K.map f).sum = 0
  | [], _ => rfl
  | x :: r, h => by
    simp only [List.map_cons, List.sum_cons, sum_zeroL (f := f) (K := r) (fun y hy => h y (List.mem_cons_of_mem _ hy)), h x List.mem_cons_self]
    rfl
theorem nOf_cons (x : MoveT) (L : List MoveT) (p : Int × Int) : nOf (x :: L) p = (if (x.2.1, x.1) = p then x.2.2 else 0) + nOf L p := by
  unfold nOf
  by_cases h : (x.2.1, x.1) = p
  · rw [List.filter_cons_of_pos (by simpa using h), if_pos h]; rfl
  · rw [List.filter_cons_of_neg (by simpa using h), if_neg h]; omega
theorem nOf_snoc (L : List MoveT) (x : MoveT) (p : Int × Int) : nOf (L ++ [x]) p = nOf L p + if (x.2.1, x.1) = p then x.2.2 else 0 := by
  unfold nOf
  rw [List.filter_append, List.map_append, List.sum_append]
  congr 1
  by_cases h : (x.2.1, x.1) = p
  · rw [List.filter_cons_of_pos (by simpa using h), if_pos h]; simp
  · rw [List.filter_cons_of_neg (by simpa using h), if_neg h]; rfl
theorem pick_sum (h : Int × Int → Int) (q : Int × Int) (c : Int) : ∀ K : List (Int × Int), K.Nodup → (K.map fun p => (if q = p then c else 0) * h p).sum = if q ∈ K then c * h q else 0
  | [], _ => by simp
  | p :: K, hn => by
    rw [List.nodup_cons] at hn
    rw [List.map_cons, List.sum_cons, pick_sum h q c K hn.2]
    by_cases hq : q = p
    · subst hq
      rw [if_pos rfl, if_neg hn.1, if_pos List.mem_cons_self]; omega
    · rw [if_neg hq, Int.zero_mul, Int.zero_add]
      by_cases hk : q ∈ K
      · rw [if_pos hk, if_pos (List.mem_cons_of_mem _ hk)]
      · rw [if_neg hk, if_neg (fun hm => (List.mem_cons.1 hm).elim hq hk)]
theorem keyed_sum (h : Int × Int → Int) : ∀ (L : List MoveT) (K : List (Int × Int)), K.Nodup → (∀ x ∈ L, (x.2.1, x.1) ∈ K) → (K.map fun p => nOf L p * h p).sum = (L.map fun x => x.2.2 * h (x.2.1, x.1)).sum
  | [], K, _, _ => sum_zeroL (fun p _ => by show nOf [] p * h p = 0; rw [show nOf [] p = 0 from rfl, Int.zero_mul])
  | x :: L, K, hn, hk => by
    have e : (K.map fun p => nOf (x :: L) p * h p) = K.map fun p => (if (x.2.1, x.1) = p then x.2.2 else 0) * h p + nOf L p * h p := by
      apply List.map_congr_left
      intro p _
      rw [nOf_cons, Int.add_mul]
    rw [e, sum_addL, keyed_sum h L K hn (fun y hy => hk y (List.mem_cons_of_mem _ hy)), pick_sum h _ _ K hn, if_pos (hk x List.mem_cons_self)]
    rfl
theorem filt_sum {g : MoveT → Int} (h : ∀ x, notNil x = false → g x = 0) : ∀ A : List MoveT, ((A.filter notNil).map g).sum = (A.map g).sum
  | [] => rfl
  | x :: r => by
    cases hx : notNil x with
    | true => rw [List.filter_cons_of_pos hx, List.map_cons, List.map_cons, List.sum_cons, List.sum_cons, filt_sum h r]
    | false => rw [List.filter_cons_of_neg (by rw [hx]; simp), filt_sum h r, List.map_cons, List.sum_cons, h x hx]; omega
theorem merged_sum (h : Int × Int → Int) (L : List MoveT) : ((mvs L).map fun x => x.2.2 * h (x.2.1, x.1)).sum = (L.map fun x => x.2.2 * h (x.2.1, x.1)).sum := by
  unfold mvs
  rw [filt_sum (fun x hx => by
    have : x.2.2 = 0 := by simpa [notNil] using hx
    rw [this, Int.zero_mul]), List.map_map]
  rw [← keyed_sum h L (firsts (pairsOf L)) (nodup_firsts _) (fun x hx => mem_firsts.2 (List.mem_map.2 ⟨x, hx, rfl⟩))]
  congr 1
  apply List.map_congr_left
  intro p _
  show (mkMove L p).2.2 * h ((mkMove L p).2.1, (mkMove L p).1) = _
  unfold mkMove
  rw [nSum_eq]
theorem stk_merged (Z : List ArcT) (L : List MoveT) (v u : Int) : stk Z (mvs L) v u = stk Z L v u := merged_sum (wgt Z v u) L
theorem stk_perm (Z : List ArcT) {A B : List MoveT} (h : A.Perm B) (v u : Int) : stk Z A v u = stk Z B v u := sum_perm (h.map _)
theorem stk_of {Z : List ArcT} {L M : List MoveT} (h : M.Perm (mvs L)) (v u : Int) : stk Z M v u = stk Z L v u := (stk_perm Z h v u).trans (stk_merged Z L v u)
theorem stk_snoc (Z : List ArcT) (M : List MoveT) (x : MoveT) (v u : Int) : stk Z (M ++ [x]) v u = stk Z M v u + x.2.2 * wgt Z v u (x.2.1, x.1) := by unfold stk; rw [List.map_append, List.sum_append]; simp
theorem stk_cons (Z : List ArcT) (M : List MoveT) (x : MoveT) (v u : Int) : stk Z (x :: M) v u = x.2.2 * wgt Z v u (x.2.1, x.1) + stk Z M v u := by unfold stk; rw [List.map_cons, List.sum_cons]
theorem wgt_bd (Z : List ArcT) (v u : Int) (p : Int × Int) : wgt Z v u p = -1 ∨ wgt Z v u p = 0 ∨ wgt Z v u p = 1 := by
  unfold wgt
  split <;> split <;> simp
theorem stk_bd {Z : List ArcT} {c : Int} (v u : Int) : ∀ {M : List MoveT}, (∀ x ∈ M, 0 ≤ x.2.2 ∧ x.2.2 ≤ c) → -(c * M.length) ≤ stk Z M v u ∧ stk Z M v u ≤ c * M.length
  | [], _ => by simp [stk]
  | x :: M, h => by
    have h1 := stk_bd (Z := Z) (c := c) v u (M := M) (fun y hy => h y (List.mem_cons_of_mem _ hy))
    have h2 := h x List.mem_cons_self
    rw [stk_cons, List.length_cons, Int.natCast_add, Int.mul_add]
    rcases wgt_bd Z v u (x.2.1, x.1) with e | e | e <;> rw [e] <;> omega
def allInB (S : List Int) : Bool := S.all fitB
theorem allInB_iff {S : List Int} : allInB S = true ↔ AllIn S := by
  unfold allInB AllIn
  rw [List.all_eq_true]
  refine forall_congr' fun s => forall_congr' fun _ => ?_
  unfold fitB
  rw [decide_eq_true_eq]
  exact Iff.rfl
def mvE (n : Int) (Z : List ArcT) (s t H : Int) (L : List MoveT) : Int :=
  if askE n Z s t H = 0 then (if allInB (mvS L) = true then (if (mvs L).all (okM Z s t H) = true then 0 else 140) else 10) else askE n Z s t H
theorem mvE_ok {n : Int} {Z : List ArcT} {s t H : Int} {L : List MoveT} : mvE n Z s t H L = 0 ↔ askE n Z s t H = 0 ∧ AllIn (mvS L) ∧ ∀ x ∈ mvs L, okM Z s t H x = true := by
  unfold mvE
  split
  · next h1 =>
    split
    · next h2 =>
      split
      · next h3 => exact ⟨fun _ => ⟨h1, allInB_iff.1 h2, List.all_eq_true.1 h3⟩, fun _ => rfl⟩
      · next h3 => exact ⟨fun h => by simp at h, fun h => absurd (List.all_eq_true.2 h.2.2) h3⟩
    · next h2 => exact ⟨fun h => by simp at h, fun h => absurd (allInB_iff.2 h.2.1) h2⟩
  · next h1 => exact ⟨fun h => absurd h h1, fun h => absurd h.1 h1⟩
theorem mvE_ask {n : Int} {Z : List ArcT} {s t H : Int} {L : List MoveT} (h : askE n Z s t H ≠ 0) : mvE n Z s t H L = askE n Z s t H := by unfold mvE; rw [if_neg h]
theorem mvE_over {n : Int} {Z : List ArcT} {s t H : Int} {L : List MoveT} (h : askE n Z s t H = 0) (h2 : ¬ AllIn (mvS L)) : mvE n Z s t H L = 10 := by unfold mvE; rw [if_pos h, if_neg (fun e => h2 (allInB_iff.1 e))]
theorem mvE_move {n : Int} {Z : List ArcT} {s t H : Int} {L : List MoveT} (h : askE n Z s t H = 0) (h2 : AllIn (mvS L)) {x : MoveT} (hx : x ∈ mvs L) (h3 : okM Z s t H x = false) : mvE n Z s t H L = 140 := by
  unfold mvE
  rw [if_pos h, if_pos (allInB_iff.2 h2), if_neg]
  intro e
  have := List.all_eq_true.1 e x hx
  rw [h3] at this
  cases this
def stB (hold : Bool) (H u : Nat) (x : Int) : Bool := decide (0 ≤ x) && (decide (x = 0) || (hold && decide (u < H)))
theorem stB_is {hold : Bool} {H u : Nat} {x : Int} : stB hold H u x = true ↔ 0 ≤ x ∧ (x = 0 ∨ (hold = true ∧ u < H)) := by
  unfold stB
  rw [Bool.and_eq_true, Bool.or_eq_true, Bool.and_eq_true, decide_eq_true_eq, decide_eq_true_eq, decide_eq_true_eq]
def planG (S : Nat → Nat → Int) (K s t H : Nat) (hold : Bool) : Bool := (List.range (H + 1)).all fun u => (List.range K).all fun v => decide (v = s) || (decide (v = t) || stB hold H u (S u v))
theorem planG_is {S : Nat → Nat → Int} {K s t H : Nat} {hold : Bool} : planG S K s t H hold = true ↔ ∀ u, u ≤ H → ∀ v, v < K → v ≠ s → v ≠ t → 0 ≤ S u v ∧ (S u v = 0 ∨ (hold = true ∧ u < H)) := by
  unfold planG
  rw [List.all_eq_true]
  constructor
  · intro h u hu v hv hs ht
    have h1 := List.all_eq_true.1 (h u (List.mem_range.2 (by omega))) v (List.mem_range.2 hv)
    rw [Bool.or_eq_true, Bool.or_eq_true, decide_eq_true_eq, decide_eq_true_eq] at h1
    rcases h1 with h1 | h1 | h1
    · exact absurd h1 hs
    · exact absurd h1 ht
    · exact stB_is.1 h1
  · intro h u hu
    rw [List.all_eq_true]
    intro v hv
    rw [Bool.or_eq_true, Bool.or_eq_true, decide_eq_true_eq, decide_eq_true_eq]
    by_cases hs : v = s
    · exact .inl hs
    · by_cases ht : v = t
      · exact .inr (.inl ht)
      · exact .inr (.inr (stB_is.2 (h u (by have := List.mem_range.1 hu; omega) v (List.mem_range.1 hv) hs ht)))
def stkN (Z : List ArcT) (L : List MoveT) (u v : Nat) : Int := stk Z L (v : Int) (u : Int)
def planB (Z : List ArcT) (L : List MoveT) (N s t H : Nat) (hold : Bool) : Bool := planG (stkN Z L) N s t H hold
def plnE (n : Int) (Z : List ArcT) (s t H : Int) (hold : Bool) (L : List MoveT) : Int := if mvE n Z s t H L = 0 then (if planB Z L n.toNat s.toNat t.toNat H.toNat hold = true then 0 else 141) else mvE n Z s t H L
def plnV (n : Int) (Z : List ArcT) (s t H : Int) (hold : Bool) (L : List MoveT) : Int := if plnE n Z s t H hold L = 0 then stk Z L t H else 0
theorem smT_pick (g : Nat → Int) (u : Nat) : ∀ n, sumTo (fun v => if v = u then g v else 0) n = if u < n then g u else 0
  | 0 => by simp [sumTo]
  | n + 1 => by
    simp only [sumTo, smT_pick g u n]
    by_cases h1 : u < n
    · rw [if_pos h1, if_neg (by omega), if_pos (by omega)]; omega
    · by_cases h2 : n = u
      · subst h2; rw [if_neg h1, if_pos rfl, if_pos (by omega)]; omega
      · rw [if_neg h1, if_neg h2, if_neg (by omega)]; rfl
theorem smT_sub (g h : Nat → Int) : ∀ n, sumTo (fun v => g v - h v) n = sumTo g n - sumTo h n
  | 0 => rfl
  | n + 1 => by simp only [sumTo, smT_sub g h n]; omega
theorem smT_bd {g : Nat → Int} {c : Int} : ∀ {n : Nat}, (∀ v, v < n → -c ≤ g v ∧ g v ≤ c) → -(c * n) ≤ sumTo g n ∧ sumTo g n ≤ c * n
  | 0, _ => by simp [sumTo]
  | n + 1, h => by
    have h1 := smT_bd (g := g) (c := c) (n := n) (fun v hv => h v (by omega))
    have h2 := h n (by omega)
    rw [Int.natCast_add, Int.mul_add]
    simp only [sumTo]
    omega
end Go.Proofs.Ytbkmfjegbmjknaa
namespace Go.Proofs.Ytbkmfjegbmjknaa
open Go.RowKit Go.Maps
set_option linter.unusedVariables false
theorem lawEntry : Keyed Try.prog 167 := Keyed.of_law (deep_law_laid laidOut0 (m := 3) (by omega) (of_decide_eq_true (by kernel_rfl)) (by kernel_rfl) (by kernel_rfl))
theorem cellsEntry : Try.prog.cellsOf 167 = 2 := by kernel_rfl
theorem ktEntry : Try.prog.keyType 167 = true := by kernel_rfl
theorem keyOf_entry {a b : Int} (ha : in64 a) (hb : in64 b) : ∃ kl, keyOf Try.prog 167 (.agg #[.int .i64 a, .int .i64 b]) = some kl := by
  have wa := wf_of_in64 ha
  have wb := wf_of_in64 hb
  obtain ⟨m, hm⟩ := tySize
  refine ⟨.string (keyBytes [.int .i64 a, .int .i64 b]), ?_⟩
  unfold keyOf
  simp only [Try.underlying167]
  rw [if_pos (by simp [ktEntry, Value.formed, Try.underlying167, cellsEntry]), hm]
  unfold Program.keyLits
  simp only [Try.underlying167, Value.cells]
  rw [if_pos (by rw [cellsEntry]; exact ⟨rfl, by simp⟩)]
  simp [cellsInt, Program.keyLits, Try.underlying3, wa, wb]
def AmtIs (w : World) (b m : Nat) (f : Int × Int → Int) : Prop :=
  ∃ (n : Nat) (D : DataW Unit), n ≤ m ∧ w.ownsMap Try.prog 167 (plainElem Try.prog 3) b n D ∧
    ∀ (i u : Int) (kl : Lit), keyOf Try.prog 167 (.agg #[.int .i64 i, .int .i64 u]) = some kl → D.atKey kl (.lit (.int .i64 0)) = .lit (.int .i64 (f (u, i)))
section
variable {w w' : World} {b m : Nat} {f : Int × Int → Int}
theorem AmtIs.made (w : World) : AmtIs (w.alloc (.map #[] 0)) w.heap.size 0 (fun _ => 0) :=
  ⟨0, .map [], Nat.le_refl _, World.ownsMap_made _ _ _ _, fun i u kl h => atKey_of_not_has (D := .map []) (k := kl) rfl _⟩
theorem AmtIs.lt (h : AmtIs w b m f) : b < w.heap.size := by
  obtain ⟨n, D, hn, hm, hx⟩ := h
  exact hm.lt
theorem AmtIs.ne_cell (h : AmtIs w b m f) {g o : Nat} {v : Value} (hc : w.cell? ⟨g, o, none⟩ = some v) : g ≠ b := by
  rintro rfl
  obtain ⟨n, D, hn, ⟨es, clock, h1, h2⟩, hx⟩ := h
  unfold World.cell? at hc
  simp only [h1] at hc
  cases hc
theorem AmtIs.old (h : AmtIs w b m f) (he : w'.heap[b]? = w.heap[b]?) : AmtIs w' b m f := by
  obtain ⟨n, D, hn, ⟨es, clock, h1, h2⟩, hx⟩ := h
  exact ⟨n, D, hn, ⟨es, clock, he.trans h1, h2⟩, hx⟩
theorem AmtIs.below (h : AmtIs w b m f) (hb : Below w.heap.size w w') : AmtIs w' b m f := h.old (hb.block b h.lt)
theorem AmtIs.keptS {S : Nat → Prop} (h : AmtIs w b m f) (hk : Kept S w w') (hn : ¬ S b) : AmtIs w' b m f := h.old (hk.block b h.lt hn)
theorem AmtIs.mono {k : Nat} (h : AmtIs w b m f) (hk : m ≤ k) : AmtIs w b k f := by
  obtain ⟨n, D, hn, hm, hx⟩ := h
  exact ⟨n, D, Nat.le_trans hn hk, hm, hx⟩
theorem AmtIs.congr {g : Int × Int → Int} (h : AmtIs w b m f) (e : ∀ p, f p = g p) : AmtIs w b m g := by
  rw [show g = f from funext fun p => (e p).symm]; exact h
theorem wpList_look_amt {ops : Array Oper} {rest : List Oper} {o : Oper} {a : Act} {Q : Exit → Act → World → Prop} (hg : o.guard = none) (mo x : Operand) (hop : o.op = Op.lookup 132 mo x false)
    (h : AmtIs w b m f) (i u : Int) (hi : in64 i) (hu : in64 u) (hm : a.eval mo = .map (some b)) (hx : a.eval x = .agg #[.int .i64 i, .int .i64 u])
    (hK : wpList Try.prog ops Q rest (a.put o.dst (.int .i64 (f (u, i)))) w) : wpList Try.prog ops Q (o :: rest) a w := by
  obtain ⟨n, D, hn, hown, hD⟩ := h
  obtain ⟨kl, hkey⟩ := keyOf_entry hi hu
  refine wpList_lookup_own_int w hg mo x 132 hop 167 3 .i64 lawEntry Try.underlying132 Try.underlying3 (zeroInt w) b n D hm hown _ kl hx hkey ?_
  intro c hc _
  rw [hD i u kl hkey] at hc
  cases hc
  exact hK
theorem wpList_store_amt {ops : Array Oper} {rest : List Oper} {o : Oper} {a : Act} {Q : Exit → Act → World → Prop} (hg : o.guard = none) (mo x v : Operand) (hop : o.op = Op.mapUpdate 132 mo x v)
    (h : AmtIs w b m f) (hl : m < 200000) (i u c : Int) (hi : in64 i) (hu : in64 u) (hc : in64 c) (hm : a.eval mo = .map (some b)) (hx : a.eval x = .agg #[.int .i64 i, .int .i64 u]) (hv : a.eval v = .int .i64 c)
    (hK : ∀ w', AmtIs w' b (m + 1) (fun p => if p = (u, i) then c else f p) → w.grownBy w' (some b) → wpList Try.prog ops Q rest (a.put o.dst undef) w') : wpList Try.prog ops Q (o :: rest) a w := by
  obtain ⟨n, D, hn, hown, hD⟩ := h
  obtain ⟨kl, hkey⟩ := keyOf_entry hi hu
  refine wpList_mapUpdate_own w hg mo x v 132 hop 167 3 lawEntry Try.underlying132 _ b n D hm hown (by unfold maxLen; omega) _ _ kl hx hv hkey _ [] (plainElem_int Try.underlying3 (wf_of_in64 hc)) ?_
  intro w' h1 h2
  refine hK w' ⟨n + 1, _, by omega, h1, ?_⟩ h2
  intro j s yl hy
  have hM := hown.isMap
  by_cases hyz : (s, j) = (u, i)
  · cases hyz
    rw [hkey] at hy
    cases hy
    show _ = DataW.lit (.int .i64 (if (u, i) = (u, i) then c else f (u, i)))
    rw [if_pos rfl]
    exact atKey_put_same hM (lawEntry.key hkey) _ _
  · have hne : yl ≠ kl := by
      rintro rfl
      have e := lawEntry.inj hy hkey
      simp at e
      exact hyz (by rw [e.1, e.2])
    show _ = DataW.lit (.int .i64 (if (s, j) = (u, i) then c else f (s, j)))
    rw [atKey_put_other hne, if_neg hyz]
    exact hD j s yl hy
end
end Go.Proofs.Ytbkmfjegbmjknaa
namespace Go.Proofs.Ytbkmfjegbmjknaa
open Go.RowKit
set_option linter.unusedVariables false
def gridL (n : Nat) (G : Nat → Nat → Int) : List Value := (List.range (n * 50)).map fun j => .int .i64 (G (j / 50) (j % 50))
def gridA (n : Nat) (G : Nat → Nat → Int) : Array Value := (gridL n G).toArray
theorem gridL_at (n : Nat) (G : Nat → Nat → Int) (j : Nat) : (gridL n G)[j]? = if j < n * 50 then some (.int .i64 (G (j / 50) (j % 50))) else none := by
  unfold gridL
  rw [List.getElem?_map]
  by_cases h : j < n * 50
  · rw [List.getElem?_range h, if_pos h]; rfl
  · rw [List.getElem?_eq_none (by simp; omega), if_neg h]; rfl
theorem gridA_get (n : Nat) (G : Nat → Nat → Int) (j : Nat) : (gridA n G)[j]? = if j < n * 50 then some (.int .i64 (G (j / 50) (j % 50))) else none := by
  unfold gridA
  rw [List.getElem?_toArray, gridL_at]
theorem gridA_at (n : Nat) (G : Nat → Nat → Int) {a v : Nat} (ha : a < n) (hv : v < 50) : (gridA n G)[a * 50 + v]? = some (.int .i64 (G a v)) := by
  have h1 : a * 50 + v < n * 50 := by omega
  have h2 : (a * 50 + v) / 50 = a := by omega
  have h3 : (a * 50 + v) % 50 = v := by omega
  unfold gridA
  rw [List.getElem?_toArray, gridL_at, if_pos h1, h2, h3]
def updG (G : Nat → Nat → Int) (a v : Nat) (x : Int) : Nat → Nat → Int := fun b u => if b = a ∧ u = v then x else G b u
theorem gridA_set (n : Nat) (G : Nat → Nat → Int) {a v : Nat} (hv : v < 50) (x : Int) : (gridA n G).setIfInBounds (a * 50 + v) (.int .i64 x) = gridA n (updG G a v x) := by
  apply Array.ext_getElem?
  intro j
  rw [Array.getElem?_setIfInBounds]
  unfold gridA
  rw [List.getElem?_toArray, List.getElem?_toArray, gridL_at, gridL_at]
  unfold updG
  by_cases h : a * 50 + v = j
  · subst h
    have h2 : (a * 50 + v) / 50 = a := by omega
    have h3 : (a * 50 + v) % 50 = v := by omega
    rw [if_pos rfl, h2, h3]
    by_cases h4 : a * 50 + v < n * 50
    · rw [if_pos (by simpa [gridL] using h4), if_pos h4, if_pos ⟨rfl, rfl⟩]
    · rw [if_neg (by simpa [gridL] using h4), if_neg h4]
  · rw [if_neg h, if_neg (c := j / 50 = a ∧ j % 50 = v) (by omega)]
theorem gridA_congr {n : Nat} {G G' : Nat → Nat → Int} (h : ∀ a v, a < n → v < 50 → G a v = G' a v) : gridA n G = gridA n G' := by
  unfold gridA gridL
  congr 1
  apply List.map_congr_left
  intro j hj
  have := List.mem_range.1 hj
  rw [h (j / 50) (j % 50) (by omega) (by omega)]
theorem infoCounts : (Try.prog.info? 140).map (fun i => (i.zero, i.size, i.bytes)) = some (some (.agg (Array.replicate 50 (.int .i64 0))), 50, 400) := by kernel_rfl
theorem sizeCounts : (Try.prog.info? 140).map (·.size) = some 50 := by kernel_rfl
def GridW (w : World) (g n : Nat) (G : Nat → Nat → Int) : Prop := w.heap[g]? = some (.cells (gridA n G) 140 (0, 0))
section
variable {w w' : World} {g n : Nat} {G : Nat → Nat → Int}
theorem GridW.lt (h : GridW w g n G) : g < w.heap.size := lt_whole h
theorem GridW.below (h : GridW w g n G) (hb : Below w.heap.size w w') : GridW w' g n G := (hb.block g h.lt).trans h
theorem GridW.kept {S : Nat → Prop} (h : GridW w g n G) (hk : Kept S w w') (hn : ¬ S g) : GridW w' g n G := hk.old h hn
theorem GridW.cell (h : GridW w g n G) {a v : Nat} (ha : a < n) (hv : v < 50) : w.cell? ⟨g, a * 50 + v, none⟩ = some (.int .i64 (G a v)) ∧ w.frozen? ⟨g, a * 50 + v, none⟩ = false :=
  ⟨(cell_whole h _).trans (gridA_at n G ha hv), frozen_whole h _⟩
theorem GridW.put (h : GridW w g n G) (a : Nat) {v : Nat} (hv : v < 50) (x : Int) : GridW (w.setCell ⟨g, a * 50 + v, none⟩ (.int .i64 x)) g n (updG G a v x) := by
  unfold GridW at *
  rw [set_whole h, gridA_set n G hv]
theorem GridW.congr {G' : Nat → Nat → Int} (h : GridW w g n G) (e : ∀ a v, a < n → v < 50 → G a v = G' a v) : GridW w g n G' := by
  unfold GridW at *
  rw [h, gridA_congr e]
def cellsG (G : Nat → Nat → Int) (a : Nat) : List Value := (List.range 50).map fun v => .int .i64 (G a v)
theorem cellsG_len (G : Nat → Nat → Int) (a : Nat) : (cellsG G a).length = 50 := by simp [cellsG]
theorem cellsG_at (G : Nat → Nat → Int) (a : Nat) {v : Nat} (hv : v < 50) : (cellsG G a)[v]? = some (.int .i64 (G a v)) := by
  unfold cellsG
  rw [List.getElem?_map, List.getElem?_range hv]; rfl
theorem cellsG_get (G : Nat → Nat → Int) (a : Nat) {v : Nat} (hv : v < 50) : (cellsG G a).toArray[v]? = some (.int .i64 (G a v)) := by rw [List.getElem?_toArray]; exact cellsG_at G a hv
theorem GridW.range (h : GridW w g n G) {a : Nat} (ha : a < n) : w.rangeAt g (a * 50) (cellsG G a) := by
  intro j v hv
  have hj : j < 50 := by
    have := (List.getElem?_eq_some_iff.1 hv).1
    rwa [cellsG_len] at this
  rw [cellsG_at G a hj] at hv
  cases hv
  exact (h.cell ha hj).1
end
theorem made_grid (n : Nat) : madeCells (Value.agg (Array.replicate 50 (.int .i64 0))).cells (n * 50) = gridA n (fun _ _ => 0) := by
  apply Array.ext_getElem?
  intro j
  rw [gridA_get]
  show ((Array.range (n * 50)).map (fun i => (Array.replicate 50 (Value.int .i64 0))[i % (Array.replicate 50 (Value.int .i64 0)).size]!))[j]? = _
  rw [Array.getElem?_map]
  by_cases h : j < n * 50
  · rw [Array.getElem?_range, if_pos h, if_pos h]
    simp only [Option.map_some, Array.size_replicate]
    have h2 : j % 50 < 50 := Nat.mod_lt _ (by decide)
    rw [getElem!_pos _ _ (by rw [Array.size_replicate]; exact h2), Array.getElem_replicate]
  · rw [Array.getElem?_range, if_neg h, if_neg h]; rfl
theorem wpList_make_grid {w : World} {ops : Array Oper} {rest : List Oper} {o : Oper} {a : Act} {Q : Exit → Act → World → Prop} (hgd : o.guard = none) (l c : Operand) (hop : o.op = Op.makeSlice 137 l c)
    (n : Nat) (L : Int) (hl : a.eval l = .int .i64 L) (hc : a.eval c = .int .i64 L) (hL : L = (n : Int)) (hn : n ≤ 200000)
    (hK : ∀ w', GridW w' w.heap.size n (fun _ _ => 0) → Below w.heap.size w w' → wpList Try.prog ops Q rest (a.put o.dst (.slice (some ⟨w.heap.size, 0, none⟩) n n)) w') : wpList Try.prog ops Q (o :: rest) a w := by
  obtain ⟨i0, hi, hz0, hz1, hz2⟩ := info_parts infoCounts
  subst hL
  refine wpList_plain hgd fun K hK' => ?_
  have hrun := run_make (P := Try.prog) w 137 140 i0 _ Try.underlying137 hi hz0 .i64 .i64 (n : Int) (n : Int) (by omega) (by omega) (by rw [hz2]; omega) (by omega)
  rw [hz1, Int.toNat_natCast, made_grid] at hrun
  unfold Oper.wp
  simp [execOp, hop, hl, hc, hrun, Result.andThen]
  exact hK' _ _ (hK _ (heap_alloc_new w _) ((Below.refl _ w).alloc (Nat.le_refl _) _))
theorem run_index_counts (A : Array Value) (k : Nat) (y : Int) (hk : k < 50) (hA : A[k]? = some (.int .i64 y)) (w : World) : (Instr.index 140 (.agg A) (.int .i64 (k : Int))).run Try.prog w = .ok (.int .i64 y) w := by
  have h1 : (0 : Int) ≤ (k : Int) ∧ (k : Int) < ((50 : Nat) : Int) := by omega
  have hl : k < A.size := (Array.getElem?_eq_some_iff.1 hA).1
  have hs : k + 1 ≤ A.size := hl
  simp [Instr.index, run_underlying Try.underlying140, asIntOf, go_sem, part, hA]
  intro h
  omega
end Go.Proofs.Ytbkmfjegbmjknaa
namespace Go.Proofs.Ytbkmfjegbmjknaa
open Go.RowKit
set_option linter.unusedVariables false
theorem okM_no {Z : List ArcT} {s t H : Int} {x : MoveT} (h : ¬ (0 ≤ x.1 ∧ x.1 < (Z.length : Int) ∧ 0 ≤ x.2.1 ∧ x.2.1 + (arcI Z x.1).2.2.2 ≤ H ∧ 0 ≤ x.2.2 ∧ x.2.2 ≤ (arcI Z x.1).2.2.1 ∧ (arcI Z x.1).2.1 ≠ s ∧ (arcI Z x.1).1 ≠ t)) : okM Z s t H x = false := by
  unfold okM
  rw [decide_eq_false_iff_not]; exact h
theorem okM_yes {Z : List ArcT} {s t H : Int} {x : MoveT} : okM Z s t H x = true ↔ 0 ≤ x.1 ∧ x.1 < (Z.length : Int) ∧ 0 ≤ x.2.1 ∧ x.2.1 + (arcI Z x.1).2.2.2 ≤ H ∧ 0 ≤ x.2.2 ∧ x.2.2 ≤ (arcI Z x.1).2.2.1 ∧ (arcI Z x.1).2.1 ≠ s ∧ (arcI Z x.1).1 ≠ t := by
  unfold okM
  rw [decide_eq_true_eq]
theorem arcI_at {Z : List ArcT} {p : Nat} (h : p < Z.length) : arcI Z (p : Int) = Z[p] := by
  unfold arcI
  rw [Int.toNat_natCast, List.getD_eq_getElem?_getD, List.getElem?_eq_getElem h]; rfl
def crsV (n : Int) (b : Bool) (ao : Option Addr) (nl cap : Nat) (s t H : Int) (bm : Nat) : Value := .agg #[.int .i64 n, .bool b, .slice ao nl cap, .int .i64 s, .int .i64 t, .int .i64 H, .map (some bm)]
section
variable (n : Int) (b : Bool) (ao : Option Addr) (nl cap : Nat) (Z : List ArcT) (s t H : Int) (bm : Nat)
set_option maxRecDepth 100000 in
set_option maxHeartbeats 4000000 in
theorem nallows_any (i u k : Int) (w : World) (h : Row encA 4 w ao Z) (hl : Z.length = nl) (hnl : nl ≤ 200) (hH : 0 ≤ H ∧ H ≤ 1024) (hZ : ∀ a ∈ Z, 0 ≤ a.2.2.2 ∧ a.2.2.2 ≤ 1048576) :
    Calls Try.prog 100 #[crsV n b ao nl cap s t H bm, .agg #[.int .i64 i, .int .i64 u, .int .i64 k]] w fun e w' => e = .returned (.bool (okM Z s t H (i, u, k))) ∧ Below w.heap.size w w' := by
  unfold crsV
  have hb00 := ((Below.refl _ w).alloc (Nat.le_refl _) (.cells #[.int .i64 n, .bool b, .slice ao nl cap, .int .i64 s, .int .i64 t, .int .i64 H, .map (some bm)] 134)).alloc (by simp) (.cells #[.int .i64 i, .int .i64 u, .int .i64 k] 94)
  have hx00 := alloc_whole (heap_alloc_new w (.cells #[.int .i64 n, .bool b, .slice ao nl cap, .int .i64 s, .int .i64 t, .int .i64 H, .map (some bm)] 134)) (.cells #[.int .i64 i, .int .i64 u, .int .i64 k] 94)
  have hm00 := new_whole1 w (.cells #[.int .i64 n, .bool b, .slice ao nl cap, .int .i64 s, .int .i64 t, .int .i64 H, .map (some bm)] 134) (.cells #[.int .i64 i, .int .i64 u, .int .i64 k] 94)
  have HB := Lib.hid hb00
  have HR := Lib.hid (h.below' hb00)
  have c1 := cell_whole hx00 1
  have c2 := cell_whole hx00 2
  have c0 := cell_whole hx00 0
  have c3 := cell_whole hx00 3
  have c4 := cell_whole hx00 4
  have c5 := cell_whole hx00 5
  have m0 := cell_whole hm00 0
  have m1 := cell_whole hm00 1
  have m2 := cell_whole hm00 2
  have HZ := Lib.hid hZ
  have HLN := Lib.hid hl
  obtain ⟨hH0, hH1⟩ := hH
  clear h hb00 hx00 hm00 hZ
  have hok : okM Z s t H (i, u, k) = false ∨ (0 ≤ i ∧ i < (nl : Int)) := by
    by_cases h0 : 0 ≤ i ∧ i < (nl : Int)
    · exact .inr h0
    · exact .inl (okM_no (fun e => h0 ⟨e.1, by rw [← hl]; exact e.2.1⟩))
  by_cases hi0 : i < 0
  · have HO : Hid (okM Z s t H (i, u, k) = false) := Lib.hid (hok.resolve_right (fun e => by omega))
    rw [HO.out]
    clear hok hl
    go_enter Try.func100, Try.ntmps100
    go_wp2
    go_ret
    exact ⟨rfl, HB.out⟩
  · by_cases hi1 : (nl : Int) ≤ i
    · have HO : Hid (okM Z s t H (i, u, k) = false) := Lib.hid (hok.resolve_right (fun e => by omega))
      rw [HO.out]
      clear hok hl
      go_enter Try.func100, Try.ntmps100
      go_wp2
      go_ret
      exact ⟨rfl, HB.out⟩
    · obtain ⟨p, rfl⟩ : ∃ p : Nat, i = (p : Int) := ⟨i.toNat, by omega⟩
      have hp : p < Z.length := by omega
      have hpi : (p : Int) < (nl : Int) := by omega
      obtain ⟨ab, ax, e, hab, d0, d1, d2, d3⟩ := arc_at HR.out (List.getElem?_eq_getElem hp)
      cases e
      obtain ⟨z1, z2⟩ := HZ.out _ (List.getElem_mem hp)
      have HOK : Hid (okM Z s t H ((p : Int), u, k) = decide (0 ≤ u ∧ u ≤ H - Z[p].2.2.2 ∧ 0 ≤ k ∧ k ≤ Z[p].2.2.1 ∧ Z[p].2.1 ≠ s ∧ Z[p].1 ≠ t)) := Lib.hid (by
        unfold okM
        rw [decide_eq_decide]
        show (0 ≤ (p : Int) ∧ (p : Int) < (Z.length : Int) ∧ 0 ≤ u ∧ u + (arcI Z (p : Int)).2.2.2 ≤ H ∧ 0 ≤ k ∧ k ≤ (arcI Z (p : Int)).2.2.1 ∧ (arcI Z (p : Int)).2.1 ≠ s ∧ (arcI Z (p : Int)).1 ≠ t) ↔ _
        rw [arcI_at hp]
        constructor
        · rintro ⟨_, _, h3, h4, h5, h6, h7, h8⟩; exact ⟨h3, by omega, h5, h6, h7, h8⟩
        · rintro ⟨h3, h4, h5, h6, h7, h8⟩; exact ⟨by omega, by omega, h3, by omega, h5, h6, h7, h8⟩)
      obtain ⟨q, hq⟩ : ∃ q, okM Z s t H ((p : Int), u, k) = q := ⟨_, rfl⟩
      rw [hq]
      generalize Z[p] = a at *
      obtain ⟨x, y, c, tt⟩ := a
      have HQ : Hid (q = decide (0 ≤ u ∧ u ≤ H - tt ∧ 0 ≤ k ∧ k ≤ c ∧ y ≠ s ∧ x ≠ t)) := Lib.hid (hq ▸ HOK.out)
      simp only at d0 d1 d2 d3 z1 z2 ⊢
      have hw : IntKind.i64.wrap (H - tt) = H - tt := IntWalk.i64_in _ (by omega)
      clear HOK hok hl hp hq
      go_enter Try.func100, Try.ntmps100
      go_wp2
      all_goals
        go_ret
        refine ⟨ret_bool ?_, HB.out.alloc (by simp; omega) _⟩
        rw [HQ.out]
        first
          | (have h9 := ‹(y == s) = true ∨ (x == t) = true›; simp only [beq_iff_eq] at h9; rw [eq_comm, decide_eq_false_iff_not]; omega)
          | (rw [eq_comm, decide_eq_false_iff_not]; omega)
          | (have h9 := ‹(y == s) = false ∧ (x == t) = false›; simp only [beq_eq_false_iff_ne] at h9; rw [decide_eq_decide]; omega)
end
end Go.Proofs.Ytbkmfjegbmjknaa
namespace Go.Proofs.Ytbkmfjegbmjknaa
open Go.RowKit
set_option linter.unusedVariables false
def tmJ (Z : List ArcT) (j : Nat) : Nat := (arcI Z j).2.2.2.toNat
def toJ (Z : List ArcT) (j : Nat) : Nat := (arcI Z j).2.1.toNat
def frJ (Z : List ArcT) (j : Nat) : Nat := (arcI Z j).1.toNat
def cntT (Z : List ArcT) (H j : Nat) : Nat := H + 1 - tmJ Z j
def chgF (Z : List ArcT) (f : Int × Int → Int) (j b a v : Nat) : Int := (if a = b + tmJ Z j ∧ v = toJ Z j then f ((b : Int), (j : Int)) else 0) - (if a = b ∧ v = frJ Z j then f ((b : Int), (j : Int)) else 0)
def chgK (Z : List ArcT) (f : Int × Int → Int) (H i k a v : Nat) : Int := sumTo (fun j => sumTo (fun b => chgF Z f j b a v) (cntT Z H j)) i + sumTo (fun b => chgF Z f i b a v) k
section
variable {Z : List ArcT} {f : Int × Int → Int} {H : Nat}
theorem chgK_zero (a v : Nat) : chgK Z f H 0 0 a v = 0 := rfl
theorem chgK_step (i k a v : Nat) : chgK Z f H i (k + 1) a v = chgK Z f H i k a v + chgF Z f i k a v := by
  unfold chgK
  simp only [sumTo]
  omega
theorem chgK_next (i a v : Nat) : chgK Z f H i (cntT Z H i) a v = chgK Z f H (i + 1) 0 a v := by
  unfold chgK
  simp only [sumTo]
  omega
theorem chgF_bd (hf : ∀ p, 0 ≤ f p ∧ f p ≤ 1048576) (j b a v : Nat) : -1048576 ≤ chgF Z f j b a v ∧ chgF Z f j b a v ≤ 1048576 := by
  have h := hf ((b : Int), (j : Int))
  unfold chgF
  split <;> split <;> omega
theorem cntT_le (j : Nat) : cntT Z H j ≤ H + 1 := by unfold cntT; omega
theorem chgK_bd (hf : ∀ p, 0 ≤ f p ∧ f p ≤ 1048576) {i k : Nat} (a v : Nat) (hi : i ≤ 200) (hk : k ≤ 1025) (hH : H ≤ 1024) : -216032870400 ≤ chgK Z f H i k a v ∧ chgK Z f H i k a v ≤ 216032870400 := by
  have h1 : ∀ j m, m ≤ 1025 → -1074790400 ≤ sumTo (fun b => chgF Z f j b a v) m ∧ sumTo (fun b => chgF Z f j b a v) m ≤ 1074790400 := fun j m hm => by
    have := smT_bd (g := fun b => chgF Z f j b a v) (c := 1048576) (n := m) (fun b _ => chgF_bd hf j b a v)
    omega
  have h2 := smT_bd (g := fun j => sumTo (fun b => chgF Z f j b a v) (cntT Z H j)) (c := 1074790400) (n := i) (fun j _ => h1 j _ (by have := cntT_le (Z := Z) (H := H) j; omega))
  have h3 := h1 i k hk
  unfold chgK
  omega
theorem updG_at (G : Nat → Nat → Int) (a v : Nat) (x : Int) (b u : Nat) : updG G a v x b u = if b = a ∧ u = v then x else G b u := rfl
theorem chgK_upd (i k : Nat) {y x1 x2 : Int} (hy : f ((k : Int), (i : Int)) = y) (h1 : x1 = chgK Z f H i k k (frJ Z i) - y)
    (h2 : x2 = updG (chgK Z f H i k) k (frJ Z i) x1 (k + tmJ Z i) (toJ Z i) + y) (a v : Nat) :
    updG (updG (chgK Z f H i k) k (frJ Z i) x1) (k + tmJ Z i) (toJ Z i) x2 a v = chgK Z f H i (k + 1) a v := by
  rw [chgK_step]
  unfold chgF
  rw [hy, updG_at, updG_at, h2, updG_at]
  generalize hG : chgK Z f H i k = G at *
  subst h1
  by_cases c1 : a = k + tmJ Z i ∧ v = toJ Z i
  · rw [if_pos c1, if_pos c1]
    by_cases c2 : k + tmJ Z i = k ∧ toJ Z i = frJ Z i
    · have c3 : a = k ∧ v = frJ Z i := ⟨by omega, by omega⟩
      rw [if_pos c2, if_pos c3, c3.1, c3.2]; omega
    · have c3 : ¬ (a = k ∧ v = frJ Z i) := fun c => c2 ⟨by omega, by omega⟩
      rw [if_neg c2, if_neg c3, ← c1.1, ← c1.2]; omega
  · rw [if_neg c1, if_neg c1]
    by_cases c3 : a = k ∧ v = frJ Z i
    · rw [if_pos c3, if_pos c3, c3.1, c3.2]; omega
    · rw [if_neg c3, if_neg c3]; omega
end
section
variable (n : Int) (b : Bool) (ao : Option Addr) (nl cap : Nat) (Z : List ArcT) (s t : Int) (bm : Nat)
set_option maxRecDepth 100000 in
set_option maxHeartbeats 8000000 in
theorem nchanges_any (N H m : Nat) (f : Int × Int → Int) (w : World) (h : Row encA 4 w ao Z) (hl : Z.length = nl) (hW : SpanNet Z N) (hH : H ≤ 1024) (hA : AmtIs w bm m f) (hf : ∀ p, 0 ≤ f p ∧ f p ≤ 1048576) :
    Calls Try.prog 101 #[crsV n b ao nl cap s t (H : Int) bm] w fun e w' => ∃ g, e = .returned (.slice (some ⟨g, 0, none⟩) (H + 1) (H + 1)) ∧ w.heap.size ≤ g ∧ GridW w' g (H + 1) (chgK Z f H nl 0) ∧ Below w.heap.size w w' := by
  unfold crsV
  have hnl : nl ≤ 200 := by rw [← hl]; exact hW.len
  have hb00 := ((Below.refl _ w).alloc (Nat.le_refl _) (.cells #[.int .i64 n, .bool b, .slice ao nl cap, .int .i64 s, .int .i64 t, .int .i64 (H : Int), .map (some bm)] 134))
  have hx00 := heap_alloc_new w (.cells #[.int .i64 n, .bool b, .slice ao nl cap, .int .i64 s, .int .i64 t, .int .i64 (H : Int), .map (some bm)] 134)
  have HB := Lib.hid hb00
  have HR0 := Lib.hid h
  have HA0 := Lib.hid hA
  have HR := Lib.hid (h.below' hb00)
  have HAM := Lib.hid (hA.below hb00)
  have HX := Lib.hid hx00
  have HF := Lib.hid hf
  have HW := Lib.hid hW
  have HLN := Lib.hid hl
  obtain ⟨n1, hn1⟩ : ∃ n1, n1 = H + 1 := ⟨_, rfl⟩
  have HN1 := Lib.hid hn1
  rw [← hn1]
  have c5 := cell_whole hx00 5
  have c2 := cell_whole hx00 2
  have hn1b : n1 ≤ 1025 := by omega
  clear h hA hf hW hb00 hx00 hl hn1
  go_enter Try.func101, Try.ntmps101
  go_wp2_with (at_make; refine wpList_make_grid rfl _ _ rfl n1 _ rfl rfl (by have := HN1.out; omega) (by omega) ?_; intro w2 hg2 hb2; have HG2 := Lib.hid hg2; have HB2 := Lib.hid hb2; have hx2 := kept_box HX.out hb2; have c5 := cell_whole hx2 5; have c2 := cell_whole hx2 2; clear hg2 hb2 hx2)
  have HB1 := Lib.hid (HB.out.trans (HB2.out.mono HB.out.size))
  have HR2 := Lib.hid (HR.out.below' HB2.out)
  have HA2 := Lib.hid (HAM.out.below HB2.out)
  have HX2 := Lib.hid (kept_box HX.out HB2.out)
  obtain ⟨g0, hg0⟩ : ∃ g0, w.heap.size = g0 := ⟨_, rfl⟩
  have HZ0 := Lib.hid hg0
  rw [show (w.alloc (.cells #[.int .i64 n, .bool b, .slice ao nl cap, .int .i64 s, .int .i64 t, .int .i64 (H : Int), .map (some bm)] 134)).heap.size = w.heap.size + 1 by simp] at HG2
  rw [hg0] at HG2 HX2 ⊢
  have HAL : Hid (∀ ad, ao = some ad → 0 < Z.length → ad.block < g0) := Lib.hid (by rw [← hg0]; exact HR0.out.lt)
  have HML : Hid (bm < g0) := Lib.hid (by rw [← hg0]; exact HA0.out.lt)
  clear HR HAM HX HB HB2 hg0 c5 c2
  go_loopw [16] (fun iv wr => ∃ i : Nat, i ≤ nl ∧ iv = .int .i64 (i : Int) ∧ Hid (GridW wr (g0 + 1) n1 (chgK Z f H i 0)) ∧ Hid (Kept (fun j => j = g0 + 1) w2 wr)) (fun iv _ => nl - (intOf iv).toNat)
  case atStart => exact ⟨0, Nat.zero_le _, rfl, Lib.hid (HG2.out.congr (fun a v _ _ => (chgK_zero a v).symm)), Lib.hid (Kept.refl _ _)⟩
  case round =>
    obtain ⟨i, hi, rfl, HG, HK⟩ := hrel
    clear HG2
    have hbx := HK.out.old HX2.out (show ¬ g0 = g0 + 1 by omega)
    by_cases hlt : i < nl
    · have hli : (i : Int) < (nl : Int) := by omega
      have hiz : i < Z.length := by rw [HLN.out]; exact hlt
      obtain ⟨ab, ax, e, hab, d0, d1, d2, d3⟩ := arc_at HR2.out (List.getElem?_eq_getElem hiz)
      have hab0 := HAL.out _ e (by omega)
      cases e
      have D0 := Lib.hid ((cell_of_block (HK.out.block ab hab (by simp only at hab0 ⊢; omega))).trans d0)
      have D1 := Lib.hid ((cell_of_block (HK.out.block ab hab (by simp only at hab0 ⊢; omega))).trans d1)
      have D2 := Lib.hid ((cell_of_block (HK.out.block ab hab (by simp only at hab0 ⊢; omega))).trans d2)
      have D3 := Lib.hid ((cell_of_block (HK.out.block ab hab (by simp only at hab0 ⊢; omega))).trans d3)
      have hmz := List.getElem_mem hiz
      obtain ⟨z1, z2⟩ := HW.out.ends _ hmz
      obtain ⟨z3, z4⟩ := HW.out.lt _ hmz
      obtain ⟨z5, z6⟩ := HW.out.times _ hmz
      have z7 := HW.out.nodes
      have HAI := Lib.hid (arcI_at hiz)
      have HFJ : Hid (frJ Z i = frN Z[i] ∧ toJ Z i = toN Z[i] ∧ tmJ Z i = Z[i].2.2.2.toNat) := Lib.hid (by unfold frJ toJ tmJ frN toN; rw [HAI.out]; exact ⟨rfl, rfl, rfl⟩)
      rw [z1] at D0
      rw [z2] at D1
      obtain ⟨tt, htt⟩ : ∃ tt : Nat, Z[i].2.2.2 = (tt : Int) := ⟨Z[i].2.2.2.toNat, by unfold tm at z5; omega⟩
      have htt2 : tt ≤ 1048576 := by unfold tm at z6; omega
      rw [htt] at D3 HFJ
      rw [Int.toNat_natCast] at HFJ
      generalize Z[i].2.2.1 = c at *
      generalize frN Z[i] = fr at *
      generalize toN Z[i] = tq at *
      clear htt z1 z2 z5 z6 hmz HAI d0 d1 d2 d3
      have d0 := D0.out
      have d1 := D1.out
      have d2 := D2.out
      have d3 := D3.out
      have hw1 : IntKind.i64.wrap ((H : Int) - (tt : Int)) = (H : Int) - (tt : Int) := IntWalk.i64_in _ (by omega)
      have hw2 : IntKind.i64.wrap ((H : Int) - (tt : Int) + 1) = (H : Int) - (tt : Int) + 1 := IntWalk.i64_in _ (by omega)
      have c2 := cell_whole hbx 2
      have hbq := alloc_whole hbx (.cells #[.int .i64 (fr : Int), .int .i64 (tq : Int), .int .i64 c, .int .i64 (tt : Int)] 64)
      have hnx := heap_alloc_new wr (.cells #[.int .i64 (fr : Int), .int .i64 (tq : Int), .int .i64 c, .int .i64 (tt : Int)] 64)
      have c5 := cell_whole hbq 5
      have c4 := cell_whole hbq 4
      have n0 := cell_whole hnx 0
      have n1c := cell_whole hnx 1
      have n3 := cell_whole hnx 3
      have HBX := Lib.hid hbq
      have HNX := Lib.hid hnx
      have HGX := Lib.hid (HG.out.below ((Below.refl _ wr).alloc (Nat.le_refl _) (.cells #[.int .i64 (fr : Int), .int .i64 (tq : Int), .int .i64 c, .int .i64 (tt : Int)] 64)))
      have HKX := Lib.hid (HK.out.alloc (.cells #[.int .i64 (fr : Int), .int .i64 (tq : Int), .int .i64 c, .int .i64 (tt : Int)] 64))
      clear hbx hbq hnx
      go_wp2_with fail
      obtain ⟨gr, hgr⟩ : ∃ gr, wr.heap.size = gr := ⟨_, rfl⟩
      have hgr2 : g0 + 1 < gr := by rw [← hgr]; exact HG.out.lt
      rw [hgr] at HNX n0 n1c n3 ⊢
      generalize wr.alloc (.cells #[.int .i64 (fr : Int), .int .i64 (tq : Int), .int .i64 c, .int .i64 (tt : Int)] 64) = wx at *
      clear c2 c5 c4 n0 n1c n3 d0 d1 d2 d3 D0 D1 D2 D3
      go_loopw [27] (fun iv wz => ∃ k : Nat, k ≤ cntT Z H i ∧ iv = .int .i64 (k : Int) ∧ Hid (GridW wz (g0 + 1) n1 (chgK Z f H i k)) ∧ Hid (Kept (fun j => j = g0 + 1) wx wz)) (fun iv _ => cntT Z H i - (intOf iv).toNat)
      case atStart => exact ⟨0, Nat.zero_le _, rfl, HGX, Lib.hid (Kept.refl _ _)⟩
      case round =>
        obtain ⟨k, hk, rfl, HGZ, HKZ⟩ := hrel
        clear HGX
        have hcn : cntT Z H i = H + 1 - tt := by unfold cntT; rw [HFJ.out.2.2]
        by_cases hlk : k < cntT Z H i
        · have hlk2 : (k : Int) < (H : Int) - (tt : Int) + 1 := by omega
          have hkn : (k : Int) < (n1 : Int) := by have := HN1.out; omega
          have hkn2 : k < n1 := by omega
          have hktn : (k : Int) + (tt : Int) < (n1 : Int) := by have := HN1.out; omega
          have hktn2 : k + tt < n1 := by omega
          have hfr : (fr : Int) < 50 := by omega
          have htq : (tq : Int) < 50 := by omega
          have hbz := HKZ.out.old HBX.out (show ¬ g0 = g0 + 1 by omega)
          have hnz := HKZ.out.old HNX.out (show ¬ gr = g0 + 1 by omega)
          have HAZ := Lib.hid ((HA2.out.keptS HKX.out (show ¬ bm = g0 + 1 by have := HML.out; omega)).keptS HKZ.out (show ¬ bm = g0 + 1 by have := HML.out; omega))
          have c4 := cell_whole hbz 4
          have c6 := cell_whole hbz 6
          have n0 := cell_whole hnz 0
          have n1c := cell_whole hnz 1
          have n3 := cell_whole hnz 3
          obtain ⟨e0, e1⟩ := HGZ.out.cell hkn2 (v := fr) (by omega)
          have hbd := chgK_bd (Z := Z) (f := f) (H := H) HF.out (i := i) (k := k) k fr (by omega) (by omega) hH
          have hfb := HF.out ((k : Int), (i : Int))
          have h64i : in64 (i : Int) := by unfold in64; omega
          have h64k : in64 (k : Int) := by unfold in64; omega
          obtain ⟨y, hy⟩ : ∃ y, f ((k : Int), (i : Int)) = y := ⟨_, rfl⟩
          have HY := Lib.hid hy
          rw [hy] at hfb
          obtain ⟨G, hG⟩ : ∃ G, chgK Z f H i k = G := ⟨_, rfl⟩
          have HGE := Lib.hid hG
          rw [hG] at HGZ e0 hbd
          clear hbz hnz hy hG hcn
          go_wp2_with (at_lookup; refine wpList_look_amt rfl _ _ rfl HAZ.out _ _ h64i h64k rfl rfl ?_; rw [HY.out])
          have hw3 : IntKind.i64.wrap (G k fr - y) = G k fr - y := IntWalk.i64_in _ (by omega)
          have HP1 : Hid (GridW (wr.setCell ⟨g0 + 1, k * 50 + fr, none⟩ (.int .i64 (G k fr - y))).drew (g0 + 1) n1 (updG G k fr (G k fr - y))) := Lib.hid (HGZ.out.put k (v := fr) (by omega) (G k fr - y))
          have HK1 := Lib.hid (HKZ.out.set (j := k * 50 + fr) (.inl rfl) (.int .i64 (G k fr - y))).drew
          go_region
          generalize (wr.setCell ⟨g0 + 1, k * 50 + fr, none⟩ (.int .i64 (G k fr - y))).drew = wa at *
          clear c4 c6 n0 n1c n3 e0 e1 HGZ hw3 HAZ HKZ
          obtain ⟨x1, hx1⟩ : ∃ x1, G k fr - y = x1 := ⟨_, rfl⟩
          have HX1 := Lib.hid hx1
          rw [hx1] at HP1 ⊢
          have hx1b : -216033918976 ≤ x1 ∧ x1 ≤ 216033918976 := by omega
          have hbd2 := chgK_bd (Z := Z) (f := f) (H := H) HF.out (i := i) (k := k) (k + tt) tq (by omega) (by omega) hH
          rw [HGE.out] at hbd2
          have hnz := HK1.out.old HNX.out (show ¬ gr = g0 + 1 by omega)
          have n1c := cell_whole hnz 1
          have n3 := cell_whole hnz 3
          obtain ⟨e0, e1⟩ := HP1.out.cell hktn2 (v := tq) (by omega)
          obtain ⟨g2, hg2⟩ : ∃ g2, updG G k fr x1 (k + tt) tq = g2 := ⟨_, rfl⟩
          have HG2 := Lib.hid hg2
          have hg2b : -216033918976 ≤ g2 ∧ g2 ≤ 216033918976 := by
            rw [← hg2, updG_at]
            split
            · exact hx1b
            · omega
          rw [hg2] at e0
          have hw4 : IntKind.i64.wrap (g2 + y) = g2 + y := IntWalk.i64_in _ (by omega)
          have hw5 : IntKind.i64.wrap ((k : Int) + (tt : Int)) = (k : Int) + (tt : Int) := IntWalk.i64_in _ (by omega)
          have hk0 : (0 : Int) ≤ (k : Int) + (tt : Int) := by omega
          have HP2 : Hid (GridW (wa.setCell ⟨g0 + 1, (k + tt) * 50 + tq, none⟩ (.int .i64 (g2 + y))).drew (g0 + 1) n1 (updG (updG G k fr x1) (k + tt) tq (g2 + y))) := Lib.hid (HP1.out.put (k + tt) (v := tq) (by omega) (g2 + y))
          have HK2 := Lib.hid (HK1.out.set (j := (k + tt) * 50 + tq) (.inl rfl) (.int .i64 (g2 + y))).drew
          have HQ : Hid (GridW (wa.setCell ⟨g0 + 1, (k + tt) * 50 + tq, none⟩ (.int .i64 (g2 + y))).drew (g0 + 1) n1 (chgK Z f H i (k + 1))) := Lib.hid (HP2.out.congr (fun a v _ _ => by
            have h1 := chgK_upd (Z := Z) (f := f) (H := H) i k (y := y) (x1 := x1) (x2 := g2 + y) HY.out (by rw [HGE.out, HFJ.out.1, HX1.out]) (by rw [HGE.out, HFJ.out.1, HFJ.out.2.1, HFJ.out.2.2, HG2.out]) a v
            rwa [HGE.out, HFJ.out.1, HFJ.out.2.1, HFJ.out.2.2] at h1))
          clear hnz hx1 hg2 hbd hbd2 HP2 HP1
          go_wp2_with fail
          go_region
          go_wp2
          go_roundw
          case rel => exact ⟨k + 1, by omega, by go_num, HQ, HK2⟩
          case measure => simp [intOf]; omega
        · have hlk2 : ¬ (k : Int) < (H : Int) - (tt : Int) + 1 := by omega
          have HGQ : Hid (GridW wr (g0 + 1) n1 (chgK Z f H (i + 1) 0)) := Lib.hid (HGZ.out.congr (fun a v _ _ => by rw [← chgK_next, ← show k = cntT Z H i by omega]))
          have HKQ : Hid (Kept (fun j => j = g0 + 1) w2 wr) := Lib.hid (HKX.out.trans HKZ.out (fun _ _ e => e))
          clear hcn
          go_wp2
          go_roundw
          case rel => exact ⟨i + 1, by omega, by go_num, HGQ, HKQ⟩
          case measure => simp [intOf]; omega
    · have hli : ¬ (i : Int) < (nl : Int) := by omega
      obtain rfl : nl = i := by omega
      go_wp2
      go_ret
      exact ⟨g0 + 1, rfl, by have := HZ0.out; omega, HG.out, HB1.out.trans (HK.out.below HB1.out.size (fun j e => by have e2 : j = g0 + 1 := e; have := HZ0.out; omega))⟩
end
end Go.Proofs.Ytbkmfjegbmjknaa
namespace Go.Proofs.Ytbkmfjegbmjknaa
open Go.RowKit
set_option linter.unusedVariables false
def preG (C : Nat → Nat → Int) (m k : Nat) : Nat → Nat → Int := fun a v => if a ≤ m ∨ (a = m + 1 ∧ v < k) then sumTo (fun b => C b v) (a + 1) else C a v
theorem preG_zero (C : Nat → Nat → Int) (a v : Nat) : preG C 0 0 a v = C a v := by
  unfold preG
  split
  · next h =>
    obtain rfl : a = 0 := by omega
    simp [sumTo]
  · rfl
theorem preG_old (C : Nat → Nat → Int) (m k : Nat) {a : Nat} (v : Nat) (h : a ≤ m) : preG C m k a v = sumTo (fun b => C b v) (a + 1) := by unfold preG; rw [if_pos (.inl h)]
theorem preG_new (C : Nat → Nat → Int) (m k : Nat) : preG C m k (m + 1) k = C (m + 1) k := by unfold preG; rw [if_neg (by omega)]
theorem preG_upd (C : Nat → Nat → Int) (m k : Nat) {x : Int} (hx : x = preG C m k (m + 1) k + preG C m k m k) (a v : Nat) : updG (preG C m k) (m + 1) k x a v = preG C m (k + 1) a v := by
  rw [updG_at]
  subst hx
  rw [preG_new, preG_old C m k k (Nat.le_refl m)]
  unfold preG
  by_cases c1 : a = m + 1 ∧ v = k
  · rw [if_pos c1, if_pos (by omega), c1.1, c1.2]
    simp only [sumTo]
    omega
  · rw [if_neg c1]
    by_cases c2 : a ≤ m ∨ (a = m + 1 ∧ v < k)
    · rw [if_pos c2, if_pos (by omega)]
    · rw [if_neg c2, if_neg (by omega)]
theorem preG_next (C : Nat → Nat → Int) (m : Nat) {a v : Nat} (hv : v < 50) : preG C m 50 a v = preG C (m + 1) 0 a v := by
  unfold preG
  by_cases c2 : a ≤ m ∨ (a = m + 1 ∧ v < 50)
  · rw [if_pos c2, if_pos (by omega)]
  · rw [if_neg c2, if_neg (by omega)]
theorem preG_bd {C : Nat → Nat → Int} (hC : ∀ a v, -216032870400 ≤ C a v ∧ C a v ≤ 216032870400) (m k : Nat) {a : Nat} (v : Nat) (ha : a ≤ 1024) : -221433692160000 ≤ preG C m k a v ∧ preG C m k a v ≤ 221433692160000 := by
  have h1 := hC a v
  have h2 := smT_bd (g := fun b => C b v) (c := 216032870400) (n := a + 1) (fun b _ => hC b v)
  unfold preG
  split <;> omega
section
variable (n : Int) (b : Bool) (ao : Option Addr) (nl cap : Nat) (Z : List ArcT) (s t : Int) (bm : Nat)
set_option maxRecDepth 100000 in
set_option maxHeartbeats 8000000 in
theorem ncstocks_any (N H m : Nat) (f : Int × Int → Int) (w : World) (h : Row encA 4 w ao Z) (hl : Z.length = nl) (hW : SpanNet Z N) (hH : H ≤ 1024) (hA : AmtIs w bm m f) (hf : ∀ p, 0 ≤ f p ∧ f p ≤ 1048576) :
    Calls Try.prog 79 #[crsV n b ao nl cap s t (H : Int) bm] w fun e w' => ∃ g, e = .returned (.slice (some ⟨g, 0, none⟩) (H + 1) (H + 1)) ∧ w.heap.size ≤ g ∧ GridW w' g (H + 1) (fun a v => sumTo (fun b => chgK Z f H nl 0 b v) (a + 1)) ∧ Below w.heap.size w w' := by
  have hnl : nl ≤ 200 := by rw [← hl]; exact hW.len
  have hb00 := ((Below.refl _ w).alloc (Nat.le_refl _) (.cells #[.int .i64 n, .bool b, .slice ao nl cap, .int .i64 s, .int .i64 t, .int .i64 (H : Int), .map (some bm)] 134))
  have hx00 := heap_alloc_new w (.cells #[.int .i64 n, .bool b, .slice ao nl cap, .int .i64 s, .int .i64 t, .int .i64 (H : Int), .map (some bm)] 134)
  have HB := Lib.hid hb00
  have HX := Lib.hid hx00
  have HCALL := Lib.hid (nchanges_any n b ao nl cap Z s t bm N H m f _ (h.below' hb00) hl hW hH (hA.below hb00) hf)
  have HC : Hid (∀ a v, -216032870400 ≤ chgK Z f H nl 0 a v ∧ chgK Z f H nl 0 a v ≤ 216032870400) := Lib.hid (fun a v => chgK_bd hf a v hnl (by omega) hH)
  unfold crsV at HCALL ⊢
  obtain ⟨n1, hn1⟩ : ∃ n1, n1 = H + 1 := ⟨_, rfl⟩
  have HN1 := Lib.hid hn1
  rw [← hn1] at HCALL ⊢
  generalize chgK Z f H nl 0 = C at *
  have c0 := cell_whole hx00 0
  have c1 := cell_whole hx00 1
  have c2 := cell_whole hx00 2
  have c3 := cell_whole hx00 3
  have c4 := cell_whole hx00 4
  have c5 := cell_whole hx00 5
  have c6 := cell_whole hx00 6
  clear h hA hf hW hb00 hx00 hl hn1
  go_enter Try.func79, Try.ntmps79
  go_wp2_with (go_at_call 101; refine HCALL.out.mono ?_; rintro e w2 ⟨g, rfl, hgw, hg2, hb2⟩; have HG2 := Lib.hid hg2; have HB2 := Lib.hid hb2; have hx2 := kept_box HX.out hb2; have c5 := cell_whole hx2 5; clear hg2 hb2 hx2)
  have HB1 := Lib.hid (HB.out.trans (HB2.out.mono HB.out.size))
  have HGW : Hid (w.heap.size < g) := Lib.hid (by rw [show (w.alloc (.cells #[.int .i64 n, .bool b, .slice ao nl cap, .int .i64 s, .int .i64 t, .int .i64 (H : Int), .map (some bm)] 134)).heap.size = w.heap.size + 1 by simp] at hgw; omega)
  clear HB HB2 HCALL HX hgw c5 c0 c1 c2 c3 c4 c6
  go_loopw [11] (fun iv wr => ∃ u : Nat, u ≤ H ∧ iv = .int .i64 (u : Int) ∧ Hid (GridW wr g n1 (preG C u 0)) ∧ Hid (Kept (fun j => j = g) w2 wr)) (fun iv _ => H - (intOf iv).toNat)
  case atStart => exact ⟨0, Nat.zero_le _, rfl, Lib.hid (HG2.out.congr (fun a v _ _ => (preG_zero C a v).symm)), Lib.hid (Kept.refl _ _)⟩
  case round =>
    obtain ⟨u, hu, rfl, HG, HK⟩ := hrel
    clear HG2
    by_cases hlt : u < H
    · have hli : (u : Int) < (H : Int) := by omega
      have hun : u < n1 := by have := HN1.out; omega
      have hun2 : u + 1 < n1 := by have := HN1.out; omega
      have hui : (u : Int) < (n1 : Int) := by omega
      have hui2 : (u : Int) + 1 < (n1 : Int) := by omega
      have HRG := Lib.hid (HG.out.range hun)
      have hgc : ∀ k, k < 50 → (cellsG (preG C u 0) u).toArray[k]? = some (.int .i64 (sumTo (fun b => C b k) (u + 1))) := fun k hk => by rw [cellsG_get _ _ hk, preG_old C u 0 k (Nat.le_refl u)]
      have HGC := Lib.hid hgc
      have hsz : (cellsG (preG C u 0) u).toArray.size = 50 := by rw [List.size_toArray, cellsG_len]
      have HSZ : Hid ((Try.prog.info? 140).map (·.size) = some (cellsG (preG C u 0) u).length) := Lib.hid (by rw [cellsG_len]; exact sizeCounts)
      clear hgc
      go_wp2_with ((with_reducible show wpList _ _ _ (Oper.mk (some 17) (Op.load 140 _) _ _ _ _ :: _) _ _); refine wpList_load_mid rfl 140 _ rfl g (u * 50) rfl (cellsG (preG C u 0) u) _ HRG.out Try.underlying140 rfl HSZ.out ?_)
      generalize (cellsG (preG C u 0) u).toArray = A at *
      clear HRG HSZ
      have HRZ := HG
      go_loopw [18] (fun iv wz => ∃ k : Nat, k ≤ 50 ∧ iv = .int .i64 (k : Int) ∧ Hid (GridW wz g n1 (preG C u k)) ∧ Hid (Kept (fun j => j = g) w2 wz)) (fun iv _ => 50 - (intOf iv).toNat)
      case atStart => exact ⟨0, Nat.zero_le _, rfl, HG, HK⟩
      case round =>
        clear HG HRZ HK
        obtain ⟨k, hk, rfl, HGZ, HKZ⟩ := hrel
        by_cases hlk : k < 50
        · have hlk2 : (k : Int) < 50 := by omega
          have hak := HGC.out k hlk
          obtain ⟨e0, e1⟩ := HGZ.out.cell hun2 (v := k) hlk
          have hb1 := preG_bd HC.out u k (a := u + 1) k (by omega)
          have hb2 := preG_bd HC.out u k (a := u) k (by omega)
          have HOLD := Lib.hid (preG_old C u k k (Nat.le_refl u))
          rw [HOLD.out] at hb2
          obtain ⟨x, hx⟩ : ∃ x, preG C u k (u + 1) k = x := ⟨_, rfl⟩
          obtain ⟨y, hy⟩ : ∃ y, sumTo (fun b => C b k) (u + 1) = y := ⟨_, rfl⟩
          have HX := Lib.hid hx
          have HY := Lib.hid hy
          rw [hx] at e0 hb1
          rw [hy] at hak hb2
          have hw4 : IntKind.i64.wrap (x + y) = x + y := IntWalk.i64_in _ (by omega)
          have hw5 : IntKind.i64.wrap ((u : Int) + 1) = (u : Int) + 1 := IntWalk.i64_in _ (by omega)
          have HP2 := Lib.hid (HGZ.out.put (u + 1) (v := k) hlk (x + y))
          have HK2 := Lib.hid (HKZ.out.set (j := (u + 1) * 50 + k) (.inl rfl) (.int .i64 (x + y))).drew
          have HQ : Hid (GridW (wr.setCell ⟨g, (u + 1) * 50 + k, none⟩ (.int .i64 (x + y))).drew g n1 (preG C u (k + 1))) := Lib.hid (HP2.out.congr (fun a v _ _ => preG_upd C u k (by rw [HX.out, HOLD.out, HY.out]) a v))
          clear hx hy hb1 hb2 HP2
          have hix := run_index_counts A k y hlk hak
          go_wp2_with fail
          go_region
          go_wp2
          go_roundw
          case rel => exact ⟨k + 1, by omega, by go_num, HQ, HK2⟩
          case measure => simp [intOf]; omega
        · have hlk2 : ¬ (k : Int) < 50 := by omega
          obtain rfl : k = 50 := by omega
          have HGQ : Hid (GridW wr g n1 (preG C (u + 1) 0)) := Lib.hid (HGZ.out.congr (fun a v _ hv => preG_next C u hv))
          go_wp2
          go_roundw
          case rel => exact ⟨u + 1, by omega, by go_num, HGQ, HKZ⟩
          case measure => simp [intOf]; omega
    · have hli : ¬ (u : Int) < (H : Int) := by omega
      obtain rfl : H = u := by omega
      have HGF : Hid (GridW wr g n1 (fun a v => sumTo (fun b => C b v) (a + 1))) := Lib.hid (HG.out.congr (fun a v ha _ => preG_old C H 0 v (by have := HN1.out; omega)))
      go_wp2
      go_ret
      exact ⟨g, rfl, by have := HGW.out; omega, HGF.out, HB1.out.trans (HK.out.below HB1.out.size (fun j e => by have e2 : j = g := e; have := HGW.out; omega))⟩
end
end Go.Proofs.Ytbkmfjegbmjknaa
namespace Go.Proofs.Ytbkmfjegbmjknaa
open Go.RowKit
set_option linter.unusedVariables false
theorem wpList_store_counts {w : World} {ops : Array Oper} {rest : List Oper} {o : Oper} {a : Act} {Q : Exit → Act → World → Prop} (hgd : o.guard = none) (x y : Operand) (ho : o.op = .store 140 x y)
    (g : Nat) (c : Array Value) (l : List Value) (hx : a.eval x = .pointer (some ⟨g, 0, none⟩)) (hy : a.eval y = .agg l.toArray) (hg : w.heap[g]? = some (.cells c 140 (0, 0))) (hc : c.size = 50) (hl : l.length = 50) (h1 : ∀ v ∈ l, v.oneCell' = true)
    (h : ∀ w', w'.heap[g]? = some (.cells l.toArray 140 (0, 0)) → Kept (fun i => i = g) w w' → wpList Try.prog ops Q rest (a.put o.dst undef) w') : wpList Try.prog ops Q (o :: rest) a w := by
  refine wpList_plain hgd fun K hK => ?_
  have hs : l.toArray.size = 50 := by rw [List.size_toArray, hl]
  have hrun := run_storeVar_row (P := Try.prog) w g 140 140 c l.toArray hg (by rw [hs]; exact sizeCounts) (by rw [hc, hs]) (all_oneCell_toArray h1)
  unfold Oper.wp execOp
  simp only [ho, hx, hy, Instr.storeAt, Instr.sureAddr, Sem.run_bind, Sem.run_pure, Result.andThen_ok, hrun]
  refine hK _ _ (h _ (setRow_heap w g c _ 140 _ hg) ⟨rfl, rfl, rfl, by simp, fun k _ hk => setRow_other w g k _ (fun e => hk e)⟩)
theorem cellsG_one (G : Nat → Nat → Int) (a : Nat) : ∀ v ∈ cellsG G a, v.oneCell' = true := by
  intro v hv
  obtain ⟨j, _, rfl⟩ := List.mem_map.1 hv
  rfl
theorem range_whole {w : World} {g : Nat} {l : List Value} {t : TypeId} (h : w.heap[g]? = some (.cells l.toArray t (0, 0))) : w.rangeAt g 0 l := by
  intro j v hv
  rw [Nat.zero_add, cell_whole h, List.getElem?_toArray]
  exact hv
section
variable (n : Int) (b : Bool) (ao : Option Addr) (nl cap : Nat) (bm : Nat)
set_option maxRecDepth 100000 in
set_option maxHeartbeats 8000000 in
theorem nisplan_any (s t H g : Nat) (hold : Bool) (S : Nat → Nat → Int) (w : World) (hg : GridW w g (H + 1) S) (hH : H ≤ 1024) :
    Calls Try.prog 94 #[crsV n b ao nl cap (s : Int) (t : Int) (H : Int) bm, .slice (some ⟨g, 0, none⟩) (H + 1) (H + 1), .bool hold] w fun e w' => e = .returned (.bool (planG S 50 s t H hold)) ∧ Below w.heap.size w w' := by
  unfold crsV
  have hb00 := ((Below.refl _ w).alloc (Nat.le_refl _) (.cells #[.int .i64 n, .bool b, .slice ao nl cap, .int .i64 (s : Int), .int .i64 (t : Int), .int .i64 (H : Int), .map (some bm)] 134))
  have hx00 := heap_alloc_new w (.cells #[.int .i64 n, .bool b, .slice ao nl cap, .int .i64 (s : Int), .int .i64 (t : Int), .int .i64 (H : Int), .map (some bm)] 134)
  have HB := Lib.hid hb00
  have HX := Lib.hid hx00
  have HG := Lib.hid (hg.below hb00)
  obtain ⟨n1, hn1⟩ : ∃ n1, n1 = H + 1 := ⟨_, rfl⟩
  have HN1 := Lib.hid hn1
  rw [← hn1] at HG ⊢
  obtain ⟨r, hr⟩ : ∃ r, planG S 50 s t H hold = r := ⟨_, rfl⟩
  obtain ⟨MK, HMK⟩ : ∃ MK : Nat → Prop, Hid (∀ u, MK u ↔ (hold = true ∧ u < H)) := ⟨_, Lib.hid (fun u => Iff.rfl)⟩
  have HYES : Hid ((∀ u, u ≤ H → ∀ v, v < 50 → v ≠ s → v ≠ t → 0 ≤ S u v ∧ (S u v = 0 ∨ MK u)) → r = true) := Lib.hid (fun h => by
    rw [← hr]
    exact planG_is.2 (fun u hu v hv hs ht => ⟨(h u hu v hv hs ht).1, (h u hu v hv hs ht).2.imp id (HMK.out u).1⟩))
  have HNO : Hid (∀ u, u ≤ H → ∀ v, v < 50 → v ≠ s → v ≠ t → ¬ (0 ≤ S u v ∧ (S u v = 0 ∨ MK u)) → r = false) := Lib.hid (fun u hu v hv hs ht hn => by
    rw [← hr]
    cases hq : planG S 50 s t H hold with
    | false => rfl
    | true => exact absurd (planG_is.1 hq u hu v hv hs ht) (fun e => hn ⟨e.1, e.2.imp id (HMK.out u).2⟩))
  rw [hr]
  have hgw : g < w.heap.size := hg.lt
  obtain ⟨P, HP⟩ : ∃ P : Nat → Prop, Hid (∀ a, P a ↔ ∀ v, v < 50 → v ≠ s → v ≠ t → 0 ≤ S a v ∧ (S a v = 0 ∨ MK a)) := ⟨_, Lib.hid (fun a => Iff.rfl)⟩
  clear hg hb00 hx00 hn1 hr
  cases hold
  all_goals
    go_enter Try.func94, Try.ntmps94
    go_wp2_with fail
    obtain ⟨g0, hg0⟩ : ∃ g0, w.heap.size = g0 := ⟨_, rfl⟩
    have HZ0 := Lib.hid hg0
    rw [hg0] at HX hgw ⊢
    clear hg0
    generalize w.alloc (.cells #[.int .i64 n, .bool b, .slice ao nl cap, .int .i64 (s : Int), .int .i64 (t : Int), .int .i64 (H : Int), .map (some bm)] 134) = w1 at *
    go_loopw [14] (fun iv wr => ∃ u : Nat, u ≤ H + 1 ∧ iv = .int .i64 (u : Int) ∧ Hid (∀ a, a < u → P a) ∧ Hid (Below w1.heap.size w1 wr)) (fun iv _ => H + 1 - (intOf iv).toNat)
    case atStart => exact ⟨0, Nat.zero_le _, rfl, Lib.hid (fun a h => absurd h (by omega)), Lib.hid (Below.refl _ _)⟩
    case round =>
      obtain ⟨u, hu, rfl, HOK, HW⟩ := hrel
      have hbx := kept_box HX.out HW.out
      have HGW := Lib.hid (HG.out.below HW.out)
      by_cases hlt : u < n1
      · have hli : (u : Int) < (n1 : Int) := by omega
        have huH : u ≤ H := by have := HN1.out; omega
        have HRG := Lib.hid (HGW.out.range hlt)
        have HSZ : Hid ((Try.prog.info? 140).map (·.size) = some (cellsG S u).length) := Lib.hid (by rw [cellsG_len]; exact sizeCounts)
        have hgr : g0 < wr.heap.size := lt_whole hbx
        have HGR := Lib.hid hgr
        have HBW := Lib.hid hbx
        clear hbx
        go_wp2_with (first
          | ((with_reducible show wpList _ _ _ (Oper.mk (some 18) (Op.load 140 _) _ _ _ _ :: _) _ _); refine wpList_load_mid rfl 140 _ rfl g (u * 50) rfl (cellsG S u) _ HRG.out Try.underlying140 rfl HSZ.out ?_)
          | ((with_reducible show wpList _ _ _ (Oper.mk none (Op.store 140 _ _) _ _ _ _ :: _) _ _); refine wpList_store_counts rfl _ _ rfl _ _ (cellsG S u) rfl rfl (heap_alloc_new _ _) rfl (cellsG_len S u) (cellsG_one S u) ?_; intro w3 hg3 hk3; have HG3 := Lib.hid hg3; have hb3 := hk3.old (alloc_whole HBW.out _) (show ¬ g0 = wr.heap.size by have := HGR.out; omega); have HB3 := Lib.hid hb3; have c5 := cell_whole hb3 5; have HK3 : Hid (Below wr.heap.size wr w3) := Lib.hid (((Below.refl _ wr).alloc (Nat.le_refl _) _).trans (hk3.below (by simp) (fun i e => Nat.le_of_eq (Eq.symm e)))); clear hg3 hk3 hb3)
          | ((with_reducible show wpList _ _ _ (Oper.mk (some 26) (Op.load 140 _) _ _ _ _ :: _) _ _); refine wpList_load_mid rfl 140 _ rfl _ 0 rfl (cellsG S u) _ (range_whole HG3.out) Try.underlying140 rfl HSZ.out ?_))
        all_goals
          obtain ⟨gr, hgr2⟩ : ∃ gr, wr.heap.size = gr := ⟨_, rfl⟩
          have HGS := Lib.hid hgr2
          have HA := Lib.hid (fun k (hk : k < 50) => cellsG_get S u hk)
          clear HG3 HRG HSZ c5
          generalize (cellsG S u).toArray = A at *
          go_loopw [27] (fun iv wz => ∃ k : Nat, k ≤ 50 ∧ iv = .int .i64 (k : Int) ∧ Hid (∀ v, v < k → v ≠ s → v ≠ t → 0 ≤ S u v ∧ (S u v = 0 ∨ MK u)) ∧ wz = w3) (fun iv _ => 50 - (intOf iv).toNat)
          case atStart => exact ⟨0, Nat.zero_le _, rfl, Lib.hid (fun v h => absurd h (by omega)), rfl⟩
          case round =>
            obtain ⟨k, hk, rfl, HOI, rfl⟩ := hrel
            by_cases hlk : k < 50
            · have hlk2 : (k : Int) < 50 := by omega
              have hix := run_index_counts A k _ hlk (HA.out k hlk)
              have c3 := cell_whole HB3.out 3
              have c4 := cell_whole HB3.out 4
              have HNK : Hid (k ≠ s → k ≠ t → ¬ (0 ≤ S u k ∧ (S u k = 0 ∨ MK u)) → r = false) := Lib.hid (HNO.out u huH k hlk)
              have HOI2 : Hid ((k ≠ s → k ≠ t → 0 ≤ S u k ∧ (S u k = 0 ∨ MK u)) → ∀ v, v < k + 1 → v ≠ s → v ≠ t → 0 ≤ S u v ∧ (S u v = 0 ∨ MK u)) := Lib.hid (fun h v hv hs ht => by
                by_cases e : v = k
                · subst e; exact h hs ht
                · exact HOI.out v (by omega) hs ht)
              clear HOI
              generalize S u k = x at *
              by_cases hks : k = s
              · have q1 : ((k : Int) == (s : Int)) = true := by rw [beq_iff_eq, hks]
                have HQ := Lib.hid (HOI2.out (fun h => absurd hks h))
                clear HOI2 HNK hks
                go_wp2
                go_roundw
                case rel => exact ⟨k + 1, by omega, by go_num, HQ, by first | rfl | trivial⟩
                case measure => simp [intOf]; omega
              · have q1 : ((k : Int) == (s : Int)) = false := by rw [beq_eq_false_iff_ne]; omega
                by_cases hkt : k = t
                · have q2 : ((k : Int) == (t : Int)) = true := by rw [beq_iff_eq, hkt]
                  have HQ := Lib.hid (HOI2.out (fun _ h => absurd hkt h))
                  clear HOI2 HNK hkt hks
                  go_wp2
                  go_roundw
                  case rel => exact ⟨k + 1, by omega, by go_num, HQ, by first | rfl | trivial⟩
                  case measure => simp [intOf]; omega
                · have q2 : ((k : Int) == (t : Int)) = false := by rw [beq_eq_false_iff_ne]; omega
                  have HKS := Lib.hid hks
                  have HKT := Lib.hid hkt
                  clear hks hkt
                  rcases Int.lt_trichotomy x 0 with hx | hx | hx
                  · have HR : Hid (r = false) := Lib.hid (HNK.out HKS.out HKT.out (fun e => by omega))
                    clear HOI2 HNK
                    go_wp2
                    go_ret
                    exact ⟨ret_bool HR.out.symm, (HB.out.trans (HW.out.mono HB.out.size)).trans (HK3.out.mono ((HB.out.trans (HW.out.mono HB.out.size)).size))⟩
                  · have HQ := Lib.hid (HOI2.out (fun _ _ => ⟨by omega, .inl hx⟩))
                    subst hx
                    clear HOI2 HNK
                    go_wp2
                    go_roundw
                    case rel => exact ⟨k + 1, by omega, by go_num, HQ, by first | rfl | trivial⟩
                    case measure => simp [intOf]; omega
                  · have hx2 : ¬ x < 0 := by omega
                    by_cases hm : MK u
                    · have HQ := Lib.hid (HOI2.out (fun _ _ => ⟨by omega, .inr hm⟩))
                      have hm2 := ((HMK.out u).1 hm).2
                      have hm3 := ((HMK.out u).1 hm).1
                      clear HOI2 HNK hm
                      first
                        | exact False.elim hm3
                        | exact absurd hm3 (by decide)
                        | (have hmd : decide (u < H) = true := decide_eq_true hm2
                           go_wp2
                           go_roundw
                           case rel => exact ⟨k + 1, by omega, by go_num, HQ, by first | rfl | trivial⟩
                           case measure => simp [intOf]; omega)
                    · have HR : Hid (r = false) := Lib.hid (HNK.out HKS.out HKT.out (fun e => e.2.elim (fun e2 => by omega) hm))
                      have hmd := fun e => decide_eq_false (fun e2 : u < H => hm ((HMK.out u).2 ⟨e, e2⟩))
                      clear HOI2 HNK hm
                      (first | (have hmd3 := hmd trivial) | (have hmd3 := hmd rfl) | skip)
                      clear hmd
                      go_wp2
                      go_ret
                      exact ⟨ret_bool HR.out.symm, (HB.out.trans (HW.out.mono HB.out.size)).trans (HK3.out.mono ((HB.out.trans (HW.out.mono HB.out.size)).size))⟩
            · have hlk2 : ¬ (k : Int) < 50 := by omega
              obtain rfl : k = 50 := by omega
              have HOK2 : Hid (∀ a, a < u + 1 → P a) := Lib.hid (fun a ha => by
                by_cases e : a = u
                · subst e; exact (HP.out a).2 HOI.out
                · exact HOK.out a (by omega))
              have HWW := Lib.hid (HW.out.trans (HK3.out.mono HW.out.size))
              go_wp2
              go_roundw
              case rel => exact ⟨u + 1, by omega, by go_num, HOK2, HWW⟩
              case measure => simp [intOf]; omega
      · have hli : ¬ (u : Int) < (n1 : Int) := by omega
        have HR : Hid (r = true) := Lib.hid (HYES.out (fun a ha => (HP.out a).1 (HOK.out a (by have := HN1.out; omega))))
        go_wp2
        go_ret
        exact ⟨ret_bool HR.out.symm, HB.out.trans (HW.out.mono HB.out.size)⟩
end
end Go.Proofs.Ytbkmfjegbmjknaa
