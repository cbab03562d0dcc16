/- A map of a call's own: how much enters an arc at a point of time. -/
import Derived.Test.YtbkmfjegbmjknaaHSpec
import Derived.Test.YtbkmfjegbmjknaaBQ
import Derived.Maps.OwnOps
namespace Go.Proofs.Ytbkmfjegbmjknaa
open Go.RowKit Go.Maps
set_option linter.unusedVariables false

theorem lawEntry : Keyed Try.prog 167 := Keyed.of_law (deep_law_laid laidOut0 (m := 3) (by omega) (of_decide_eq_true (by kernel_rfl)) (by kernel_rfl) (by kernel_rfl))
theorem cellsEntry : Try.prog.cellsOf 167 = 2 := by kernel_rfl
theorem ktEntry : Try.prog.keyType 167 = true := by kernel_rfl
theorem keyOf_entry {a b : Int} (ha : in64 a) (hb : in64 b) : ∃ kl, keyOf Try.prog 167 (.agg #[.int .i64 a, .int .i64 b]) = some kl := by
  have wa := wf_of_in64 ha
  have wb := wf_of_in64 hb
  obtain ⟨m, hm⟩ := tySize
  refine ⟨.string (keyBytes [.int .i64 a, .int .i64 b]), ?_⟩
  unfold keyOf
  simp only [Try.underlying167]
  rw [if_pos (by simp [ktEntry, Value.formed, Try.underlying167, cellsEntry]), hm]
  unfold Program.keyLits
  simp only [Try.underlying167, Value.cells]
  rw [if_pos (by rw [cellsEntry]; exact ⟨rfl, by simp⟩)]
  simp [cellsInt, Program.keyLits, Try.underlying3, wa, wb]
/-- Block b is a map that tells so much at each arc and point of time (the time, the arc). -/
def AmtIs (w : World) (b m : Nat) (f : Int × Int → Int) : Prop :=
  ∃ (n : Nat) (D : DataW Unit), n ≤ m ∧ w.ownsMap Try.prog 167 (plainElem Try.prog 3) b n D ∧
    ∀ (i u : Int) (kl : Lit), keyOf Try.prog 167 (.agg #[.int .i64 i, .int .i64 u]) = some kl → D.atKey kl (.lit (.int .i64 0)) = .lit (.int .i64 (f (u, i)))
section
variable {w w' : World} {b m : Nat} {f : Int × Int → Int}
theorem AmtIs.made (w : World) : AmtIs (w.alloc (.map #[] 0)) w.heap.size 0 (fun _ => 0) :=
  ⟨0, .map [], Nat.le_refl _, World.ownsMap_made _ _ _ _, fun i u kl h => atKey_of_not_has (D := .map []) (k := kl) rfl _⟩
theorem AmtIs.lt (h : AmtIs w b m f) : b < w.heap.size := by
  obtain ⟨n, D, hn, hm, hx⟩ := h
  exact hm.lt
theorem AmtIs.ne_cell (h : AmtIs w b m f) {g o : Nat} {v : Value} (hc : w.cell? ⟨g, o, none⟩ = some v) : g ≠ b := by
  rintro rfl
  obtain ⟨n, D, hn, ⟨es, clock, h1, h2⟩, hx⟩ := h
  unfold World.cell? at hc
  simp only [h1] at hc
  cases hc
theorem AmtIs.old (h : AmtIs w b m f) (he : w'.heap[b]? = w.heap[b]?) : AmtIs w' b m f := by
  obtain ⟨n, D, hn, ⟨es, clock, h1, h2⟩, hx⟩ := h
  exact ⟨n, D, hn, ⟨es, clock, he.trans h1, h2⟩, hx⟩
theorem AmtIs.below (h : AmtIs w b m f) (hb : Below w.heap.size w w') : AmtIs w' b m f := h.old (hb.block b h.lt)
theorem AmtIs.keptS {S : Nat → Prop} (h : AmtIs w b m f) (hk : Kept S w w') (hn : ¬ S b) : AmtIs w' b m f := h.old (hk.block b h.lt hn)
theorem AmtIs.mono {k : Nat} (h : AmtIs w b m f) (hk : m ≤ k) : AmtIs w b k f := by
  obtain ⟨n, D, hn, hm, hx⟩ := h
  exact ⟨n, D, Nat.le_trans hn hk, hm, hx⟩
theorem AmtIs.congr {g : Int × Int → Int} (h : AmtIs w b m f) (e : ∀ p, f p = g p) : AmtIs w b m g := by
  rw [show g = f from funext fun p => (e p).symm]; exact h
theorem wpList_look_amt {ops : Array Oper} {rest : List Oper} {o : Oper} {a : Act} {Q : Exit → Act → World → Prop} (hg : o.guard = none) (mo x : Operand) (hop : o.op = Op.lookup 132 mo x false)
    (h : AmtIs w b m f) (i u : Int) (hi : in64 i) (hu : in64 u) (hm : a.eval mo = .map (some b)) (hx : a.eval x = .agg #[.int .i64 i, .int .i64 u])
    (hK : wpList Try.prog ops Q rest (a.put o.dst (.int .i64 (f (u, i)))) w) : wpList Try.prog ops Q (o :: rest) a w := by
  obtain ⟨n, D, hn, hown, hD⟩ := h
  obtain ⟨kl, hkey⟩ := keyOf_entry hi hu
  refine wpList_lookup_own_int w hg mo x 132 hop 167 3 .i64 lawEntry Try.underlying132 Try.underlying3 (zeroInt w) b n D hm hown _ kl hx hkey ?_
  intro c hc _
  rw [hD i u kl hkey] at hc
  cases hc
  exact hK
theorem wpList_store_amt {ops : Array Oper} {rest : List Oper} {o : Oper} {a : Act} {Q : Exit → Act → World → Prop} (hg : o.guard = none) (mo x v : Operand) (hop : o.op = Op.mapUpdate 132 mo x v)
    (h : AmtIs w b m f) (hl : m < 200000) (i u c : Int) (hi : in64 i) (hu : in64 u) (hc : in64 c) (hm : a.eval mo = .map (some b)) (hx : a.eval x = .agg #[.int .i64 i, .int .i64 u]) (hv : a.eval v = .int .i64 c)
    (hK : ∀ w', AmtIs w' b (m + 1) (fun p => if p = (u, i) then c else f p) → w.grownBy w' (some b) → wpList Try.prog ops Q rest (a.put o.dst undef) w') : wpList Try.prog ops Q (o :: rest) a w := by
  obtain ⟨n, D, hn, hown, hD⟩ := h
  obtain ⟨kl, hkey⟩ := keyOf_entry hi hu
  refine wpList_mapUpdate_own w hg mo x v 132 hop 167 3 lawEntry Try.underlying132 _ b n D hm hown (by unfold maxLen; omega) _ _ kl hx hv hkey _ [] (plainElem_int Try.underlying3 (wf_of_in64 hc)) ?_
  intro w' h1 h2
  refine hK w' ⟨n + 1, _, by omega, h1, ?_⟩ h2
  intro j s yl hy
  have hM := hown.isMap
  by_cases hyz : (s, j) = (u, i)
  · cases hyz
    rw [hkey] at hy
    cases hy
    show _ = DataW.lit (.int .i64 (if (u, i) = (u, i) then c else f (u, i)))
    rw [if_pos rfl]
    exact atKey_put_same hM (lawEntry.key hkey) _ _
  · have hne : yl ≠ kl := by
      rintro rfl
      have e := lawEntry.inj hy hkey
      simp at e
      exact hyz (by rw [e.1, e.2])
    show _ = DataW.lit (.int .i64 (if (s, j) = (u, i) then c else f (s, j)))
    rw [atKey_put_other hne, if_neg hyz]
    exact hD j s yl hy
end
end Go.Proofs.Ytbkmfjegbmjknaa
