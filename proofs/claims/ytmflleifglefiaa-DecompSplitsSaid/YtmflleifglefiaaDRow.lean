/- Rows of chains that a call makes: each has its arcs in a block of its own. -/
import Derived.Test.YtmflleifglefiaaDCyc
namespace Go.Proofs.Ytmflleifglefiaa
open Go.RowKit
set_option linter.unusedVariables false

/-- A chain as it lies in memory: where its arcs are, which they are, and its amount. -/
abbrev ChT := (Option Addr × Nat) × (List Int × Int)
def encC (x : ChT) : List Value := [.slice x.1.1 x.2.1.length x.1.2, .int .i64 x.2.2]
theorem encC_len (x : ChT) : (encC x).length = 2 := rfl
theorem encC_one (x : ChT) : ∀ u ∈ encC x, u.oneCell' = true := by intro u hu; simp [encC] at hu; rcases hu with rfl | rfl <;> rfl
theorem infoChain : (Try.prog.info? 49).map (fun i => (i.zero, i.size, i.bytes)) = some (some (.agg #[.slice none 0 0, .int .i64 0]), 2, 32) := by kernel_rfl
theorem lst_grownD {w w' : World} {row : Option Nat} {ao : Option Addr} {A : List Int} (h : Lst encI w ao A) (hg : w.grownBy w' row) (hn : ∀ ad, ao = some ad → 0 < A.length → row ≠ some ad.block) : Lst encI w' ao A := by
  intro i hi
  obtain ⟨b, o, e, hb, hc⟩ := h i hi
  have hk := Kept.of_grown (S := fun i => row = some i) hg (fun k e => e)
  exact ⟨b, o, e, Nat.lt_of_lt_of_le hb hk.size, (cell_of_block (hk.block b hb (hn _ e (by omega)))).trans hc⟩
theorem lst_keptD {S : Nat → Prop} {w w' : World} {ao : Option Addr} {A : List Int} (h : Lst encI w ao A) (hk : Kept S w w') (hn : ∀ ad, ao = some ad → 0 < A.length → ¬ S ad.block) : Lst encI w' ao A := by
  intro i hi
  obtain ⟨b, o, e, hb, hc⟩ := h i hi
  exact ⟨b, o, e, Nat.lt_of_lt_of_le hb hk.size, (cell_of_block (hk.block b hb (hn _ e (by omega)))).trans hc⟩
/-- A row of chains of a call's own. -/
structure ChI (w : World) (B : Nat) (v : Value) (X : List ChT) : Prop where
  row : w.ownsRow B 49 2 v X.length (X.flatMap encC)
  inn : ∀ x ∈ X, Lst encI w x.1.1 x.2.1 ∧ ∀ ad, x.1.1 = some ad → 0 < x.2.1.length → B ≤ ad.block ∧ v.ownBlock ≠ some ad.block
section
variable {w w' : World} {B : Nat} {v : Value} {X : List ChT}
theorem ChI.nil (w : World) (B : Nat) : ChI w B (.slice none 0 0) [] := ⟨World.ownsRow_nil _ _ _ _, fun x hx => by cases hx⟩
theorem ChI.below (h : ChI w B v X) (hb : Below w.heap.size w w') : ChI w' B v X := ⟨own_below h.row hb, fun x hx => ⟨(h.inn x hx).1.below hb, (h.inn x hx).2⟩⟩
theorem ChI.set (h : ChI w B v X) {g : Nat} (hg : g < B) (j : Nat) (u : Value) : ChI (w.setCell ⟨g, j, none⟩ u) B v X := by
  have hk : Kept (fun i => i = g) w (w.setCell ⟨g, j, none⟩ u) := (Kept.refl (fun i => i = g) w).set (.inl rfl) _
  exact ⟨ownsRow_setCell_below h.row (a := ⟨g, j, none⟩) hg _, fun x hx => ⟨lst_keptD (h.inn x hx).1 hk (fun ad e h0 q => by have h1 := ((h.inn x hx).2 ad e h0).1; have h2 : ad.block = g := q; omega), (h.inn x hx).2⟩⟩
theorem ChI.slice (h : ChI w B v X) : ∃ ao cap, v = .slice ao X.length cap ∧ Row encC 2 w ao X ∧ ∀ ad, ao = some ad → 0 < X.length → B ≤ ad.block := by
  obtain ⟨ao, cap, e, hr⟩ := own_row encC_len h.row
  refine ⟨ao, cap, e, hr, fun ad e2 h0 => ?_⟩
  rcases h.row.2 with ⟨h1, h2⟩ | ⟨g, cp, cur, h1, h2, _⟩
  · omega
  · rw [e, e2] at h1
    injection h1 with h3 _ _
    injection h3 with h4
    rw [h4]
    exact h2
theorem ChI.add {w4 : World} {g cap : Nat} {x : ChT} (h : ChI w B v X) (hx : Lst encI w x.1.1 x.2.1) (hxb : ∀ ad, x.1.1 = some ad → 0 < x.2.1.length → B ≤ ad.block ∧ v.ownBlock ≠ some ad.block)
    (ho : w4.ownsRow B 49 2 (.slice (some ⟨g, 0, none⟩) (X.length + 1) cap) (X ++ [x]).length ((X ++ [x]).flatMap encC)) (hg : w.grownBy w4 v.ownBlock) (hl : v.ownBlock = some g ∨ g = w.heap.size) :
    ChI w4 B (.slice (some ⟨g, 0, none⟩) (X.length + 1) cap) (X ++ [x]) := by
  refine ⟨ho, fun y hy => ?_⟩
  have hy2 : Lst encI w y.1.1 y.2.1 ∧ ∀ ad, y.1.1 = some ad → 0 < y.2.1.length → B ≤ ad.block ∧ v.ownBlock ≠ some ad.block := by
    rcases List.mem_append.1 hy with hy | hy
    · exact h.inn y hy
    · rw [List.mem_singleton.1 hy]; exact ⟨hx, hxb⟩
  refine ⟨lst_grownD hy2.1 hg (fun ad e h0 => (hy2.2 ad e h0).2), fun ad e h0 => ⟨(hy2.2 ad e h0).1, fun e2 => ?_⟩⟩
  injection e2 with e3
  have e4 : g = ad.block := e3
  rcases hl with h1 | h1
  · exact (hy2.2 ad e h0).2 (by rw [h1, e4])
  · obtain ⟨b, o, e5, hb, _⟩ := hy2.1 0 h0
    rw [e] at e5
    cases e5
    have e6 : g = b := e4
    omega
end
/-- One chain is appended. -/
theorem wpList_append_chain {w : World} {ops : Array Oper} {rest : List Oper} {o : Oper} {a : Act} {Q : Exit → Act → World → Prop} (hgd : o.guard = none) (s y : Operand)
    (ho : o.op = .call { callee := .builtin .append, args := #[s, y], argTypes := #[27, 27] })
    (base : Nat) (v : Value) (X : List ChT) (x : ChT) (hs : a.eval s = v) (hown : ChI w base v X) (gs : Nat) (c : Nat) (hx : a.eval y = .slice (some ⟨gs, 0, none⟩) 1 c) (hc : ∀ j, j < 2 → w.cell? ⟨gs, j, none⟩ = (encC x)[j]?)
    (hroom : X.length ≤ 200000) (hbase : base ≤ w.heap.size)
    (hK : ∀ g cap w', w'.ownsRow base 49 2 (.slice (some ⟨g, 0, none⟩) (X.length + 1) cap) (X ++ [x]).length ((X ++ [x]).flatMap encC) → w.grownBy w' v.ownBlock → (v.ownBlock = some g ∨ g = w.heap.size) → base ≤ g → g < w'.heap.size → wpList Try.prog ops Q rest (a.put o.dst (.slice (some ⟨g, 0, none⟩) (X.length + 1) cap)) w') : wpList Try.prog ops Q (o :: rest) a w :=
  wpList_append_row (enc := encC) Try.underlying27 infoChain rfl (by omega) (by omega) encC_len hgd s y ho base v X x (encC_one x) hs hown.row gs c hx hc hroom hbase hK
theorem cellsC2 (w : World) (t : TypeId) (g : Nat) (hg : w.heap.size = g) (x : ChT) : ∀ j, j < 2 → (w.alloc (.cells #[.slice x.1.1 x.2.1.length x.1.2, .int .i64 x.2.2] t)).cell? ⟨g, j, none⟩ = (encC x)[j]? := by
  intro j hj
  rw [cell_new' hg]
  match j, hj with
  | 0, _ => rfl
  | 1, _ => rfl
/-- What is taken away keeps the numbers small. -/
theorem take_bd {Z : List ArcT} {f : List Int} {u v : Nat} {l : List StepT} (hc : ∀ a ∈ Z, capN a ≤ 1048576) (hf : Flow Z f) (h : Takes Z f u v l) :
    (1 ≤ leastK f l ∧ leastK f l ≤ 1048576) ∧ (∀ x ∈ l, ∃ p : Nat, x.1 = (p : Int) ∧ p < f.length) ∧ l.length ≤ f.length ∧
    ∀ m, m ≤ l.length → ∀ p, p < f.length → -8796093022208 ≤ atI (takeK (leastK f l) f (l.take m)) p ∧ atI (takeK (leastK f l) f (l.take m)) p ≤ 8796093022208 := by
  have hm := fun x hx => along_arc hf.1 (h.mem x hx)
  have hlen : ∀ x ∈ l, x.1.toNat < f.length := fun x hx => by rw [hf.1]; exact (List.getElem?_eq_some_iff.1 (arcOf_at (hm x hx).1)).1
  have hb : ∀ p, p < f.length → 0 ≤ atI f p ∧ atI f p ≤ 1048576 := fun p hp => by
    have hp2 : p < Z.length := by rw [← hf.1]; exact hp
    have h1 := hf.2 p _ (List.getElem?_eq_getElem hp2)
    have h2 := hc _ (List.getElem_mem hp2)
    omega
  have hn := toNat_nodup (fun y hy => (hm y hy).1) h.once
  have h1 := (h.props hf).1
  have h2 : leastK f l ≤ 1048576 := by
    obtain ⟨x, hx, ex⟩ := least_is (f := f) h.some
    have := hb _ (hlen x hx)
    omega
  refine ⟨⟨h1, h2⟩, fun x hx => ⟨x.1.toNat, by have h3 := (hm x hx).1; unfold isArc at h3; omega, hlen x hx⟩, ?_, fun m hml p hp => ?_⟩
  · have e1 : l.length = (l.map fun x => x.1.toNat).length := by simp
    rw [e1]
    exact nodup_le hn (fun v hv => by
      obtain ⟨x, hx, rfl⟩ := List.mem_map.1 hv
      exact hlen x hx)
  · have h3 := hb p hp
    have hsub : ∀ x ∈ l.take m, x ∈ l := fun x hx => List.mem_of_mem_take hx
    by_cases he : ∃ x ∈ l.take m, x.1.toNat = p
    · obtain ⟨x, hx, rfl⟩ := he
      rw [takeK_at (l.take m) f (fun y hy => hlen y (hsub y hy)) (by rw [List.map_take]; exact List.Nodup.sublist (List.take_sublist _ _) hn) x hx]
      omega
    · rw [takeK_other (l.take m) f (fun x hx => ⟨hlen x (hsub x hx), fun e => he ⟨x, hx, e⟩⟩)]
      omega
end Go.Proofs.Ytmflleifglefiaa
