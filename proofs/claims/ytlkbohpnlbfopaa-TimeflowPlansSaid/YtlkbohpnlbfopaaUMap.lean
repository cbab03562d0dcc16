/- A map of a call's own whose keys are slots: what it has at each; a range over it, in whatever order. -/
import Derived.Test.YtlkbohpnlbfopaaBQ
import Derived.Maps.RangeWalk
namespace Go.Proofs.Ytlkbohpnlbfopaa
open Go.RowKit Go.Maps
set_option linter.unusedVariables false
def rawV (v : Value) : Option (DataW Value × List MemPlace) := some (.held v, [])
def slotV (p : Int × Int) : Value := .agg #[.int .i64 p.1, .int .i64 p.2]
theorem slotV_inj {p q : Int × Int} (h : slotV p = slotV q) : p = q := by
  obtain ⟨a, b⟩ := p
  obtain ⟨c, d⟩ := q
  simp [slotV] at h
  rw [h.1, h.2]
section
variable {β : Type} {mk : β → Value}
def SlotD (mk : β → Value) (D : DataW Value) (f : Int × Int → Option β) : Prop :=
  (∀ p kl, keyOf Try.prog 56 (slotV p) = some kl → (∀ c, f p = some c → Maps.has D kl = true ∧ ∀ z, D.atKey kl z = .held (mk c)) ∧ (f p = none → Maps.has D kl = false)) ∧ ∀ kl, Maps.has D kl = true → ∃ p, keyOf Try.prog 56 (slotV p) = some kl
def SlotM (mk : β → Value) (w : World) (b m : Nat) (f : Int × Int → Option β) : Prop :=
  ∃ (n : Nat) (D : DataW Value), n ≤ m ∧ w.ownsMap Try.prog 56 rawV b n D ∧ SlotD mk D f
def SlotR (mk : β → Value) (w : World) (b r m : Nat) (f : Int × Int → Option β) (left : Int × Int → Bool) (cnt : Nat) : Prop :=
  ∃ (n : Nat) (D : DataW Value) (L : Lit → Bool), n ≤ m ∧ w.ranges Try.prog 56 rawV b r n D L cnt ∧ SlotD mk D f ∧ (∀ kl, L kl = true → Maps.has D kl = true) ∧ ∀ p kl, keyOf Try.prog 56 (slotV p) = some kl → left p = L kl
variable {w w' : World} {b r m cnt : Nat} {f : Int × Int → Option β} {left : Int × Int → Bool}
theorem SlotM.made (w : World) : SlotM mk (w.alloc (.map #[] 0)) w.heap.size 0 (fun _ => none) :=
  ⟨0, .map [], Nat.le_refl _, World.ownsMap_made _ _ _ _, fun p kl h => ⟨(fun c e => by cases e), fun _ => rfl⟩, (fun kl e => by cases e)⟩
theorem SlotM.lt (h : SlotM mk w b m f) : b < w.heap.size := by
  obtain ⟨n, D, hn, hm, hx⟩ := h
  exact hm.lt
theorem SlotM.ne_box (h : SlotM mk w b m f) {g : Nat} {c : Array Value} {t : TypeId} {z : Nat × Nat} (hc : w.heap[g]? = some (.cells c t z)) : g ≠ b := by
  rintro rfl
  obtain ⟨n, D, hn, ⟨es, clock, h1, h2⟩, hx⟩ := h
  rw [h1] at hc
  cases hc
theorem SlotM.old (h : SlotM mk w b m f) (he : w'.heap[b]? = w.heap[b]?) : SlotM mk w' b m f := by
  obtain ⟨n, D, hn, ⟨es, clock, h1, h2⟩, hx⟩ := h
  exact ⟨n, D, hn, ⟨es, clock, he.trans h1, h2⟩, hx⟩
theorem SlotM.kept {row : Option Nat} (h : SlotM mk w b m f) (hg : w.grownBy w' row) (hne : some b ≠ row) : SlotM mk w' b m f := h.old (hg.block b h.lt hne)
theorem SlotM.below (h : SlotM mk w b m f) (hb : Below w.heap.size w w') : SlotM mk w' b m f := h.old (hb.block b h.lt)
theorem SlotM.keptS {S : Nat → Prop} (h : SlotM mk w b m f) (hk : Kept S w w') (hn : ¬ S b) : SlotM mk w' b m f := h.old (hk.block b h.lt hn)
theorem SlotM.mono {k : Nat} (h : SlotM mk w b m f) (hk : m ≤ k) : SlotM mk w b k f := by
  obtain ⟨n, D, hn, hm, hx⟩ := h
  exact ⟨n, D, Nat.le_trans hn hk, hm, hx⟩
theorem SlotM.congr {g : Int × Int → Option β} (h : SlotM mk w b m f) (e : ∀ p, f p = g p) : SlotM mk w b m g := by
  rw [show g = f from funext fun p => (e p).symm]; exact h
theorem slot_key {p : Int × Int} (h : okP p) : ∃ kl, keyOf Try.prog 56 (slotV p) = some kl := keyOf_slot h
theorem SlotR.lt (h : SlotR mk w b r m f left cnt) : r < w.heap.size := by
  obtain ⟨n, D, L, hn, hr, hD, _⟩ := h
  exact hr.lt
theorem SlotR.left_eq (h : SlotR mk w b r m f left cnt) : w.rangeLeft b r = cnt := by
  obtain ⟨n, D, L, hn, hr, hD, _⟩ := h
  exact hr.left_eq
theorem SlotR.kept {row : Option Nat} (h : SlotR mk w b r m f left cnt) (hg : w.grownBy w' row) (hb : some b ≠ row) (hr : some r ≠ row) : SlotR mk w' b r m f left cnt := by
  obtain ⟨n, D, L, hn, hrg, hD, hl, hp⟩ := h
  exact ⟨n, D, L, hn, hrg.kept hg hb hr, hD, hl, hp⟩
theorem SlotR.below (h : SlotR mk w b r m f left cnt) (hb : Below w.heap.size w w') : SlotR mk w' b r m f left cnt :=
  h.kept ⟨hb.os, hb.tape, hb.output, hb.size, fun i hi _ => hb.block i hi⟩ (by simp) (by simp) (row := none)
theorem SlotR.drew (h : SlotR mk w b r m f left cnt) : SlotR mk w.drew b r m f left cnt := h
theorem wpList_range_slot {ops : Array Oper} {rest : List Oper} {o : Oper} {a : Act} {Q : Exit → Act → World → Prop} (hg : o.guard = none) (mo : Operand) (t e : TypeId) (hop : o.op = Op.range t mo)
    (ht : Try.prog.underlying t = some (.map 56 e)) (h : SlotM mk w b m f) (hm : a.eval mo = .map (some b))
    (hK : ∀ w' cnt, SlotR mk w' b w.heap.size m f (fun p => (f p).isSome) cnt → w.grownBy w' none → w'.heap.size = w.heap.size + 1 → wpList Try.prog ops Q rest (a.put o.dst (.pointer (some ⟨w.heap.size, 0, none⟩))) w') : wpList Try.prog ops Q (o :: rest) a w := by
  obtain ⟨n, D, hn, hown, hD⟩ := h
  refine wpList_range_own w hg mo t hop 56 e lawSlot ht _ b n D hm hown ?_
  intro w' h1 h2 h3
  refine hK w' _ ⟨n, D, _, hn, h1, hD, fun kl e => e, fun p kl hk => ?_⟩ h2 h3
  cases hf : f p with
  | none => rw [(hD.1 p kl hk).2 hf]; show (f p).isSome = false; rw [hf]; rfl
  | some c => rw [((hD.1 p kl hk).1 c hf).1]; show (f p).isSome = true; rw [hf]; rfl
theorem wpList_next_slot {ops : Array Oper} {rest : List Oper} {o : Oper} {a : Act} {Q : Exit → Act → World → Prop} (hg : o.guard = none) (it : Operand) (hop : o.op = Op.next it false)
    (hit : a.eval it = .pointer (some ⟨r, 0, none⟩)) (h : SlotR mk w b r m f left cnt)
    (hDone : (∀ p, okP p → left p = false) → wpList Try.prog ops Q rest (a.put o.dst (.tuple #[.bool false])) w)
    (hMore : ∀ (p : Int × Int) (c : β) (w' : World) (cnt' : Nat), left p = true → f p = some c → SlotR mk w' b r m f (fun q => left q && !decide (q = p)) cnt' → cnt' < cnt → w.grownBy w' (some r) → w'.heap.size = w.heap.size →
      (Instr.entry (.pointer (some ⟨r, 0, none⟩))).run Try.prog w' = .ok (.tuple #[.agg #[.int .i64 p.1, .int .i64 p.2], mk c]) w' → wpList Try.prog ops Q rest (a.put o.dst (.tuple #[.bool true, .agg #[.int .i64 p.1, .int .i64 p.2], mk c])) w') :
    wpList Try.prog ops Q (o :: rest) a w := by
  obtain ⟨n, D, L, hn, hrg, hD, hL, hp⟩ := h
  refine wpList_next_ranges w hg it hop 56 lawSlot rawV id id (fun key kl _ => ⟨key, rfl⟩) (fun v y _ => ⟨v, rfl⟩) b r n D L cnt hit hrg (fun _ hl => hDone (fun p hok => ?_)) ?_
  · obtain ⟨kl, hk⟩ := slot_key hok
    rw [hp p kl hk, hl]
  · intro key v kl y w' cnt' hkey hlk hv hat hrg' hlt hgr hsz hen
    obtain ⟨p, hpk⟩ := hD.2 kl (hL kl hlk)
    have ek : key = slotV p := lawSlot.inj hkey hpk
    subst ek
    have hlp : left p = true := by rw [hp p kl hpk]; exact hlk
    cases hf : f p with
    | none =>
      have := (hD.1 p kl hpk).2 hf
      rw [hL kl hlk] at this
      cases this
    | some c =>
      have h1 : y.1 = .held (mk c) := by rw [← hat (.held v)]; exact ((hD.1 p kl hpk).1 c hf).2 _
      have h2 : DataW.held v = y.1 := by
        have := congrArg (fun o => o.map Prod.fst) hv
        simpa [rawV] using this
      rw [h1] at h2
      cases h2
      refine hMore p c w' cnt' hlp hf ⟨n, D, _, hn, hrg', hD, fun kl' e => hL kl' (by rw [Bool.and_eq_true] at e; exact e.1), fun q kl' hq => ?_⟩ hlt hgr hsz hen
      show (left q && !decide (q = p)) = (L kl' && !kl'.sameKey kl)
      rw [hp q kl' hq]
      by_cases e : q = p
      · subst e
        rw [hpk] at hq
        cases hq
        rw [decide_eq_true rfl, WideAt.sameKey_self (lawSlot.key hpk)]
      · have hne : kl' ≠ kl := by
          rintro rfl
          exact e (slotV_inj (lawSlot.inj hq hpk))
        rw [decide_eq_false e, sameKey_ne hne]
end
end Go.Proofs.Ytlkbohpnlbfopaa
