/- A map of a call's own whose keys are slots: what it has at each; a range over it, in whatever order. -/
import Derived.Test.YtlkbohpnlbfopaaGreatBQ
import Derived.Maps.RangeWalk
namespace Go.Proofs.YtlkbohpnlbfopaaGreat
open Go.RowKit Go.Maps
set_option linter.unusedVariables false
def rawV (v : Value) : Option (DataW Value × List MemPlace) := some (.held v, [])
def slotV (p : Int × Int) : Value := .agg #[.int .i64 p.1, .int .i64 p.2]
theorem slotV_inj {p q : Int × Int} (h : slotV p = slotV q) : p = q := by
  obtain ⟨a, b⟩ := p
  obtain ⟨c, d⟩ := q
  simp [slotV] at h
  rw [h.1, h.2]
section
variable {β : Type} {mk : β → Value}
def SlotD (mk : β → Value) (D : DataW Value) (f : Int × Int → Option β) : Prop :=
  (∀ p kl, keyOf Tryz.prog 59 (slotV p) = some kl → (∀ c, f p = some c → Maps.has D kl = true ∧ ∀ z, D.atKey kl z = .held (mk c)) ∧ (f p = none → Maps.has D kl = false)) ∧ ∀ kl, Maps.has D kl = true → ∃ p, keyOf Tryz.prog 59 (slotV p) = some kl
def SlotM (mk : β → Value) (w : World) (b m : Nat) (f : Int × Int → Option β) : Prop :=
  ∃ (n : Nat) (D : DataW Value), n ≤ m ∧ w.ownsMap Tryz.prog 59 rawV b n D ∧ SlotD mk D f
def SlotR (mk : β → Value) (w : World) (b r m : Nat) (f : Int × Int → Option β) (left : Int × Int → Bool) (cnt : Nat) : Prop :=
  ∃ (n : Nat) (D : DataW Value) (L : Lit → Bool), n ≤ m ∧ w.ranges Tryz.prog 59 rawV b r n D L cnt ∧ SlotD mk D f ∧ (∀ kl, L kl = true → Maps.has D kl = true) ∧ ∀ p kl, keyOf Tryz.prog 59 (slotV p) = some kl → left p = L kl
variable {w w' : World} {b r m cnt : Nat} {f : Int × Int → Option β} {left : Int × Int → Bool}
theorem SlotM.made (w : World) : SlotM mk (w.alloc (.map #[] 0)) w.heap.size 0 (fun _ => none) :=
  ⟨0, .map [], Nat.le_refl _, World.ownsMap_made _ _ _ _, fun p kl h => ⟨(fun c e => by cases e), fun _ => rfl⟩, (fun kl e => by cases e)⟩
theorem SlotM.lt (h : SlotM mk w b m f) : b < w.heap.size := by
  obtain ⟨n, D, hn, hm, hx⟩ := h
  exact hm.lt
theorem SlotM.ne_box (h : SlotM mk w b m f) {g : Nat} {c : Array Value} {t : TypeId} {z : Nat × Nat} (hc : w.heap[g]? = some (.cells c t z)) : g ≠ b := by
  rintro rfl
  obtain ⟨n, D, hn, ⟨es, clock, h1, h2⟩, hx⟩ := h
  rw [h1] at hc
  cases hc
theorem SlotM.old (h : SlotM mk w b m f) (he : w'.heap[b]? = w.heap[b]?) : SlotM mk w' b m f := by
  obtain ⟨n, D, hn, ⟨es, clock, h1, h2⟩, hx⟩ := h
  exact ⟨n, D, hn, ⟨es, clock, he.trans h1, h2⟩, hx⟩
theorem SlotM.kept {row : Option Nat} (h : SlotM mk w b m f) (hg : w.grownBy w' row) (hne : some b ≠ row) : SlotM mk w' b m f := h.old (hg.block b h.lt hne)
theorem SlotM.below (h : SlotM mk w b m f) (hb : Below w.heap.size w w') : SlotM mk w' b m f := h.old (hb.block b h.lt)
theorem SlotM.keptS {S : Nat → Prop} (h : SlotM mk w b m f) (hk : Kept S w w') (hn : ¬ S b) : SlotM mk w' b m f := h.old (hk.block b h.lt hn)
theorem SlotM.mono {k : Nat} (h : SlotM mk w b m f) (hk : m ≤ k) : SlotM mk w b k f := by
  obtain ⟨n, D, hn, hm, hx⟩ := h
  exact ⟨n, D, Nat.le_trans hn hk, hm, hx⟩
theorem SlotM.congr {g : Int × Int → Option β} (h : SlotM mk w b m f) (e : ∀ p, f p = g p) : SlotM mk w b m g := by
  rw [show g = f from funext fun p => (e p).symm]; exact h
theorem slot_key {p : Int × Int} (h : okP p) : ∃ kl, keyOf Tryz.prog 59 (slotV p) = some kl := keyOf_slot h
theorem SlotR.lt (h : SlotR mk w b r m f left cnt) : r < w.heap.size := by
  obtain ⟨n, D, L, hn, hr, hD, _⟩ := h
  exact hr.lt
theorem SlotR.kept {row : Option Nat} (h : SlotR mk w b r m f left cnt) (hg : w.grownBy w' row) (hb : some b ≠ row) (hr : some r ≠ row) : SlotR mk w' b r m f left cnt := by
  obtain ⟨n, D, L, hn, hrg, hD, hl, hp⟩ := h
  exact ⟨n, D, L, hn, hrg.kept hg hb hr, hD, hl, hp⟩
theorem SlotR.below (h : SlotR mk w b r m f left cnt) (hb : Below w.heap.size w w') : SlotR mk w' b r m f left cnt :=
  h.kept ⟨hb.os, hb.tape, hb.output, hb.size, fun i hi _ => hb.block i hi⟩ (by simp) (by simp) (row := none)
theorem SlotR.drew (h : SlotR mk w b r m f left cnt) : SlotR mk w.drew b r m f left cnt := h
end
end Go.Proofs.YtlkbohpnlbfopaaGreat
