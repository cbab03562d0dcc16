/- A map of a call's own from keys to their numbers: which keys it has, and what is found there. -/
import Derived.Test.YtieomjkiabfhcaaTKeyed
namespace Go.Proofs.Ytieomjkiabfhcaa
open Go.RowKit Go.Maps
set_option linter.unusedVariables false

section
variable {α : Type} {k t : TypeId} {enc : α → List Value}
/-- Block b is a map that has just these keys, each with its place in the list. -/
def MapIs (k : TypeId) (enc : α → List Value) (w : World) (b : Nat) (keys : List α) : Prop :=
  ∃ (n : Nat) (D : DataW Unit), n ≤ keys.length ∧ w.ownsMap Try.prog k (plainElem Try.prog 3) b n D ∧
    ∀ x kl, keyOf Try.prog k (.agg (enc x).toArray) = some kl → (x ∈ keys → Maps.has D kl = true ∧ ∃ j : Nat, keys[j]? = some x ∧ D.atKey kl (.lit (.int .i64 0)) = .lit (.int .i64 j)) ∧ (x ∉ keys → Maps.has D kl = false)
theorem MapIs.made (w : World) : MapIs k enc (w.alloc (.map #[] 0)) w.heap.size ([] : List α) :=
  ⟨0, .map [], Nat.le_refl _, World.ownsMap_made _ _ _ _, fun x kl h => ⟨fun h => by simp at h, fun _ => rfl⟩⟩
theorem MapIs.kept {w w' : World} {b : Nat} {keys : List α} {row : Option Nat} (h : MapIs k enc w b keys) (hg : w.grownBy w' row) (hne : some b ≠ row) : MapIs k enc w' b keys := by
  obtain ⟨n, D, hn, hm, hx⟩ := h
  exact ⟨n, D, hn, hm.kept hg hne, hx⟩
theorem MapIs.below {w w' : World} {b B : Nat} {keys : List α} (h : MapIs k enc w b keys) (hg : Below B w w') (hb : b < B) : MapIs k enc w' b keys := by
  obtain ⟨n, D, hn, ⟨es, clock, h1, h2⟩, hx⟩ := h
  exact ⟨n, D, hn, ⟨es, clock, (hg.block b hb).trans h1, h2⟩, hx⟩
theorem MapIs.lt {w : World} {b : Nat} {keys : List α} (h : MapIs k enc w b keys) : b < w.heap.size := by
  obtain ⟨n, D, hn, hm, hx⟩ := h
  exact hm.lt
theorem zeroInt (w : World) : (zeroValue 3).run Try.prog w = .ok (.int .i64 0) w := by kernel_rfl
theorem wpList_look_yes {w : World} {ops : Array Oper} {rest : List Oper} {o : Oper} {a : Act} {Q : Exit → Act → World → Prop}
    (law : Keyed Try.prog k) (ht : Try.prog.underlying t = some (.map k 3)) (hg : o.guard = none) (m x : Operand) (hop : o.op = Op.lookup t m x true)
    (b : Nat) (keys : List α) (z : α) (hmap : MapIs k enc w b keys) (hz : z ∈ keys) (kl : Lit) (hkey : keyOf Try.prog k (.agg (enc z).toArray) = some kl)
    (hm : a.eval m = .map (some b)) (hx : a.eval x = .agg (enc z).toArray)
    (hK : ∀ j : Nat, keys[j]? = some z → wpList Try.prog ops Q rest (a.put o.dst (.tuple #[.int .i64 (j : Int), .bool true])) w) : wpList Try.prog ops Q (o :: rest) a w := by
  obtain ⟨n, D, hn, hown, hD⟩ := hmap
  obtain ⟨h1, j, hj, hat⟩ := (hD z kl hkey).1 hz
  refine wpList_lookup_own_ok_int w hg m x t hop k 3 .i64 law ht Try.underlying3 (zeroInt w) b n D hm hown _ kl hx hkey ?_
  intro c hc _
  rw [hat] at hc
  cases hc
  rw [h1]
  exact hK j hj
theorem wpList_look_no {w : World} {ops : Array Oper} {rest : List Oper} {o : Oper} {a : Act} {Q : Exit → Act → World → Prop}
    (law : Keyed Try.prog k) (ht : Try.prog.underlying t = some (.map k 3)) (hg : o.guard = none) (m x : Operand) (hop : o.op = Op.lookup t m x true)
    (b : Nat) (keys : List α) (z : α) (hmap : MapIs k enc w b keys) (hz : z ∉ keys) (kl : Lit) (hkey : keyOf Try.prog k (.agg (enc z).toArray) = some kl)
    (hm : a.eval m = .map (some b)) (hx : a.eval x = .agg (enc z).toArray)
    (hK : wpList Try.prog ops Q rest (a.put o.dst (.tuple #[.int .i64 0, .bool false])) w) : wpList Try.prog ops Q (o :: rest) a w := by
  obtain ⟨n, D, hn, hown, hD⟩ := hmap
  have h1 := (hD z kl hkey).2 hz
  refine wpList_lookup_own_ok_int w hg m x t hop k 3 .i64 law ht Try.underlying3 (zeroInt w) b n D hm hown _ kl hx hkey ?_
  intro c hc _
  rw [atKey_of_not_has h1] at hc
  cases hc
  rw [h1]
  exact hK
theorem wpList_store_key {w : World} {ops : Array Oper} {rest : List Oper} {o : Oper} {a : Act} {Q : Exit → Act → World → Prop}
    (law : Keyed Try.prog k) (ht : Try.prog.underlying t = some (.map k 3)) (hinj : ∀ x y : α, enc x = enc y → x = y) (hg : o.guard = none) (m x v : Operand) (hop : o.op = Op.mapUpdate t m x v)
    (b : Nat) (keys : List α) (z : α) (hmap : MapIs k enc w b keys) (hz : z ∉ keys) (hl : keys.length < 200000) (kl : Lit) (hkey : keyOf Try.prog k (.agg (enc z).toArray) = some kl)
    (hm : a.eval m = .map (some b)) (hx : a.eval x = .agg (enc z).toArray) (hv : a.eval v = .int .i64 (keys.length : Int))
    (hK : ∀ w', MapIs k enc w' b (keys ++ [z]) → w.grownBy w' (some b) → wpList Try.prog ops Q rest (a.put o.dst undef) w') : wpList Try.prog ops Q (o :: rest) a w := by
  obtain ⟨n, D, hn, hown, hD⟩ := hmap
  refine wpList_mapUpdate_own w hg m x v t hop k 3 law ht _ b n D hm hown (by unfold maxLen; omega) _ _ kl hx hv hkey _ [] (plainElem_int Try.underlying3 (wf_of_in64 (by unfold in64; omega))) ?_
  intro w' h1 h2
  refine hK w' ⟨n + 1, _, by simp; omega, h1, ?_⟩ h2
  intro y yl hy
  have hM := hown.isMap
  by_cases hyz : y = z
  · subst hyz
    rw [hkey] at hy
    cases hy
    refine ⟨fun _ => ⟨has_put_same hM (law.key hkey) _, keys.length, by simp, atKey_put_same hM (law.key hkey) _ _⟩, fun h => absurd (by simp) h⟩
  · have hne : yl ≠ kl := by
      rintro rfl
      have e := law.inj hy hkey
      simp at e
      exact hyz (hinj _ _ e)
    rw [has_put_other hne, atKey_put_other hne]
    refine ⟨fun h => ?_, fun h => ?_⟩
    · have hy' : y ∈ keys := by
        rcases List.mem_append.1 h with h | h
        · exact h
        · simp at h; exact absurd h hyz
      obtain ⟨a1, j, hj, a2⟩ := (hD y yl hy).1 hy'
      exact ⟨a1, j, by rw [List.getElem?_append_left (List.getElem?_eq_some_iff.1 hj).1]; exact hj, a2⟩
    · exact (hD y yl hy).2 (fun h' => h (List.mem_append_left _ h'))
end
theorem encK_inj (x y : Int × Int × Int) (h : encK x = encK y) : x = y := by
  obtain ⟨a, b, c⟩ := x; obtain ⟨d, e, f⟩ := y; simp [encK] at h; obtain ⟨rfl, rfl, rfl⟩ := h; rfl
theorem encP_inj (x y : Int × Int) (h : encP x = encP y) : x = y := by
  obtain ⟨a, b⟩ := x; obtain ⟨d, e⟩ := y; simp [encP] at h; obtain ⟨rfl, rfl⟩ := h; rfl
end Go.Proofs.Ytieomjkiabfhcaa
