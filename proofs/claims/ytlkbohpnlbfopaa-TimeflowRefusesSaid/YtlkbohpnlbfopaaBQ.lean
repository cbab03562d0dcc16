/- Lemmas of the layers below, several texts in one. -/
import Derived.Test.YtlkbohpnlbfopaaBB
import Derived.Test.YtlkbohpnlbfopaaBC
import Derived.Test.YtlkbohpnlbfopaaBD
import Derived.Test.YtlkbohpnlbfopaaBE
import Derived.Test.YtlkbohpnlbfopaaAFrame
import Derived.WalkKit
import Derived.Laws.BitsLemmas
import Derived.Laws.BitsAllLaws
import Derived.Laws.Bits128
import Derived.Below
import Derived.Deep.Draws
import Derived.Lib.Hide
import Derived.Maps.AppendAt
import Derived.Test.YtlkbohpnlbfopaaRows
import Derived.Maps.OwnSet
import Derived.DeepKeys4
import Derived.WideKeyPair
import Derived.LoopTactic
namespace Go.Proofs.Ytlkbohpnlbfopaa
open Go.RowKit
def fitB (x : Int) : Bool := decide (-9223372036854775808 ≤ x ∧ x ≤ 9223372036854775807)
def fitV (x : Int) : Int := if fitB x = true then x else 0
theorem fitB_yes {x : Int} (h : -9223372036854775808 ≤ x ∧ x ≤ 9223372036854775807) : fitB x = true := by unfold fitB; exact decide_eq_true h
theorem fitB_no {x : Int} (h : ¬ (-9223372036854775808 ≤ x ∧ x ≤ 9223372036854775807)) : fitB x = false := by unfold fitB; exact decide_eq_false h
theorem fitV_yes {x : Int} (h : -9223372036854775808 ≤ x ∧ x ≤ 9223372036854775807) : fitV x = x := by unfold fitV; rw [fitB_yes h]; rfl
theorem fitV_no {x : Int} (h : ¬ (-9223372036854775808 ≤ x ∧ x ≤ 9223372036854775807)) : fitV x = 0 := by unfold fitV; rw [fitB_no h]; rfl
def fitR (x : Int) : Value := .tuple #[.int .i64 (fitV x), .bool (fitB x)]
theorem fitR_yes {x : Int} (h : -9223372036854775808 ≤ x ∧ x ≤ 9223372036854775807) : fitR x = .tuple #[.int .i64 x, .bool true] := by unfold fitR; rw [fitV_yes h, fitB_yes h]
theorem fitR_no {x : Int} (h : ¬ (-9223372036854775808 ≤ x ∧ x ≤ 9223372036854775807)) : fitR x = .tuple #[.int .i64 0, .bool false] := by unfold fitR; rw [fitV_no h, fitB_no h]
theorem tup_eq {a b : Int} {t : Value} (h : a = b) : Value.tuple #[.int .i64 a, t] = .tuple #[.int .i64 b, t] := by rw [h]
def wr (x : Int) : Int := if 9223372036854775807 < x then 1 else if x < -9223372036854775808 then -1 else 0
def wv (x : Int) : Int := x - 18446744073709551616 * wr x
theorem wr_in {x : Int} (h1 : -9223372036854775808 ≤ x) (h2 : x ≤ 9223372036854775807) : wr x = 0 := by unfold wr; rw [if_neg (by omega), if_neg (by omega)]
theorem wr_up {x : Int} (h : 9223372036854775807 < x) : wr x = 1 := by unfold wr; rw [if_pos h]
theorem wr_dn {x : Int} (h : x < -9223372036854775808) : wr x = -1 := by unfold wr; rw [if_neg (by omega), if_pos h]
theorem wv_in {x : Int} (h1 : -9223372036854775808 ≤ x) (h2 : x ≤ 9223372036854775807) : wv x = x := by unfold wv; rw [wr_in h1 h2]; omega
theorem wv_wrap {x : Int} (h1 : -18446744073709551616 ≤ x) (h2 : x ≤ 18446744073709551614) : wv x = wrap64 x := by
  unfold wv wr wrap64; (repeat split) <;> omega
theorem wv_bd {x : Int} (h1 : -18446744073709551616 ≤ x) (h2 : x ≤ 18446744073709551614) : -9223372036854775808 ≤ wv x ∧ wv x ≤ 9223372036854775807 := by
  unfold wv wr; (repeat split) <;> omega
theorem wr_bd (x : Int) : -1 ≤ wr x ∧ wr x ≤ 1 := by unfold wr; (repeat split) <;> omega
def wrR (x : Int) : Value := .tuple #[.int .i64 (wv x), .int .i64 (wr x)]
theorem wrR_in {x : Int} (h1 : -9223372036854775808 ≤ x) (h2 : x ≤ 9223372036854775807) : wrR x = .tuple #[.int .i64 x, .int .i64 0] := by unfold wrR; rw [wv_in h1 h2, wr_in h1 h2]
theorem wrR_up {x : Int} (h : 9223372036854775807 < x) (h2 : x ≤ 18446744073709551614) : wrR x = .tuple #[.int .i64 (wrap64 x), .int .i64 1] := by unfold wrR; rw [wv_wrap (by omega) h2, wr_up h]
theorem wrR_dn {x : Int} (h : x < -9223372036854775808) (h2 : -18446744073709551616 ≤ x) : wrR x = .tuple #[.int .i64 (wrap64 x), .int .i64 (-1)] := by unfold wrR; rw [wv_wrap h2 (by omega), wr_dn h]
theorem wrap_up {a b : Int} (h : 9223372036854775807 < a + b) (ha2 : a ≤ 9223372036854775807) (hb2 : b ≤ 9223372036854775807) : wrap64 (a + b) < a := by unfold wrap64; omega
theorem wrap_dn {a b : Int} (h : a + b < -9223372036854775808) (ha2 : -9223372036854775808 ≤ a) (hb2 : -9223372036854775808 ≤ b) : a < wrap64 (a + b) := by unfold wrap64; omega
end Go.Proofs.Ytlkbohpnlbfopaa
namespace Go.Proofs.Ytlkbohpnlbfopaa
open Go.RowKit
theorem i64_and32 (n : Int) : bits .and .i64 n 4294967295 = n % 4294967296 := by
  have h : (BitVec.ofInt 64 4294967295).toNat = 2 ^ 32 - 1 := by decide
  have key : (BitVec.ofInt 64 n &&& BitVec.ofInt 64 4294967295).toNat = (n % ((2 ^ 64 : Nat) : Int)).toNat % 2 ^ 32 := by
    rw [BitVec.toNat_and, BitVec.toNat_ofInt, h, Nat.and_two_pow_sub_one_eq_mod]
  show IntKind.i64.wrap ((BitVec.ofInt 64 n &&& BitVec.ofInt 64 4294967295).toNat : Nat) = n % 4294967296
  rw [key, IntKind.wrap_i64]
  omega
end Go.Proofs.Ytlkbohpnlbfopaa
namespace Go.Proofs.Ytlkbohpnlbfopaa
open Go.RowKit Go.Maps
set_option linter.unusedVariables false
theorem wf_of_in64 {x : Int} (h : in64 x) : (Lit.int .i64 x).wf = true := by
  unfold in64 at h
  simp only [Lit.wf, IntKind.min, IntKind.max, IntKind.signed, IntKind.bits, Bool.and_eq_true, decide_eq_true_eq, if_true]
  omega
theorem laidOut0 : laidOutB Try.prog = true := by kernel_rfl
theorem lawArr : Keyed Try.prog 137 := Keyed.of_law (deep_law_laid laidOut0 (m := 3) (by omega) (of_decide_eq_true (by kernel_rfl)) (by kernel_rfl) (by kernel_rfl))
theorem lawSlot : Keyed Try.prog 56 := Keyed.of_law (deep_law_laid laidOut0 (m := 3) (by omega) (of_decide_eq_true (by kernel_rfl)) (by kernel_rfl) (by kernel_rfl))
theorem cellsArr : Try.prog.cellsOf 137 = 2 := by kernel_rfl
theorem cellsSlot : Try.prog.cellsOf 56 = 2 := by kernel_rfl
theorem ktArr : Try.prog.keyType 137 = true := by kernel_rfl
theorem ktSlot : Try.prog.keyType 56 = true := by kernel_rfl
theorem tySize : ∃ m, Try.prog.types.size = m + 1 := Nat.exists_eq_add_one_of_ne_zero (of_decide_eq_true (by kernel_rfl))
def encPQ (x : Int × Int) : List Value := [.int .i64 x.1, .int .i64 x.2]
def encK (x : Int × Int × Int) : List Value := [.int .i64 x.1, .int .i64 x.2.1, .int .i64 x.2.2]
def okP (x : Int × Int) : Prop := in64 x.1 ∧ in64 x.2
def okK (x : Int × Int × Int) : Prop := in64 x.1 ∧ in64 x.2.1 ∧ in64 x.2.2
theorem keyOf_arr {x : Int × Int} (h : okP x) : ∃ kl, keyOf Try.prog 137 (.agg (encPQ x).toArray) = some kl := by
  obtain ⟨a, b⟩ := x
  obtain ⟨ha, hb⟩ := h
  have wa := wf_of_in64 ha
  have wb := wf_of_in64 hb
  obtain ⟨m, hm⟩ := tySize
  refine ⟨.string (keyBytes [.int .i64 a, .int .i64 b]), ?_⟩
  unfold keyOf
  simp only [Try.underlying137]
  rw [if_pos (by simp [ktArr, Value.formed, Try.underlying137, cellsArr, encPQ]), hm]
  unfold Program.keyLits
  simp only [Try.underlying137, Value.cells]
  rw [if_pos (by rw [cellsArr]; rfl), show List.range 2 = [0, 1] from rfl, List.mapM_cons, List.mapM_cons, List.mapM_nil]
  simp [encPQ, cellsInt, Program.keyLits, Try.underlying3, wa, wb]
theorem keyOf_slot {x : Int × Int} (h : okP x) : ∃ kl, keyOf Try.prog 56 (.agg (encPQ x).toArray) = some kl := by
  obtain ⟨a, b⟩ := x
  obtain ⟨ha, hb⟩ := h
  have wa := wf_of_in64 ha
  have wb := wf_of_in64 hb
  obtain ⟨m, hm⟩ := tySize
  refine ⟨.string (keyBytes [.int .i64 a, .int .i64 b]), ?_⟩
  unfold keyOf
  simp only [Try.underlying56]
  rw [if_pos (by simp [ktSlot, Value.formed, Try.underlying56, cellsSlot, encPQ]), hm]
  unfold Program.keyLits
  simp only [Try.underlying56, Value.cells]
  rw [if_pos (by rw [cellsSlot]; exact ⟨rfl, by simp⟩)]
  simp [encPQ, cellsInt, Program.keyLits, Try.underlying3, wa, wb]
end Go.Proofs.Ytlkbohpnlbfopaa
namespace Go.Proofs.Ytlkbohpnlbfopaa
open Go.RowKit Go.Maps
set_option linter.unusedVariables false
section
variable {α : Type} {k t : TypeId} {enc : α → List Value}
def MapIs (k : TypeId) (enc : α → List Value) (w : World) (b : Nat) (keys : List α) : Prop :=
  ∃ (n : Nat) (D : DataW Unit), n ≤ keys.length ∧ w.ownsMap Try.prog k (plainElem Try.prog 3) b n D ∧
    ∀ x kl, keyOf Try.prog k (.agg (enc x).toArray) = some kl → (x ∈ keys → Maps.has D kl = true ∧ ∃ j : Nat, keys[j]? = some x ∧ D.atKey kl (.lit (.int .i64 0)) = .lit (.int .i64 j)) ∧ (x ∉ keys → Maps.has D kl = false)
theorem MapIs.made (w : World) : MapIs k enc (w.alloc (.map #[] 0)) w.heap.size ([] : List α) :=
  ⟨0, .map [], Nat.le_refl _, World.ownsMap_made _ _ _ _, fun x kl h => ⟨fun h => by simp at h, fun _ => rfl⟩⟩
theorem MapIs.kept {w w' : World} {b : Nat} {keys : List α} {row : Option Nat} (h : MapIs k enc w b keys) (hg : w.grownBy w' row) (hne : some b ≠ row) : MapIs k enc w' b keys := by
  obtain ⟨n, D, hn, hm, hx⟩ := h
  exact ⟨n, D, hn, hm.kept hg hne, hx⟩
theorem MapIs.below {w w' : World} {b B : Nat} {keys : List α} (h : MapIs k enc w b keys) (hg : Below B w w') (hb : b < B) : MapIs k enc w' b keys := by
  obtain ⟨n, D, hn, ⟨es, clock, h1, h2⟩, hx⟩ := h
  exact ⟨n, D, hn, ⟨es, clock, (hg.block b hb).trans h1, h2⟩, hx⟩
theorem MapIs.lt {w : World} {b : Nat} {keys : List α} (h : MapIs k enc w b keys) : b < w.heap.size := by
  obtain ⟨n, D, hn, hm, hx⟩ := h
  exact hm.lt
theorem zeroInt (w : World) : (zeroValue 3).run Try.prog w = .ok (.int .i64 0) w := by kernel_rfl
theorem wpList_look_yes {w : World} {ops : Array Oper} {rest : List Oper} {o : Oper} {a : Act} {Q : Exit → Act → World → Prop}
    (law : Keyed Try.prog k) (ht : Try.prog.underlying t = some (.map k 3)) (hg : o.guard = none) (m x : Operand) (hop : o.op = Op.lookup t m x true)
    (b : Nat) (keys : List α) (z : α) (hmap : MapIs k enc w b keys) (hz : z ∈ keys) (kl : Lit) (hkey : keyOf Try.prog k (.agg (enc z).toArray) = some kl)
    (hm : a.eval m = .map (some b)) (hx : a.eval x = .agg (enc z).toArray)
    (hK : ∀ j : Nat, keys[j]? = some z → wpList Try.prog ops Q rest (a.put o.dst (.tuple #[.int .i64 (j : Int), .bool true])) w) : wpList Try.prog ops Q (o :: rest) a w := by
  obtain ⟨n, D, hn, hown, hD⟩ := hmap
  obtain ⟨h1, j, hj, hat⟩ := (hD z kl hkey).1 hz
  refine wpList_lookup_own_ok_int w hg m x t hop k 3 .i64 law ht Try.underlying3 (zeroInt w) b n D hm hown _ kl hx hkey ?_
  intro c hc _
  rw [hat] at hc
  cases hc
  rw [h1]
  exact hK j hj
theorem wpList_look_no {w : World} {ops : Array Oper} {rest : List Oper} {o : Oper} {a : Act} {Q : Exit → Act → World → Prop}
    (law : Keyed Try.prog k) (ht : Try.prog.underlying t = some (.map k 3)) (hg : o.guard = none) (m x : Operand) (hop : o.op = Op.lookup t m x true)
    (b : Nat) (keys : List α) (z : α) (hmap : MapIs k enc w b keys) (hz : z ∉ keys) (kl : Lit) (hkey : keyOf Try.prog k (.agg (enc z).toArray) = some kl)
    (hm : a.eval m = .map (some b)) (hx : a.eval x = .agg (enc z).toArray)
    (hK : wpList Try.prog ops Q rest (a.put o.dst (.tuple #[.int .i64 0, .bool false])) w) : wpList Try.prog ops Q (o :: rest) a w := by
  obtain ⟨n, D, hn, hown, hD⟩ := hmap
  have h1 := (hD z kl hkey).2 hz
  refine wpList_lookup_own_ok_int w hg m x t hop k 3 .i64 law ht Try.underlying3 (zeroInt w) b n D hm hown _ kl hx hkey ?_
  intro c hc _
  rw [atKey_of_not_has h1] at hc
  cases hc
  rw [h1]
  exact hK
theorem wpList_store_key {w : World} {ops : Array Oper} {rest : List Oper} {o : Oper} {a : Act} {Q : Exit → Act → World → Prop}
    (law : Keyed Try.prog k) (ht : Try.prog.underlying t = some (.map k 3)) (hinj : ∀ x y : α, enc x = enc y → x = y) (hg : o.guard = none) (m x v : Operand) (hop : o.op = Op.mapUpdate t m x v)
    (b : Nat) (keys : List α) (z : α) (hmap : MapIs k enc w b keys) (hz : z ∉ keys) (hl : keys.length < 200000) (kl : Lit) (hkey : keyOf Try.prog k (.agg (enc z).toArray) = some kl)
    (hm : a.eval m = .map (some b)) (hx : a.eval x = .agg (enc z).toArray) (hv : a.eval v = .int .i64 (keys.length : Int))
    (hK : ∀ w', MapIs k enc w' b (keys ++ [z]) → w.grownBy w' (some b) → wpList Try.prog ops Q rest (a.put o.dst undef) w') : wpList Try.prog ops Q (o :: rest) a w := by
  obtain ⟨n, D, hn, hown, hD⟩ := hmap
  refine wpList_mapUpdate_own w hg m x v t hop k 3 law ht _ b n D hm hown (by unfold maxLen; omega) _ _ kl hx hv hkey _ [] (plainElem_int Try.underlying3 (wf_of_in64 (by unfold in64; omega))) ?_
  intro w' h1 h2
  refine hK w' ⟨n + 1, _, by simp; omega, h1, ?_⟩ h2
  intro y yl hy
  have hM := hown.isMap
  by_cases hyz : y = z
  · subst hyz
    rw [hkey] at hy
    cases hy
    refine ⟨fun _ => ⟨has_put_same hM (law.key hkey) _, keys.length, by simp, atKey_put_same hM (law.key hkey) _ _⟩, fun h => absurd (by simp) h⟩
  · have hne : yl ≠ kl := by
      rintro rfl
      have e := law.inj hy hkey
      simp at e
      exact hyz (hinj _ _ e)
    rw [has_put_other hne, atKey_put_other hne]
    refine ⟨fun h => ?_, fun h => ?_⟩
    · have hy' : y ∈ keys := by
        rcases List.mem_append.1 h with h | h
        · exact h
        · simp at h; exact absurd h hyz
      obtain ⟨a1, j, hj, a2⟩ := (hD y yl hy).1 hy'
      exact ⟨a1, j, by rw [List.getElem?_append_left (List.getElem?_eq_some_iff.1 hj).1]; exact hj, a2⟩
    · exact (hD y yl hy).2 (fun h' => h (List.mem_append_left _ h'))
end
theorem encP_inj (x y : Int × Int) (h : encPQ x = encPQ y) : x = y := by
  obtain ⟨a, b⟩ := x; obtain ⟨d, e⟩ := y; simp [encPQ] at h; obtain ⟨rfl, rfl⟩ := h; rfl
end Go.Proofs.Ytlkbohpnlbfopaa
namespace Go.Proofs.Ytlkbohpnlbfopaa
set_option linter.unusedVariables false
theorem snoc_induct {α : Type} {P : List α → Prop} (h0 : P []) (h1 : ∀ l x, P l → P (l ++ [x])) (l : List α) : P l := by
  rw [← List.reverse_reverse l]
  induction l.reverse with
  | nil => exact h0
  | cons x r ih => rw [List.reverse_cons]; exact h1 _ _ ih
section
variable {α : Type} [DecidableEq α]
def firsts (l : List α) : List α := l.foldl (fun ks x => if x ∈ ks then ks else ks ++ [x]) []
theorem firsts_nil : firsts ([] : List α) = [] := rfl
theorem firsts_snoc (l : List α) (x : α) : firsts (l ++ [x]) = if x ∈ firsts l then firsts l else firsts l ++ [x] := by unfold firsts; rw [List.foldl_append]; rfl
theorem mem_firsts' (l : List α) : ∀ x, x ∈ firsts l ↔ x ∈ l := by
  induction l using snoc_induct with
  | h0 => simp [firsts_nil]
  | h1 l y ih =>
    intro x
    rw [firsts_snoc, List.mem_append, List.mem_singleton]
    split
    · rename_i h
      rw [ih]
      rw [ih] at h
      exact ⟨.inl, fun e => e.elim id (fun e => e ▸ h)⟩
    · rw [List.mem_append, List.mem_singleton, ih]
theorem mem_firsts {l : List α} {x : α} : x ∈ firsts l ↔ x ∈ l := mem_firsts' l x
theorem nodup_firsts (l : List α) : (firsts l).Nodup := by
  induction l using snoc_induct with
  | h0 => simp [firsts_nil]
  | h1 l y ih =>
    rw [firsts_snoc]
    split
    · exact ih
    · rename_i h
      rw [List.nodup_append]
      refine ⟨ih, by simp, ?_⟩
      intro a ha b hb e
      simp at hb
      subst hb; subst e; exact h ha
theorem firsts_new {l : List α} {x : α} (h : x ∉ l) : firsts (l ++ [x]) = firsts l ++ [x] := by rw [firsts_snoc, if_neg (by rw [mem_firsts]; exact h)]
theorem firsts_old {l : List α} {x : α} (h : x ∈ l) : firsts (l ++ [x]) = firsts l := by rw [firsts_snoc, if_pos (by rw [mem_firsts]; exact h)]
theorem firsts_len (l : List α) : (firsts l).length ≤ l.length := by
  induction l using snoc_induct with
  | h0 => simp [firsts_nil]
  | h1 l y ih =>
    rw [firsts_snoc]
    split <;> simp <;> omega
def placesQ (l : List α) (k : α) : List Nat := (List.range l.length).filter fun i => decide (l[i]? = some k)
theorem places_snocQ (l : List α) (x k : α) : placesQ (l ++ [x]) k = placesQ l k ++ if x = k then [l.length] else [] := by
  unfold placesQ
  rw [List.length_append, List.length_singleton, List.range_succ, List.filter_append]
  congr 1
  · apply List.filter_congr
    intro i hi
    rw [List.mem_range] at hi
    rw [List.getElem?_append_left hi]
  · by_cases h : x = k
    · subst h; simp
    · simp [h]
theorem mem_places {l : List α} {k : α} {i : Nat} : i ∈ placesQ l k ↔ l[i]? = some k := by
  unfold placesQ
  rw [List.mem_filter, List.mem_range]
  constructor
  · intro h; exact of_decide_eq_true h.2
  · intro h; exact ⟨(List.getElem?_eq_some_iff.1 h).1, decide_eq_true h⟩
theorem places_none {l : List α} {k : α} (h : k ∉ l) : placesQ l k = [] := by
  apply List.eq_nil_iff_forall_not_mem.2
  intro i hi
  exact h (List.mem_of_getElem? (mem_places.1 hi))
theorem places_lenQ (l : List α) (k : α) : (placesQ l k).length ≤ l.length := by
  have := List.length_filter_le (fun i => decide (l[i]? = some k)) (List.range l.length)
  rw [List.length_range] at this
  exact this
def grps (l : List α) : List (List Nat) := (firsts l).map (placesQ l)
theorem grps_len (l : List α) : (grps l).length = (firsts l).length := by simp [grps]
theorem grps_new {l : List α} {x : α} (h : x ∉ l) : grps (l ++ [x]) = grps l ++ [[l.length]] := by
  unfold grps
  rw [firsts_new h, List.map_append]
  congr 1
  · apply List.map_congr_left
    intro k hk
    rw [places_snocQ, if_neg (by rintro rfl; exact h (mem_firsts.1 hk)), List.append_nil]
  · simp [places_snocQ, places_none h]
theorem grps_old {l : List α} {x : α} {j : Nat} (hj : (firsts l)[j]? = some x) : grps (l ++ [x]) = (grps l).set j (placesQ l x ++ [l.length]) := by
  have hx : x ∈ l := mem_firsts.1 (List.mem_of_getElem? hj)
  obtain ⟨hjl, hje⟩ := List.getElem?_eq_some_iff.1 hj
  apply List.ext_getElem?
  intro i
  unfold grps
  rw [firsts_old hx, List.getElem?_map, List.getElem?_set]
  by_cases hi : j = i
  · subst hi
    rw [if_pos rfl, hj]
    simp [hjl, places_snocQ]
  · rw [if_neg hi, List.getElem?_map]
    cases e : (firsts l)[i]? with
    | none => rfl
    | some k =>
      have hne : x ≠ k := by
        rintro rfl
        obtain ⟨hil, hie⟩ := List.getElem?_eq_some_iff.1 e
        exact hi ((List.getElem_inj (nodup_firsts l)).1 (hje.trans hie.symm))
      simp [places_snocQ, hne]
theorem grps_get {l : List α} {x : α} {j : Nat} (hj : (firsts l)[j]? = some x) : (grps l)[j]? = some (placesQ l x) := by
  unfold grps; rw [List.getElem?_map, hj]; rfl
theorem grps_getD {l : List α} {x : α} {j : Nat} (hj : (firsts l)[j]? = some x) : (grps l).getD j [] = placesQ l x := by
  rw [List.getD_eq_getElem?_getD, grps_get hj]; rfl
end
theorem take_snoc {α : Type} (L : List α) {t : Nat} (h : t < L.length) : L.take (t + 1) = L.take t ++ [L[t]] := by rw [List.take_succ_eq_append_getElem h]
theorem take_snoc' {α : Type} {L : List α} {t : Nat} {x : α} (h : L[t]? = some x) : L.take (t + 1) = L.take t ++ [x] := by
  obtain ⟨hl, e⟩ := List.getElem?_eq_some_iff.1 h
  rw [take_snoc L hl, e]
theorem getD_of_lt {α : Type} {L : List α} {t : Nat} (h : t < L.length) (d : α) : L.getD t d = L[t] := by rw [List.getD_eq_getElem?_getD, List.getElem?_eq_getElem h]; rfl
end Go.Proofs.Ytlkbohpnlbfopaa
namespace Go.Proofs.Ytlkbohpnlbfopaa
open Go.RowKit
set_option linter.unusedVariables false
def In64Q (zs : List Int) : Prop := ∀ z ∈ zs, -9223372036854775808 ≤ z ∧ z ≤ 9223372036854775807
theorem In64Q.at {zs : List Int} (h : In64Q zs) {i : Nat} (hi : i < zs.length) : -9223372036854775808 ≤ zs.getD i 0 ∧ zs.getD i 0 ≤ 9223372036854775807 := by
  rw [List.getD_eq_getElem?_getD, List.getElem?_eq_getElem hi]
  exact h _ (List.getElem_mem hi)
theorem sum_take (zs : List Int) {k : Nat} (hk : k < zs.length) : (zs.take (k + 1)).sum = (zs.take k).sum + zs.getD k 0 := by
  rw [List.take_succ_eq_append_getElem hk, List.sum_append, List.getD_eq_getElem?_getD, List.getElem?_eq_getElem hk]
  simp
theorem wv_wr (x : Int) : wv x + 18446744073709551616 * wr x = x := by unfold wv; omega
theorem addWrapped_any (a b : Int) (w : World) (ha1 : -9223372036854775808 ≤ a) (ha2 : a ≤ 9223372036854775807) (hb1 : -9223372036854775808 ≤ b) (hb2 : b ≤ 9223372036854775807) :
    Calls Try.prog 89 #[.int .i64 a, .int .i64 b] w fun e w' => e = .returned (wrR (a + b)) ∧ w = w' := by
  by_cases h1 : 9223372036854775807 < a + b
  · have hx := wrap_up h1 ha2 hb2
    go_enter Try.func89, Try.ntmps89
    go_wp2
    all_goals (go_ret2; exact ⟨ret_eq (wrR_up h1 (by omega)).symm, rfl⟩)
  by_cases h2 : a + b < -9223372036854775808
  · have hx := wrap_dn h2 ha1 hb1
    clear h1
    go_enter Try.func89, Try.ntmps89
    go_wp2
    all_goals (go_ret2; exact ⟨ret_eq (wrR_dn h2 (by omega)).symm, rfl⟩)
  replace h1 : a + b ≤ 9223372036854775807 := by omega
  replace h2 : -9223372036854775808 ≤ a + b := by omega
  go_enter Try.func89, Try.ntmps89
  go_wp2
  all_goals (go_ret2; exact ⟨ret_eq (wrR_in h2 h1).symm, rfl⟩)
theorem sum_none (ao : Option Addr) (cap : Nat) (w : World) :
    Calls Try.prog 79 #[.slice ao 0 cap] w fun e w' => e = .returned (fitR 0) ∧ w = w' := by
  rw [fitR_yes (by omega)]
  go_enter Try.func79, Try.ntmps79
  go_wp2
  refine wp_loop_rounds 1 ?_
  rw [rounds_succ]
  go_wp2
  go_ret2
  exact ⟨rfl, rfl⟩
theorem sum_some (ad : Addr) (cap : Nat) (zs : List Int) (w : World) (h : RI w (some ad) zs) (hz : In64Q zs) (hl : zs.length ≤ 140737488355328) :
    Calls Try.prog 79 #[.slice (some ad) zs.length cap] w fun e w' => e = .returned (fitR zs.sum) ∧ w = w' := by
  have H := Lib.hid h
  have HZ := Lib.hid hz
  clear h hz
  go_enter Try.func79, Try.ntmps79
  go_wp2
  go_loop [4, 5, 12] (fun u b v => ∃ (k : Nat) (x y : Int), k ≤ zs.length ∧ -9223372036854775808 ≤ x ∧ x ≤ 9223372036854775807 ∧ -(k : Int) ≤ y ∧ y ≤ k ∧ Hid (x + 18446744073709551616 * y = (zs.take k).sum) ∧ u = .int .i64 x ∧ b = .int .i64 y ∧ v = .int .i64 k) (fun _ _ v => zs.length - (intOf v).toNat)
  case atStart => exact ⟨0, 0, 0, by omega, by omega, by omega, by omega, by omega, Lib.hid (by simp), rfl, rfl, rfl⟩
  case round =>
    obtain ⟨k, x, y, hk, hx1, hx2, hy1, hy2, HX, rfl, rfl, rfl⟩ := hrel
    by_cases hlt : k < zs.length
    · obtain ⟨ad', he, hb, hcell⟩ := H.out k hlt
      obtain rfl := Option.some.inj he
      obtain ⟨hz1, hz2⟩ := HZ.out.at hlt
      have HT := Lib.hid (sum_take zs hlt)
      clear he hb
      generalize zs.getD k 0 = z at *
      obtain ⟨hv1, hv2⟩ := wv_bd (x := x + z) (by omega) (by omega)
      obtain ⟨hr1, hr2⟩ := wr_bd (x + z)
      have HE : Hid (wv (x + z) + 18446744073709551616 * (y + wr (x + z)) = (zs.take (k + 1)).sum) := Lib.hid (by rw [HT.out, ← HX.out]; have := wv_wr (x + z); omega)
      go_wp2_with (go_at_call 89; refine (addWrapped_any _ _ _ (by omega) (by omega) (by omega) (by omega)).mono ?_; rintro e w' ⟨rfl, rfl⟩; unfold wrR)
      go_round
      case rel => exact ⟨k + 1, wv (x + z), y + wr (x + z), by omega, hv1, hv2, by omega, by omega, HE, rfl, rfl, by go_num⟩
      case measure => simp [intOf]; omega
    · have HE : Hid (x + 18446744073709551616 * y = zs.sum) := Lib.hid (by rw [HX.out, List.take_of_length_le (by omega)])
      by_cases h0 : y = 0
      · subst h0
        have HV : Hid (fitR zs.sum = .tuple #[.int .i64 x, .bool true]) := Lib.hid (by rw [← HE.out, show x + 18446744073709551616 * 0 = x by omega]; exact fitR_yes ⟨hx1, hx2⟩)
        go_wp2
        go_ret2
        exact ⟨ret_eq HV.out.symm, rfl⟩
      · have HV : Hid (fitR zs.sum = .tuple #[.int .i64 0, .bool false]) := Lib.hid (fitR_no (by rw [← HE.out]; omega))
        go_wp2
        go_ret2
        exact ⟨ret_eq HV.out.symm, rfl⟩
theorem sum_any (ao : Option Addr) (len cap : Nat) (zs : List Int) (w : World) (he : zs.length = len) (h : RI w ao zs) (hz : In64Q zs) (hl : zs.length ≤ 140737488355328) :
    Calls Try.prog 79 #[.slice ao len cap] w fun e w' => e = .returned (fitR zs.sum) ∧ w = w' := by
  subst he
  cases zs with
  | nil => exact sum_none ao cap w
  | cons z zs =>
    obtain ⟨ad, rfl, _, _⟩ := h 0 (by simp)
    exact sum_some ad cap _ w h hz hl
theorem sumRef_none (ao : Option Addr) (cap : Nat) (w : World) :
    Calls Try.prog 28 #[.slice ao 0 cap] w fun e w' => e = .returned (fitR 0) ∧ w = w' := by
  rw [fitR_yes (by omega)]
  have e0 := i64_and32 0
  go_enter Try.func28, Try.ntmps28
  go_wp2
  refine wp_loop_rounds 1 ?_
  rw [rounds_succ]
  go_wp2
  go_ret2
  exact ⟨rfl, rfl⟩
theorem sumRef_some (ad : Addr) (cap : Nat) (zs : List Int) (w : World) (h : RI w (some ad) zs) (hz : In64Q zs) (hl : zs.length ≤ 1048576) :
    Calls Try.prog 28 #[.slice (some ad) zs.length cap] w fun e w' => e = .returned (fitR zs.sum) ∧ w = w' := by
  have H := Lib.hid h
  have HZ := Lib.hid hz
  clear h hz
  go_enter Try.func28, Try.ntmps28
  go_wp2
  go_loop [4, 5, 6] (fun u b v => ∃ (k : Nat) (x y : Int), k ≤ zs.length ∧ -2147483648 * (k : Int) ≤ x ∧ x ≤ 2147483648 * (k : Int) ∧ 0 ≤ y ∧ y ≤ 4294967295 * (k : Int) ∧ Hid (x * 4294967296 + y = (zs.take k).sum) ∧ u = .int .i64 x ∧ b = .int .i64 y ∧ v = .int .i64 k) (fun _ _ v => zs.length - (intOf v).toNat)
  case atStart => exact ⟨0, 0, 0, by omega, by omega, by omega, by omega, by omega, Lib.hid (by simp), rfl, rfl, rfl⟩
  case round =>
    obtain ⟨k, x, y, hk, hx1, hx2, hy1, hy2, HX, rfl, rfl, rfl⟩ := hrel
    by_cases hlt : k < zs.length
    · obtain ⟨ad', he, hb, hcell⟩ := H.out k hlt
      obtain rfl := Option.some.inj he
      obtain ⟨hz1, hz2⟩ := HZ.out.at hlt
      have HT := Lib.hid (sum_take zs hlt)
      clear he hb
      generalize zs.getD k 0 = z at *
      have HE : Hid ((x + z / 4294967296) * 4294967296 + (y + z % 4294967296) = (zs.take (k + 1)).sum) := Lib.hid (by rw [HT.out, ← HX.out]; omega)
      have ez := i64_and32 z
      go_wp2
      go_round
      case rel => exact ⟨k + 1, x + z / 4294967296, y + z % 4294967296, by omega, by omega, by omega, by omega, by omega, HE, rfl, rfl, by go_num⟩
      case measure => simp [intOf]; omega
    · have HE : Hid (x * 4294967296 + y = zs.sum) := Lib.hid (by rw [HX.out, List.take_of_length_le (by omega)])
      have ez := i64_and32 y
      by_cases h1 : x + y / 4294967296 < -2147483648
      · have HV : Hid (fitR zs.sum = .tuple #[.int .i64 0, .bool false]) := Lib.hid (fitR_no (by rw [← HE.out]; omega))
        go_wp2
        go_ret2
        exact ⟨ret_eq HV.out.symm, rfl⟩
      by_cases h2 : 2147483648 ≤ x + y / 4294967296
      · have HV : Hid (fitR zs.sum = .tuple #[.int .i64 0, .bool false]) := Lib.hid (fitR_no (by rw [← HE.out]; omega))
        clear h1
        go_wp2
        go_ret2
        exact ⟨ret_eq HV.out.symm, rfl⟩
      have HV : Hid (fitR zs.sum = .tuple #[.int .i64 ((x + y / 4294967296) * 4294967296 + y % 4294967296), .bool true]) := Lib.hid (by rw [fitR_yes (by rw [← HE.out]; omega)]; exact tup_eq (by rw [← HE.out]; omega))
      replace h1 : -2147483648 ≤ x + y / 4294967296 := by omega
      replace h2 : x + y / 4294967296 < 2147483648 := by omega
      go_wp2
      go_ret2
      exact ⟨ret_eq HV.out.symm, rfl⟩
theorem sumRef_any (ao : Option Addr) (len cap : Nat) (zs : List Int) (w : World) (he : zs.length = len) (h : RI w ao zs) (hz : In64Q zs) (hl : zs.length ≤ 1048576) :
    Calls Try.prog 28 #[.slice ao len cap] w fun e w' => e = .returned (fitR zs.sum) ∧ w = w' := by
  subst he
  cases zs with
  | nil => exact sumRef_none ao cap w
  | cons z zs =>
    obtain ⟨ad, rfl, _, _⟩ := h 0 (by simp)
    exact sumRef_some ad cap _ w h hz hl
end Go.Proofs.Ytlkbohpnlbfopaa
namespace Go.Proofs.Ytlkbohpnlbfopaa
open Go.RowKit
set_option linter.unusedVariables false
section
variable {α : Type} {enc : α → List Value} {k : Nat}
theorem flat_len (hk : ∀ x, (enc x).length = k) : ∀ A : List α, (A.flatMap enc).length = A.length * k
  | [] => by simp
  | x :: A => by rw [List.flatMap_cons, List.length_append, hk, flat_len hk A, List.length_cons, Nat.add_mul]; omega
theorem flat_split (hk : ∀ x, (enc x).length = k) (A : List α) {t : Nat} (ht : t < A.length * k) : ∃ i j, t = i * k + j ∧ j < k ∧ i < A.length := by
  have h0 : 0 < k := by
    rcases Nat.eq_zero_or_pos k with h | h
    · subst h; simp at ht
    · exact h
  refine ⟨t / k, t % k, ?_, Nat.mod_lt _ h0, Nat.div_lt_of_lt_mul (by rw [Nat.mul_comm]; exact ht)⟩
  rw [Nat.mul_comm]; exact (Nat.div_add_mod t k).symm
theorem own_rowQ (hk : ∀ x, (enc x).length = k) {w : World} {base : Nat} {e : TypeId} {v : Value} {A : List α} (h : w.ownsRow base e k v A.length (A.flatMap enc)) :
    ∃ ao cap, v = .slice ao A.length cap ∧ Row enc k w ao A ∧ ∀ ad, ao = some ad → ad = ⟨ad.block, 0, none⟩ ∧ base ≤ ad.block ∧ ad.block < w.heap.size := by
  rcases h.2 with ⟨rfl, h0⟩ | ⟨g, cap, cur, rfl, hb, hg, h1, h2, h3, h4⟩
  · refine ⟨none, 0, by rw [h0], ?_, fun ad e => by cases e⟩
    have : A = [] := List.eq_nil_of_length_eq_zero h0
    subst this; exact Row.nil _ _
  · refine ⟨_, cap, rfl, fun i hi => ⟨g, 0, rfl, lt_whole hg, fun j hj => ?_⟩, fun ad e => by cases e; exact ⟨rfl, hb, lt_whole hg⟩⟩
    have hlt : i * k + j < A.length * k := by
      have : (i + 1) * k ≤ A.length * k := Nat.mul_le_mul_right _ hi
      rw [Nat.add_mul] at this; omega
    rw [cell_whole hg, Nat.zero_add, ← Array.getElem?_toList]
    have e1 : (cur.toList.take (A.length * k))[i * k + j]? = cur.toList[i * k + j]? := List.getElem?_take_of_lt hlt
    rw [← e1, h4, flat_get hk A i j hj, List.getElem?_eq_getElem hi]; rfl
end
def encIQ (z : Int) : List Value := [.int .i64 z]
theorem encI_len (z : Int) : (encIQ z).length = 1 := rfl
theorem encI_one (z : Int) : ∀ u ∈ encIQ z, u.oneCell' = true := by intro u hu; simp [encIQ] at hu; subst hu; rfl
theorem encK_len (z : Int × Int × Int) : (encK z).length = 3 := rfl
theorem encK_one (z : Int × Int × Int) : ∀ u ∈ encK z, u.oneCell' = true := by intro u hu; simp [encK] at hu; rcases hu with rfl | rfl | rfl <;> rfl
theorem encP_lenQ (z : Int × Int) : (encPQ z).length = 2 := rfl
theorem encP_oneQ (z : Int × Int) : ∀ u ∈ encPQ z, u.oneCell' = true := by intro u hu; simp [encPQ] at hu; rcases hu with rfl | rfl <;> rfl
theorem infoArr : (Try.prog.info? 137).map (fun i => (i.zero, i.size, i.bytes)) = some (some (.agg #[.int .i64 0, .int .i64 0]), 2, 16) := by kernel_rfl
theorem infoSlot : (Try.prog.info? 56).map (fun i => (i.zero, i.size, i.bytes)) = some (some (.agg #[.int .i64 0, .int .i64 0]), 2, 16) := by kernel_rfl
theorem infoMove : (Try.prog.info? 78).map (fun i => (i.zero, i.size, i.bytes)) = some (some (.agg #[.int .i64 0, .int .i64 0, .int .i64 0]), 3, 24) := by kernel_rfl
theorem ri_of_row {w : World} {ao : Option Addr} {zs : List Int} (h : Row encIQ 1 w ao zs) : RI w ao zs := by
  intro i hi
  obtain ⟨b, o, h1, h2, h3⟩ := h i hi
  refine ⟨⟨b, o, none⟩, h1, h2, ?_⟩
  have := h3 0 (by omega)
  rw [Nat.mul_one, Nat.add_zero] at this
  rw [Addr.add_lit, this, getD_of_lt hi]; rfl
end Go.Proofs.Ytlkbohpnlbfopaa
namespace Go.Proofs.Ytlkbohpnlbfopaa
open Go.RowKit
set_option linter.unusedVariables false
def encVQ (v : Value) : List Value := [v]
theorem encV_len (v : Value) : (encVQ v).length = 1 := rfl
theorem encV_flat (vs : List Value) : vs.flatMap encVQ = vs := by induction vs with | nil => rfl | cons v vs ih => rw [List.flatMap_cons, ih]; rfl
theorem grown_of_below {w w' : World} (h : Below w.heap.size w w') (row : Option Nat) : w.grownBy w' row := ⟨h.os, h.tape, h.output, h.size, fun i hi _ => h.block i hi⟩
theorem below_of_grown {w0 w w' : World} {row : Option Nat} (h : Below w0.heap.size w0 w) (hg : w.grownBy w' row) (hr : ∀ g, row = some g → w0.heap.size ≤ g) : Below w0.heap.size w0 w' :=
  h.grown hg h.size hr
section
variable {α : Type} {kt : TypeId} {enc : α → List Value} {k : Nat} {w0 w w' : World} {B : Nat} {ks gs : Value} {mk keys : List α} {G : List (List Nat)} {vs : List Value} {own : Nat → Nat}
structure GIx (kt : TypeId) (enc : α → List Value) (k : Nat) (w0 w : World) (B : Nat) (ks gs : Value) (mk keys : List α) (G : List (List Nat)) (vs : List Value) (own : Nat → Nat) : Prop where
  below : Below w0.heap.size w0 w
  bB : w0.heap.size ≤ B
  map : MapIs kt enc w B mk
  kr : w.ownsRow w0.heap.size kt k ks keys.length (keys.flatMap enc)
  gr : w.ownsRow w0.heap.size 65 1 gs vs.length (vs.flatMap encVQ)
  len : vs.length = G.length
  inn : ∀ i, i < G.length → w.ownsRow w0.heap.size 3 1 (vs.getD i nilS) (natI (G.getD i [])).length ((natI (G.getD i [])).flatMap encIQ)
  oB : own B = 0
  ok : ∀ g, ks.ownBlock = some g → own g = 1
  og : ∀ g, gs.ownBlock = some g → own g = 2
  oi : ∀ i g, i < G.length → (vs.getD i nilS).ownBlock = some g → own g = i + 3
theorem GIx.start (w : World) : ∃ vs own, GIx kt enc k w (w.alloc (.map #[] 0)) w.heap.size (.slice none 0 0) (.slice none 0 0) ([] : List α) [] [] vs own :=
  ⟨[], fun i => if i = w.heap.size then 0 else 1, (Below.refl _ w).alloc (Nat.le_refl _) _, Nat.le_refl _, MapIs.made w, World.ownsRow_nil _ _ _ _, World.ownsRow_nil _ _ _ _, rfl, (fun i hi => absurd hi (by simp)), if_pos rfl, (fun g e => by cases e), (fun g e => by cases e), (fun i g hi => absurd hi (by simp))⟩
theorem GIx.kept (h : GIx kt enc k w0 w B ks gs mk keys G vs own) {row : Option Nat} (hg : w.grownBy w' row) (hr : ∀ g, row = some g → w.heap.size ≤ g) : GIx kt enc k w0 w' B ks gs mk keys G vs own := by
  have nb : ∀ v e kk n xs, w.ownsRow w0.heap.size e kk v n xs → v.ownBlock = none ∨ v.ownBlock ≠ row := by
    intro v e kk n xs hv
    cases hb : v.ownBlock with
    | none => exact .inl rfl
    | some g =>
      right
      rintro rfl
      have := (hv.lt g hb).2
      have := hr g rfl
      omega
  refine ⟨below_of_grown h.below hg (fun g e => Nat.le_trans h.below.size (hr g e)), h.bB, h.map.kept hg ?_, h.kr.kept hg (nb _ _ _ _ _ h.kr), h.gr.kept hg (nb _ _ _ _ _ h.gr), h.len, fun i hi => (h.inn i hi).kept hg (nb _ _ _ _ _ (h.inn i hi)), h.oB, h.ok, h.og, h.oi⟩
  rintro rfl
  have := hr B rfl
  have := h.map.lt
  omega
theorem GIx.step (h : GIx kt enc k w0 w B ks gs mk keys G vs own) (hb : Below w.heap.size w w') : GIx kt enc k w0 w' B ks gs mk keys G vs own :=
  h.kept (grown_of_below hb none) (fun g e => by cases e)
theorem GIx.store (h : GIx kt enc k w0 w B ks gs mk keys G vs own) {mk' : List α} (hm : MapIs kt enc w' B mk') (hg : w.grownBy w' (some B)) : GIx kt enc k w0 w' B ks gs mk' keys G vs own := by
  have hr : ∀ g, some B = some g → own g = 0 := fun g e => by cases e; exact h.oB
  exact ⟨below_of_grown h.below hg (fun g e => by cases e; exact h.bB), h.bB, hm, h.kr.kept hg (ne_row h.ok hr (by omega)), h.gr.kept hg (ne_row h.og hr (by omega)), h.len, fun i hi => (h.inn i hi).kept hg (ne_row (fun g e => h.oi i g hi e) hr (by omega)), h.oB, h.ok, h.og, h.oi⟩
theorem GIx.lts (h : GIx kt enc k w0 w B ks gs mk keys G vs own) : B < w.heap.size ∧ (∀ g, ks.ownBlock = some g → g < w.heap.size) ∧ (∀ g, gs.ownBlock = some g → g < w.heap.size) ∧ ∀ i g, i < G.length → (vs.getD i nilS).ownBlock = some g → g < w.heap.size :=
  ⟨h.map.lt, fun g e => (h.kr.lt g e).2, fun g e => (h.gr.lt g e).2, fun i g hi e => ((h.inn i hi).lt g e).2⟩
theorem GIx.reown (h : GIx kt enc k w0 w B ks gs mk keys G vs own) (r : Nat) : GIx kt enc k w0 w B ks gs mk keys G vs (ownSet own w.heap.size r) := by
  obtain ⟨l0, l1, l2, l3⟩ := h.lts
  exact { h with
    oB := ownSet_old h.oB (by omega)
    ok := fun g e => ownSet_old (h.ok g e) (by have := l1 g e; omega)
    og := fun g e => ownSet_old (h.og g e) (by have := l2 g e; omega)
    oi := fun i g hi e => ownSet_old (h.oi i g hi e) (by have := l3 i g hi e; omega) }
theorem GIx.key (h : GIx kt enc k w0 w B ks gs mk keys G vs own) {g cap : Nat} {keys' : List α} {n : Nat} (hk : w'.ownsRow w0.heap.size kt k (.slice (some ⟨g, 0, none⟩) n cap) keys'.length (keys'.flatMap enc)) (hg : w.grownBy w' ks.ownBlock) (hl : ks.ownBlock = some g ∨ g = w.heap.size) (hb : w0.heap.size ≤ g) :
    ∃ own', GIx kt enc k w0 w' B (.slice (some ⟨g, 0, none⟩) n cap) gs mk keys' G vs own' := by
  have main : ∀ own', GIx kt enc k w0 w B ks gs mk keys G vs own' → own' g = 1 → GIx kt enc k w0 w' B (.slice (some ⟨g, 0, none⟩) n cap) gs mk keys' G vs own' := by
    intro own' h h1
    refine ⟨below_of_grown h.below hg (fun g e => (h.kr.lt g e).1), h.bB, h.map.kept hg ?_, hk, h.gr.kept hg (ne_row h.og h.ok (by omega)), h.len, fun i hi => (h.inn i hi).kept hg (ne_row (fun g e => h.oi i g hi e) h.ok (by omega)), h.oB, ?_, h.og, h.oi⟩
    · intro e
      have := h.ok B e.symm
      have := h.oB
      omega
    · intro g' e
      simp [Value.ownBlock] at e
      subst e; exact h1
  rcases hl with hl | rfl
  · exact ⟨own, main own h (h.ok g hl)⟩
  · exact ⟨_, main _ (h.reown 1) (ownSet_new _ _ _)⟩
theorem getD_append_left {α : Type} {l r : List α} {i : Nat} (h : i < l.length) (d : α) : (l ++ r).getD i d = l.getD i d := by
  rw [List.getD_eq_getElem?_getD, List.getElem?_append_left h, ← List.getD_eq_getElem?_getD]
theorem GIx.group (h : GIx kt enc k w0 w B ks gs mk keys G vs own) {g cap n : Nat} (hk : w'.ownsRow w0.heap.size 65 1 (.slice (some ⟨g, 0, none⟩) n cap) (vs ++ [nilS]).length ((vs ++ [nilS]).flatMap encVQ)) (hg : w.grownBy w' gs.ownBlock) (hl : gs.ownBlock = some g ∨ g = w.heap.size) (hb : w0.heap.size ≤ g) :
    ∃ own', GIx kt enc k w0 w' B ks (.slice (some ⟨g, 0, none⟩) n cap) mk keys (G ++ [[]]) (vs ++ [nilS]) own' := by
  have hlen := h.len
  have at_end : ∀ i, ¬ i < G.length → (vs ++ [nilS]).getD i nilS = nilS := by
    intro i hi
    rw [List.getD_eq_getElem?_getD, List.getElem?_append_right (by omega)]
    rcases Nat.eq_zero_or_pos (i - vs.length) with e | e
    · rw [e]; rfl
    · rw [List.getElem?_eq_none (by simp; omega)]; rfl
  have main : ∀ own', GIx kt enc k w0 w B ks gs mk keys G vs own' → own' g = 2 → GIx kt enc k w0 w' B ks (.slice (some ⟨g, 0, none⟩) n cap) mk keys (G ++ [[]]) (vs ++ [nilS]) own' := by
    intro own' h h1
    refine ⟨below_of_grown h.below hg (fun g e => (h.gr.lt g e).1), h.bB, h.map.kept hg ?_, h.kr.kept hg (ne_row h.ok h.og (by omega)), hk, by simp [hlen], ?_, h.oB, h.ok, ?_, ?_⟩
    · intro e
      have := h.og B e.symm
      have := h.oB
      omega
    · intro i hi
      by_cases hi' : i < G.length
      · rw [getD_append_left hi', getD_append_left (by omega)]
        exact (h.inn i hi').kept hg (ne_row (fun g e => h.oi i g hi' e) h.og (by omega))
      · rw [at_end i hi']
        have e2 : (G ++ [[]]).getD i [] = [] := by
          rw [List.getD_eq_getElem?_getD, List.getElem?_append_right (by omega)]
          rcases Nat.eq_zero_or_pos (i - G.length) with e | e
          · rw [e]; rfl
          · rw [List.getElem?_eq_none (by simp; omega)]; rfl
        rw [e2]
        exact World.ownsRow_nil _ _ _ _
    · intro g' e
      simp [Value.ownBlock] at e
      subst e; exact h1
    · intro i g' hi e
      by_cases hi' : i < G.length
      · rw [getD_append_left (by omega)] at e
        exact h.oi i g' hi' e
      · rw [at_end i hi'] at e
        cases e
  rcases hl with hl | rfl
  · exact ⟨own, main own h (h.og g hl)⟩
  · exact ⟨_, main _ (h.reown 2) (ownSet_new _ _ _)⟩
theorem GIx.slot (h : GIx kt enc k w0 w B ks gs mk keys G vs own) {j : Nat} (hj : j < G.length) : ∃ g cap, gs = .slice (some ⟨g, 0, none⟩) G.length cap ∧ w.cell? ⟨g, j, none⟩ = some (vs.getD j nilS) ∧ w.frozen? ⟨g, j, none⟩ = false ∧ w0.heap.size ≤ g ∧ g < w.heap.size := by
  have hl := h.len
  rcases h.gr.2 with ⟨_, h0⟩ | ⟨g, cap, cur, e, hb, hg, h1, h2, h3, h4⟩
  · omega
  · refine ⟨g, cap, by rw [e, hl], ?_, frozen_whole hg j, hb, lt_whole hg⟩
    rw [cell_whole hg, ← Array.getElem?_toList]
    have e1 : (cur.toList.take (vs.length * 1))[j]? = cur.toList[j]? := List.getElem?_take_of_lt (by omega)
    rw [← e1, h4, encV_flat, List.getD_eq_getElem?_getD, List.getElem?_eq_getElem (by omega)]; rfl
theorem GIx.cell (h : GIx kt enc k w0 w B ks gs mk keys G vs own) {j g nn cap : Nat} (hj : j < G.length) (hgs : gs = .slice (some ⟨g, 0, none⟩) nn cap) : w.cell? ⟨g, j, none⟩ = some (vs.getD j nilS) ∧ w.frozen? ⟨g, j, none⟩ = false ∧ nn = G.length ∧ g < w.heap.size := by
  obtain ⟨g1, cap1, e1, h1, h2, _, h3⟩ := h.slot hj
  rw [hgs] at e1
  cases e1
  exact ⟨h1, h2, rfl, h3⟩
theorem own_setQ {w : World} {base g n cap j : Nat} {e : TypeId} {vs : List Value} (h : w.ownsRow base e 1 (.slice (some ⟨g, 0, none⟩) n cap) vs.length (vs.flatMap encVQ)) (v : Value) : (w.setCell ⟨g, j, none⟩ v).ownsRow base e 1 (.slice (some ⟨g, 0, none⟩) n cap) (vs.set j v).length ((vs.set j v).flatMap encVQ) := by
  rw [encV_flat] at h ⊢
  rw [List.length_set]
  refine ⟨by simp, ?_⟩
  rcases h.2 with ⟨h0, _⟩ | ⟨g', cap', cur, e1, hb, hg, h1, h2, h3, h4⟩
  · cases h0
  · cases e1
    refine .inr ⟨g, cap, _, rfl, hb, set_whole hg j v, h1, h2, by simpa using h3, ?_⟩
    rw [Array.toList_setIfInBounds, List.take_set, h4]
theorem getD_end {α : Type} (l : List α) (x d : α) {m : Nat} (hm : l.length = m) : (l ++ [x]).getD m d = x := by subst hm; simp
theorem set_end {α : Type} (l : List α) (x y : α) {m : Nat} (hm : l.length = m) : (l ++ [x]).set m y = l ++ [y] := by subst hm; simp
theorem GIx.add (h : GIx kt enc k w0 w B ks gs mk keys G vs own) {j : Nat} (hj : j < G.length) {g nn cap : Nat} (hgs : gs = .slice (some ⟨g, 0, none⟩) nn cap) {p n c t : Nat}
    (hk : w'.ownsRow w0.heap.size 3 1 (.slice (some ⟨p, 0, none⟩) n c) (natI (G.getD j [] ++ [t])).length ((natI (G.getD j [] ++ [t])).flatMap encIQ)) (hg : w.grownBy w' (vs.getD j nilS).ownBlock) (hl : (vs.getD j nilS).ownBlock = some p ∨ p = w.heap.size) (hb : w0.heap.size ≤ p) :
    w'.cell? ⟨g, j, none⟩ = some (vs.getD j nilS) ∧ w'.frozen? ⟨g, j, none⟩ = false ∧ ∃ own', GIx kt enc k w0 (w'.setCell ⟨g, j, none⟩ (.slice (some ⟨p, 0, none⟩) n c)) B ks gs mk keys (G.set j (G.getD j [] ++ [t])) (vs.set j (.slice (some ⟨p, 0, none⟩) n c)) own' := by
  obtain rfl := (h.cell hj hgs).2.2.1
  subst hgs
  have hgo : ∀ own', GIx kt enc k w0 w B ks (.slice (some ⟨g, 0, none⟩) G.length cap) mk keys G vs own' → own' g = 2 := fun own' h => h.og g rfl
  have hjo : ∀ own', GIx kt enc k w0 w B ks (.slice (some ⟨g, 0, none⟩) G.length cap) mk keys G vs own' → ∀ i, (vs.getD j nilS).ownBlock = some i → own' i = j + 3 := fun own' h i e => h.oi j i hj e
  have hgr' := h.gr.kept hg (ne_row h.og (hjo _ h) (by omega))
  have hlen := h.len
  obtain ⟨g1, cap1, e1, hc, hf, _, hlt⟩ := h.slot hj
  cases e1
  have hne : some g ≠ (vs.getD j nilS).ownBlock := by
    intro e
    have a := hjo _ h g e.symm
    have b := hgo _ h
    omega
  have hcell : w'.cell? ⟨g, j, none⟩ = some (vs.getD j nilS) := hg.cell hc hne
  have hfro : w'.frozen? ⟨g, j, none⟩ = false := by
    rw [World.frozen?_of_block (hg.block g hlt hne)]; exact hf
  refine ⟨hcell, hfro, ?_⟩
  have main : ∀ own', GIx kt enc k w0 w B ks (.slice (some ⟨g, 0, none⟩) G.length cap) mk keys G vs own' → own' p = j + 3 → GIx kt enc k w0 (w'.setCell ⟨g, j, none⟩ (.slice (some ⟨p, 0, none⟩) n c)) B ks (.slice (some ⟨g, 0, none⟩) G.length cap) mk keys (G.set j (G.getD j [] ++ [t])) (vs.set j (.slice (some ⟨p, 0, none⟩) n c)) own' := by
    intro own' h hp
    have sg : w'.grownBy (w'.setCell ⟨g, j, none⟩ (.slice (some ⟨p, 0, none⟩) n c)) (some g) := ⟨rfl, rfl, rfl, by simp [World.setCell], fun i hi hne => Below.heap_setCell w' _ _ i (fun e => hne (by rw [e]))⟩
    have o2 : ∀ i, some g = some i → own' i = 2 := fun i e => by cases e; exact hgo _ h
    refine ⟨below_of_grown (below_of_grown h.below hg (fun i e => ((h.inn j hj).lt i e).1)) sg (fun i e => by cases e; exact (h.gr.lt g rfl).1), h.bB, (h.map.kept hg ?_).kept sg ?_, (h.kr.kept hg (ne_row h.ok (hjo _ h) (by omega))).kept sg (ne_row h.ok o2 (by omega)), ?_, by simp [hlen], ?_, h.oB, h.ok, h.og, ?_⟩
    · intro e
      have a := hjo _ h B e.symm
      have b := h.oB
      omega
    · intro e
      have a := o2 B e.symm
      have b := h.oB
      omega
    · exact own_setQ hgr' _
    · intro i hi
      rw [List.length_set] at hi
      by_cases hij : i = j
      · subst hij
        have e1 : (G.set i (G.getD i [] ++ [t])).getD i [] = G.getD i [] ++ [t] := by rw [List.getD_eq_getElem?_getD, List.getElem?_set_self hj]; rfl
        have e2 : (vs.set i (.slice (some ⟨p, 0, none⟩) n c)).getD i nilS = .slice (some ⟨p, 0, none⟩) n c := by rw [List.getD_eq_getElem?_getD, List.getElem?_set_self (by omega)]; rfl
        rw [e1, e2]
        refine hk.kept sg (ne_row (a := i + 3) (fun i' e => ?_) o2 (by omega))
        simp [Value.ownBlock] at e
        subst e; exact hp
      · have e1 : (G.set j (G.getD j [] ++ [t])).getD i [] = G.getD i [] := by rw [List.getD_eq_getElem?_getD, List.getElem?_set_ne (fun e => hij e.symm), ← List.getD_eq_getElem?_getD]
        have e2 : (vs.set j (.slice (some ⟨p, 0, none⟩) n c)).getD i nilS = vs.getD i nilS := by rw [List.getD_eq_getElem?_getD, List.getElem?_set_ne (fun e => hij e.symm), ← List.getD_eq_getElem?_getD]
        rw [e1, e2]
        exact ((h.inn i hi).kept hg (ne_row (fun i' e => h.oi i i' hi e) (hjo _ h) (by omega))).kept sg (ne_row (fun i' e => h.oi i i' hi e) o2 (by omega))
    · intro i i' hi e
      rw [List.length_set] at hi
      by_cases hij : i = j
      · subst hij
        have e2 : (vs.set i (.slice (some ⟨p, 0, none⟩) n c)).getD i nilS = .slice (some ⟨p, 0, none⟩) n c := by rw [List.getD_eq_getElem?_getD, List.getElem?_set_self (by omega)]; rfl
        rw [e2] at e
        simp [Value.ownBlock] at e
        subst e; exact hp
      · have e2 : (vs.set j (.slice (some ⟨p, 0, none⟩) n c)).getD i nilS = vs.getD i nilS := by rw [List.getD_eq_getElem?_getD, List.getElem?_set_ne (fun e => hij e.symm), ← List.getD_eq_getElem?_getD]
        rw [e2] at e
        exact h.oi i i' hi e
  rcases hl with hl | rfl
  · exact ⟨own, main own h (h.oi j p hj hl)⟩
  · exact ⟨_, main _ (h.reown (j + 3)) (ownSet_new _ _ _)⟩
end
def Gat {α : Type} [DecidableEq α] (kt : TypeId) (enc : α → List Value) (k : Nat) (w : World) (L : List α) (e : Ending) (w' : World) : Prop :=
  ∃ ks gs vs own B, e = .returned (.tuple #[ks, gs]) ∧ GIx kt enc k w w' B ks gs (firsts L) (firsts L) (grps L) vs own
end Go.Proofs.Ytlkbohpnlbfopaa
