/- Rows of elements of so many cells each: where each lies; appending to a row of a call's own. -/
import Derived.Test.YtieomjkiabfhcaaTMap
import Derived.Test.YtieomjkiabfhcaaTList
import Derived.Test.YtieomjkiabfhcaaTSum
namespace Go.Proofs.Ytieomjkiabfhcaa
open Go.RowKit
set_option linter.unusedVariables false

section
variable {α : Type} {enc : α → List Value} {k : Nat}
theorem flat_get (hk : ∀ x, (enc x).length = k) : ∀ (A : List α) (i j : Nat), j < k → (A.flatMap enc)[i * k + j]? = (A[i]?).bind fun x => (enc x)[j]?
  | [], i, j, hj => by simp
  | x :: A, 0, j, hj => by
    rw [List.flatMap_cons, Nat.zero_mul, Nat.zero_add, List.getElem?_append_left (by rw [hk]; exact hj)]; rfl
  | x :: A, i + 1, j, hj => by
    rw [List.flatMap_cons, List.getElem?_append_right (by rw [hk, Nat.add_mul]; omega), hk, show (i + 1) * k + j - k = i * k + j by rw [Nat.add_mul]; omega, flat_get hk A i j hj]; rfl
theorem flat_len (hk : ∀ x, (enc x).length = k) : ∀ A : List α, (A.flatMap enc).length = A.length * k
  | [] => by simp
  | x :: A => by rw [List.flatMap_cons, List.length_append, hk, flat_len hk A, List.length_cons, Nat.add_mul]; omega
theorem flat_split (hk : ∀ x, (enc x).length = k) (A : List α) {t : Nat} (ht : t < A.length * k) : ∃ i j, t = i * k + j ∧ j < k ∧ i < A.length := by
  have h0 : 0 < k := by
    rcases Nat.eq_zero_or_pos k with h | h
    · subst h; simp at ht
    · exact h
  refine ⟨t / k, t % k, ?_, Nat.mod_lt _ h0, Nat.div_lt_of_lt_mul (by rw [Nat.mul_comm]; exact ht)⟩
  rw [Nat.mul_comm]; exact (Nat.div_add_mod t k).symm
/-- The places of a slice hold these elements. -/
def Row (enc : α → List Value) (k : Nat) (w : World) (ao : Option Addr) (A : List α) : Prop :=
  ∀ i (hi : i < A.length), ∃ b o, ao = some ⟨b, o, none⟩ ∧ b < w.heap.size ∧ ∀ j, j < k → w.cell? ⟨b, o + i * k + j, none⟩ = (enc A[i])[j]?
theorem Row.nil (w : World) (ao : Option Addr) : Row enc k w ao [] := fun i hi => absurd hi (by simp)
theorem Row.below {B : Nat} {w w' : World} {ao : Option Addr} {A : List α} (h : Row enc k w ao A) (hb : Below B w w') (hB : ∀ ad, ao = some ad → 0 < A.length → ad.block < B) : Row enc k w' ao A := by
  intro i hi
  obtain ⟨b, o, h1, h2, h3⟩ := h i hi
  have hB' : b < B := hB _ h1 (by omega)
  exact ⟨b, o, h1, Nat.lt_of_lt_of_le h2 hb.size, fun j hj => by rw [hb.cell hB']; exact h3 j hj⟩
theorem Row.lt {w : World} {ao : Option Addr} {A : List α} (h : Row enc k w ao A) : ∀ ad, ao = some ad → 0 < A.length → ad.block < w.heap.size := by
  intro ad e h0
  obtain ⟨b, o, e', hb, _⟩ := h 0 h0
  rw [e] at e'; cases e'; exact hb
theorem Row.below' {w w' : World} {ao : Option Addr} {A : List α} (h : Row enc k w ao A) (hb : Below w.heap.size w w') : Row enc k w' ao A := h.below hb h.lt
/-- A row of a call's own holds its elements. -/
theorem own_row (hk : ∀ x, (enc x).length = k) {w : World} {base : Nat} {e : TypeId} {v : Value} {A : List α} (h : w.ownsRow base e k v A.length (A.flatMap enc)) :
    ∃ ao cap, v = .slice ao A.length cap ∧ Row enc k w ao A ∧ ∀ ad, ao = some ad → ad = ⟨ad.block, 0, none⟩ ∧ base ≤ ad.block ∧ ad.block < w.heap.size := by
  rcases h.2 with ⟨rfl, h0⟩ | ⟨g, cap, cur, rfl, hb, hg, h1, h2, h3, h4⟩
  · refine ⟨none, 0, by rw [h0], ?_, fun ad e => by cases e⟩
    have : A = [] := List.eq_nil_of_length_eq_zero h0
    subst this; exact Row.nil _ _
  · refine ⟨_, cap, rfl, fun i hi => ⟨g, 0, rfl, lt_whole hg, fun j hj => ?_⟩, fun ad e => by cases e; exact ⟨rfl, hb, lt_whole hg⟩⟩
    have hlt : i * k + j < A.length * k := by
      have : (i + 1) * k ≤ A.length * k := Nat.mul_le_mul_right _ hi
      rw [Nat.add_mul] at this; omega
    rw [cell_whole hg, Nat.zero_add, ← Array.getElem?_toList]
    have e1 : (cur.toList.take (A.length * k))[i * k + j]? = cur.toList[i * k + j]? := List.getElem?_take_of_lt hlt
    rw [← e1, h4, flat_get hk A i j hj, List.getElem?_eq_getElem hi]; rfl
/-- One element is appended to a row of the call's own. -/
theorem wpList_append_row {t e : TypeId} {bytes : Nat} {z : Value} (ht : Try.prog.underlying t = some (.slice e)) (hinfo : (Try.prog.info? e).map (fun i => (i.zero, i.size, i.bytes)) = some (some z, k, bytes)) (hzs : z.cells.size = k) (hk0 : 0 < k) (hby : bytes ≤ 64)
    (hk : ∀ x, (enc x).length = k)
    {w : World} {ops : Array Oper} {rest : List Oper} {o : Oper} {a : Act} {Q : Exit → Act → World → Prop} (hgd : o.guard = none) (s y : Operand)
    (ho : o.op = .call { callee := .builtin .append, args := #[s, y], argTypes := #[t, t] })
    (base : Nat) (v : Value) (A : List α) (x : α) (hone : ∀ u ∈ enc x, u.oneCell' = true) (hs : a.eval s = v) (hown : w.ownsRow base e k v A.length (A.flatMap enc))
    (gs : Nat) (c : Nat) (hx : a.eval y = .slice (some ⟨gs, 0, none⟩) 1 c) (hc : ∀ j, j < k → w.cell? ⟨gs, j, none⟩ = (enc x)[j]?)
    (hroom : A.length ≤ 200000) (hbase : base ≤ w.heap.size)
    (hK : ∀ g cap w', w'.ownsRow base e k (.slice (some ⟨g, 0, none⟩) (A.length + 1) cap) (A ++ [x]).length ((A ++ [x]).flatMap enc) → w.grownBy w' v.ownBlock → (v.ownBlock = some g ∨ g = w.heap.size) → base ≤ g → g < w'.heap.size → wpList Try.prog ops Q rest (a.put o.dst (.slice (some ⟨g, 0, none⟩) (A.length + 1) cap)) w') : wpList Try.prog ops Q (o :: rest) a w := by
  obtain ⟨i0, hi, hz0, hz1, hz2⟩ := info_parts hinfo
  refine wpList_append_own_at w hgd s y t ho base e i0 _ k bytes ht hi hz0 hz1 hz2 hzs hk0 v A.length (A.flatMap enc) hs hown ⟨gs, 0, none⟩ 1 c (enc x) hx (by rw [hk, Nat.one_mul]) ?_ hone (by unfold maxLen; omega) ?_ hbase ?_
  · intro j u hj
    rw [Addr.add_lit, Nat.zero_add]
    have hjk : j < k := by rw [← hk x]; exact (List.getElem?_eq_some_iff.1 hj).1
    rw [hc j hjk]; exact hj
  · have : (A.length + 1) * bytes ≤ 200001 * 64 := Nat.mul_le_mul (by omega) hby
    omega
  · intro v' w' h1 h2 h3 h4
    have e1 : A.flatMap enc ++ enc x = (A ++ [x]).flatMap enc := by simp
    rw [e1] at h1
    have h1' : w'.ownsRow base e k v' (A ++ [x]).length ((A ++ [x]).flatMap enc) := by rw [List.length_append]; exact h1
    rcases h1.2 with ⟨_, h0⟩ | ⟨g, cap, cur, rfl, hb, hg, _⟩
    · omega
    · refine hK g cap w' h1' h2 ?_ hb (lt_whole hg)
      rcases h4 with h4 | h4
      · exact .inl (by rw [← h4]; rfl)
      · right; simpa [Value.ownBlock] using h4
end
/-- A number's one cell. -/
def encI (z : Int) : List Value := [.int .i64 z]
theorem encI_len (z : Int) : (encI z).length = 1 := rfl
theorem encI_one (z : Int) : ∀ u ∈ encI z, u.oneCell' = true := by intro u hu; simp [encI] at hu; subst hu; rfl
theorem encK_len (z : Int × Int × Int) : (encK z).length = 3 := rfl
theorem encK_one (z : Int × Int × Int) : ∀ u ∈ encK z, u.oneCell' = true := by intro u hu; simp [encK] at hu; rcases hu with rfl | rfl | rfl <;> rfl
theorem encP_len (z : Int × Int) : (encP z).length = 2 := rfl
theorem encP_one (z : Int × Int) : ∀ u ∈ encP z, u.oneCell' = true := by intro u hu; simp [encP] at hu; rcases hu with rfl | rfl <;> rfl
theorem encA_len (z : Int × Int × Int × Int) : (encA z).length = 4 := rfl
theorem encA_one (z : Int × Int × Int × Int) : ∀ u ∈ encA z, u.oneCell' = true := by intro u hu; simp [encA] at hu; rcases hu with rfl | rfl | rfl | rfl <;> rfl
theorem infoInt : (Try.prog.info? 3).map (fun i => (i.zero, i.size, i.bytes)) = some (some (.int .i64 0), 1, 8) := by kernel_rfl
theorem infoInts : (Try.prog.info? 31).map (fun i => (i.zero, i.size, i.bytes)) = some (some (.slice none 0 0), 1, 24) := by kernel_rfl
theorem infoKey : (Try.prog.info? 24).map (fun i => (i.zero, i.size, i.bytes)) = some (some (.agg #[.int .i64 0, .int .i64 0, .int .i64 0]), 3, 24) := by kernel_rfl
theorem infoArr : (Try.prog.info? 37).map (fun i => (i.zero, i.size, i.bytes)) = some (some (.agg #[.int .i64 0, .int .i64 0]), 2, 16) := by kernel_rfl
theorem infoSlot : (Try.prog.info? 74).map (fun i => (i.zero, i.size, i.bytes)) = some (some (.agg #[.int .i64 0, .int .i64 0]), 2, 16) := by kernel_rfl
theorem infoMove : (Try.prog.info? 56).map (fun i => (i.zero, i.size, i.bytes)) = some (some (.agg #[.int .i64 0, .int .i64 0, .int .i64 0]), 3, 24) := by kernel_rfl
theorem infoArc : (Try.prog.info? 52).map (fun i => (i.zero, i.size, i.bytes)) = some (some (.agg #[.int .i64 0, .int .i64 0, .int .i64 0, .int .i64 0]), 4, 32) := by kernel_rfl
theorem ri_of_row {w : World} {ao : Option Addr} {zs : List Int} (h : Row encI 1 w ao zs) : RI w ao zs := by
  intro i hi
  obtain ⟨b, o, h1, h2, h3⟩ := h i hi
  refine ⟨⟨b, o, none⟩, h1, h2, ?_⟩
  have := h3 0 (by omega)
  rw [Nat.mul_one, Nat.add_zero] at this
  rw [Addr.add_lit, this, getD_of_lt hi]; rfl
end Go.Proofs.Ytieomjkiabfhcaa
