/- The program's Text and Row. -/
import Derived.Test.YtbciplfncnangaaDoorWSpec
import Derived.Test.YtbciplfncnangaaDoorWBld
import Derived.Lib.AppendIntMem
namespace Go.Proofs.YtbciplfncnangaaDoor
open Go.RowKit Go.Shelf
set_option linter.unusedVariables false

/-- The library's table of powers of ten lies as its text lays it. -/
def Tab (w : World) : Prop := Lib.TabIs Tryd.prog w "internal/strconv.uint64pow10" .u64 Lib.pow10Tab
theorem Tab.below {w w' : World} (h : Tab w) (hb : Below w.heap.size w w') : Tab w' := Lib.tabBelow_of_tabIs h w' hb
/-- The places of a slice hold these elements, one cell each. -/
def Lst {α : Type} (enc : α → Value) (w : World) (ao : Option Addr) (A : List α) : Prop :=
  ∀ i (hi : i < A.length), ∃ b o, ao = some ⟨b, o, none⟩ ∧ b < w.heap.size ∧ w.cell? ⟨b, o + i, none⟩ = some (enc A[i])
theorem Lst.nil {α : Type} {enc : α → Value} (w : World) (ao : Option Addr) : Lst enc w ao [] := fun i hi => absurd hi (by simp)
theorem Lst.below {α : Type} {enc : α → Value} {w w' : World} {ao : Option Addr} {A : List α} (h : Lst enc w ao A) (hb : Below w.heap.size w w') : Lst enc w' ao A := by
  intro i hi
  obtain ⟨b, o, h1, h2, h3⟩ := h i hi
  exact ⟨b, o, h1, Nat.lt_of_lt_of_le h2 hb.size, (hb.cell (p := ⟨b, o + i, none⟩) h2).trans h3⟩
theorem own_lst {α : Type} {enc : α → Value} {w : World} {base : Nat} {e : TypeId} {v : Value} {A : List α} (h : w.ownsRow base e 1 v A.length (A.map enc)) : ∃ ao cap, v = .slice ao A.length cap ∧ Lst enc w ao A := by
  rcases h.2 with ⟨rfl, h0⟩ | ⟨g, cap, cur, rfl, hb, hg, h1, h2, h3, h4⟩
  · refine ⟨none, 0, by rw [h0], ?_⟩
    have : A = [] := List.eq_nil_of_length_eq_zero h0
    subst this; exact Lst.nil _ _
  · refine ⟨_, cap, rfl, fun i hi => ⟨g, 0, rfl, (Array.getElem?_eq_some_iff.1 hg).1, ?_⟩⟩
    have := h.cells (g := g) rfl i (enc A[i]) (by simp [hi])
    rw [Addr.add_lit, Nat.zero_add] at this
    rw [Nat.zero_add]; exact this
def encI (z : Int) : Value := .int .i64 z
def In64 (Z : List Int) : Prop := ∀ z ∈ Z, -9223372036854775808 ≤ z ∧ z ≤ 9223372036854775807
theorem In64.at {Z : List Int} (h : In64 Z) {i : Nat} (hi : i < Z.length) : -9223372036854775808 ≤ Z[i] ∧ Z[i] ≤ 9223372036854775807 := h _ (List.getElem_mem hi)

/-- The program's Text of any number. -/
theorem text_any (n : Int) (w : World) (h0 : -9223372036854775808 ≤ n) (h1 : n ≤ 9223372036854775807) (ht : Tab w) :
    Calls Tryd.prog 41 #[.int .i64 n] w fun e w' => e = .returned (strV (Lib.itoa n)) ∧ Below w.heap.size w w' := by
  have HT := Lib.hid ht
  clear ht
  go_enter Tryd.func41, Tryd.ntmps41
  go_wp2_with (go_at_call 54; refine (Tryd.strconv_Itoa n h0 h1 _ HT.out).mono ?_; rintro e w' ⟨rfl, k, os, rfl⟩)
  go_ret
  exact ⟨rfl, Lib.below_grow _ w (Nat.le_refl _) k os⟩

/-- A row of a word and numbers. -/
def numsL (Z : List Int) : List UInt8 := Z.flatMap fun n => 32 :: Lib.itoa n
def rowL (x : List UInt8) (Z : List Int) : List UInt8 := x ++ (numsL Z ++ [10])
theorem numsL_snoc (Z : List Int) (n : Int) : numsL (Z ++ [n]) = numsL Z ++ 32 :: Lib.itoa n := by unfold numsL; rw [List.flatMap_append]; simp
theorem numsL_len (Z : List Int) (h : In64 Z) : (numsL Z).length ≤ 22 * Z.length := by
  revert h
  refine snoc_ind (P := fun Z => In64 Z → (numsL Z).length ≤ 22 * Z.length) (by intro; simp [numsL]) ?_ Z
  intro Z n ih h
  have h1 := ih (fun z hz => h z (by simp [hz]))
  have h2 := h n (by simp)
  have h3 := Lib.itoa_length_le n h2.1 h2.2
  rw [numsL_snoc, List.length_append, List.length_append, List.length_cons, List.length_singleton]
  omega
theorem bytes_cons (l : List UInt8) (c : UInt8) : Lib.byteCells l ++ [.int .u8 c.toNat] = Lib.byteCells (l ++ [c]) := by simp [Lib.byteCells]
theorem bytes_str (l x : List UInt8) : Lib.byteCells l ++ Lib.strCells ⟨x.toArray⟩ = Lib.byteCells (l ++ x) := by rw [Lib.strCells_toArray, ← Lib.byteCells_append]
theorem bytes_str' (l : List UInt8) (s : ByteArray) : Lib.byteCells l ++ Lib.strCells s = Lib.byteCells (l ++ s.data.toList) := by
  have := bytes_str l s.data.toList
  simpa using this

theorem bldAt_below {T e : TypeId} {B b : Nat} {p : Value} {bs : List Value} {w w' : World} (h : Lib.BuilderAtF T e B b p bs w) (hb : Below w.heap.size w w') : Lib.BuilderAtF T e B b p bs w' := by
  obtain ⟨hB, v, hbk, hown, hne⟩ := h
  refine ⟨hB, v, (hb.block b (Array.getElem?_eq_some_iff.1 hbk).1).trans hbk, ⟨hown.1, ?_⟩, hne⟩
  rcases hown.2 with h | ⟨g, cap, cur, fz, h1, h2, h3, h4⟩
  · exact .inl h
  · exact .inr ⟨g, cap, cur, fz, h1, h2, (hb.block g (Array.getElem?_eq_some_iff.1 h3).1).trans h3, h4⟩
theorem bld_below {T e : TypeId} {B b : Nat} {bs : List Value} {w w' : World} (h : Lib.IsBuilderF T e B b bs w) (hb : Below w.heap.size w w') : Lib.IsBuilderF T e B b bs w' := by
  rcases h with h | h
  · exact .inl (bldAt_below h hb)
  · exact .inr (bldAt_below h hb)
set_option maxRecDepth 100000 in
set_option maxHeartbeats 2000000 in
/-- The program's Row of any word and numbers. -/
theorem row_any (s : ByteArray) (ao : Option Addr) (cap : Nat) (Z : List Int) (w : World) (hl : Lst encI w ao Z) (hz : In64 Z) (hn : Z.length ≤ 1000) (hs : s.size ≤ 1099511627776) (ht : Tab w) :
    Calls Tryd.prog 23 #[.string s, .slice ao Z.length cap] w fun e w' => e = .returned (strV (rowL s.data.toList Z)) ∧ Below w.heap.size w w' := by
  have HL := Lib.hid hl
  have HZ := Lib.hid hz
  have HT := Lib.hid ht
  clear hl hz ht
  go_enter Tryd.func23, Tryd.ntmps23
  go_wp2_with (go_at_call 21; refine (bws_any w.heap.size w.heap.size [] s _ (Lib.IsBuilderF.of (Lib.fresh_isBuilder 46 5 w)) (by simp; omega) (by simp)).mono ?_; rintro e w1 ⟨rfl, h1, b1⟩; refine Hid.out ?_)
  refine Lib.hid ?_
  have hb1 : Below w.heap.size w w1 := ((Below.refl _ w).alloc (Nat.le_refl _) _).trans b1
  have h1' : Lib.IsBuilderF 46 5 w.heap.size w.heap.size (Lib.byteCells (s.data.toList ++ numsL (Z.take 0))) w1 := by
    have := bytes_str' [] s
    simp only [Lib.byteCells, List.map_nil, List.nil_append] at this
    rw [List.nil_append] at h1
    simpa [numsL, this, Lib.byteCells] using h1
  clear h1 b1
  go_wp2
  go_loopw [12] (fun i wr => ∃ k : Nat, k ≤ Z.length ∧ i = .int .i64 (k : Int) ∧ Hid (Lib.IsBuilderF 46 5 w.heap.size w.heap.size (Lib.byteCells (s.data.toList ++ numsL (Z.take k))) wr) ∧ Below w.heap.size w wr) (fun i _ => Z.length - (intOf i).toNat)
  case atStart => exact ⟨0, Nat.zero_le _, rfl, Lib.hid h1', hb1⟩
  case round =>
    obtain ⟨k, hk, rfl, HB, hbw⟩ := hrel
    have hsz := hbw.size
    have hlen : (s.data.toList ++ numsL (Z.take k)).length ≤ 1099511627776 + 22000 := by
      have := numsL_len (Z.take k) (fun z hz => HZ.out z (List.mem_of_mem_take hz))
      rw [List.length_take] at this
      rw [List.length_append, size_data]; omega
    by_cases hlt : k < Z.length
    · have hli : (k : Int) < (Z.length : Int) := by omega
      obtain ⟨b, o, rfl, hb, hc⟩ := HL.out k hlt
      have hc' : wr.cell? ⟨b, o + k, none⟩ = some (.int .i64 Z[k]) := (hbw.cell (p := ⟨b, o + k, none⟩) hb).trans hc
      have hz1 := (HZ.out.at hlt).1
      have hz2 := (HZ.out.at hlt).2
      have hil := Lib.itoa_length_le _ hz1 hz2
      have hstep : Z.take (k + 1) = Z.take k ++ [Z[k]] := List.take_succ_eq_append_getElem hlt
      have HS := Lib.hid hstep
      clear hstep hc
      obtain ⟨z, hz⟩ : ∃ z, Z[k] = z := ⟨_, rfl⟩
      rw [hz] at hc' hz1 hz2 hil
      have HZK := Lib.hid hz
      clear hz
      go_wp2_with (first
        | (go_at_call 42; refine (bwb_any w.heap.size w.heap.size _ 32 _ HB.out (by rw [Lib.byteCells_length]; omega) hsz).mono ?_; rintro e w2 ⟨rfl, h2, b2⟩; have hb2 := hbw.trans b2; have hsz2 := hb2.size)
        | (go_at_call 41; refine (text_any z _ hz1 hz2 (HT.out.below hb2)).mono ?_; rintro e w3 ⟨rfl, b3⟩; have hb3 := hb2.trans (b3.mono hsz2); have hsz3 := hb3.size; refine Hid.out ?_))
      refine Lib.hid ?_
      have h3 := bld_below h2 b3
      rw [show (Value.int IntKind.u8 32) = .int .u8 ((32 : UInt8).toNat : Int) from rfl, bytes_cons] at h3
      have H3 := Lib.hid h3
      clear h2 h3 b2 b3
      have hlen3 : (s.data.toList ++ numsL (Z.take k) ++ [(32 : UInt8)]).length ≤ 1099511627776 + 22001 := by rw [List.length_append, List.length_singleton]; omega
      go_wp2_with (go_at_call 21; refine (bws_any w.heap.size w.heap.size _ ⟨(Lib.itoa z).toArray⟩ _ H3.out (by rw [Lib.byteCells_length]; show _ + (Lib.itoa z).length ≤ _; omega) hsz3).mono ?_; rintro e w4 ⟨rfl, h4, b4⟩; have hb4 := hb3.trans b4)
      rw [bytes_str] at h4
      go_roundw
      case rel =>
        refine ⟨k + 1, by omega, by go_num, Lib.hid ?_, hb4⟩
        rw [HS.out, HZK.out, numsL_snoc]
        rw [show s.data.toList ++ (numsL (Z.take k) ++ 32 :: Lib.itoa z) = s.data.toList ++ numsL (Z.take k) ++ [(32 : UInt8)] ++ Lib.itoa z by simp]
        exact h4
      case measure => simp [intOf]; omega
    · have hli : ¬ (k : Int) < (Z.length : Int) := by omega
      have hB : Hid (Lib.IsBuilderF 46 5 w.heap.size w.heap.size (Lib.byteCells (s.data.toList ++ numsL Z)) wr) := Lib.hid (by
        have := HB.out
        rwa [List.take_of_length_le (by omega)] at this)
      rw [List.take_of_length_le (by omega)] at hlen
      clear HB
      go_wp2_with (first
        | (go_at_call 42; refine (bwb_any w.heap.size w.heap.size _ 10 _ hB.out (by rw [Lib.byteCells_length]; omega) hsz).mono ?_; rintro e w2 ⟨rfl, h2, b2⟩; have hb2 := hbw.trans b2; have hsz2 := hb2.size; rw [show (Value.int IntKind.u8 10) = .int .u8 ((10 : UInt8).toNat : Int) from rfl, bytes_cons] at h2; have H2 := Lib.hid h2; clear h2)
        | (go_at_call 24; refine (Tryd.Builder_String_any_k w.heap.size w.heap.size _ _ H2.out hsz2).mono ?_; rintro e w3 ⟨rfl, _, b3, _⟩))
      go_ret
      exact ⟨rfl, hb2.trans b3⟩
end Go.Proofs.YtbciplfncnangaaDoor
