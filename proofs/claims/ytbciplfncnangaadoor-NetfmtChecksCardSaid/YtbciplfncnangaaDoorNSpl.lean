/- The text of a network, as the document tells it. -/
import Derived.Test.YtbciplfncnangaaDoorNPrt
namespace Go.Proofs.YtbciplfncnangaaDoor
open Go.RowKit Go.Shelf
set_option linter.unusedVariables false

/-- Four numbers are appended to none. -/
theorem wpList_append4 {w : World} {ops : Array Oper} {rest : List Oper} {o : Oper} {a : Act} {Q : Exit → Act → World → Prop} (hgd : o.guard = none) (s y : Operand)
    (ho : o.op = .call { callee := .builtin .append, args := #[s, y], argTypes := #[40, 40] }) (hs : a.eval s = .slice none 0 0) (gs c : Nat) (hx : a.eval y = .slice (some ⟨gs, 0, none⟩) 4 c) (x1 x2 x3 x4 : Int)
    (hc : ∀ j, j < 4 → w.cell? ⟨gs, j, none⟩ = ([x1, x2, x3, x4].map encI)[j]?)
    (hK : ∀ ao cap w', Lst encI w' ao [x1, x2, x3, x4] → Below w.heap.size w w' → wpList Tryd.prog ops Q rest (a.put o.dst (.slice ao 4 cap)) w') : wpList Tryd.prog ops Q (o :: rest) a w := by
  obtain ⟨i0, hi, hz0, hz1, hz2⟩ := info_parts infoInt
  refine wpList_append_own w hgd s y 40 ho w.heap.size 3 i0 (.int .i64 0) 1 8 Tryd.underlying40 hi hz0 hz1 hz2 rfl (by decide) _ 0 [] hs (World.ownsRow_nil _ _ _ _) ⟨gs, 0, none⟩ 4 c ([x1, x2, x3, x4].map encI) hx rfl ?_ ?_ (by unfold maxLen; omega) (by omega) (Nat.le_refl _) ?_
  · intro j u hj
    rw [Addr.add_lit, Nat.zero_add]
    have hjk : j < 4 := (List.getElem?_eq_some_iff.1 hj).1
    rw [hc j hjk]; exact hj
  · intro u hu
    simp [encI] at hu
    rcases hu with rfl | rfl | rfl | rfl <;> rfl
  · intro v' w' h1 h2 h3
    rw [List.nil_append] at h1
    have h1' : w'.ownsRow w.heap.size 3 1 v' [x1, x2, x3, x4].length ([x1, x2, x3, x4].map encI) := h1
    obtain ⟨ao, cap, rfl, hl⟩ := own_lst h1'
    exact hK ao cap w' hl ((Below.refl _ w).grown h2 (Nat.le_refl _) (fun j hj => by simp [Value.ownBlock] at hj))
theorem cells4 (w : World) (t : TypeId) (g : Nat) (hg : w.heap.size = g) (x y u v : Int) : ∀ j, j < 4 → (w.alloc (.cells #[.int .i64 x, .int .i64 y, .int .i64 u, .int .i64 v] t)).cell? ⟨g, j, none⟩ = ([x, y, u, v].map encI)[j]? := by
  intro j hj
  rw [cell_new' hg]
  match j, hj with
  | 0, _ => rfl
  | 1, _ => rfl
  | 2, _ => rfl
  | 3, _ => rfl
theorem rtext_at (n : Int) (X : ByteArray) (w : World) (h0 : -9223372036854775808 ≤ n) (h1 : n ≤ 9223372036854775807) (hX : X.data.toList = Lib.itoa n) :
    Calls Tryd.prog 39 #[.int .i64 n] w fun e w' => e = .returned (.string X) ∧ Below w.heap.size w w' := by
  refine (rtext_any n w h0 h1).mono ?_
  rintro e w' ⟨rfl, hb⟩
  exact ⟨by rw [← hX, strV_of], hb⟩
set_option maxRecDepth 100000 in
set_option maxHeartbeats 4000000 in
theorem rspell_any (n : Int) (b : Bool) (ao : Option Addr) (cap : Nat) (Z : List ArcT) (w : World) (h : Row encA 4 w ao Z) (hr : Right (n, b, Z)) :
    Calls Tryd.prog 25 #[.agg #[.int .i64 n, .bool b, .slice ao Z.length cap]] w fun e w' => e = .returned (strV (netT n b Z)) ∧ Below w.heap.size w w' := by
  have hl : Z.length ≤ 200 := hr.2.1
  have h1 := nodesE_ok hr.1
  obtain ⟨X, hX⟩ := itoa_at n
  have hXs : X.size ≤ 21 := by have := Lib.itoa_length_le n (by omega) (by omega); rwa [← hX, size_data] at this
  have K1 : Hid (∀ W, Calls Tryd.prog 39 #[.int .i64 n] W fun e w' => e = .returned (.string X) ∧ Below W.heap.size W w') := Lib.hid (fun W => rtext_at n X W (by omega) (by omega) hX)
  have HX := Lib.hid hX
  have hh := head_size b hr.1
  obtain ⟨Hd, hHd⟩ : ∃ Hd, headT n b = Hd := ⟨_, rfl⟩
  rw [hHd] at hh
  have HH := Lib.hid hh
  have HHD := Lib.hid hHd
  have HA : Hid (∀ k, (arcsT (Z.take k)).length ≤ 92 * 200) := Lib.hid (fun k => by
    have := arcs_size hr.1 (Z.take k) (fun a ha => hr.2.2 a (List.mem_of_mem_take ha))
    rw [List.length_take] at this
    omega)
  have HZ := Lib.hid hr.2.2
  have HN := Lib.hid hr.1
  have HR := Lib.hid h
  clear hr h hX hh hHd
  obtain ⟨c0, c1, c2⟩ := netBox w n b (.slice ao Z.length cap)
  have HB0 : Hid (Below w.heap.size w (w.alloc (.cells #[.int .i64 n, .bool b, .slice ao Z.length cap] 24))) := Lib.hid ((Below.refl _ w).alloc (Nat.le_refl _) _)
  cases b
  all_goals
    go_enter Tryd.func25, Tryd.ntmps25
    go_wp2_with (go_at_call 39; refine (K1.out _).mono ?_; rintro e w2 ⟨rfl, b2⟩; have d0 := cell_below b2 c0; have d1 := cell_below b2 c1; have d2 := cell_below b2 c2; have HB2 := Lib.hid (HB0.out.trans (b2.mono HB0.out.size)); clear b2)
    clear c0 c1 c2 HB0 d0 d1
    go_loopw [3, 4] (fun sv i wr => ∃ (k : Nat) (T : ByteArray), k ≤ Z.length ∧ i = .int .i64 (k : Int) ∧ sv = .string T ∧ T.size ≤ 20000 ∧ Hid (T.data.toList = Hd ++ [10] ++ arcsT (Z.take k)) ∧ Hid (Below w2.heap.size w2 wr)) (fun _ i _ => Z.length - (intOf i).toNat)
    case atStart =>
      refine ⟨0, _, Nat.zero_le _, rfl, rfl, ?_, Lib.hid ?_, Lib.hid (Below.refl _ _)⟩
      · rw [ByteArray.size_append, ByteArray.size_append]
        have e1 : (⟨#[110, 101, 116, 32]⟩ : ByteArray).size = 4 := rfl
        have e2 : (⟨#[32, 102, 114, 101, 101, 10]⟩ : ByteArray).size = 6 := rfl
        have e3 : (⟨#[32, 104, 111, 108, 100, 10]⟩ : ByteArray).size = 6 := rfl
        omega
      · have := HX.out
        rw [← HHD.out]
        simp [headT, this, netB, keepB, holdB, freeB, arcsT]
    case round =>
      obtain ⟨k, T, hk, rfl, rfl, hT, HTL, HBr⟩ := hrel
      have hsr := HBr.out.size
      have g2 := cell_below HBr.out d2
      by_cases hlt : k < Z.length
      · have hli : (k : Int) < (Z.length : Int) := by omega
        obtain ⟨ab, ax, e, hab, q0, q1, q2, q3⟩ := ((HR.out.below' HB2.out).below' HBr.out).arc hlt
        cases e
        have HZ1 := Lib.hid (HZ.out _ (List.getElem_mem hlt))
        have HS : Hid (arcsT (Z.take (k + 1)) = arcsT (Z.take k) ++ rowL arcB (arcL Z[k])) := Lib.hid (by rw [List.take_succ_eq_append_getElem hlt, snocArcs])
        have hlen := HA.out (k + 1)
        have hlen2 := HH.out
        rw [HS.out, List.length_append] at hlen
        generalize Z[k] = z at *
        obtain ⟨x, y, u, v⟩ := z
        simp only at q0 q1 q2 q3
        have HBa := Lib.hid ((HBr.out.alloc hsr (.cells #[.int .i64 x, .int .i64 y, .int .i64 u, .int .i64 v] 37)).alloc (by simp; omega) (.cells #[.int .i64 x, .int .i64 y, .int .i64 u, .int .i64 v] 3))
        obtain ⟨R, hR⟩ : ∃ R : ByteArray, R.data.toList = rowL arcB (arcL (x, y, u, v)) := ⟨⟨(rowL arcB (arcL (x, y, u, v))).toArray⟩, rfl⟩
        rw [← hR, size_data] at hlen
        have hTR : T.size + R.size ≤ 20000 := by
          have := congrArg List.length HTL.out
          rw [size_data, List.length_append, List.length_append, List.length_singleton] at this
          omega
        have HRow : Hid (∀ W ao c, Lst encI W ao [x, y, u, v] → Calls Tryd.prog 20 #[.string ⟨#[97, 114, 99]⟩, .slice ao 4 c] W fun e w' => e = .returned (.string R) ∧ Below W.heap.size W w') := Lib.hid (fun W ao c hL => by
          refine (rrow_any ⟨#[97, 114, 99]⟩ ao c [x, y, u, v] W hL (arc_in64 HN.out HZ1.out) (by simp) (by decide)).mono ?_
          rintro e w' ⟨rfl, hb⟩
          refine ⟨?_, hb⟩
          show Ending.returned (strV (rowL arcB (arcL (x, y, u, v)))) = _
          rw [← hR, strV_of])
        have HC4 := Lib.hid (cells4 (wr.alloc (.cells #[.int .i64 x, .int .i64 y, .int .i64 u, .int .i64 v] 37)) 3 (wr.heap.size + 1) (by simp) x y u v)
        have HRL := Lib.hid hR
        clear HBr hR hlen hlen2
        go_wp2_with (first
          | (at_builtin; refine wpList_append4 rfl _ _ rfl rfl _ _ rfl x y u v HC4.out ?_; intro ao5 cap5 w5 l5 b5; have HL5 := Lib.hid l5; have HB5 := Lib.hid (HBa.out.trans (b5.mono HBa.out.size)); clear l5 b5)
          | (go_at_call 20; refine (HRow.out _ _ _ HL5.out).mono ?_; rintro e w6 ⟨rfl, b6⟩; have HB6 := Lib.hid (HB5.out.trans (b6.mono HB5.out.size)); clear b6))
        go_roundw
        case rel =>
          refine ⟨k + 1, T ++ R, by omega, by go_num, rfl, by rw [ByteArray.size_append]; exact hTR, Lib.hid ?_, HB6⟩
          rw [HS.out, ← HRL.out, ← List.append_assoc, ← HTL.out]; simp
        case measure => simp [intOf]; omega
      · have hli : ¬ (k : Int) < (Z.length : Int) := by omega
        have HE := HTL.out
        rw [List.take_of_length_le (by omega)] at HE
        have HE2 := Lib.hid HE
        clear HE
        go_wp2
        go_ret
        refine ⟨?_, HB2.out.trans (HBr.out.mono HB2.out.size)⟩
        refine (str_eq (a := T) (l := netT n _ Z) ?_)
        rw [HE2.out, ← HHD.out]
        simp [netT]
set_option maxHeartbeats 1000000 in
theorem rprint_bad (n : Int) (b : Bool) (ao : Option Addr) (cap : Nat) (Z : List ArcT) (w : World) (h : Row encA 4 w ao Z) (hm : Z.length ≤ maxLen) (hne : checkE n Z ≠ 0) :
    Calls Tryd.prog 11 #[.agg #[.int .i64 n, .bool b, .slice ao Z.length cap]] w fun e w' => e = .returned (.tuple #[.string ⟨#[]⟩, .int .i64 (checkE n Z)]) ∧ Below w.heap.size w w' := by
  have HK := Lib.hid (fun W hW => rcheck_any n b ao cap Z W hW hm)
  generalize checkE n Z = e0 at *
  have hf2 : (e0 != 0) = true := by simpa using hne
  have hf1 : (e0 == 0) = false := by simpa using hne
  have HR := Lib.hid h
  clear h hne
  have HB0 : Hid (Below w.heap.size w (w.alloc (.cells #[.int .i64 n, .bool b, .slice ao Z.length cap] 24))) := Lib.hid ((Below.refl _ w).alloc (Nat.le_refl _) _)
  go_enter Tryd.func11, Tryd.ntmps11
  go_wp2_with (go_at_call 14; refine (HK.out _ (HR.out.below' HB0.out)).mono ?_; rintro e w2 ⟨rfl, b2⟩; have HB2 := Lib.hid (HB0.out.trans (b2.mono HB0.out.size)); clear b2)
  go_ret2
  exact ⟨rfl, HB2.out⟩
set_option maxHeartbeats 1000000 in
theorem rprint_core (n : Int) (b : Bool) (ao : Option Addr) (cap : Nat) (Z : List ArcT) (w : World) (h : Row encA 4 w ao Z) (hr : Right (n, b, Z)) :
    Calls Tryd.prog 11 #[.agg #[.int .i64 n, .bool b, .slice ao Z.length cap]] w fun e w' => e = .returned (.tuple #[strV (netT n b Z), .int .i64 0]) ∧ Below w.heap.size w w' := by
  have hck : checkE n Z = 0 := right_iff.2 hr
  have hl : Z.length ≤ 200 := hr.2.1
  have HK : Hid (∀ W, Row encA 4 W ao Z → Calls Tryd.prog 14 #[.agg #[.int .i64 n, .bool b, .slice ao Z.length cap]] W fun e w' => e = .returned (.int .i64 0) ∧ Below W.heap.size W w') := Lib.hid (fun W hW => by
    have := rcheck_any n b ao cap Z W hW (by unfold maxLen; omega)
    rw [hck] at this; exact this)
  have HRT := Lib.hid hr
  have HR := Lib.hid h
  clear hck hr h
  obtain ⟨c0, c1, c2⟩ := netBox w n b (.slice ao Z.length cap)
  have HB0 : Hid (Below w.heap.size w (w.alloc (.cells #[.int .i64 n, .bool b, .slice ao Z.length cap] 24))) := Lib.hid ((Below.refl _ w).alloc (Nat.le_refl _) _)
  go_enter Tryd.func11, Tryd.ntmps11
  go_wp2_with (first
    | (go_at_call 14; refine (HK.out _ (HR.out.below' HB0.out)).mono ?_; rintro e w2 ⟨rfl, b2⟩; have d0 := cell_below b2 c0; have d1 := cell_below b2 c1; have d2 := cell_below b2 c2; have HB2 := Lib.hid (HB0.out.trans (b2.mono HB0.out.size)); clear b2)
    | (go_at_call 25; refine (rspell_any n b ao cap Z _ (HR.out.below' HB2.out) HRT.out).mono ?_; rintro e w3 ⟨rfl, b3⟩; have HB3 := Lib.hid (HB2.out.trans (b3.mono HB2.out.size)); clear b3))
  go_ret2
  exact ⟨rfl, HB3.out⟩
/-- What Print tells. -/
def prtT (n : Int) (b : Bool) (Z : List ArcT) : List UInt8 := if checkE n Z = 0 then netT n b Z else []
def prtV (n : Int) (b : Bool) (Z : List ArcT) : Value := .tuple #[strV (prtT n b Z), .int .i64 (checkE n Z)]
theorem print_any (n : Int) (b : Bool) (ao : Option Addr) (cap : Nat) (Z : List ArcT) (w : World) (h : Row encA 4 w ao Z) (hm : Z.length ≤ maxLen) (ht : Tab w) :
    Calls Tryd.prog 10 #[.agg #[.int .i64 n, .bool b, .slice ao Z.length cap]] w fun e w' => e = .returned (prtV n b Z) ∧ Below w.heap.size w w' := by
  unfold prtV prtT
  by_cases hc : checkE n Z = 0
  · rw [if_pos hc, hc]; exact print_core n b ao cap Z w h (right_iff.1 hc) ht
  · rw [if_neg hc]; exact print_bad n b ao cap Z w h hm hc
theorem rprint_any (n : Int) (b : Bool) (ao : Option Addr) (cap : Nat) (Z : List ArcT) (w : World) (h : Row encA 4 w ao Z) (hm : Z.length ≤ maxLen) :
    Calls Tryd.prog 11 #[.agg #[.int .i64 n, .bool b, .slice ao Z.length cap]] w fun e w' => e = .returned (prtV n b Z) ∧ Below w.heap.size w w' := by
  unfold prtV prtT
  by_cases hc : checkE n Z = 0
  · rw [if_pos hc, hc]; exact rprint_core n b ao cap Z w h (right_iff.1 hc)
  · rw [if_neg hc]; exact rprint_bad n b ao cap Z w h hm hc
end Go.Proofs.YtbciplfncnangaaDoor
