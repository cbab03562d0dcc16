/- The text of a network, as the program tells it. -/
import Derived.Test.YtbciplfncnangaaDoorNChl
namespace Go.Proofs.YtbciplfncnangaaDoor
open Go.RowKit Go.Shelf
set_option linter.unusedVariables false

theorem itoa_at (n : Int) : ∃ X : ByteArray, X.data.toList = Lib.itoa n := ⟨⟨(Lib.itoa n).toArray⟩, rfl⟩
theorem arc_in64 {n : Int} {a : ArcT} (hn : nodesE n = 0) (h : arcE n a = 0) : In64 (arcL a) := by
  have := arc_bd hn h
  intro z hz
  simp [arcL] at hz
  rcases hz with rfl | rfl | rfl | rfl <;> omega
theorem row_size (S : List UInt8) {n : Int} {a : ArcT} (hn : nodesE n = 0) (h : arcE n a = 0) : (rowL S (arcL a)).length ≤ S.length + 89 := by
  have := numsL_len (arcL a) (arc_in64 hn h)
  unfold rowL
  rw [List.length_append, List.length_append, List.length_singleton]
  have h2 : (arcL a).length = 4 := rfl
  omega
theorem snocArcs (Z : List ArcT) (a : ArcT) : arcsT (Z ++ [a]) = arcsT Z ++ rowL arcB (arcL a) := by unfold arcsT; simp
theorem arcs_size {n : Int} (hn : nodesE n = 0) (Z : List ArcT) (h : ∀ a ∈ Z, arcE n a = 0) : (arcsT Z).length ≤ 92 * Z.length := by
  induction Z with
  | nil => simp [arcsT]
  | cons a r ih =>
    have h1 := ih (fun x hx => h x (by simp [hx]))
    have h2 := row_size arcB hn (h a (by simp))
    have h3 : arcsT (a :: r) = rowL arcB (arcL a) ++ arcsT r := by unfold arcsT; rw [List.flatMap_cons]
    have h4 : arcB.length = 3 := rfl
    rw [h3, List.length_append, List.length_cons]; omega
theorem head_size {n : Int} (b : Bool) (hn : nodesE n = 0) : (headT n b).length ≤ 40 := by
  have h1 := nodesE_ok hn
  have h2 := Lib.itoa_length_le n (by omega) (by omega)
  have h3 : netB.length = 3 := rfl
  have h4 : (keepB b).length = 4 := by cases b <;> rfl
  unfold headT
  rw [List.length_append, List.length_cons, List.length_append, List.length_cons]; omega
set_option maxRecDepth 100000 in
set_option maxHeartbeats 2000000 in
theorem netline_any (n : Int) (b : Bool) (v : Value) (hv : ∃ ao len cap, v = .slice ao len cap) (w : World) (hn : nodesE n = 0) (ht : Tab w) :
    Calls Tryd.prog 22 #[.agg #[.int .i64 n, .bool b, v]] w fun e w' => e = .returned (strV (headT n b ++ [10])) ∧ Below w.heap.size w w' := by
  obtain ⟨ao, len, cap, rfl⟩ := hv
  have h1 := nodesE_ok hn
  obtain ⟨X, hX⟩ := itoa_at n
  have hXs : X.size ≤ 21 := by have := Lib.itoa_length_le n (by omega) (by omega); rwa [← hX, size_data] at this
  have K1 : Hid (∀ W, Tab W → Calls Tryd.prog 41 #[.int .i64 n] W fun e w' => e = .returned (.string X) ∧ Below W.heap.size W w') := Lib.hid (fun W hT => text_at n X W (by omega) (by omega) hT hX)
  have HX := Lib.hid hX
  have HT := Lib.hid (ht.below ((Below.refl _ w).alloc (Nat.le_refl _) (.cells #[.int .i64 n, .bool b, .slice ao len cap] 24)))
  have HB0 : Hid (Below w.heap.size w (w.alloc (.cells #[.int .i64 n, .bool b, .slice ao len cap] 24))) := Lib.hid ((Below.refl _ w).alloc (Nat.le_refl _) _)
  have hS : ∀ L : ByteArray, L.size = 4 → (⟨#[110, 101, 116, 32]⟩ ++ X ++ ⟨#[32]⟩ ++ L : ByteArray).size ≤ 1099511627776 := by
    intro L hL
    rw [ByteArray.size_append, ByteArray.size_append, ByteArray.size_append, hL]
    have e1 : (⟨#[110, 101, 116, 32]⟩ : ByteArray).size = 4 := rfl
    have e2 : (⟨#[32]⟩ : ByteArray).size = 1 := rfl
    omega
  have HS := Lib.hid hS
  clear hn hX ht hS
  cases b
  all_goals
    go_enter Tryd.func22, Tryd.ntmps22
    go_wp2_with (first
      | (go_at_call 41; refine (K1.out _ HT.out).mono ?_; rintro e w2 ⟨rfl, b2⟩; have s2 := HB0.out.size; have hb2 := HB0.out.trans (b2.mono s2); have HT2 := Lib.hid (HT.out.below b2))
      | (go_at_call 23; refine (row_any _ none 0 [] _ (Lst.nil _ _) (fun z hz => by cases hz) (by simp) (HS.out _ rfl) HT2.out).mono ?_; rintro e w3 ⟨rfl, b3⟩; have hb3 := hb2.trans (b3.mono hb2.size)))
    go_ret
    refine ⟨?_, hb3⟩
    congr 2
    unfold rowL headT
    have := HX.out
    simp [numsL, this, keepB, netB, holdB, freeB]
/-- Four numbers in a block that has just been made. -/
theorem lst4 (w : World) (t : TypeId) (g : Nat) (hg : w.heap.size = g) (x y u v : Int) : Lst encI (w.alloc (.cells #[.int .i64 x, .int .i64 y, .int .i64 u, .int .i64 v] t)) (some ⟨g, 0, none⟩) [x, y, u, v] := by
  intro i hi
  refine ⟨g, 0, rfl, by simp; omega, ?_⟩
  rw [Nat.zero_add, cell_new' hg]
  match i, hi with
  | 0, _ => rfl
  | 1, _ => rfl
  | 2, _ => rfl
  | 3, _ => rfl
set_option maxRecDepth 100000 in
set_option maxHeartbeats 4000000 in
theorem print_core (n : Int) (b : Bool) (ao : Option Addr) (cap : Nat) (Z : List ArcT) (w : World) (h : Row encA 4 w ao Z) (hr : Right (n, b, Z)) (ht : Tab w) :
    Calls Tryd.prog 10 #[.agg #[.int .i64 n, .bool b, .slice ao Z.length cap]] w fun e w' => e = .returned (.tuple #[strV (netT n b Z), .int .i64 0]) ∧ Below w.heap.size w w' := by
  have hck : checkE n Z = 0 := right_iff.2 hr
  have hl : Z.length ≤ 200 := hr.2.1
  have HK : Hid (∀ W, Row encA 4 W ao Z → Calls Tryd.prog 13 #[.agg #[.int .i64 n, .bool b, .slice ao Z.length cap]] W fun e w' => e = .returned (.int .i64 0) ∧ Below W.heap.size W w') := Lib.hid (fun W hW => by
    have := ncheck_any n b ao cap Z W hW (by unfold maxLen; omega)
    rw [hck] at this; exact this)
  have HH := Lib.hid (head_size b hr.1)
  have HA : Hid (∀ k, (arcsT (Z.take k)).length ≤ 92 * 200) := Lib.hid (fun k => by
    have := arcs_size hr.1 (Z.take k) (fun a ha => hr.2.2 a (List.mem_of_mem_take ha))
    rw [List.length_take] at this
    omega)
  have HZ := Lib.hid hr.2.2
  have HN := Lib.hid hr.1
  have HT := Lib.hid ht
  have HR := Lib.hid h
  clear hck hr ht h
  obtain ⟨c0, c1, c2⟩ := netBox w n b (.slice ao Z.length cap)
  have HB0 : Hid (Below w.heap.size w (w.alloc (.cells #[.int .i64 n, .bool b, .slice ao Z.length cap] 24))) := Lib.hid ((Below.refl _ w).alloc (Nat.le_refl _) _)
  go_enter Tryd.func10, Tryd.ntmps10
  go_wp2_with (go_at_call 13; refine (HK.out _ (HR.out.below' HB0.out)).mono ?_; rintro e w2 ⟨rfl, b2⟩; have d0 := cell_below b2 c0; have d1 := cell_below b2 c1; have d2 := cell_below b2 c2; have HB2 := Lib.hid (HB0.out.trans (b2.mono HB0.out.size)); clear b2; refine Hid.out ?_)
  refine Lib.hid ?_
  clear c0 c1 c2 HB0
  have f0 := cell_alloc d0 (.cells #[.pointer none, .slice none 0 0] 46)
  have f1 := cell_alloc d1 (.cells #[.pointer none, .slice none 0 0] 46)
  have f2 := cell_alloc d2 (.cells #[.pointer none, .slice none 0 0] 46)
  have H0 := Lib.hid (Lib.IsBuilderF.of (Lib.fresh_isBuilder 46 5 w2))
  have HB3 := Lib.hid ((Below.refl w2.heap.size w2).alloc (Nat.le_refl _) (.cells #[.pointer none, .slice none 0 0] 46))
  have HT3 := Lib.hid ((HT.out.below HB2.out).below HB3.out)
  go_wp2_with (first
    | (go_at_call 22; refine (netline_any n b _ ⟨_, _, _, rfl⟩ _ HN.out HT3.out).mono ?_; rintro e w4 ⟨rfl, b4⟩; have H4 := Lib.hid (bld_below H0.out b4); have HB4 := Lib.hid (HB3.out.trans (b4.mono HB3.out.size)); clear b4)
    | (go_at_call 21; refine (bws_any w2.heap.size w2.heap.size [] _ _ H4.out (by show 0 + (headT n b ++ [10]).length ≤ _; rw [List.length_append]; have := HH.out; simp; omega) HB4.out.size).mono ?_; rintro e w5 ⟨rfl, h5, b5⟩; have HB5 := Lib.hid (HB4.out.trans b5); have H5 := Lib.hid h5; clear h5 b5; have g2 := cell_below (HB5.out) d2; refine Hid.out ?_))
  refine Lib.hid ?_
  clear f0 f1 f2 d0 d1 H4 HB4 H0 HB3 HT3 HK
  have H6 : Hid (Lib.IsBuilderF 46 5 w2.heap.size w2.heap.size (Lib.byteCells (headT n b ++ [10] ++ arcsT (Z.take 0))) w5) := Lib.hid (by
    have := H5.out
    rw [List.nil_append, Lib.strCells_toArray] at this
    simpa [arcsT] using this)
  clear H5
  go_wp2
  go_loopw [19] (fun i wr => ∃ k : Nat, k ≤ Z.length ∧ i = .int .i64 (k : Int) ∧ Hid (Lib.IsBuilderF 46 5 w2.heap.size w2.heap.size (Lib.byteCells (headT n b ++ [10] ++ arcsT (Z.take k))) wr) ∧ Hid (Below w2.heap.size w2 wr)) (fun i _ => Z.length - (intOf i).toNat)
  case atStart => exact ⟨0, Nat.zero_le _, rfl, H6, HB5⟩
  case round =>
    clear H6 HB5 g2 d2
    obtain ⟨k, hk, rfl, HL, HBr⟩ := hrel
    have hlen : (headT n b ++ [10] ++ arcsT (Z.take k)).length ≤ 20000 := by
      have h1 := HA.out k
      have h2 := HH.out
      rw [List.length_append, List.length_append, List.length_singleton]; omega
    have hsr := HBr.out.size
    by_cases hlt : k < Z.length
    · have hli : (k : Int) < (Z.length : Int) := by omega
      obtain ⟨ab, ax, e, hab, q0, q1, q2, q3⟩ := ((HR.out.below' HB2.out).below' HBr.out).arc hlt
      cases e
      have HZ1 := Lib.hid (HZ.out _ (List.getElem_mem hlt))
      have HS : Hid (arcsT (Z.take (k + 1)) = arcsT (Z.take k) ++ rowL arcB (arcL Z[k])) := Lib.hid (by rw [List.take_succ_eq_append_getElem hlt, snocArcs])
      generalize Z[k] = z at *
      obtain ⟨x, y, u, v⟩ := z
      simp only at q0 q1 q2 q3
      have HBa := Lib.hid ((HBr.out.alloc hsr (.cells #[.int .i64 x, .int .i64 y, .int .i64 u, .int .i64 v] 37)).alloc (by simp; omega) (.cells #[.int .i64 x, .int .i64 y, .int .i64 u, .int .i64 v] 3))
      have HLa := Lib.hid (bld_below HL.out (((Below.refl _ wr).alloc (Nat.le_refl _) (.cells #[.int .i64 x, .int .i64 y, .int .i64 u, .int .i64 v] 37)).alloc (by simp) (.cells #[.int .i64 x, .int .i64 y, .int .i64 u, .int .i64 v] 3)))
      have HRow : Hid (∀ W c, Lst encI W (some ⟨wr.heap.size + 1, 0, none⟩) [x, y, u, v] → Tab W → Calls Tryd.prog 23 #[.string ⟨#[97, 114, 99]⟩, .slice (some ⟨wr.heap.size + 1, 0, none⟩) 4 c] W fun e w' => e = .returned (strV (rowL arcB (arcL (x, y, u, v)))) ∧ Below W.heap.size W w') := Lib.hid (fun W c hL hT => row_any ⟨#[97, 114, 99]⟩ _ c [x, y, u, v] W hL (arc_in64 HN.out HZ1.out) (by simp) (by decide) hT)
      have HLs : Hid (Lst encI ((wr.alloc (.cells #[.int .i64 x, .int .i64 y, .int .i64 u, .int .i64 v] 37)).alloc (.cells #[.int .i64 x, .int .i64 y, .int .i64 u, .int .i64 v] 3)) (some ⟨wr.heap.size + 1, 0, none⟩) [x, y, u, v]) := Lib.hid (lst4 _ _ _ (by simp) _ _ _ _)
      have HTa := Lib.hid ((HT.out.below HB2.out).below HBa.out)
      have hrs := row_size arcB HN.out HZ1.out
      clear HBr HL
      go_wp2_with (first
        | (go_at_call 23; refine (HRow.out _ _ HLs.out HTa.out).mono ?_; rintro e w6 ⟨rfl, b6⟩; have HL6 := Lib.hid (bld_below HLa.out b6); have HB6 := Lib.hid (HBa.out.trans (b6.mono HBa.out.size)); clear b6)
        | (go_at_call 21; refine (bws_any w2.heap.size w2.heap.size _ _ _ HL6.out (by rw [Lib.byteCells_length]; show _ + (rowL arcB (arcL (x, y, u, v))).length ≤ _; have : arcB.length = 3 := rfl; omega) HB6.out.size).mono ?_; rintro e w7 ⟨rfl, h7, b7⟩; have HB7 := Lib.hid (HB6.out.trans b7); rw [bytes_str] at h7; have H7 := Lib.hid h7; clear h7 b7))
      go_roundw
      case rel => exact ⟨k + 1, by omega, by go_num, Lib.hid (by rw [HS.out, ← List.append_assoc]; exact H7.out), HB7⟩
      case measure => simp [intOf]; omega
    · have hli : ¬ (k : Int) < (Z.length : Int) := by omega
      have HE : Hid (headT n b ++ [10] ++ arcsT (Z.take k) = netT n b Z) := Lib.hid (by rw [List.take_of_length_le (by omega)]; simp [netT])
      rw [HE.out] at HL
      go_wp2_with (go_at_call 24; refine (Tryd.Builder_String_any_k w2.heap.size w2.heap.size _ _ HL.out hsr).mono ?_; rintro e w3 ⟨rfl, _, b3, _⟩)
      go_ret2
      exact ⟨rfl, HB2.out.trans ((HBr.out.trans b3).mono HB2.out.size)⟩
set_option maxHeartbeats 1000000 in
theorem print_bad (n : Int) (b : Bool) (ao : Option Addr) (cap : Nat) (Z : List ArcT) (w : World) (h : Row encA 4 w ao Z) (hm : Z.length ≤ maxLen) (hne : checkE n Z ≠ 0) :
    Calls Tryd.prog 10 #[.agg #[.int .i64 n, .bool b, .slice ao Z.length cap]] w fun e w' => e = .returned (.tuple #[.string ⟨#[]⟩, .int .i64 (checkE n Z)]) ∧ Below w.heap.size w w' := by
  have HK := Lib.hid (fun W hW => ncheck_any n b ao cap Z W hW hm)
  generalize checkE n Z = e0 at *
  have hf2 : (e0 != 0) = true := by simpa using hne
  have hf1 : (e0 == 0) = false := by simpa using hne
  have HR := Lib.hid h
  clear h hne
  have HB0 : Hid (Below w.heap.size w (w.alloc (.cells #[.int .i64 n, .bool b, .slice ao Z.length cap] 24))) := Lib.hid ((Below.refl _ w).alloc (Nat.le_refl _) _)
  go_enter Tryd.func10, Tryd.ntmps10
  go_wp2_with (go_at_call 13; refine (HK.out _ (HR.out.below' HB0.out)).mono ?_; rintro e w2 ⟨rfl, b2⟩; have HB2 := Lib.hid (HB0.out.trans (b2.mono HB0.out.size)); clear b2)
  go_ret2
  exact ⟨rfl, HB2.out⟩
end Go.Proofs.YtbciplfncnangaaDoor
