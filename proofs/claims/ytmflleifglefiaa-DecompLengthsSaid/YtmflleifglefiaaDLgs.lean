/- Package decomp's Lengths. -/
import Derived.Test.YtmflleifglefiaaDLng
namespace Go.Proofs.Ytmflleifglefiaa
open Go.RowKit
set_option linter.unusedVariables false

/-- What Lengths tells. -/
def DLensRes (n : Int) (Z : List ArcT) (X : List ChT) (w : World) (e : Ending) (w' : World) : Prop :=
  (checkE n Z ≠ 0 ∧ e = .returned (.tuple #[.slice none 0 0, .int .i64 (checkE n Z)]) ∧ Below w.heap.size w w') ∨
  (checkE n Z = 0 ∧ (∃ x ∈ X, inB Z.length x.2.1 = false) ∧ e = .returned (.tuple #[.slice none 0 0, .int .i64 1]) ∧ Below w.heap.size w w') ∨
  (checkE n Z = 0 ∧ (∀ x ∈ X, inB Z.length x.2.1 = true) ∧ ∃ v L, e = .returned (.tuple #[v, .int .i64 0]) ∧ OwnL encI w' w.heap.size 3 v L ∧ L.length = X.length ∧ (∀ i x, X[i]? = some x → x.2.1.length ≤ 200000 → atI L i = lenI Z x.2.1) ∧ Below w.heap.size w w')
section
variable (n : Int) (b : Bool) (ao lo : Option Addr) (cap nx lc : Nat) (Z : List ArcT) (X : List ChT)
set_option maxRecDepth 100000 in
set_option maxHeartbeats 8000000 in
theorem dlengths_any (w : World) (h : Row encA 4 w ao Z) (hz : Z.length ≤ maxLen) (hX : Row encC 2 w lo X) (hin : ∀ x ∈ X, Lst encI w x.1.1 x.2.1 ∧ x.2.1.length ≤ maxLen) (hn : X.length = nx) (hnx : nx ≤ 200) :
    Calls Try.prog 18 #[.agg #[.int .i64 n, .bool b, .slice ao Z.length cap], .slice lo nx lc] w (DLensRes n Z X w) := by
  have hb00 := (Below.refl _ w).alloc (Nat.le_refl _) (.cells #[.int .i64 n, .bool b, .slice ao Z.length cap] 24)
  have HB0 := Lib.hid hb00
  have HN0 := Lib.hid (heap_alloc_new w (.cells #[.int .i64 n, .bool b, .slice ao Z.length cap] 24))
  have HR := Lib.hid (h.below' hb00)
  have HX := Lib.hid (hX.below' hb00)
  have HIN : Hid (∀ x ∈ X, Lst encI (w.alloc (.cells #[.int .i64 n, .bool b, .slice ao Z.length cap] 24)) x.1.1 x.2.1 ∧ x.2.1.length ≤ maxLen) := Lib.hid (fun x hx => ⟨(hin x hx).1.below hb00, (hin x hx).2⟩)
  have HZ := Lib.hid hz
  have HNX := Lib.hid hn
  have k0 := cell_whole HN0.out 0
  have k1 := cell_whole HN0.out 1
  have k2 := cell_whole HN0.out 2
  obtain ⟨e0, he⟩ : ∃ e0, checkE n Z = e0 := ⟨_, rfl⟩
  have HE := Lib.hid he
  have hmk := fun W => run_make_row' (P := Try.prog) 25 3 (.int .i64 0) 8 Try.underlying25 infoInt rfl .i64 .i64 nx (by omega) (by omega) W
  clear h hX hin hz hn hb00
  by_cases h0 : e0 = 0
  · subst h0
    have hR := right_iff (b := true) |>.1 he
    have HT : Hid (∀ a ∈ Z, 0 ≤ tm a ∧ tm a ≤ 1048576) := Lib.hid (fun a ha => by obtain ⟨_, _, _, _, h5, h6⟩ := right_arc hR ha; exact ⟨h5, h6⟩)
    have hz2 : Z.length ≤ 200 := hR.2.1
    have HTR1 : Hid (∀ e w', (∃ x ∈ X, inB Z.length x.2.1 = false) → e = .returned (.tuple #[.slice none 0 0, .int .i64 1]) → Below w.heap.size w w' → DLensRes n Z X w e w') := Lib.hid (fun e w' h1 h2 h3 => .inr (.inl ⟨he, h1, h2, h3⟩))
    have HTR2 : Hid (∀ e w', (∀ x ∈ X, inB Z.length x.2.1 = true) → (∃ v L, e = .returned (.tuple #[v, .int .i64 0]) ∧ OwnL encI w' w.heap.size 3 v L ∧ L.length = X.length ∧ (∀ i x, X[i]? = some x → x.2.1.length ≤ 200000 → atI L i = lenI Z x.2.1) ∧ Below w.heap.size w w') → DLensRes n Z X w e w') := Lib.hid (fun e w' h1 h2 => .inr (.inr ⟨he, h1, h2⟩))
    clear he hR
    go_enter Try.func18, Try.ntmps18
    go_wp2_with (first
      | (go_at_call 38; refine (ncheck_any n b ao cap Z _ HR.out HZ.out).mono ?_; rw [HE.out]; rintro e w3 ⟨rfl, hb3⟩; have HB3 := Lib.hid (HB0.out.trans (hb3.mono HB0.out.size)); have HR3 := Lib.hid (HR.out.below' hb3); have HX3 := Lib.hid (HX.out.below' hb3); have HIN3 : Hid (∀ x ∈ X, Lst encI w3 x.1.1 x.2.1 ∧ x.2.1.length ≤ maxLen) := Lib.hid (fun x hx => ⟨(HIN.out x hx).1.below hb3, (HIN.out x hx).2⟩); have HN3 := Lib.hid (kept_box HN0.out hb3); clear hb3 k0 k1 k2))
    clear hmk HR HX HIN HB0 HN0 HE
    have hmb := (Below.refl _ w3).alloc (Nat.le_refl _) (.cells (madeCells #[.int .i64 0] nx) 3)
    have hmo := madeC w3 w3.heap.size nx (Nat.le_refl _) (by omega)
    obtain ⟨g3, hg3⟩ : ∃ g3, w3.heap.size = g3 := ⟨_, rfl⟩
    have HG3 := Lib.hid hg3
    have HMB := Lib.hid hmb
    have HMO : Hid (OwnL encI (w3.alloc (.cells (madeCells #[.int .i64 0] nx) 3)) w3.heap.size 3 (.slice (some ⟨g3, 0, none⟩) nx nx) (List.replicate nx 0)) := Lib.hid (by rw [← hg3]; exact hmo)
    clear hmb hmo
    try rw [hg3]
    obtain ⟨g0, hg0⟩ : ∃ g0, w.heap.size = g0 := ⟨_, rfl⟩
    have HG0 := Lib.hid hg0
    rw [hg0] at HN3
    try rw [hg0]
    generalize w3.alloc (.cells (madeCells #[.int .i64 0] nx) 3) = w5 at *
    clear hg3 hg0
    go_loopw [22] (fun iv wr => ∃ (k : Nat) (L : List Int), k ≤ nx ∧ iv = .int .i64 (k : Int) ∧ L.length = nx ∧ Hid (∀ i x, i < k → X[i]? = some x → inB Z.length x.2.1 = true ∧ (x.2.1.length ≤ 200000 → atI L i = lenI Z x.2.1)) ∧ Hid (OwnL encI wr w3.heap.size 3 (.slice (some ⟨g3, 0, none⟩) nx nx) L) ∧ Hid (Below w3.heap.size w3 wr)) (fun iv _ => nx - (intOf iv).toNat)
    case atStart => exact ⟨0, List.replicate nx 0, Nat.zero_le _, rfl, by simp, Lib.hid (fun i x hi => by omega), HMO, HMB⟩
    case round =>
      clear HMO HMB
      obtain ⟨k, L, hk, rfl, hLl, HA, HO, HW⟩ := hrel
      by_cases hlt : k < nx
      · have hli : (k : Int) < (nx : Int) := by omega
        have hkX : k < X.length := by rw [HNX.out]; exact hlt
        obtain ⟨b1, o1, q1, hb1, s1, s2⟩ := chC_at HX3.out (List.getElem?_eq_getElem hkX)
        subst q1
        obtain ⟨hxl, hxm⟩ := HIN3.out _ (List.getElem_mem hkX)
        have HXK := Lib.hid (List.getElem?_eq_getElem hkX)
        generalize X[k] = x at *
        obtain ⟨⟨xa, xc⟩, xl, xk⟩ := x
        simp only at hxl hxm s1 s2
        obtain ⟨M, hM⟩ : ∃ M, xl.length = M := ⟨_, rfl⟩
        rw [hM] at s1 hxm
        have HLM := Lib.hid hM
        have s1 := cell_below HW.out s1
        have s2 := cell_below HW.out s2
        have hnw := kept_box HN3.out HW.out
        have HXN := Lib.hid (heap_alloc_new wr (.cells #[.slice xa M xc, .int .i64 xk] 49))
        have hba := (Below.refl wr.heap.size wr).alloc (Nat.le_refl _) (.cells #[.slice xa M xc, .int .i64 xk] 49)
        have HWX := Lib.hid (HW.out.alloc HW.out.size (.cells #[.slice xa M xc, .int .i64 xk] 49))
        have HOX := Lib.hid (HO.out.alloc (.cells #[.slice xa M xc, .int .i64 xk] 49))
        have m2 := cell_whole (alloc_whole hnw (.cells #[.slice xa M xc, .int .i64 xk] 49)) 2
        have y0 := cell_whole HXN.out 0
        have y1 := cell_whole HXN.out 1
        have HCALL := Lib.hid (dlength_at ao xa cap Z.length M xc Z xl xk _ (HR3.out.below' HWX.out) (hxl.below HWX.out) rfl HLM.out hz2 hxm HT.out)
        clear hxl hM hb1 hba hnw
        obtain ⟨B, hB⟩ : ∃ B, inB Z.length xl = B := ⟨_, rfl⟩
        have HBE := Lib.hid hB
        rw [hB] at HCALL
        clear hB
        go_wp2_with fail
        refine HCALL.out.mono ?_
        clear HCALL
        rintro e w6 ⟨z, rfl, hzl, hb6⟩
        have HZL := Lib.hid hzl
        have HW6 := Lib.hid (HWX.out.trans (hb6.mono HWX.out.size))
        have HO6 := Lib.hid (HOX.out.below hb6)
        clear hzl hb6 s1 s2 m2 y0 y1
        cases B with
        | false =>
          go_wp2
          go_ret2
          exact HTR1.out _ _ ⟨_, List.mem_of_getElem? HXK.out, HBE.out⟩ rfl (HB3.out.trans (HW6.out.mono HB3.out.size))
        | true =>
          have hkL : k < L.length := by rw [hLl]; exact hlt
          obtain ⟨cy, fy⟩ := HO6.out.cell (List.getElem?_eq_getElem hkL)
          go_wp2
          go_roundw
          case rel => exact ⟨k + 1, L.set k z, by omega, by go_num, by rw [List.length_set]; exact hLl, Lib.hid (fun i x hi hx => by
              rw [atI_set hkL]
              by_cases e : i = k
              · subst e
                rw [HXK.out] at hx
                cases hx
                refine ⟨HBE.out, fun hm => ?_⟩
                rw [if_pos rfl]
                exact HZL.out (by rw [← HLM.out]; exact hm) (by first | rfl | trivial)
              · rw [if_neg e]
                exact HA.out i x (by omega) hx), Lib.hid (HO6.out.put k z), Lib.hid (below_set HW6.out (by rw [HG3.out]; exact Nat.le_refl _) _)⟩
          case measure => simp [intOf]; omega
      · have hli : ¬ (k : Int) < (nx : Int) := by omega
        obtain rfl : k = nx := by omega
        go_wp2
        go_ret2
        exact HTR2.out _ _ (fun x hx => by
          obtain ⟨i, hi, e⟩ := List.getElem_of_mem hx
          exact (HA.out i x (by rw [HNX.out] at hi; exact hi) (by rw [← e]; exact List.getElem?_eq_getElem hi)).1) ⟨_, L, rfl, own_mono HO.out HB3.out.size, by rw [hLl, HNX.out], fun i x hx hm => (HA.out i x (by have := (List.getElem?_eq_some_iff.1 hx).1; rw [HNX.out] at this; exact this) hx).2 hm, HB3.out.trans (HW.out.mono HB3.out.size)⟩
  · have hf1 : (e0 != 0) = true := by simpa using h0
    have hf2 : (e0 == 0) = false := by simpa using h0
    have H0 := Lib.hid h0
    clear h0 he
    go_enter Try.func18, Try.ntmps18
    go_wp2_with (first
      | (go_at_call 38; refine (ncheck_any n b ao cap Z _ HR.out HZ.out).mono ?_; rw [HE.out]; rintro e w3 ⟨rfl, hb3⟩; have HB3 := Lib.hid (HB0.out.trans (hb3.mono HB0.out.size)); clear hb3))
    go_ret2
    exact .inl ⟨by rw [HE.out]; exact H0.out, by rw [HE.out]; rfl, HB3.out⟩
end
end Go.Proofs.Ytmflleifglefiaa
