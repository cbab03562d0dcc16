/- Package decomp's Split. -/
import Derived.Test.YtmflleifglefiaaDWhl
namespace Go.Proofs.Ytmflleifglefiaa
open Go.RowKit
set_option linter.unusedVariables false

theorem ChI.chr {w : World} {B : Nat} {v : Value} {X : List ChT} {L : List Part} (h : ChI w B v X) (e : X.map (fun x => x.2) = L.map partI) : ∃ ca cc, v = .slice ca X.length cc ∧ ChR w ca X L := by
  obtain ⟨ca, cc, e1, h1, _⟩ := h.slice
  exact ⟨ca, cc, e1, h1, fun x hx => (h.inn x hx).1, e⟩
/-- What the program's Split tells. -/
def DSplitRes (n : Int) (Z : List ArcT) (s t : Int) (F : List Int) (w : World) (e : Ending) (w' : World) : Prop :=
  (splitE n Z s t F = 0 ∧ ∃ (N i j : Nat) (ca ya : Option Addr) (cc yc : Nat) (X Y : List ChT), n = (N : Int) ∧ s = (i : Int) ∧ t = (j : Int) ∧ (i < N ∧ j < N ∧ i ≠ j) ∧ e = .returned (.tuple #[.slice ca X.length cc, .slice ya Y.length yc, .int .i64 0]) ∧ ChR w' ca X (chainsF Z N i j F) ∧ ChR w' ya Y (cycsF Z N F) ∧ Below w.heap.size w w') ∨
  (splitE n Z s t F ≠ 0 ∧ e = .returned (.tuple #[.slice none 0 0, .slice none 0 0, .int .i64 (splitE n Z s t F)]) ∧ Below w.heap.size w w')
section
variable (n : Int) (b : Bool) (ao fo : Option Addr) (cap fc : Nat) (Z : List ArcT) (F : List Int)
set_option maxRecDepth 100000 in
set_option maxHeartbeats 8000000 in
theorem dsplit_any (s t : Int) (w : World) (h : Row encA 4 w ao Z) (hf : Lst encI w fo F) (hz : Z.length ≤ maxLen) (hfl : F.length ≤ maxLen) :
    Calls Try.prog 9 #[.agg #[.int .i64 n, .bool b, .slice ao Z.length cap], .int .i64 s, .int .i64 t, .slice fo F.length fc] w (DSplitRes n Z s t F w) := by
  have hb00 := (Below.refl _ w).alloc (Nat.le_refl _) (.cells #[.int .i64 n, .bool b, .slice ao Z.length cap] 24)
  have HB0 := Lib.hid hb00
  have HN0 := Lib.hid (heap_alloc_new w (.cells #[.int .i64 n, .bool b, .slice ao Z.length cap] 24))
  have c0 := cell_whole HN0.out 0
  have c1 := cell_whole HN0.out 1
  have c2 := cell_whole HN0.out 2
  have HR := Lib.hid (h.below' hb00)
  have HF := Lib.hid (hf.below hb00)
  have HZ := Lib.hid hz
  have HFL := Lib.hid hfl
  clear h hf hz hfl hb00
  obtain ⟨e0, he⟩ : ∃ e0, valE n Z s t F = e0 := ⟨_, rfl⟩
  obtain ⟨k0, hk⟩ : ∃ k0, valK n Z s t F = k0 := ⟨_, rfl⟩
  have HE := Lib.hid he
  have HK := Lib.hid hk
  by_cases h0 : e0 = 0
  · subst h0
    by_cases hk0 : k0 < 0
    · have HSP : Hid (splitE n Z s t F = 71) := Lib.hid (by unfold splitE; rw [if_pos he, hk, if_pos hk0])
      clear he hk
      go_enter Try.func9, Try.ntmps9
      go_wp2_with (first
        | (go_at_call 24; refine (scheck_any n b ao fo cap fc Z s t F _ HR.out HF.out HZ.out HFL.out).mono ?_; rw [HE.out, HK.out]; rintro e w3 ⟨rfl, hb3⟩; have HB3 := Lib.hid (HB0.out.trans (hb3.mono HB0.out.size)); clear hb3))
      go_ret3
      exact .inr ⟨by rw [HSP.out]; decide, by rw [HSP.out]; rfl, HB3.out⟩
    · have HSP : Hid (splitE n Z s t F = 0) := Lib.hid (by unfold splitE; rw [if_pos he, hk, if_neg hk0])
      have hEN := (valE_ok he).1
      obtain ⟨N, i, j, rfl, rfl, rfl, hi, hj, hij, hst⟩ := st_of he
      have hck := (endsE_ok hEN).1
      obtain ⟨hE1, hZ1, hC1, hzl, hN50⟩ := netD (b := true) (right_iff.1 hck)
      rw [Int.toNat_natCast] at hN50
      have HFW := Lib.hid hst.1
      have HIJ := Lib.hid hij
      have HCK := Lib.hid hck
      clear he hk hEN hck hst hE1 hZ1 hC1 hij
      go_enter Try.func9, Try.ntmps9
      go_wp2_with (first
        | (go_at_call 24; refine (scheck_any (N : Int) b ao fo cap fc Z (i : Int) (j : Int) F _ HR.out HF.out HZ.out HFL.out).mono ?_; rw [HE.out, HK.out]; rintro e w3 ⟨rfl, hb3⟩; have hn3 := kept_box HN0.out hb3; have HR3 := Lib.hid (HR.out.below' hb3); have HF3 := Lib.hid (HF.out.below hb3); have HB3 := Lib.hid (HB0.out.trans (hb3.mono HB0.out.size)); have c0 := cell_whole hn3 0; have c1 := cell_whole hn3 1; have c2 := cell_whole hn3 2; clear hb3 hn3)
        | (go_at_call 25; refine (dwhole_at N b ao fo cap fc Z F _ HR3.out HF3.out HFW.out hzl).mono ?_; rintro e w4 ⟨xo, xc, zo, rfl, hr4, hb4⟩; have hb5 := (Below.refl w4.heap.size w4).alloc (Nat.le_refl _) (.cells #[.int .i64 (N : Int), .bool b, .slice xo Z.length xc, .slice zo Z.length Z.length] 57); have hn5 := heap_alloc_new w4 (.cells #[.int .i64 (N : Int), .bool b, .slice xo Z.length xc, .slice zo Z.length Z.length] 57); have HR5 := Lib.hid (hr4.below hb5); have HOL := Lib.hid (fun q (hq : OwnB (.slice xo Z.length xc) q) => own_lt hr4.own hq); have HOG := Lib.hid (fun q (hq : OwnB (.slice xo Z.length xc) q) => own_block hr4.own hq); have HN5 := Lib.hid hn5; have HB4 := Lib.hid hb4; have HB5 := Lib.hid ((HB3.out.trans (hb4.mono HB3.out.size)).trans (hb5.mono (Nat.le_trans HB3.out.size hb4.size))); have k0 := cell_whole hn5 0; have k1 := cell_whole hn5 1; have k2 := cell_whole hn5 2; have k3 := cell_whole hn5 3; clear hr4 hb4 hb5 hn5 c0 c1 c2)
        | (go_at_call 26; refine (dcycles_at N b _ xo xc zo Z.length Z.length Z F _ HR5.out HCK.out hzl hN50).mono ?_; rintro e w6 ⟨v6, Y, rfl, hy6, ey6, hr6, hk6⟩; have HR6 := Lib.hid hr6; have HY6 := Lib.hid hy6; have HEY := Lib.hid ey6; have HK6 := Lib.hid hk6; have hn6 := hk6.old HN5.out (fun q => by have := HOL.out _ q; omega); have k0 := cell_whole hn6 0; have k1 := cell_whole hn6 1; have k2 := cell_whole hn6 2; have k3 := cell_whole hn6 3; clear hr6 hy6 ey6 hk6 hn6)
        | (go_at_call 27; refine (dchains_at N b _ xo xc zo Z.length Z.length Z (restF Z N F) i j _ HR6.out HCK.out hzl hN50 hi hj HIJ.out).mono ?_; rintro e w7 ⟨v7, X, rfl, hx7, ex7, hk7⟩; have HX7 := Lib.hid hx7; have HEX := Lib.hid ex7; have HK7 := Lib.hid hk7; clear hx7 ex7 hk7))
      obtain ⟨ca, cc, e1, hcr⟩ := HX7.out.chr HEX.out
      obtain ⟨ya, yc, e2, hcy⟩ := (HY6.out.keptS HK7.out (fun q hq => by have h1 := HOL.out q hq; simp; omega)).chr HEY.out
      subst e1
      subst e2
      have HCR := Lib.hid hcr
      have HCY := Lib.hid hcy
      have HBF : Hid (Below w.heap.size w w7) := Lib.hid (by
        have hs3 := HB3.out.size
        have hs5 := HB5.out.size
        have h6 := HK6.out.below (B := w.heap.size) hs5 (fun q hq => by have := HOG.out q hq; omega)
        have h7 := HK7.out.below (B := w.heap.size) (Nat.le_trans hs5 HK6.out.size) (fun q hq => by have := HOG.out q hq; omega)
        exact (HB5.out.trans h6).trans h7)
      clear hcr hcy
      go_ret3
      exact .inl ⟨HSP.out, N, i, j, ca, ya, cc, yc, X, Y, rfl, rfl, rfl, ⟨hi, hj, HIJ.out⟩, rfl, HCR.out, HCY.out, HBF.out⟩
  · have HSP : Hid (splitE n Z s t F = e0) := Lib.hid (by unfold splitE; rw [if_neg (by rw [he]; exact h0), he])
    have hf1 : (e0 != 0) = true := by simpa using h0
    have hf2 : (e0 == 0) = false := by simpa using h0
    have H0 := Lib.hid h0
    clear h0 he hk
    go_enter Try.func9, Try.ntmps9
    go_wp2_with (first
      | (go_at_call 24; refine (scheck_any n b ao fo cap fc Z s t F _ HR.out HF.out HZ.out HFL.out).mono ?_; rw [HE.out, HK.out]; rintro e w3 ⟨rfl, hb3⟩; have HB3 := Lib.hid (HB0.out.trans (hb3.mono HB0.out.size)); clear hb3))
    go_ret3
    exact .inr ⟨by rw [HSP.out]; exact H0.out, by rw [HSP.out]; rfl, HB3.out⟩
end
end Go.Proofs.Ytmflleifglefiaa
