/- MincutSides, MincutLeast, MincutBounds, MincutMeets. -/
import Derived.Test.YtbgnoaijgngifaaJAwk
namespace Go.Proofs.Ytbgnoaijgngifaa
open Go.RowKit
set_option linter.unusedVariables false

theorem capE_ok {n : Int} {Z : List ArcT} {S : List Bool} (h : capE n Z S = 0) : checkE n Z = 0 ∧ (S.length : Int) = n := by
  unfold capE at h
  split at h
  · next h1 =>
    split at h
    · next h2 => exact ⟨h1, h2⟩
    · exact absurd h (by decide)
  · next h1 => exact absurd h h1
theorem capE_yes {N : Nat} {Z : List ArcT} {S : List Bool} (h : checkE (N : Int) Z = 0) (hl : S.length = N) : capE (N : Int) Z S = 0 := by unfold capE; rw [if_pos h, if_pos (by rw [hl])]
theorem capV_yes {n : Int} {Z : List ArcT} {S : List Bool} (h : capE n Z S = 0) : capV n Z S = capS Z (sideB S) := by unfold capV; rw [if_pos h]
theorem least_ends {Z : List ArcT} {N i j : Nat} {S : List Bool} {k : Int} {w : World} {a : Option Addr} (h : LeastS Z N i j S k) (hi : i < N) (hj : j < N) (hl : Lst encB w a S) :
    ∃ g x, a = some ⟨g, x, none⟩ ∧ w.cell? ⟨g, x + i, none⟩ = some (.bool true) ∧ w.cell? ⟨g, x + j, none⟩ = some (.bool false) := by
  have hsl := h.len
  obtain ⟨g, x, e, _, s0⟩ := hl i (by omega)
  obtain ⟨g2, x2, e2, _, s1⟩ := hl j (by omega)
  rw [e] at e2
  cases e2
  have h0 := h.ends.1
  have h1 := h.ends.2
  rw [sideB_at (by omega)] at h0 h1
  rw [h0] at s0
  rw [h1] at s1
  exact ⟨g, x, e, s0, s1⟩
section
variable (n : Int) (b : Bool) (ao : Option Addr) (len cap : Nat) (Z : List ArcT)
set_option maxRecDepth 100000 in
set_option maxHeartbeats 4000000 in
theorem sides_law (fo so : Option Addr) (fl fc sl sc : Nat) (F : List Int) (S : List Bool) (s : Int) (w : World) (hl : Z.length = len) (hm : len ≤ maxLen) (hr : Row encA 4 w ao Z) (hl1 : F.length = fl) (hm1 : fl ≤ maxLen) (hf : Lst encI w fo F) (hl3 : S.length = sl) (hm3 : sl ≤ maxLen) (hs : Lst encB w so S) :
    Calls Try.prog 3 #[.agg #[.int .i64 n, .bool b, .slice ao len cap], .slice fo fl fc, .int .i64 s, .slice so sl sc] w fun e w' => e = .returned (.bool true) ∧ Below w.heap.size w w' := by
  subst hl
  subst hl1
  subst hl3
  have hb00 := (Below.refl _ w).alloc (Nat.le_refl _) (.cells #[.int .i64 n, .bool b, .slice ao Z.length cap] 24)
  have HB := Lib.hid hb00
  have HN := Lib.hid (heap_alloc_new w (.cells #[.int .i64 n, .bool b, .slice ao Z.length cap] 24))
  have HR := Lib.hid (hr.below' hb00)
  have HM := Lib.hid hm
  have x0 := cell_whole HN.out 0
  have x1 := cell_whole HN.out 1
  have x2 := cell_whole HN.out 2
  have HF := Lib.hid (hf.below hb00)
  have HMF := Lib.hid hm1
  have HS := Lib.hid (hs.below hb00)
  have HMS := Lib.hid hm3
  clear hr hm hb00 hf hm1 hs hm3
  have hdl := sideL_few (n := n) (Z := Z) (F := F) (s := s)
  obtain ⟨e0, he⟩ : ∃ e0, levE n Z F s = e0 := ⟨_, rfl⟩
  obtain ⟨D, hd⟩ : ∃ D, sideL n Z F s = D := ⟨_, rfl⟩
  obtain ⟨k0, hk⟩ : ∃ k0, capV n Z S = k0 := ⟨_, rfl⟩
  obtain ⟨c0, hc⟩ : ∃ c0, capE n Z S = c0 := ⟨_, rfl⟩
  have HE := Lib.hid he
  have HD := Lib.hid hd
  have HK := Lib.hid hk
  have HC := Lib.hid hc
  have HDL : Hid (D.length ≤ maxLen) := Lib.hid (by rw [← hd]; unfold maxLen; omega)
  clear he hd hk hc hdl
  go_enter Try.func3, Try.ntmps3
  go_wp2_with (first
    | (go_at_call 8; refine (jside_any n b ao fo cap fc Z F s _ HR.out HF.out HM.out HMF.out).mono ?_; rintro e wn ⟨a1, q1, rfl, h1, hb⟩; rw [HE.out, HD.out]; rw [HD.out] at h1; have HR := Lib.hid (HR.out.below' hb); have hn := kept_box HN.out hb; have HN := Lib.hid hn; have x0 := cell_whole hn 0; have x1 := cell_whole hn 1; have x2 := cell_whole hn 2; have HF := Lib.hid (HF.out.below hb); have HS := Lib.hid (HS.out.below hb); have HB := Lib.hid (HB.out.trans (hb.mono HB.out.size)); have H1 := Lib.hid h1; clear h1; clear hb hn)
    | (go_at_call 9; refine (rside_any n b ao fo cap fc Z F s _ HR.out HF.out HM.out HMF.out).mono ?_; rintro e wn ⟨a2, q2, rfl, h2, hb⟩; rw [HE.out, HD.out]; rw [HD.out] at h2; have HR := Lib.hid (HR.out.below' hb); have hn := kept_box HN.out hb; have HN := Lib.hid hn; have x0 := cell_whole hn 0; have x1 := cell_whole hn 1; have x2 := cell_whole hn 2; have HF := Lib.hid (HF.out.below hb); have HS := Lib.hid (HS.out.below hb); have H1 := Lib.hid (H1.out.below hb); have HB := Lib.hid (HB.out.trans (hb.mono HB.out.size)); have H2 := Lib.hid h2; clear h2; clear hb hn)
    | (go_at_call 10; refine (jcapacity_any n b ao so cap sc Z S _ HR.out HS.out HM.out HMS.out).mono ?_; rw [HK.out, HC.out]; rintro e wn ⟨rfl, hb⟩; have HR := Lib.hid (HR.out.below' hb); have hn := kept_box HN.out hb; have HN := Lib.hid hn; have x0 := cell_whole hn 0; have x1 := cell_whole hn 1; have x2 := cell_whole hn 2; have HF := Lib.hid (HF.out.below hb); have HS := Lib.hid (HS.out.below hb); have H1 := Lib.hid (H1.out.below hb); have H2 := Lib.hid (H2.out.below hb); have HB := Lib.hid (HB.out.trans (hb.mono HB.out.size)); clear hb hn)
    | (go_at_call 11; refine (rcapacity_any n b ao so cap sc Z S _ HR.out HS.out HM.out HMS.out).mono ?_; rw [HK.out, HC.out]; rintro e wn ⟨rfl, hb⟩; have HR := Lib.hid (HR.out.below' hb); have hn := kept_box HN.out hb; have HN := Lib.hid hn; have x0 := cell_whole hn 0; have x1 := cell_whole hn 1; have x2 := cell_whole hn 2; have HF := Lib.hid (HF.out.below hb); have HS := Lib.hid (HS.out.below hb); have H1 := Lib.hid (H1.out.below hb); have H2 := Lib.hid (H2.out.below hb); have HB := Lib.hid (HB.out.trans (hb.mono HB.out.size)); clear hb hn)
    | (go_at_call 12; refine (jawake_any _).mono ?_; rintro e wn ⟨rfl, hb⟩; have HR := Lib.hid (HR.out.below' hb); have hn := kept_box HN.out hb; have HN := Lib.hid hn; have x0 := cell_whole hn 0; have x1 := cell_whole hn 1; have x2 := cell_whole hn 2; have H1 := Lib.hid (H1.out.below hb); have H2 := Lib.hid (H2.out.below hb); have HB := Lib.hid (HB.out.trans (hb.mono HB.out.size)); clear hb hn)
    | (go_at_call 13; refine (rsameb_eq D a1 a2 q1 q2 _ H1.out H2.out HDL.out).mono ?_; rintro e wn ⟨rfl, hb⟩; have HR := Lib.hid (HR.out.below' hb); have hn := kept_box HN.out hb; have HN := Lib.hid hn; have x0 := cell_whole hn 0; have x1 := cell_whole hn 1; have x2 := cell_whole hn 2; have H1 := Lib.hid (H1.out.below hb); have H2 := Lib.hid (H2.out.below hb); have HB := Lib.hid (HB.out.trans (hb.mono HB.out.size)); clear hb hn))
  go_ret
  exact ⟨by simp, HB.out⟩
set_option maxRecDepth 100000 in
set_option maxHeartbeats 4000000 in
theorem bounds_law (fo so : Option Addr) (fl fc sl sc : Nat) (F : List Int) (S : List Bool) (s t : Int) (w : World) (hl : Z.length = len) (hm : len ≤ maxLen) (hr : Row encA 4 w ao Z) (hl1 : F.length = fl) (hm1 : fl ≤ maxLen) (hf : Lst encI w fo F) (hl3 : S.length = sl) (hm3 : sl ≤ maxLen) (hs : Lst encB w so S) :
    Calls Try.prog 4 #[.agg #[.int .i64 n, .bool b, .slice ao len cap], .int .i64 s, .int .i64 t, .slice fo fl fc, .slice so sl sc] w fun e w' => e = .returned (.bool true) ∧ Below w.heap.size w w' := by
  subst hl
  subst hl1
  subst hl3
  have hb00 := (Below.refl _ w).alloc (Nat.le_refl _) (.cells #[.int .i64 n, .bool b, .slice ao Z.length cap] 24)
  have HB := Lib.hid hb00
  have HN := Lib.hid (heap_alloc_new w (.cells #[.int .i64 n, .bool b, .slice ao Z.length cap] 24))
  have HR := Lib.hid (hr.below' hb00)
  have HM := Lib.hid hm
  have x0 := cell_whole HN.out 0
  have x1 := cell_whole HN.out 1
  have x2 := cell_whole HN.out 2
  have HF := Lib.hid (hf.below hb00)
  have HMF := Lib.hid hm1
  have HS := Lib.hid (hs.below hb00)
  have HMS := Lib.hid hm3
  clear hr hm hb00 hf hm1 hs hm3
  obtain ⟨v0, hv⟩ : ∃ v0, valE n Z s t F = v0 := ⟨_, rfl⟩
  obtain ⟨c0, hc0⟩ : ∃ c0, capE n Z S = c0 := ⟨_, rfl⟩
  obtain ⟨k, hk⟩ : ∃ k, valK n Z s t F = k := ⟨_, rfl⟩
  obtain ⟨m, hm0⟩ : ∃ m, capV n Z S = m := ⟨_, rfl⟩
  have HVE := Lib.hid hv
  have HK := Lib.hid hk
  have HC := Lib.hid hc0
  have HV := Lib.hid hm0
  by_cases h0 : v0 = 0
  · subst h0
    by_cases h1 : c0 = 0
    · subst h1
      obtain ⟨N, i, j, rfl, rfl, rfl, hi, hj, hij, hst⟩ := st_of hv
      rw [hk] at hst
      have hal := (arcs_lt (valE_ok hv).1).1
      rw [Int.toNat_natCast] at hal
      have hsl := (capE_ok hc0).2
      rw [capV_yes hc0] at hm0
      obtain ⟨sb, sx, e, hsb, s0⟩ := HS.out i (by omega)
      cases e
      obtain ⟨sb2, sx2, e, hsb2, s1⟩ := HS.out j (by omega)
      cases e
      have hw : S[i] = true → S[j] = false → k ≤ m := fun h1 h2 => by
        rw [← hm0]
        exact weak hal hi hst ⟨by rw [sideB_at (by omega)]; exact h1, by rw [sideB_at (by omega)]; exact h2⟩
      have hii : (i : Int) < (S.length : Int) := by omega
      have hji : (j : Int) < (S.length : Int) := by omega
      generalize S[i] = p at *
      generalize S[j] = q at *
      have HW := Lib.hid hw
      unfold encB at s0 s1
      clear hv hc0 hk hm0 hst hal hsl hw
      cases p <;> cases q
      all_goals
        first | (have hkm := HW.out rfl rfl) | skip
        go_enter Try.func4, Try.ntmps4
        go_wp2_with (first
          | (go_at_call 12; refine (jawake_any _).mono ?_; rintro e wn ⟨rfl, hb⟩; have HR := Lib.hid (HR.out.below' hb); have hn := kept_box HN.out hb; have HN := Lib.hid hn; have x0 := cell_whole hn 0; have x1 := cell_whole hn 1; have x2 := cell_whole hn 2; have HF := Lib.hid (HF.out.below hb); have HS := Lib.hid (HS.out.below hb); have HB := Lib.hid (HB.out.trans (hb.mono HB.out.size)); have s0 := cell_below hb s0; have s1 := cell_below hb s1; clear hb hn)
          | (go_at_call 14; refine (rscheck_any (N : Int) b ao fo cap fc Z (i : Int) (j : Int) F _ HR.out HF.out HM.out HMF.out).mono ?_; rw [HVE.out, HK.out]; rintro e wn ⟨rfl, hb⟩; have HR := Lib.hid (HR.out.below' hb); have hn := kept_box HN.out hb; have HN := Lib.hid hn; have x0 := cell_whole hn 0; have x1 := cell_whole hn 1; have x2 := cell_whole hn 2; have HF := Lib.hid (HF.out.below hb); have HS := Lib.hid (HS.out.below hb); have HB := Lib.hid (HB.out.trans (hb.mono HB.out.size)); have s0 := cell_below hb s0; have s1 := cell_below hb s1; clear hb hn)
          | (go_at_call 10; refine (jcapacity_any (N : Int) b ao (some ⟨sb, sx, none⟩) cap sc Z S _ HR.out HS.out HM.out HMS.out).mono ?_; rw [HC.out, HV.out]; rintro e wn ⟨rfl, hb⟩; have HR := Lib.hid (HR.out.below' hb); have hn := kept_box HN.out hb; have HN := Lib.hid hn; have x0 := cell_whole hn 0; have x1 := cell_whole hn 1; have x2 := cell_whole hn 2; have HF := Lib.hid (HF.out.below hb); have HS := Lib.hid (HS.out.below hb); have HB := Lib.hid (HB.out.trans (hb.mono HB.out.size)); have s0 := cell_below hb s0; have s1 := cell_below hb s1; clear hb hn))
        go_ret
        exact ⟨by simp, HB.out⟩
    · have hf1 : (c0 != 0) = true := by simpa using h1
      have hf2 : (c0 == 0) = false := by simpa using h1
      clear hv hc0 hk hm0 h1
      go_enter Try.func4, Try.ntmps4
      go_wp2_with (first
        | (go_at_call 12; refine (jawake_any _).mono ?_; rintro e wn ⟨rfl, hb⟩; have HR := Lib.hid (HR.out.below' hb); have hn := kept_box HN.out hb; have HN := Lib.hid hn; have x0 := cell_whole hn 0; have x1 := cell_whole hn 1; have x2 := cell_whole hn 2; have HF := Lib.hid (HF.out.below hb); have HS := Lib.hid (HS.out.below hb); have HB := Lib.hid (HB.out.trans (hb.mono HB.out.size)); clear hb hn)
        | (go_at_call 14; refine (rscheck_any n b ao fo cap fc Z s t F _ HR.out HF.out HM.out HMF.out).mono ?_; rw [HVE.out, HK.out]; rintro e wn ⟨rfl, hb⟩; have HR := Lib.hid (HR.out.below' hb); have hn := kept_box HN.out hb; have HN := Lib.hid hn; have x0 := cell_whole hn 0; have x1 := cell_whole hn 1; have x2 := cell_whole hn 2; have HF := Lib.hid (HF.out.below hb); have HS := Lib.hid (HS.out.below hb); have HB := Lib.hid (HB.out.trans (hb.mono HB.out.size)); clear hb hn)
        | (go_at_call 10; refine (jcapacity_any n b ao so cap sc Z S _ HR.out HS.out HM.out HMS.out).mono ?_; rw [HC.out, HV.out]; rintro e wn ⟨rfl, hb⟩; have HR := Lib.hid (HR.out.below' hb); have hn := kept_box HN.out hb; have HN := Lib.hid hn; have x0 := cell_whole hn 0; have x1 := cell_whole hn 1; have x2 := cell_whole hn 2; have HF := Lib.hid (HF.out.below hb); have HS := Lib.hid (HS.out.below hb); have HB := Lib.hid (HB.out.trans (hb.mono HB.out.size)); clear hb hn))
      go_ret
      exact ⟨by simp, HB.out⟩
  · have hf1 : (v0 != 0) = true := by simpa using h0
    have hf2 : (v0 == 0) = false := by simpa using h0
    clear hv hc0 hk hm0 h0
    go_enter Try.func4, Try.ntmps4
    go_wp2_with (first
      | (go_at_call 12; refine (jawake_any _).mono ?_; rintro e wn ⟨rfl, hb⟩; have HR := Lib.hid (HR.out.below' hb); have hn := kept_box HN.out hb; have HN := Lib.hid hn; have x0 := cell_whole hn 0; have x1 := cell_whole hn 1; have x2 := cell_whole hn 2; have HF := Lib.hid (HF.out.below hb); have HS := Lib.hid (HS.out.below hb); have HB := Lib.hid (HB.out.trans (hb.mono HB.out.size)); clear hb hn)
      | (go_at_call 14; refine (rscheck_any n b ao fo cap fc Z s t F _ HR.out HF.out HM.out HMF.out).mono ?_; rw [HVE.out, HK.out]; rintro e wn ⟨rfl, hb⟩; have HR := Lib.hid (HR.out.below' hb); have hn := kept_box HN.out hb; have HN := Lib.hid hn; have x0 := cell_whole hn 0; have x1 := cell_whole hn 1; have x2 := cell_whole hn 2; have HF := Lib.hid (HF.out.below hb); have HS := Lib.hid (HS.out.below hb); have HB := Lib.hid (HB.out.trans (hb.mono HB.out.size)); clear hb hn)
      | (go_at_call 10; refine (jcapacity_any n b ao so cap sc Z S _ HR.out HS.out HM.out HMS.out).mono ?_; rw [HC.out, HV.out]; rintro e wn ⟨rfl, hb⟩; have HR := Lib.hid (HR.out.below' hb); have hn := kept_box HN.out hb; have HN := Lib.hid hn; have x0 := cell_whole hn 0; have x1 := cell_whole hn 1; have x2 := cell_whole hn 2; have HF := Lib.hid (HF.out.below hb); have HS := Lib.hid (HS.out.below hb); have HB := Lib.hid (HB.out.trans (hb.mono HB.out.size)); clear hb hn))
    go_ret
    exact ⟨by simp, HB.out⟩
set_option maxRecDepth 100000 in
set_option maxHeartbeats 4000000 in
theorem meets_law (s t : Int) (w : World) (hl : Z.length = len) (hm : len ≤ maxLen) (hr : Row encA 4 w ao Z) :
    Calls Try.prog 5 #[.agg #[.int .i64 n, .bool b, .slice ao len cap], .int .i64 s, .int .i64 t] w fun e w' => e = .returned (.bool true) ∧ Below w.heap.size w w' := by
  subst hl
  have hb00 := (Below.refl _ w).alloc (Nat.le_refl _) (.cells #[.int .i64 n, .bool b, .slice ao Z.length cap] 24)
  have HB := Lib.hid hb00
  have HN := Lib.hid (heap_alloc_new w (.cells #[.int .i64 n, .bool b, .slice ao Z.length cap] 24))
  have HR := Lib.hid (hr.below' hb00)
  have HM := Lib.hid hm
  have x0 := cell_whole HN.out 0
  have x1 := cell_whole HN.out 1
  have x2 := cell_whole HN.out 2
  clear hr hm hb00 
  obtain ⟨e0, he⟩ : ∃ e0, endsE n Z s t = e0 := ⟨_, rfl⟩
  have HE := Lib.hid he
  by_cases h0 : e0 = 0
  · subst h0
    obtain ⟨hc, i, j, rfl, rfl, hi, hj, hij⟩ := endsE_ok he
    have hn := nodesE_ok (right_iff.1 hc : Right (n, b, Z)).1
    simp only at hn
    obtain ⟨N, rfl⟩ : ∃ N : Nat, n = (N : Int) := ⟨n.toNat, by omega⟩
    rw [Int.toNat_natCast] at hi hj
    have HAL := Lib.hid (arcs_lt he)
    rw [Int.toNat_natCast] at HAL
    have HCE := Lib.hid hc
    clear he hc
    go_enter Try.func5, Try.ntmps5
    go_wp2_with (first
      | (go_at_call 12; refine (jawake_any _).mono ?_; rintro e wn ⟨rfl, hb⟩; have HR := Lib.hid (HR.out.below' hb); have hn := kept_box HN.out hb; have HN := Lib.hid hn; have x0 := cell_whole hn 0; have x1 := cell_whole hn 1; have x2 := cell_whole hn 2; have HB := Lib.hid (HB.out.trans (hb.mono HB.out.size)); clear hb hn)
      | (go_at_call 15; refine (jleast_ok b ao cap Z N i j _ HR.out HM.out HE.out).mono ?_; rintro e wn ⟨a1, q1, S, k, rfl, h1, hS, hb⟩; have HR := Lib.hid (HR.out.below' hb); have hn := kept_box HN.out hb; have HN := Lib.hid hn; have x0 := cell_whole hn 0; have x1 := cell_whole hn 1; have x2 := cell_whole hn 2; have HB := Lib.hid (HB.out.trans (hb.mono HB.out.size)); have hsl := hS.len; have H1 := Lib.hid h1; have HLS := Lib.hid hS; have HSL : Hid (S.length ≤ maxLen) := Lib.hid (by rw [hsl]; unfold maxLen; omega); have HCY := Lib.hid (capE_yes HCE.out hsl); have HCV : Hid (capV (N : Int) Z S = k) := Lib.hid (by rw [capV_yes HCY.out]; exact hS.takes); obtain ⟨g1, y1, hg1, s0, s1⟩ := least_ends hS hi hj h1; subst hg1; have hii : (i : Int) < (S.length : Int) := (by omega); have hji : (j : Int) < (S.length : Int) := (by omega); have hln : ((S.length : Int) == (N : Int)) = true := (by rw [hsl]; simp); have hln2 : (S.length == N) = true := (by rw [hsl]; simp); clear h1 hS hsl; clear hb hn)
      | (go_at_call 16; refine (xmost_at b ao cap Z N i j k _ HR.out HM.out HE.out hi HLS.out.most).mono ?_; rintro e wn ⟨rfl, hb⟩; have HR := Lib.hid (HR.out.below' hb); have hn := kept_box HN.out hb; have HN := Lib.hid hn; have x0 := cell_whole hn 0; have x1 := cell_whole hn 1; have x2 := cell_whole hn 2; have H1 := Lib.hid (H1.out.below hb); have HB := Lib.hid (HB.out.trans (hb.mono HB.out.size)); have s0 := cell_below hb s0; have s1 := cell_below hb s1; clear hb hn)
      | (go_at_call 10; refine (jcapacity_any (N : Int) b ao (some ⟨g1, y1, none⟩) cap q1 Z S _ HR.out H1.out HM.out HSL.out).mono ?_; rw [HCY.out, HCV.out]; rintro e wn ⟨rfl, hb⟩; have HR := Lib.hid (HR.out.below' hb); have hn := kept_box HN.out hb; have HN := Lib.hid hn; have x0 := cell_whole hn 0; have x1 := cell_whole hn 1; have x2 := cell_whole hn 2; have H1 := Lib.hid (H1.out.below hb); have HB := Lib.hid (HB.out.trans (hb.mono HB.out.size)); have s0 := cell_below hb s0; have s1 := cell_below hb s1; clear hb hn))
    go_ret
    exact ⟨by simp, HB.out⟩
  · have H0 := Lib.hid h0
    have hf1 : (e0 != 0) = true := by simpa using h0
    have hf2 : (e0 == 0) = false := by simpa using h0
    clear h0 he
    go_enter Try.func5, Try.ntmps5
    go_wp2_with (first
      | (go_at_call 12; refine (jawake_any _).mono ?_; rintro e wn ⟨rfl, hb⟩; have HR := Lib.hid (HR.out.below' hb); have hn := kept_box HN.out hb; have HN := Lib.hid hn; have x0 := cell_whole hn 0; have x1 := cell_whole hn 1; have x2 := cell_whole hn 2; have HB := Lib.hid (HB.out.trans (hb.mono HB.out.size)); clear hb hn)
      | (go_at_call 15; refine (jleast_no b ao cap Z n s t e0 _ HR.out HM.out HE.out H0.out).mono ?_; rintro e wn ⟨rfl, hb⟩; have HR := Lib.hid (HR.out.below' hb); have hn := kept_box HN.out hb; have HN := Lib.hid hn; have x0 := cell_whole hn 0; have x1 := cell_whole hn 1; have x2 := cell_whole hn 2; have HB := Lib.hid (HB.out.trans (hb.mono HB.out.size)); clear hb hn)
      | (go_at_call 16; refine (xmost_no b ao cap Z n s t e0 _ HR.out HM.out HE.out H0.out).mono ?_; rintro e wn ⟨rfl, hb⟩; have HR := Lib.hid (HR.out.below' hb); have hn := kept_box HN.out hb; have HN := Lib.hid hn; have x0 := cell_whole hn 0; have x1 := cell_whole hn 1; have x2 := cell_whole hn 2; have HB := Lib.hid (HB.out.trans (hb.mono HB.out.size)); clear hb hn))
    go_ret
    exact ⟨by simp, HB.out⟩
end
end Go.Proofs.Ytbgnoaijgngifaa
