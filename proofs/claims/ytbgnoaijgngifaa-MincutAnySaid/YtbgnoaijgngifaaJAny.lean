/- MincutAny. -/
import Derived.Test.YtbgnoaijgngifaaJLaws
namespace Go.Proofs.Ytbgnoaijgngifaa
open Go.RowKit
set_option linter.unusedVariables false

/-- What a cut of a known capacity is to the least side. -/
theorem any_facts {Z : List ArcT} {N i j : Nat} {T : List Bool} {m : Int} (hal : ∀ a ∈ Z, frN a < N ∧ toN a < N) (hi : i < N) (hT : SideST (sideB T) i j) (hm : capS Z (sideB T) = m) {S : List Bool} {k : Int} (h : LeastS Z N i j S k) :
    k ≤ m ∧ (m = k → ∀ v, sideB S v = true → sideB T v = true) := by
  obtain ⟨⟨f, hf⟩, _⟩ := h.most
  refine ⟨by rw [← hm]; exact weak hal hi hf hT, fun e v hv => h.least _ hT (by rw [hm, e]) v hv⟩
theorem cellB {w : World} {g x : Nat} {S : List Bool} (h : Lst encB w (some ⟨g, x, none⟩) S) {v : Nat} (hv : v < S.length) : w.cell? ⟨g, x + v, none⟩ = some (.bool S[v]) := by
  obtain ⟨g2, x2, e, _, s0⟩ := h v hv
  cases e
  exact s0
section
variable (n : Int) (b : Bool) (ao : Option Addr) (len cap : Nat) (Z : List ArcT)
set_option maxRecDepth 100000 in
set_option maxHeartbeats 4000000 in
theorem any_law (so : Option Addr) (sl sc : Nat) (T : List Bool) (s t : Int) (w : World) (hl : Z.length = len) (hm : len ≤ maxLen) (hr : Row encA 4 w ao Z) (hl3 : T.length = sl) (hm3 : sl ≤ maxLen) (hs : Lst encB w so T) :
    Calls Try.prog 6 #[.agg #[.int .i64 n, .bool b, .slice ao len cap], .int .i64 s, .int .i64 t, .slice so sl sc] w fun e w' => e = .returned (.bool true) ∧ Below w.heap.size w w' := by
  subst hl
  subst hl3
  have hb00 := (Below.refl _ w).alloc (Nat.le_refl _) (.cells #[.int .i64 n, .bool b, .slice ao Z.length cap] 24)
  have HB := Lib.hid hb00
  have HN := Lib.hid (heap_alloc_new w (.cells #[.int .i64 n, .bool b, .slice ao Z.length cap] 24))
  have HR := Lib.hid (hr.below' hb00)
  have HM := Lib.hid hm
  have x0 := cell_whole HN.out 0
  have x1 := cell_whole HN.out 1
  have x2 := cell_whole HN.out 2
  have HT := Lib.hid (hs.below hb00)
  have HMT := Lib.hid hm3
  clear hr hm hb00 hs hm3
  obtain ⟨e0, he⟩ : ∃ e0, endsE n Z s t = e0 := ⟨_, rfl⟩
  have HE := Lib.hid he
  by_cases h0 : e0 = 0
  · subst h0
    obtain ⟨hc, i, j, rfl, rfl, hi, hj, hij⟩ := endsE_ok he
    have hn := nodesE_ok (right_iff.1 hc : Right (n, b, Z)).1
    simp only at hn
    obtain ⟨N, rfl⟩ : ∃ N : Nat, n = (N : Int) := ⟨n.toNat, by omega⟩
    rw [Int.toNat_natCast] at hi hj
    have HAL := Lib.hid (arcs_lt he)
    rw [Int.toNat_natCast] at HAL
    have HCE := Lib.hid hc
    have HWN := Lib.hid (wide_of hc)
    rw [Int.toNat_natCast] at HWN
    obtain ⟨c0, hc0⟩ : ∃ c0, capE (N : Int) Z T = c0 := ⟨_, rfl⟩
    obtain ⟨m, hm0⟩ : ∃ m, capV (N : Int) Z T = m := ⟨_, rfl⟩
    have HC := Lib.hid hc0
    have HV := Lib.hid hm0
    clear he hc
    by_cases h1 : c0 = 0
    · subst h1
      have hsl := (capE_ok hc0).2
      rw [capV_yes hc0] at hm0
      have HCM := Lib.hid hm0
      have HTN : Hid (T.length = N) := Lib.hid (by omega)
      obtain ⟨sb, sx, e, hsb, s0⟩ := HT.out i (by omega)
      cases e
      obtain ⟨sb2, sx2, e, hsb2, s1⟩ := HT.out j (by omega)
      cases e
      have hii : (i : Int) < (T.length : Int) := by omega
      have hji : (j : Int) < (T.length : Int) := by omega
      have h4 : sideB T i = T[i] := sideB_at (by omega)
      have h5 : sideB T j = T[j] := sideB_at (by omega)
      generalize T[i] = p at *
      generalize T[j] = q at *
      have H4 := Lib.hid h4
      have H5 := Lib.hid h5
      unfold encB at s0 s1
      clear hc0 hm0 hsl h4 h5
      cases p
      · cases q
        · go_enter Try.func6, Try.ntmps6
          go_wp2_with (first
            | (go_at_call 12; refine (jawake_any _).mono ?_; rintro e wn ⟨rfl, hb⟩; have HR := Lib.hid (HR.out.below' hb); have hn := kept_box HN.out hb; have HN := Lib.hid hn; have x0 := cell_whole hn 0; have x1 := cell_whole hn 1; have x2 := cell_whole hn 2; have HT := Lib.hid (HT.out.below hb); have HB := Lib.hid (HB.out.trans (hb.mono HB.out.size)); have s0 := cell_below hb s0; have s1 := cell_below hb s1; clear hb hn)
            | (go_at_call 15; refine (jleast_ok b ao cap Z N i j _ HR.out HM.out HE.out).mono ?_; rintro e wn ⟨a1, q1, S, k, rfl, h1, hS, hb⟩; have HR := Lib.hid (HR.out.below' hb); have hn := kept_box HN.out hb; have HN := Lib.hid hn; have x0 := cell_whole hn 0; have x1 := cell_whole hn 1; have x2 := cell_whole hn 2; have HT := Lib.hid (HT.out.below hb); have HB := Lib.hid (HB.out.trans (hb.mono HB.out.size)); have hsl := hS.len; have H1 := Lib.hid h1; have HLS := Lib.hid hS; have HSL : Hid (S.length ≤ maxLen) := Lib.hid (by rw [hsl]; unfold maxLen; omega); clear h1 hS hsl; have s0 := cell_below hb s0; have s1 := cell_below hb s1; clear hb hn)
            | (go_at_call 17; refine (xmax_ok b ao cap Z N i j _ HR.out HM.out HE.out).mono ?_; rintro e wn ⟨fo, fc, F, k2, rfl, hf, hv, hm3, hn3, hb⟩; have HR := Lib.hid (HR.out.below' hb); have hn := kept_box HN.out hb; have HN := Lib.hid hn; have x0 := cell_whole hn 0; have x1 := cell_whole hn 1; have x2 := cell_whole hn 2; have HT := Lib.hid (HT.out.below hb); have H1 := Lib.hid (H1.out.below hb); have HB := Lib.hid (HB.out.trans (hb.mono HB.out.size)); have HLE : Hid (levE (N : Int) Z F (i : Int) = 0) := Lib.hid (lev_zero (flowE_of HE.out hv) hi); have HSE : Hid (sideL (N : Int) Z F (i : Int) = S) := Lib.hid (leastS_eq Z HE.out hi (least_of HLE.out HWN.out hi hv hn3) HLS.out).1; have HFL : Hid (F.length ≤ maxLen) := Lib.hid (by rw [hv.1.1]; exact HM.out); have HF := Lib.hid hf; clear hf hv hm3 hn3; have s0 := cell_below hb s0; have s1 := cell_below hb s1; clear hb hn)
            | (go_at_call 8; refine (jside_any (N : Int) b ao fo cap fc Z F (i : Int) _ HR.out HF.out HM.out HFL.out).mono ?_; rintro e wn ⟨a3, q3, rfl, h3, hb⟩; rw [HLE.out, HSE.out]; rw [HSE.out] at h3; have HR := Lib.hid (HR.out.below' hb); have hn := kept_box HN.out hb; have HN := Lib.hid hn; have x0 := cell_whole hn 0; have x1 := cell_whole hn 1; have x2 := cell_whole hn 2; have HT := Lib.hid (HT.out.below hb); have H1 := Lib.hid (H1.out.below hb); have HB := Lib.hid (HB.out.trans (hb.mono HB.out.size)); have H3 := Lib.hid h3; clear h3; have s0 := cell_below hb s0; have s1 := cell_below hb s1; clear hb hn)
            | (go_at_call 13; refine (rsameb_eq S a3 a1 q3 q1 _ H3.out H1.out HSL.out).mono ?_; rintro e wn ⟨rfl, hb⟩; have HR := Lib.hid (HR.out.below' hb); have hn := kept_box HN.out hb; have HN := Lib.hid hn; have x0 := cell_whole hn 0; have x1 := cell_whole hn 1; have x2 := cell_whole hn 2; have HT := Lib.hid (HT.out.below hb); have H1 := Lib.hid (H1.out.below hb); have HB := Lib.hid (HB.out.trans (hb.mono HB.out.size)); have s0 := cell_below hb s0; have s1 := cell_below hb s1; clear hb hn)
            | (go_at_call 10; refine (jcapacity_any (N : Int) b ao (some ⟨sb, sx, none⟩) cap sc Z T _ HR.out HT.out HM.out HMT.out).mono ?_; rw [HC.out, HV.out]; rintro e wn ⟨rfl, hb⟩; have HR := Lib.hid (HR.out.below' hb); have hn := kept_box HN.out hb; have HN := Lib.hid hn; have x0 := cell_whole hn 0; have x1 := cell_whole hn 1; have x2 := cell_whole hn 2; have HT := Lib.hid (HT.out.below hb); have H1 := Lib.hid (H1.out.below hb); have HB := Lib.hid (HB.out.trans (hb.mono HB.out.size)); have s0 := cell_below hb s0; have s1 := cell_below hb s1; clear hb hn))
          go_ret
          exact ⟨by simp, HB.out⟩
        · go_enter Try.func6, Try.ntmps6
          go_wp2_with (first
            | (go_at_call 12; refine (jawake_any _).mono ?_; rintro e wn ⟨rfl, hb⟩; have HR := Lib.hid (HR.out.below' hb); have hn := kept_box HN.out hb; have HN := Lib.hid hn; have x0 := cell_whole hn 0; have x1 := cell_whole hn 1; have x2 := cell_whole hn 2; have HT := Lib.hid (HT.out.below hb); have HB := Lib.hid (HB.out.trans (hb.mono HB.out.size)); have s0 := cell_below hb s0; have s1 := cell_below hb s1; clear hb hn)
            | (go_at_call 15; refine (jleast_ok b ao cap Z N i j _ HR.out HM.out HE.out).mono ?_; rintro e wn ⟨a1, q1, S, k, rfl, h1, hS, hb⟩; have HR := Lib.hid (HR.out.below' hb); have hn := kept_box HN.out hb; have HN := Lib.hid hn; have x0 := cell_whole hn 0; have x1 := cell_whole hn 1; have x2 := cell_whole hn 2; have HT := Lib.hid (HT.out.below hb); have HB := Lib.hid (HB.out.trans (hb.mono HB.out.size)); have hsl := hS.len; have H1 := Lib.hid h1; have HLS := Lib.hid hS; have HSL : Hid (S.length ≤ maxLen) := Lib.hid (by rw [hsl]; unfold maxLen; omega); clear h1 hS hsl; have s0 := cell_below hb s0; have s1 := cell_below hb s1; clear hb hn)
            | (go_at_call 17; refine (xmax_ok b ao cap Z N i j _ HR.out HM.out HE.out).mono ?_; rintro e wn ⟨fo, fc, F, k2, rfl, hf, hv, hm3, hn3, hb⟩; have HR := Lib.hid (HR.out.below' hb); have hn := kept_box HN.out hb; have HN := Lib.hid hn; have x0 := cell_whole hn 0; have x1 := cell_whole hn 1; have x2 := cell_whole hn 2; have HT := Lib.hid (HT.out.below hb); have H1 := Lib.hid (H1.out.below hb); have HB := Lib.hid (HB.out.trans (hb.mono HB.out.size)); have HLE : Hid (levE (N : Int) Z F (i : Int) = 0) := Lib.hid (lev_zero (flowE_of HE.out hv) hi); have HSE : Hid (sideL (N : Int) Z F (i : Int) = S) := Lib.hid (leastS_eq Z HE.out hi (least_of HLE.out HWN.out hi hv hn3) HLS.out).1; have HFL : Hid (F.length ≤ maxLen) := Lib.hid (by rw [hv.1.1]; exact HM.out); have HF := Lib.hid hf; clear hf hv hm3 hn3; have s0 := cell_below hb s0; have s1 := cell_below hb s1; clear hb hn)
            | (go_at_call 8; refine (jside_any (N : Int) b ao fo cap fc Z F (i : Int) _ HR.out HF.out HM.out HFL.out).mono ?_; rintro e wn ⟨a3, q3, rfl, h3, hb⟩; rw [HLE.out, HSE.out]; rw [HSE.out] at h3; have HR := Lib.hid (HR.out.below' hb); have hn := kept_box HN.out hb; have HN := Lib.hid hn; have x0 := cell_whole hn 0; have x1 := cell_whole hn 1; have x2 := cell_whole hn 2; have HT := Lib.hid (HT.out.below hb); have H1 := Lib.hid (H1.out.below hb); have HB := Lib.hid (HB.out.trans (hb.mono HB.out.size)); have H3 := Lib.hid h3; clear h3; have s0 := cell_below hb s0; have s1 := cell_below hb s1; clear hb hn)
            | (go_at_call 13; refine (rsameb_eq S a3 a1 q3 q1 _ H3.out H1.out HSL.out).mono ?_; rintro e wn ⟨rfl, hb⟩; have HR := Lib.hid (HR.out.below' hb); have hn := kept_box HN.out hb; have HN := Lib.hid hn; have x0 := cell_whole hn 0; have x1 := cell_whole hn 1; have x2 := cell_whole hn 2; have HT := Lib.hid (HT.out.below hb); have H1 := Lib.hid (H1.out.below hb); have HB := Lib.hid (HB.out.trans (hb.mono HB.out.size)); have s0 := cell_below hb s0; have s1 := cell_below hb s1; clear hb hn)
            | (go_at_call 10; refine (jcapacity_any (N : Int) b ao (some ⟨sb, sx, none⟩) cap sc Z T _ HR.out HT.out HM.out HMT.out).mono ?_; rw [HC.out, HV.out]; rintro e wn ⟨rfl, hb⟩; have HR := Lib.hid (HR.out.below' hb); have hn := kept_box HN.out hb; have HN := Lib.hid hn; have x0 := cell_whole hn 0; have x1 := cell_whole hn 1; have x2 := cell_whole hn 2; have HT := Lib.hid (HT.out.below hb); have H1 := Lib.hid (H1.out.below hb); have HB := Lib.hid (HB.out.trans (hb.mono HB.out.size)); have s0 := cell_below hb s0; have s1 := cell_below hb s1; clear hb hn))
          go_ret
          exact ⟨by simp, HB.out⟩
      · cases q
        · go_enter Try.func6, Try.ntmps6
          go_wp2_with (first
            | (go_at_call 12; refine (jawake_any _).mono ?_; rintro e wn ⟨rfl, hb⟩; have HR := Lib.hid (HR.out.below' hb); have hn := kept_box HN.out hb; have HN := Lib.hid hn; have x0 := cell_whole hn 0; have x1 := cell_whole hn 1; have x2 := cell_whole hn 2; have HT := Lib.hid (HT.out.below hb); have HB := Lib.hid (HB.out.trans (hb.mono HB.out.size)); have s0 := cell_below hb s0; have s1 := cell_below hb s1; clear hb hn)
            | (go_at_call 15; refine (jleast_ok b ao cap Z N i j _ HR.out HM.out HE.out).mono ?_; rintro e wn ⟨a1, q1, S, k, rfl, h1, hS, hb⟩; have HR := Lib.hid (HR.out.below' hb); have hn := kept_box HN.out hb; have HN := Lib.hid hn; have x0 := cell_whole hn 0; have x1 := cell_whole hn 1; have x2 := cell_whole hn 2; have HT := Lib.hid (HT.out.below hb); have HB := Lib.hid (HB.out.trans (hb.mono HB.out.size)); have hsl := hS.len; have H1 := Lib.hid h1; have HLS := Lib.hid hS; have HSL : Hid (S.length ≤ maxLen) := Lib.hid (by rw [hsl]; unfold maxLen; omega); clear h1 hS hsl; have s0 := cell_below hb s0; have s1 := cell_below hb s1; clear hb hn)
            | (go_at_call 17; refine (xmax_ok b ao cap Z N i j _ HR.out HM.out HE.out).mono ?_; rintro e wn ⟨fo, fc, F, k2, rfl, hf, hv, hm3, hn3, hb⟩; have HR := Lib.hid (HR.out.below' hb); have hn := kept_box HN.out hb; have HN := Lib.hid hn; have x0 := cell_whole hn 0; have x1 := cell_whole hn 1; have x2 := cell_whole hn 2; have HT := Lib.hid (HT.out.below hb); have H1 := Lib.hid (H1.out.below hb); have HB := Lib.hid (HB.out.trans (hb.mono HB.out.size)); have HLE : Hid (levE (N : Int) Z F (i : Int) = 0) := Lib.hid (lev_zero (flowE_of HE.out hv) hi); have HSE : Hid (sideL (N : Int) Z F (i : Int) = S) := Lib.hid (leastS_eq Z HE.out hi (least_of HLE.out HWN.out hi hv hn3) HLS.out).1; have HFL : Hid (F.length ≤ maxLen) := Lib.hid (by rw [hv.1.1]; exact HM.out); have HF := Lib.hid hf; clear hf hv hm3 hn3; have s0 := cell_below hb s0; have s1 := cell_below hb s1; clear hb hn)
            | (go_at_call 8; refine (jside_any (N : Int) b ao fo cap fc Z F (i : Int) _ HR.out HF.out HM.out HFL.out).mono ?_; rintro e wn ⟨a3, q3, rfl, h3, hb⟩; rw [HLE.out, HSE.out]; rw [HSE.out] at h3; have HR := Lib.hid (HR.out.below' hb); have hn := kept_box HN.out hb; have HN := Lib.hid hn; have x0 := cell_whole hn 0; have x1 := cell_whole hn 1; have x2 := cell_whole hn 2; have HT := Lib.hid (HT.out.below hb); have H1 := Lib.hid (H1.out.below hb); have HB := Lib.hid (HB.out.trans (hb.mono HB.out.size)); have H3 := Lib.hid h3; clear h3; have s0 := cell_below hb s0; have s1 := cell_below hb s1; clear hb hn)
            | (go_at_call 13; refine (rsameb_eq S a3 a1 q3 q1 _ H3.out H1.out HSL.out).mono ?_; rintro e wn ⟨rfl, hb⟩; have HR := Lib.hid (HR.out.below' hb); have hn := kept_box HN.out hb; have HN := Lib.hid hn; have x0 := cell_whole hn 0; have x1 := cell_whole hn 1; have x2 := cell_whole hn 2; have HT := Lib.hid (HT.out.below hb); have H1 := Lib.hid (H1.out.below hb); have HB := Lib.hid (HB.out.trans (hb.mono HB.out.size)); have s0 := cell_below hb s0; have s1 := cell_below hb s1; clear hb hn))
          refine (jcapacity_any (N : Int) b ao (some ⟨sb, sx, none⟩) cap sc Z T _ HR.out HT.out HM.out HMT.out).mono ?_
          rw [HC.out, HV.out]
          rintro e wn ⟨rfl, hb⟩
          have H1 := Lib.hid (H1.out.below hb)
          have HT := Lib.hid (HT.out.below hb)
          have s0 := cell_below hb s0
          have s1 := cell_below hb s1
          have HB := Lib.hid (HB.out.trans (hb.mono HB.out.size))
          clear hb
          obtain ⟨hkm, himp⟩ := any_facts HAL.out.1 hi ⟨H4.out, H5.out⟩ HCM.out HLS.out
          have HI := Lib.hid himp
          have hsn := HLS.out.len
          have htn := HTN.out
          clear himp
          have hnk : ¬ m < k := by omega
          by_cases hck : m = k
          · subst hck
            go_wp2
            go_loop [20] (fun x => ∃ v : Nat, v ≤ S.length ∧ x = .int .i64 (v : Int)) (fun x => S.length - (intOf x).toNat)
            case atStart => exact ⟨0, Nat.zero_le _, rfl⟩
            case round =>
              obtain ⟨v, hvl, rfl⟩ := hrel
              by_cases hlt : v < S.length
              · have hli : (v : Int) < (S.length : Int) := by omega
                have htl : (v : Int) < (T.length : Int) := by omega
                have g3 := HI.out (by simp) v
                rw [sideB_at hlt, sideB_at (show v < T.length by omega)] at g3
                obtain ⟨vb, vx, e, hvb, s2⟩ := H1.out v hlt
                cases e
                have s3 := cellB HT.out (show v < T.length by omega)
                unfold encB at s2
                generalize S[v] = x at *
                generalize T[v] = y at *
                cases x
                · go_wp2
                  go_round
                  case rel => exact ⟨v + 1, by omega, by go_num⟩
                  case measure => simp [intOf]; omega
                · obtain rfl : y = true := g3 rfl
                  go_wp2
                  go_round
                  case rel => exact ⟨v + 1, by omega, by go_num⟩
                  case measure => simp [intOf]; omega
              · have hli : ¬ (v : Int) < (S.length : Int) := by omega
                obtain rfl : v = S.length := by omega
                go_wp2
                go_ret
                exact ⟨by simp, HB.out⟩
          · have hf3 : (m == k) = false := by simpa using hck
            go_wp2
            go_loop [20] (fun x => x = .int .i64 0) (fun x => 0)
            case atStart => rfl
            case round =>
              subst hrel
              have hli : (0 : Int) < (S.length : Int) := by omega
              go_wp2
              go_ret
              exact ⟨by simp, HB.out⟩
        · go_enter Try.func6, Try.ntmps6
          go_wp2_with (first
            | (go_at_call 12; refine (jawake_any _).mono ?_; rintro e wn ⟨rfl, hb⟩; have HR := Lib.hid (HR.out.below' hb); have hn := kept_box HN.out hb; have HN := Lib.hid hn; have x0 := cell_whole hn 0; have x1 := cell_whole hn 1; have x2 := cell_whole hn 2; have HT := Lib.hid (HT.out.below hb); have HB := Lib.hid (HB.out.trans (hb.mono HB.out.size)); have s0 := cell_below hb s0; have s1 := cell_below hb s1; clear hb hn)
            | (go_at_call 15; refine (jleast_ok b ao cap Z N i j _ HR.out HM.out HE.out).mono ?_; rintro e wn ⟨a1, q1, S, k, rfl, h1, hS, hb⟩; have HR := Lib.hid (HR.out.below' hb); have hn := kept_box HN.out hb; have HN := Lib.hid hn; have x0 := cell_whole hn 0; have x1 := cell_whole hn 1; have x2 := cell_whole hn 2; have HT := Lib.hid (HT.out.below hb); have HB := Lib.hid (HB.out.trans (hb.mono HB.out.size)); have hsl := hS.len; have H1 := Lib.hid h1; have HLS := Lib.hid hS; have HSL : Hid (S.length ≤ maxLen) := Lib.hid (by rw [hsl]; unfold maxLen; omega); clear h1 hS hsl; have s0 := cell_below hb s0; have s1 := cell_below hb s1; clear hb hn)
            | (go_at_call 17; refine (xmax_ok b ao cap Z N i j _ HR.out HM.out HE.out).mono ?_; rintro e wn ⟨fo, fc, F, k2, rfl, hf, hv, hm3, hn3, hb⟩; have HR := Lib.hid (HR.out.below' hb); have hn := kept_box HN.out hb; have HN := Lib.hid hn; have x0 := cell_whole hn 0; have x1 := cell_whole hn 1; have x2 := cell_whole hn 2; have HT := Lib.hid (HT.out.below hb); have H1 := Lib.hid (H1.out.below hb); have HB := Lib.hid (HB.out.trans (hb.mono HB.out.size)); have HLE : Hid (levE (N : Int) Z F (i : Int) = 0) := Lib.hid (lev_zero (flowE_of HE.out hv) hi); have HSE : Hid (sideL (N : Int) Z F (i : Int) = S) := Lib.hid (leastS_eq Z HE.out hi (least_of HLE.out HWN.out hi hv hn3) HLS.out).1; have HFL : Hid (F.length ≤ maxLen) := Lib.hid (by rw [hv.1.1]; exact HM.out); have HF := Lib.hid hf; clear hf hv hm3 hn3; have s0 := cell_below hb s0; have s1 := cell_below hb s1; clear hb hn)
            | (go_at_call 8; refine (jside_any (N : Int) b ao fo cap fc Z F (i : Int) _ HR.out HF.out HM.out HFL.out).mono ?_; rintro e wn ⟨a3, q3, rfl, h3, hb⟩; rw [HLE.out, HSE.out]; rw [HSE.out] at h3; have HR := Lib.hid (HR.out.below' hb); have hn := kept_box HN.out hb; have HN := Lib.hid hn; have x0 := cell_whole hn 0; have x1 := cell_whole hn 1; have x2 := cell_whole hn 2; have HT := Lib.hid (HT.out.below hb); have H1 := Lib.hid (H1.out.below hb); have HB := Lib.hid (HB.out.trans (hb.mono HB.out.size)); have H3 := Lib.hid h3; clear h3; have s0 := cell_below hb s0; have s1 := cell_below hb s1; clear hb hn)
            | (go_at_call 13; refine (rsameb_eq S a3 a1 q3 q1 _ H3.out H1.out HSL.out).mono ?_; rintro e wn ⟨rfl, hb⟩; have HR := Lib.hid (HR.out.below' hb); have hn := kept_box HN.out hb; have HN := Lib.hid hn; have x0 := cell_whole hn 0; have x1 := cell_whole hn 1; have x2 := cell_whole hn 2; have HT := Lib.hid (HT.out.below hb); have H1 := Lib.hid (H1.out.below hb); have HB := Lib.hid (HB.out.trans (hb.mono HB.out.size)); have s0 := cell_below hb s0; have s1 := cell_below hb s1; clear hb hn)
            | (go_at_call 10; refine (jcapacity_any (N : Int) b ao (some ⟨sb, sx, none⟩) cap sc Z T _ HR.out HT.out HM.out HMT.out).mono ?_; rw [HC.out, HV.out]; rintro e wn ⟨rfl, hb⟩; have HR := Lib.hid (HR.out.below' hb); have hn := kept_box HN.out hb; have HN := Lib.hid hn; have x0 := cell_whole hn 0; have x1 := cell_whole hn 1; have x2 := cell_whole hn 2; have HT := Lib.hid (HT.out.below hb); have H1 := Lib.hid (H1.out.below hb); have HB := Lib.hid (HB.out.trans (hb.mono HB.out.size)); have s0 := cell_below hb s0; have s1 := cell_below hb s1; clear hb hn))
          go_ret
          exact ⟨by simp, HB.out⟩
    · have hf1 : (c0 != 0) = true := by simpa using h1
      have hf2 : (c0 == 0) = false := by simpa using h1
      clear hc0 hm0 h1
      go_enter Try.func6, Try.ntmps6
      go_wp2_with (first
        | (go_at_call 12; refine (jawake_any _).mono ?_; rintro e wn ⟨rfl, hb⟩; have HR := Lib.hid (HR.out.below' hb); have hn := kept_box HN.out hb; have HN := Lib.hid hn; have x0 := cell_whole hn 0; have x1 := cell_whole hn 1; have x2 := cell_whole hn 2; have HT := Lib.hid (HT.out.below hb); have HB := Lib.hid (HB.out.trans (hb.mono HB.out.size)); clear hb hn)
        | (go_at_call 15; refine (jleast_ok b ao cap Z N i j _ HR.out HM.out HE.out).mono ?_; rintro e wn ⟨a1, q1, S, k, rfl, h1, hS, hb⟩; have HR := Lib.hid (HR.out.below' hb); have hn := kept_box HN.out hb; have HN := Lib.hid hn; have x0 := cell_whole hn 0; have x1 := cell_whole hn 1; have x2 := cell_whole hn 2; have HT := Lib.hid (HT.out.below hb); have HB := Lib.hid (HB.out.trans (hb.mono HB.out.size)); have hsl := hS.len; have H1 := Lib.hid h1; have HLS := Lib.hid hS; have HSL : Hid (S.length ≤ maxLen) := Lib.hid (by rw [hsl]; unfold maxLen; omega); clear h1 hS hsl; clear hb hn)
        | (go_at_call 17; refine (xmax_ok b ao cap Z N i j _ HR.out HM.out HE.out).mono ?_; rintro e wn ⟨fo, fc, F, k2, rfl, hf, hv, hm3, hn3, hb⟩; have HR := Lib.hid (HR.out.below' hb); have hn := kept_box HN.out hb; have HN := Lib.hid hn; have x0 := cell_whole hn 0; have x1 := cell_whole hn 1; have x2 := cell_whole hn 2; have HT := Lib.hid (HT.out.below hb); have H1 := Lib.hid (H1.out.below hb); have HB := Lib.hid (HB.out.trans (hb.mono HB.out.size)); have HLE : Hid (levE (N : Int) Z F (i : Int) = 0) := Lib.hid (lev_zero (flowE_of HE.out hv) hi); have HSE : Hid (sideL (N : Int) Z F (i : Int) = S) := Lib.hid (leastS_eq Z HE.out hi (least_of HLE.out HWN.out hi hv hn3) HLS.out).1; have HFL : Hid (F.length ≤ maxLen) := Lib.hid (by rw [hv.1.1]; exact HM.out); have HF := Lib.hid hf; clear hf hv hm3 hn3; clear hb hn)
        | (go_at_call 8; refine (jside_any (N : Int) b ao fo cap fc Z F (i : Int) _ HR.out HF.out HM.out HFL.out).mono ?_; rintro e wn ⟨a3, q3, rfl, h3, hb⟩; rw [HLE.out, HSE.out]; rw [HSE.out] at h3; have HR := Lib.hid (HR.out.below' hb); have hn := kept_box HN.out hb; have HN := Lib.hid hn; have x0 := cell_whole hn 0; have x1 := cell_whole hn 1; have x2 := cell_whole hn 2; have HT := Lib.hid (HT.out.below hb); have H1 := Lib.hid (H1.out.below hb); have HB := Lib.hid (HB.out.trans (hb.mono HB.out.size)); have H3 := Lib.hid h3; clear h3; clear hb hn)
        | (go_at_call 13; refine (rsameb_eq S a3 a1 q3 q1 _ H3.out H1.out HSL.out).mono ?_; rintro e wn ⟨rfl, hb⟩; have HR := Lib.hid (HR.out.below' hb); have hn := kept_box HN.out hb; have HN := Lib.hid hn; have x0 := cell_whole hn 0; have x1 := cell_whole hn 1; have x2 := cell_whole hn 2; have HT := Lib.hid (HT.out.below hb); have H1 := Lib.hid (H1.out.below hb); have HB := Lib.hid (HB.out.trans (hb.mono HB.out.size)); clear hb hn)
        | (go_at_call 10; refine (jcapacity_any (N : Int) b ao so cap sc Z T _ HR.out HT.out HM.out HMT.out).mono ?_; rw [HC.out, HV.out]; rintro e wn ⟨rfl, hb⟩; have HR := Lib.hid (HR.out.below' hb); have hn := kept_box HN.out hb; have HN := Lib.hid hn; have x0 := cell_whole hn 0; have x1 := cell_whole hn 1; have x2 := cell_whole hn 2; have HT := Lib.hid (HT.out.below hb); have H1 := Lib.hid (H1.out.below hb); have HB := Lib.hid (HB.out.trans (hb.mono HB.out.size)); clear hb hn))
      go_ret
      exact ⟨by simp, HB.out⟩
  · have H0 := Lib.hid h0
    have hf1 : (e0 != 0) = true := by simpa using h0
    have hf2 : (e0 == 0) = false := by simpa using h0
    clear h0 he
    go_enter Try.func6, Try.ntmps6
    go_wp2_with (first
      | (go_at_call 12; refine (jawake_any _).mono ?_; rintro e wn ⟨rfl, hb⟩; have HR := Lib.hid (HR.out.below' hb); have hn := kept_box HN.out hb; have HN := Lib.hid hn; have x0 := cell_whole hn 0; have x1 := cell_whole hn 1; have x2 := cell_whole hn 2; have HT := Lib.hid (HT.out.below hb); have HB := Lib.hid (HB.out.trans (hb.mono HB.out.size)); clear hb hn)
      | (go_at_call 15; refine (jleast_no b ao cap Z n s t e0 _ HR.out HM.out HE.out H0.out).mono ?_; rintro e wn ⟨rfl, hb⟩; have HR := Lib.hid (HR.out.below' hb); have hn := kept_box HN.out hb; have HN := Lib.hid hn; have x0 := cell_whole hn 0; have x1 := cell_whole hn 1; have x2 := cell_whole hn 2; have HB := Lib.hid (HB.out.trans (hb.mono HB.out.size)); clear hb hn)
      | (go_at_call 17; refine (xmax_no b ao cap Z n s t e0 _ HR.out HM.out HE.out H0.out).mono ?_; rintro e wn ⟨rfl, hb⟩; have HR := Lib.hid (HR.out.below' hb); have hn := kept_box HN.out hb; have HN := Lib.hid hn; have x0 := cell_whole hn 0; have x1 := cell_whole hn 1; have x2 := cell_whole hn 2; have HB := Lib.hid (HB.out.trans (hb.mono HB.out.size)); clear hb hn))
    go_ret
    exact ⟨by simp, HB.out⟩
end
end Go.Proofs.Ytbgnoaijgngifaa
