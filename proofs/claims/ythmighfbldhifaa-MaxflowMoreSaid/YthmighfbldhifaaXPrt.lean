/- MaxflowParts. -/
import Derived.Test.YthmighfbldhifaaXCnt
namespace Go.Proofs.Ythmighfbldhifaa
open Go.RowKit
set_option linter.unusedVariables false

theorem and7x (x : Int) : bits .and .i64 x 7 = x % 8 := by
  have := i64_and_mask x 3 (by omega)
  simpa using this
theorem infoArc9 : (Try.prog.info? 41).map (fun i => (i.zero, i.size, i.bytes)) = some (some (.agg #[.int .i64 0, .int .i64 0, .int .i64 0, .int .i64 0]), 4, 32) := by kernel_rfl
/-- A row of arcs of a call's own. -/
def OwnA (w : World) (base : Nat) (v : Value) (L : List ArcT) : Prop := w.ownsRow base 41 4 v L.length (L.flatMap encA)
theorem OwnA.nil (w : World) (base : Nat) : OwnA w base (.slice none 0 0) [] := World.ownsRow_nil _ _ _ _
theorem OwnA.below {w w' : World} {base : Nat} {v : Value} {L : List ArcT} (h : OwnA w base v L) (hb : Below w.heap.size w w') : OwnA w' base v L := own_below h hb
theorem OwnA.row {w : World} {base : Nat} {v : Value} {L : List ArcT} (h : OwnA w base v L) : ∃ ao cap, v = .slice ao L.length cap ∧ Row encA 4 w ao L := own_row encA_len h
theorem arc_cells (w : World) (t : TypeId) (g : Nat) (hg : w.heap.size = g) (x y c u : Int) : ∀ j, j < 4 → (w.alloc (.cells #[.int .i64 x, .int .i64 y, .int .i64 c, .int .i64 u] t)).cell? ⟨g, j, none⟩ = (encA (x, y, c, u))[j]? := by
  intro j hj
  rw [cell_new' hg]
  match j, hj with
  | 0, _ => rfl
  | 1, _ => rfl
  | 2, _ => rfl
  | 3, _ => rfl
/-- An arc that takes so many times as much. -/
def scaleA (K : Int) (a : ArcT) : ArcT := (a.1, a.2.1, wrap64 (a.2.2.1 * K), a.2.2.2)
theorem scale_at {n : Int} {Z : List ArcT} {K : Int} (h : checkE n Z = 0) (h0 : 0 ≤ K) (h7 : K ≤ 7) : ∀ i : Nat, (Z[i]?.isSome = (Z.map (scaleA K))[i]?.isSome) ∧ ∀ a b, Z[i]? = some a → (Z.map (scaleA K))[i]? = some b → frN b = frN a ∧ toN b = toN a ∧ capN b = capN a * K := by
  intro i
  refine ⟨by simp, fun a b ha hb => ?_⟩
  rw [List.getElem?_map, ha] at hb
  cases hb
  obtain ⟨c0, c1⟩ := caps_le h a (List.mem_of_getElem? ha)
  refine ⟨rfl, rfl, ?_⟩
  show wrap64 (a.2.2.1 * K) = _
  unfold capN at *
  have h1 : a.2.2.1 * K ≤ 1048576 * 7 := Int.le_trans (Int.mul_le_mul_of_nonneg_right c1 h0) (Int.mul_le_mul_of_nonneg_left h7 (by omega))
  have h2 : 0 ≤ a.2.2.1 * K := Int.mul_nonneg c0 h0
  unfold wrap64
  omega
theorem atI_map (f : List Int) (K : Int) (i : Nat) : atI (f.map (· * K)) i = atI f i * K := by
  unfold atI
  rw [List.getD_eq_getElem?_getD, List.getD_eq_getElem?_getD, List.getElem?_map]
  cases f[i]? <;> simp
theorem balK_scale {Z Y : List ArcT} {K : Int} {f : List Int} {v : Nat} (h : ∀ i : Nat, (Z[i]?.isSome = Y[i]?.isSome) ∧ ∀ a b, Z[i]? = some a → Y[i]? = some b → frN b = frN a ∧ toN b = toN a ∧ capN b = capN a * K) : ∀ i, balK Y (f.map (· * K)) v i = balK Z f v i * K
  | 0 => by simp [balK]
  | i + 1 => by
    have ih := balK_scale (f := f) (v := v) h i
    obtain ⟨h1, h2⟩ := h i
    show balK Y _ v i + _ = (balK Z f v i + _) * K
    rw [ih, Int.add_mul]
    congr 1
    cases hz : Z[i]? with
    | none =>
      cases hy : Y[i]? with
      | none => simp
      | some b => rw [hz, hy] at h1; cases h1
    | some a =>
      cases hy : Y[i]? with
      | none => rw [hz, hy] at h1; cases h1
      | some b =>
        obtain ⟨g1, g2, _⟩ := h2 a b hz hy
        simp only
        unfold share
        rw [g1, g2, atI_map]
        split <;> split <;> simp [Int.neg_mul]
theorem isMost_scale {Z Y : List ArcT} {N s t : Nat} {K k m : Int} (hK : 0 ≤ K) (hl : Y.length = Z.length) (h : ∀ i : Nat, (Z[i]?.isSome = Y[i]?.isSome) ∧ ∀ a b, Z[i]? = some a → Y[i]? = some b → frN b = frN a ∧ toN b = toN a ∧ capN b = capN a * K)
    (hY : ∀ a ∈ Y, frN a < N ∧ toN a < N) (hs : s < N) (hk : IsMost Z N s t k) (hm : IsMost Y N s t m) : m = K * k := by
  obtain ⟨⟨f, hf⟩, S, hS, eS⟩ := hk
  have h1 : FlowST Y N s t (f.map (· * K)) (k * K) := by
    refine ⟨⟨by rw [List.length_map, hf.1.1, hl], fun i b hb => ?_⟩, fun v hv hv1 hv2 => ?_, ?_⟩
    · have hlt : i < Z.length := by rw [← hl]; exact (List.getElem?_eq_some_iff.1 hb).1
      have hz := List.getElem?_eq_getElem hlt
      obtain ⟨_, _, g3⟩ := (h i).2 _ _ hz hb
      obtain ⟨f1, f2⟩ := hf.1.2 i _ hz
      rw [atI_map, g3]
      exact ⟨Int.mul_nonneg f1 hK, Int.mul_le_mul_of_nonneg_right f2 hK⟩
    · unfold bal
      rw [hl, balK_scale h]
      have := hf.2.1 v hv hv1 hv2
      unfold bal at this
      rw [this, Int.zero_mul]
    · unfold bal
      rw [hl, balK_scale h]
      have := hf.2.2
      unfold bal at this
      rw [this]
  have h2 := isMost_top hY hs hm h1
  obtain ⟨⟨g, hg⟩, _⟩ := hm
  have h3 := weak hY hs hg hS
  have h4 : capS Y S = capS Z S * K := by unfold capS; rw [hl]; exact capK_scale h Z.length
  rw [h4, eS] at h3
  rw [Int.mul_comm]
  omega
theorem OwnA.off {w : World} {base : Nat} {ao : Option Addr} {k cap : Nat} {L : List ArcT} (h : OwnA w base (.slice ao k cap) L) {p : Nat} (hp : p < base) (hr : Row encA 4 w ao L) (j : Nat) (u : Value) : Row encA 4 (w.setCell ⟨p, j, none⟩ u) ao L :=
  hr.off ((Kept.refl (fun i => i = p) w).set (.inl rfl) _) (fun ad e h0 q => by
    rcases h.2 with ⟨h1, h2⟩ | ⟨g, cap, cur, h1, h2, _⟩
    · omega
    · injection h1 with h3 _ _
      rw [e] at h3
      cases h3
      simp only at q
      omega)
theorem few_ok {n : Int} {Z : List ArcT} {s t e0 : Int} (h : endsE n Z s t = e0) (hz : ¬ Z.length ≤ 200) : e0 ≠ 0 := by
  rintro rfl
  have hR : Right (n, true, Z) := right_iff.1 (endsE_ok h).1
  exact hz hR.2.1
theorem most_bd {N i j : Nat} {Z : List ArcT} {k : Int} (hE : endsE (N : Int) Z (i : Int) (j : Int) = 0) (hi : i < N) (hij : i ≠ j) (h : IsMost Z N i j k) : 0 ≤ k ∧ k ≤ 209715200 := by
  have hA := arcs_lt hE
  rw [Int.toNat_natCast] at hA
  have h1 := (most_ends hA.1 hA.2 hi hij h).1
  have hR : Right ((N : Int), true, Z) := right_iff.1 (endsE_ok hE).1
  have hl : Z.length ≤ 200 := hR.2.1
  have h2 := (outK_bd (caps_le (endsE_ok hE).1) i Z.length).1
  exact ⟨isMost_nonneg hA.1 hA.2 hi h, by omega⟩
theorem most_mul {N i j : Nat} {Z Y : List ArcT} {K k m : Int} (hY : Z.map (scaleA K) = Y) (h0 : 0 ≤ K) (h7 : K ≤ 7) (hE : endsE (N : Int) Z (i : Int) (j : Int) = 0) (hE1 : endsE (N : Int) Y (i : Int) (j : Int) = 0) (hi : i < N) (hij : i ≠ j)
    (h : IsMost Z N i j k) (g : IsMost Y N i j m) : m = wrap64 (K * k) := by
  have hb := most_bd hE hi hij h
  have hA := arcs_lt hE1
  rw [Int.toNat_natCast] at hA
  have hm := isMost_scale h0 (by rw [← hY, List.length_map]) (by rw [← hY]; exact scale_at (endsE_ok hE).1 h0 h7) hA.1 hi h g
  have h1 : K * k ≤ 7 * 209715200 := Int.le_trans (Int.mul_le_mul_of_nonneg_right h7 hb.1) (Int.mul_le_mul_of_nonneg_left hb.2 (by omega))
  have h2 : 0 ≤ K * k := Int.mul_nonneg h0 hb.1
  rw [hm]
  unfold wrap64
  omega
section
variable (n : Int) (b : Bool) (ao : Option Addr) (len cap : Nat) (Z : List ArcT)
/-- Any answer of Most. -/
theorem xmost_some (s t : Int) (w : World) (h : Row encA 4 w ao Z) (hz : Z.length ≤ maxLen) :
    Calls Try.prog 10 #[.agg #[.int .i64 n, .bool b, .slice ao Z.length cap], .int .i64 s, .int .i64 t] w fun e w' => ∃ m f0, e = .returned (.tuple #[.int .i64 m, .int .i64 f0]) ∧ Below w.heap.size w w' :=
  (xmost_any n b ao cap Z s t w h hz).mono fun e w' hr => by
    rcases hr with ⟨_, k, N, i, j, _, _, _, _, he, _, hb⟩ | ⟨_, he, hb⟩
    · exact ⟨_, _, he, hb⟩
    · exact ⟨_, _, he, hb⟩
theorem xmost_okL (N i j zl : Nat) (hL : Z.length = zl) (w : World) (h : Row encA 4 w ao Z) (hz : Z.length ≤ maxLen) (hE : endsE (N : Int) Z (i : Int) (j : Int) = 0) :
    Calls Try.prog 10 #[.agg #[.int .i64 (N : Int), .bool b, .slice ao zl cap], .int .i64 (i : Int), .int .i64 (j : Int)] w fun e w' => ∃ k, e = .returned (.tuple #[.int .i64 k, .int .i64 0]) ∧ IsMost Z N i j k ∧ Below w.heap.size w w' := by
  subst hL
  exact xmost_ok b ao cap Z N i j w h hz hE
theorem xmost_noL (n s t e0 : Int) (zl : Nat) (hL : Z.length = zl) (w : World) (h : Row encA 4 w ao Z) (hz : Z.length ≤ maxLen) (hE : endsE n Z s t = e0) (h0 : e0 ≠ 0) :
    Calls Try.prog 10 #[.agg #[.int .i64 n, .bool b, .slice ao zl cap], .int .i64 s, .int .i64 t] w fun e w' => e = .returned (.tuple #[.int .i64 0, .int .i64 e0]) ∧ Below w.heap.size w w' := by
  subst hL
  exact xmost_no b ao cap Z n s t e0 w h hz hE h0
theorem xmost_someL (s t : Int) (zl : Nat) (hL : Z.length = zl) (w : World) (h : Row encA 4 w ao Z) (hz : Z.length ≤ maxLen) :
    Calls Try.prog 10 #[.agg #[.int .i64 n, .bool b, .slice ao zl cap], .int .i64 s, .int .i64 t] w fun e w' => ∃ m f0, e = .returned (.tuple #[.int .i64 m, .int .i64 f0]) ∧ Below w.heap.size w w' := by
  subst hL
  exact xmost_some n b ao cap Z s t w h hz
set_option maxRecDepth 100000 in
set_option maxHeartbeats 8000000 in
theorem parts_law (s t k : Int) (w : World) (hl : Z.length = len) (hm : len ≤ maxLen) (hr : Row encA 4 w ao Z) :
    Calls Try.prog 7 #[.agg #[.int .i64 n, .bool b, .slice ao len cap], .int .i64 s, .int .i64 t, .int .i64 k] w fun e w' => e = .returned (.bool true) ∧ Below w.heap.size w w' := by
  subst hl
  have hb00 := (Below.refl _ w).alloc (Nat.le_refl _) (.cells #[.int .i64 n, .bool b, .slice ao Z.length cap] 24)
  have HB0 := Lib.hid hb00
  have HN0 := Lib.hid (heap_alloc_new w (.cells #[.int .i64 n, .bool b, .slice ao Z.length cap] 24))
  have HR0 := Lib.hid (hr.below' hb00)
  have HM := Lib.hid hm
  have hand := and7x k
  obtain ⟨K, hK⟩ : ∃ K, k % 8 = K := ⟨_, rfl⟩
  rw [hK] at hand
  have hK0 : 0 ≤ K := by omega
  have hK7 : K ≤ 7 := by omega
  clear hr hb00 hK hm
  go_enter Try.func7, Try.ntmps7
  go_wp2_with (first
      | (go_at_call 12; refine (xawake_any _).mono ?_; rintro e w1 ⟨rfl, hb1⟩; have HB1 := Lib.hid (HB0.out.trans (hb1.mono HB0.out.size)); have HR1 := Lib.hid (HR0.out.below' hb1); have hn1 := kept_box HN0.out hb1; have HN1 := Lib.hid hn1; have HG1 := Lib.hid (show w.heap.size < w1.heap.size from lt_whole hn1); have x0 := cell_whole hn1 0; have x1 := cell_whole hn1 1; have x2 := cell_whole hn1 2; clear hb1 hn1))
  go_loopw [10, 11] (fun lv iv wr => ∃ m : Nat, m ≤ Z.length ∧ (Z.length ≤ 200 ∨ m = 0) ∧ iv = .int .i64 (m : Int) ∧ Hid (Below w1.heap.size w1 wr) ∧ Hid (OwnA wr w1.heap.size lv ((Z.take m).map (scaleA K)))) (fun _ iv _ => Z.length - (intOf iv).toNat)
  case atStart => exact ⟨0, Nat.zero_le _, .inr rfl, rfl, Lib.hid (Below.refl _ _), Lib.hid (OwnA.nil _ _)⟩
  case round =>
    obtain ⟨m, hm, hzm, rfl, HB, HO⟩ := hrel
    have hn1 := kept_box HN1.out HB.out
    have x0 := cell_whole hn1 0
    have x1 := cell_whole hn1 1
    have x2 := cell_whole hn1 2
    have HN2 := Lib.hid hn1
    have HR2 := Lib.hid (HR1.out.below' HB.out)
    clear hn1
    obtain ⟨la, lc, hlv, _⟩ := HO.out.row
    have HTL : Hid (((Z.take m).map (scaleA K)).length = m) := Lib.hid (by rw [List.length_map, List.length_take]; omega)
    rw [HTL.out] at hlv
    subst hlv
    by_cases hz : Z.length ≤ 200
    · have hzi : (Z.length : Int) ≤ 200 := by omega
      clear hzm
      by_cases hlt : m < Z.length
      · have hli : (m : Int) < (Z.length : Int) := by omega
        have ha : Z[m]? = some Z[m] := List.getElem?_eq_getElem hlt
        have HTK : Hid ((Z.take (m + 1)).map (scaleA K) = (Z.take m).map (scaleA K) ++ [scaleA K Z[m]]) := Lib.hid (by rw [List.take_succ_eq_append_getElem hlt, List.map_append]; rfl)
        obtain ⟨ab, ax, e, hab, d0, d1, d2, d3⟩ := arc_at HR2.out ha
        cases e
        clear ha
        generalize Z[m] = a at *
        obtain ⟨ax1, ay1, ac1, at1⟩ := a
        simp only at d0 d1 d2 d3
        by_cases hc : ac1 > 1048576
        · have hcd : decide (1048576 < ac1) = true := by simp; omega
          go_wp2
          go_ret
          exact ⟨rfl, HB1.out.trans ((HB.out.alloc HB.out.size (.cells #[.int .i64 ax1, .int .i64 ay1, .int .i64 ac1, .int .i64 at1] 41)).mono HB1.out.size)⟩
        · have hcd : decide (1048576 < ac1) = false := by simp; omega
          have hcl : ac1 ≤ 1048576 := by omega
          have hsz := HB.out.size
          obtain ⟨sc1, hsc⟩ : ∃ sc1, wrap64 (ac1 * K) = sc1 := ⟨_, rfl⟩
          have HSC : Hid (scaleA K (ax1, ay1, ac1, at1) = (ax1, ay1, sc1, at1)) := Lib.hid (by unfold scaleA; rw [hsc])
          have HBA := Lib.hid ((HB.out.alloc HB.out.size (.cells #[.int .i64 ax1, .int .i64 ay1, .int .i64 sc1, .int .i64 at1] 41)).alloc (by simp; omega) (.cells #[.int .i64 ax1, .int .i64 ay1, .int .i64 sc1, .int .i64 at1] 41))
          have HOA := Lib.hid (HO.out.below (((Below.refl _ wr).alloc (Nat.le_refl _) (.cells #[.int .i64 ax1, .int .i64 ay1, .int .i64 sc1, .int .i64 at1] 41)).alloc (by simp) (.cells #[.int .i64 ax1, .int .i64 ay1, .int .i64 sc1, .int .i64 at1] 41)))
          go_wp2_with (first
            | (at_builtin; refine wpList_append_row (enc := encA) Try.underlying22 infoArc9 rfl (by omega) (by omega) encA_len rfl _ _ rfl w1.heap.size (.slice la m lc) ((Z.take m).map (scaleA K)) (ax1, ay1, sc1, at1) (encA_one _) rfl HOA.out _ 1 rfl (fun j hj => arc_cells _ _ _ (by simp) _ _ _ _ j hj) (by rw [HTL.out]; omega) (by simp; omega) ?_; rw [HTL.out]; intro g8 cap8 w8 ho8 hg8 hl8 hb8 hlt8; have HO8 : Hid (OwnA w8 w1.heap.size (.slice (some ⟨g8, 0, none⟩) (m + 1) cap8) ((Z.take (m + 1)).map (scaleA K))) := Lib.hid (by rw [HTK.out, HSC.out]; exact ho8); have HB8 := Lib.hid (below_grown HBA.out (by simp; omega) hg8 (fun g e => own_block HO.out e)); clear ho8 hg8 hl8))
          go_roundw
          case rel => exact ⟨m + 1, by omega, .inl hz, by go_num, HB8, HO8⟩
          case measure => simp [intOf]; omega
      · have hli : ¬ (m : Int) < (Z.length : Int) := by omega
        obtain rfl : m = Z.length := by omega
        have HO2 := HO.out
        rw [List.take_length] at HO2
        obtain ⟨la2, lc2, e2, hrow⟩ := HO2.row
        have hyl : (Z.map (scaleA K)).length = Z.length := by simp
        rw [hyl] at e2
        injection e2 with e3 _ e4
        subst e3
        subst e4
        have HYR := Lib.hid hrow
        have HYL := Lib.hid hyl
        clear HO
        have HO := Lib.hid HO2
        clear hrow HO2 hyl HTL
        obtain ⟨Y, hY⟩ : ∃ Y, Z.map (scaleA K) = Y := ⟨_, rfl⟩
        have HY := Lib.hid hY
        rw [hY] at HYR HYL HO
        have HYM : Hid (Y.length ≤ maxLen) := Lib.hid (by rw [HYL.out]; exact HM.out)
        clear hY
        obtain ⟨e0, he0⟩ : ∃ e0, endsE n Z s t = e0 := ⟨_, rfl⟩
        by_cases h0 : e0 = 0
        · subst h0
          obtain ⟨_, i, j, rfl, rfl, hi, hj, hij⟩ := endsE_ok he0
          obtain ⟨N, rfl⟩ : ∃ N : Nat, n = (N : Int) := ⟨n.toNat, by omega⟩
          rw [Int.toNat_natCast] at hi hj
          have HE := Lib.hid he0
          have HI := Lib.hid hi
          have HIJ := Lib.hid hij
          clear he0 hij
          obtain ⟨e1, he1⟩ : ∃ e1, endsE (N : Int) Y (i : Int) (j : Int) = e1 := ⟨_, rfl⟩
          have HE1 := Lib.hid he1
          by_cases h1 : e1 = 0
          · subst h1
            clear he1
            go_wp2_with (first
              | (go_at_call 10; have hb4 := HB4.out; refine (show Calls Try.prog 10 #[.agg #[.int .i64 (N : Int), .bool b, .slice la Z.length lc], .int .i64 (i : Int), .int .i64 (j : Int)] _ _ from xmost_okL b la lc Y N i j Z.length HYL.out (w3.setCell ⟨w.heap.size, 2, none⟩ (.slice la Z.length lc)) HY4.out HYM.out HE1.out).mono ?_; rintro e w5 ⟨k2, rfl, hm5, hb5⟩; have hkk := most_mul HY.out hK0 hK7 HE.out HE1.out HI.out HIJ.out HMK.out hm5; subst hkk; clear hm5; have HB5 := Lib.hid (HB4.out.trans (hb5.mono HB4.out.size)); clear hb5 hb4)
              | (go_at_call 10; refine (xmost_ok b ao cap Z N i j _ HR2.out HM.out HE.out).mono ?_; rintro e w3 ⟨k1, rfl, hm3, hb3⟩; have HMK := Lib.hid hm3; clear hm3; have HB3 := Lib.hid (HB.out.trans (hb3.mono HB.out.size)); have HO3 := Lib.hid (HO.out.below hb3); have HY3 := Lib.hid (HYR.out.below' hb3); have hn3 := kept_box HN2.out hb3; have HW3 := Lib.hid (HB1.out.trans (HB3.out.mono HB1.out.size)); have HB4 : Hid (Below w.heap.size w (w3.setCell ⟨w.heap.size, 2, none⟩ (.slice la Z.length lc))) := Lib.hid (below_set HW3.out (Nat.le_refl _) _); have HY4 : Hid (Row encA 4 (w3.setCell ⟨w.heap.size, 2, none⟩ (.slice la Z.length lc)) la Y) := Lib.hid (HO3.out.off HG1.out HY3.out _ _); have hn4 := set_whole hn3 2 (.slice la Z.length lc); have f2 := frozen_whole hn3 2; have y0 : (w3.setCell ⟨w.heap.size, 2, none⟩ (.slice la Z.length lc)).cell? ⟨w.heap.size, 0, none⟩ = some (.int .i64 (N : Int)) := cell_whole hn4 0; have y1 : (w3.setCell ⟨w.heap.size, 2, none⟩ (.slice la Z.length lc)).cell? ⟨w.heap.size, 1, none⟩ = some (.bool b) := cell_whole hn4 1; have y2 : (w3.setCell ⟨w.heap.size, 2, none⟩ (.slice la Z.length lc)).cell? ⟨w.heap.size, 2, none⟩ = some (.slice la Z.length lc) := cell_whole hn4 2; have x0 := cell_whole hn3 0; have x1 := cell_whole hn3 1; have x2 := cell_whole hn3 2; clear hb3 hn3 hn4))
            go_ret
            exact ⟨by simp, HB5.out⟩
          · have H1 := Lib.hid h1
            have hf1 : (e1 != 0) = true := by simpa using h1
            clear he1 h1
            go_wp2_with (first
              | (go_at_call 10; have hb4 := HB4.out; refine (show Calls Try.prog 10 #[.agg #[.int .i64 (N : Int), .bool b, .slice la Z.length lc], .int .i64 (i : Int), .int .i64 (j : Int)] _ _ from xmost_noL b la lc Y (N : Int) (i : Int) (j : Int) e1 Z.length HYL.out (w3.setCell ⟨w.heap.size, 2, none⟩ (.slice la Z.length lc)) HY4.out HYM.out HE1.out H1.out).mono ?_; rintro e w5 ⟨rfl, hb5⟩; have HB5 := Lib.hid (HB4.out.trans (hb5.mono HB4.out.size)); clear hb5 hb4)
              | (go_at_call 10; refine (xmost_ok b ao cap Z N i j _ HR2.out HM.out HE.out).mono ?_; rintro e w3 ⟨k1, rfl, hm3, hb3⟩; clear hm3; have HB3 := Lib.hid (HB.out.trans (hb3.mono HB.out.size)); have HO3 := Lib.hid (HO.out.below hb3); have HY3 := Lib.hid (HYR.out.below' hb3); have hn3 := kept_box HN2.out hb3; have HW3 := Lib.hid (HB1.out.trans (HB3.out.mono HB1.out.size)); have HB4 : Hid (Below w.heap.size w (w3.setCell ⟨w.heap.size, 2, none⟩ (.slice la Z.length lc))) := Lib.hid (below_set HW3.out (Nat.le_refl _) _); have HY4 : Hid (Row encA 4 (w3.setCell ⟨w.heap.size, 2, none⟩ (.slice la Z.length lc)) la Y) := Lib.hid (HO3.out.off HG1.out HY3.out _ _); have hn4 := set_whole hn3 2 (.slice la Z.length lc); have f2 := frozen_whole hn3 2; have y0 : (w3.setCell ⟨w.heap.size, 2, none⟩ (.slice la Z.length lc)).cell? ⟨w.heap.size, 0, none⟩ = some (.int .i64 (N : Int)) := cell_whole hn4 0; have y1 : (w3.setCell ⟨w.heap.size, 2, none⟩ (.slice la Z.length lc)).cell? ⟨w.heap.size, 1, none⟩ = some (.bool b) := cell_whole hn4 1; have y2 : (w3.setCell ⟨w.heap.size, 2, none⟩ (.slice la Z.length lc)).cell? ⟨w.heap.size, 2, none⟩ = some (.slice la Z.length lc) := cell_whole hn4 2; have x0 := cell_whole hn3 0; have x1 := cell_whole hn3 1; have x2 := cell_whole hn3 2; clear hb3 hn3 hn4))
            go_ret
            exact ⟨by simp, HB5.out⟩
        · have H0 := Lib.hid h0
          have hf0 : (e0 != 0) = true := by simpa using h0
          have HE := Lib.hid he0
          clear he0 h0
          go_wp2_with (first
            | (go_at_call 10; have hb4 := HB4.out; refine (show Calls Try.prog 10 #[.agg #[.int .i64 n, .bool b, .slice la Z.length lc], .int .i64 s, .int .i64 t] _ _ from xmost_someL n b la lc Y s t Z.length HYL.out (w3.setCell ⟨w.heap.size, 2, none⟩ (.slice la Z.length lc)) HY4.out HYM.out).mono ?_; rintro e w5 ⟨k2, f2x, rfl, hb5⟩; have HB5 := Lib.hid (HB4.out.trans (hb5.mono HB4.out.size)); clear hb5 hb4)
            | (go_at_call 10; refine (xmost_no b ao cap Z n s t e0 _ HR2.out HM.out HE.out H0.out).mono ?_; rintro e w3 ⟨rfl, hb3⟩; have HB3 := Lib.hid (HB.out.trans (hb3.mono HB.out.size)); have HO3 := Lib.hid (HO.out.below hb3); have HY3 := Lib.hid (HYR.out.below' hb3); have hn3 := kept_box HN2.out hb3; have HW3 := Lib.hid (HB1.out.trans (HB3.out.mono HB1.out.size)); have HB4 : Hid (Below w.heap.size w (w3.setCell ⟨w.heap.size, 2, none⟩ (.slice la Z.length lc))) := Lib.hid (below_set HW3.out (Nat.le_refl _) _); have HY4 : Hid (Row encA 4 (w3.setCell ⟨w.heap.size, 2, none⟩ (.slice la Z.length lc)) la Y) := Lib.hid (HO3.out.off HG1.out HY3.out _ _); have hn4 := set_whole hn3 2 (.slice la Z.length lc); have f2 := frozen_whole hn3 2; have y0 : (w3.setCell ⟨w.heap.size, 2, none⟩ (.slice la Z.length lc)).cell? ⟨w.heap.size, 0, none⟩ = some (.int .i64 n) := cell_whole hn4 0; have y1 : (w3.setCell ⟨w.heap.size, 2, none⟩ (.slice la Z.length lc)).cell? ⟨w.heap.size, 1, none⟩ = some (.bool b) := cell_whole hn4 1; have y2 : (w3.setCell ⟨w.heap.size, 2, none⟩ (.slice la Z.length lc)).cell? ⟨w.heap.size, 2, none⟩ = some (.slice la Z.length lc) := cell_whole hn4 2; have x0 := cell_whole hn3 0; have x1 := cell_whole hn3 1; have x2 := cell_whole hn3 2; clear hb3 hn3 hn4))
          go_ret
          exact ⟨by simp, HB5.out⟩
    · obtain rfl : m = 0 := by omega
      have hzi : ¬ (Z.length : Int) ≤ 200 := by omega
      have hli : (0 : Int) < (Z.length : Int) := by omega
      have HYR : Hid (Row encA 4 wr la []) := Lib.hid (Row.nil _ _)
      obtain ⟨e0, he0⟩ : ∃ e0, endsE n Z s t = e0 := ⟨_, rfl⟩
      have h0 := few_ok he0 hz
      have H0 := Lib.hid h0
      have hf0 : (e0 != 0) = true := by simpa using h0
      have HE := Lib.hid he0
      clear he0 h0 HTL
      go_wp2_with (first
        | (go_at_call 10; have hb4 := HB4.out; refine (show Calls Try.prog 10 #[.agg #[.int .i64 n, .bool b, .slice la 0 lc], .int .i64 s, .int .i64 t] _ _ from xmost_some n b la lc [] s t (w3.setCell ⟨w.heap.size, 2, none⟩ (.slice la 0 lc)) HY4.out (Nat.zero_le _)).mono ?_; rintro e w5 ⟨k2, f2x, rfl, hb5⟩; have HB5 := Lib.hid (HB4.out.trans (hb5.mono HB4.out.size)); clear hb5 hb4)
        | (go_at_call 10; refine (xmost_no b ao cap Z n s t e0 _ HR2.out HM.out HE.out H0.out).mono ?_; rintro e w3 ⟨rfl, hb3⟩; have HB3 := Lib.hid (HB.out.trans (hb3.mono HB.out.size)); have HO3 := Lib.hid (HO.out.below hb3); have HY3 := Lib.hid (HYR.out.below' hb3); have hn3 := kept_box HN2.out hb3; have HW3 := Lib.hid (HB1.out.trans (HB3.out.mono HB1.out.size)); have HB4 : Hid (Below w.heap.size w (w3.setCell ⟨w.heap.size, 2, none⟩ (.slice la 0 lc))) := Lib.hid (below_set HW3.out (Nat.le_refl _) _); have HY4 : Hid (Row encA 4 (w3.setCell ⟨w.heap.size, 2, none⟩ (.slice la 0 lc)) la []) := Lib.hid (HO3.out.off HG1.out HY3.out _ _); have hn4 := set_whole hn3 2 (.slice la 0 lc); have f2 := frozen_whole hn3 2; have y0 : (w3.setCell ⟨w.heap.size, 2, none⟩ (.slice la 0 lc)).cell? ⟨w.heap.size, 0, none⟩ = some (.int .i64 n) := cell_whole hn4 0; have y1 : (w3.setCell ⟨w.heap.size, 2, none⟩ (.slice la 0 lc)).cell? ⟨w.heap.size, 1, none⟩ = some (.bool b) := cell_whole hn4 1; have y2 : (w3.setCell ⟨w.heap.size, 2, none⟩ (.slice la 0 lc)).cell? ⟨w.heap.size, 2, none⟩ = some (.slice la 0 lc) := cell_whole hn4 2; have x0 := cell_whole hn3 0; have x1 := cell_whole hn3 1; have x2 := cell_whole hn3 2; clear hb3 hn3 hn4))
      go_ret
      exact ⟨by simp, HB5.out⟩
end
end Go.Proofs.Ythmighfbldhifaa
