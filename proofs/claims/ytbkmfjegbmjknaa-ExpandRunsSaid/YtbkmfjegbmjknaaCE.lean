/- Lemmas of the layers below, several texts in one. -/
import Derived.Test.YtbkmfjegbmjknaaBX
import Derived.BigQuiet
import Derived.Deep.QuietTactic
import Derived.Test.YtbkmfjegbmjknaaBY
import Derived.Test.YtbkmfjegbmjknaaCD
import Derived.Deep.RegionLaw
import Derived.Deep.AppendLies
import Derived.Test.YtbkmfjegbmjknaaUBls
import Derived.Maps.RangeWalk
namespace Go.Proofs.Ytbkmfjegbmjknaa
open Go.RowKit
set_option linter.unusedVariables false
def isfB (A : List ArcT) (F : List Int) : Bool := decide (F.length = A.length) && (List.range A.length).all (fun j => decide (0 ≤ F.getD j 0 ∧ F.getD j 0 ≤ (A.getD j (0, 0, 0, 0)).2.2.1))
theorem isfB_is {A : List ArcT} {F : List Int} : isfB A F = true ↔ F.length = A.length ∧ ∀ (j : Nat) (a : ArcT) (x : Int), A[j]? = some a → F[j]? = some x → 0 ≤ x ∧ x ≤ a.2.2.1 := by
  unfold isfB
  rw [Bool.and_eq_true, decide_eq_true_iff, List.all_eq_true]
  refine ⟨fun h => ⟨h.1, fun j a x ha hx => ?_⟩, fun h => ⟨h.1, fun j hj => ?_⟩⟩
  · have h1 := h.2 j (List.mem_range.2 (List.getElem?_eq_some_iff.1 ha).1)
    rw [decide_eq_true_iff, List.getD_eq_getElem?_getD, List.getD_eq_getElem?_getD, ha, hx] at h1
    exact h1
  · have hj1 : j < A.length := List.mem_range.1 hj
    have hj2 : j < F.length := by rw [h.1]; exact hj1
    rw [decide_eq_true_iff, List.getD_eq_getElem?_getD, List.getD_eq_getElem?_getD, List.getElem?_eq_getElem hj1, List.getElem?_eq_getElem hj2]
    exact h.2 j _ _ (List.getElem?_eq_getElem hj1) (List.getElem?_eq_getElem hj2)
theorem isfB_len {A : List ArcT} {F : List Int} (h : F.length ≠ A.length) : isfB A F = false := Bool.eq_false_iff.2 (fun e => h (isfB_is.1 e).1)
theorem isfB_bad {A : List ArcT} {F : List Int} {j : Nat} {a : ArcT} {x : Int} (ha : A[j]? = some a) (hx : F[j]? = some x) (h : ¬ (0 ≤ x ∧ x ≤ a.2.2.1)) : isfB A F = false := Bool.eq_false_iff.2 (fun e => h ((isfB_is.1 e).2 j a x ha hx))
theorem isfB_ok {A : List ArcT} {F : List Int} (hl : F.length = A.length) (h : ∀ j, j < A.length → ∀ (a : ArcT) (x : Int), A[j]? = some a → F[j]? = some x → 0 ≤ x ∧ x ≤ a.2.2.1) : isfB A F = true := isfB_is.2 ⟨hl, fun j a x ha hx => h j (List.getElem?_eq_some_iff.1 ha).1 a x ha hx⟩
set_option maxRecDepth 100000 in
set_option maxHeartbeats 8000000 in
theorem uisflow_any (k : GBk) (N H bn : Int) (oa fo : Option Addr) (al cap fl fc : Nat) (A : List ArcT) (F : List Int) (w : World) (hA : Row encA 4 w oa A) (hal : A.length = al) (hF : Lst encI w fo F) (hfl : F.length = fl) (hs : al ≤ 4398046511104) :
    Calls Try.prog 45 #[grwV k N H bn (.slice oa al cap), .slice fo fl fc] w fun e w' => e = .returned (.bool (isfB A F)) ∧ Below w.heap.size w w' := by
  unfold grwV
  have hb00 := (Below.refl _ w).alloc (Nat.le_refl _) (.cells #[.int .i64 N, .int .i64 H, .int .i64 bn, .bool false, .slice oa al cap, .map (some k.bc), .map (some k.bw), .map (some k.be), .map (some k.bx)] 83)
  have HB := Lib.hid hb00
  have HN := Lib.hid (heap_alloc_new w (.cells #[.int .i64 N, .int .i64 H, .int .i64 bn, .bool false, .slice oa al cap, .map (some k.bc), .map (some k.bw), .map (some k.be), .map (some k.bx)] 83))
  have HA := Lib.hid (hA.below' hb00)
  have HF := Lib.hid (hF.below hb00)
  have HAL := Lib.hid hal
  have HFL := Lib.hid hfl
  have c4 := cell_whole HN.out 4
  clear hA hb00 hF hal hfl
  by_cases hne : fl = al
  · subst hne
    go_enter Try.func45, Try.ntmps45
    go_wp2_with fail
    generalize w.alloc (.cells #[.int .i64 N, .int .i64 H, .int .i64 bn, .bool false, .slice oa fl cap, .map (some k.bc), .map (some k.bw), .map (some k.be), .map (some k.bx)] 83) = w1 at *
    clear c4 HN
    go_loopw [18] (fun iv wr => ∃ i : Nat, i ≤ fl ∧ iv = .int .i64 (i : Int) ∧ Hid (∀ j, j < i → ∀ (a : ArcT) (x : Int), A[j]? = some a → F[j]? = some x → 0 ≤ x ∧ x ≤ a.2.2.1) ∧ Hid (Below w1.heap.size w1 wr)) (fun iv _ => fl - (intOf iv).toNat)
    case atStart => exact ⟨0, Nat.zero_le _, rfl, Lib.hid (fun j hj => by omega), Lib.hid (Below.refl _ _)⟩
    case round =>
      obtain ⟨i, hi, rfl, HS, HW⟩ := hrel
      by_cases hlt : i < fl
      · have hli : (i : Int) < (fl : Int) := by omega
        have h1 : i < A.length := by rw [HAL.out]; exact hlt
        have h2 : i < F.length := by rw [HFL.out]; exact hlt
        obtain ⟨ab, ax, e, hab, d0, d1, d2, d3⟩ := arc_at (HA.out.below' HW.out) (List.getElem?_eq_getElem h1)
        cases e
        obtain ⟨fb, fx, e, hfb, hf⟩ := lst_cell (HF.out.below HW.out) (List.getElem?_eq_getElem h2)
        cases e
        have HX := Lib.hid (List.getElem?_eq_getElem h1)
        have HY := Lib.hid (List.getElem?_eq_getElem h2)
        unfold encI at hf
        generalize A[i] = a at *
        generalize F[i] = x at *
        obtain ⟨a1, a2, a3, a4⟩ := a
        simp only at d0 d1 d2 d3
        have hfa := cell_below ((Below.refl _ wr).alloc (Nat.le_refl _) (.cells #[.int .i64 a1, .int .i64 a2, .int .i64 a3, .int .i64 a4] 64)) hf
        have hnb := cell_whole (heap_alloc_new wr (.cells #[.int .i64 a1, .int .i64 a2, .int .i64 a3, .int .i64 a4] 64)) 2
        have HWn := Lib.hid (HW.out.alloc HW.out.size (.cells #[.int .i64 a1, .int .i64 a2, .int .i64 a3, .int .i64 a4] 64))
        clear h1 h2
        by_cases hx0 : x < 0
        · have hq : decide (x < 0) = true := decide_eq_true hx0
          have HR := Lib.hid (isfB_bad HX.out HY.out (fun e => by have := e.1; omega))
          go_wp2_with fail
          go_quiet (fail)
          go_wp2
          go_ret
          exact ⟨ret_bool HR.out.symm, HB.out.trans ((below_drewN HWn.out _).mono HB.out.size)⟩
        · have hq : decide (x < 0) = false := decide_eq_false hx0
          by_cases hx1 : a3 < x
          · have hq2 : decide (a3 < x) = true := decide_eq_true hx1
            have HR := Lib.hid (isfB_bad HX.out HY.out (fun e => by have := e.2; simp only at this; omega))
            go_wp2_with fail
            go_quiet (fail)
            go_wp2
            go_ret
            exact ⟨ret_bool HR.out.symm, HB.out.trans ((below_drewN HWn.out _).mono HB.out.size)⟩
          · have hq2 : decide (a3 < x) = false := decide_eq_false hx1
            have HS2 : Hid (∀ j, j < i + 1 → ∀ (a : ArcT) (x : Int), A[j]? = some a → F[j]? = some x → 0 ≤ x ∧ x ≤ a.2.2.1) := Lib.hid (fun j hj a' x' ha' hx' => by
              by_cases e : j = i
              · subst e
                rw [HX.out] at ha'; rw [HY.out] at hx'
                cases ha'; cases hx'
                exact ⟨by omega, by simp only; omega⟩
              · exact HS.out j (by omega) a' x' ha' hx')
            go_wp2_with fail
            go_quiet (fail)
            go_wp2
            go_roundw
            case rel => exact ⟨i + 1, by omega, by go_num, HS2, Lib.hid (below_drewN HWn.out _)⟩
            case measure => simp [intOf]; omega
      · have hli : ¬ (i : Int) < (fl : Int) := by omega
        have HR := Lib.hid (isfB_ok (by rw [HFL.out, HAL.out]) (fun j hj => HS.out j (by rw [HAL.out] at hj; omega)))
        go_wp2_with fail
        go_ret
        exact ⟨ret_bool HR.out.symm, HB.out.trans (HW.out.mono HB.out.size)⟩
  · have hn2 : ((fl : Int) != (al : Int)) = true := by simp; omega
    have HR := Lib.hid (isfB_len (A := A) (F := F) (by rw [HFL.out, HAL.out]; exact hne))
    go_enter Try.func45, Try.ntmps45
    go_wp2_with fail
    go_ret
    exact ⟨ret_bool HR.out.symm, HB.out⟩
end Go.Proofs.Ytbkmfjegbmjknaa
namespace Go.Proofs.Ytbkmfjegbmjknaa
open Go.RowKit
set_option linter.unusedVariables false
def movV (n : Int) (Z : List ArcT) (s t H : Int) (b : Bool) (F : List Int) : List MoveT := if xpE n Z s t H = 0 ∧ isfB (bldA n Z s t H b) F = true then mvsL (expOf n Z s t H b).kinds F else []
def movE (n : Int) (Z : List ArcT) (s t H : Int) (b : Bool) (F : List Int) : Int := if xpE n Z s t H = 0 then (if isfB (bldA n Z s t H b) F = true then 0 else 71) else xpE n Z s t H
theorem kd_at {w : World} {ao : Option Addr} {L : List KindT} (h : Row encD 5 w ao L) {i : Nat} {x : KindT} (hx : L[i]? = some x) :
    ∃ b o, ao = some ⟨b, o, none⟩ ∧ b < w.heap.size ∧ w.cell? ⟨b, o + i * 5, none⟩ = some (.bool x.1) ∧ w.cell? ⟨b, o + i * 5 + 2, none⟩ = some (.int .i64 x.2.2.1) ∧ w.cell? ⟨b, o + i * 5 + 4, none⟩ = some (.int .i64 x.2.2.2.2) := by
  obtain ⟨hi, rfl⟩ := List.getElem?_eq_some_iff.1 hx
  obtain ⟨b, o, e, hb, hc⟩ := h i hi
  exact ⟨b, o, e, hb, hc 0 (by decide), hc 2 (by decide), hc 4 (by decide)⟩
def OwnMu (w : World) (base : Nat) (v : Value) (L : List MoveT) : Prop := w.ownsRow base 94 3 v L.length (L.flatMap encK)
theorem OwnMu.below {w w' : World} {base : Nat} {v : Value} {L : List MoveT} (h : OwnMu w base v L) (hb : Below w.heap.size w w') : OwnMu w' base v L := own_below h hb
theorem ownMu_snoc {w : World} {base : Nat} {v : Value} {Y : List MoveT} {x : MoveT} (h : w.ownsRow base 94 3 v (Y.length + 1) (Y.flatMap encK ++ encK x)) : OwnMu w base v (Y ++ [x]) := by
  unfold OwnMu
  rw [List.length_append, List.length_singleton, List.flatMap_append, List.flatMap_singleton]
  exact h
theorem cell_heap {w w' : World} {b o : Nat} {v : Value} (h : w'.heap[b]? = w.heap[b]?) (hc : w.cell? ⟨b, o, none⟩ = some v) : w'.cell? ⟨b, o, none⟩ = some v := by
  unfold World.cell? at hc ⊢
  rw [h]; exact hc
theorem mvKd_kd (E : Exp) (k : Kd) (x : Int) : mvKd k x = if (kdD E.s E.t k).1 = true ∧ 0 < x then [((kdD E.s E.t k).2.2.1, (kdD E.s E.t k).2.2.2.2, x)] else [] := by
  obtain ⟨a, i, u⟩ := k
  match a with
  | 0 => simp [mvKd, kdD]
  | 1 => simp [mvKd, kdD]
  | 2 => simp [mvKd, kdD]
  | n + 3 => simp [mvKd, kdD]
section
variable (n : Int) (b : Bool) (ao fo : Option Addr) (nl cap fl fc : Nat) (Z : List ArcT) (s t H : Int) (F : List Int)
def MovRes (w : World) (e : Ending) (w' : World) : Prop :=
  ∃ (ma : Option Addr) (mc : Nat), e = .returned (.tuple #[.slice ma (movV n Z s t H b F).length mc, .int .i64 (movE n Z s t H b F)]) ∧ Row encK 3 w' ma (movV n Z s t H b F) ∧ Below w.heap.size w w'
set_option maxRecDepth 100000 in
set_option maxHeartbeats 8000000 in
theorem rmoves15_no (w : World) (h : Row encA 4 w ao Z) (hl : Z.length = nl) (hz : Z.length ≤ maxLen) (hx : xpE n Z s t H ≠ 0) :
    Calls Try.prog 22 #[.agg #[.int .i64 n, .bool b, .slice ao nl cap], .int .i64 s, .int .i64 t, .int .i64 H, .slice fo fl fc] w (MovRes n b Z s t H F w) := by
  have hb00 := (Below.refl _ w).alloc (Nat.le_refl _) (.cells #[.int .i64 n, .bool b, .slice ao nl cap] 24)
  have HB := Lib.hid hb00
  have HN := Lib.hid (heap_alloc_new w (.cells #[.int .i64 n, .bool b, .slice ao nl cap] 24))
  have x0 := cell_whole HN.out 0
  have x1 := cell_whole HN.out 1
  have x2 := cell_whole HN.out 2
  have HCALL := Lib.hid (rasked15_any n H b ao nl cap Z s t _ (h.below' hb00) hl hz)
  have HV : Hid (movV n Z s t H b F = [] ∧ movE n Z s t H b F = xpE n Z s t H) := Lib.hid (by unfold movV movE; rw [if_neg (fun e => hx e.1), if_neg hx]; exact ⟨rfl, rfl⟩)
  have he2 : (xpE n Z s t H != 0) = true := by simpa using hx
  obtain ⟨e0, he⟩ : ∃ e0, xpE n Z s t H = e0 := ⟨_, rfl⟩
  rw [he] at HCALL he2 HV
  clear h hb00 hl hz hx he
  go_enter Try.func22, Try.ntmps22
  go_wp2_with (go_at_call 43; refine HCALL.out.mono ?_; rintro e w1 ⟨rfl, hb1⟩; have HB2 := Lib.hid (HB.out.trans (hb1.mono HB.out.size)); clear hb1)
  go_ret2
  exact ⟨none, 0, by rw [HV.out.1, HV.out.2]; rfl, by rw [HV.out.1]; exact Row.nil _ _, HB2.out⟩
end
end Go.Proofs.Ytbkmfjegbmjknaa
namespace Go.Proofs.Ytbkmfjegbmjknaa
open Go.RowKit
set_option linter.unusedVariables false
def HeldK (kb ka ku fb fo : Nat) (ki kt x : Int) (W : World) : Prop := W.cell? ⟨kb, ka, none⟩ = some (.int .i64 ki) ∧ W.cell? ⟨kb, ku, none⟩ = some (.int .i64 kt) ∧ W.cell? ⟨fb, fo, none⟩ = some (.int .i64 x)
theorem HeldK.below {kb ka ku fb fo : Nat} {ki kt x : Int} {W W' : World} (h : HeldK kb ka ku fb fo ki kt x W) (hb : Below W.heap.size W W') : HeldK kb ka ku fb fo ki kt x W' := ⟨cell_below hb h.1, cell_below hb h.2.1, cell_below hb h.2.2⟩
theorem infoMoveR : (Try.prog.info? 94).map (fun i => (i.zero, i.size, i.bytes)) = some (some (.agg #[.int .i64 0, .int .i64 0, .int .i64 0]), 3, 24) := by kernel_rfl
section
variable (n : Int) (b : Bool) (ao fo : Option Addr) (nl cap fl fc : Nat) (Z : List ArcT) (s t H : Int) (F : List Int)
set_option maxRecDepth 100000 in
set_option maxHeartbeats 16000000 in
theorem rmoves15_yes (w : World) (h : Row encA 4 w ao Z) (hl : Z.length = nl) (hz : Z.length ≤ maxLen) (hF : Lst encI w fo F) (hfl : F.length = fl) (hx : xpE n Z s t H = 0) :
    Calls Try.prog 22 #[.agg #[.int .i64 n, .bool b, .slice ao nl cap], .int .i64 s, .int .i64 t, .int .i64 H, .slice fo fl fc] w (MovRes n b Z s t H F w) := by
  obtain ⟨i0, hi0⟩ := info_parts infoMoveR
  have HI := Lib.hid hi0
  have hb00 := (Below.refl _ w).alloc (Nat.le_refl _) (.cells #[.int .i64 n, .bool b, .slice ao nl cap] 24)
  have HB := Lib.hid hb00
  have HN := Lib.hid (heap_alloc_new w (.cells #[.int .i64 n, .bool b, .slice ao nl cap] 24))
  have HR := Lib.hid (h.below' hb00)
  have HFR := Lib.hid (hF.below hb00)
  have HCALL := Lib.hid (rasked15_any n H b ao nl cap Z s t _ HR.out hl hz)
  have HFL := Lib.hid hfl
  obtain ⟨N, i, j, K, rfl, rfl, rfl, rfl, hi, hj, hij, hW, hK, hm1, hm2⟩ := xpE_nat hx
  have c0 := cell_whole HN.out 0
  have c1 := cell_whole HN.out 1
  have c2 := cell_whole HN.out 2
  have HA : Hid (bldA (N : Int) Z (i : Int) (j : Int) (K : Int) b = arcsK ⟨Z, N, i, j, K, b⟩ (⟨Z, N, i, j, K, b⟩ : Exp).kinds) := Lib.hid (by unfold bldA; rw [if_pos hx]; rfl)
  have HV : Hid (movV (N : Int) Z (i : Int) (j : Int) (K : Int) b F = (if isfB (arcsK ⟨Z, N, i, j, K, b⟩ (⟨Z, N, i, j, K, b⟩ : Exp).kinds) F = true then mvsL (⟨Z, N, i, j, K, b⟩ : Exp).kinds F else []) ∧ movE (N : Int) Z (i : Int) (j : Int) (K : Int) b F = if isfB (arcsK ⟨Z, N, i, j, K, b⟩ (⟨Z, N, i, j, K, b⟩ : Exp).kinds) F = true then 0 else 71) := Lib.hid (by
    unfold movV movE
    rw [HA.out, if_pos hx]
    refine ⟨?_, rfl⟩
    by_cases e : isfB (arcsK ⟨Z, N, i, j, K, b⟩ (⟨Z, N, i, j, K, b⟩ : Exp).kinds) F = true
    · rw [if_pos ⟨hx, e⟩, if_pos e, expOf_nat]
    · rw [if_neg (fun q => e q.2), if_neg e])
  have HARCS : Hid (∀ (w2 : World), Row encA 4 w2 ao Z → Calls Try.prog 24 #[.agg #[.int .i64 (N : Int), .bool b, .slice ao nl cap], .int .i64 (i : Int), .int .i64 (j : Int), .int .i64 (K : Int)] w2 fun e w' => ∃ ov kv, e = .returned (.tuple #[ov, kv]) ∧ AK w2 w' ov kv (arcsK ⟨Z, N, i, j, K, b⟩ (⟨Z, N, i, j, K, b⟩ : Exp).kinds) (kdsK ⟨Z, N, i, j, K, b⟩ (⟨Z, N, i, j, K, b⟩ : Exp).kinds)) := Lib.hid (fun (w2 : World) (hr : Row encA 4 w2 ao Z) => rarcs15_any ⟨Z, N, i, j, K, b⟩ ao nl cap w2 hr hl hW hK hi hj hm1 (by rw [← hl]; exact hm2))
  have HKL : Hid ((⟨Z, N, i, j, K, b⟩ : Exp).kinds.length ≤ 100000) := Lib.hid (by
    have := kinds_len (⟨Z, N, i, j, K, b⟩ : Exp)
    simp only at this
    omega)
  generalize hE : (⟨Z, N, i, j, K, b⟩ : Exp) = E at *
  rw [hx] at HCALL
  obtain ⟨al, hal⟩ : ∃ al, E.kinds.length = al := ⟨_, rfl⟩
  have hal1 := (arcsK_len E E.kinds).trans hal
  have hal2 := (kdsK_len E E.kinds).trans hal
  have hal3 : al ≤ 100000 := by rw [← hal]; exact HKL.out
  have HAL := Lib.hid hal
  have HAL1 := Lib.hid hal1
  have HAL2 := Lib.hid hal2
  clear hal hal1 hal2
  clear h hb00 hl hz hx hW hm1 hm2 hF hfl hi0 HA
  have HRES : Hid (∀ (ma : Option Addr) (mc : Nat) (W : World) (L : List MoveT) (er : Int), (isfB (arcsK E E.kinds) F = true ∧ L = mvsL E.kinds F ∧ er = 0 ∨ isfB (arcsK E E.kinds) F = false ∧ L = [] ∧ er = 71) → Row encK 3 W ma L → Below w.heap.size w W → MovRes (N : Int) b Z (i : Int) (j : Int) (K : Int) F w (.returned (.tuple #[.slice ma L.length mc, .int .i64 er])) W) := Lib.hid (fun ma mc W L er hc hr hb => by
    refine ⟨ma, mc, ?_, ?_, hb⟩
    · rw [HV.out.1, HV.out.2]
      rcases hc with ⟨e, rfl, rfl⟩ | ⟨e, rfl, rfl⟩
      · rw [if_pos e, if_pos e]
      · rw [if_neg (by rw [e]; simp), if_neg (by rw [e]; simp)]
    · rw [HV.out.1]
      rcases hc with ⟨e, rfl, rfl⟩ | ⟨e, rfl, rfl⟩
      · rw [if_pos e]; exact hr
      · rw [if_neg (by rw [e]; simp)]; exact hr)
  clear HV
  by_cases hne : fl = al
  · subst hne
    have q0 : ((fl : Int) != (fl : Int)) = false := by simp
    go_enter Try.func22, Try.ntmps22
    go_wp2_with (first
      | (go_at_call 43; refine HCALL.out.mono ?_; rintro e w1 ⟨rfl, hb1⟩; have HB := Lib.hid (HB.out.trans (hb1.mono HB.out.size)); have hn := kept_box HN.out hb1; have HN := Lib.hid hn; have n0 := cell_whole hn 0; have n1 := cell_whole hn 1; have n2 := cell_whole hn 2; have HR := Lib.hid (HR.out.below' hb1); have HFR := Lib.hid (HFR.out.below hb1); clear hb1 hn c0 c1 c2)
      | (go_at_call 24; refine (HARCS.out _ HR.out).mono ?_; rintro e w2 ⟨ov, kv, rfl, hak⟩; obtain ⟨oa, oc, rfl, hrow, hbk⟩ := own_rowQ encA_len hak.ro; obtain ⟨ka, kc, rfl, hkrow, hkbk⟩ := own_rowQ encD_len hak.rk; have hb2 := hak.low; have HROW := Lib.hid hrow; have HKROW := Lib.hid hkrow; have HFR := Lib.hid (HFR.out.below hb2); have HB := Lib.hid (HB.out.trans (hb2.mono HB.out.size)); (rw [HAL1.out, HAL2.out]); clear hb2 hak hrow hbk hkrow hkbk n0 n1 n2))
    clear HCALL HARCS HN
    go_loopw [15, 16] (fun ov iv wr => ∃ p : Nat, p ≤ fl ∧ iv = .int .i64 (p : Int) ∧ Hid (∀ q, q < p → ∀ (a : ArcT) (x : Int), (arcsK E E.kinds)[q]? = some a → F[q]? = some x → 0 ≤ x ∧ x ≤ a.2.2.1) ∧ Hid (OwnMu wr w2.heap.size ov (mvsL (E.kinds.take p) (F.take p))) ∧ Hid (Below w2.heap.size w2 wr)) (fun _ iv _ => fl - (intOf iv).toNat)
    case atStart => exact ⟨0, Nat.zero_le _, rfl, Lib.hid (fun q hq => by omega), Lib.hid (World.ownsRow_nil _ _ _ _), Lib.hid (Below.refl _ _)⟩
    case round =>
      obtain ⟨p, hp, rfl, HS, HOQ, HW⟩ := hrel
      by_cases hlt : p < fl
      · have hli : (p : Int) < (fl : Int) := by omega
        have h1 : p < (arcsK E E.kinds).length := by rw [HAL1.out]; exact hlt
        have h2 : p < F.length := by rw [HFL.out]; exact hlt
        have h3 : p < (kdsK E E.kinds).length := by rw [HAL2.out]; exact hlt
        have h4 : p < E.kinds.length := by rw [HAL.out]; exact hlt
        obtain ⟨ab, ax, e, hab, _, _, d2, _⟩ := arc_at (HROW.out.below' HW.out) (List.getElem?_eq_getElem h1)
        subst e
        obtain ⟨fb, fx, e, hfb, hf⟩ := lst_cell (HFR.out.below HW.out) (List.getElem?_eq_getElem h2)
        subst e
        obtain ⟨kb, kx, e, hkb, k0, k2, k4⟩ := kd_at (HKROW.out.below' HW.out) (List.getElem?_eq_getElem h3)
        subst e
        have HX := Lib.hid (List.getElem?_eq_getElem h1)
        have HY := Lib.hid (List.getElem?_eq_getElem h2)
        have hk := List.getElem?_eq_getElem h4
        have HSTEP : Hid (mvsL (E.kinds.take (p + 1)) (F.take (p + 1)) = mvsL (E.kinds.take p) (F.take p) ++ if (kdsK E E.kinds)[p].1 = true ∧ 0 < F[p] then [((kdsK E E.kinds)[p].2.2.1, (kdsK E E.kinds)[p].2.2.2.2, F[p])] else []) := Lib.hid (by
          rw [mvsL_snoc hk HY.out, mvKd_kd E]
          have : (kdsK E E.kinds)[p] = kdD E.s E.t E.kinds[p] := by simp [kdsK]
          rw [this])
        have HML : Hid ((mvsL (E.kinds.take p) (F.take p)).length ≤ 100000) := Lib.hid (by
          have g1 := mvsL_len (E.kinds.take p) (F.take p)
          rw [List.length_take] at g1
          omega)
        have HFB : Hid (fb < w2.heap.size) := Lib.hid (by obtain ⟨b', o', e, hb', _⟩ := HFR.out p h2; cases e; exact hb')
        have HKB : Hid (kb < w2.heap.size) := Lib.hid (by obtain ⟨b', o', e, hb', _⟩ := HKROW.out p h3; cases e; exact hb')
        unfold encI at hf
        generalize (arcsK E E.kinds)[p] = a at *
        generalize F[p] = x at *
        generalize (kdsK E E.kinds)[p] = kk at *
        generalize mvsL (E.kinds.take p) (F.take p) = M1 at *
        obtain ⟨a1, a2, a3, a4⟩ := a
        obtain ⟨km, kw, ki, kv, kt⟩ := kk
        simp only at d2 k0 k2 k4 HSTEP
        clear h1 h2 h3 h4 hk
        by_cases hx0 : x < 0
        · have hq : decide (x < 0) = true := decide_eq_true hx0
          have HRB := Lib.hid (isfB_bad HX.out HY.out (fun e => by have := e.1; omega))
          go_wp2_with fail
          go_quiet (fail)
          go_wp2
          go_ret2
          exact HRES.out none 0 _ [] 71 (.inr ⟨HRB.out, rfl, rfl⟩) (Row.nil _ _) (HB.out.trans ((below_drewN HW.out _).mono HB.out.size))
        · have hq : decide (x < 0) = false := decide_eq_false hx0
          by_cases hx1 : a3 < x
          · have hq2 : decide (a3 < x) = true := decide_eq_true hx1
            have HRB := Lib.hid (isfB_bad HX.out HY.out (fun e => by have := e.2; simp only at this; omega))
            go_wp2_with fail
            go_quiet (fail)
            go_wp2
            go_ret2
            exact HRES.out none 0 _ [] 71 (.inr ⟨HRB.out, rfl, rfl⟩) (Row.nil _ _) (HB.out.trans ((below_drewN HW.out _).mono HB.out.size))
          · have hq2 : decide (a3 < x) = false := decide_eq_false hx1
            have HS2 : Hid (∀ q, q < p + 1 → ∀ (a : ArcT) (x : Int), (arcsK E E.kinds)[q]? = some a → F[q]? = some x → 0 ≤ x ∧ x ≤ a.2.2.1) := Lib.hid (fun q hq a' x' ha' hx' => by
              by_cases e : q = p
              · subst e
                rw [HX.out] at ha'; rw [HY.out] at hx'
                cases ha'; cases hx'
                exact ⟨by omega, by simp only; omega⟩
              · exact HS.out q (by omega) a' x' ha' hx')
            cases km
            · have HS1 : Hid (mvsL (E.kinds.take (p + 1)) (F.take (p + 1)) = M1) := Lib.hid (by rw [HSTEP.out, if_neg (fun e => by cases e.1), List.append_nil])
              clear HSTEP
              go_wp2_with fail
              go_quiet (fail)
              go_wp2
              go_roundw
              case rel => exact ⟨p + 1, by omega, by go_num, HS2, Lib.hid (by rw [HS1.out]; exact HOQ.out.below (below_drewN (Below.refl _ _) _)), Lib.hid (below_drewN HW.out _)⟩
              case measure => simp [intOf]; omega
            · by_cases h0 : 0 < x
              · have hq3 : decide (0 < x) = true := decide_eq_true h0
                have HS1 : Hid (mvsL (E.kinds.take (p + 1)) (F.take (p + 1)) = M1 ++ [(ki, kt, x)]) := Lib.hid (by rw [HSTEP.out, if_pos ⟨rfl, h0⟩])
                clear HSTEP
                go_wp2_with fail
                go_quiet (fail)
                go_wp2
                generalize hwd : wr.drewN _ = wd at *
                have hdw : Below wr.heap.size wr wd := by rw [← hwd]; exact below_drewN (Below.refl _ _) _
                have HSL : Hid (HeldK kb (kx + p * 5 + 2) (kx + p * 5 + 4) fb (fx + p) ki kt x wr) := Lib.hid ⟨k2, k4, hf⟩
                have HSL := Lib.hid (HSL.out.below hdw)
                have HOQ := Lib.hid (HOQ.out.below hdw)
                have HW := Lib.hid (HW.out.trans (hdw.mono HW.out.size))
                clear hwd hdw k0 k2 k4 hf d2
                refine wp_region_held_drew (S := fun W => HeldK kb (kx + p * 5 + 2) (kx + p * 5 + 4) fb (fx + p) ki kt x W) (by kernel_rfl) HSL.out (fun hHeld => ?_)
                have hdw := below_drew (Below.refl wd.heap.size wd)
                have HSL := Lib.hid (HSL.out.below hdw)
                have HOQ := Lib.hid (HOQ.out.below hdw)
                have HBQ := Lib.hid (HW.out.trans (hdw.mono HW.out.size))
                have HBS : Hid (w2.heap.size ≤ wd.drew.heap.size) := Lib.hid HBQ.out.size
                clear hdw HW
                generalize wd.drew = wq at *
                refine wpAnyH_take (i := 0) (oi := { dst := some 73, op := Go.Op.move (Go.Operand.tmp 15), type := 45, pos := "ref.go:124", after := #[], guard := none }) (v := u15) rfl (by kernel_rfl) (by kernel_rfl) (by kernel_rfl) (fun _ _ _ h => h) (Or.inl ⟨by rfl, ?_⟩) (by assumption) ?_
                · (intro w hSw; (try dsimp only [HeldK] at hSw); go_simp)
                try simp only [Act.put, List.setIfInBounds_toArray, List.set_cons_zero, List.set_cons_succ]
                refine wpAnyH_take (i := 1) (oi := { dst := some 74, op := Go.Op.move (Go.Operand.tmp 14), type := 49, pos := "ref.go:124", after := #[], guard := none }) (v := .slice (some ⟨kb, kx, none⟩) fl kc) rfl (by kernel_rfl) (by kernel_rfl) (by kernel_rfl) (fun _ _ _ h => h) (Or.inl ⟨by rfl, ?_⟩) (by assumption) ?_
                · (intro w hSw; (try dsimp only [HeldK] at hSw); go_simp)
                try simp only [Act.put, List.setIfInBounds_toArray, List.set_cons_zero, List.set_cons_succ]
                refine wpAnyH_take (i := 2) (oi := { dst := some 75, op := Go.Op.move (Go.Operand.tmp 16), type := 3, pos := "ref.go:124", after := #[], guard := none }) (v := .int .i64 (p : Int)) rfl (by kernel_rfl) (by kernel_rfl) (by kernel_rfl) (fun _ _ _ h => h) (Or.inl ⟨by rfl, ?_⟩) (by assumption) ?_
                · (intro w hSw; (try dsimp only [HeldK] at hSw); go_simp)
                try simp only [Act.put, List.setIfInBounds_toArray, List.set_cons_zero, List.set_cons_succ]
                refine wpAnyH_take (i := 3) (oi := { dst := some 76, op := Go.Op.indexAddr 49 (Go.Operand.tmp 74) (Go.Operand.tmp 75), type := 0, pos := "ref.go:124", after := #[{ on := 1, ground := Go.Ground.data }, { on := 2, ground := Go.Ground.data }], guard := none }) (v := .pointer (some ⟨kb, kx + p * 5, none⟩)) rfl (by kernel_rfl) (by kernel_rfl) (by kernel_rfl) (fun _ _ _ h => h) (Or.inl ⟨by rfl, ?_⟩) (by assumption) ?_
                · (intro w hSw; (try dsimp only [HeldK] at hSw); go_simp)
                try simp only [Act.put, List.setIfInBounds_toArray, List.set_cons_zero, List.set_cons_succ]
                refine wpAnyH_take (i := 4) (oi := { dst := some 77, op := Go.Op.fieldAddr 92 (Go.Operand.tmp 76) 2, type := 0, pos := "ref.go:124", after := #[{ on := 3, ground := Go.Ground.data }], guard := none }) (v := .pointer (some ⟨kb, kx + p * 5 + 2, none⟩)) rfl (by kernel_rfl) (by kernel_rfl) (by kernel_rfl) (fun _ _ _ h => h) (Or.inl ⟨by rfl, ?_⟩) (by assumption) ?_
                · (intro w hSw; (try dsimp only [HeldK] at hSw); go_simp)
                try simp only [Act.put, List.setIfInBounds_toArray, List.set_cons_zero, List.set_cons_succ]
                refine wpAnyH_take (i := 5) (oi := { dst := some 78, op := Go.Op.load 3 (Go.Operand.tmp 77), type := 3, pos := "ref.go:124", after := #[{ on := 4, ground := Go.Ground.data }], guard := none }) (v := .int .i64 ki) rfl (by kernel_rfl) (by kernel_rfl) (by kernel_rfl) (fun _ _ _ h => h) (Or.inl ⟨by rfl, ?_⟩) (by assumption) ?_
                · (intro w hSw; (try dsimp only [HeldK] at hSw); go_simp)
                try simp only [Act.put, List.setIfInBounds_toArray, List.set_cons_zero, List.set_cons_succ]
                refine wpAnyH_take (i := 6) (oi := { dst := some 79, op := Go.Op.move (Go.Operand.tmp 14), type := 49, pos := "ref.go:124", after := #[], guard := none }) (v := .slice (some ⟨kb, kx, none⟩) fl kc) rfl (by kernel_rfl) (by kernel_rfl) (by kernel_rfl) (fun _ _ _ h => h) (Or.inl ⟨by rfl, ?_⟩) (by assumption) ?_
                · (intro w hSw; (try dsimp only [HeldK] at hSw); go_simp)
                try simp only [Act.put, List.setIfInBounds_toArray, List.set_cons_zero, List.set_cons_succ]
                refine wpAnyH_take (i := 7) (oi := { dst := some 80, op := Go.Op.move (Go.Operand.tmp 16), type := 3, pos := "ref.go:124", after := #[], guard := none }) (v := .int .i64 (p : Int)) rfl (by kernel_rfl) (by kernel_rfl) (by kernel_rfl) (fun _ _ _ h => h) (Or.inl ⟨by rfl, ?_⟩) (by assumption) ?_
                · (intro w hSw; (try dsimp only [HeldK] at hSw); go_simp)
                try simp only [Act.put, List.setIfInBounds_toArray, List.set_cons_zero, List.set_cons_succ]
                refine wpAnyH_take (i := 8) (oi := { dst := some 81, op := Go.Op.indexAddr 49 (Go.Operand.tmp 79) (Go.Operand.tmp 80), type := 0, pos := "ref.go:124", after := #[{ on := 6, ground := Go.Ground.data }, { on := 7, ground := Go.Ground.data }], guard := none }) (v := .pointer (some ⟨kb, kx + p * 5, none⟩)) rfl (by kernel_rfl) (by kernel_rfl) (by kernel_rfl) (fun _ _ _ h => h) (Or.inl ⟨by rfl, ?_⟩) (by assumption) ?_
                · (intro w hSw; (try dsimp only [HeldK] at hSw); go_simp)
                try simp only [Act.put, List.setIfInBounds_toArray, List.set_cons_zero, List.set_cons_succ]
                refine wpAnyH_take (i := 9) (oi := { dst := some 82, op := Go.Op.fieldAddr 92 (Go.Operand.tmp 81) 4, type := 0, pos := "ref.go:124", after := #[{ on := 8, ground := Go.Ground.data }], guard := none }) (v := .pointer (some ⟨kb, kx + p * 5 + 4, none⟩)) rfl (by kernel_rfl) (by kernel_rfl) (by kernel_rfl) (fun _ _ _ h => h) (Or.inl ⟨by rfl, ?_⟩) (by assumption) ?_
                · (intro w hSw; (try dsimp only [HeldK] at hSw); go_simp)
                try simp only [Act.put, List.setIfInBounds_toArray, List.set_cons_zero, List.set_cons_succ]
                refine wpAnyH_take (i := 10) (oi := { dst := some 83, op := Go.Op.load 3 (Go.Operand.tmp 82), type := 3, pos := "ref.go:124", after := #[{ on := 9, ground := Go.Ground.data }], guard := none }) (v := .int .i64 kt) rfl (by kernel_rfl) (by kernel_rfl) (by kernel_rfl) (fun _ _ _ h => h) (Or.inl ⟨by rfl, ?_⟩) (by assumption) ?_
                · (intro w hSw; (try dsimp only [HeldK] at hSw); go_simp)
                try simp only [Act.put, List.setIfInBounds_toArray, List.set_cons_zero, List.set_cons_succ]
                refine wpAnyH_take (i := 11) (oi := { dst := some 84, op := Go.Op.move (Go.Operand.tmp 4), type := 42, pos := "ref.go:124", after := #[], guard := none }) (v := .slice (some ⟨fb, fx, none⟩) fl fc) rfl (by kernel_rfl) (by kernel_rfl) (by kernel_rfl) (fun _ _ _ h => h) (Or.inl ⟨by rfl, ?_⟩) (by assumption) ?_
                · (intro w hSw; (try dsimp only [HeldK] at hSw); go_simp)
                try simp only [Act.put, List.setIfInBounds_toArray, List.set_cons_zero, List.set_cons_succ]
                refine wpAnyH_take (i := 12) (oi := { dst := some 85, op := Go.Op.move (Go.Operand.tmp 16), type := 3, pos := "ref.go:124", after := #[], guard := none }) (v := .int .i64 (p : Int)) rfl (by kernel_rfl) (by kernel_rfl) (by kernel_rfl) (fun _ _ _ h => h) (Or.inl ⟨by rfl, ?_⟩) (by assumption) ?_
                · (intro w hSw; (try dsimp only [HeldK] at hSw); go_simp)
                try simp only [Act.put, List.setIfInBounds_toArray, List.set_cons_zero, List.set_cons_succ]
                refine wpAnyH_take (i := 13) (oi := { dst := some 86, op := Go.Op.indexAddr 42 (Go.Operand.tmp 84) (Go.Operand.tmp 85), type := 0, pos := "ref.go:124", after := #[{ on := 11, ground := Go.Ground.data }, { on := 12, ground := Go.Ground.data }], guard := none }) (v := .pointer (some ⟨fb, fx + p, none⟩)) rfl (by kernel_rfl) (by kernel_rfl) (by kernel_rfl) (fun _ _ _ h => h) (Or.inl ⟨by rfl, ?_⟩) (by assumption) ?_
                · (intro w hSw; (try dsimp only [HeldK] at hSw); go_simp)
                try simp only [Act.put, List.setIfInBounds_toArray, List.set_cons_zero, List.set_cons_succ]
                refine wpAnyH_take (i := 14) (oi := { dst := some 87, op := Go.Op.load 3 (Go.Operand.tmp 86), type := 3, pos := "ref.go:124", after := #[{ on := 13, ground := Go.Ground.data }], guard := none }) (v := .int .i64 x) rfl (by kernel_rfl) (by kernel_rfl) (by kernel_rfl) (fun _ _ _ h => h) (Or.inl ⟨by rfl, ?_⟩) (by assumption) ?_
                · (intro w hSw; (try dsimp only [HeldK] at hSw); go_simp)
                try simp only [Act.put, List.setIfInBounds_toArray, List.set_cons_zero, List.set_cons_succ]
                refine wpAnyH_take (i := 15) (oi := { dst := some 88, op := Go.Op.build 94 #[(0, Go.Operand.tmp 78), (1, Go.Operand.tmp 83), (2, Go.Operand.tmp 87)], type := 94, pos := "ref.go:124", after := #[{ on := 5, ground := Go.Ground.data }, { on := 10, ground := Go.Ground.data }, { on := 14, ground := Go.Ground.data }], guard := none }) (v := .agg #[.int .i64 ki, .int .i64 kt, .int .i64 x]) rfl (by kernel_rfl) (by kernel_rfl) (by kernel_rfl) (fun _ _ _ h => h) (Or.inl ⟨by rfl, ?_⟩) (by assumption) ?_
                · (intro w hSw; (try dsimp only [HeldK] at hSw); go_simp)
                try simp only [Act.put, List.setIfInBounds_toArray, List.set_cons_zero, List.set_cons_succ]
                refine wpAnyH_ready (rs := [16]) (by kernel_rfl) (by simp) (AllReadyH.cons (o := { dst := some 89, op := Go.Op.buildSlice 45 1 #[(0, Go.Operand.tmp 88)], type := 45, pos := "ref.go:124", after := #[{ on := 15, ground := Go.Ground.data }], guard := none }) rfl (fun KK hK => ?_) AllReadyH.nil)
                obtain ⟨nb2, hnb2⟩ : ∃ nb2, wq.heap.size = nb2 := ⟨_, rfl⟩
                go_simp
                have HQ2 := Lib.hid ((Below.refl wq.heap.size wq).alloc (Nat.le_refl _) (.cells #[.int .i64 ki, .int .i64 kt, .int .i64 x] 94))
                have HSL := Lib.hid (HSL.out.below HQ2.out)
                have HOQ := Lib.hid (HOQ.out.below HQ2.out)
                have HBQ := Lib.hid (HBQ.out.trans (HQ2.out.mono HBQ.out.size))
                have HBS : Hid (w2.heap.size ≤ (wq.alloc (.cells #[.int .i64 ki, .int .i64 kt, .int .i64 x] 94)).heap.size) := Lib.hid (Nat.le_trans HBS.out HQ2.out.size)
                have HNW : Hid ((wq.alloc (.cells #[.int .i64 ki, .int .i64 kt, .int .i64 x] 94)).heap[nb2]? = some (.cells #[.int .i64 ki, .int .i64 kt, .int .i64 x] 94 (0, 0))) := Lib.hid (by rw [← hnb2]; exact heap_alloc_new _ _)
                clear hHeld
                refine hK.out _ _ HSL.out (fun hHeld => ?_)
                clear hK
                generalize wq.alloc (.cells #[.int .i64 ki, .int .i64 kt, .int .i64 x] 94) = wn at *
                clear hnb2
                try simp only [Act.put, List.setIfInBounds_toArray, List.set_cons_zero, List.set_cons_succ]
                refine wpAnyH_ready (rs := [17]) (by kernel_rfl) (by simp) (AllReadyH.cons (o := { dst := some 90, op := Go.Op.call { callee := Go.Callee.builtin Go.Builtin.append, args := #[Go.Operand.tmp 73, Go.Operand.tmp 89], argTypes := #[45, 45] }, type := 45, pos := "ref.go:124", after := #[{ on := 0, ground := Go.Ground.data }, { on := 16, ground := Go.Ground.data }], guard := none }) rfl (fun KK hK => ?_) AllReadyH.nil)
                refine step_append_lies _ (by rfl) _ _ _ (by rfl) w2.heap.size 94 i0 _ 3 24 Try.underlying45 HI.out.1 HI.out.2.1 HI.out.2.2.1 HI.out.2.2.2 rfl (by omega) u15 M1.length (M1.flatMap encK) (by rfl) HOQ.out ⟨nb2, 0, none⟩ 1 1 (encK (ki, kt, x)) (by rfl) (by rfl) (World.news_of_block (cs := #[.int .i64 ki, .int .i64 kt, .int .i64 x]) (t := 94) (fr := (0, 0)) HNW.out) (encK_one _) (by omega) (by have := HML.out; unfold maxLen; omega) (by have := HML.out; omega) HBS.out _ rfl ?_
                intro g8 cap8 w8 ho8 hg8 hl8 hlt8
                have HO8 : Hid (OwnMu w8 w2.heap.size (.slice (some ⟨g8, 0, none⟩) (M1.length + 1) cap8) (M1 ++ [(ki, kt, x)])) := Lib.hid (ownMu_snoc ho8)
                have HOB : Hid (∀ g, u15.ownBlock = some g → w2.heap.size ≤ g) := Lib.hid (fun g e => own_block HOQ.out e)
                have HSL : Hid (HeldK kb (kx + p * 5 + 2) (kx + p * 5 + 4) fb (fx + p) ki kt x w8) := Lib.hid ⟨cell_heap (hg8.block kb (by have := HKB.out; have := HBS.out; omega) (fun e => by have := HOB.out _ e.symm; have := HKB.out; omega)) HSL.out.1, cell_heap (hg8.block kb (by have := HKB.out; have := HBS.out; omega) (fun e => by have := HOB.out _ e.symm; have := HKB.out; omega)) HSL.out.2.1, cell_heap (hg8.block fb (by have := HFB.out; have := HBS.out; omega) (fun e => by have := HOB.out _ e.symm; have := HFB.out; omega)) HSL.out.2.2⟩
                have HBQ := Lib.hid (HBQ.out.grown hg8 HBQ.out.size (fun k hk => by have := HOB.out k hk; omega))
                clear hHeld ho8 hg8 hl8 hlt8
                refine hK.out _ _ HSL.out (fun hHeld => ?_)
                clear hK
                try simp only [Act.put, List.setIfInBounds_toArray, List.set_cons_zero, List.set_cons_succ]
                refine wpAnyH_take (i := 18) (oi := { dst := some 15, op := Go.Op.assign (Go.Operand.tmp 90), type := 45, pos := "ref.go:124", after := #[{ on := 17, ground := Go.Ground.data }, { on := 17, ground := Go.Ground.chain }, { on := 0, ground := Go.Ground.phase }, { on := 1, ground := Go.Ground.phase }, { on := 2, ground := Go.Ground.phase }, { on := 3, ground := Go.Ground.phase }, { on := 4, ground := Go.Ground.phase }, { on := 5, ground := Go.Ground.phase }, { on := 6, ground := Go.Ground.phase }, { on := 7, ground := Go.Ground.phase }, { on := 8, ground := Go.Ground.phase }, { on := 9, ground := Go.Ground.phase }, { on := 10, ground := Go.Ground.phase }, { on := 11, ground := Go.Ground.phase }, { on := 12, ground := Go.Ground.phase }, { on := 13, ground := Go.Ground.phase }, { on := 14, ground := Go.Ground.phase }, { on := 15, ground := Go.Ground.phase }, { on := 16, ground := Go.Ground.phase }, { on := 17, ground := Go.Ground.phase }], guard := none }) (v := .slice (some ⟨g8, 0, none⟩) (M1.length + 1) cap8) rfl (by kernel_rfl) (by kernel_rfl) (by kernel_rfl) (fun _ _ _ h => h) (Or.inl ⟨by rfl, ?_⟩) (by assumption) ?_
                · (intro w hSw; (try dsimp only at hSw); go_simp)
                try simp only [Act.put, List.setIfInBounds_toArray, List.set_cons_zero, List.set_cons_succ]
                refine wpAnyH_done (by kernel_rfl) ?_ _
                clear hHeld
                go_wp2
                go_roundw
                case rel => exact ⟨p + 1, by omega, by go_num, HS2, Lib.hid (by rw [HS1.out]; exact HO8.out), HBQ⟩
                case measure => simp [intOf]; omega
              · have hq3 : decide (0 < x) = false := decide_eq_false h0
                have HS1 : Hid (mvsL (E.kinds.take (p + 1)) (F.take (p + 1)) = M1) := Lib.hid (by rw [HSTEP.out, if_neg (fun e => h0 e.2), List.append_nil])
                clear HSTEP
                go_wp2_with fail
                go_quiet (fail)
                go_wp2
                go_roundw
                case rel => exact ⟨p + 1, by omega, by go_num, HS2, Lib.hid (by rw [HS1.out]; exact HOQ.out.below (below_drewN (Below.refl _ _) _)), Lib.hid (below_drewN HW.out _)⟩
                case measure => simp [intOf]; omega
      · have hli : ¬ (p : Int) < (fl : Int) := by omega
        obtain rfl : p = fl := by omega
        have HRG := Lib.hid (isfB_ok (by rw [HFL.out, HAL1.out]) (fun q hq => HS.out q (by rw [HAL1.out] at hq; omega)))
        have HTK : Hid (mvsL (E.kinds.take p) (F.take p) = mvsL E.kinds F) := Lib.hid (by rw [List.take_of_length_le (by rw [HAL.out]; exact Nat.le_refl _), List.take_of_length_le (by rw [HFL.out]; exact Nat.le_refl _)])
        rw [HTK.out] at HOQ
        obtain ⟨ma, mc, rfl, hrow, _⟩ := own_rowQ encK_len HOQ.out
        have HMR := Lib.hid hrow
        clear hrow
        go_wp2_with fail
        go_ret2
        exact HRES.out ma mc _ _ 0 (.inl ⟨HRG.out, rfl, rfl⟩) HMR.out (HB.out.trans (HW.out.mono HB.out.size))
  · have q0 : ((fl : Int) != (al : Int)) = true := by simp; omega
    have HRB := Lib.hid (isfB_len (A := arcsK E E.kinds) (F := F) (by rw [HFL.out, HAL1.out]; exact hne))
    go_enter Try.func22, Try.ntmps22
    go_wp2_with (first
      | (go_at_call 43; refine HCALL.out.mono ?_; rintro e w1 ⟨rfl, hb1⟩; have HB := Lib.hid (HB.out.trans (hb1.mono HB.out.size)); have hn := kept_box HN.out hb1; have HN := Lib.hid hn; have n0 := cell_whole hn 0; have n1 := cell_whole hn 1; have n2 := cell_whole hn 2; have HR := Lib.hid (HR.out.below' hb1); have HFR := Lib.hid (HFR.out.below hb1); clear hb1 hn c0 c1 c2)
      | (go_at_call 24; refine (HARCS.out _ HR.out).mono ?_; rintro e w2 ⟨ov, kv, rfl, hak⟩; obtain ⟨oa, oc, rfl, hrow, hbk⟩ := own_rowQ encA_len hak.ro; obtain ⟨ka, kc, rfl, hkrow, hkbk⟩ := own_rowQ encD_len hak.rk; have hb2 := hak.low; have HROW := Lib.hid hrow; have HKROW := Lib.hid hkrow; have HFR := Lib.hid (HFR.out.below hb2); have HB := Lib.hid (HB.out.trans (hb2.mono HB.out.size)); (rw [HAL1.out, HAL2.out]); clear hb2 hak hrow hbk hkrow hkbk n0 n1 n2))
    go_ret2
    exact HRES.out none 0 _ [] 71 (.inr ⟨HRB.out, rfl, rfl⟩) (Row.nil _ _) HB.out
theorem rmoves15_any (w : World) (h : Row encA 4 w ao Z) (hl : Z.length = nl) (hz : Z.length ≤ maxLen) (hF : Lst encI w fo F) (hfl : F.length = fl) :
    Calls Try.prog 22 #[.agg #[.int .i64 n, .bool b, .slice ao nl cap], .int .i64 s, .int .i64 t, .int .i64 H, .slice fo fl fc] w (MovRes n b Z s t H F w) := by
  by_cases hx : xpE n Z s t H = 0
  · exact rmoves15_yes n b ao fo nl cap fl fc Z s t H F w h hl hz hF hfl hx
  · exact rmoves15_no n b ao fo nl cap fl fc Z s t H F w h hl hz hx
end
end Go.Proofs.Ytbkmfjegbmjknaa
namespace Go.Proofs.Ytbkmfjegbmjknaa
open Go.RowKit Go.Maps
set_option linter.unusedVariables false
section
variable {β : Type} {mk : β → Value} {w w' : World} {b r m cnt : Nat} {f : Int × Int → Option β} {left : Int × Int → Bool}
theorem SlotR.stay (h : SlotR mk w b r m f left cnt) (e1 : w'.heap[b]? = w.heap[b]?) (e2 : w'.heap[r]? = w.heap[r]?) : SlotR mk w' b r m f left cnt := by
  obtain ⟨n, D, L, hn, hrg, hD, hl, hp⟩ := h
  refine ⟨n, D, L, hn, ?_, hD, hl, hp⟩
  obtain ⟨es, clock, since, seen, c0, hb, F, hs, hD', hr, rest⟩ := hrg
  exact ⟨es, clock, since, seen, c0, e1.trans hb, F, hs, hD', e2.trans hr, rest⟩
end
def HeldV (gc g6 fb fo : Nat) (ci cj p2 x : Int) (W : World) : Prop := W.cell? ⟨gc, 0, none⟩ = some (.int .i64 ci) ∧ W.cell? ⟨gc, 1, none⟩ = some (.int .i64 cj) ∧ W.cell? ⟨g6, 1, none⟩ = some (.int .i64 p2) ∧ W.cell? ⟨fb, fo, none⟩ = some (.int .i64 x)
theorem heldV {gc g6 fb fo : Nat} {ci cj p1 p2 x : Int} {W : World} (hc : W.heap[gc]? = some (.cells #[.int .i64 ci, .int .i64 cj] 121 (0, 0))) (hs : W.heap[g6]? = some (.cells #[.int .i64 p1, .int .i64 p2] 26 (0, 0))) (hf : W.cell? ⟨fb, fo, none⟩ = some (.int .i64 x)) : HeldV gc g6 fb fo ci cj p2 x W :=
  ⟨cell_whole hc 0, cell_whole hc 1, cell_whole hs 1, hf⟩
theorem below_grownN {w w' : World} (h : w.grownBy w' none) : Below w.heap.size w w' := ⟨h.os, h.tape, h.output, h.size, fun i hi => h.block i hi (by simp)⟩
theorem kd_okP {E : Exp} (hW : SpanNet E.Z E.N) (hH : E.H ≤ 1024) {j i u : Nat} (h : E.kinds[j]? = some (Kd.mv i u)) : okP (((E.frA i : Nat) : Int), (u : Int)) := by
  rcases Exp.kinds_cases (List.mem_of_getElem? h) with ⟨i', u', e, ho⟩ | ⟨v, u', _, e, _⟩ | ⟨u', _, e⟩ | ⟨u', _, e⟩
  · have e1 : i = i' := congrArg (fun k : Kd => k.2.1) e
    have e2 : u = u' := congrArg (fun k : Kd => k.2.2) e
    subst e1; subst e2
    obtain ⟨a, ha, h1, _⟩ := E.ok_arc ho
    have h2 := (hW.lt a (List.mem_of_getElem? ha)).1
    have h3 := hW.nodes
    have h4 : E.frA i = frN a := by unfold Exp.frA; rw [ha]
    rw [h4]
    exact ⟨by unfold in64; simp only; omega, by unfold in64; simp only; omega⟩
  · exact absurd (Prod.mk.inj e).1 (by decide)
  · exact absurd (Prod.mk.inj e).1 (by decide)
  · exact absurd (Prod.mk.inj e).1 (by decide)
theorem infoMove15 : (Try.prog.info? 94).map (fun i => (i.zero, i.size, i.bytes)) = some (some (.agg #[.int .i64 0, .int .i64 0, .int .i64 0]), 3, 24) := by kernel_rfl
theorem mvs_fit {K : List Kd} {F : List Int} (hK : K.length ≤ 200) (hx : ∀ x ∈ F, 0 ≤ x ∧ x ≤ 1099511627776) (hm : ∀ (j i u : Nat), K[j]? = some (Kd.mv i u) → i ≤ 200000 ∧ u ≤ 200000) : ∀ m ∈ mvsL K F, okK m := by
  intro m hm'
  obtain ⟨j, ⟨a, i, u⟩, x, h1, h2, h3, h4, rfl⟩ := mvsL_mem.1 hm'
  have h3 : a = 0 := h3
  subst h3
  have h5 := hm j i u h1
  have h6 := hx x (List.mem_of_getElem? h2)
  refine ⟨?_, ?_, ?_⟩ <;> (unfold in64; simp only; omega)
set_option maxRecDepth 100000 in
set_option maxHeartbeats 8000000 in
theorem ugmoves_any (k : GBk) (E : Exp) (bn : Int) (m : Nat) (av : Value) (hd : Int × Int → Option (Nat × Nat × Nat)) (fo : Option Addr) (fl fc : Nat) (F : List Int) (w : World)
    (hG : GX k (E.N : Int) (E.H : Int) bn w (contK E E.kinds) m av hd) (hF : Lst encI w fo F) (hfl : F.length = fl) (hFK : F.length = E.kinds.length) (hK : E.kinds.length ≤ 200) (hx : ∀ x ∈ F, 0 ≤ x ∧ x ≤ 1099511627776) (hW : SpanNet E.Z E.N) (hH : E.H ≤ 1024) :
    Calls Try.prog 46 #[grwV k (E.N : Int) (E.H : Int) bn av, .slice fo fl fc] w fun e w' => ∃ ao cap, e = .returned (.slice ao (mvsL E.kinds F).length cap) ∧ Row encK 3 w' ao (mvsL E.kinds F) ∧ Below w.heap.size w w' := by
  obtain ⟨i0, hi0⟩ := info_parts infoMove15
  have HI := Lib.hid hi0
  obtain ⟨fa, ac, rfl, _, _⟩ := own_rowQ encA_len hG.arcs
  unfold grwV
  obtain ⟨al, hal⟩ : ∃ al, (contK E E.kinds).A.length = al := ⟨_, rfl⟩
  rw [hal] at hG ⊢
  have hb00 := (Below.refl _ w).alloc (Nat.le_refl _) (.cells #[.int .i64 (E.N : Int), .int .i64 (E.H : Int), .int .i64 bn, .bool false, .slice fa al ac, .map (some k.bc), .map (some k.bw), .map (some k.be), .map (some k.bx)] 83)
  have HB := Lib.hid hb00
  have HN := Lib.hid (heap_alloc_new w (.cells #[.int .i64 (E.N : Int), .int .i64 (E.H : Int), .int .i64 bn, .bool false, .slice fa al ac, .map (some k.bc), .map (some k.bw), .map (some k.be), .map (some k.bx)] 83))
  have HG := Lib.hid (hG.below hb00)
  have HF := Lib.hid (hF.below hb00)
  have HFL := Lib.hid hfl
  have HFK := Lib.hid hFK
  have HKL := Lib.hid hK
  have HX := Lib.hid hx
  have HKD : Hid (∀ (j i u : Nat), E.kinds[j]? = some (Kd.mv i u) → okP (((E.frA i : Nat) : Int), (u : Int))) := Lib.hid (fun j i u h => kd_okP hW hH h)
  have HKI : Hid (∀ (j i u : Nat), E.kinds[j]? = some (Kd.mv i u) → i ≤ 200000 ∧ u ≤ 200000) := Lib.hid (fun j i u h => by
    rcases Exp.kinds_cases (List.mem_of_getElem? h) with ⟨i', u', e, ho⟩ | ⟨v, u', _, e, _⟩ | ⟨u', _, e⟩ | ⟨u', _, e⟩
    · have e1 : i = i' := congrArg (fun k : Kd => k.2.1) e
      have e2 : u = u' := congrArg (fun k : Kd => k.2.2) e
      have := Exp.ok_lt ho
      have := hW.len
      omega
    · exact absurd (Prod.mk.inj e).1 (by decide)
    · exact absurd (Prod.mk.inj e).1 (by decide)
    · exact absurd (Prod.mk.inj e).1 (by decide))
  have n5 := cell_whole HN.out 5
  have hfl2 : fl ≤ 200 := by omega
  clear hb00 hG hF hfl hFK hK hx hW hH hi0 hal
  generalize hw1 : w.alloc (.cells #[.int .i64 (E.N : Int), .int .i64 (E.H : Int), .int .i64 bn, .bool false, .slice fa al ac, .map (some k.bc), .map (some k.bw), .map (some k.be), .map (some k.bx)] 83) = w1 at *
  have HMM := Lib.hid HG.out.cm
  go_enter Try.func46, Try.ntmps46
  go_wp2_with (first
    | (at_range; (try rw [hw1]); refine wpList_range_slot rfl _ _ _ rfl Try.underlying80 HMM.out rfl ?_; intro w2 cnt0 hR0 hgR hsR)
    | go_in)
  go_frame
  have hb12 := below_grownN hgR
  have HBC : Hid (k.bc < w1.heap.size) := Lib.hid HMM.out.lt
  have HS2 : Hid (w1.heap.size + 1 ≤ w2.heap.size) := Lib.hid (by omega)
  have HR0 := Lib.hid hR0
  have HB12 := Lib.hid hb12
  obtain ⟨r1, hr1⟩ : ∃ r1, w1.heap.size + 1 = r1 := ⟨_, rfl⟩
  have HR1 := Lib.hid hr1
  rw [hr1] at HS2
  clear hR0 hgR hsR hb12 hr1 n5 HMM hw1
  go_loopw [5] (fun mv wr => ∃ (left : Int × Int → Bool) (cnt : Nat) (M : List MoveT), Hid (SlotR hdV wr k.bc w1.heap.size m hd left cnt) ∧ Hid (OwnMu wr r1 mv M) ∧ Hid (GatU E E.kinds F left M) ∧ Hid (Below w1.heap.size w1 wr) ∧ Hid (r1 ≤ wr.heap.size)) (fun _ wr => wr.rangeLeft k.bc w1.heap.size)
  case atStart => exact ⟨_, _, [], HR0, Lib.hid (World.ownsRow_nil _ _ _ _), Lib.hid (GatU.start (fun p hp => HG.out.cn p (by cases e : hd p with | none => rfl | some c => rw [e] at hp; cases hp))), HB12, HS2⟩
  case round =>
    clear HR0 HB12 HS2
    obtain ⟨left, cnt, M, HR, HO, HGA, HW, HSZ⟩ := hrel
    go_wp2_with (first
      | (at_next; refine wpList_next_slot rfl _ rfl rfl HR.out ?_ ?_)
      | go_in)
    · intro hall
      have HP : Hid (M.Perm (mvsL E.kinds F)) := Lib.hid (HGA.out.perm (kinds_sorted E) (fun j i u h => hall _ _ (HKD.out j i u h)))
      obtain ⟨mo, mc, rfl, hrow, _⟩ := own_rowQ encK_len HO.out
      have HROW := Lib.hid hrow
      have HOK : Hid (∀ x ∈ M, okK x) := Lib.hid (fun x hx => mvs_fit HKL.out HX.out HKI.out x (HP.out.mem_iff.1 hx))
      have HML : Hid (M.length ≤ 200) := Lib.hid (Nat.le_trans HGA.out.len HKL.out)
      have HALL : Hid (AllIn (mvS M) ∧ ∀ R, R.Perm (mvs M) → Sorted kM R → R = mvsL E.kinds F) := Lib.hid (by
        have hz : ∀ m ∈ mvsL E.kinds F, m.2.2 ≠ 0 := fun m hm => by
          obtain ⟨_, _, x, _, _, _, h4, rfl⟩ := mvsL_mem.1 hm
          simp only; omega
        have hn : (pairsOf M).Nodup := (HP.out.map (fun m : MoveT => (m.2.1, m.1))).nodup_iff.2 (mvLt_pairs (mvsL_sorted (kinds_sorted E)))
        refine ⟨?_, fun R h1 h2 => merged_is HP.out (mvsL_sorted (kinds_sorted E)) hz h1 h2⟩
        rw [(mvs_again hn (fun m hm => hz m (HP.out.mem_iff.1 hm))).2]
        intro s hs
        obtain ⟨x, hx, rfl⟩ := List.mem_map.1 hs
        exact (HOK.out x hx).2.2)
      clear hrow hall
      go_wp2_with (go_at_call 48; refine (moves_any mo mc M _ HROW.out HOK.out HML.out).mono ?_; rintro e w5 ⟨hb5, hcs⟩; obtain ⟨ao, cap, R, rfl, hr5, hp5, hs5⟩ : ∃ ao cap R, e = .returned (.tuple #[.slice ao R.length cap, .int .i64 0]) ∧ Row encK 3 w5 ao R ∧ R.Perm (mvs M) ∧ Sorted kM R := (by rcases hcs with ⟨_, ao, cap, R, h1, h2, h3, h4⟩ | ⟨hno, _⟩; exact ⟨ao, cap, R, h1, h2, h3, h4⟩; exact absurd HALL.out.1 hno); have HE := HALL.out.2 R hp5 hs5; subst HE; have HR5 := Lib.hid hr5; have HB5 := Lib.hid hb5; clear hb5 hr5 hp5 hs5 hcs)
      go_ret
      exact ⟨ao, cap, rfl, HR5.out, (HB.out.trans (HW.out.mono HB.out.size)).trans (HB5.out.mono (by have h1 := HB.out.size; have h2 := HW.out.size; omega))⟩
    · intro p1 p2 cb cl cc w3 cnt' hlp hfp hR3 hlt3 hgr hsz hen
      obtain ⟨hcl0, hcrow⟩ := HG.out.cr _ _ hfp
      obtain ⟨cao, ccap, ecr, hcr, hcb⟩ := own_rowQ encP_lenQ (show w1.ownsRow k.B 121 2 (hdV (cb, cl, cc)) (crossF E E.kinds (p1, p2)).length ((crossF E E.kinds (p1, p2)).flatMap encPQ) from hcrow)
      have hcl : cl = (crossF E E.kinds (p1, p2)).length := hcl0
      clear hcl0
      have hcao : cao = some ⟨cb, 0, none⟩ := by unfold hdV at ecr; injection ecr with e1; exact e1.symm
      subst hcao
      have HCR := Lib.hid hcr
      have HCL := Lib.hid hcl
      have HCB : Hid (cb < w1.heap.size) := Lib.hid (hcb _ rfl).2.2
      have HST : Hid (GatU E E.kinds F (fun q => left q && !decide (q = (p1, p2))) (M ++ pmv F p2 (crossF E E.kinds (p1, p2)))) := Lib.hid (HGA.out.step HFK.out (kinds_sorted E) hlp)
      have HCLL : Hid (cl ≤ 200) := Lib.hid (by
        have h1 : (crossF E E.kinds (p1, p2)).length ≤ E.kinds.zipIdx.length := List.length_filterMap_le _ _
        rw [List.length_zipIdx] at h1
        have := HKL.out
        omega)
      have HML : Hid (∀ n, (M ++ pmv F p2 ((crossF E E.kinds (p1, p2)).take n)).length ≤ 400) := Lib.hid (fun n => by
        rw [List.length_append]
        have h1 := HGA.out.len
        have h2 := pmv_len F p2 ((crossF E E.kinds (p1, p2)).take n)
        have h3 := List.length_take_le n (crossF E E.kinds (p1, p2))
        have h4 := HKL.out
        have h5 := HCLL.out
        have h6 := HCL.out
        have h7 : ((crossF E E.kinds (p1, p2)).take n).length ≤ (crossF E E.kinds (p1, p2)).length := List.length_take_le' _ _
        omega)
      have HCE : Hid (∀ c ∈ crossF E E.kinds (p1, p2), ∃ ci cj : Nat, c = ((ci : Int), (cj : Int)) ∧ ci ≤ 200000 ∧ cj < F.length) := Lib.hid (fun c hc => by
        obtain ⟨i, u, j, rfl, hk, _⟩ := cross_at hc
        exact ⟨i, j, rfl, (HKI.out j i u hk).1, by rw [HFK.out]; exact (List.getElem?_eq_some_iff.1 hk).1⟩)
      have hnr : ∀ g, u5.ownBlock = some g → g ≠ w1.heap.size := fun g e e2 => by have h1 := own_block HO.out e; have h2 := HR1.out; omega
      have HO3 : Hid (OwnMu w3 r1 u5 M) := Lib.hid (own_old HO.out (fun g e => hgr.block g (own_lt HO.out e) (fun e2 => hnr g e (Option.some.inj e2))))
      have HR3 := Lib.hid hR3
      have HLT := Lib.hid hlt3
      have hb3 : Below w1.heap.size w1 w3 := HW.out.grown hgr HW.out.size (fun j hj => by have := Option.some.inj hj; omega)
      have HSZ3 : Hid (r1 ≤ w3.heap.size) := Lib.hid (by rw [hsz]; exact HSZ.out)
      have HRO := HR
      unfold hdV at hen
      have hal := (Below.refl w3.heap.size w3).alloc (Nat.le_refl _) (.cells #[.int .i64 p1, .int .i64 p2] 26)
      have HS4 := Lib.hid (heap_alloc_new w3 (.cells #[.int .i64 p1, .int .i64 p2] 26))
      have HR4 := Lib.hid (HR3.out.below hal)
      have HO4 := Lib.hid (HO3.out.below hal)
      have HW4 := Lib.hid (hb3.trans (hal.mono hb3.size))
      have HSZ4 : Hid (r1 ≤ (w3.alloc (.cells #[.int .i64 p1, .int .i64 p2] 26)).heap.size) := Lib.hid (Nat.le_trans HSZ3.out hal.size)
      clear hcr hcrow hcb hcl hgr hR3 hlt3 hsz hb3 hnr HO HR HW HSZ HGA ecr hal HO3 HR3 hlp hfp
      go_wp2_with fail
      obtain ⟨g6, hg6⟩ : ∃ g6, w3.heap.size = g6 := ⟨_, rfl⟩
      rw [hg6] at HS4 ⊢
      generalize w3.alloc (.cells #[.int .i64 p1, .int .i64 p2] 26) = w4 at *
      clear hen hg6 HSZ3
      go_loopw [5, 22] (fun mv iv wr => ∃ n : Nat, n ≤ cl ∧ iv = .int .i64 (n : Int) ∧ Hid (SlotR hdV wr k.bc w1.heap.size m hd (fun q => left q && !decide (q = (p1, p2))) cnt') ∧ Hid (OwnMu wr r1 mv (M ++ pmv F p2 ((crossF E E.kinds (p1, p2)).take n))) ∧ Hid (wr.heap[g6]? = some (.cells #[.int .i64 p1, .int .i64 p2] 26 (0, 0))) ∧ Hid (Below w1.heap.size w1 wr) ∧ Hid (r1 ≤ wr.heap.size)) (fun _ iv _ => cl - (intOf iv).toNat)
      case atStart => exact ⟨0, Nat.zero_le _, rfl, HR4, Lib.hid (by rw [List.take_zero, show pmv F p2 [] = [] from rfl, List.append_nil]; exact HO4.out), HS4, HW4, HSZ4⟩
      case round =>
        clear HR4 HO4 HS4 HW4 HSZ4
        obtain ⟨n, hn, rfl, HSR, HOQ, HS6, HBQ, HBS⟩ := hrel
        by_cases hlt : n < cl
        · have hli : (n : Int) < (cl : Int) := by omega
          have hnl : n < (crossF E E.kinds (p1, p2)).length := by rw [← HCL.out]; exact hlt
          obtain ⟨cb', cx, e, hcb, d0, d1⟩ := Row.pair (HCR.out.below' HBQ.out) hnl
          cases e
          obtain ⟨ci, cj, hce, hci, hcj⟩ := HCE.out _ (List.getElem_mem hnl)
          have HCN := Lib.hid (List.getElem?_eq_getElem hnl)
          obtain ⟨fb, fx, e, hfb, hf⟩ := lst_cell (HF.out.below HBQ.out) (List.getElem?_eq_getElem hcj)
          subst e
          have HXF := Lib.hid (List.getElem?_eq_getElem hcj)
          have HFB : Hid (fb < w1.heap.size) := Lib.hid (by obtain ⟨b', o', e, hb', _⟩ := HF.out cj hcj; cases e; exact hb')
          unfold encI at hf
          rw [hce] at d0 d1 HCN
          simp only [Nat.zero_add] at d0 d1
          generalize F[cj] = x at *
          have hcjl : (cj : Int) < (fl : Int) := by rw [← HFL.out]; omega
          have HSTEP : Hid (M ++ pmv F p2 ((crossF E E.kinds (p1, p2)).take (n + 1)) = (M ++ pmv F p2 ((crossF E E.kinds (p1, p2)).take n)) ++ if 0 < x then [((ci : Int), p2, x)] else []) := Lib.hid (by rw [pmv_snoc HCN.out (x := x) (by simpa using HXF.out), List.append_assoc])
          have HM1 := Lib.hid (HML.out n)
          generalize M ++ pmv F p2 ((crossF E E.kinds (p1, p2)).take n) = M1 at *
          obtain ⟨gc, hgc⟩ : ∃ gc, wr.heap.size = gc := ⟨_, rfl⟩
          have hal := (Below.refl wr.heap.size wr).alloc (Nat.le_refl _) (.cells #[.int .i64 (ci : Int), .int .i64 (cj : Int)] 121)
          have hc6 := heap_alloc_new wr (.cells #[.int .i64 (ci : Int), .int .i64 (cj : Int)] 121)
          rw [hgc] at hc6
          have hf6 := cell_below hal hf
          have HC6 := Lib.hid hc6
          have HF6 := Lib.hid hf6
          have e0 := cell_whole hc6 0
          have e1 := cell_whole hc6 1
          have HSR := Lib.hid (HSR.out.below hal)
          have HOQ := Lib.hid (HOQ.out.below hal)
          have HS6 := Lib.hid (kept_box HS6.out hal)
          have HBQ := Lib.hid (HBQ.out.trans (hal.mono HBQ.out.size))
          have HBS : Hid (r1 ≤ (wr.alloc (.cells #[.int .i64 (ci : Int), .int .i64 (cj : Int)] 121)).heap.size) := Lib.hid (Nat.le_trans HBS.out hal.size)
          have hcl2 := HCLL.out
          clear hal hc6 hnl hce hci hcb hfb hcj
          by_cases h0 : 0 < x
          · have hq : decide (0 < x) = true := decide_eq_true h0
            have HS1 : Hid (M ++ pmv F p2 ((crossF E E.kinds (p1, p2)).take (n + 1)) = M1 ++ [((ci : Int), p2, x)]) := Lib.hid (by rw [HSTEP.out, if_pos h0])
            clear HSTEP
            go_wp2_with fail
            try rw [hgc]
            clear hgc
            generalize wr.alloc (.cells #[.int .i64 (ci : Int), .int .i64 (cj : Int)] 121) = wd at *
            clear hf6 hf d0 d1 e0 e1
            refine wp_region_held_drew (S := fun W => HeldV gc g6 fb (fx + cj) (ci : Int) (cj : Int) p2 x W) (by kernel_rfl) (heldV (p1 := p1) HC6.out HS6.out HF6.out) (fun hHeld => ?_)
            have hdw := below_drew (Below.refl wd.heap.size wd)
            have HSL := Lib.hid (heldV (W := wd.drew) (p1 := p1) (kept_box HC6.out hdw) (kept_box HS6.out hdw) (cell_below hdw HF6.out))
            have HC6 := Lib.hid (kept_box HC6.out hdw)
            have HF6 := Lib.hid (cell_below hdw HF6.out)
            have HSR := Lib.hid (HSR.out.below hdw)
            have HOQ := Lib.hid (HOQ.out.below hdw)
            have HS6 := Lib.hid (kept_box HS6.out hdw)
            have HBQ := Lib.hid (HBQ.out.trans (hdw.mono HBQ.out.size))
            have HBS : Hid (r1 ≤ wd.drew.heap.size) := Lib.hid (Nat.le_trans HBS.out hdw.size)
            clear hdw
            generalize wd.drew = wq at *
            refine wpAnyH_take (i := 0) (oi := { dst := some 32, op := Go.Op.move (Go.Operand.tmp 5), type := 45, pos := "expand.go:158", after := #[], guard := none }) (v := u5) rfl (by kernel_rfl) (by kernel_rfl) (by kernel_rfl) (fun _ _ _ h => h) (Or.inl ⟨by rfl, ?_⟩) (by assumption) ?_
            · (intro w hSw; (try dsimp only [HeldV] at hSw); go_simp)
            try simp only [Act.put, List.setIfInBounds_toArray, List.set_cons_zero, List.set_cons_succ]
            refine wpAnyH_take (i := 1) (oi := { dst := some 33, op := Go.Op.fieldAddr 121 (Go.Operand.tmp 9) 0, type := 0, pos := "expand.go:158", after := #[], guard := none }) (v := .pointer (some ⟨gc, 0, none⟩)) rfl (by kernel_rfl) (by kernel_rfl) (by kernel_rfl) (fun _ _ _ h => h) (Or.inl ⟨by rfl, ?_⟩) (by assumption) ?_
            · (intro w hSw; (try dsimp only [HeldV] at hSw); go_simp)
            try simp only [Act.put, List.setIfInBounds_toArray, List.set_cons_zero, List.set_cons_succ]
            refine wpAnyH_take (i := 2) (oi := { dst := some 34, op := Go.Op.load 3 (Go.Operand.tmp 33), type := 3, pos := "expand.go:158", after := #[{ on := 1, ground := Go.Ground.data }], guard := none }) (v := .int .i64 (ci : Int)) rfl (by kernel_rfl) (by kernel_rfl) (by kernel_rfl) (fun _ _ _ h => h) (Or.inl ⟨by rfl, ?_⟩) (by assumption) ?_
            · (intro w hSw; (try dsimp only [HeldV] at hSw); go_simp)
            try simp only [Act.put, List.setIfInBounds_toArray, List.set_cons_zero, List.set_cons_succ]
            refine wpAnyH_take (i := 3) (oi := { dst := some 35, op := Go.Op.fieldAddr 26 (Go.Operand.tmp 6) 1, type := 0, pos := "expand.go:158", after := #[], guard := none }) (v := .pointer (some ⟨g6, 1, none⟩)) rfl (by kernel_rfl) (by kernel_rfl) (by kernel_rfl) (fun _ _ _ h => h) (Or.inl ⟨by rfl, ?_⟩) (by assumption) ?_
            · (intro w hSw; (try dsimp only [HeldV] at hSw); go_simp)
            try simp only [Act.put, List.setIfInBounds_toArray, List.set_cons_zero, List.set_cons_succ]
            refine wpAnyH_take (i := 4) (oi := { dst := some 36, op := Go.Op.load 3 (Go.Operand.tmp 35), type := 3, pos := "expand.go:158", after := #[{ on := 3, ground := Go.Ground.data }], guard := none }) (v := .int .i64 p2) rfl (by kernel_rfl) (by kernel_rfl) (by kernel_rfl) (fun _ _ _ h => h) (Or.inl ⟨by rfl, ?_⟩) (by assumption) ?_
            · (intro w hSw; (try dsimp only [HeldV] at hSw); go_simp)
            try simp only [Act.put, List.setIfInBounds_toArray, List.set_cons_zero, List.set_cons_succ]
            refine wpAnyH_take (i := 5) (oi := { dst := some 37, op := Go.Op.move (Go.Operand.tmp 1), type := 42, pos := "expand.go:158", after := #[], guard := none }) (v := .slice (some ⟨fb, fx, none⟩) fl fc) rfl (by kernel_rfl) (by kernel_rfl) (by kernel_rfl) (fun _ _ _ h => h) (Or.inl ⟨by rfl, ?_⟩) (by assumption) ?_
            · (intro w hSw; (try dsimp only [HeldV] at hSw); go_simp)
            try simp only [Act.put, List.setIfInBounds_toArray, List.set_cons_zero, List.set_cons_succ]
            refine wpAnyH_take (i := 6) (oi := { dst := some 38, op := Go.Op.fieldAddr 121 (Go.Operand.tmp 9) 1, type := 0, pos := "expand.go:158", after := #[], guard := none }) (v := .pointer (some ⟨gc, 1, none⟩)) rfl (by kernel_rfl) (by kernel_rfl) (by kernel_rfl) (fun _ _ _ h => h) (Or.inl ⟨by rfl, ?_⟩) (by assumption) ?_
            · (intro w hSw; (try dsimp only [HeldV] at hSw); go_simp)
            try simp only [Act.put, List.setIfInBounds_toArray, List.set_cons_zero, List.set_cons_succ]
            refine wpAnyH_take (i := 7) (oi := { dst := some 39, op := Go.Op.load 3 (Go.Operand.tmp 38), type := 3, pos := "expand.go:158", after := #[{ on := 6, ground := Go.Ground.data }], guard := none }) (v := .int .i64 (cj : Int)) rfl (by kernel_rfl) (by kernel_rfl) (by kernel_rfl) (fun _ _ _ h => h) (Or.inl ⟨by rfl, ?_⟩) (by assumption) ?_
            · (intro w hSw; (try dsimp only [HeldV] at hSw); go_simp)
            try simp only [Act.put, List.setIfInBounds_toArray, List.set_cons_zero, List.set_cons_succ]
            refine wpAnyH_take (i := 8) (oi := { dst := some 40, op := Go.Op.indexAddr 42 (Go.Operand.tmp 37) (Go.Operand.tmp 39), type := 0, pos := "expand.go:158", after := #[{ on := 5, ground := Go.Ground.data }, { on := 7, ground := Go.Ground.data }], guard := none }) (v := .pointer (some ⟨fb, fx + cj, none⟩)) rfl (by kernel_rfl) (by kernel_rfl) (by kernel_rfl) (fun _ _ _ h => h) (Or.inl ⟨by rfl, ?_⟩) (by assumption) ?_
            · (intro w hSw; (try dsimp only [HeldV] at hSw); go_simp)
            try simp only [Act.put, List.setIfInBounds_toArray, List.set_cons_zero, List.set_cons_succ]
            refine wpAnyH_take (i := 9) (oi := { dst := some 41, op := Go.Op.load 3 (Go.Operand.tmp 40), type := 3, pos := "expand.go:158", after := #[{ on := 8, ground := Go.Ground.data }], guard := none }) (v := .int .i64 x) rfl (by kernel_rfl) (by kernel_rfl) (by kernel_rfl) (fun _ _ _ h => h) (Or.inl ⟨by rfl, ?_⟩) (by assumption) ?_
            · (intro w hSw; (try dsimp only [HeldV] at hSw); go_simp)
            try simp only [Act.put, List.setIfInBounds_toArray, List.set_cons_zero, List.set_cons_succ]
            refine wpAnyH_take (i := 10) (oi := { dst := some 42, op := Go.Op.build 94 #[(0, Go.Operand.tmp 34), (1, Go.Operand.tmp 36), (2, Go.Operand.tmp 41)], type := 94, pos := "expand.go:158", after := #[{ on := 2, ground := Go.Ground.data }, { on := 4, ground := Go.Ground.data }, { on := 9, ground := Go.Ground.data }], guard := none }) (v := .agg #[.int .i64 (ci : Int), .int .i64 p2, .int .i64 x]) rfl (by kernel_rfl) (by kernel_rfl) (by kernel_rfl) (fun _ _ _ h => h) (Or.inl ⟨by rfl, ?_⟩) (by assumption) ?_
            · (intro w hSw; (try dsimp only [HeldV] at hSw); go_simp)
            try simp only [Act.put, List.setIfInBounds_toArray, List.set_cons_zero, List.set_cons_succ]
            refine wpAnyH_ready (rs := [11]) (by kernel_rfl) (by simp) (AllReadyH.cons (o := { dst := some 43, op := Go.Op.buildSlice 45 1 #[(0, Go.Operand.tmp 42)], type := 45, pos := "expand.go:158", after := #[{ on := 10, ground := Go.Ground.data }], guard := none }) rfl (fun KK hK => ?_) AllReadyH.nil)
            obtain ⟨nb2, hnb2⟩ : ∃ nb2, wq.heap.size = nb2 := ⟨_, rfl⟩
            go_simp
            have HQ2 := Lib.hid ((Below.refl wq.heap.size wq).alloc (Nat.le_refl _) (.cells #[.int .i64 (ci : Int), .int .i64 p2, .int .i64 x] 94))
            have HC6 := Lib.hid (kept_box HC6.out HQ2.out)
            have HF6 := Lib.hid (cell_below HQ2.out HF6.out)
            have HS6 := Lib.hid (kept_box HS6.out HQ2.out)
            have HSL := Lib.hid (heldV (p1 := p1) HC6.out HS6.out HF6.out)
            have HSR := Lib.hid (HSR.out.below HQ2.out)
            have HOQ := Lib.hid (HOQ.out.below HQ2.out)
            have HBQ := Lib.hid (HBQ.out.trans (HQ2.out.mono HBQ.out.size))
            have HBS : Hid (r1 ≤ (wq.alloc (.cells #[.int .i64 (ci : Int), .int .i64 p2, .int .i64 x] 94)).heap.size) := Lib.hid (Nat.le_trans HBS.out HQ2.out.size)
            have HNW : Hid ((wq.alloc (.cells #[.int .i64 (ci : Int), .int .i64 p2, .int .i64 x] 94)).heap[nb2]? = some (.cells #[.int .i64 (ci : Int), .int .i64 p2, .int .i64 x] 94 (0, 0))) := Lib.hid (by rw [← hnb2]; exact heap_alloc_new _ _)
            clear hHeld
            refine hK.out _ _ HSL.out (fun hHeld => ?_)
            clear hK
            generalize wq.alloc (.cells #[.int .i64 (ci : Int), .int .i64 p2, .int .i64 x] 94) = wn at *
            clear hnb2
            try simp only [Act.put, List.setIfInBounds_toArray, List.set_cons_zero, List.set_cons_succ]
            refine wpAnyH_ready (rs := [12]) (by kernel_rfl) (by simp) (AllReadyH.cons (o := { dst := some 44, op := Go.Op.call { callee := Go.Callee.builtin Go.Builtin.append, args := #[Go.Operand.tmp 32, Go.Operand.tmp 43], argTypes := #[45, 45] }, type := 45, pos := "expand.go:158", after := #[{ on := 0, ground := Go.Ground.data }, { on := 11, ground := Go.Ground.data }], guard := none }) rfl (fun KK hK => ?_) AllReadyH.nil)
            refine step_append_lies _ (by rfl) _ _ _ (by rfl) r1 94 i0 _ 3 24 Try.underlying45 HI.out.1 HI.out.2.1 HI.out.2.2.1 HI.out.2.2.2 rfl (by omega) u5 M1.length (M1.flatMap encK) (by rfl) HOQ.out ⟨nb2, 0, none⟩ 1 1 (encK ((ci : Int), p2, x)) (by rfl) (by rfl) (World.news_of_block (cs := #[.int .i64 (ci : Int), .int .i64 p2, .int .i64 x]) (t := 94) (fr := (0, 0)) HNW.out) (encK_one _) (by omega) (by have := HM1.out; unfold maxLen; omega) (by have := HM1.out; omega) HBS.out _ rfl ?_
            intro g8 cap8 w8 ho8 hg8 hl8 hlt8
            have HO8 : Hid (OwnMu w8 r1 (.slice (some ⟨g8, 0, none⟩) (M1.length + 1) cap8) (M1 ++ [((ci : Int), p2, x)])) := Lib.hid (ownMu_snoc ho8)
            have HOB : Hid (∀ g, u5.ownBlock = some g → r1 ≤ g) := Lib.hid (fun g e => own_block HOQ.out e)
            have HSR := Lib.hid (HSR.out.kept hg8 (fun e => by have := HOB.out _ e.symm; have := HBC.out; have := HR1.out; omega) (fun e => by have := HOB.out _ e.symm; have := HR1.out; omega))
            have HC6 := Lib.hid ((hg8.block _ (lt_whole HC6.out) (fun e => own_ne HOQ.out HC6.out (by decide) e.symm)).trans HC6.out)
            have HF6 := Lib.hid (cell_heap (hg8.block fb (by have := HFB.out; have := HBS.out; have := HR1.out; omega) (fun e => by have := HOB.out _ e.symm; have := HFB.out; have := HR1.out; omega)) HF6.out)
            have HS6 := Lib.hid ((hg8.block _ (lt_whole HS6.out) (fun e => own_ne HOQ.out HS6.out (by decide) e.symm)).trans HS6.out)
            have HBQ := Lib.hid (HBQ.out.grown hg8 HBQ.out.size (fun k hk => by have := HOB.out k hk; have := HR1.out; omega))
            have HBS : Hid (r1 ≤ w8.heap.size) := Lib.hid (Nat.le_trans HBS.out hg8.size)
            have HSL := Lib.hid (heldV (p1 := p1) HC6.out HS6.out HF6.out)
            clear hHeld ho8 hg8 hl8 hlt8
            refine hK.out _ _ HSL.out (fun hHeld => ?_)
            clear hK
            try simp only [Act.put, List.setIfInBounds_toArray, List.set_cons_zero, List.set_cons_succ]
            refine wpAnyH_take (i := 13) (oi := { dst := some 5, op := Go.Op.assign (Go.Operand.tmp 44), type := 45, pos := "expand.go:158", after := #[{ on := 12, ground := Go.Ground.data }, { on := 12, ground := Go.Ground.chain }, { on := 0, ground := Go.Ground.phase }, { on := 1, ground := Go.Ground.phase }, { on := 2, ground := Go.Ground.phase }, { on := 3, ground := Go.Ground.phase }, { on := 4, ground := Go.Ground.phase }, { on := 5, ground := Go.Ground.phase }, { on := 6, ground := Go.Ground.phase }, { on := 7, ground := Go.Ground.phase }, { on := 8, ground := Go.Ground.phase }, { on := 9, ground := Go.Ground.phase }, { on := 10, ground := Go.Ground.phase }, { on := 11, ground := Go.Ground.phase }, { on := 12, ground := Go.Ground.phase }], guard := none }) (v := .slice (some ⟨g8, 0, none⟩) (M1.length + 1) cap8) rfl (by kernel_rfl) (by kernel_rfl) (by kernel_rfl) (fun _ _ _ h => h) (Or.inl ⟨by rfl, ?_⟩) (by assumption) ?_
            · (intro w hSw; (try dsimp only at hSw); go_simp)
            try simp only [Act.put, List.setIfInBounds_toArray, List.set_cons_zero, List.set_cons_succ]
            refine wpAnyH_done (by kernel_rfl) ?_ _
            clear hHeld
            go_wp2
            go_roundw
            case rel => exact ⟨n + 1, by omega, by go_num, HSR, Lib.hid (by rw [HS1.out]; exact HO8.out), HS6, HBQ, HBS⟩
            case measure => simp [intOf]; omega
          · have hq : decide (0 < x) = false := decide_eq_false h0
            have HS1 : Hid (M ++ pmv F p2 ((crossF E E.kinds (p1, p2)).take (n + 1)) = M1) := Lib.hid (by rw [HSTEP.out, if_neg h0, List.append_nil])
            clear HSTEP
            go_wp2_with fail
            go_roundw
            case rel => exact ⟨n + 1, by omega, by go_num, HSR, Lib.hid (by rw [HS1.out]; exact HOQ.out), HS6, HBQ, HBS⟩
            case measure => simp [intOf]; omega
        · have hli : ¬ (n : Int) < (cl : Int) := by omega
          obtain rfl : n = cl := by omega
          have HE : Hid ((crossF E E.kinds (p1, p2)).take n = crossF E E.kinds (p1, p2)) := Lib.hid (by rw [HCL.out]; exact List.take_length)
          go_wp2_with fail
          go_roundw
          case rel => exact ⟨_, cnt', _, HSR, Lib.hid (by rw [HE.out] at HOQ; exact HOQ.out), HST, HBQ, HBS⟩
          case measure => rw [HSR.out.left_eq, HRO.out.left_eq]; exact HLT.out
end Go.Proofs.Ytbkmfjegbmjknaa
namespace Go.Proofs.Ytbkmfjegbmjknaa
open Go.RowKit Go.Maps
set_option linter.unusedVariables false
theorem arc_caps {E : Exp} (hW : SpanNet E.Z E.N) : ∀ a ∈ E.net, a.2.2.1 ≤ 1099511627776 := by
  intro a ha
  unfold Exp.net at ha
  obtain ⟨k, hk, rfl⟩ := List.mem_map.1 ha
  rcases Exp.kinds_cases hk with ⟨i, u, rfl, ho⟩ | ⟨v, u, _, rfl, _⟩ | ⟨u, _, rfl⟩ | ⟨u, _, rfl⟩
  · obtain ⟨a, ha, _⟩ := E.ok_arc ho
    have e4 : E.arcKd (Kd.mv i u) = ((E.slot (frN a) u : Int), (E.slot (toN a) (u + tmN a) : Int), capN a, 0) := by simp only [Exp.arcKd, ha]
    rw [e4]
    have := (hW.caps a (List.mem_of_getElem? ha)).2
    simp only
    omega
  · exact Int.le_refl _
  · exact Int.le_refl _
  · exact Int.le_refl _
theorem isf_bd {E : Exp} (hW : SpanNet E.Z E.N) {F : List Int} (h : isfB E.net F = true) : F.length = E.kinds.length ∧ ∀ x ∈ F, 0 ≤ x ∧ x ≤ 1099511627776 := by
  obtain ⟨h1, h2⟩ := isfB_is.1 h
  refine ⟨by rw [h1]; unfold Exp.net; exact List.length_map _, fun x hx => ?_⟩
  obtain ⟨j, hj⟩ := List.mem_iff_getElem?.1 hx
  have hjl : j < E.net.length := by rw [← h1]; exact (List.getElem?_eq_some_iff.1 hj).1
  have h3 := h2 j _ x (List.getElem?_eq_getElem hjl) hj
  have h4 := arc_caps hW _ (List.getElem_mem hjl)
  omega
section
variable (n : Int) (b : Bool) (ao fo : Option Addr) (nl cap fl fc : Nat) (Z : List ArcT) (s t H : Int) (F : List Int)
end
section
variable (b : Bool) (ao fo : Option Addr) (nl cap fl fc : Nat) (Z : List ArcT) (N i j K : Nat) (F : List Int)
set_option maxRecDepth 100000 in
set_option maxHeartbeats 8000000 in
theorem umoves_yes (w : World) (h : Row encA 4 w ao Z) (hl : Z.length = nl) (hF : Lst encI w fo F) (hfl : F.length = fl) (hx : xpE (N : Int) Z (i : Int) (j : Int) (K : Int) = 0) (hi : i < N) (hj : j < N) (hij : i ≠ j) (hW : SpanNet Z N) (hK : K ≤ 1024) (hm1 : (K + 1) * N ≤ 4000) (hm2 : (K + 1) * Z.length ≤ 10000) (hsm : (⟨Z, N, i, j, K, b⟩ : Exp).kinds.length ≤ 200) :
    Calls Try.prog 21 #[.agg #[.int .i64 (N : Int), .bool b, .slice ao nl cap], .int .i64 (i : Int), .int .i64 (j : Int), .int .i64 (K : Int), .slice fo fl fc] w (MovRes (N : Int) b Z (i : Int) (j : Int) (K : Int) F w) := by
  have hb00 := (Below.refl _ w).alloc (Nat.le_refl _) (.cells #[.int .i64 (N : Int), .bool b, .slice ao nl cap] 24)
  have HB := Lib.hid hb00
  have HN := Lib.hid (heap_alloc_new w (.cells #[.int .i64 (N : Int), .bool b, .slice ao nl cap] 24))
  have x0 := cell_whole HN.out 0
  have x1 := cell_whole HN.out 1
  have x2 := cell_whole HN.out 2
  have HF := Lib.hid (hF.below hb00)
  have HFL := Lib.hid hfl
  have HWW := Lib.hid hW
  have HKK := Lib.hid hK
  have HSM := Lib.hid hsm
  have HCALL := Lib.hid (ugrow_yes b ao nl cap Z N i j K _ (h.below' hb00) hl hx hi hj hij hW hK hm1 hm2)
  have HV : Hid (movV (N : Int) Z (i : Int) (j : Int) (K : Int) b F = (if isfB (⟨Z, N, i, j, K, b⟩ : Exp).net F = true then mvsL (⟨Z, N, i, j, K, b⟩ : Exp).kinds F else []) ∧ movE (N : Int) Z (i : Int) (j : Int) (K : Int) b F = if isfB (⟨Z, N, i, j, K, b⟩ : Exp).net F = true then 0 else 71) := Lib.hid (by
    have e0 : bldA (N : Int) Z (i : Int) (j : Int) (K : Int) b = (⟨Z, N, i, j, K, b⟩ : Exp).net := by unfold bldA; rw [if_pos hx]; rfl
    unfold movV movE
    rw [e0, if_pos hx]
    refine ⟨?_, rfl⟩
    by_cases e : isfB (⟨Z, N, i, j, K, b⟩ : Exp).net F = true
    · rw [if_pos ⟨hx, e⟩, if_pos e, expOf_nat]
    · rw [if_neg (fun q => e q.2), if_neg e])
  obtain ⟨q, hq⟩ : ∃ q, isfB (⟨Z, N, i, j, K, b⟩ : Exp).net F = q := ⟨_, rfl⟩
  have HQ := Lib.hid hq
  rw [hq] at HV
  have HAL0 : Hid ((contK ⟨Z, N, i, j, K, b⟩ (⟨Z, N, i, j, K, b⟩ : Exp).kinds).A.length ≤ 4398046511104) := Lib.hid (by rw [contK_len]; omega)
  clear h hb00 hl hx hi hj hij hW hK hm1 hm2 hF hfl hsm hq
  cases q
  all_goals
    go_enter Try.func21, Try.ntmps21
    go_wp2_with (first
      | (go_at_call 42; refine HCALL.out.mono ?_; rintro e w2 ⟨k, m, av, hd, rfl, hkB, hgx, hb2⟩; obtain ⟨fa, ac, rfl, hrow, _⟩ := own_rowQ encA_len hgx.arcs; unfold grwV; (generalize hal : (contK ⟨Z, N, i, j, K, b⟩ (⟨Z, N, i, j, K, b⟩ : Exp).kinds).A.length = al at *); have HGX := Lib.hid hgx; have HROW := Lib.hid hrow; have HAL := Lib.hid hal; have HF := Lib.hid (HF.out.below hb2); have HB := Lib.hid (HB.out.trans (hb2.mono HB.out.size)); clear hkB hgx hb2 hrow hal x0 x1 x2)
      | (go_at_call 45; have hal0 := (Below.refl _ w2).alloc (Nat.le_refl _) (.cells #[.int .i64 (N : Int), .int .i64 (K : Int), .int .i64 (((K : Int) + 1) * (N : Int) + 2), .bool false, .slice fa al ac, .map (some k.bc), .map (some k.bw), .map (some k.be), .map (some k.bx)] 83); have hnb := heap_alloc_new w2 (.cells #[.int .i64 (N : Int), .int .i64 (K : Int), .int .i64 (((K : Int) + 1) * (N : Int) + 2), .bool false, .slice fa al ac, .map (some k.bc), .map (some k.bw), .map (some k.be), .map (some k.bx)] 83); refine (uisflow_any k (N : Int) (K : Int) (((K : Int) + 1) * (N : Int) + 2) fa fo al ac fl fc (contK ⟨Z, N, i, j, K, b⟩ (⟨Z, N, i, j, K, b⟩ : Exp).kinds).A F _ (HROW.out.below' hal0) HAL.out (HF.out.below hal0) HFL.out HAL0.out).mono ?_; rintro e w4 ⟨rfl, hb4⟩; (rw [show isfB (contK ⟨Z, N, i, j, K, b⟩ (⟨Z, N, i, j, K, b⟩ : Exp).kinds).A F = _ from HQ.out]); have hb := hal0.trans (hb4.mono hal0.size); have hn := kept_box hnb hb4; have g0 := cell_whole hn 0; have g1 := cell_whole hn 1; have g2 := cell_whole hn 2; have g3 := cell_whole hn 3; have g4 := cell_whole hn 4; have g5 := cell_whole hn 5; have g6 := cell_whole hn 6; have g7 := cell_whole hn 7; have g8 := cell_whole hn 8; have HGX := Lib.hid (HGX.out.below hb); have HF := Lib.hid (HF.out.below hb); have HB := Lib.hid (HB.out.trans (hb.mono HB.out.size)); clear hal0 hnb hb4 hb hn)
      | (go_at_call 46; refine (ugmoves_any k ⟨Z, N, i, j, K, b⟩ (((K : Int) + 1) * (N : Int) + 2) m (.slice fa al ac) hd fo fl fc F _ HGX.out HF.out HFL.out (isf_bd HWW.out HQ.out).1 HSM.out (isf_bd HWW.out HQ.out).2 HWW.out HKK.out).mono ?_; rintro e w5 ⟨ma, mc, rfl, hr5, hb5⟩; have HR5 := Lib.hid hr5; have HB := Lib.hid (HB.out.trans (hb5.mono HB.out.size)); clear hr5 hb5))
    go_ret2
    first
      | exact ⟨none, 0, by rw [HV.out.1, HV.out.2]; rfl, by rw [HV.out.1]; exact Row.nil _ _, HB.out⟩
      | exact ⟨ma, mc, by rw [HV.out.1, HV.out.2]; rfl, by rw [HV.out.1]; exact HR5.out, HB.out⟩
end
end Go.Proofs.Ytbkmfjegbmjknaa
