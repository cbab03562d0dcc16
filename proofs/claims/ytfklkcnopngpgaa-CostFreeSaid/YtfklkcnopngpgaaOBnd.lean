/- Package cost's leading, bounds, areNumbers and check. -/
import Derived.Test.YtfklkcnopngpgaaOLnk
import Derived.Deep.DeepCutAuto
import Derived.Deep.RegionHeld3
namespace Go.Proofs.Ytfklkcnopngpgaa
open Go.RowKit
set_option linter.unusedVariables false

theorem link_at {w : World} {la : Option Addr} {R : List ArcT} (h : Row encLk 3 w la R) {i : Nat} {a : ArcT} (ha : R[i]? = some a) :
    ∃ b o, la = some ⟨b, o, none⟩ ∧ b < w.heap.size ∧ w.cell? ⟨b, o + i * 3, none⟩ = some (.int .i64 a.1) ∧ w.cell? ⟨b, o + i * 3 + 1, none⟩ = some (.int .i64 a.2.1) ∧ w.cell? ⟨b, o + i * 3 + 2, none⟩ = some (.int .i64 a.2.2.2) := by
  obtain ⟨hi, rfl⟩ := List.getElem?_eq_some_iff.1 ha
  obtain ⟨b, o, e, hb, hc⟩ := h i hi
  exact ⟨b, o, e, hb, hc 0 (by decide), hc 1 (by decide), hc 2 (by decide)⟩
theorem leadR_succ {R : List ArcT} {B : List Bool} {k : Nat} {a : ArcT} (h : R[k]? = some a) : leadR (R.take (k + 1)) B = leadR (R.take k) B ++ if isAt B (frN a) = true then [a] else [] := by
  obtain ⟨hk, rfl⟩ := List.getElem?_eq_some_iff.1 h
  unfold leadR
  rw [List.take_succ_eq_append_getElem hk, List.filter_append]
  congr 1
  by_cases hb : isAt B (frN R[k]) = true
  · rw [if_pos hb]; simp [hb]
  · rw [if_neg hb]; simp [hb]
theorem leadR_len (R : List ArcT) (B : List Bool) : (leadR R B).length ≤ R.length := List.length_filter_le _ _
set_option maxRecDepth 100000 in
set_option maxHeartbeats 4000000 in
theorem oleading_any (R : List ArcT) (B : List Bool) (la ba : Option Addr) (lc bc : Nat) (w : World) (h : Row encLk 3 w la R) (hB : Lst encB w ba B) (hR : ∀ a ∈ R, a.1 = (frN a : Int) ∧ frN a < B.length) (hl : R.length ≤ 2000) :
    Calls Try.prog 27 #[.slice la R.length lc, .slice ba B.length bc] w (LinksV (leadR R B) w) := by
  have HR := Lib.hid h
  have HBO := Lib.hid hB
  have HA := Lib.hid hR
  clear h hB hR
  go_enter Try.func27, Try.ntmps27
  go_wp2
  go_loopw [5, 10] (fun ov i wr => ∃ k : Nat, k ≤ R.length ∧ i = .int .i64 (k : Int) ∧ Hid (Below w.heap.size w wr) ∧ Hid (OwnK wr w.heap.size ov (leadR (R.take k) B))) (fun _ i _ => R.length - (intOf i).toNat)
  case atStart => exact ⟨0, Nat.zero_le _, rfl, Lib.hid (Below.refl _ _), Lib.hid (OwnK.nil _ _)⟩
  case round =>
    obtain ⟨k, hk, rfl, HB, HO⟩ := hrel
    obtain ⟨oa, oc, hlv, _⟩ := HO.out.row
    by_cases hlt : k < R.length
    · have hli : (k : Int) < (R.length : Int) := by omega
      have ha : R[k]? = some R[k] := List.getElem?_eq_getElem hlt
      obtain ⟨h1, hfB⟩ := HA.out _ (List.mem_of_getElem? ha)
      obtain ⟨lb, lx, e, hlb, c0, c1, c2⟩ := link_at (HR.out.below' HB.out) ha
      cases e
      obtain ⟨bb, bx, e, hbb, d0⟩ := lst_cell (HBO.out.below HB.out) (isAt_get hfB)
      cases e
      rw [h1] at c0
      have HS := Lib.hid (leadR_succ (B := B) ha)
      have hlen := leadR_len (R.take k) B
      rw [List.length_take] at hlen
      have hsz := HB.out.size
      unfold encB at d0
      have HAE : Hid (R[k].1 = (frN R[k] : Int)) := Lib.hid h1
      have hfi : (frN R[k] : Int) < (B.length : Int) := by omega
      clear ha h1
      generalize R[k] = a at *
      generalize isAt B (frN a) = q at *
      generalize leadR (R.take k) B = S at *
      have HEQ : Hid (a.1 = (frN a : Int) ∧ a.2.1 = a.2.1 ∧ a.2.2.2 = a.2.2.2) := Lib.hid ⟨HAE.out, rfl, rfl⟩
      obtain ⟨x, hx⟩ : ∃ x, frN a = x := ⟨_, rfl⟩
      obtain ⟨y, hy⟩ : ∃ y, a.2.1 = y := ⟨_, rfl⟩
      obtain ⟨t, ht⟩ : ∃ t, a.2.2.2 = t := ⟨_, rfl⟩
      rw [hx] at c0 d0 hfi HEQ hfB
      rw [hy] at c1
      rw [ht] at c2
      have HE2 : Hid (a.1 = (x : Int) ∧ a.2.1 = y ∧ a.2.2.2 = t) := Lib.hid ⟨HEQ.out.1, hy, ht⟩
      clear hx hy ht HEQ HAE
      subst hlv
      have hroom : S.length ≤ 200000 := by omega
      have d1 := cell_alloc d0 (.cells #[.int .i64 (x : Int), .int .i64 y, .int .i64 t] 64)
      have e0 := cell_new wr #[.int .i64 (x : Int), .int .i64 y, .int .i64 t] 64 0
      have e1 := cell_new wr #[.int .i64 (x : Int), .int .i64 y, .int .i64 t] 64 1
      have e2 := cell_new wr #[.int .i64 (x : Int), .int .i64 y, .int .i64 t] 64 2
      have HBX := Lib.hid (HB.out.alloc hsz (.cells #[.int .i64 (x : Int), .int .i64 y, .int .i64 t] 64))
      have HOX := Lib.hid (HO.out.alloc (.cells #[.int .i64 (x : Int), .int .i64 y, .int .i64 t] 64))
      cases q
      · have HS1 : Hid (leadR (R.take (k + 1)) B = S) := Lib.hid (by rw [HS.out]; simp)
        go_wp2
        go_roundw
        case rel => exact ⟨k + 1, by omega, by go_num, HBX, Lib.hid (by rw [HS1.out]; exact HOX.out)⟩
        case measure => simp [intOf]; omega
      · have HS1 : Hid (leadR (R.take (k + 1)) B = S ++ [a]) := Lib.hid (by rw [HS.out]; simp)
        go_wp2_with (first
          | (at_builtin; refine wpList_append_link rfl _ _ rfl w.heap.size _ S a rfl (HOX.out.alloc (.cells #[.int .i64 (x : Int), .int .i64 y, .int .i64 t] 64)) _ 1 rfl (cells3 _ _ _ (by simp) _ _ _ _ HE2.out) hroom (by simp; omega) ?_; intro g4 cap4 w4 ho4 hg4 hl4 hb4 hlt4; have HO4 := Lib.hid ho4; have HB4 := Lib.hid (below_grown (HBX.out.alloc (by simp; omega) (.cells #[.int .i64 (x : Int), .int .i64 y, .int .i64 t] 64)) (by simp; omega) hg4 (fun g e => own_block HOX.out e)); clear ho4 hg4 hl4))
        go_roundw
        case rel => exact ⟨k + 1, by omega, by go_num, HB4, Lib.hid (by rw [HS1.out]; exact HO4.out)⟩
        case measure => simp [intOf]; omega
    · have hli : ¬ (k : Int) < (R.length : Int) := by omega
      obtain rfl : k = R.length := by omega
      rw [List.take_length] at HO hlv
      subst hlv
      go_wp2
      go_ret
      exact ⟨oa, oc, rfl, HO.out, HB.out⟩
theorem oleading_is (zl zb : Nat) (R : List ArcT) (B : List Bool) (la ba : Option Addr) (lc bc : Nat) (w : World) (hz : R.length = zl) (hzb : B.length = zb) (h : Row encLk 3 w la R) (hB : Lst encB w ba B) (hR : ∀ a ∈ R, a.1 = (frN a : Int) ∧ frN a < B.length) (hl : R.length ≤ 2000) :
    Calls Try.prog 27 #[.slice la zl lc, .slice ba zb bc] w (LinksV (leadR R B) w) := by
  subst hz; subst hzb; exact oleading_any R B la ba lc bc w h hB hR hl
/-! Lists that are filled from the front -/
def partL {α : Type} (l : List α) (z : α) (t : Nat) : List α := l.take t ++ List.replicate (l.length - t) z
theorem partL_zero {α : Type} (l : List α) (z : α) : partL l z 0 = List.replicate l.length z := by simp [partL]
theorem partL_full {α : Type} (l : List α) (z : α) : partL l z l.length = l := by simp [partL]
theorem partL_len {α : Type} (l : List α) (z : α) (t : Nat) (h : t ≤ l.length) : (partL l z t).length = l.length := by simp [partL]; omega
theorem partL_at {α : Type} {l : List α} {z : α} {t : Nat} (h : t < l.length) : (partL l z t)[t]? = some z := by
  unfold partL
  rw [List.getElem?_append_right (by simp; omega), List.length_take, List.getElem?_replicate, if_pos (by omega)]
theorem partL_set {α : Type} {l : List α} {z : α} {t : Nat} (h : t < l.length) : (partL l z t).set t l[t] = partL l z (t + 1) := by
  unfold partL
  rw [List.set_append_right _ _ (by simp; omega), List.length_take, show t - min t l.length = 0 by omega, show l.length - t = (l.length - (t + 1)) + 1 by omega, List.replicate_succ, List.set_cons_zero, List.take_succ_eq_append_getElem h, List.append_assoc]
  rfl
theorem partL_same {α : Type} {l : List α} {z : α} {t : Nat} (h : t < l.length) (e : l[t] = z) : partL l z (t + 1) = partL l z t := by
  unfold partL
  rw [show l.length - t = (l.length - (t + 1)) + 1 by omega, List.replicate_succ, List.take_succ_eq_append_getElem h, e, List.append_assoc]
  rfl
theorem hopsT_get {D : List Int} {t : Nat} (h : t < D.length) : (hopsT D)[t]'(by rw [hopsT_len]; exact h) = if D[t] = -1 then 0 else D[t] * 1048576 := by simp [hopsT]
theorem isLev_get {D : List Int} {t : Nat} (h : t < D.length) : (isLev D)[t]'(by rw [isLev_len]; exact h) = (D[t] != -1) := by simp [isLev]
/-- The two rows of a call's own. -/
structure TwoW (w1 wr : World) (gd gi N : Nat) (P : List Int) (B : List Bool) : Prop where
  below : Below w1.heap.size w1 wr
  dd : OwnL encI wr w1.heap.size 3 (.slice (some ⟨gd, 0, none⟩) N N) P
  ii : OwnL encB wr w1.heap.size 4 (.slice (some ⟨gi, 0, none⟩) N N) B
  ne : gd ≠ gi
section
variable {w1 wr w2 : World} {gd gi N : Nat} {P : List Int} {B : List Bool}
theorem TwoW.lt (h : TwoW w1 wr gd gi N P B) : (w1.heap.size ≤ gd ∧ gd < wr.heap.size) ∧ (w1.heap.size ≤ gi ∧ gi < wr.heap.size) := ⟨own_lt2 h.dd rfl, own_lt2 h.ii rfl⟩
theorem TwoW.next (h : TwoW w1 wr gd gi N P B) (hb : Below wr.heap.size wr w2) : TwoW w1 w2 gd gi N P B := ⟨h.below.trans (hb.mono h.below.size), h.dd.below hb, h.ii.below hb, h.ne⟩
theorem TwoW.upd (h : TwoW w1 wr gd gi N P B) (v : Nat) (y : Int) (q : Bool) : TwoW w1 ((wr.setCell ⟨gd, v, none⟩ (.int .i64 y)).setCell ⟨gi, v, none⟩ (.bool q)) gd gi N (P.set v y) (B.set v q) := by
  have hk1 : Kept (fun i => i = gd) wr (wr.setCell ⟨gd, v, none⟩ (.int .i64 y)) := (Kept.refl (fun i => i = gd) wr).set (.inl rfl) _
  have hk2 : Kept (fun i => i = gi) (wr.setCell ⟨gd, v, none⟩ (.int .i64 y)) ((wr.setCell ⟨gd, v, none⟩ (.int .i64 y)).setCell ⟨gi, v, none⟩ (.bool q)) := (Kept.refl (fun i => i = gi) _).set (.inl rfl) _
  refine ⟨below_set (below_set h.below h.lt.1.1 _) h.lt.2.1 _, ?_, ?_, h.ne⟩
  · refine ownL_kept (h.dd.put v y) hk2 (fun g e => ?_)
    simp [Value.ownBlock] at e
    subst e
    exact h.ne
  · refine (ownL_kept h.ii hk1 (fun g e => ?_)).put v q
    simp [Value.ownBlock] at e
    subst e
    exact fun e => h.ne e.symm
end
theorem two_DI (w1 : World) (N : Nat) (hN : N ≤ 1000) : TwoW w1 ((w1.alloc (.cells (madeCells #[.int .i64 0] N) 3)).alloc (.cells (madeCells #[.bool false] N) 4)) (w1.heap.size) (w1.heap.size + 1) N (List.replicate N 0) (List.replicate N false) :=
  ⟨((Below.refl _ w1).alloc (Nat.le_refl _) _).alloc (by simp) _, (madeI w1 w1.heap.size N (Nat.le_refl _) (by omega)).alloc _, by have := madeB (w1.alloc (.cells (madeCells #[.int .i64 0] N) 3)) w1.heap.size N (by simp) (by omega); simpa using this, by omega⟩
theorem two_ID (w1 : World) (N : Nat) (hN : N ≤ 1000) : TwoW w1 ((w1.alloc (.cells (madeCells #[.bool false] N) 4)).alloc (.cells (madeCells #[.int .i64 0] N) 3)) (w1.heap.size + 1) (w1.heap.size) N (List.replicate N 0) (List.replicate N false) :=
  ⟨((Below.refl _ w1).alloc (Nat.le_refl _) _).alloc (by simp) _, by have := madeI (w1.alloc (.cells (madeCells #[.bool false] N) 4)) w1.heap.size N (by simp) (by omega); simpa using this, (madeB w1 w1.heap.size N (Nat.le_refl _) (by omega)).alloc _, by omega⟩
/-- What bounds tells. -/
def BoundsV (D : List Int) (w : World) (e : Ending) (w' : World) : Prop :=
  ∃ gd gi, e = .returned (.tuple #[.slice (some ⟨gd, 0, none⟩) D.length D.length, .slice (some ⟨gi, 0, none⟩) D.length D.length]) ∧ TwoW w w' gd gi D.length (hopsT D) (isLev D)
set_option maxRecDepth 100000 in
set_option maxHeartbeats 4000000 in
theorem obounds_any (D : List Int) (da : Option Addr) (dc : Nat) (w : World) (hd : Lst encI w da D) (hl : D.length ≤ 50) (hb : ∀ d ∈ D, -1 ≤ d ∧ d ≤ 50) :
    Calls Try.prog 25 #[.slice da D.length dc] w (BoundsV D w) := by
  have HD := Lib.hid hd
  have HBD := Lib.hid hb
  have hmk := fun W => run_make_row' (P := Try.prog) 25 3 (.int .i64 0) 8 Try.underlying25 infoInt rfl .i64 .i64 D.length (by omega) (by omega) W
  have hmk2 := fun W => run_make_row' (P := Try.prog) 26 4 (.bool false) 1 Try.underlying26 infoBool rfl .i64 .i64 D.length (by omega) (by omega) W
  clear hd hb
  go_enter Try.func25, Try.ntmps25
  go_wp2
  go_cut [2, 3] (fun v2 v3 wc => ∃ gd gi, v2 = .slice (some ⟨gd, 0, none⟩) D.length D.length ∧ v3 = .slice (some ⟨gi, 0, none⟩) D.length D.length ∧ Hid (TwoW w wc gd gi D.length (List.replicate D.length 0) (List.replicate D.length false)))
  case first =>
    go_region
    all_goals
      go_wp2
      go_meet
      first
        | exact ⟨_, _, rfl, rfl, Lib.hid ((two_DI _ _ (by omega)).next (below_drew (Below.refl _ _)))⟩
        | exact ⟨_, _, rfl, rfl, Lib.hid ((two_ID _ _ (by omega)).next (below_drew (Below.refl _ _)))⟩
  case rest =>
    obtain ⟨gd, gi, rfl, rfl, HT⟩ := hcut
    clear hmk hmk2
    go_wp2
    go_loopw [14] (fun iv wr => ∃ t : Nat, t ≤ D.length ∧ iv = .int .i64 (t : Int) ∧ Hid (TwoW w wr gd gi D.length (partL (hopsT D) 0 t) (partL (isLev D) false t))) (fun iv _ => D.length - (intOf iv).toNat)
    case atStart => exact ⟨0, Nat.zero_le _, rfl, Lib.hid (by rw [partL_zero, partL_zero, hopsT_len, isLev_len]; exact HT.out)⟩
    case round =>
      clear HT
      obtain ⟨t, ht, rfl, HT⟩ := hrel
      by_cases hlt : t < D.length
      · have hli : (t : Int) < (D.length : Int) := by omega
        have hlh : t < (hopsT D).length := by rw [hopsT_len]; exact hlt
        have hll : t < (isLev D).length := by rw [isLev_len]; exact hlt
        obtain ⟨db, dx, e, hdb, d0⟩ := (HD.out.below HT.out.below) t hlt
        cases e
        obtain ⟨c0, f0⟩ := HT.out.dd.cell (partL_at (z := 0) hlh)
        obtain ⟨c1, f1⟩ := HT.out.ii.cell (partL_at (z := false) hll)
        have hbd := HBD.out _ (List.getElem_mem hlt)
        have hs1 := partL_set (z := 0) hlh
        have hs2 := partL_set (z := false) hll
        have he1 := partL_same (z := 0) hlh
        have he2 := partL_same (z := false) hll
        rw [hopsT_get hlt] at hs1 he1
        rw [isLev_get hlt] at hs2 he2
        unfold encI at d0 c0
        unfold encB at c1
        generalize D[t] = d at *
        have hne : gd ≠ gi := HT.out.ne
        have hne2 : gi ≠ gd := fun e => hne e.symm
        by_cases hd1 : d = -1
        · subst hd1
          have HE1 := Lib.hid (he1 (by simp))
          have HE2 := Lib.hid (he2 (by simp))
          clear hs1 hs2 he1 he2
          go_wp2
          go_roundw
          case rel => exact ⟨t + 1, by omega, by go_num, Lib.hid (by rw [HE1.out, HE2.out]; exact HT.out)⟩
          case measure => simp [intOf]; omega
        · have hdn : (d != -1) = true := by simpa using hd1
          have hwr : IntKind.i64.wrap (d * 1048576) = d * 1048576 := IntWalk.i64_in _ (by omega)
          rw [if_neg hd1] at hs1
          rw [hdn] at hs2
          have HS1 := Lib.hid hs1
          have HS2 := Lib.hid hs2
          have HW := Lib.hid hwr
          clear hs1 hs2 he1 he2 hwr
          have hwr := HW.out
          go_wp2
          go_roundw
          case rel => exact ⟨t + 1, by omega, by go_num, Lib.hid (by rw [← HS1.out, ← HS2.out]; exact HT.out.upd t (d * 1048576) true)⟩
          case measure => simp [intOf]; omega
      · have hli : ¬ (t : Int) < (D.length : Int) := by omega
        obtain rfl : t = D.length := by omega
        have HT2 : Hid (TwoW w wr gd gi D.length (hopsT D) (isLev D)) := Lib.hid (by
          have h1 := partL_full (hopsT D) 0
          have h2 := partL_full (isLev D) false
          rw [hopsT_len] at h1
          rw [isLev_len] at h2
          have := HT.out
          rw [h1, h2] at this
          exact this)
        go_wp2
        go_ret2
        exact ⟨gd, gi, rfl, HT2.out⟩
/-- The program's own test of numbers. -/
def numB (n : Int) (P : List Int) : Bool := decide ((P.length : Int) = n) && potB P
set_option maxRecDepth 100000 in
set_option maxHeartbeats 4000000 in
theorem onumbers_any (P : List Int) (po : Option Addr) (pc : Nat) (n : Int) (w : World) (hp : Lst encI w po P) (hl : P.length ≤ maxLen) :
    Calls Try.prog 33 #[.slice po P.length pc, .int .i64 n] w fun e w' => e = .returned (.bool (numB n P)) ∧ Below w.heap.size w w' := by
  have HP := Lib.hid hp
  have HPI := Lib.hid (potB_iff (P := P))
  have hl2 : P.length ≤ 9223372036854775807 := by unfold maxLen at hl; omega
  clear hp hl
  by_cases hn : (P.length : Int) = n
  · subst hn
    have HNB : Hid (numB (P.length : Int) P = potB P) := Lib.hid (by unfold numB; simp)
    go_enter Try.func33, Try.ntmps33
    go_wp2
    go_loopw [13] (fun iv wr => ∃ v : Nat, v ≤ P.length ∧ iv = .int .i64 (v : Int) ∧ Hid (∀ (u : Nat) (x : Int), u < v → P[u]? = some x → -1099511627776 ≤ x ∧ x ≤ 1099511627776) ∧ wr = w) (fun iv _ => P.length - (intOf iv).toNat)
    case atStart => exact ⟨0, Nat.zero_le _, rfl, Lib.hid (fun u x h => by omega), rfl⟩
    case round =>
      obtain ⟨v, hv, rfl, HA, rfl⟩ := hrel
      by_cases hlt : v < P.length
      · have hli : (v : Int) < (P.length : Int) := by omega
        obtain ⟨pb, px, e, hpb, p0⟩ := HP.out v hlt
        cases e
        have HPV := Lib.hid (List.getElem?_eq_getElem hlt)
        unfold encI at p0
        generalize P[v] = x at *
        by_cases hx1 : x < -1099511627776
        · have hd1 : decide (x < -1099511627776) = true := decide_eq_true hx1
          have HPB : Hid (potB P = false) := Lib.hid (by
            cases hb : potB P with
            | false => rfl
            | true => have := HPI.out.1 hb v x HPV.out; omega)
          go_wp2
          go_ret
          exact ⟨by rw [HNB.out, HPB.out]; rfl, Below.refl _ _⟩
        · have hd1 : decide (x < -1099511627776) = false := decide_eq_false hx1
          by_cases hx2 : x > 1099511627776
          · have hd2 : decide (x > 1099511627776) = true := decide_eq_true hx2
            have HPB : Hid (potB P = false) := Lib.hid (by
              cases hb : potB P with
              | false => rfl
              | true => have := HPI.out.1 hb v x HPV.out; omega)
            go_wp2
            go_ret
            exact ⟨by rw [HNB.out, HPB.out]; rfl, Below.refl _ _⟩
          · have hd2 : decide (x > 1099511627776) = false := decide_eq_false hx2
            have HA2 : Hid (∀ (u : Nat) (y : Int), u < v + 1 → P[u]? = some y → -1099511627776 ≤ y ∧ y ≤ 1099511627776) := Lib.hid (fun u y h1 h2 => by
              by_cases e : u = v
              · subst e
                rw [HPV.out] at h2
                cases h2
                omega
              · exact HA.out u y (by omega) h2)
            go_wp2
            go_roundw
            case rel => exact ⟨v + 1, by omega, by go_num, HA2, by simp⟩
            case measure => simp [intOf]; omega
      · have hli : ¬ (v : Int) < (P.length : Int) := by omega
        obtain rfl : v = P.length := by omega
        have HPB : Hid (potB P = true) := Lib.hid (HPI.out.2 (fun u x h => HA.out u x (List.getElem?_eq_some_iff.1 h).1 h))
        go_wp2
        go_ret
        exact ⟨by rw [HNB.out, HPB.out]; rfl, Below.refl _ _⟩
  · have HNB : Hid (numB n P = false) := Lib.hid (by unfold numB; rw [decide_eq_false hn]; rfl)
    have hf : ((P.length : Int) != n) = true := by simpa using hn
    go_enter Try.func33, Try.ntmps33
    go_wp2
    go_ret
    exact ⟨by rw [HNB.out]; rfl, Below.refl _ _⟩
end Go.Proofs.Ytfklkcnopngpgaa
