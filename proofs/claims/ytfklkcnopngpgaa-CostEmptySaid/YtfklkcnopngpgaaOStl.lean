/- Package cost's isTight, decrease and settle. -/
import Derived.Test.YtfklkcnopngpgaaOBnd
import Derived.BigQuiet
import Derived.Deep.QuietTactic
namespace Go.Proofs.Ytfklkcnopngpgaa
open Go.RowKit
set_option linter.unusedVariables false

set_option maxHeartbeats 2000000 in
theorem oistight_at (P : List Int) (po : Option Addr) (pc : Nat) (a : ArcT) (u : Nat) (w : World) (hp : Lst encI w po P) (h1 : a.1 = (frN a : Int)) (h2 : a.2.1 = (toN a : Int)) (hx : frN a < P.length) (hy : toN a < P.length) (hb : BdI P u) (hu : u ≤ 1000000) (ht : -1073741824 ≤ tm a ∧ tm a ≤ 1073741824) :
    Calls Try.prog 34 #[.agg #[.int .i64 a.1, .int .i64 a.2.1, .int .i64 a.2.2.2], .slice po P.length pc] w fun e w' => e = .returned (.bool (tightA P a)) ∧ Below w.heap.size w w' := by
  have hbx := hb (frN a)
  have hby := hb (toN a)
  rw [h1, h2, show a.2.2.2 = tm a from rfl]
  obtain ⟨pb, px, e, hpb, p0⟩ := lst_cell hp (atI_get hx)
  subst e
  obtain ⟨pb2, px2, e, hpb2, p1⟩ := lst_cell hp (atI_get hy)
  cases e
  have hta : tightA P a = decide (atI P (toN a) ≤ atI P (frN a) + tm a) := rfl
  rw [hta]
  unfold encI at p0 p1
  clear hp hb hta h1 h2
  generalize atI P (frN a) = fx at *
  generalize atI P (toN a) = fy at *
  generalize tm a = t at *
  generalize frN a = x at *
  generalize toN a = y at *
  have hxi : (x : Int) < (P.length : Int) := by omega
  have hyi : (y : Int) < (P.length : Int) := by omega
  have hwr : IntKind.i64.wrap (fx + t) = fx + t := IntWalk.i64_in _ (by omega)
  have e0 := cell_alloc p0 (.cells #[.int .i64 (x : Int), .int .i64 (y : Int), .int .i64 t] 64)
  have e1 := cell_alloc p1 (.cells #[.int .i64 (x : Int), .int .i64 (y : Int), .int .i64 t] 64)
  have HB := Lib.hid ((Below.refl _ w).alloc (Nat.le_refl _) (.cells #[.int .i64 (x : Int), .int .i64 (y : Int), .int .i64 t] 64))
  have c0 := cell_new w #[.int .i64 (x : Int), .int .i64 (y : Int), .int .i64 t] 64 0
  have c1 := cell_new w #[.int .i64 (x : Int), .int .i64 (y : Int), .int .i64 t] 64 1
  have c2 := cell_new w #[.int .i64 (x : Int), .int .i64 (y : Int), .int .i64 t] 64 2
  go_enter Try.func34, Try.ntmps34
  go_wp2
  go_quiet (fail)
  go_wp2
  go_ret
  exact ⟨rfl, below_drewN HB.out _⟩
theorem oistight_is (q : Bool) (N : Nat) (P : List Int) (po : Option Addr) (pc : Nat) (a : ArcT) (u : Nat) (w : World) (hN : P.length = N) (hp : Lst encI w po P) (h1 : a.1 = (frN a : Int)) (h2 : a.2.1 = (toN a : Int)) (hx : frN a < N) (hy : toN a < N) (hb : BdI P u) (hu : u ≤ 1000000) (ht : -1073741824 ≤ tm a ∧ tm a ≤ 1073741824) (hq : tightA P a = q) :
    Calls Try.prog 34 #[.agg #[.int .i64 a.1, .int .i64 a.2.1, .int .i64 a.2.2.2], .slice po N pc] w fun e w' => e = .returned (.bool q) ∧ Below w.heap.size w w' := by
  subst hq; subst hN; exact oistight_at P po pc a u w hp h1 h2 hx hy hb hu ht
/-- The times that are a call's to write, and the steps. -/
structure TW (w0 w : World) (B gd N : Nat) (P : List Int) (la : Option Addr) (R : List ArcT) : Prop where
  len : P.length = N
  own : OwnL encI w B 3 (.slice (some ⟨gd, 0, none⟩) N N) P
  row : Row encLk 3 w la R
  off : ∀ ad, la = some ad → 0 < R.length → ad.block ≠ gd
  kept : Kept (fun i => i = gd) w0 w
section
variable {w0 w w2 : World} {B gd N : Nat} {P : List Int} {la : Option Addr} {R : List ArcT}
theorem TW.next (h : TW w0 w B gd N P la R) (hb : Below w.heap.size w w2) : TW w0 w2 B gd N P la R :=
  ⟨h.len, h.own.below hb, h.row.below' hb, h.off, h.kept.trans (Kept.of_below (S := fun i => i = gd) hb) (fun i _ e => e)⟩
theorem TW.lt (h : TW w0 w B gd N P la R) : gd < w.heap.size := (own_lt2 h.own rfl).2
theorem TW.upd (h : TW w0 w B gd N P la R) (v : Nat) (y : Int) : TW w0 (w.setCell ⟨gd, v, none⟩ (.int .i64 y)) B gd N (P.set v y) la R := by
  have hk : Kept (fun i => i = gd) w (w.setCell ⟨gd, v, none⟩ (.int .i64 y)) := (Kept.refl (fun i => i = gd) w).set (.inl rfl) _
  exact ⟨by rw [List.length_set]; exact h.len, h.own.put v y, rowOffO h.row hk (fun ad e hl => h.off ad e hl), h.off, h.kept.set (.inl rfl) _⟩
theorem TW.time (h : TW w0 w B gd N P la R) {v : Nat} (hv : v < N) : w.cell? ⟨gd, v, none⟩ = some (.int .i64 (atI P v)) ∧ w.frozen? ⟨gd, v, none⟩ = false := h.own.cell (atI_get (by rw [h.len]; exact hv))
theorem TW.lst (h : TW w0 w B gd N P la R) : Lst encI w (some ⟨gd, 0, none⟩) P := h.own.lstK
theorem TW.drop (h : TW w0 w B gd N P la R) {lb lx k : Nat} (e : la = some ⟨lb, lx, none⟩) (hk : k ≤ R.length) : TW w w B gd N P (some ⟨lb, lx + k * 3, none⟩) (R.drop k) := by
  refine ⟨h.len, h.own, fun i hi => ?_, fun ad e2 hl => ?_, Kept.refl _ _⟩
  · rw [List.length_drop] at hi
    obtain ⟨b, o, e3, hb, hc⟩ := h.row (k + i) (by omega)
    rw [e] at e3
    cases e3
    refine ⟨lb, lx + k * 3, rfl, hb, fun j hj => ?_⟩
    rw [List.getElem_drop, show lx + k * 3 + i * 3 + j = lx + (k + i) * 3 + j by omega]
    exact hc j hj
  · cases e2
    rw [List.length_drop] at hl
    exact h.off ⟨lb, lx, none⟩ e (by omega)
theorem TW.back (h : TW w0 w B gd N P la R) {P2 : List Int} {lb : Option Addr} {R2 : List ArcT} (k : TW w w2 B gd N P2 lb R2) : TW w0 w2 B gd N P2 la R :=
  ⟨k.len, k.own, rowOffO h.row k.kept (fun ad e hl => h.off ad e hl), h.off, h.kept.trans k.kept (fun i _ e => e)⟩
end
/-- A step's ends and time. -/
def LinkOk (N : Nat) (a : ArcT) : Prop := (a.1 = (frN a : Int) ∧ a.2.1 = (toN a : Int)) ∧ (frN a < N ∧ toN a < N) ∧ -1073741824 ≤ tm a ∧ tm a ≤ 1073741824
set_option maxRecDepth 100000 in
set_option maxHeartbeats 4000000 in
theorem odecrease_at (B gd N : Nat) (P : List Int) (la : Option Addr) (lc : Nat) (R : List ArcT) (u : Nat) (w : World) (h : TW w w B gd N P la R) (hR : ∀ a ∈ R, LinkOk N a) (hN : N ≤ 1000) (hl : R.length ≤ 2000) (hb : BdI P u) (hu : u ≤ 900000) :
    Calls Try.prog 41 #[.slice (some ⟨gd, 0, none⟩) N N, .slice la R.length lc] w fun e w' => e = .returned (.tuple #[]) ∧ TW w w' B gd N (relAllI P R) la R := by
  have H := Lib.hid h
  have HA := Lib.hid hR
  have HBD := Lib.hid hb
  clear h hR hb
  go_enter Try.func41, Try.ntmps41
  go_wp2
  go_loopw [8] (fun iv wr => ∃ i : Nat, i ≤ R.length ∧ iv = .int .i64 (i : Int) ∧ Hid (TW w wr B gd N (relAllI P (R.take i)) la R) ∧ Hid (BdI (relAllI P (R.take i)) (u + i))) (fun iv _ => R.length - (intOf iv).toNat)
  case atStart => exact ⟨0, Nat.zero_le _, rfl, H, HBD⟩
  case round =>
    clear H HBD
    obtain ⟨i, hi, rfl, H, HBD⟩ := hrel
    by_cases hlt : i < R.length
    · have hli : (i : Int) < (R.length : Int) := by omega
      have ha : R[i]? = some R[i] := List.getElem?_eq_getElem hlt
      obtain ⟨⟨h1, h2⟩, ⟨hf, ht⟩, hti⟩ := HA.out _ (List.mem_of_getElem? ha)
      obtain ⟨lb, lx, e, hlb, c0, c1, c2⟩ := link_at H.out.row ha
      cases e
      rw [h1] at c0
      rw [h2] at c1
      rw [show R[i].2.2.2 = tm R[i] from rfl] at c2
      have hst : relAllI P (R.take (i + 1)) = relI (relAllI P (R.take i)) R[i] := by
        rw [List.take_succ_eq_append_getElem hlt, relAllI_snoc]
      have hbn : BdI (relAllI P (R.take (i + 1))) (u + (i + 1)) := by
        rw [hst]
        exact HBD.out.rel hti (by rw [H.out.len]; exact ht)
      have hrl : relI (relAllI P (R.take i)) R[i] = (relAllI P (R.take i)).set (toN R[i]) (min (atI (relAllI P (R.take i)) (toN R[i])) (atI (relAllI P (R.take i)) (frN R[i]) + tm R[i])) := rfl
      rw [hrl, show min (atI (relAllI P (R.take i)) (toN R[i])) (atI (relAllI P (R.take i)) (frN R[i]) + tm R[i]) = if atI (relAllI P (R.take i)) (frN R[i]) + tm R[i] < atI (relAllI P (R.take i)) (toN R[i]) then atI (relAllI P (R.take i)) (frN R[i]) + tm R[i] else atI (relAllI P (R.take i)) (toN R[i]) by split <;> omega] at hst
      have HST := Lib.hid hst
      have HBN := Lib.hid hbn
      obtain ⟨t0, f0⟩ := H.out.time hf
      obtain ⟨t1, f1⟩ := H.out.time ht
      have hbx := HBD.out (frN R[i])
      have hby := HBD.out (toN R[i])
      clear h1 h2 ha hst hbn hrl
      generalize R[i] = a at *
      generalize relAllI P (R.take i) = P1 at *
      generalize atI P1 (frN a) = fx at *
      generalize atI P1 (toN a) = fy at *
      generalize tm a = t at *
      generalize frN a = x at *
      generalize toN a = y at *
      have hxi : (x : Int) < (N : Int) := by omega
      have hyi : (y : Int) < (N : Int) := by omega
      have hwr : IntKind.i64.wrap (fx + t) = fx + t := IntWalk.i64_in _ (by omega)
      have HX := Lib.hid (H.out.next ((Below.refl _ wr).alloc (Nat.le_refl _) (.cells #[.int .i64 (x : Int), .int .i64 (y : Int), .int .i64 t] 64)))
      have x0 := cell_new wr #[.int .i64 (x : Int), .int .i64 (y : Int), .int .i64 t] 64 0
      have x1 := cell_new wr #[.int .i64 (x : Int), .int .i64 (y : Int), .int .i64 t] 64 1
      have x2 := cell_new wr #[.int .i64 (x : Int), .int .i64 (y : Int), .int .i64 t] 64 2
      have t0 := cell_alloc t0 (.cells #[.int .i64 (x : Int), .int .i64 (y : Int), .int .i64 t] 64)
      have t1 := cell_alloc t1 (.cells #[.int .i64 (x : Int), .int .i64 (y : Int), .int .i64 t] 64)
      have f1 := (HX.out.time ht).2
      go_wp2_with fail
      clear c0 c1 c2 H f0
      generalize wr.alloc (.cells #[.int .i64 (x : Int), .int .i64 (y : Int), .int .i64 t] 64) = wx at *
      go_region
      all_goals
        go_wp2
        go_roundw
        case rel => exact ⟨i + 1, by omega, by go_num, Lib.hid (by rw [HST.out]; exact (HX.out.upd y (if fx + t < fy then fx + t else fy)).next (below_drew (Below.refl _ _))), HBN⟩
        case measure => simp [intOf]; omega
    · have hli : ¬ (i : Int) < (R.length : Int) := by omega
      obtain rfl : i = R.length := by omega
      have H2 := H.out
      rw [List.take_length] at H2
      have HH := Lib.hid H2
      clear H2
      go_wp2
      refine bodyPost_end (results_none rfl _ _ _) rfl ?_
      exact ⟨rfl, HH.out⟩
theorem odecrease_is (zl : Nat) (B gd N : Nat) (P : List Int) (la : Option Addr) (lc : Nat) (R : List ArcT) (u : Nat) (w : World) (hz : R.length = zl) (h : TW w w B gd N P la R) (hR : ∀ a ∈ R, LinkOk N a) (hN : N ≤ 1000) (hl : R.length ≤ 2000) (hb : BdI P u) (hu : u ≤ 900000) :
    Calls Try.prog 41 #[.slice (some ⟨gd, 0, none⟩) N N, .slice la zl lc] w fun e w' => e = .returned (.tuple #[]) ∧ TW w w' B gd N (relAllI P R) la R := by
  subst hz; exact odecrease_at B gd N P la lc R u w h hR hN hl hb hu
set_option maxRecDepth 100000 in
set_option maxHeartbeats 4000000 in
theorem osettle_at (B gd N : Nat) (P : List Int) (la : Option Addr) (lc : Nat) (R : List ArcT) (u : Nat) (w : World) (h : TW w w B gd N P la R) (hR : ∀ a ∈ R, LinkOk N a) (hN : N ≤ 100) (hl : R.length ≤ 2000) (hlc : R.length ≤ lc) (hb : BdI P u) (hu : u ≤ 1000) :
    Calls Try.prog 26 #[.slice (some ⟨gd, 0, none⟩) N N, .slice la R.length lc] w fun e w' => ∃ q Q, e = .returned (.bool q) ∧ SetIs R P q Q ∧ TW w w' B gd N Q la R := by
  have H := Lib.hid h
  have HA := Lib.hid hR
  have HLN := Lib.hid h.len
  have HBD := Lib.hid (fun k => hb.it (R := R) (fun a ha => ⟨(hR a ha).2.2, by rw [h.len]; exact (hR a ha).2.1.2⟩) k)
  clear h hR hb
  go_enter Try.func26, Try.ntmps26
  go_wp2
  go_step3
  go_wp2
  go_step3
  go_wp2
  go_loopg [9] (N + 1) (fun k iv wr => ∃ m : Nat, m ≤ N ∧ iv = .int .i64 (m : Int) ∧ Hid (k = N + 1 - m) ∧ Hid (TW w wr B gd N (itI R P m) la R) ∧ Hid (∀ j, j < m → ∃ a ∈ R, tightA (itI R P j) a = false))
  case atStart => exact ⟨0, Nat.zero_le _, rfl, Lib.hid rfl, H, Lib.hid (fun j h => by omega)⟩
  case round =>
    clear H
    obtain ⟨m, hm, rfl, HK, H, HF⟩ := hrel
    obtain ⟨gk0, hgk⟩ : ∃ gk0, gk0 = gk := ⟨_, rfl⟩
    subst hgk
    by_cases hmN : m < N
    · have hmi : (m : Int) < (N : Int) := by omega
      have HBM := Lib.hid (HBD.out m)
      have HKL : Hid (m * R.length ≤ 200000) := Lib.hid (Nat.mul_le_mul (by omega : m ≤ 100) hl)
      have HLP : Hid ((itI R P m).length = N) := Lib.hid (by rw [itI_len]; exact HLN.out)
      have HNX : Hid (itI R P (m + 1) = relAllI (itI R P m) R) := Lib.hid rfl
      obtain ⟨P1, hp1⟩ : ∃ P1, itI R P m = P1 := ⟨_, rfl⟩
      rw [hp1] at HBM HLP HNX H
      have HP1 := Lib.hid hp1
      clear hp1
      go_wp2
      go_loopg [13] (R.length + 1) (fun k jv wi => ∃ i : Nat, i ≤ R.length ∧ jv = .int .i64 (i : Int) ∧ Hid (k = R.length + 1 - i) ∧ Hid (TW w wi B gd N P1 la R) ∧ Hid (∀ a ∈ R.take i, tightA P1 a = true))
      case atStart => exact ⟨0, Nat.zero_le _, rfl, Lib.hid rfl, H, Lib.hid (fun a ha => by simp at ha)⟩
      case round =>
        clear H
        obtain ⟨i, hi, rfl, HK2, H, HT⟩ := hrel
        by_cases hlt : i < R.length
        · have hli : (i : Int) < (R.length : Int) := by omega
          have ha : R[i]? = some R[i] := List.getElem?_eq_getElem hlt
          have HOK := Lib.hid (HA.out _ (List.mem_of_getElem? ha))
          obtain ⟨lb, lx, e, hlb, c0, c1, c2⟩ := link_at H.out.row ha
          cases e
          have HAI := Lib.hid ha
          have HTK : Hid (R.take (i + 1) = R.take i ++ [R[i]]) := Lib.hid (List.take_succ_eq_append_getElem hlt)
          have HMEM : Hid (R[i] ∈ R) := Lib.hid (List.getElem_mem hlt)
          have hu2 : u + m * R.length ≤ 300000 := by have := HKL.out; omega
          obtain ⟨q, hq⟩ : ∃ q, tightA P1 R[i] = q := ⟨_, rfl⟩
          have HQ := Lib.hid hq
          have HX := Lib.hid (H.out.next ((Below.refl _ wr).alloc (Nat.le_refl _) (.cells #[.int .i64 R[i].1, .int .i64 R[i].2.1, .int .i64 R[i].2.2.2] 64)))
          clear ha hq
          generalize R[i] = a at *
          cases q
          · have hlci : ¬ lc = i := by omega
            have HU : Hid (∃ a ∈ R, tightA P1 a = false) := Lib.hid ⟨a, HMEM.out, HQ.out⟩
            have HDR : Hid (relAllI P1 (R.drop i) = itI R P (m + 1)) := Lib.hid (by rw [HNX.out]; exact relAllI_drop HT.out)
            have HDL : Hid ((R.drop i).length = R.length - i) := Lib.hid (List.length_drop)
            have HLD : Hid (∀ a ∈ R.drop i, LinkOk N a) := Lib.hid (fun a ha => HA.out a (List.mem_of_mem_drop ha))
            go_wp2_with (first
              | (go_at_call 34; refine (oistight_is false N P1 (some ⟨gd, 0, none⟩) N a (u + m * R.length) _ HLP.out HX.out.lst HOK.out.1.1 HOK.out.1.2 HOK.out.2.1.1 HOK.out.2.1.2 HBM.out (by omega) HOK.out.2.2 HQ.out).mono ?_; rintro e w5 ⟨rfl, hb5⟩; have HX5 := Lib.hid (HX.out.next hb5); clear hb5)
              | (go_at_call 41; refine (odecrease_is (R.length - i) B gd N P1 (some ⟨lb, lx + i * 3, none⟩) (lc - i) (R.drop i) (u + m * R.length) _ HDL.out (HX5.out.drop rfl hi) HLD.out (by omega) (by rw [HDL.out]; omega) HBM.out (by omega)).mono ?_; rintro e w6 ⟨rfl, hk6⟩; rw [HDR.out] at hk6; have HX6 := Lib.hid (HX5.out.back hk6); clear hk6))
            go_roundg (N + 1 - (m + 1))
            case measure => have := HK.out; omega
            case rel => exact ⟨m + 1, by omega, by go_num, Lib.hid rfl, HX6, Lib.hid (fun j hj => by
              by_cases e : j = m
              · subst e; rw [HP1.out]; exact HU.out
              · exact HF.out j (by omega))⟩
          · have HT2 : Hid (∀ b ∈ R.take (i + 1), tightA P1 b = true) := Lib.hid (fun b hb => by
              rw [HTK.out] at hb
              rcases List.mem_append.1 hb with hb | hb
              · exact HT.out b hb
              · rw [List.mem_singleton] at hb; subst hb; exact HQ.out)
            go_wp2_with (first
              | (go_at_call 34; refine (oistight_is true N P1 (some ⟨gd, 0, none⟩) N a (u + m * R.length) _ HLP.out HX.out.lst HOK.out.1.1 HOK.out.1.2 HOK.out.2.1.1 HOK.out.2.1.2 HBM.out (by omega) HOK.out.2.2 HQ.out).mono ?_; rintro e w5 ⟨rfl, hb5⟩; have HX5 := Lib.hid (HX.out.next hb5); clear hb5))
            go_roundg (R.length + 1 - (i + 1))
            case measure => have := HK2.out; omega
            case rel => exact ⟨i + 1, by omega, by go_num, Lib.hid rfl, HX5, HT2⟩
        · have hli : ¬ (i : Int) < (R.length : Int) := by omega
          obtain rfl : i = R.length := by omega
          have HT2 : Hid (∀ b ∈ R, tightA P1 b = true) := Lib.hid (by have := HT.out; rwa [List.take_length] at this)
          go_wp2
          try rw [Exit.noGoto_ret]
          go_ret
          exact ⟨true, P1, rfl, ⟨m, by rw [HLN.out]; exact hm, HP1.out.symm, fun _ => HT2.out, fun h => by cases h⟩, H.out⟩
    · have hmi : ¬ (m : Int) < (N : Int) := by omega
      obtain rfl : m = N := by omega
      go_wp2
      try rw [Exit.noGoto_ret]
      go_ret
      exact ⟨false, _, rfl, ⟨m, by rw [HLN.out]; exact Nat.le_refl _, rfl, (fun h => by cases h), fun _ j hj => HF.out j (by rw [HLN.out] at hj; exact hj)⟩, H.out⟩
end Go.Proofs.Ytfklkcnopngpgaa
