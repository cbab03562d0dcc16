/- Lemmas of the layers below, several texts in one. -/
import Derived.Test.YtlkbohpnlbfopaaGreatBX
import Derived.Test.YtlkbohpnlbfopaaGreatBU
import Derived.Test.YtlkbohpnlbfopaaGreatHAwk
namespace Go.Proofs.YtlkbohpnlbfopaaGreat
open Go.RowKit
set_option linter.unusedVariables false
abbrev KindT := Bool × Bool × Int × Int × Int
def encD (x : KindT) : List Value := [.bool x.1, .bool x.2.1, .int .i64 x.2.2.1, .int .i64 x.2.2.2.1, .int .i64 x.2.2.2.2]
theorem encD_len (x : KindT) : (encD x).length = 5 := rfl
theorem encD_one (x : KindT) : ∀ u ∈ encD x, u.oneCell' = true := by intro u hu; simp [encD] at hu; rcases hu with rfl | rfl | rfl | rfl | rfl <;> rfl
theorem infoKind : (Tryz.prog.info? 109).map (fun i => (i.zero, i.size, i.bytes)) = some (some (.agg #[.bool false, .bool false, .int .i64 0, .int .i64 0, .int .i64 0]), 5, 32) := by kernel_rfl
def kdD (s t : Nat) : Kd → KindT
  | (0, i, u) => (true, false, (i : Int), 0, (u : Int))
  | (1, v, u) => (false, true, 0, (v : Int), (u : Int))
  | (2, _, u) => (false, false, 0, (s : Int), (u : Int))
  | (_ + 3, _, u) => (false, false, 0, (t : Int), (u : Int))
structure AK (w0 w : World) (ov kv : Value) (A : List ArcT) (L : List KindT) : Prop where
  low : Below w0.heap.size w0 w
  ro : w.ownsRow w0.heap.size 42 4 ov A.length (A.flatMap encA)
  rk : w.ownsRow w0.heap.size 109 5 kv L.length (L.flatMap encD)
section
variable {w0 w w' : World} {ov kv : Value} {A : List ArcT} {L : List KindT}
theorem AK.next (h : AK w0 w ov kv A L) (hb : Below w.heap.size w w') : AK w0 w' ov kv A L := ⟨h.low.trans (hb.mono h.low.size), own_below h.ro hb, own_below h.rk hb⟩
theorem AK.addA (h : AK w0 w ov kv A L) {v' : Value} {x : ArcT} (ho : w'.ownsRow w0.heap.size 42 4 v' (A ++ [x]).length ((A ++ [x]).flatMap encA)) (hg : w.grownBy w' ov.ownBlock) : AK w0 w' v' kv (A ++ [x]) L :=
  ⟨h.low.grown hg h.low.size (fun g e => own_block h.ro e), ho, own_old h.rk (fun g e => hg.block g (own_lt h.rk e) (fun e2 => own_apart h.rk h.ro (by decide) e e2.symm))⟩
theorem AK.addK (h : AK w0 w ov kv A L) {v' : Value} {x : KindT} (ho : w'.ownsRow w0.heap.size 109 5 v' (L ++ [x]).length ((L ++ [x]).flatMap encD)) (hg : w.grownBy w' kv.ownBlock) : AK w0 w' ov v' A (L ++ [x]) :=
  ⟨h.low.grown hg h.low.size (fun g e => own_block h.rk e), own_old h.ro (fun g e => hg.block g (own_lt h.ro e) (fun e2 => own_apart h.ro h.rk (by decide) e e2.symm)), ho⟩
end
theorem wtK_none {E : Exp} {u : Nat} (h : ∀ v, E.wok v u = false) : ∀ i, E.wtK u i = []
  | 0 => rfl
  | i + 1 => by
    show E.wtK u i ++ (if E.wok i u then [Kd.wt i u] else []) = []
    rw [wtK_none h i, h i]; rfl
def arcsK (E : Exp) (K : List Kd) : List ArcT := K.map E.arcKd
def kdsK (E : Exp) (K : List Kd) : List KindT := K.map (kdD E.s E.t)
theorem arcsK_snoc (E : Exp) (K : List Kd) (k : Kd) : arcsK E (K ++ [k]) = arcsK E K ++ [E.arcKd k] := by simp [arcsK]
theorem kdsK_snoc (E : Exp) (K : List Kd) (k : Kd) : kdsK E (K ++ [k]) = kdsK E K ++ [kdD E.s E.t k] := by simp [kdsK]
theorem arcsK_len (E : Exp) (K : List Kd) : (arcsK E K).length = K.length := by simp [arcsK]
theorem kdsK_len (E : Exp) (K : List Kd) : (kdsK E K).length = K.length := by simp [kdsK]
set_option maxRecDepth 100000 in
set_option maxHeartbeats 16000000 in
theorem rarcs15_any (E : Exp) (ao : Option Addr) (nl cap : Nat) (w : World) (h : Row encA 4 w ao E.Z) (hl : E.Z.length = nl) (hW : SpanNet E.Z E.N) (hH : E.H ≤ 1024) (hs : E.s < E.N) (ht : E.t < E.N) (hm1 : (E.H + 1) * E.N ≤ 4000) (hm2 : (E.H + 1) * nl ≤ 10000) :
    Calls Tryz.prog 33 #[.agg #[.int .i64 (E.N : Int), .bool E.hold, .slice ao nl cap], .int .i64 (E.s : Int), .int .i64 (E.t : Int), .int .i64 (E.H : Int)] w fun e w' => ∃ ov kv, e = .returned (.tuple #[ov, kv]) ∧ AK w w' ov kv (arcsK E E.kinds) (kdsK E E.kinds) := by
  have hN : E.N ≤ 50 := hW.nodes
  have hnl : nl ≤ 200 := by rw [← hl]; exact hW.len
  have hb00 := (Below.refl _ w).alloc (Nat.le_refl _) (.cells #[.int .i64 (E.N : Int), .bool E.hold, .slice ao nl cap] 27)
  have hn00 := heap_alloc_new w (.cells #[.int .i64 (E.N : Int), .bool E.hold, .slice ao nl cap] 27)
  have HN := Lib.hid hn00
  have HR := Lib.hid (h.below' hb00)
  have HB00 := Lib.hid hb00
  have HAK : Hid (AK (w.alloc (.cells #[.int .i64 (E.N : Int), .bool E.hold, .slice ao nl cap] 27)) (w.alloc (.cells #[.int .i64 (E.N : Int), .bool E.hold, .slice ao nl cap] 27)) (.slice none 0 0) (.slice none 0 0) (arcsK E []) (kdsK E [])) := Lib.hid ⟨Below.refl _ _, World.ownsRow_nil _ _ _ _, World.ownsRow_nil _ _ _ _⟩
  have HL := Lib.hid hl
  have HW := Lib.hid hW
  have c0 := cell_whole hn00 0
  have c1 := cell_whole hn00 1
  have c2 := cell_whole hn00 2
  obtain ⟨nn, hnn⟩ : ∃ nn, E.N = nn := ⟨_, rfl⟩
  obtain ⟨hh, hhh⟩ : ∃ hh, E.H = hh := ⟨_, rfl⟩
  obtain ⟨ss, hss⟩ : ∃ ss, E.s = ss := ⟨_, rfl⟩
  obtain ⟨tt, htt⟩ : ∃ tt, E.t = tt := ⟨_, rfl⟩
  obtain ⟨hold, hho⟩ : ∃ hold, E.hold = hold := ⟨_, rfl⟩
  rw [hnn, hho] at HN HAK HR HB00 c0 c1 c2
  rw [hnn] at hN hs ht
  rw [hhh] at hH
  rw [hnn, hhh] at hm1
  rw [hhh] at hm2
  have HM1 := Lib.hid hm1
  have HM2 := Lib.hid hm2
  clear hm1 hm2
  rw [hss] at hs
  rw [htt] at ht
  rw [hnn, hhh, hss, htt, hho]
  have HNN := Lib.hid hnn
  have HHH := Lib.hid hhh
  have HSS := Lib.hid hss
  have HTT := Lib.hid htt
  have HHO := Lib.hid hho
  have hw0 : IntKind.i64.wrap ((hh : Int) + 1) = (hh : Int) + 1 := IntWalk.i64_in _ (by omega)
  clear h hb00 hn00 hl hW hnn hhh hss htt hho
  go_enter Tryz.func33, Tryz.ntmps33
  go_wp2_with fail
  generalize w.alloc (.cells #[.int .i64 (nn : Int), .bool hold, .slice ao nl cap] 27) = w1 at *
  obtain ⟨g0, hg0⟩ : ∃ g0, w.heap.size = g0 := ⟨_, rfl⟩
  rw [hg0] at HN c0 c1 c2 ⊢
  have HG0 := Lib.hid hg0
  clear c0 c1 c2 hg0
  go_loopw [10, 11, 13] (fun ov kv iv wr => ∃ u : Nat, u ≤ hh + 1 ∧ iv = .int .i64 (u : Int) ∧ Hid ((E.timeK u).length ≤ u * nl + u * nn) ∧ Hid (AK w1 wr ov kv (arcsK E (E.timeK u)) (kdsK E (E.timeK u)))) (fun _ _ iv _ => hh + 1 - (intOf iv).toNat)
  case atStart => exact ⟨0, Nat.zero_le _, rfl, Lib.hid (by simp [Exp.timeK]), HAK⟩
  case round =>
    obtain ⟨u, hu, rfl, HLN, HX⟩ := hrel
    have hn := kept_box HN.out HX.out.low
    have n0 := cell_whole hn 0
    have n1 := cell_whole hn 1
    have n2 := cell_whole hn 2
    clear hn
    by_cases hlt : u < hh + 1
    · have hli : (u : Int) ≤ (hh : Int) := by omega
      have hbu : u * nl ≤ 10000 ∧ u * nn ≤ 4000 := ⟨Nat.le_trans (rise_le hu) HM2.out, Nat.le_trans (rise_le hu) HM1.out⟩
      have HBU := Lib.hid hbu
      have HT0 := HX
      clear hbu HX
      obtain ⟨T0, hT0⟩ : ∃ T0, E.timeK u = T0 := ⟨_, rfl⟩
      rw [hT0] at HLN HT0
      have HTT0 := Lib.hid hT0
      clear hT0
      go_wp2_with fail
      go_loopw [10, 11, 14] (fun ov kv iv wr => ∃ i : Nat, i ≤ nl ∧ iv = .int .i64 (i : Int) ∧ Hid ((T0 ++ E.mvK u i).length ≤ T0.length + i) ∧ Hid (AK w1 wr ov kv (arcsK E (T0 ++ E.mvK u i)) (kdsK E (T0 ++ E.mvK u i)))) (fun _ _ iv _ => nl - (intOf iv).toNat)
      case atStart => exact ⟨0, Nat.zero_le _, rfl, Lib.hid (by simp [Exp.mvK]), Lib.hid (by rw [show E.mvK u 0 = [] from rfl, List.append_nil]; exact HT0.out)⟩
      case round =>
        obtain ⟨i, hi, rfl, HLK, HX⟩ := hrel
        have hn := kept_box HN.out HX.out.low
        have m0 := cell_whole hn 0
        have m1 := cell_whole hn 1
        have m2 := cell_whole hn 2
        clear hn
        by_cases hlti : i < nl
        · have hlii : (i : Int) < (nl : Int) := by omega
          have hlz : i < E.Z.length := by rw [HL.out]; exact hlti
          obtain ⟨ab, ax, e, hab, d0, d1, d2, d3⟩ := arc_at (HR.out.below' HX.out.low) (List.getElem?_eq_getElem hlz)
          cases e
          have HA := Lib.hid (List.getElem?_eq_getElem hlz)
          have hae := HW.out.ends _ (List.getElem_mem hlz)
          have hac := HW.out.lt _ (List.getElem_mem hlz)
          have hat := HW.out.times _ (List.getElem_mem hlz)
          generalize E.Z[i] = a at *
          have HOK := Lib.hid (ok_at (u := u) HA.out hae.1 hae.2 hat.1)
          have HAR := Lib.hid (arc_at15 (u := u) HA.out hae.1 hae.2 hat.1)
          have HSUC : Hid (T0 ++ E.mvK u (i + 1) = (T0 ++ E.mvK u i) ++ if E.ok i u = true then [Kd.mv i u] else []) := Lib.hid (by
            show T0 ++ (E.mvK u i ++ if E.ok i u = true then [Kd.mv i u] else []) = _
            rw [List.append_assoc])
          obtain ⟨f, hf⟩ : ∃ f, E.ok i u = f := ⟨_, rfl⟩
          rw [hf] at HOK HSUC
          have hac1 : frN a < nn := by have := hac.1; rw [HNN.out] at this; exact this
          have hac2 : toN a < nn := by have := hac.2; rw [HNN.out] at this; exact this
          have hx1 := hae.1
          have hx2 := hae.2
          have hb1 : 0 ≤ a.1 ∧ a.1 ≤ 50 := by omega
          have hb2 : 0 ≤ a.2.1 ∧ a.2.1 ≤ 50 := by omega
          have hb3 : 0 ≤ a.2.2.2 ∧ a.2.2.2 ≤ 1048576 := by unfold tm at hat; exact hat
          rw [HNN.out] at HAR
          rw [HSS.out, HTT.out, HHH.out] at HOK
          have hokf : f = true → a.2.1 ≠ (ss : Int) ∧ a.1 ≠ (tt : Int) ∧ (u : Int) + a.2.2.2 ≤ (hh : Int) := fun e => by rw [← HOK.out, decide_eq_true_eq] at e; exact e
          have hokn : f = false → ¬ (a.2.1 ≠ (ss : Int) ∧ a.1 ≠ (tt : Int) ∧ (u : Int) + a.2.2.2 ≤ (hh : Int)) := fun e => by rw [← HOK.out, decide_eq_false_iff_not] at e; exact e
          generalize T0 ++ E.mvK u i = K at *
          obtain ⟨x, y, k, d⟩ := a
          simp only at d0 d1 d2 d3 HOK HAR hb1 hb2 hb3 hokf hokn
          have hwd : IntKind.i64.wrap ((u : Int) + d) = (u : Int) + d := IntWalk.i64_in _ (by omega)
          have HLKK : Hid (K.length ≤ 100000) := Lib.hid (by have h1 := HLK.out; have h2 := HLN.out; have h3 := HBU.out; omega)
          clear hf hae hac hat hx1 hx2 hlz hac1 hac2
          cases f
          · have hno := hokn rfl
            have HSU : Hid (T0 ++ E.mvK u (i + 1) = K) := Lib.hid (by rw [HSUC.out]; simp)
            have HXn := Lib.hid (HX.out.next ((Below.refl _ wr).alloc (Nat.le_refl _) (.cells #[.int .i64 x, .int .i64 y, .int .i64 k, .int .i64 d] 42)))
            have hL : (K.length ≤ T0.length + (i + 1)) := by have := HLK.out; omega
            have HL2 := Lib.hid hL
            clear hokf hokn hL
            by_cases c1 : (u : Int) + d ≤ (hh : Int)
            · by_cases c2 : y = (ss : Int)
              · have hy1 : decide (y = (ss : Int)) = true := decide_eq_true c2
                have hy2 : (y == (ss : Int)) = true := by simpa using c2
                have hy3 : (y != (ss : Int)) = false := by simpa using c2
                clear hno c2
                go_wp2_with fail
                go_roundw
                case rel => exact ⟨i + 1, by omega, by go_num, Lib.hid (by rw [HSU.out]; exact HL2.out), Lib.hid (by rw [HSU.out]; exact HXn.out)⟩
                case measure => simp [intOf]; omega
              · have c3 : x = (tt : Int) := Classical.byContradiction (fun c3 => hno ⟨c2, c3, c1⟩)
                have hy1 : decide (x = (tt : Int)) = true := decide_eq_true c3
                have hy2 : (x == (tt : Int)) = true := by simpa using c3
                have hy3 : (x != (tt : Int)) = false := by simpa using c3
                have hz3 : (y != (ss : Int)) = true := by simpa using c2
                clear hno c3
                go_wp2_with fail
                go_roundw
                case rel => exact ⟨i + 1, by omega, by go_num, Lib.hid (by rw [HSU.out]; exact HL2.out), Lib.hid (by rw [HSU.out]; exact HXn.out)⟩
                case measure => simp [intOf]; omega
            · clear hno
              go_wp2_with fail
              go_roundw
              case rel => exact ⟨i + 1, by omega, by go_num, Lib.hid (by rw [HSU.out]; exact HL2.out), Lib.hid (by rw [HSU.out]; exact HXn.out)⟩
              case measure => simp [intOf]; omega
          · obtain ⟨c2, c3, c1⟩ := hokf rfl
            have HSU : Hid (T0 ++ E.mvK u (i + 1) = K ++ [Kd.mv i u]) := Lib.hid (by rw [HSUC.out]; simp)
            obtain ⟨q1, r1⟩ := mul_wrap (c := 0) (x := (u : Int)) (y := (nn : Int)) (by omega) (by omega)
            obtain ⟨q2, r2⟩ := mul_wrap (c := 0) (x := (u : Int) + d) (y := (nn : Int)) (by omega) (by omega)
            have s1 : (u : Int) * (nn : Int) ≤ 1025 * 200 := Int.mul_le_mul (by omega) (by omega) (by omega) (by omega)
            have s2 : ((u : Int) + d) * (nn : Int) ≤ 1025 * 200 := Int.mul_le_mul (by omega) (by omega) (by omega) (by omega)
            have q3 : IntKind.i64.wrap ((u : Int) * (nn : Int) + x) = (u : Int) * (nn : Int) + x := IntWalk.i64_in _ (by omega)
            have q4 : IntKind.i64.wrap (((u : Int) + d) * (nn : Int) + y) = ((u : Int) + d) * (nn : Int) + y := IntWalk.i64_in _ (by omega)
            have z2 : (y != (ss : Int)) = true := by simpa using c2
            have z3 : (x != (tt : Int)) = true := by simpa using c3
            clear hokf hokn s1 s2 r1 r2
            go_wp2_with (first
            | (at_builtin; refine wpList_append_row (enc := encA) Tryz.underlying25 infoArc15 rfl (by omega) (by omega) encA_len rfl _ _ rfl w1.heap.size _ (arcsK E K) ((u : Int) * (nn : Int) + x, ((u : Int) + d) * (nn : Int) + y, k, 0) (encA_one _) rfl (HX.out.next (((Below.refl _ wr).alloc (Nat.le_refl _) _).alloc (by simp) _)).ro _ 1 rfl (fun j hj => by rw [cell_new' (by simp)]; match j, hj with | 0, _ => rfl | 1, _ => rfl | 2, _ => rfl | 3, _ => rfl) (by rw [arcsK_len]; have := HLKK.out; omega) (HX.out.next (((Below.refl _ wr).alloc (Nat.le_refl _) _).alloc (by simp) _)).low.size ?_; intro g5 cap5 w5 ho5 hg5 hl5 hb5 hlt5; have HX5 := Lib.hid ((HX.out.next (((Below.refl _ wr).alloc (Nat.le_refl _) _).alloc (by simp) _)).addA ho5 hg5); clear ho5 hg5 hl5 hb5 hlt5)
            | (at_builtin; refine wpList_append_row (enc := encD) Tryz.underlying76 infoKind rfl (by omega) (by omega) encD_len rfl _ _ rfl w1.heap.size _ (kdsK E K) (true, false, (i : Int), 0, (u : Int)) (encD_one _) rfl (HX5.out.next ((Below.refl _ w5).alloc (Nat.le_refl _) _)).rk _ 1 rfl (fun j hj => by rw [cell_new' (by simp)]; match j, hj with | 0, _ => rfl | 1, _ => rfl | 2, _ => rfl | 3, _ => rfl | 4, _ => rfl) (by rw [kdsK_len]; have := HLKK.out; omega) (HX5.out.next ((Below.refl _ w5).alloc (Nat.le_refl _) _)).low.size ?_; intro g6 cap6 w6 ho6 hg6 hl6 hb6 hlt6; have HX6 := Lib.hid ((HX5.out.next ((Below.refl _ w5).alloc (Nat.le_refl _) _)).addK ho6 hg6); clear ho6 hg6 hl6 hb6 hlt6))
            go_roundw
            case rel => exact ⟨i + 1, by omega, by go_num, Lib.hid (by rw [HSU.out, List.length_append]; have := HLK.out; simp only [List.length_singleton]; omega), Lib.hid (by rw [HSU.out, arcsK_snoc, kdsK_snoc, ← HAR.out]; exact HX6.out)⟩
            case measure => simp [intOf]; omega
        · have hlii : ¬ (i : Int) < (nl : Int) := by omega
          obtain rfl : nl = i := by omega
          have HT1 : Hid (E.timeK (u + 1) = (T0 ++ E.mvK u nl) ++ E.wtK u nn) := Lib.hid (by
            show E.timeK u ++ (E.mvK u E.Z.length ++ E.wtK u E.N) = _
            rw [HTT0.out, HL.out, HNN.out, List.append_assoc])
          generalize T0 ++ E.mvK u nl = T1 at *
          clear n0 n1 n2
          go_wp2_with fail
          go_loopw [10, 11, 16] (fun ov kv iv wr => ∃ v : Nat, v ≤ nn ∧ iv = .int .i64 (v : Int) ∧ Hid ((T1 ++ E.wtK u v).length ≤ T1.length + v) ∧ Hid (AK w1 wr ov kv (arcsK E (T1 ++ E.wtK u v)) (kdsK E (T1 ++ E.wtK u v)))) (fun _ _ iv _ => nn - (intOf iv).toNat)
          case atStart => exact ⟨0, Nat.zero_le _, rfl, Lib.hid (by simp [Exp.wtK]), Lib.hid (by rw [show E.wtK u 0 = [] from rfl, List.append_nil]; exact HX.out)⟩
          case round =>
            clear HX m0 m1 m2
            obtain ⟨v, hv, rfl, HLV, HX⟩ := hrel
            have hn := kept_box HN.out HX.out.low
            have m0 := cell_whole hn 0
            have m1 := cell_whole hn 1
            have m2 := cell_whole hn 2
            clear hn
            by_cases hltv : v < nn
            · have hliv : (v : Int) < (nn : Int) := by omega
              cases hold
              · have HNO : Hid (∀ k, E.wtK u k = []) := Lib.hid (wtK_none (fun k => by unfold Exp.wok; rw [HHO.out]; rfl))
                have HSU : Hid (T1 ++ E.wtK u v = T1 ++ E.wtK u nn) := Lib.hid (by rw [HNO.out, HNO.out])
                have HXe : Hid (AK w1 wr u10 u11 (arcsK E (E.timeK (u + 1))) (kdsK E (E.timeK (u + 1)))) := Lib.hid (by rw [HT1.out, ← HSU.out]; exact HX.out)
                have HLe : Hid ((E.timeK (u + 1)).length ≤ (u + 1) * nl + (u + 1) * nn) := Lib.hid (by rw [HT1.out, List.length_append, Nat.succ_mul, Nat.succ_mul]; have h1 := HLK.out; have h2 := HLN.out; have h3 := wtK_len E u nn; omega)
                go_wp2_with fail
                go_roundw
                case rel => exact ⟨u + 1, by omega, by go_num, HLe, HXe⟩
                case measure => simp [intOf]; omega
              · by_cases hlu : u < hh
                · have hliu : (u : Int) < (hh : Int) := by omega
                  have HSUC : Hid (T1 ++ E.wtK u (v + 1) = (T1 ++ E.wtK u v) ++ if E.wok v u = true then [Kd.wt v u] else []) := Lib.hid (by
                    show T1 ++ (E.wtK u v ++ if E.wok v u = true then [Kd.wt v u] else []) = _
                    rw [List.append_assoc])
                  have HOK := Lib.hid (wok_at (E := E) (v := v) (u := u))
                  have HAR := Lib.hid (wt_arc (E := E) (v := v) (u := u))
                  rw [HNN.out] at HAR
                  rw [HSS.out, HTT.out, HHH.out, HHO.out] at HOK
                  have HLKK : Hid ((T1 ++ E.wtK u v).length ≤ 100000) := Lib.hid (by have h1 := HLK.out; have h2 := HLN.out; have h3 := HBU.out; have h4 := HLV.out; omega)
                  generalize T1 ++ E.wtK u v = K at *
                  by_cases c2 : (v : Int) = (ss : Int)
                  · have HSU : Hid (T1 ++ E.wtK u (v + 1) = K) := Lib.hid (by rw [HSUC.out, ← HOK.out]; simp [c2])
                    have hy1 : decide ((v : Int) = (ss : Int)) = true := decide_eq_true c2
                    have hy3 : ((v : Int) != (ss : Int)) = false := by simpa using c2
                    have HL2 : Hid (K.length ≤ T1.length + (v + 1)) := Lib.hid (by have := HLV.out; omega)
                    clear c2
                    go_wp2_with fail
                    go_roundw
                    case rel => exact ⟨v + 1, by omega, by go_num, Lib.hid (by rw [HSU.out]; exact HL2.out), Lib.hid (by rw [HSU.out]; exact HX.out)⟩
                    case measure => simp [intOf]; omega
                  · have z2 : ((v : Int) != (ss : Int)) = true := by simpa using c2
                    by_cases c3 : (v : Int) = (tt : Int)
                    · have HSU : Hid (T1 ++ E.wtK u (v + 1) = K) := Lib.hid (by rw [HSUC.out, ← HOK.out]; simp [c3])
                      have hy1 : decide ((v : Int) = (tt : Int)) = true := decide_eq_true c3
                      have hy3 : ((v : Int) != (tt : Int)) = false := by simpa using c3
                      have HL2 : Hid (K.length ≤ T1.length + (v + 1)) := Lib.hid (by have := HLV.out; omega)
                      clear c3
                      go_wp2_with fail
                      go_roundw
                      case rel => exact ⟨v + 1, by omega, by go_num, Lib.hid (by rw [HSU.out]; exact HL2.out), Lib.hid (by rw [HSU.out]; exact HX.out)⟩
                      case measure => simp [intOf]; omega
                    · have z3 : ((v : Int) != (tt : Int)) = true := by simpa using c3
                      have HSU : Hid (T1 ++ E.wtK u (v + 1) = K ++ [Kd.wt v u]) := Lib.hid (by
                        have : E.wok v u = true := by rw [← HOK.out, Bool.true_and, decide_eq_true_eq]; exact ⟨hliu, c2, c3⟩
                        rw [HSUC.out, if_pos this])
                      obtain ⟨q1, r1⟩ := mul_wrap (c := 0) (x := (u : Int)) (y := (nn : Int)) (by omega) (by omega)
                      obtain ⟨q2, r2⟩ := mul_wrap (c := 0) (x := (u : Int) + 1) (y := (nn : Int)) (by omega) (by omega)
                      have s1 : (u : Int) * (nn : Int) ≤ 1025 * 200 := Int.mul_le_mul (by omega) (by omega) (by omega) (by omega)
                      have s2 : ((u : Int) + 1) * (nn : Int) ≤ 1025 * 200 := Int.mul_le_mul (by omega) (by omega) (by omega) (by omega)
                      have q0 : IntKind.i64.wrap ((u : Int) + 1) = (u : Int) + 1 := IntWalk.i64_in _ (by omega)
                      have q3 : IntKind.i64.wrap ((u : Int) * (nn : Int) + (v : Int)) = (u : Int) * (nn : Int) + (v : Int) := IntWalk.i64_in _ (by omega)
                      have q4 : IntKind.i64.wrap (((u : Int) + 1) * (nn : Int) + (v : Int)) = ((u : Int) + 1) * (nn : Int) + (v : Int) := IntWalk.i64_in _ (by omega)
                      have HLV2 : Hid (K.length ≤ T1.length + v) := HLV
                      clear s1 s2 r1 r2
                      go_wp2_with (first
            | (at_builtin; refine wpList_append_row (enc := encA) Tryz.underlying25 infoArc15 rfl (by omega) (by omega) encA_len rfl _ _ rfl w1.heap.size _ (arcsK E K) ((u : Int) * (nn : Int) + (v : Int), ((u : Int) + 1) * (nn : Int) + (v : Int), 1099511627776, 0) (encA_one _) rfl (HX.out.next ((Below.refl _ wr).alloc (Nat.le_refl _) _)).ro _ 1 rfl (fun j hj => by rw [cell_new' (by simp)]; match j, hj with | 0, _ => rfl | 1, _ => rfl | 2, _ => rfl | 3, _ => rfl) (by rw [arcsK_len]; have := HLKK.out; omega) (HX.out.next ((Below.refl _ wr).alloc (Nat.le_refl _) _)).low.size ?_; intro g5 cap5 w5 ho5 hg5 hl5 hb5 hlt5; have HX5 := Lib.hid ((HX.out.next ((Below.refl _ wr).alloc (Nat.le_refl _) _)).addA ho5 hg5); clear ho5 hg5 hl5 hb5 hlt5)
            | (at_builtin; refine wpList_append_row (enc := encD) Tryz.underlying76 infoKind rfl (by omega) (by omega) encD_len rfl _ _ rfl w1.heap.size _ (kdsK E K) (false, true, 0, (v : Int), (u : Int)) (encD_one _) rfl (HX5.out.next ((Below.refl _ w5).alloc (Nat.le_refl _) _)).rk _ 1 rfl (fun j hj => by rw [cell_new' (by simp)]; match j, hj with | 0, _ => rfl | 1, _ => rfl | 2, _ => rfl | 3, _ => rfl | 4, _ => rfl) (by rw [kdsK_len]; have := HLKK.out; omega) (HX5.out.next ((Below.refl _ w5).alloc (Nat.le_refl _) _)).low.size ?_; intro g6 cap6 w6 ho6 hg6 hl6 hb6 hlt6; have HX6 := Lib.hid ((HX5.out.next ((Below.refl _ w5).alloc (Nat.le_refl _) _)).addK ho6 hg6); clear ho6 hg6 hl6 hb6 hlt6))
                      go_roundw
                      case rel => exact ⟨v + 1, by omega, by go_num, Lib.hid (by rw [HSU.out, List.length_append]; have := HLV2.out; simp only [List.length_singleton]; omega), Lib.hid (by rw [HSU.out, arcsK_snoc, kdsK_snoc, ← HAR.out]; exact HX6.out)⟩
                      case measure => simp [intOf]; omega
                · have hliu : ¬ (u : Int) < (hh : Int) := by omega
                  have HNO : Hid (∀ k, E.wtK u k = []) := Lib.hid (wtK_none (fun k => by
                    cases e : E.wok k u with
                    | false => rfl
                    | true => have := (E.wok_is.1 e).2.1; rw [HHH.out] at this; omega))
                  have HSU : Hid (T1 ++ E.wtK u v = T1 ++ E.wtK u nn) := Lib.hid (by rw [HNO.out, HNO.out])
                  have HXe : Hid (AK w1 wr u10 u11 (arcsK E (E.timeK (u + 1))) (kdsK E (E.timeK (u + 1)))) := Lib.hid (by rw [HT1.out, ← HSU.out]; exact HX.out)
                  have HLe : Hid ((E.timeK (u + 1)).length ≤ (u + 1) * nl + (u + 1) * nn) := Lib.hid (by rw [HT1.out, List.length_append, Nat.succ_mul, Nat.succ_mul]; have h1 := HLK.out; have h2 := HLN.out; have h3 := wtK_len E u nn; omega)
                  go_wp2_with fail
                  go_roundw
                  case rel => exact ⟨u + 1, by omega, by go_num, HLe, HXe⟩
                  case measure => simp [intOf]; omega
            · have hliv : ¬ (v : Int) < (nn : Int) := by omega
              obtain rfl : v = nn := by omega
              have HXe : Hid (AK w1 wr u10 u11 (arcsK E (E.timeK (u + 1))) (kdsK E (E.timeK (u + 1)))) := Lib.hid (by rw [HT1.out]; exact HX.out)
              have HLe : Hid ((E.timeK (u + 1)).length ≤ (u + 1) * nl + (u + 1) * v) := Lib.hid (by rw [HT1.out, List.length_append, Nat.succ_mul, Nat.succ_mul]; have h1 := HLK.out; have h2 := HLN.out; have h3 := wtK_len E u v; omega)
              go_wp2_with fail
              go_roundw
              case rel => exact ⟨u + 1, by omega, by go_num, HLe, HXe⟩
              case measure => simp [intOf]; omega
    · have hli : ¬ (u : Int) ≤ (hh : Int) := by omega
      obtain rfl : u = hh + 1 := by omega
      have HKD : Hid (∀ l, E.timeK (hh + 1) ++ l = E.timeK (hh + 1) ++ l) := Lib.hid (fun _ => rfl)
      have HKK : Hid (E.kinds = E.timeK (hh + 1) ++ (Exp.soK (hh + 1) ++ Exp.siK (hh + 1))) := Lib.hid (by unfold Exp.kinds; rw [HHH.out])
      have HLT : Hid ((E.timeK (hh + 1)).length ≤ 14000) := Lib.hid (by have h1 := HLN.out; have h2 := HM1.out; have h3 := HM2.out; omega)
      generalize E.timeK (hh + 1) = T0 at *
      have HT0 := HX
      clear HX n0 n1 n2 HKD
      go_wp2_with fail
      go_loopw [10, 11, 17] (fun ov kv iv wr => ∃ r : Nat, r ≤ hh + 1 ∧ iv = .int .i64 (r : Int) ∧ Hid ((T0 ++ Exp.soK r).length ≤ T0.length + r) ∧ Hid (AK w1 wr ov kv (arcsK E (T0 ++ Exp.soK r)) (kdsK E (T0 ++ Exp.soK r)))) (fun _ _ iv _ => hh + 1 - (intOf iv).toNat)
      case atStart => exact ⟨0, Nat.zero_le _, rfl, Lib.hid (by simp [Exp.soK]), Lib.hid (by rw [show Exp.soK 0 = [] from rfl, List.append_nil]; exact HT0.out)⟩
      case round =>
        clear HT0
        obtain ⟨r, hr, rfl, HLK, HX⟩ := hrel
        by_cases hltr : r < hh + 1
        · have hlir : (r : Int) ≤ (hh : Int) := by omega
          have HSU : Hid (T0 ++ Exp.soK (r + 1) = (T0 ++ Exp.soK r) ++ [Kd.so r]) := Lib.hid (by
            show T0 ++ (Exp.soK r ++ [Kd.so r]) = _
            rw [List.append_assoc])
          have HAR := Lib.hid (so_arc15 (E := E) (u := r))
          rw [HNN.out, HHH.out, HSS.out] at HAR
          have HKS : Hid (kdD E.s E.t (Kd.so r) = (false, false, 0, (ss : Int), (r : Int))) := Lib.hid (by show (false, false, (0 : Int), (E.s : Int), (r : Int)) = _; rw [HSS.out])
          have HLKK : Hid ((T0 ++ Exp.soK r).length ≤ 100000) := Lib.hid (by have h1 := HLK.out; have h2 := HLT.out; omega)
          generalize T0 ++ Exp.soK r = K at *
          obtain ⟨q1, r1⟩ := mul_wrap (c := 0) (x := (r : Int)) (y := (nn : Int)) (by omega) (by omega)
          obtain ⟨q2, r2⟩ := mul_wrap (c := 0) (x := (hh : Int) + 1) (y := (nn : Int)) (by omega) (by omega)
          have s1 : (r : Int) * (nn : Int) ≤ 1025 * 200 := Int.mul_le_mul (by omega) (by omega) (by omega) (by omega)
          have q3 : IntKind.i64.wrap ((r : Int) * (nn : Int) + (ss : Int)) = (r : Int) * (nn : Int) + (ss : Int) := IntWalk.i64_in _ (by omega)
          clear s1 r1 r2
          go_wp2_with (first
            | (at_builtin; refine wpList_append_row (enc := encA) Tryz.underlying25 infoArc15 rfl (by omega) (by omega) encA_len rfl _ _ rfl w1.heap.size _ (arcsK E K) (((hh : Int) + 1) * (nn : Int), (r : Int) * (nn : Int) + (ss : Int), 1099511627776, 0) (encA_one _) rfl (HX.out.next ((Below.refl _ wr).alloc (Nat.le_refl _) _)).ro _ 1 rfl (fun j hj => by rw [cell_new' (by simp)]; match j, hj with | 0, _ => rfl | 1, _ => rfl | 2, _ => rfl | 3, _ => rfl) (by rw [arcsK_len]; have := HLKK.out; omega) (HX.out.next ((Below.refl _ wr).alloc (Nat.le_refl _) _)).low.size ?_; intro g5 cap5 w5 ho5 hg5 hl5 hb5 hlt5; have HX5 := Lib.hid ((HX.out.next ((Below.refl _ wr).alloc (Nat.le_refl _) _)).addA ho5 hg5); clear ho5 hg5 hl5 hb5 hlt5)
            | (at_builtin; refine wpList_append_row (enc := encD) Tryz.underlying76 infoKind rfl (by omega) (by omega) encD_len rfl _ _ rfl w1.heap.size _ (kdsK E K) (false, false, 0, (ss : Int), (r : Int)) (encD_one _) rfl (HX5.out.next ((Below.refl _ w5).alloc (Nat.le_refl _) _)).rk _ 1 rfl (fun j hj => by rw [cell_new' (by simp)]; match j, hj with | 0, _ => rfl | 1, _ => rfl | 2, _ => rfl | 3, _ => rfl | 4, _ => rfl) (by rw [kdsK_len]; have := HLKK.out; omega) (HX5.out.next ((Below.refl _ w5).alloc (Nat.le_refl _) _)).low.size ?_; intro g6 cap6 w6 ho6 hg6 hl6 hb6 hlt6; have HX6 := Lib.hid ((HX5.out.next ((Below.refl _ w5).alloc (Nat.le_refl _) _)).addK ho6 hg6); clear ho6 hg6 hl6 hb6 hlt6))
          go_roundw
          case rel => exact ⟨r + 1, by omega, by go_num, Lib.hid (by rw [HSU.out, List.length_append]; have := HLK.out; simp only [List.length_singleton]; omega), Lib.hid (by rw [HSU.out, arcsK_snoc, kdsK_snoc, ← HAR.out, HKS.out]; exact HX6.out)⟩
          case measure => simp [intOf]; omega
        · have hlir : ¬ (r : Int) ≤ (hh : Int) := by omega
          obtain rfl : r = hh + 1 := by omega
          have HK2 : Hid (E.kinds = (T0 ++ Exp.soK (hh + 1)) ++ Exp.siK (hh + 1)) := Lib.hid (by rw [HKK.out, List.append_assoc])
          have HLT2 : Hid ((T0 ++ Exp.soK (hh + 1)).length ≤ 16000) := Lib.hid (by have h1 := HLK.out; have h2 := HLT.out; omega)
          generalize T0 ++ Exp.soK (hh + 1) = T2 at *
          have HT0 := HX
          clear HX HLK
          go_wp2_with fail
          go_loopw [10, 11, 18] (fun ov kv iv wr => ∃ r : Nat, r ≤ hh + 1 ∧ iv = .int .i64 (r : Int) ∧ Hid ((T2 ++ Exp.siK r).length ≤ T2.length + r) ∧ Hid (AK w1 wr ov kv (arcsK E (T2 ++ Exp.siK r)) (kdsK E (T2 ++ Exp.siK r)))) (fun _ _ iv _ => hh + 1 - (intOf iv).toNat)
          case atStart => exact ⟨0, Nat.zero_le _, rfl, Lib.hid (by simp [Exp.siK]), Lib.hid (by rw [show Exp.siK 0 = [] from rfl, List.append_nil]; exact HT0.out)⟩
          case round =>
            clear HT0
            obtain ⟨r, hr, rfl, HLK, HX⟩ := hrel
            by_cases hltr : r < hh + 1
            · have hlir : (r : Int) ≤ (hh : Int) := by omega
              have HSU : Hid (T2 ++ Exp.siK (r + 1) = (T2 ++ Exp.siK r) ++ [Kd.si r]) := Lib.hid (by
                show T2 ++ (Exp.siK r ++ [Kd.si r]) = _
                rw [List.append_assoc])
              have HAR := Lib.hid (si_arc15 (E := E) (u := r))
              rw [HNN.out, HHH.out, HTT.out] at HAR
              have HKS : Hid (kdD E.s E.t (Kd.si r) = (false, false, 0, (tt : Int), (r : Int))) := Lib.hid (by show (false, false, (0 : Int), (E.t : Int), (r : Int)) = _; rw [HTT.out])
              have HLKK : Hid ((T2 ++ Exp.siK r).length ≤ 100000) := Lib.hid (by have h1 := HLK.out; have h2 := HLT2.out; omega)
              generalize T2 ++ Exp.siK r = K at *
              obtain ⟨q1, r1⟩ := mul_wrap (c := 0) (x := (r : Int)) (y := (nn : Int)) (by omega) (by omega)
              obtain ⟨q2, r2⟩ := mul_wrap (c := 0) (x := (hh : Int) + 1) (y := (nn : Int)) (by omega) (by omega)
              have s1 : (r : Int) * (nn : Int) ≤ 1025 * 200 := Int.mul_le_mul (by omega) (by omega) (by omega) (by omega)
              have s2 : ((hh : Int) + 1) * (nn : Int) ≤ 1025 * 200 := Int.mul_le_mul (by omega) (by omega) (by omega) (by omega)
              have q3 : IntKind.i64.wrap ((r : Int) * (nn : Int) + (tt : Int)) = (r : Int) * (nn : Int) + (tt : Int) := IntWalk.i64_in _ (by omega)
              have q4 : IntKind.i64.wrap (((hh : Int) + 1) * (nn : Int) + 1) = ((hh : Int) + 1) * (nn : Int) + 1 := IntWalk.i64_in _ (by omega)
              clear s1 s2 r1 r2
              go_wp2_with (first
            | (at_builtin; refine wpList_append_row (enc := encA) Tryz.underlying25 infoArc15 rfl (by omega) (by omega) encA_len rfl _ _ rfl w1.heap.size _ (arcsK E K) ((r : Int) * (nn : Int) + (tt : Int), ((hh : Int) + 1) * (nn : Int) + 1, 1099511627776, 0) (encA_one _) rfl (HX.out.next ((Below.refl _ wr).alloc (Nat.le_refl _) _)).ro _ 1 rfl (fun j hj => by rw [cell_new' (by simp)]; match j, hj with | 0, _ => rfl | 1, _ => rfl | 2, _ => rfl | 3, _ => rfl) (by rw [arcsK_len]; have := HLKK.out; omega) (HX.out.next ((Below.refl _ wr).alloc (Nat.le_refl _) _)).low.size ?_; intro g5 cap5 w5 ho5 hg5 hl5 hb5 hlt5; have HX5 := Lib.hid ((HX.out.next ((Below.refl _ wr).alloc (Nat.le_refl _) _)).addA ho5 hg5); clear ho5 hg5 hl5 hb5 hlt5)
            | (at_builtin; refine wpList_append_row (enc := encD) Tryz.underlying76 infoKind rfl (by omega) (by omega) encD_len rfl _ _ rfl w1.heap.size _ (kdsK E K) (false, false, 0, (tt : Int), (r : Int)) (encD_one _) rfl (HX5.out.next ((Below.refl _ w5).alloc (Nat.le_refl _) _)).rk _ 1 rfl (fun j hj => by rw [cell_new' (by simp)]; match j, hj with | 0, _ => rfl | 1, _ => rfl | 2, _ => rfl | 3, _ => rfl | 4, _ => rfl) (by rw [kdsK_len]; have := HLKK.out; omega) (HX5.out.next ((Below.refl _ w5).alloc (Nat.le_refl _) _)).low.size ?_; intro g6 cap6 w6 ho6 hg6 hl6 hb6 hlt6; have HX6 := Lib.hid ((HX5.out.next ((Below.refl _ w5).alloc (Nat.le_refl _) _)).addK ho6 hg6); clear ho6 hg6 hl6 hb6 hlt6))
              go_roundw
              case rel => exact ⟨r + 1, by omega, by go_num, Lib.hid (by rw [HSU.out, List.length_append]; have := HLK.out; simp only [List.length_singleton]; omega), Lib.hid (by rw [HSU.out, arcsK_snoc, kdsK_snoc, ← HAR.out, HKS.out]; exact HX6.out)⟩
              case measure => simp [intOf]; omega
            · have hlir : ¬ (r : Int) ≤ (hh : Int) := by omega
              obtain rfl : r = hh + 1 := by omega
              have HXF : Hid (AK w1 wr u10 u11 (arcsK E E.kinds) (kdsK E E.kinds)) := Lib.hid (by rw [HK2.out]; exact HX.out)
              have hs0 := HB00.out.size
              go_wp2_with fail
              go_ret2
              exact ⟨_, _, rfl, HB00.out.trans (HXF.out.low.mono hs0), own_mono HXF.out.ro hs0, own_mono HXF.out.rk hs0⟩
end Go.Proofs.YtlkbohpnlbfopaaGreat
namespace Go.Proofs.YtlkbohpnlbfopaaGreat
open Go.RowKit
set_option linter.unusedVariables false
section
variable (n : Int) (b : Bool) (ao : Option Addr) (nl cap : Nat) (Z : List ArcT) (s t H : Int)
set_option maxRecDepth 100000 in
set_option maxHeartbeats 8000000 in
theorem rbuild15_any (w : World) (h : Row encA 4 w ao Z) (hl : Z.length = nl) (hz : Z.length ≤ maxLen) :
    Calls Tryz.prog 17 #[.agg #[.int .i64 n, .bool b, .slice ao nl cap], .int .i64 s, .int .i64 t, .int .i64 H] w (BldRes n b Z s t H w) := by
  have hb00 := ((Below.refl _ w).alloc (Nat.le_refl _) (.cells #[.int .i64 n, .bool b, .slice ao nl cap] 27)).alloc (by simp) (.cells #[.int .i64 0, .bool false, .slice none 0 0] 27)
  have HB := Lib.hid hb00
  have HN := Lib.hid (alloc_whole (heap_alloc_new w (.cells #[.int .i64 n, .bool b, .slice ao nl cap] 27)) (.cells #[.int .i64 0, .bool false, .slice none 0 0] 27))
  have HX := Lib.hid (new_whole1 w (.cells #[.int .i64 n, .bool b, .slice ao nl cap] 27) (.cells #[.int .i64 0, .bool false, .slice none 0 0] 27))
  have c0 := cell_whole HN.out 0
  have c1 := cell_whole HN.out 1
  have c2 := cell_whole HN.out 2
  have HR := Lib.hid (h.below' hb00)
  have HCALL := Lib.hid (rasked15_any n H b ao nl cap Z s t _ HR.out hl hz)
  by_cases hx : xpE n Z s t H = 0
  · obtain ⟨N, i, j, K, rfl, rfl, rfl, rfl, hi, hj, hij, hW, hK, hm1, hm2⟩ := xpE_nat hx
    have HA : Hid (bldA (N : Int) Z (i : Int) (j : Int) (K : Int) b = (⟨Z, N, i, j, K, b⟩ : Exp).net ∧ bldN (N : Int) Z (i : Int) (j : Int) (K : Int) = ((K : Int) + 1) * (N : Int) + 2) := Lib.hid (by unfold bldA bldN; rw [if_pos hx, if_pos hx]; exact ⟨rfl, rfl⟩)
    have HXE := Lib.hid hx
    have HARCS := Lib.hid (fun (w2 : World) (hr : Row encA 4 w2 ao Z) => rarcs15_any ⟨Z, N, i, j, K, b⟩ ao nl cap w2 hr hl hW hK hi hj hm1 (by rw [← hl]; exact hm2))
    have hN := hW.nodes
    rw [hx] at HCALL
    obtain ⟨q1, r1⟩ := mul_wrap (c := 0) (x := (K : Int) + 1) (y := (N : Int)) (by omega) (by omega)
    have s1 : ((K : Int) + 1) * (N : Int) ≤ 1025 * 200 := Int.mul_le_mul (by omega) (by omega) (by omega) (by omega)
    have q0 : IntKind.i64.wrap ((K : Int) + 1) = (K : Int) + 1 := IntWalk.i64_in _ (by omega)
    have q3 : IntKind.i64.wrap (((K : Int) + 1) * (N : Int) + 2) = ((K : Int) + 1) * (N : Int) + 2 := IntWalk.i64_in _ (by omega)
    clear h hb00 hl hz hx hW hm1 hm2 s1 r1
    go_enter Tryz.func17, Tryz.ntmps17
    go_wp2_with (first
      | (go_at_call 32; refine HCALL.out.mono ?_; rintro e w1 ⟨rfl, hb1⟩; have HB := Lib.hid (HB.out.trans (hb1.mono HB.out.size)); have HX := Lib.hid (kept_box HX.out hb1); have hn := kept_box HN.out hb1; have HN := Lib.hid hn; have n0 := cell_whole hn 0; have n1 := cell_whole hn 1; have n2 := cell_whole hn 2; have HR := Lib.hid (HR.out.below' hb1); clear hb1 hn c0 c1 c2)
      | (go_at_call 33; refine (HARCS.out _ HR.out).mono ?_; rintro e w2 ⟨ov, kv, rfl, hak⟩; obtain ⟨fa, fc, rfl, hrow, hbk⟩ := own_rowQ encA_len hak.ro; have hb2 := hak.low; have HBK : Hid (∀ ad, fa = some ad → w.heap.size + 2 ≤ ad.block) := Lib.hid (fun ad e => by have h1 := (hbk ad e).2.1; have h2 := HB.out.size; have h3 := lt_whole HX.out; omega); have HROW := Lib.hid hrow; generalize hfl : (arcsK ⟨Z, N, i, j, K, b⟩ (⟨Z, N, i, j, K, b⟩ : Exp).kinds).length = fl at *; have HLEN := Lib.hid hfl; clear hfl; have HB2 := Lib.hid (HB.out.trans (hb2.mono HB.out.size)); have HX2 := Lib.hid (kept_box HX.out hb2); have hn := kept_box HN.out hb2; have n0 := cell_whole hn 0; have n1 := cell_whole hn 1; have n2 := cell_whole hn 2; clear hb2 hak hrow hbk hn)
      | ((with_reducible show wpList _ _ _ (Oper.mk none (Op.store 27 _ _) _ _ _ _ :: _) _ _); refine wpList_store_box sizeNet15 rfl _ _ rfl (w.heap.size + 1) _ [.int .i64 (((K : Int) + 1) * (N : Int) + 2), .bool false, .slice fa fl fc] rfl rfl HX2.out rfl rfl (net_one _ _ _ _ _) ?_; intro w3 hg3 hk3; have HG3 := Lib.hid hg3; have HK3 := Lib.hid hk3; clear hg3 hk3))
    have k0 := cell_whole HG3.out 0
    have k1 := cell_whole HG3.out 1
    have k2 := cell_whole HG3.out 2
    refine bodyPost_ret (v := .tuple #[.agg #[.int .i64 (((K : Int) + 1) * (N : Int) + 2), .bool false, .slice fa fl fc], .int .i64 0]) (by simp [results, Tryz.results17, go_sem, k0, k1, k2]) rfl ?_
    have hbF : Below w.heap.size w w3 := HB2.out.trans (HK3.out.below HB2.out.size (fun i e => by have e2 : i = w.heap.size + 1 := e; omega))
    refine ⟨fa, fc, ?_, ?_, hbF⟩
    · rw [HA.out.1, HA.out.2, HXE.out, ← HLEN.out]; rfl
    · rw [HA.out.1]
      exact rowOffO HROW.out HK3.out (fun ad e _ e2 => by have h1 := HBK.out ad e; have e3 : ad.block = w.heap.size + 1 := e2; omega)
  · have HA : Hid (bldA n Z s t H b = [] ∧ bldN n Z s t H = 0) := Lib.hid (by unfold bldA bldN; rw [if_neg hx, if_neg hx]; exact ⟨rfl, rfl⟩)
    have he2 : (xpE n Z s t H != 0) = true := by simpa using hx
    obtain ⟨e0, he⟩ : ∃ e0, xpE n Z s t H = e0 := ⟨_, rfl⟩
    rw [he] at HCALL he2
    have HE := Lib.hid he
    clear h hb00 hl hz hx he
    go_enter Tryz.func17, Tryz.ntmps17
    go_wp2_with (first
      | (go_at_call 32; refine HCALL.out.mono ?_; rintro e w1 ⟨rfl, hb1⟩; have HB2 := Lib.hid (HB.out.trans (hb1.mono HB.out.size)); have HX2 := Lib.hid (kept_box HX.out hb1); clear hb1)
      | ((with_reducible show wpList _ _ _ (Oper.mk none (Op.store 27 _ _) _ _ _ _ :: _) _ _); refine wpList_store_box sizeNet15 rfl _ _ rfl (w.heap.size + 1) _ [.int .i64 0, .bool false, .slice none 0 0] rfl rfl HX2.out rfl rfl (net_one _ _ _ _ _) ?_; intro w3 hg3 hk3; have HG3 := Lib.hid hg3; have HK3 := Lib.hid hk3; clear hg3 hk3))
    have k0 := cell_whole HG3.out 0
    have k1 := cell_whole HG3.out 1
    have k2 := cell_whole HG3.out 2
    refine bodyPost_ret (v := .tuple #[.agg #[.int .i64 0, .bool false, .slice none 0 0], .int .i64 e0]) (by simp [results, Tryz.results17, go_sem, k0, k1, k2]) rfl ?_
    have hbF : Below w.heap.size w w3 := HB2.out.trans (HK3.out.below HB2.out.size (fun i e => by have e2 : i = w.heap.size + 1 := e; omega))
    exact ⟨none, 0, by rw [HA.out.1, HA.out.2, HE.out]; rfl, by rw [HA.out.1]; exact Row.nil _ _, hbF⟩
end
end Go.Proofs.YtlkbohpnlbfopaaGreat
namespace Go.Proofs.YtlkbohpnlbfopaaGreat
open Go.RowKit
set_option linter.unusedVariables false
theorem ne_slot (x1 x2 y1 y2 : Int) (w : World) : (binOp .neq 59 (.agg #[.int .i64 x1, .int .i64 x2]) (.agg #[.int .i64 y1, .int .i64 y2])).run Tryz.prog w = .ok (.bool (!(x1 == y1 && x2 == y2))) w := by
  have u3 := Tryz.underlying3
  have a3 := Tryz.isAgg3
  have z3 := Tryz.sizeOf3
  have hS : Tryz.prog.underlying 59 = some (.struct (Tryz.prog.fieldsOf 59)) := by kernel_rfl
  have hp : Tryz.prog.stoodInHeld 59 = false := by kernel_rfl
  rw [run_neq_struct, show (10000 : Nat) = 9999 + 1 from rfl, run_equalIn_agg w 9999 59 _ _ hS hp]
  simp only [Program.fieldsOf, Tryz.underlying59]
  go_simp
  by_cases h1 : x1 = y1 <;> by_cases h2 : x2 = y2 <;> simp [h1, h2]
section
variable (g : Nat) (w : World)
end
end Go.Proofs.YtlkbohpnlbfopaaGreat
