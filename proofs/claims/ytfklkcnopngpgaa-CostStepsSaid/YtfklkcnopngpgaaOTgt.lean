/- The document's Tight. -/
import Derived.Test.YtfklkcnopngpgaaOFar
namespace Go.Proofs.Ytfklkcnopngpgaa
open Go.RowKit
set_option linter.unusedVariables false

def potB (P : List Int) : Bool := P.all fun x => decide (-1099511627776 ≤ x ∧ x ≤ 1099511627776)
theorem potB_iff {P : List Int} : potB P = true ↔ ∀ (v : Nat) (x : Int), P[v]? = some x → -1099511627776 ≤ x ∧ x ≤ 1099511627776 := by
  unfold potB
  rw [List.all_eq_true]
  constructor
  · intro h v x hx
    simpa using h x (List.mem_of_getElem? hx)
  · intro h x hx
    obtain ⟨v, hv⟩ := List.mem_iff_getElem?.1 hx
    simpa using h v x hv
/-- What is wrong with what Tight is asked. -/
def tightE (n : Int) (Z : List ArcT) (F P : List Int) : Int := if flowE n Z F = 0 then (if (P.length : Int) = n then (if potB P = true then 0 else 1) else 1) else flowE n Z F
/-- Is a step no longer than what the numbers say? -/
def tightS (Z : List ArcT) (P : List Int) (x : StepT) : Bool := decide (atI P (toS Z x) ≤ atI P (fromS Z x) + tmS Z x)
def tightB (n : Int) (Z : List ArcT) (F P : List Int) : Bool := if tightE n Z F P = 0 then (stepsK Z F Z.length).all (tightS Z P) else false
theorem tightE_ok {n : Int} {Z : List ArcT} {F P : List Int} (h : tightE n Z F P = 0) : flowE n Z F = 0 ∧ (P.length : Int) = n ∧ potB P = true := by
  unfold tightE at h
  split at h
  · next h1 =>
    split at h
    · next h2 =>
      split at h
      · next h3 => exact ⟨h1, h2, h3⟩
      · exact absurd h (by decide)
    · exact absurd h (by decide)
  · next h1 => exact absurd h h1
theorem tightB_iff {n : Int} {Z : List ArcT} {F P : List Int} (h : tightE n Z F P = 0) : tightB n Z F P = true ↔ TightF Z F (fun v => atI P v) := by
  unfold tightB
  rw [if_pos h, List.all_eq_true]
  constructor
  · intro ha x h1 h2
    have := ha x ((stepsK_mem (Nat.le_refl _)).2 ⟨h1, h1.2, h2⟩)
    unfold tightS at this
    rwa [decide_eq_true_eq] at this
  · intro ht x hx
    obtain ⟨h1, _, h2⟩ := (stepsK_mem (Nat.le_refl _)).1 hx
    unfold tightS
    rw [decide_eq_true_eq]
    exact ht x h1 h2
section
variable (n : Int) (b : Bool) (ao fo po : Option Addr) (cap fc pc : Nat) (Z : List ArcT) (F P : List Int)
set_option maxRecDepth 100000 in
set_option maxHeartbeats 8000000 in
theorem rtight_any (w : World) (h : Row encA 4 w ao Z) (hf : Lst encI w fo F) (hp : Lst encI w po P) (hz : Z.length ≤ maxLen) (hfl : F.length ≤ maxLen) (hpl : P.length ≤ maxLen) :
    Calls Try.prog 15 #[.agg #[.int .i64 n, .bool b, .slice ao Z.length cap], .slice fo F.length fc, .slice po P.length pc] w fun e w' => e = .returned (.tuple #[.bool (tightB n Z F P), .int .i64 (tightE n Z F P)]) ∧ Below w.heap.size w w' := by
  have hb00 := (Below.refl _ w).alloc (Nat.le_refl _) (.cells #[.int .i64 n, .bool b, .slice ao Z.length cap] 24)
  have HB0 := Lib.hid hb00
  have HN0 := Lib.hid (heap_alloc_new w (.cells #[.int .i64 n, .bool b, .slice ao Z.length cap] 24))
  have c0 := cell_whole HN0.out 0
  have c1 := cell_whole HN0.out 1
  have c2 := cell_whole HN0.out 2
  have HR := Lib.hid (h.below' hb00)
  have HF := Lib.hid (hf.below hb00)
  have HP := Lib.hid (hp.below hb00)
  have HZ := Lib.hid hz
  have HFL := Lib.hid hfl
  have HPL := Lib.hid hpl
  clear h hf hp hz hfl hpl hb00
  obtain ⟨e0, he⟩ : ∃ e0, flowE n Z F = e0 := ⟨_, rfl⟩
  have HE := Lib.hid he
  by_cases h0 : e0 = 0
  · subst h0
    obtain ⟨hR, hFl, hz2, hfz, hn1, hn2⟩ := flow_facts (b := b) he
    have HTN := Lib.hid (time_of hR)
    obtain ⟨N, rfl⟩ : ∃ N : Nat, n = (N : Int) := ⟨n.toNat, by omega⟩
    rw [Int.toNat_natCast] at HTN
    have HFZ := Lib.hid hfz
    clear he hR hFl hfz
    by_cases hl : (P.length : Int) = (N : Int)
    · have hlN : P.length = N := by omega
      subst hlN
      have HTE : Hid (tightE (P.length : Int) Z F P = if potB P = true then 0 else 1) := Lib.hid (by unfold tightE; rw [if_pos HE.out, if_pos rfl])
      have HPI := Lib.hid (potB_iff (P := P))
      clear hl
      go_enter Try.func15, Try.ntmps15
      go_wp2_with (first
        | (go_at_call 29; refine (rasked_is (P.length : Int) b ao fo cap fc Z F 0 _ HR.out HF.out HZ.out HFL.out HE.out).mono ?_; rintro e w1 ⟨rfl, hb1⟩; have HB1 := Lib.hid (HB0.out.trans (hb1.mono HB0.out.size)); have hn1 := kept_box HN0.out hb1; have HN1 := Lib.hid hn1; have HR1 := Lib.hid (HR.out.below' hb1); have HF1 := Lib.hid (HF.out.below hb1); have HP1 := Lib.hid (HP.out.below hb1); have c0 := cell_whole hn1 0; have c1 := cell_whole hn1 1; have c2 := cell_whole hn1 2; clear hb1 hn1))
      go_loopw [9] (fun iv wr => ∃ v : Nat, v ≤ P.length ∧ iv = .int .i64 (v : Int) ∧ Hid (∀ (u : Nat) (x : Int), u < v → P[u]? = some x → -1099511627776 ≤ x ∧ x ≤ 1099511627776) ∧ wr = w1) (fun iv _ => P.length - (intOf iv).toNat)
      case atStart => exact ⟨0, Nat.zero_le _, rfl, Lib.hid (fun u x h => by omega), rfl⟩
      case round =>
        obtain ⟨v, hv, rfl, HA, rfl⟩ := hrel
        by_cases hlt : v < P.length
        · have hli : (v : Int) < (P.length : Int) := by omega
          obtain ⟨pb, px, e, hpb, p0⟩ := HP1.out v hlt
          cases e
          have HPV := Lib.hid (List.getElem?_eq_getElem hlt)
          unfold encI at p0
          generalize P[v] = x at *
          by_cases hx1 : x < -1099511627776
          · have hd1 : decide (x < -1099511627776) = true := decide_eq_true hx1
            have HPB : Hid (potB P = false) := Lib.hid (by
              cases hb : potB P with
              | false => rfl
              | true => have := HPI.out.1 hb v x HPV.out; omega)
            have HT1 : Hid (tightE (P.length : Int) Z F P = 1) := Lib.hid (by rw [HTE.out, HPB.out]; rfl)
            have HT2 : Hid (tightB (P.length : Int) Z F P = false) := Lib.hid (by unfold tightB; rw [if_neg (by rw [HT1.out]; decide)])
            go_wp2
            go_ret2
            exact ⟨by rw [HT1.out, HT2.out]; rfl, HB1.out⟩
          · have hd1 : decide (x < -1099511627776) = false := decide_eq_false hx1
            by_cases hx2 : x > 1099511627776
            · have hd2 : decide (x > 1099511627776) = true := decide_eq_true hx2
              have HPB : Hid (potB P = false) := Lib.hid (by
                cases hb : potB P with
                | false => rfl
                | true => have := HPI.out.1 hb v x HPV.out; omega)
              have HT1 : Hid (tightE (P.length : Int) Z F P = 1) := Lib.hid (by rw [HTE.out, HPB.out]; rfl)
              have HT2 : Hid (tightB (P.length : Int) Z F P = false) := Lib.hid (by unfold tightB; rw [if_neg (by rw [HT1.out]; decide)])
              go_wp2
              go_ret2
              exact ⟨by rw [HT1.out, HT2.out]; rfl, HB1.out⟩
            · have hd2 : decide (x > 1099511627776) = false := decide_eq_false hx2
              have HA2 : Hid (∀ (u : Nat) (y : Int), u < v + 1 → P[u]? = some y → -1099511627776 ≤ y ∧ y ≤ 1099511627776) := Lib.hid (fun u y h1 h2 => by
                by_cases e : u = v
                · subst e
                  rw [HPV.out] at h2
                  cases h2
                  omega
                · exact HA.out u y (by omega) h2)
              go_wp2
              go_roundw
              case rel => exact ⟨v + 1, by omega, by go_num, HA2, by simp⟩
              case measure => simp [intOf]; omega
        · have hli : ¬ (v : Int) < (P.length : Int) := by omega
          obtain rfl : v = P.length := by omega
          have hpb : potB P = true := HPI.out.2 (fun u x h => HA.out u x (List.getElem?_eq_some_iff.1 h).1 h)
          have hte : tightE (P.length : Int) Z F P = 0 := by rw [HTE.out, if_pos hpb]
          have HT1 := Lib.hid hte
          have HT2 : Hid (tightB (P.length : Int) Z F P = (stepsK Z F Z.length).all (tightS Z P)) := Lib.hid (by unfold tightB; rw [if_pos hte])
          have HAP := Lib.hid (HPI.out.1 hpb)
          clear hpb hte
          go_wp2_with (first
            | (go_at_call 18; refine (rsteps_any (P.length : Int) b ao fo cap fc Z F _ HR1.out HF1.out HFZ.out (by omega)).mono ?_; rintro e w3 ⟨la, lc, rfl, hl3, hb3⟩; have HB3 := Lib.hid (HB1.out.trans (hb3.mono HB1.out.size)); have hn3 := kept_box HN1.out hb3; have HN3 := Lib.hid hn3; have HR3 := Lib.hid (HR1.out.below' hb3); have HP3 := Lib.hid (HP1.out.below hb3); have HL3 := Lib.hid hl3; clear hb3 hn3 hl3 c0 c1 c2))
          have hLl : (stepsK Z F Z.length).length ≤ 2000 := by have := stepsK_len Z F Z.length; omega
          have HMEM : Hid (∀ z ∈ stepsK Z F Z.length, isArc Z z) := Lib.hid (fun z hz => ((stepsK_mem (Nat.le_refl _)).1 hz).1)
          generalize stepsK Z F Z.length = L at *
          go_loopw [11] (fun iv wr => ∃ i : Nat, i ≤ L.length ∧ iv = .int .i64 (i : Int) ∧ Hid (∀ (u : Nat) (z : StepT), u < i → L[u]? = some z → tightS Z P z = true) ∧ Hid (Below w3.heap.size w3 wr)) (fun iv _ => L.length - (intOf iv).toNat)
          case atStart => exact ⟨0, Nat.zero_le _, rfl, Lib.hid (fun u z h => by omega), Lib.hid (Below.refl _ _)⟩
          case round =>
            obtain ⟨i, hi, rfl, HA, HB⟩ := hrel
            by_cases hiL : i < L.length
            · have hii : (i : Int) < (L.length : Int) := by omega
              have hz := List.getElem?_eq_getElem hiL
              have HLr := Lib.hid (HL3.out.below' HB.out)
              obtain ⟨lb, lx, e, hlb, s0, s1⟩ := step_at HLr.out hz
              cases e
              have hA := HMEM.out _ (List.getElem_mem hiL)
              generalize L[i] = z at *
              obtain ⟨zi, q⟩ := z
              obtain ⟨p, hp, hpl⟩ := isArc_nat hA
              subst hp
              simp only at s0 s1
              have ha : Z[p]? = some Z[p] := List.getElem?_eq_getElem hpl
              have hmem := List.mem_of_getElem? ha
              obtain ⟨hE1, hE2⟩ := begI_fromE ha (HTN.out.ends _ hmem) q
              have hxy : fromS Z ((p : Int), q) < P.length ∧ toS Z ((p : Int), q) < P.length := by
                have hm := HTN.out.lt _ hmem
                unfold fromS toS
                rw [arcOf_nat q ha]
                split <;> exact ⟨by omega, by omega⟩
              have htb := tmS_bd (q := q) ha (HTN.out.times _ hmem)
              have hti := timeI_tmS ha q
              have HA2 := Lib.hid ha
              have hta : -4398046511104 ≤ Z[p].2.2.2 ∧ Z[p].2.2.2 ≤ 4398046511104 := by
                have := HTN.out.times _ hmem
                unfold tm at this
                omega
              have HTA := Lib.hid hta
              have HTS : Hid (tightS Z P ((p : Int), q) = decide (atI P (toS Z ((p : Int), q)) ≤ atI P (fromS Z ((p : Int), q)) + tmS Z ((p : Int), q))) := Lib.hid rfl
              generalize Z[p] = a at *
              generalize tmS Z ((p : Int), q) = t at *
              generalize toS Z ((p : Int), q) = y at *
              generalize fromS Z ((p : Int), q) = x at *
              obtain ⟨hxN, hyN⟩ := hxy
              have hxi : (x : Int) < (P.length : Int) := by omega
              have hyi : (y : Int) < (P.length : Int) := by omega
              have hux := HAP.out x _ (atI_get hxN)
              have huy := HAP.out y _ (atI_get hyN)
              obtain ⟨pb, px, e, hpb, p0⟩ := lst_cell (HP3.out.below HB.out) (atI_get (d := P) (v := x) hxN)
              cases e
              obtain ⟨pb2, px2, e, hpb2, p1⟩ := lst_cell (HP3.out.below HB.out) (atI_get (d := P) (v := y) hyN)
              cases e
              unfold encI at p0 p1
              obtain ⟨gx, hgx⟩ : ∃ gx, atI P x = gx := ⟨_, rfl⟩
              obtain ⟨gy, hgy⟩ : ∃ gy, atI P y = gy := ⟨_, rfl⟩
              rw [hgx] at p0 hux HTS
              rw [hgy] at p1 huy HTS
              have hwr : IntKind.i64.wrap (gx + t) = gx + t := IntWalk.i64_in _ (by omega)
              have HWR := Lib.hid hwr
              have HZI := Lib.hid hz
              have HBE := Lib.hid hE1
              have HEN := Lib.hid hE2
              have HTI2 := Lib.hid hti
              clear hgx hgy hwr hE1 hE2 hti hA ha hmem hta hz
              have hn2 := kept_box HN3.out HB.out
              have v0 := cell_whole hn2 0
              have v1 := cell_whole hn2 1
              have v2 := cell_whole hn2 2
              have z0 : wr.drew.cell? ⟨w.heap.size, 0, none⟩ = some (.int .i64 (P.length : Int)) := v0
              have z1 : wr.drew.cell? ⟨w.heap.size, 1, none⟩ = some (.bool b) := v1
              have z2 : wr.drew.cell? ⟨w.heap.size, 2, none⟩ = some (.slice ao Z.length cap) := v2
              have z3 : wr.drew.cell? ⟨lb, lx + i * 2, none⟩ = some (.int .i64 (p : Int)) := s0
              have z4 : wr.drew.cell? ⟨lb, lx + i * 2 + 1, none⟩ = some (.bool q) := s1
              have z5 : wr.drew.cell? ⟨pb, px + x, none⟩ = some (.int .i64 gx) := p0
              have z6 : wr.drew.cell? ⟨pb, px + y, none⟩ = some (.int .i64 gy) := p1
              have HBx := Lib.hid (below_drew HB.out)
              have HRx : Hid (Row encA 4 wr.drew ao Z) := Lib.hid (HR3.out.below' HBx.out)
              clear hn2
              go_wp2_with fail
              go_cut [75] (fun pv wc => pv = .bool (decide (gx + t < gy)) ∧ Hid (Below w3.heap.size w3 wc))
              case first =>
                go_region_held3 (fun W => W.cell? ⟨w.heap.size, 0, none⟩ = some (.int .i64 (P.length : Int)) ∧ W.cell? ⟨w.heap.size, 1, none⟩ = some (.bool b) ∧ W.cell? ⟨w.heap.size, 2, none⟩ = some (.slice ao Z.length cap) ∧ W.cell? ⟨lb, lx + i * 2, none⟩ = some (.int .i64 (p : Int)) ∧ W.cell? ⟨lb, lx + i * 2 + 1, none⟩ = some (.bool q) ∧ W.cell? ⟨pb, px + x, none⟩ = some (.int .i64 gx) ∧ W.cell? ⟨pb, px + y, none⟩ = some (.int .i64 gy)) (first | exact ⟨v0, v1, v2, s0, s1, p0, p1⟩ | exact ⟨z0, z1, z2, z3, z4, z5, z6⟩ | go_keep)
                  (first
                    | (go_at_call 20; refine (rto_at (P.length : Int) b ao cap Z p q a _ HRx.out HA2.out (by omega)).mono ?_; rintro e w7 ⟨rfl, b6⟩; rw [HEN.out]; have z0 := cell_below b6 z0; have z1 := cell_below b6 z1; have z2 := cell_below b6 z2; have z3 := cell_below b6 z3; have z4 := cell_below b6 z4; have z5 := cell_below b6 z5; have z6 := cell_below b6 z6; have HRx := Lib.hid (HRx.out.below' b6); have HBx := Lib.hid (HBx.out.trans (b6.mono HBx.out.size)); clear b6)
                    | (go_at_call 19; refine (rfrom_at (P.length : Int) b ao cap Z p q a _ HRx.out HA2.out (by omega)).mono ?_; rintro e w7 ⟨rfl, b6⟩; rw [HBE.out]; have z0 := cell_below b6 z0; have z1 := cell_below b6 z1; have z2 := cell_below b6 z2; have z3 := cell_below b6 z3; have z4 := cell_below b6 z4; have z5 := cell_below b6 z5; have z6 := cell_below b6 z6; have HRx := Lib.hid (HRx.out.below' b6); have HBx := Lib.hid (HBx.out.trans (b6.mono HBx.out.size)); clear b6)
                    | (go_at_call 21; refine (rtime_at (P.length : Int) b ao cap Z p q a _ HRx.out HA2.out (by omega) HTA.out).mono ?_; rintro e w7 ⟨rfl, b6⟩; rw [HTI2.out]; have z0 := cell_below b6 z0; have z1 := cell_below b6 z1; have z2 := cell_below b6 z2; have z3 := cell_below b6 z3; have z4 := cell_below b6 z4; have z5 := cell_below b6 z5; have z6 := cell_below b6 z6; have HRx := Lib.hid (HRx.out.below' b6); have HBx := Lib.hid (HBx.out.trans (b6.mono HBx.out.size)); clear b6))
                all_goals
                  go_wp2
                  go_meet
                  exact ⟨by rw [HWR.out], HBx⟩
              case rest =>
                obtain ⟨rfl, HBy⟩ := hcut
                by_cases hgt : gy > gx + t
                · have hd : decide (gx + t < gy) = true := decide_eq_true (by omega)
                  have HNT : Hid (tightS Z P ((p : Int), q) = false) := Lib.hid (by rw [HTS.out]; exact decide_eq_false (by omega))
                  have HT3 : Hid (tightB (P.length : Int) Z F P = false) := Lib.hid (by
                    rw [HT2.out]
                    cases hall : L.all (tightS Z P) with
                    | false => rfl
                    | true =>
                      have := List.all_eq_true.1 hall _ (List.mem_of_getElem? HZI.out)
                      rw [HNT.out] at this
                      cases this)
                  have hgt2 : gx + t < gy := hgt
                  clear hgt
                  go_wp2
                  go_ret2
                  exact ⟨by rw [HT3.out, HT1.out]; rfl, HB3.out.trans (HBy.out.mono HB3.out.size)⟩
                · have hd : decide (gx + t < gy) = false := decide_eq_false (by omega)
                  have HYT : Hid (tightS Z P ((p : Int), q) = true) := Lib.hid (by rw [HTS.out]; exact decide_eq_true (by omega))
                  have HA3 : Hid (∀ (u : Nat) (z : StepT), u < i + 1 → L[u]? = some z → tightS Z P z = true) := Lib.hid (fun u z h1 h2 => by
                    by_cases e : u = i
                    · subst e
                      rw [HZI.out] at h2
                      cases h2
                      exact HYT.out
                    · exact HA.out u z (by omega) h2)
                  have hgt2 : ¬ gx + t < gy := fun h => hgt h
                  clear hgt
                  go_wp2
                  go_roundw
                  case rel => exact ⟨i + 1, by omega, by go_num, HA3, HBy⟩
                  case measure => simp [intOf]; omega
            · have hii : ¬ (i : Int) < (L.length : Int) := by omega
              obtain rfl : i = L.length := by omega
              have HT3 : Hid (tightB (P.length : Int) Z F P = true) := Lib.hid (by
                rw [HT2.out, List.all_eq_true]
                intro z hz
                obtain ⟨u, hu⟩ := List.mem_iff_getElem?.1 hz
                exact HA.out u z (List.getElem?_eq_some_iff.1 hu).1 hu)
              go_wp2
              go_ret2
              exact ⟨by rw [HT3.out, HT1.out]; rfl, HB3.out.trans (HB.out.mono HB3.out.size)⟩
    · have HTE : Hid (tightE (N : Int) Z F P = 1) := Lib.hid (by unfold tightE; rw [if_pos HE.out, if_neg hl])
      have HT2 : Hid (tightB (N : Int) Z F P = false) := Lib.hid (by unfold tightB; rw [if_neg (by rw [HTE.out]; decide)])
      have hf1 : ((P.length : Int) != (N : Int)) = true := by simpa using hl
      have hf2 : ((P.length : Int) == (N : Int)) = false := by simpa using hl
      have hf3 : (P.length == N) = false := by simp; omega
      clear hl
      go_enter Try.func15, Try.ntmps15
      go_wp2_with (first
        | (go_at_call 29; refine (rasked_is (N : Int) b ao fo cap fc Z F 0 _ HR.out HF.out HZ.out HFL.out HE.out).mono ?_; rintro e w1 ⟨rfl, hb1⟩; have HB1 := Lib.hid (HB0.out.trans (hb1.mono HB0.out.size)); have hn1 := kept_box HN0.out hb1; have c0 := cell_whole hn1 0; have c1 := cell_whole hn1 1; have c2 := cell_whole hn1 2; clear hb1 hn1))
      go_ret2
      exact ⟨by rw [HTE.out, HT2.out]; rfl, HB1.out⟩
  · have hf1 : (e0 != 0) = true := by simpa using h0
    have hf2 : (e0 == 0) = false := by simpa using h0
    have HTE : Hid (tightE n Z F P = e0) := Lib.hid (by unfold tightE; rw [if_neg (by rw [he]; exact h0), he])
    have HT2 : Hid (tightB n Z F P = false) := Lib.hid (by unfold tightB; rw [if_neg (by rw [HTE.out]; exact h0)])
    clear he h0
    go_enter Try.func15, Try.ntmps15
    go_wp2_with (first
      | (go_at_call 29; refine (rasked_is n b ao fo cap fc Z F e0 _ HR.out HF.out HZ.out HFL.out HE.out).mono ?_; rintro e w1 ⟨rfl, hb1⟩; have HB1 := Lib.hid (HB0.out.trans (hb1.mono HB0.out.size)); clear hb1))
    go_ret2
    exact ⟨by rw [HTE.out, HT2.out]; rfl, HB1.out⟩
end
end Go.Proofs.Ytfklkcnopngpgaa
