/- The flow is filled along fastest ways until none is within the horizon: package span's fillAll. -/
import Derived.Test.YtekcnglkfglbfaaGHst
import Derived.Test.YtekcnglkfglbfaaGPth
import Derived.Test.YtekcnglkfglbfaaGFil
namespace Go.Proofs.Ytekcnglkfglbfaa
open Go.RowKit
set_option linter.unusedVariables false

theorem wayF_yes {n s t : Int} {Z : List ArcT} {F : List Int} (h1 : flowE n Z F = 0) (h2 : endsE n Z s t = 0) : wayF n Z F s t = wayK (fromS Z) (toS Z) (stepsK Z F Z.length) n.toNat s.toNat t.toNat := by
  unfold wayF
  rw [if_pos]
  unfold pathE
  rw [if_pos h1, h2]
section
variable (p N : Nat) (b : Bool) (ao : Option Addr) (cap : Nat) (Z : List ArcT) (s t : Nat)
/-- What path tells of the arcs that can be on fastest ways: a way, or that there is none. -/
theorem pway_is {F : List Int} {d : List (Option Int)} {k : Int} (hE : endsE (N : Int) Z (s : Int) (t : Int) = 0) (hI : FastI Z N s t d F k) {w : World} {e : Ending} {w' : World} (h : PPathRes F (fastZ (valsO d) Z) N s t w e w') :
    (∃ a c P, e = .returned (.tuple #[.slice a P.length c, .bool true]) ∧ Row encS 2 w' a P ∧ Below w.heap.size w w' ∧ wayK (fromS (fastZ (valsO d) Z)) (toS (fastZ (valsO d) Z)) (stepsK (fastZ (valsO d) Z) (minF F (fastZ (valsO d) Z)) (fastZ (valsO d) Z).length) N s t = some P) ∨
    ((∃ v, e = .returned (.tuple #[v, .bool false])) ∧ Below w.heap.size w w' ∧ wayK (fromS (fastZ (valsO d) Z)) (toS (fastZ (valsO d) Z)) (stepsK (fastZ (valsO d) Z) (minF F (fastZ (valsO d) Z)) (fastZ (valsO d) Z).length) N s t = none) := by
  obtain ⟨a, c, rfl, hr, hb⟩ := h
  have hc := (endsE_ok hE).1
  have hcap : ∀ x ∈ Z, 0 ≤ capN x := fun x hx => ((span_of (b := true) (right_iff.1 hc)).caps x hx).1
  have hw := wayF_yes (fast_flowE (V := valsO d) hc hI.flow.1 hcap) (fast_endsE (V := valsO d) hE)
  rw [Int.toNat_natCast, Int.toNat_natCast, Int.toNat_natCast] at hw
  rw [← hw]
  unfold wayL wayB at *
  cases hq : wayF (N : Int) (fastZ (valsO d) Z) (minF F (fastZ (valsO d) Z)) (s : Int) (t : Int) with
  | some P =>
    rw [hq] at hr
    exact .inl ⟨a, c, P, rfl, hr, hb, rfl⟩
  | none => exact .inr ⟨⟨_, rfl⟩, hb, rfl⟩
theorem flowE_st {N i j : Nat} {Z : List ArcT} {G : List Int} {v : Int} (he : endsE (N : Int) Z (i : Int) (j : Int) = 0) (h : FlowST Z N i j G v) : flowE (N : Int) Z G = 0 := (valE_ok (of_st he h).1).2.1
set_option maxRecDepth 100000 in
set_option maxHeartbeats 8000000 in
theorem pfillall_at (H : Int) (fo : Option Addr) (fc : Nat) (F : List Int) (k : Int) (m : Int) (z : Bool) (xo : Option Addr) (xc : Nat) (X : List ArcT) (w : World) (h : SpW w p N b ao cap Z s t fo fc F m z xo xc X) (hE : endsE (N : Int) Z (s : Int) (t : Int) = 0) (hI : BestI Z N s t H F k) :
    Calls Try.prog 29 #[.pointer (some ⟨p, 0, none⟩), .int .i64 H] w fun e w' => ∃ fo' fc' F' k' m' z' xo' xc' X', e = .returned (.tuple #[]) ∧ SpW w' p N b ao cap Z s t fo' fc' F' m' z' xo' xc' X' ∧ Kept (fun i => i = p) w w' ∧ BestI Z N s t H F' k' ∧ ∀ x, getO (dN Z F' N s N) t = some x → H < x := by
  obtain ⟨hc, i', j', e1, e2, hs, ht, hne⟩ := endsE_ok hE
  rw [Int.toNat_natCast] at hs ht
  obtain rfl : i' = s := by omega
  obtain rfl : j' = t := by omega
  have hsp := span_of (b := true) (right_iff.1 hc)
  rw [Int.toNat_natCast] at hsp
  have hzl := hsp.len
  have HSN := Lib.hid hsp
  have HEE := Lib.hid hE
  have HNE := Lib.hid hne
  have HW := Lib.hid h
  have HI := Lib.hid hI
  obtain ⟨M, hM⟩ : ∃ M, mostG Z i' = M := ⟨_, rfl⟩
  have HM : Hid (∀ f k, FlowST Z N i' j' f k → k ≤ M) := Lib.hid (fun f k h => by rw [← hM]; exact le_mostG hsp.lt hs hne h)
  clear h hE hI hc e1 e2 hM hne hsp
  go_enter Try.func29, Try.ntmps29
  go_wp2
  go_step3
  go_wp2
  go_step3
  go_wp2
  go_loopg [] ((H + 1 - valO (getO (dN Z F N i' N) j')).toNat + 1) (fun g wr => ∃ fo fc F k m z xo xc X lo, Hid ((H + 1 - lo).toNat < g) ∧ Hid (∀ x, getO (dN Z F N i' N) j' = some x → lo ≤ x) ∧ Hid (SpW wr p N b ao cap Z i' j' fo fc F m z xo xc X) ∧ Hid (BestI Z N i' j' H F k) ∧ Hid (Kept (fun i => i = p) w wr))
  case atStart => exact ⟨fo, fc, F, k, m, z, xo, xc, X, _, Lib.hid (Nat.lt_succ_self _), Lib.hid (fun x hx => by rw [hx]; exact Int.le_refl _), HW, HI, Lib.hid (Kept.refl _ _)⟩
  case round =>
    clear HW HI
    obtain ⟨fo, fc, F, k, m, z, xo, xc, X, lo, HMU, HLO, HW, HI, HK⟩ := hrel
    obtain ⟨gk0, hgk⟩ : ∃ gk0, gk0 = gk := ⟨_, rfl⟩
    subst hgk
    have HFE := Lib.hid (flowE_st HEE.out HI.out.flow)
    have HCM := Lib.hid ((calmN_iff HSN.out.lt hs).2 (HI.out.calm i'))
    by_cases hno : ∀ x, getO (dN Z F N i' N) j' = some x → H < x
    · have HNO := Lib.hid hno
      clear hno
      go_wp2_with (first
        | (go_at_call 41; refine (phasten_no p N b ao cap Z i' j' fo fc F m z xo xc X H _ HW.out HFE.out hs ht HCM.out HNO.out).mono ?_; rintro e w2 ⟨rfl, hb2⟩; have HW2 := Lib.hid (HW.out.next hb2); have HK2 := Lib.hid (HK.out.trans (Kept.of_below (S := fun i => i = p) hb2) (fun i _ e => e)); clear hb2))
      rw [Exit.noGoto_normal]
      refine bodyPost_end (results_none rfl _ _ _) rfl ?_
      exact ⟨_, _, _, _, _, _, _, _, _, rfl, HW2.out, HK2.out, HI.out, HNO.out⟩
    · obtain ⟨x, hx, hxH⟩ : ∃ x, getO (dN Z F N i' N) j' = some x ∧ x ≤ H := by
        refine Classical.byContradiction fun hn => hno fun x hx => ?_
        refine Classical.byContradiction fun hl => hn ⟨x, hx, by omega⟩
      have HX := Lib.hid hx
      have hlx := HLO.out x hx
      have h0 := d_start (F := F) HSN.out.lt hs (HI.out.calm i')
      have HFI2 := Lib.hid (FastI.start HSN.out hs HI.out)
      clear hno hx
      go_wp2_with (first
        | (go_at_call 41; refine (phasten_yes p N b ao cap Z i' j' fo fc F m z xo xc X H x _ HW.out HFE.out hs ht HCM.out HX.out hxH).mono ?_; rintro e w2 ⟨xo2, xc2, rfl, hw2, hk2⟩; have HW2 := Lib.hid hw2; have HK2 := Lib.hid (HK.out.trans hk2 (fun i _ e => e)); clear hw2 hk2))
      obtain ⟨d, hd⟩ : ∃ d, dN Z F N i' N = d := ⟨_, rfl⟩
      rw [hd] at HX h0 HFI2 HW2
      have HD0 := Lib.hid h0
      clear hd h0 HW HK HI HFE HCM
      obtain ⟨k0, hk0⟩ : ∃ k0, k0 = k := ⟨_, rfl⟩
      subst hk0
      go_loopg [] ((M - k0).toNat + 1) (fun g wi => ∃ fo fc F k, Hid ((M - k).toNat < g) ∧ Hid (SpW wi p N b ao cap Z i' j' fo fc F (N : Int) b xo2 xc2 (fastZ (valsO d) Z)) ∧ Hid (FastI Z N i' j' d F k) ∧ Hid (Kept (fun i => i = p) w wi))
      case atStart => exact ⟨fo, fc, F, k0, Lib.hid (Nat.lt_succ_self _), HW2, HFI2, HK2⟩
      case round =>
        clear HW2 HK2 HFI2
        obtain ⟨fo, fc, F, k, HM2, HW, HFI, HK⟩ := hrel
        have HFE := Lib.hid (flowE_st HEE.out HFI.out.flow)
        have HCALL := Lib.hid (ppath_at p N b ao cap Z i' j' fo fc F xo2 xc2 (fastZ (valsO d) Z) wr HW.out (by rw [fastZ_len]; exact HFI.out.flow.1.1) (by rw [fastZ_len]; exact hzl))
        go_wp2_with fail
        refine HCALL.out.mono ?_
        rintro e w4 hres
        rcases pway_is N Z i' j' HEE.out HFI.out hres with ⟨pa, pc, P, rfl, hP, hb4, hwk⟩ | ⟨⟨v, rfl⟩, hb4, hwk⟩
        · obtain ⟨f1, f2, f3, f4, f5, f6⟩ := FastI.next HSN.out hs ht HNE.out HFI.out HD0.out hwk
          have HW4 := Lib.hid (HW.out.next hb4)
          have HK4 := Lib.hid (HK.out.trans (Kept.of_below (S := fun i => i = p) hb4) (fun i _ e => e))
          have HP := Lib.hid hP
          have HF1 := Lib.hid f1
          have HF3 := Lib.hid f3
          have HF4 := Lib.hid f4
          have HF5 := Lib.hid f5
          have HF6 := Lib.hid f6
          have hPl : P.length ≤ 1000 := by omega
          clear HCALL hres hP hb4 hwk f1 f2 f3 f4 f5 f6
          go_wp2_with (first
            | (go_at_call 43; refine (pfill_at p N b ao cap Z i' j' fo fc F (N : Int) b xo2 xc2 (fastZ (valsO d) Z) pa pc P _ HW4.out HFE.out HP.out HF1.out hPl HF3.out HF5.out (by have := HF4.out; omega)).mono ?_; rintro e w5 ⟨g5, rfl, hw5, hk5⟩; have HW5 := Lib.hid hw5; have HK5 := Lib.hid (HK4.out.trans hk5 (fun i _ e => e)); clear hw5 hk5))
          have HW6 : Hid (SpW w5 p N b ao cap Z i' j' (some ⟨g5, 0, none⟩) F.length (pushL Z (botK Z F P) F P).2 (N : Int) b xo2 xc2 (fastZ (valsO d) Z)) := HW5
          go_roundg ((M - (k + botK Z F P)).toNat + 1)
          case measure =>
            have h1 := HM2.out
            have h2 := HM.out _ _ HF6.out.flow
            have h3 := HF4.out
            omega
          case rel => exact ⟨_, _, _, k + botK Z F P, Lib.hid (Nat.lt_succ_self _), HW6, HF6, HK5⟩
        · have HW4 := Lib.hid (HW.out.next hb4)
          have HK4 := Lib.hid (HK.out.trans (Kept.of_below (S := fun i => i = p) hb4) (fun i _ e => e))
          have HDN := Lib.hid (fun z hz => FastI.done HSN.out hs ht HFI.out HD0.out HX.out hwk (z := z) hz)
          have HBI := Lib.hid (FastI.best (H := H) HFI.out HD0.out HX.out hxH)
          clear HCALL hres hb4 hwk
          go_wp2
          go_roundg ((H + 1 - (x + 1)).toNat + 1)
          case measure =>
            have h1 := HMU.out
            omega
          case rel => exact ⟨_, _, _, k, _, _, _, _, _, x + 1, Lib.hid (Nat.lt_succ_self _), Lib.hid (fun z hz => by have := HDN.out z hz; omega), HW4, HBI, HK4⟩
end
end Go.Proofs.Ytekcnglkfglbfaa
