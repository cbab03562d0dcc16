/- All cycles are taken away, arc by arc: package decomp's cycles. -/
import Derived.Test.YtmflleifglefiaaDLop
namespace Go.Proofs.Ytmflleifglefiaa
open Go.RowKit
set_option linter.unusedVariables false

section
variable (N : Nat) (b : Bool) (B : Nat) (ao : Option Addr) (cap : Nat) (zo : Option Addr) (zc nl : Nat) (Z : List ArcT) (F : List Int)
set_option maxRecDepth 100000 in
set_option maxHeartbeats 8000000 in
theorem dcycles_at (w : World) (h : RstW w B ao cap zo nl Z F) (hc : checkE (N : Int) Z = 0) (hnl : nl ≤ 200) (hN : N ≤ 50) :
    Calls Try.prog 26 #[.agg #[.int .i64 (N : Int), .bool b, .slice ao nl cap, .slice zo nl zc]] w fun e w' =>
      ∃ v X, e = .returned v ∧ ChI w' w.heap.size v X ∧ X.map (fun x => x.2) = (cycsF Z N F).map partI ∧ RstW w' B ao cap zo nl Z (restF Z N F) ∧ Kept (OwnB (.slice ao nl cap)) w w' := by
  have hb00 := (Below.refl _ w).alloc (Nat.le_refl _) (.cells #[.int .i64 (N : Int), .bool b, .slice ao nl cap, .slice zo nl zc] 57)
  have hn0 := heap_alloc_new w (.cells #[.int .i64 (N : Int), .bool b, .slice ao nl cap, .slice zo nl zc] 57)
  have c0 := cell_whole hn0 0
  have c1 := cell_whole hn0 1
  have c2 := cell_whole hn0 2
  have c3 := cell_whole hn0 3
  obtain ⟨hE1, hZ1, hC1, _⟩ := netD (b := true) (right_iff.1 hc)
  rw [Int.toNat_natCast] at hZ1
  have HZ1 := Lib.hid hZ1
  have HC1 := Lib.hid hC1
  have HC := Lib.hid hc
  have HB0 := Lib.hid hb00
  have HL0 := Lib.hid (Lop.start (h.below hb00))
  have HOB : Hid (∀ k, OwnB (.slice ao nl cap) k → k < w.heap.size) := Lib.hid (fun k hk => own_lt h.own hk)
  have HNI := Lib.hid (CycI.start (N := N) h.flow)
  have HZN := Lib.hid h.len
  have HBX := Lib.hid hn0
  obtain ⟨g0, hg0⟩ : ∃ g0, w.heap.size = g0 := ⟨_, rfl⟩
  have HG0 := Lib.hid hg0
  rw [hg0] at HBX HOB
  clear h hc hb00 hn0 hE1 hZ1 hC1
  go_enter Try.func26, Try.ntmps26
  go_wp2
  clear hg0 c0 c1 c2 c3
  generalize w.alloc (.cells #[.int .i64 (N : Int), .bool b, .slice ao nl cap, .slice zo nl zc] 57) = w1 at *
  go_loopw [3, 11] (fun rv iv wr => ∃ k f m X, k ≤ nl ∧ iv = .int .i64 ((k : Nat) : Int) ∧ Hid (∀ q, q < k → cycAt Z N f q = none) ∧ Hid (CycI Z N F f m X) ∧ Hid (Lop w1 wr B ao cap zo nl Z f rv X)) (fun _ iv _ => nl - (intOf iv).toNat)
  case atStart => exact ⟨0, F, Z.length, [], Nat.zero_le _, rfl, Lib.hid (fun q hq => by omega), HNI, HL0⟩
  case round =>
    clear HNI HL0
    obtain ⟨k, f, m, X, hk, rfl, HNO, HCI, HLP⟩ := hrel
    have hbw := HLP.out.kept.old HBX.out (fun q => by have := HOB.out _ q; omega)
    have c0 := cell_whole hbw 0
    have c1 := cell_whole hbw 1
    have c2 := cell_whole hbw 2
    have c3 := cell_whole hbw 3
    clear hbw
    by_cases hlt : k < nl
    · have hli : (k : Int) < (nl : Int) := by omega
      have HCALL := Lib.hid (dcycle_at N b B ao cap zo zc nl Z f k _ HLP.out.rst HC.out hnl hN hlt)
      go_wp2_with fail
      refine HCALL.out.mono ?_
      clear HCALL c0 c1 c2 c3
      intro e w4 hres
      obtain ⟨av4, rfl, ho4, hb4⟩ := hres.got
      have HO4 := Lib.hid ho4
      have HL4 := Lib.hid (HLP.out.next hb4)
      have HBV4 := Lib.hid (And.intro HLP.out.size (fun q (e : Value.ownBlock _ = some q) => own_lt HLP.out.row.row e))
      clear hres ho4 hb4
      go_wp2_with fail
      go_loopg [3, 5, 6] (m + 1) (fun gk rv av kv wr => ∃ f m X Bv, kv = .bool (cycAt Z N f k).isSome ∧ Hid (m < gk) ∧ Hid (∀ q, q < k → cycAt Z N f q = none) ∧ Hid (CycI Z N F f m X) ∧ Hid (Lop w1 wr B ao cap zo nl Z f rv X) ∧ Hid (∀ l, cycAt Z N f k = some l → OwnL encI wr Bv 3 av (arcsL l)) ∧ Hid (w1.heap.size ≤ Bv ∧ ∀ q, rv.ownBlock = some q → q < Bv))
      case atStart => exact ⟨f, m, X, _, rfl, Lib.hid (Nat.lt_succ_self _), HNO, HCI, HL4, HO4, HBV4⟩
      case round =>
        clear HNO HCI HLP HL4 HO4 HBV4
        obtain ⟨f, m, X, Bv, rfl, HMU, HNO, HCI, HLP, HOW, HBV⟩ := hrel
        obtain ⟨gk0, hgk⟩ : ∃ gk0, gk0 = gk := ⟨_, rfl⟩
        subst hgk
        obtain ⟨W, hW⟩ : ∃ W, cycAt Z N f k = W := ⟨_, rfl⟩
        have HWE := Lib.hid hW
        rw [hW] at HOW ⊢
        clear hW
        cases W with
        | none =>
          have HN2 : Hid (∀ q, q < k + 1 → cycAt Z N f q = none) := Lib.hid (fun q hq => by
            by_cases e : q = k
            · rw [e]; exact HWE.out
            · exact HNO.out q (by omega))
          go_wp2
          go_roundw
          case rel => exact ⟨k + 1, f, m, X, by omega, by go_num, HN2, HCI, HLP⟩
          case measure => simp [intOf]; omega
        | some l =>
          have ho := HOW.out l rfl
          obtain ⟨va, vc, rfl, hv⟩ := ho.lst
          have hkf : k < f.length := by rw [HCI.out.flow.1, HZN.out]; exact hlt
          have hcyc := cycK_hit HNO.out hkf HWE.out
          obtain ⟨⟨u, hT⟩, m2, rfl, hci2⟩ := HCI.out.next HZ1.out hcyc ((va, vc), (arcsL l, leastK f l)) rfl
          have HNO2 : Hid (∀ q, q < k → cycAt Z N (takeK (leastK f l) f l) q = none) := Lib.hid (fun q hq => cyc_less HZ1.out HCI.out.flow.1 (by rw [takeK_len]; exact HCI.out.flow.1) (hT.props HCI.out.flow).2.2.2.1 (HNO.out q hq))
          have HV := Lib.hid hv
          have HVO : Hid (∀ ad, va = some ad → Bv ≤ ad.block) := Lib.hid (fun ad e => by subst e; exact own_block ho rfl)
          have HT := Lib.hid hT
          have HCI2 := Lib.hid hci2
          have HAL := Lib.hid (arcsL_len l)
          obtain ⟨n, hn⟩ : ∃ n, (arcsL l).length = n := ⟨_, rfl⟩
          have HLN : Hid (l.length = n) := Lib.hid (by rw [← hn, HAL.out])
          have HAN := Lib.hid hn
          obtain ⟨rc, rcc, hrv, _⟩ := HLP.out.row.slice
          have hXl : X.length ≤ 200 := by have h1 := HCI.out.len; have h2 := HZN.out; omega
          rw [hn]
          have hbw := HLP.out.kept.old HBX.out (fun q => by have := HOB.out _ q; omega)
          have c0 := cell_whole hbw 0
          have c1 := cell_whole hbw 1
          have c2 := cell_whole hbw 2
          have c3 := cell_whole hbw 3
          obtain ⟨kk, hkk⟩ : ∃ kk, leastK f l = kk := ⟨_, rfl⟩
          have HKE := Lib.hid hkk
          obtain ⟨f2, hf2⟩ : ∃ f2, takeK (leastK f l) f l = f2 := ⟨_, rfl⟩
          have HFE := Lib.hid hf2
          rw [hf2, hkk] at HCI2
          rw [hf2] at HNO2
          subst hrv
          clear ho hv hT hci2 hn hkk hf2 hbw HOW hcyc hkf
          go_wp2_with (first
            | (go_at_call 48; refine (dremove_at N b B ao cap zo zc nl Z f va vc n l _ HLP.out.rst hnl HLN.out HV.out (fun ad e h0 q => by have h1 := HVO.out ad e; have h2 := HBV.out.1; have h3 := HLP.out.ob _ q; omega) HC1.out u u HT.out).mono ?_; rw [HFE.out, HKE.out]; rintro e w5 ⟨rfl, hr5, hk5⟩; have HR5 := Lib.hid hr5; have HK5 := Lib.hid hk5; have HV5 := Lib.hid (lst_keptD HV.out hk5 (fun ad e h0 q => by have h1 := HVO.out ad e; have h2 := HBV.out.1; have h3 := HLP.out.ob _ q; omega)); have HCH := Lib.hid ((HLP.out.row.keptS hk5 HLP.out.ob).below ((Below.refl w5.heap.size w5).alloc (Nat.le_refl _) (.cells #[.slice va n vc, .int .i64 kk] 49))); have HSZ := Lib.hid (Nat.le_trans HLP.out.size hk5.size); clear hr5 hk5 c0 c1 c2 c3)
            | (at_builtin; refine wpList_append_chain rfl _ _ rfl w1.heap.size (.slice rc X.length rcc) X ((va, vc), (arcsL l, kk)) rfl HCH.out _ 1 rfl (cellsC3 _ 49 _ (by simp) va vc n (arcsL l) kk HAN.out) (by omega) (by have h1 := HSZ.out; simp; omega) ?_; intro g7 cap7 w7 ho7 hg7 hl7 hb7 hlt7; have HL7 := Lib.hid (HLP.out.grow (x := ((va, vc), (arcsL l, kk))) HR5.out HK5.out HV5.out (fun ad e h0 => ⟨by have h1 := HVO.out ad e; have h2 := HBV.out.1; omega, fun q => by have h1 := HVO.out ad e; have h2 := HBV.out.2 _ q; omega⟩) ho7 hg7 hl7); have hbw := HL7.out.kept.old HBX.out (fun q => by have := HOB.out _ q; omega); have c0 := cell_whole hbw 0; have c1 := cell_whole hbw 1; have c2 := cell_whole hbw 2; have c3 := cell_whole hbw 3; have HLT := Lib.hid hlt7; clear ho7 hg7 hl7 hb7 hbw hlt7)
            | (go_at_call 47; refine (dcycle_at N b B ao cap zo zc nl Z f2 k _ HL7.out.rst HC.out hnl hN hlt).mono ?_; intro e w8 hres; obtain ⟨av8, rfl, ho8, hb8⟩ := hres.got; have HO8 := Lib.hid ho8; have HL8 := Lib.hid (HL7.out.next hb8); clear hres ho8 hb8 c0 c1 c2 c3))
          go_roundg (m2 + 1)
          case measure => have := HMU.out; omega
          case rel => exact ⟨f2, m2, _, w7.heap.size, rfl, Lib.hid (Nat.lt_succ_self _), HNO2, HCI2, HL8, HO8, Lib.hid ⟨HL7.out.size, fun q e => by cases e; exact HLT.out⟩⟩
    · have hli : ¬ (k : Int) < (nl : Int) := by omega
      obtain rfl : k = nl := by omega
      have HDN := Lib.hid (HCI.out.done (cycK_end (fun q hq => HNO.out q (by rw [HCI.out.flow.1, HZN.out] at hq; exact hq))))
      go_wp2
      go_ret
      exact ⟨_, rfl, X, HLP.out.row.mono HB0.out.size, HDN.out.1, by rw [← HDN.out.2]; exact HLP.out.rst, (Kept.of_below HB0.out).trans' HLP.out.kept⟩
end
end Go.Proofs.Ytmflleifglefiaa
