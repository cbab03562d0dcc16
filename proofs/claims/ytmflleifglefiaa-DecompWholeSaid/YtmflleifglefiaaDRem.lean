/- The least rest of arcs is taken away from each: package decomp's remove. -/
import Derived.Test.YtmflleifglefiaaDCyp
namespace Go.Proofs.Ytmflleifglefiaa
open Go.RowKit
set_option linter.unusedVariables false

theorem OwnC.capL {w : World} {B g nl cap : Nat} {L : List ArcT} (hl : L.length = nl) (h : OwnC w B (.slice (some ⟨g, 0, none⟩) nl cap) L) {j : Nat} {a : ArcT} (ha : L[j]? = some a) : w.cell? ⟨g, j * 4 + 2, none⟩ = some (.int .i64 a.2.2.1) ∧ w.frozen? ⟨g, j * 4 + 2, none⟩ = false := by
  subst hl
  exact h.cap ha
theorem OwnC.cutL {w : World} {B g nl cap : Nat} {L : List ArcT} (hl : L.length = nl) (h : OwnC w B (.slice (some ⟨g, 0, none⟩) nl cap) L) {j : Nat} {a : ArcT} (ha : L[j]? = some a) (c : Int) : OwnC (w.setCell ⟨g, j * 4 + 2, none⟩ (.int .i64 c)) B (.slice (some ⟨g, 0, none⟩) nl cap) (L.set j (a.1, a.2.1, c, a.2.2.2)) := by
  subst hl
  exact h.cut ha c
theorem OwnC.someL {w : World} {B nl cap : Nat} {ao : Option Addr} {L : List ArcT} (hl : L.length = nl) (h : OwnC w B (.slice ao nl cap) L) (h0 : 0 < nl) : ∃ g, ao = some ⟨g, 0, none⟩ ∧ B ≤ g ∧ g < w.heap.size := by
  subst hl
  obtain ⟨g, cap', e, h1, h2⟩ := own_someC h h0
  injection e with e1 _ _
  exact ⟨g, e1, h1, h2⟩
section
variable (N : Nat) (b : Bool) (B : Nat) (ao : Option Addr) (cap : Nat) (zo : Option Addr) (zc nl : Nat) (Z : List ArcT) (f : List Int)
set_option maxRecDepth 100000 in
set_option maxHeartbeats 8000000 in
theorem dremove_at (lo : Option Addr) (lc n : Nat) (l : List StepT) (w : World) (h : RstW w B ao cap zo nl Z f) (hnl : nl ≤ 200) (hl : l.length = n) (hL : Lst encI w lo (arcsL l)) (hs : ∀ ad, lo = some ad → 0 < n → ¬ OwnB (.slice ao nl cap) ad.block)
    (hcp : ∀ a ∈ Z, capN a ≤ 1048576) (u v : Nat) (hT : Takes Z f u v l) :
    Calls Try.prog 48 #[.agg #[.int .i64 (N : Int), .bool b, .slice ao nl cap, .slice zo nl zc], .slice lo n lc] w fun e w' => e = .returned (.agg #[.slice lo n lc, .int .i64 (leastK f l)]) ∧ RstW w' B ao cap zo nl Z (takeK (leastK f l) f l) ∧ Kept (OwnB (.slice ao nl cap)) w w' := by
  obtain ⟨hkb, hall, hlf, hbd⟩ := take_bd hcp h.flow hT
  obtain ⟨h1, hfl2, _, _, _⟩ := hT.props h.flow
  obtain ⟨l1, l2, l3⟩ := h.lens
  have hn0 : 0 < n := by rw [← hl]; exact List.length_pos_iff.2 hT.some
  have hnl0 : 0 < nl := by omega
  have hle : ∀ x ∈ l, atI f x.1.toNat ≤ 1048576 := fun x hx => by
    obtain ⟨p, hp, hpl⟩ := hall x hx
    have hpz : p < Z.length := by rw [h.len]; omega
    have h3 := h.flow.2 p _ (List.getElem?_eq_getElem hpz)
    have h4 := hcp _ (List.getElem_mem hpz)
    rw [hp, Int.toNat_natCast]
    omega
  have HTOP := Lib.hid (leastA_top hT.some hle)
  obtain ⟨g, rfl, hgB, hgw⟩ := h.own.someL l1 hnl0
  have hb00 := ((Below.refl _ w).alloc (Nat.le_refl _) (.cells #[.int .i64 (N : Int), .bool b, .slice (some ⟨g, 0, none⟩) nl cap, .slice zo nl zc] 57)).alloc (by simp) (.cells #[.slice none 0 0, .int .i64 0] 49)
  have hn00 := wholeD (heap_alloc_new w (.cells #[.int .i64 (N : Int), .bool b, .slice (some ⟨g, 0, none⟩) nl cap, .slice zo nl zc] 57)) (.cells #[.slice none 0 0, .int .i64 0] 49)
  have hx00 := heap_alloc_new (w.alloc (.cells #[.int .i64 (N : Int), .bool b, .slice (some ⟨g, 0, none⟩) nl cap, .slice zo nl zc] 57)) (.cells #[.slice none 0 0, .int .i64 0] 49)
  rw [show (w.alloc (.cells #[.int .i64 (N : Int), .bool b, .slice (some ⟨g, 0, none⟩) nl cap, .slice zo nl zc] 57)).heap.size = w.heap.size + 1 by simp] at hx00
  obtain ⟨g0, hg0⟩ : ∃ g0, w.heap.size = g0 := ⟨_, rfl⟩
  have HG0 := Lib.hid hg0
  have HB0 := Lib.hid hb00
  have HR0 := Lib.hid (h.below hb00)
  have HL0 := Lib.hid (hL.below hb00)
  have HN0 := Lib.hid hn00
  have HX0 := Lib.hid hx00
  rw [hg0] at HN0 HX0 hgw
  have HS := Lib.hid hs
  have HALL := Lib.hid hall
  have HBD := Lib.hid hbd
  have HFL2 := Lib.hid hfl2
  have HLN := Lib.hid hl
  have HF2 := Lib.hid l2
  have HSEP := Lib.hid h.sep
  have HZLT : Hid (∀ ad, zo = some ad → ad.block < g0) := Lib.hid (fun ad e => by rw [← hg0]; exact h.zer.lt ad e (by rw [zerosK_len]; exact hnl0))
  have HLEN := Lib.hid h.len
  have hn2 : n ≤ 200 := by omega
  obtain ⟨kk, hkk⟩ : ∃ kk, leastK f l = kk := ⟨_, rfl⟩
  rw [hkk] at HTOP HBD HFL2 hkb ⊢
  clear h hL hs hall hbd hfl2 hl l2 l3 hb00 hn00 hx00 hcp hT hle h1 hkk hlf l1
  go_enter Try.func48, Try.ntmps48
  go_wp2
  try rw [hg0]
  clear hg0
  generalize (w.alloc (.cells #[.int .i64 (N : Int), .bool b, .slice (some ⟨g, 0, none⟩) nl cap, .slice zo nl zc] 57)).alloc (.cells #[.slice none 0 0, .int .i64 0] 49) = w1 at *
  go_loopw [5, 12] (fun kv iv wr => ∃ m : Nat, m ≤ n ∧ iv = .int .i64 (m : Int) ∧ kv = .int .i64 (leastA f 1048576 (l.take m)) ∧ wr = w1) (fun _ iv _ => n - (intOf iv).toNat)
  case atStart => exact ⟨0, Nat.zero_le _, rfl, rfl, rfl⟩
  case round =>
    obtain ⟨m, hm, rfl, rfl, rfl⟩ := hrel
    by_cases hlt : m < n
    · have hli : (m : Int) < (n : Int) := by omega
      have hml : m < l.length := by rw [HLN.out]; exact hlt
      obtain ⟨p, hp, hpl⟩ := HALL.out _ (List.getElem_mem hml)
      have hpn : p < nl := by rw [← HF2.out]; exact hpl
      have hpi : (p : Int) < (nl : Int) := by omega
      obtain ⟨ab2, ax2, e1, _, a0⟩ := lst_cell HL0.out (arcsL_at hml)
      subst e1
      rw [hp] at a0
      have hpz : p < Z.length := by rw [HLEN.out]; exact hpn
      have hff : f[p] = atI f p := by unfold atI; rw [List.getD_eq_getElem?_getD, List.getElem?_eq_getElem hpl]; rfl
      have hg2 := restZ_get (List.getElem?_eq_getElem hpz) (List.getElem?_eq_getElem hpl)
      rw [hff] at hg2
      obtain ⟨c2, c2f⟩ := HR0.out.own.capL HR0.out.lens.1 hg2
      simp only at c2
      have HST : Hid (min (leastA f 1048576 (l.take m)) (atI f p) = leastA f 1048576 (l.take (m + 1))) := Lib.hid (by
        rw [List.take_succ_eq_append_getElem hml, leastA_snoc, hp, Int.toNat_natCast])
      have n2 := cell_whole HN0.out 2
      unfold encI at a0
      generalize leastA f 1048576 (l.take m) = k1 at *
      generalize atI f p = u at *
      clear hp hml hff hg2 hpz c2f
      go_wp2
      go_roundw
      case rel => exact ⟨m + 1, by omega, by go_num, by rw [← HST.out], by first | rfl | trivial⟩
      case measure => simp [intOf]; omega
    · have hli : ¬ (m : Int) < (n : Int) := by omega
      have HKF : Hid (leastA f 1048576 (l.take m) = kk) := Lib.hid (by rw [List.take_of_length_le (by rw [HLN.out]; omega)]; exact HTOP.out)
      rw [HKF.out]
      clear HKF
      go_wp2
      obtain ⟨wa, hwa⟩ : ∃ wa, wa = wr := ⟨_, rfl⟩
      subst hwa
      go_loopw [28] (fun iv wz => ∃ m : Nat, m ≤ n ∧ iv = .int .i64 (m : Int) ∧ Hid (OwnC wz B (.slice (some ⟨g, 0, none⟩) nl cap) (restZ Z (takeK kk f (l.take m)))) ∧ Hid (Kept (fun i => i = g) wa wz)) (fun iv _ => n - (intOf iv).toNat)
      case atStart => exact ⟨0, Nat.zero_le _, rfl, Lib.hid HR0.out.own, Lib.hid (Kept.refl _ _)⟩
      case round =>
        obtain ⟨m, hm, rfl, HO, HK⟩ := hrel
        have hbn := HK.out.old HN0.out (show ¬ g0 = g by omega)
        by_cases hlt2 : m < n
        · have hli2 : (m : Int) < (n : Int) := by omega
          have hml : m < l.length := by rw [HLN.out]; exact hlt2
          obtain ⟨p, hp, hpl⟩ := HALL.out _ (List.getElem_mem hml)
          have hpn : p < nl := by rw [← HF2.out]; exact hpl
          have hpi : (p : Int) < (nl : Int) := by omega
          have HLW := Lib.hid (lst_keptD HL0.out HK.out (fun ad e h0 q => HS.out ad e (by omega) (by subst q; rfl)))
          obtain ⟨ab2, ax2, e1, _, a0⟩ := lst_cell HLW.out (arcsL_at hml)
          subst e1
          have HTK := Lib.hid (takeK_snoc kk f (l.take m) l[m])
          obtain ⟨b0, b1⟩ := HBD.out m (by rw [HLN.out]; exact hm) p hpl
          have HFN := Lib.hid (takeK_len kk (l.take m) f)
          have HT2 : Hid (l.take (m + 1) = l.take m ++ [l[m]]) := Lib.hid (List.take_succ_eq_append_getElem hml)
          rw [hp] at a0 HTK
          rw [Int.toNat_natCast] at HTK
          obtain ⟨b2, b3⟩ := HBD.out (m + 1) (by rw [HLN.out]; exact hlt2) p hpl
          rw [HT2.out, HTK.out, atI_set (by rw [HFN.out]; exact hpl), if_pos rfl] at b2 b3
          have hpz : p < Z.length := by rw [HLEN.out]; exact hpn
          have hpl2 : p < (takeK kk f (l.take m)).length := by rw [HFN.out]; exact hpl
          have hff := atI_get (d := takeK kk f (l.take m)) (v := p) hpl2
          obtain ⟨az, haz⟩ : ∃ a, Z[p]? = some a := ⟨_, List.getElem?_eq_getElem hpz⟩
          have hg2 := restZ_get haz hff
          have hrl : (restZ Z (takeK kk f (l.take m))).length = nl := by rw [restZ_len (by rw [HFN.out, HF2.out, HLEN.out]), HLEN.out]
          obtain ⟨c2, c2f⟩ := HO.out.capL hrl hg2
          simp only at c2
          have HCUT := Lib.hid (fun c => HO.out.cutL hrl hg2 c)
          have HSET := Lib.hid (fun x => restZ_set Z (takeK kk f (l.take m)) p az x haz)
          have n2 := cell_whole hbn 2
          unfold encI at a0
          have HTS : Hid (takeK kk f (l.take (m + 1)) = (takeK kk f (l.take m)).set p (atI (takeK kk f (l.take m)) p - kk)) := Lib.hid (by rw [HT2.out, HTK.out])
          clear HT2 HTK hp hml hff hg2 haz hpz hpl2 hrl
          generalize atI (takeK kk f (l.take m)) p = y at *
          go_wp2
          go_roundw
          case rel => exact ⟨m + 1, by omega, by go_num, Lib.hid (by rw [HTS.out, ← HSET.out]; exact HCUT.out _), Lib.hid (HK.out.set (.inl rfl) _)⟩
          case measure => simp [intOf]; omega
        · have hli2 : ¬ (m : Int) < (n : Int) := by omega
          have HTA : Hid (OwnC wr B (.slice (some ⟨g, 0, none⟩) nl cap) (restZ Z (takeK kk f l))) := Lib.hid (by have := HO.out; rwa [List.take_of_length_le (by rw [HLN.out]; omega)] at this)
          have hbx := HK.out.old HX0.out (show ¬ g0 + 1 = g by omega)
          have x0 := cell_whole hbx 0
          have x1 := cell_whole hbx 1
          have f0 := frozen_whole hbx 0
          have f1 := frozen_whole hbx 1
          have HFI := Lib.hid (set_whole (set_whole hbx 0 (.slice lo n lc)) 1 (.int .i64 kk))
          have HOW : Hid (OwnC ((wr.setCell ⟨g0 + 1, 0, none⟩ (.slice lo n lc)).setCell ⟨g0 + 1, 1, none⟩ (.int .i64 kk)) B (.slice (some ⟨g, 0, none⟩) nl cap) (restZ Z (takeK kk f l))) := Lib.hid (own_set (own_set HTA.out hbx (by decide) 0 _) (set_whole hbx 0 _) (by decide) 1 _)
          have HKK : Hid (Kept (OwnB (.slice (some ⟨g, 0, none⟩) nl cap)) w ((wr.setCell ⟨g0 + 1, 0, none⟩ (.slice lo n lc)).setCell ⟨g0 + 1, 1, none⟩ (.int .i64 kk))) := Lib.hid (by
            have k1 : Kept (OwnB (.slice (some ⟨g, 0, none⟩) nl cap)) w wa := Kept.of_below HB0.out
            have k2 := k1.trans HK.out (fun i _ e => by subst e; rfl)
            have hg := HG0.out
            exact (k2.set (.inr (by omega)) _).set (.inr (by omega)) _)
          have HZR : Hid (Lst encI ((wr.setCell ⟨g0 + 1, 0, none⟩ (.slice lo n lc)).setCell ⟨g0 + 1, 1, none⟩ (.int .i64 kk)) zo (zerosK nl)) := Lib.hid (by
            have hzw := HR0.out.zer
            have hg := HG0.out
            have k2 : Kept (fun i => i = g ∨ i = g0 + 1) wa ((wr.setCell ⟨g0 + 1, 0, none⟩ (.slice lo n lc)).setCell ⟨g0 + 1, 1, none⟩ (.int .i64 kk)) := ((HK.out.mono (fun i _ e => .inl e)).set (.inl (.inr rfl)) _).set (.inl (.inr rfl)) _
            exact lst_keptD hzw k2 (fun ad e h0 q => by
              rcases q with q | q
              · exact HSEP.out ad e hnl0 (by subst q; rfl)
              · have := HZLT.out ad e
                omega))
          go_wp2
          have z0 := cell_whole HFI.out 0
          have z1 := cell_whole HFI.out 1
          generalize (wr.setCell ⟨g0 + 1, 0, none⟩ (.slice lo n lc)).setCell ⟨g0 + 1, 1, none⟩ (.int .i64 kk) = wz at *
          clear HFI
          refine bodyPost_ret (v := .agg #[.slice lo n lc, .int .i64 kk]) (by simp [results, Try.results48, go_sem, z0, z1]) rfl ?_
          exact ⟨rfl, ⟨HLEN.out, HFL2.out, HOW.out, HZR.out, HSEP.out⟩, HKK.out⟩
end
end Go.Proofs.Ytmflleifglefiaa
