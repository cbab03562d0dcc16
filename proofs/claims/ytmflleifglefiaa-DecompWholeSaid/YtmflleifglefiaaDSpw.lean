/- The document's Split of layer 13: the walk. -/
import Derived.Test.YtmflleifglefiaaDSpl
namespace Go.Proofs.Ytmflleifglefiaa
open Go.RowKit
set_option linter.unusedVariables false

theorem wholeD {w : World} {g : Nat} {o : Obj} (h : w.heap[g]? = some o) (x : Obj) : (w.alloc x).heap[g]? = some o := alloc_whole h x
/-- What a right network's numbers are. -/
theorem netD {n : Int} {b : Bool} {Z : List ArcT} (hR : Right (n, b, Z)) : (∀ a ∈ Z, a.1 = (frN a : Int) ∧ a.2.1 = (toN a : Int)) ∧ (∀ a ∈ Z, frN a < n.toNat ∧ toN a < n.toNat) ∧ (∀ a ∈ Z, capN a ≤ 1048576) ∧ Z.length ≤ 200 ∧ n.toNat ≤ 50 := by
  have hn := nodesE_ok hR.1
  simp only at hn
  refine ⟨fun a ha => ?_, fun a ha => ?_, fun a ha => ?_, hR.2.1, by omega⟩ <;> obtain ⟨h1, h2, h3, h4, h5, h6⟩ := right_arc hR ha
  · exact ⟨h1, h2⟩
  · exact ⟨h3, h4⟩
  · obtain ⟨h7, h8⟩ := arcE_ok (hR.2.2 a ha)
    unfold badEnds at h7
    unfold bigArc at h8
    unfold capN
    omega
theorem row_keptD {α : Type} {enc : α → List Value} {k : Nat} {S : Nat → Prop} {w w' : World} {ao : Option Addr} {A : List α} (h : Row enc k w ao A) (hk : Kept S w w') (hn : ∀ ad, ao = some ad → 0 < A.length → ¬ S ad.block) : Row enc k w' ao A := by
  intro i hi
  obtain ⟨b, o, e, hb, hc⟩ := h i hi
  exact ⟨b, o, e, Nat.lt_of_lt_of_le hb hk.size, fun j hj => (cell_of_block (hk.block b hb (hn _ e (by omega)))).trans (hc j hj)⟩
theorem cellsC3 (w : World) (t : TypeId) (g : Nat) (hg : w.heap.size = g) (va : Option Addr) (vc nl : Nat) (L : List Int) (k : Int) (hn : L.length = nl) : ∀ j, j < 2 → (w.alloc (.cells #[.slice va nl vc, .int .i64 k] t)).cell? ⟨g, j, none⟩ = (encC ((va, vc), (L, k)))[j]? := by
  subst hn
  exact cellsC2 w t g hg ((va, vc), (L, k))
theorem own_nilD {w : World} {B n c : Nat} {ao : Option Addr} {L : List Int} (h : OwnL encI w B 3 (.slice ao n c) L) : ao = none → c = 0 := by
  intro e
  subst e
  rcases h.2 with ⟨h0, _⟩ | ⟨g', cap', cur, e1, _⟩
  · injection h0
  · cases e1
/-- taken, its length as a letter. -/
theorem rtaken_L (fo ao : Option Addr) (fc ac nl : Nat) (F : List Int) (l : List StepT) (hl : l.length = nl) (h0 : l ≠ []) (w : World) (hf : Lst encI w fo F) (hA : Lst encI w ao (arcsL l)) (hnil : fo = none → fc = 0) (hfl : F.length ≤ 50000) (hll : nl ≤ 50000) (hall : ∀ x ∈ l, ∃ p : Nat, x.1 = (p : Int) ∧ p < F.length)
    (hbd : ∀ m, m ≤ l.length → ∀ p, p < F.length → -8796093022208 ≤ atI (takeK (leastK F l) F (l.take m)) p ∧ atI (takeK (leastK F l) F (l.take m)) p ≤ 8796093022208) (hk : -8796093022208 ≤ leastK F l ∧ leastK F l ≤ 8796093022208) :
    Calls Try.prog 29 #[.slice fo F.length fc, .slice ao nl ac] w fun e w' => ∃ v, e = .returned (.tuple #[.agg #[.slice ao nl ac, .int .i64 (leastK F l)], v]) ∧ OwnL encI w' w.heap.size 3 v (takeK (leastK F l) F l) ∧ Below w.heap.size w w' := by
  subst hl
  cases l with
  | nil => exact absurd rfl h0
  | cons x0 r => exact rtaken_any fo ao fc ac F x0 r w hf hA hnil hfl hll hall hbd hk
/-- What lies about in a round: the box of both rows, the row that grows, and what is kept. -/
structure XB (w3 wr : World) (gx B : Nat) (c0 c1 v : Value) (X : List ChT) : Prop where
  box : wr.heap[gx]? = some (.cells #[c0, c1] 32 (0, 0))
  row : ChI wr B v X
  kept : Kept (fun i => i = gx) w3 wr
  big : w3.heap.size ≤ B ∧ B ≤ wr.heap.size
  lt : gx < w3.heap.size
section
variable {w3 wr w5 w6 : World} {gx B : Nat} {c0 c1 v : Value} {X : List ChT}
theorem XB.next (h : XB w3 wr gx B c0 c1 v X) (hb : Below wr.heap.size wr w5) : XB w3 w5 gx B c0 c1 v X :=
  ⟨kept_box h.box hb, h.row.below hb, h.kept.trans (Kept.of_below (S := fun i => i = gx) hb) (fun i _ e => e), ⟨h.big.1, Nat.le_trans h.big.2 hb.size⟩, h.lt⟩
/-- One chain more: the row has grown, the rest is as it was. -/
theorem XB.grow {g cap : Nat} {x : ChT} {fo : Option Addr} {f : List Int} {vr : Value} (h : XB w3 wr gx B c0 c1 v X) (hb : Below wr.heap.size wr w5) (hx : Lst encI w5 x.1.1 x.2.1) (hxb : ∀ ad, x.1.1 = some ad → 0 < x.2.1.length → wr.heap.size ≤ ad.block)
    (hf : Lst encI w5 fo f) (hfb : ∀ ad, fo = some ad → 0 < f.length → wr.heap.size ≤ ad.block)
    (ho : w6.ownsRow B 49 2 (.slice (some ⟨g, 0, none⟩) (X.length + 1) cap) (X ++ [x]).length ((X ++ [x]).flatMap encC)) (hg : w5.grownBy w6 v.ownBlock) (hl : v.ownBlock = some g ∨ g = w5.heap.size) (j : Nat) :
    w6.heap[gx]? = some (.cells #[c0, c1] 32 (0, 0)) ∧ ChI (w6.setCell ⟨gx, j, none⟩ (.slice (some ⟨g, 0, none⟩) (X.length + 1) cap)) B (.slice (some ⟨g, 0, none⟩) (X.length + 1) cap) (X ++ [x]) ∧ Lst encI (w6.setCell ⟨gx, j, none⟩ (.slice (some ⟨g, 0, none⟩) (X.length + 1) cap)) fo f ∧ Kept (fun i => i = gx) w3 (w6.setCell ⟨gx, j, none⟩ (.slice (some ⟨g, 0, none⟩) (X.length + 1) cap)) ∧ B ≤ (w6.setCell ⟨gx, j, none⟩ (.slice (some ⟨g, 0, none⟩) (X.length + 1) cap)).heap.size := by
  have hv : ∀ k, v.ownBlock = some k → B ≤ k ∧ k < wr.heap.size := fun k e => ⟨own_block h.row.row e, own_lt h.row.row e⟩
  have hbs := h.big
  have hlt := h.lt
  have h5 := h.next hb
  have hk := Kept.of_grown (S := fun i => v.ownBlock = some i) hg (fun k e => e)
  have hk2 : Kept (fun i => i = gx) w6 (w6.setCell ⟨gx, j, none⟩ (.slice (some ⟨g, 0, none⟩) (X.length + 1) cap)) := (Kept.refl (fun i => i = gx) w6).set (.inl rfl) _
  have hbx := hk.old h5.box (fun e => by have := hv gx e; omega)
  have hxv : ∀ ad, x.1.1 = some ad → 0 < x.2.1.length → B ≤ ad.block ∧ v.ownBlock ≠ some ad.block := fun ad e h0 => ⟨by have := hxb ad e h0; omega, fun e2 => by have h1 := hxb ad e h0; have h2 := hv _ e2; omega⟩
  have hs6 := hk2.size
  refine ⟨hbx, (h5.row.add hx hxv ho hg hl).set (by omega) j _, ?_, ?_, ?_⟩
  · exact lst_keptD (lst_grownD hf hg (fun ad e h0 e2 => by have h1 := hfb ad e h0; have h2 := hv _ e2; omega)) hk2 (fun ad e h0 q => by have h1 := hfb ad e h0; have h2 : ad.block = gx := q; omega)
  · exact (h5.kept.trans hk (fun i hi e => by have := hv i e; omega)).trans hk2 (fun i _ e => e)
  · have := h5.big; have := hk.size; omega
end
section
variable (n : Int) (b : Bool) (ao fo : Option Addr) (cap fc : Nat) (Z : List ArcT) (F : List Int)
set_option maxRecDepth 100000 in
set_option maxHeartbeats 8000000 in
theorem rsplit13_any (s t : Int) (w : World) (h : Row encA 4 w ao Z) (hf : Lst encI w fo F) (hnil : fo = none → fc = 0) (hz : Z.length ≤ maxLen) (hfl : F.length ≤ maxLen) :
    Calls Try.prog 10 #[.agg #[.int .i64 n, .bool b, .slice ao Z.length cap], .int .i64 s, .int .i64 t, .slice fo F.length fc] w (SplitRes n Z s t F w) := by
  have hb00 := (((Below.refl _ w).alloc (Nat.le_refl _) (.cells #[.int .i64 n, .bool b, .slice ao Z.length cap] 24)).alloc (by simp) (.cells #[.slice none 0 0, .slice none 0 0] 32)).alloc (by simp; omega) (.cells #[.slice none 0 0, .slice none 0 0] 32)
  have hn00 := wholeD (wholeD (heap_alloc_new w (.cells #[.int .i64 n, .bool b, .slice ao Z.length cap] 24)) (.cells #[.slice none 0 0, .slice none 0 0] 32)) (.cells #[.slice none 0 0, .slice none 0 0] 32)
  have hq00 := wholeD (heap_alloc_new (w.alloc (.cells #[.int .i64 n, .bool b, .slice ao Z.length cap] 24)) (.cells #[.slice none 0 0, .slice none 0 0] 32)) (.cells #[.slice none 0 0, .slice none 0 0] 32)
  have hx00 := heap_alloc_new ((w.alloc (.cells #[.int .i64 n, .bool b, .slice ao Z.length cap] 24)).alloc (.cells #[.slice none 0 0, .slice none 0 0] 32)) (.cells #[.slice none 0 0, .slice none 0 0] 32)
  rw [show (w.alloc (.cells #[.int .i64 n, .bool b, .slice ao Z.length cap] 24)).heap.size = w.heap.size + 1 by simp] at hq00
  rw [show ((w.alloc (.cells #[.int .i64 n, .bool b, .slice ao Z.length cap] 24)).alloc (.cells #[.slice none 0 0, .slice none 0 0] 32)).heap.size = w.heap.size + 1 + 1 by simp] at hx00
  have HB0 := Lib.hid hb00
  have HN0 := Lib.hid hn00
  have HQ0 := Lib.hid hq00
  have HX0 := Lib.hid hx00
  have HR := Lib.hid (h.below' hb00)
  have HF := Lib.hid (hf.below hb00)
  have HZ := Lib.hid hz
  have HFL := Lib.hid hfl
  have HNL := Lib.hid hnil
  have HRO0 : Hid (∀ ad, ao = some ad → 0 < Z.length → ad.block < w.heap.size) := Lib.hid (fun ad e h0 => by obtain ⟨b', o, e', hb', _⟩ := h 0 h0; rw [e] at e'; cases e'; exact hb')
  obtain ⟨g0, hg0⟩ : ∃ g0, w.heap.size = g0 := ⟨_, rfl⟩
  have HG0 := Lib.hid hg0
  rw [hg0] at HN0 HQ0 HX0 HRO0
  obtain ⟨w1, hw1⟩ : ∃ w1, ((w.alloc (.cells #[.int .i64 n, .bool b, .slice ao Z.length cap] 24)).alloc (.cells #[.slice none 0 0, .slice none 0 0] 32)).alloc (.cells #[.slice none 0 0, .slice none 0 0] 32) = w1 := ⟨_, rfl⟩
  have HW1 := Lib.hid hw1
  rw [hw1] at HB0 HN0 HQ0 HX0 HR HF
  have c0 := cell_whole HN0.out 0
  have c1 := cell_whole HN0.out 1
  have c2 := cell_whole HN0.out 2
  clear h hf hnil hz hfl hb00 hn00 hq00 hx00 hw1
  obtain ⟨e0, he⟩ : ∃ e0, valE n Z s t F = e0 := ⟨_, rfl⟩
  obtain ⟨k0, hk⟩ : ∃ k0, valK n Z s t F = k0 := ⟨_, rfl⟩
  have HE := Lib.hid he
  have HK := Lib.hid hk
  by_cases h0 : e0 = 0
  · subst h0
    by_cases hk0 : k0 < 0
    · have HSP : Hid (splitE n Z s t F = 71) := Lib.hid (by unfold splitE; rw [if_pos he, hk, if_pos hk0])
      clear he hk
      go_enter Try.func10, Try.ntmps10
      go_upto_region 2 with (fail)
      rw [HW1.out]
      clear HW1
      go_wp2_with (first
        | (go_at_call 21; refine (rscheck_any n b ao fo cap fc Z s t F _ HR.out HF.out HZ.out HFL.out).mono ?_; rw [HE.out, HK.out]; rintro e w3 ⟨rfl, hb3⟩; have hq3 := kept_box HQ0.out hb3; have hx3 := kept_box HX0.out hb3; have k0 := cell_whole hx3 0; have k1 := cell_whole hx3 1; have q0 := cell_whole hq3 0; have q1 := cell_whole hq3 1; have s0 := frozen_whole hq3 0; have s1 := frozen_whole hq3 1; have HFI := Lib.hid (set_whole (set_whole hq3 0 (.slice none 0 0)) 1 (.slice none 0 0)); have HB3 := Lib.hid (below_set (below_set (HB0.out.trans (hb3.mono HB0.out.size)) (g := g0 + 1) (j := 0) (by have := HG0.out; omega) (.slice none 0 0)) (g := g0 + 1) (j := 1) (by have := HG0.out; omega) (.slice none 0 0)); clear hb3 hq3 hx3))
      have z0 := cell_whole HFI.out 0
      have z1 := cell_whole HFI.out 1
      generalize (w3.setCell ⟨g0 + 1, 0, none⟩ (.slice none 0 0)).setCell ⟨g0 + 1, 1, none⟩ (.slice none 0 0) = wz at *
      clear HFI
      refine bodyPost_ret (v := .tuple #[.agg #[.slice none 0 0, .slice none 0 0], .int .i64 71]) (by simp [results, Try.results10, go_sem, z0, z1]) rfl ?_
      exact .inr ⟨by rw [HSP.out]; decide, by rw [HSP.out], HB3.out⟩
    · have HSP : Hid (splitE n Z s t F = 0) := Lib.hid (by unfold splitE; rw [if_pos he, hk, if_neg hk0])
      have hEN := (valE_ok he).1
      obtain ⟨N, i, j, rfl, rfl, rfl, hi, hj, hij, hst⟩ := st_of he
      have hck := (endsE_ok hEN).1
      obtain ⟨hE1, hZ1, hC1, hzl, hN50⟩ := netD (b := true) (right_iff.1 hck)
      rw [Int.toNat_natCast] at hZ1 hN50
      have HE1 := Lib.hid hE1
      have HZ1 := Lib.hid hZ1
      have HC1 := Lib.hid hC1
      have HFW := Lib.hid hst.1
      have hFl : F.length = Z.length := hst.1.1
      have HFZ := Lib.hid hFl
      have HIJ := Lib.hid hij
      have HRO : Hid (∀ ad, ao = some ad → 0 < Z.length → ad.block < g0) := HRO0
      clear he hk hEN hck hst hE1 hZ1 hC1 hFl hij
      go_enter Try.func10, Try.ntmps10
      go_upto_region 2 with (fail)
      rw [HW1.out]
      clear HW1
      go_wp2_with (first
        | (go_at_call 21; refine (rscheck_any (N : Int) b ao fo cap fc Z (i : Int) (j : Int) F _ HR.out HF.out HZ.out HFL.out).mono ?_; rw [HE.out, HK.out]; rintro e w3 ⟨rfl, hb3⟩; have HN3 := Lib.hid (kept_box HN0.out hb3); have HQ3 := Lib.hid (kept_box HQ0.out hb3); have HX3 := Lib.hid (kept_box HX0.out hb3); have HR3 := Lib.hid (HR.out.below' hb3); have HF3 := Lib.hid (HF.out.below hb3); have HB3 := Lib.hid (HB0.out.trans (hb3.mono HB0.out.size)); clear hb3 c0 c1 c2))
      have hgx : g0 + 1 + 1 < w3.heap.size := lt_whole HX3.out
      have HXB : Hid (XB w3 w3 (g0 + 1 + 1) w3.heap.size (.slice none 0 0) (.slice none 0 0) (.slice none 0 0) []) := Lib.hid ⟨HX3.out, ChI.nil _ _, Kept.refl _ _, ⟨Nat.le_refl _, Nat.le_refl _⟩, hgx⟩
      have HCI := Lib.hid (CycI.start (N := N) HFW.out)
      go_loopg [3] (Z.length + 1) (fun gk fv wr => ∃ fo fc f m v X, fv = .slice fo f.length fc ∧ Hid (m < gk) ∧ Hid (fo = none → fc = 0) ∧ Hid (CycI Z N F f m X) ∧ Hid (Lst encI wr fo f) ∧ Hid (XB w3 wr (g0 + 1 + 1) w3.heap.size (.slice none 0 0) v v X))
      case atStart => exact ⟨fo, fc, F, Z.length, _, [], rfl, Lib.hid (Nat.lt_succ_self _), HNL, HCI, HF3, HXB⟩
      case round =>
        clear HXB HCI HF3 HNL
        obtain ⟨fo, fc, f, m, v, X, rfl, HMU, HNL, HCI, HF, HXB⟩ := hrel
        obtain ⟨gk0, hgk⟩ : ∃ gk0, gk0 = gk := ⟨_, rfl⟩
        subst hgk
        obtain ⟨xo, xc, hv, _⟩ := HXB.out.row.slice
        subst hv
        have hnb := HXB.out.kept.old HN3.out (show ¬ g0 = g0 + 1 + 1 by omega)
        have c0 := cell_whole hnb 0
        have c1 := cell_whole hnb 1
        have c2 := cell_whole hnb 2
        have HRw := Lib.hid (row_keptD HR3.out HXB.out.kept (fun ad e h0 q => by have h1 := HRO.out ad e h0; have h2 : ad.block = g0 + 1 + 1 := q; omega))
        have HFN := Lib.hid HCI.out.flow.1
        have hflz : f.length ≤ 50000 := by rw [HFN.out]; omega
        have HCALL := Lib.hid (rcycle_any (N : Int) b ao fo cap fc Z f N wr HRw.out HF.out HFN.out (by omega) (by omega) HZ1.out HE1.out (fun v => by
          by_cases hv : v < f.length
          · have hv2 : v < Z.length := by rw [← HFN.out]; exact hv
            exact (HCI.out.flow.2 v _ (List.getElem?_eq_getElem hv2)).1
          · unfold atI
            rw [List.getD_eq_getElem?_getD, List.getElem?_eq_none (by omega)]
            exact Int.le_refl _))
        go_wp2_with fail
        refine HCALL.out.mono ?_
        clear HCALL
        rintro e w4 (⟨l, v4, hcl, rfl, ho4, hb4⟩ | ⟨hcn, rfl, hb4⟩)
        · obtain ⟨va, vc, rfl, hv4⟩ := ho4.lst
          obtain ⟨⟨u, hT⟩, m2, rfl, hci2⟩ := HCI.out.next HZ1.out hcl ((va, vc), (arcsL l, leastK f l)) rfl
          obtain ⟨hkb, hall, hlf, hbd⟩ := take_bd HC1.out HCI.out.flow hT
          have hal := arcsL_len l
          obtain ⟨nl, hnl⟩ : ∃ nl, l.length = nl := ⟨_, rfl⟩
          rw [hnl] at hal hlf
          have hXl : X.length ≤ 200 := by have := HCI.out.len; omega
          have HV4 := Lib.hid hv4
          have HVO : Hid (∀ ad, va = some ad → 0 < (arcsL l).length → wr.heap.size ≤ ad.block) := Lib.hid (fun ad e h0 => by subst e; exact own_block ho4 rfl)
          have HAL2 := Lib.hid hal
          have HALL := Lib.hid hall
          have HBD := Lib.hid hbd
          have HKB := Lib.hid hkb
          have HNLL := Lib.hid hnl
          have HL0 := Lib.hid hT.some
          have HCI2 := Lib.hid hci2
          have HX4 := Lib.hid (HXB.out.next hb4)
          have HB4 := Lib.hid hb4
          have HF4 := Lib.hid (HF.out.below hb4)
          have hnl5 : nl ≤ 50000 := by omega
          obtain ⟨kk, hkk⟩ : ∃ kk, leastK f l = kk := ⟨_, rfl⟩
          have HKE := Lib.hid hkk
          obtain ⟨G, hG⟩ : ∃ G, takeK (leastK f l) f l = G := ⟨_, rfl⟩
          have HGE := Lib.hid hG
          rw [hG] at HCI2
          rw [hkk] at HCI2
          rw [HAL2.out]
          clear ho4 hv4 hcl hT hci2 hall hlf hbd hal hnl hb4 hkb hkk hG HF c0 c1 c2 hnb HRw
          have x1 := cell_whole HX4.out.box 1
          have hb4s := HB4.out.size
          have hb3s := HX4.out.big.2
          go_wp2_with (first
            | (go_at_call 29; refine (rtaken_L fo va fc vc nl f l HNLL.out HL0.out w4 HF4.out HV4.out HNL.out hflz hnl5 HALL.out HBD.out (by have := HKB.out; omega)).mono ?_; rw [HGE.out, HKE.out]; rintro e w5 ⟨v5, rfl, ho5, hb5⟩; obtain ⟨lo, lc, rfl, hl5⟩ := ho5.lst; have hbb5 := (Below.refl _ w5).alloc (Nat.le_refl _) (.cells #[.slice va nl vc, .int .i64 kk] 49); have hbx := heap_alloc_new w5 (.cells #[.slice va nl vc, .int .i64 kk] 49); have k0 := cell_whole hbx 0; have k1 := cell_whole hbx 1; have HB6 := Lib.hid (hb5.trans (hbb5.mono hb5.size)); have HX6 := Lib.hid (HX4.out.next (hb5.trans (hbb5.mono hb5.size))); have x1 := cell_whole (HX4.out.next (hb5.trans (hbb5.mono hb5.size))).box 1; have HL5 := Lib.hid (hl5.below hbb5); have HLO : Hid (∀ ad, lo = some ad → 0 < G.length → wr.heap.size ≤ ad.block) := Lib.hid (fun ad e h0 => by subst e; have h1 : w4.heap.size ≤ ad.block := own_block ho5 rfl; omega); have HLN := Lib.hid (own_nilD ho5); have HSZ5 := Lib.hid hb5.size; have HV5 := Lib.hid (HV4.out.below (hb5.trans (hbb5.mono hb5.size))); have HBT := Lib.hid (HB4.out.trans ((hb5.trans (hbb5.mono hb5.size)).mono HB4.out.size)); clear ho5 hl5 hb5 hbb5 hbx)
            | (at_builtin; refine wpList_append_chain rfl _ _ rfl w3.heap.size (.slice xo X.length xc) X ((va, vc), (arcsL l, kk)) rfl (HX6.out.row.below ((Below.refl _ _).alloc (Nat.le_refl _) (.cells #[.slice va nl vc, .int .i64 kk] 49))) _ 1 rfl (cellsC3 _ 49 _ (by simp) va vc nl (arcsL l) kk HAL2.out) (by omega) (by simp; have h1 := HSZ5.out; omega) ?_; intro g7 cap7 w7 ho7 hg7 hl7 hb7 hlt7; have HO7 := Lib.hid ho7; have HG7 := Lib.hid hg7; have HL7 := Lib.hid hl7; have hgw := HXB.out.grow (x := ((va, vc), (arcsL l, kk))) (fo := lo) (f := G) (vr := .slice none 0 0) (HBT.out.alloc HBT.out.size (.cells #[.slice va nl vc, .int .i64 kk] 49)) (HV5.out.below ((Below.refl _ _).alloc (Nat.le_refl _) (.cells #[.slice va nl vc, .int .i64 kk] 49))) HVO.out (HL5.out.below ((Below.refl _ _).alloc (Nat.le_refl _) (.cells #[.slice va nl vc, .int .i64 kk] 49))) HLO.out ho7 hg7 hl7 1; have r1 := cell_whole hgw.1 1; have s1 := frozen_whole hgw.1 1; have HGW := Lib.hid hgw; clear ho7 hg7 hl7 hgw))
          go_roundg (m2 + 1)
          case measure => have := HMU.out; omega
          case rel => exact ⟨lo, lc, G, m2, _, _, rfl, Lib.hid (Nat.lt_succ_self _), HLN, HCI2, Lib.hid HGW.out.2.2.1, Lib.hid ⟨set_whole HGW.out.1 1 _, HGW.out.2.1, HGW.out.2.2.2.1, ⟨Nat.le_refl _, HGW.out.2.2.2.2⟩, hgx⟩⟩
        · have HDN := Lib.hid (HCI.out.done hcn)
          have HXB4 := Lib.hid (HXB.out.next hb4)
          have HF4 := Lib.hid (HF.out.below hb4)
          have HFL4 := Lib.hid HCI.out.flow
          clear hcn hb4 HF HXB hnb c0 c1 c2 HRw HMU
          obtain ⟨ya, yc, hv, hyr, hyb⟩ := HXB4.out.row.slice
          injection hv with hv1 hv2 hv3
          subst hv1
          subst hv3
          have HYR := Lib.hid hyr
          have HYB := Lib.hid hyb
          clear hyr hyb hv2
          have hgx4 : g0 + 1 + 1 < w4.heap.size := lt_whole HXB4.out.box
          have HXC : Hid (XB w4 w4 (g0 + 1 + 1) w4.heap.size (.slice none 0 0) (.slice xo X.length xc) (.slice none 0 0) []) := Lib.hid ⟨HXB4.out.box, ChI.nil _ _, Kept.refl _ _, ⟨Nat.le_refl _, Nat.le_refl _⟩, hgx4⟩
          have HNI := Lib.hid (ChnI.start (N := N) (s := i) (t := j) HFL4.out)
          have HN4 := Lib.hid (HXB4.out.kept.old HN3.out (show ¬ g0 = g0 + 1 + 1 by omega))
          have HQ4 := Lib.hid (HXB4.out.kept.old HQ3.out (show ¬ g0 + 1 = g0 + 1 + 1 by omega))
          have HR4 := Lib.hid (row_keptD HR3.out HXB4.out.kept (fun ad e h0 q => by have h1 := HRO.out ad e h0; have h2 : ad.block = g0 + 1 + 1 := q; omega))
          have hfl4 : f.length = Z.length := HFL4.out.1
          have HFL5 := Lib.hid hfl4
          clear hfl4
          obtain ⟨f0, hf0⟩ : ∃ f0, f0 = f := ⟨_, rfl⟩
          have HF0E := Lib.hid hf0
          rw [← hf0] at HNI HDN
          rw [hf0] at HNI
          clear hf0
          go_wp2
          go_loopg [3] (Z.length + 1) (fun gk fv wr => ∃ fo fc g m v X2, fv = .slice fo g.length fc ∧ Hid (m < gk) ∧ Hid (fo = none → fc = 0) ∧ Hid (ChnI Z N i j f g m X2) ∧ Hid (Lst encI wr fo g) ∧ Hid (XB w4 wr (g0 + 1 + 1) w4.heap.size v (.slice xo X.length xc) v X2))
          case atStart => exact ⟨fo, fc, f, Z.length, _, [], rfl, Lib.hid (Nat.lt_succ_self _), HNL, HNI, HF4, HXC⟩
          case round =>
            clear HXC HNI HF4 HNL HFL5
            obtain ⟨fo, fc, g, m, v, X2, rfl, HMU, HNL, HCI, HF, HXB⟩ := hrel
            obtain ⟨gk0, hgk⟩ : ∃ gk0, gk0 = gk := ⟨_, rfl⟩
            subst hgk
            obtain ⟨qo, qc, hv, hxr, hxb⟩ := HXB.out.row.slice
            subst hv
            have HXR := Lib.hid hxr
            have HXBB := Lib.hid hxb
            clear hxr hxb
            have hnb := HXB.out.kept.old HN4.out (show ¬ g0 = g0 + 1 + 1 by omega)
            have c0 := cell_whole hnb 0
            have c1 := cell_whole hnb 1
            have c2 := cell_whole hnb 2
            have HRw := Lib.hid (row_keptD HR4.out HXB.out.kept (fun ad e h0 q => by have h1 := HRO.out ad e h0; have h2 : ad.block = g0 + 1 + 1 := q; omega))
            have HFN := Lib.hid HCI.out.flow.1
            have hflz : g.length ≤ 50000 := by rw [HFN.out]; omega
            have HOK : Hid (∀ y ∈ alongL g, ∃ (p : Nat) (a : ArcT) (q : Bool), Z[p]? = some a ∧ y = ((p : Int), q)) := Lib.hid (fun y hy => by
              obtain ⟨h1, h2, h3⟩ := along_arc HFN.out hy
              obtain ⟨y1, y2⟩ := y
              obtain ⟨p, hp, hpl⟩ := isArc_nat h1
              exact ⟨p, Z[p], y2, List.getElem?_eq_getElem hpl, by rw [hp]⟩)
            have HAF : Hid ((alongL g).length ≤ 200000) := Lib.hid (by have := alongK_len g g.length; unfold alongL; omega)
            obtain ⟨W, hW⟩ : ∃ W, wayK (fromS Z) (toS Z) (alongL g) N i j = W := ⟨_, rfl⟩
            have HWE := Lib.hid hW
            clear hW hnb
            go_wp2_with fail
            go_cut [17, 18] (fun p8 p9 wc => ∃ a c, p8 = .slice a (W.getD []).length c ∧ p9 = .bool W.isSome ∧ Hid (Row encS 2 wc a (W.getD [])) ∧ Hid (Below wr.heap.size wr wc))
            case first =>
              go_region_held3 (fun W => W.cell? ⟨g0, 0, none⟩ = some (.int .i64 (N : Int)) ∧ W.cell? ⟨g0, 1, none⟩ = some (.bool b) ∧ W.cell? ⟨g0, 2, none⟩ = some (.slice ao Z.length cap)) (first | exact ⟨c0, c1, c2⟩ | exact ⟨y0, y1, y2⟩ | exact ⟨z0, z1, z2⟩ | go_keep)
                (first
                  | (go_at_call 31; refine (ralong_any _ fc g wr.drew (HF.out.below (below_drew (Below.refl _ _))) (by omega)).mono ?_; rintro e w7 ⟨la, lc, rfl, hl7, b7⟩; have HL7 := Lib.hid hl7; have HB7 := Lib.hid ((below_drew (Below.refl wr.heap.size wr)).trans b7); have y0 := cell_below (w := wr.drew) b7 c0; have y1 := cell_below (w := wr.drew) b7 c1; have y2 := cell_below (w := wr.drew) b7 c2; clear b7 hl7)
                  | (go_at_call 30; refine (rway_any (N : Int) b ao la cap lc Z (alongL g) N i j w7 (HRw.out.below' HB7.out) HL7.out (by omega) HAF.out (by omega) hi (fun y hy => (along_to HZ1.out HFN.out y hy).1) HOK.out HE1.out).mono ?_; rw [HWE.out]; rintro e w8 ⟨wa, wc8, rfl, hr8, b8⟩; have HR8 := Lib.hid hr8; have HB8 := Lib.hid (HB7.out.trans (b8.mono HB7.out.size)); have z0 := cell_below b8 y0; have z1 := cell_below b8 y1; have z2 := cell_below b8 y2; clear b8 hr8))
              all_goals
                go_wp2
                go_meet
                exact ⟨wa, wc8, rfl, rfl, HR8, HB8⟩
            case rest =>
              obtain ⟨wa, wc8, rfl, rfl, HR8, HB8⟩ := hcut
              cases W with
              | none =>
                have hcn := HWE.out
                have HDC := Lib.hid (HCI.out.done hcn)
                have HX8 := Lib.hid (HXB.out.next HB8.out)
                have hq8 := HX8.out.kept.old HQ4.out (show ¬ g0 + 1 = g0 + 1 + 1 by omega)
                have k0 := cell_whole HX8.out.box 0
                have k1 := cell_whole HX8.out.box 1
                have q0 := cell_whole hq8 0
                have q1 := cell_whole hq8 1
                have s0 := frozen_whole hq8 0
                have s1 := frozen_whole hq8 1
                have hfin := set_whole (set_whole hq8 0 (.slice qo X2.length qc)) 1 (.slice xo X.length xc)
                have hks : Kept (fun i => i = g0 + 1) wc ((wc.setCell ⟨g0 + 1, 0, none⟩ (.slice qo X2.length qc)).setCell ⟨g0 + 1, 1, none⟩ (.slice xo X.length xc)) := ((Kept.refl (fun i => i = g0 + 1) wc).set (.inl rfl) _).set (.inl rfl) _
                have h34 := HX8.out.big
                have hw3 := HXB4.out.big.2
                have hCR : ChR ((wc.setCell ⟨g0 + 1, 0, none⟩ (.slice qo X2.length qc)).setCell ⟨g0 + 1, 1, none⟩ (.slice xo X.length xc)) qo X2 (chainsF Z N i j F) := by
                  refine ⟨row_keptD (HXR.out.below' HB8.out) hks (fun ad e h0 q => by have h1 := HXBB.out ad e h0; have h2 : ad.block = g0 + 1 := q; omega), fun x hx => ?_, ?_⟩
                  · obtain ⟨h1, h2⟩ := HX8.out.row.inn x hx
                    exact lst_keptD h1 hks (fun ad e h0 q => by have h3 := (h2 ad e h0).1; have h4 : ad.block = g0 + 1 := q; omega)
                  · rw [HDC.out, ← HF0E.out, HDN.out.2]
                    rfl
                have hCY : ChR ((wc.setCell ⟨g0 + 1, 0, none⟩ (.slice qo X2.length qc)).setCell ⟨g0 + 1, 1, none⟩ (.slice xo X.length xc)) xo X (cycsF Z N F) := by
                  refine ⟨row_keptD (row_keptD HYR.out HX8.out.kept (fun ad e h0 q => by have h1 := HYB.out ad e h0; have h2 : ad.block = g0 + 1 + 1 := q; omega)) hks (fun ad e h0 q => by have h1 := HYB.out ad e h0; have h2 : ad.block = g0 + 1 := q; omega), fun x hx => ?_, HDN.out.1⟩
                  obtain ⟨h1, h2⟩ := HXB4.out.row.inn x hx
                  exact lst_keptD (lst_keptD h1 HX8.out.kept (fun ad e h0 q => by have h3 := (h2 ad e h0).1; have h4 : ad.block = g0 + 1 + 1 := q; omega)) hks (fun ad e h0 q => by have h3 := (h2 ad e h0).1; have h4 : ad.block = g0 + 1 := q; omega)
                have hbel : Below w.heap.size w ((wc.setCell ⟨g0 + 1, 0, none⟩ (.slice qo X2.length qc)).setCell ⟨g0 + 1, 1, none⟩ (.slice xo X.length xc)) := by
                  have hg := HG0.out
                  have h1 := (HXB4.out.kept).below (B := w.heap.size) (by have := HB3.out.size; omega) (fun i e => by have e2 : i = g0 + 1 + 1 := e; omega)
                  have h2 := (HX8.out.kept).below (B := w.heap.size) (by have := h1.size; have := HB3.out.size; omega) (fun i e => by have e2 : i = g0 + 1 + 1 := e; omega)
                  exact below_set (below_set ((HB3.out.trans h1).trans h2) (g := g0 + 1) (j := 0) (by omega) _) (g := g0 + 1) (j := 1) (by omega) _
                have HFI := Lib.hid hfin
                have HCR := Lib.hid hCR
                have HCY := Lib.hid hCY
                have HBE := Lib.hid hbel
                clear hfin hCR hCY hbel hks hq8 hcn
                go_wp2
                have z0 := cell_whole HFI.out 0
                have z1 := cell_whole HFI.out 1
                generalize (wc.setCell ⟨g0 + 1, 0, none⟩ (.slice qo X2.length qc)).setCell ⟨g0 + 1, 1, none⟩ (.slice xo X.length xc) = wz at *
                clear HFI
                refine bodyPost_ret (v := .tuple #[.agg #[.slice qo X2.length qc, .slice xo X.length xc], .int .i64 0]) (by simp [results, Try.results10, go_sem, z0, z1]) rfl ?_
                exact .inl ⟨HSP.out, N, i, j, qo, xo, qc, xc, X2, X, rfl, rfl, rfl, ⟨hi, hj, HIJ.out⟩, rfl, HCR.out, HCY.out, HBE.out⟩
              | some l =>
                obtain ⟨hT, m2, rfl, hci2⟩ := HCI.out.next HZ1.out hi HIJ.out HWE.out ((none, 0), (arcsL l, leastK g l)) rfl
                have hnx := fun (va : Option Addr) (vc : Nat) => (HCI.out.next HZ1.out hi HIJ.out HWE.out ((va, vc), (arcsL l, leastK g l)) rfl).2
                obtain ⟨hkb, hall, hlf, hbd⟩ := take_bd HC1.out HCI.out.flow hT
                have hal := arcsL_len l
                obtain ⟨nl, hnl⟩ : ∃ nl, l.length = nl := ⟨_, rfl⟩
                rw [hnl] at hal hlf
                have hXl : X2.length ≤ 200 := by have := HCI.out.len; omega
                have HAL2 := Lib.hid hal
                have HALL := Lib.hid hall
                have HBD := Lib.hid hbd
                have HKB := Lib.hid hkb
                have HNLL := Lib.hid hnl
                have HL0 := Lib.hid hT.some
                have HNX := Lib.hid hnx
                have HX8 := Lib.hid (HXB.out.next HB8.out)
                have HF8 := Lib.hid (HF.out.below HB8.out)
                have hnl5 : nl ≤ 50000 := by omega
                obtain ⟨kk, hkk⟩ : ∃ kk, leastK g l = kk := ⟨_, rfl⟩
                have HKE := Lib.hid hkk
                obtain ⟨G, hG⟩ : ∃ G, takeK (leastK g l) g l = G := ⟨_, rfl⟩
                have HGE := Lib.hid hG
                rw [hG, hkk] at HNX
                have HR9 : Hid (Row encS 2 wc wa l) := HR8
                have hg9 : (some l : Option (List StepT)).getD [] = l := rfl
                rw [hg9, hnl]
                have hb8s := HB8.out.size
                have hb4s := HX8.out.big
                clear hci2 hT hnx hall hlf hbd hal hnl hkb hkk hG HF HRw HR8 hg9
                go_wp2_with (first
                  | (go_at_call 32; refine (show Calls Try.prog 32 #[.slice wa nl wc8] wc _ from (by rw [← HNLL.out]; exact rplaces_any wa wc8 l _ HR9.out (by rw [HNLL.out]; omega))).mono ?_; rintro e w9 ⟨v9, rfl, ho9, b9⟩; obtain ⟨va, vc, rfl, hv9⟩ := ho9.lst; rw [HAL2.out]; have HV9 := Lib.hid hv9; have HVO : Hid (∀ ad, va = some ad → 0 < (arcsL l).length → wr.heap.size ≤ ad.block) := Lib.hid (fun ad e h0 => by subst e; have h1 : wc.heap.size ≤ ad.block := own_block ho9 rfl; omega); have HF9 := Lib.hid (HF8.out.below b9); have HB9 := Lib.hid (HB8.out.trans (b9.mono HB8.out.size)); clear ho9 hv9 b9)
                  | (go_at_call 29; refine (rtaken_L fo va fc vc nl g l HNLL.out HL0.out w9 HF9.out HV9.out HNL.out hflz hnl5 HALL.out HBD.out (by have := HKB.out; omega)).mono ?_; rw [HGE.out, HKE.out]; rintro e w5 ⟨v5, rfl, ho5, hb5⟩; obtain ⟨lo, lc, rfl, hl5⟩ := ho5.lst; have hbb5 := (Below.refl _ w5).alloc (Nat.le_refl _) (.cells #[.slice va nl vc, .int .i64 kk] 49); have hbx := heap_alloc_new w5 (.cells #[.slice va nl vc, .int .i64 kk] 49); have k0 := cell_whole hbx 0; have k1 := cell_whole hbx 1; have HBT := Lib.hid (HB9.out.trans ((hb5.trans (hbb5.mono hb5.size)).mono HB9.out.size)); have HX6 := Lib.hid (HXB.out.next HBT.out); have x0 := cell_whole HX6.out.box 0; have HL5 := Lib.hid (hl5.below hbb5); have HLO : Hid (∀ ad, lo = some ad → 0 < G.length → wr.heap.size ≤ ad.block) := Lib.hid (fun ad e h0 => by subst e; have h1 : w9.heap.size ≤ ad.block := own_block ho5 rfl; have h2 := HB9.out.size; omega); have HLN := Lib.hid (own_nilD ho5); have HV5 := Lib.hid (HV9.out.below (hb5.trans (hbb5.mono hb5.size))); clear ho5 hl5 hb5 hbb5 hbx)
                  | (at_builtin; refine wpList_append_chain rfl _ _ rfl w4.heap.size (.slice qo X2.length qc) X2 ((va, vc), (arcsL l, kk)) rfl (HX6.out.row.below ((Below.refl _ _).alloc (Nat.le_refl _) (.cells #[.slice va nl vc, .int .i64 kk] 49))) _ 1 rfl (cellsC3 _ 49 _ (by simp) va vc nl (arcsL l) kk HAL2.out) (by omega) (by have h1 := HX6.out.big.2; simp at h1 ⊢; omega) ?_; intro g7 cap7 w7 ho7 hg7 hl7 hb7 hlt7; have hgw := HXB.out.grow (x := ((va, vc), (arcsL l, kk))) (fo := lo) (f := G) (vr := .slice none 0 0) (HBT.out.alloc HBT.out.size (.cells #[.slice va nl vc, .int .i64 kk] 49)) (HV5.out.below ((Below.refl _ _).alloc (Nat.le_refl _) (.cells #[.slice va nl vc, .int .i64 kk] 49))) HVO.out (HL5.out.below ((Below.refl _ _).alloc (Nat.le_refl _) (.cells #[.slice va nl vc, .int .i64 kk] 49))) HLO.out ho7 hg7 hl7 0; have r1 := cell_whole hgw.1 0; have s1 := frozen_whole hgw.1 0; have HGW := Lib.hid hgw; clear ho7 hg7 hl7 hgw))
                obtain ⟨m3, hm3, hci3⟩ := HNX.out va vc
                obtain rfl : m2 = m3 := by omega
                go_roundg (m2 + 1)
                case measure => have := HMU.out; omega
                case rel => exact ⟨lo, lc, G, m2, _, _, rfl, Lib.hid (Nat.lt_succ_self _), HLN, Lib.hid hci3, Lib.hid HGW.out.2.2.1, Lib.hid ⟨set_whole HGW.out.1 0 _, HGW.out.2.1, HGW.out.2.2.2.1, ⟨Nat.le_refl _, HGW.out.2.2.2.2⟩, hgx4⟩⟩
  · have HSP : Hid (splitE n Z s t F = e0) := Lib.hid (by unfold splitE; rw [if_neg (by rw [he]; exact h0), he])
    have hf1 : (e0 != 0) = true := by simpa using h0
    have hf2 : (e0 == 0) = false := by simpa using h0
    have H0 := Lib.hid h0
    clear h0
    clear he hk
    go_enter Try.func10, Try.ntmps10
    go_upto_region 2 with (fail)
    rw [HW1.out]
    clear HW1
    go_wp2_with (first
      | (go_at_call 21; refine (rscheck_any n b ao fo cap fc Z s t F _ HR.out HF.out HZ.out HFL.out).mono ?_; rw [HE.out, HK.out]; rintro e w3 ⟨rfl, hb3⟩; have hq3 := kept_box HQ0.out hb3; have hx3 := kept_box HX0.out hb3; have k0 := cell_whole hx3 0; have k1 := cell_whole hx3 1; have q0 := cell_whole hq3 0; have q1 := cell_whole hq3 1; have s0 := frozen_whole hq3 0; have s1 := frozen_whole hq3 1; have HFI := Lib.hid (set_whole (set_whole hq3 0 (.slice none 0 0)) 1 (.slice none 0 0)); have HB3 := Lib.hid (below_set (below_set (HB0.out.trans (hb3.mono HB0.out.size)) (g := g0 + 1) (j := 0) (by have := HG0.out; omega) (.slice none 0 0)) (g := g0 + 1) (j := 1) (by have := HG0.out; omega) (.slice none 0 0)); clear hb3 hq3 hx3))
    have z0 := cell_whole HFI.out 0
    have z1 := cell_whole HFI.out 1
    generalize (w3.setCell ⟨g0 + 1, 0, none⟩ (.slice none 0 0)).setCell ⟨g0 + 1, 1, none⟩ (.slice none 0 0) = wz at *
    clear HFI
    refine bodyPost_ret (v := .tuple #[.agg #[.slice none 0 0, .slice none 0 0], .int .i64 e0]) (by simp [results, Try.results10, go_sem, z0, z1]) rfl ?_
    exact .inr ⟨by rw [HSP.out]; exact H0.out, by rw [HSP.out], HB3.out⟩
end
end Go.Proofs.Ytmflleifglefiaa
