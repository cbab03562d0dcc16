/- Lemmas of the layers below, several texts in one. -/
import Derived.Test.YtmflleifglefiaaVPlant
import Derived.Test.YtmflleifglefiaaVFrom
import Derived.Test.YtmflleifglefiaaBG
import Derived.Deep.RegionHeld3
import Derived.Test.YtmflleifglefiaaBD
import Derived.Laws.StructEq
import Derived.BigQuiet
import Derived.Deep.QuietTactic
namespace Go.Proofs.Ytmflleifglefiaa
open Go.RowKit
set_option linter.unusedVariables false

/-- The tree that is found so far, in a variable, and the queue of what is still open. -/
structure SW (w1 wr : World) (gd gb gt qb qg N : Nat) (cs : Array Value) (d : List Int) (B : List StepT) (Q : List Nat) : Prop where
  tv : TV w1 wr gd gb gt N cs d B
  que : QIs wr qb qg N (natI Q)
  lb : w1.heap.size ≤ qb ∧ w1.heap.size ≤ qg
  ne : qb ≠ gd ∧ qb ≠ gb ∧ qb ≠ gt ∧ qg ≠ gd ∧ qg ≠ gb ∧ qg ≠ gt
section
variable {w1 wr w2 : World} {gd gb gt qb qg N : Nat} {cs : Array Value} {d : List Int} {B : List StepT} {Q Q' : List Nat}
theorem SW.next (h : SW w1 wr gd gb gt qb qg N cs d B Q) (hb : Below wr.heap.size wr w2) : SW w1 w2 gd gb gt qb qg N cs d B Q :=
  ⟨h.tv.next hb, h.que.kept (Kept.of_below (S := fun _ => False) hb) (fun x => x) (fun x => x), h.lb, h.ne⟩
theorem SW.drewN (h : SW w1 wr gd gb gt qb qg N cs d B Q) (n : Nat) : SW w1 (wr.drewN n) gd gb gt qb qg N cs d B Q := h.next (below_drewN (Below.refl _ _) n)
theorem SW.turned (h : SW w1 wr gd gb gt qb qg N cs d B Q) (hq : QIs w2 qb qg N (natI Q')) (hk : Kept (fun i => i = qb ∨ i = qg) wr w2) : SW w1 w2 gd gb gt qb qg N cs d B Q' := by
  have hn := h.ne
  have hl := h.lb
  refine ⟨h.tv.kept hk ?_ ?_ ?_ ?_, hq, h.lb, h.ne⟩
  · show ¬ (gd = qb ∨ gd = qg); omega
  · show ¬ (gb = qb ∨ gb = qg); omega
  · show ¬ (gt = qb ∨ gt = qg); omega
  · intro i hi
    have : i = qb ∨ i = qg := hi
    omega
theorem SW.setL (h : SW w1 wr gd gb gt qb qg N cs d B Q) (j : Nat) (y : Int) : SW w1 (wr.setCell ⟨gd, j, none⟩ (.int .i64 y)) gd gb gt qb qg N cs (d.set j y) B Q :=
  ⟨h.tv.setL j y, h.que.kept ((Kept.refl (fun i => i = gd) wr).set (.inl rfl) _) (fun e => h.ne.1 e) (fun e => h.ne.2.2.2.1 e), h.lb, h.ne⟩
theorem SW.setB (h : SW w1 wr gd gb gt qb qg N cs d B Q) {j : Nat} (hj : j < B.length) (x : Int) (q : Bool) : SW w1 ((wr.setCell ⟨gb, j * 2, none⟩ (.int .i64 x)).setCell ⟨gb, j * 2 + 1, none⟩ (.bool q)) gd gb gt qb qg N cs d (B.set j (x, q)) Q :=
  ⟨h.tv.setB hj x q, h.que.kept (((Kept.refl (fun i => i = gb) wr).set (.inl rfl) _).set (.inl rfl) _) (fun e => h.ne.2.1 e) (fun e => h.ne.2.2.2.2.1 e), h.lb, h.ne⟩
end
theorem OwnS.keptv {S : Nat → Prop} {w w' : World} {base : Nat} {v : Value} {L : List StepT} (h : OwnS w base v L) (k : Kept S w w') (hn : ∀ g, base ≤ g → ¬ S g) : OwnS w' base v L := by
  refine ⟨h.1, ?_⟩
  rcases h.2 with h1 | ⟨g', cap', cur, e, h2, h3, h4⟩
  · exact .inl h1
  · exact .inr ⟨g', cap', cur, e, h2, k.old h3 (hn g' h2), h4⟩
section
variable (b : Bool) (ao fo : Option Addr) (cap fc : Nat) (Z : List ArcT) (F : List Int) (g1 c1 g2 c2 N : Nat)
set_option maxRecDepth 100000 in
set_option maxHeartbeats 8000000 in
theorem vsearch_at (s : Nat) (t : Int) (w : World) (h : LD w ao fo Z F g1 g2 N) (hs : s < N) (hN : N ≤ 50) (hz : Z.length ≤ 200) (hfl : F.length = Z.length) (hE : ∀ a ∈ Z, a.1 = (frN a : Int) ∧ a.2.1 = (toN a : Int)) (hT : ∀ y ∈ stepsK Z F Z.length, toS Z y < N) (hTa : ∀ (p : Nat) (a : ArcT) (q : Bool), Z[p]? = some a → toS Z ((p : Int), q) < N) :
    Calls Try.prog 69 #[.agg #[.int .i64 (N : Int), .bool b, .slice ao Z.length cap, .slice fo F.length fc, .slice (some ⟨g1, 0, none⟩) N c1, .slice (some ⟨g2, 0, none⟩) N c2], .int .i64 (s : Int), .int .i64 t] w fun e w' => ∃ gd gb x B, e = .returned (.agg #[.int .i64 (N : Int), .bool b, .slice ao Z.length cap, .slice fo F.length fc, .slice (some ⟨g1, 0, none⟩) N c1, .slice (some ⟨g2, 0, none⟩) N c2, .slice (some ⟨gd, 0, none⟩) N N, .slice (some ⟨gb, 0, none⟩) N N]) ∧ TR w w' gd gb N (farsL x N) B ∧ VR Z F N s t x B := by
  have hb00 := ((Below.refl _ w).alloc (Nat.le_refl _) (.cells #[.int .i64 (N : Int), .bool b, .slice ao Z.length cap, .slice fo F.length fc, .slice (some ⟨g1, 0, none⟩) N c1, .slice (some ⟨g2, 0, none⟩) N c2] 113)).alloc (by simp) (.cells #[.int .i64 0, .bool false, .slice none 0 0, .slice none 0 0, .slice none 0 0, .slice none 0 0, .slice none 0 0, .slice none 0 0] 117)
  have HB0 := Lib.hid hb00
  have hn1 := alloc_whole (heap_alloc_new w (.cells #[.int .i64 (N : Int), .bool b, .slice ao Z.length cap, .slice fo F.length fc, .slice (some ⟨g1, 0, none⟩) N c1, .slice (some ⟨g2, 0, none⟩) N c2] 113)) (.cells #[.int .i64 0, .bool false, .slice none 0 0, .slice none 0 0, .slice none 0 0, .slice none 0 0, .slice none 0 0, .slice none 0 0] 117)
  have HX := Lib.hid hn1
  have HV := Lib.hid (new_whole1 w (.cells #[.int .i64 (N : Int), .bool b, .slice ao Z.length cap, .slice fo F.length fc, .slice (some ⟨g1, 0, none⟩) N c1, .slice (some ⟨g2, 0, none⟩) N c2] 113) (.cells #[.int .i64 0, .bool false, .slice none 0 0, .slice none 0 0, .slice none 0 0, .slice none 0 0, .slice none 0 0, .slice none 0 0] 117))
  obtain ⟨⟨k0, k1, k2, k3, k4, k5⟩, _⟩ := ld6Cells hn1
  have HD := Lib.hid (h.below hb00)
  have HE := Lib.hid hE
  have HT := Lib.hid hT
  have HFL := Lib.hid hfl
  clear h hb00 hn1 hE hT hfl
  go_enter Try.func69, Try.ntmps69
  go_wp2_with fail
  generalize (w.alloc (.cells #[.int .i64 (N : Int), .bool b, .slice ao Z.length cap, .slice fo F.length fc, .slice (some ⟨g1, 0, none⟩) N c1, .slice (some ⟨g2, 0, none⟩) N c2] 113)).alloc (.cells #[.int .i64 0, .bool false, .slice none 0 0, .slice none 0 0, .slice none 0 0, .slice none 0 0, .slice none 0 0, .slice none 0 0] 117) = w1 at *
  go_step3
  have hx1 := lt_whole HX.out
  go_wp2_with (first
    | (go_at_call 73; refine (vplant_at b ao fo cap fc Z F g1 c1 g2 c2 N s _ hs hN).mono ?_; rintro e w2 ⟨gd, gb, rfl, htr⟩; have hlt := htr.lt; have HTV : Hid (TV w1 (w2.alloc (.cells #[.int .i64 (N : Int), .bool b, .slice ao Z.length cap, .slice fo F.length fc, .slice (some ⟨g1, 0, none⟩) N c1, .slice (some ⟨g2, 0, none⟩) N c2, .slice (some ⟨gd, 0, none⟩) N N, .slice (some ⟨gb, 0, none⟩) N N] 117)) gd gb w2.heap.size N #[.int .i64 (N : Int), .bool b, .slice ao Z.length cap, .slice fo F.length fc, .slice (some ⟨g1, 0, none⟩) N c1, .slice (some ⟨g2, 0, none⟩) N c2, .slice (some ⟨gd, 0, none⟩) N N, .slice (some ⟨gb, 0, none⟩) N N] (startD N s) (List.replicate N (0, false))) := Lib.hid ⟨htr.next ((Below.refl _ _).alloc (Nat.le_refl _) _), heap_alloc_new _ _, by omega, by omega⟩; have l0 := cell_alloc (cell_below' htr.below k0 hx1) (.cells #[.int .i64 (N : Int), .bool b, .slice ao Z.length cap, .slice fo F.length fc, .slice (some ⟨g1, 0, none⟩) N c1, .slice (some ⟨g2, 0, none⟩) N c2, .slice (some ⟨gd, 0, none⟩) N N, .slice (some ⟨gb, 0, none⟩) N N] 117); have hs2 := htr.below.size; clear htr)
    | (go_at_call 74; refine (newq_at _ N _ rfl (by omega)).mono ?_; rintro e w4 ⟨qb, qg, hqb, hqg, rfl, hq4, hb4⟩; simp at hqb hqg; have HS4 : Hid (SW w1 w4 gd gb w2.heap.size qb qg N #[.int .i64 (N : Int), .bool b, .slice ao Z.length cap, .slice fo F.length fc, .slice (some ⟨g1, 0, none⟩) N c1, .slice (some ⟨g2, 0, none⟩) N c2, .slice (some ⟨gd, 0, none⟩) N N, .slice (some ⟨gb, 0, none⟩) N N] (startD N s) (List.replicate N (0, false)) []) := Lib.hid ⟨HTV.out.next hb4, hq4, by omega, by omega⟩; clear hq4 hb4 l0)
    | (go_at_call 75; refine (put_yes qb qg N (natI []) (s : Int) _ HS4.out.que (by simp [natI]; omega)).mono ?_; rintro e w5 ⟨rfl, hq5, hk5⟩; have HS5 : Hid (SW w1 w5 gd gb w2.heap.size qb qg N #[.int .i64 (N : Int), .bool b, .slice ao Z.length cap, .slice fo F.length fc, .slice (some ⟨g1, 0, none⟩) N c1, .slice (some ⟨g2, 0, none⟩) N c2, .slice (some ⟨gd, 0, none⟩) N N, .slice (some ⟨gb, 0, none⟩) N N] (startD N s) (List.replicate N (0, false)) [s]) := Lib.hid (HS4.out.turned hq5 hk5); clear hq5 hk5))
  obtain ⟨gt, hgt⟩ : ∃ gt, w2.heap.size = gt := ⟨_, rfl⟩
  rw [hgt] at HS5 ⊢
  have hlts : (gd < gt ∧ gb < gt) ∧ w1.heap.size ≤ gt := by omega
  clear HTV HS4 hgt hlt hs2 hqb hqg
  go_step3
  go_wp2
  go_loopg [] (N + 1) (fun k wr => ∃ i x B Q, k + i = N + 1 ∧ Hid (SW w1 wr gd gb gt qb qg N #[.int .i64 (N : Int), .bool b, .slice ao Z.length cap, .slice fo F.length fc, .slice (some ⟨g1, 0, none⟩) N c1, .slice (some ⟨g2, 0, none⟩) N c2, .slice (some ⟨gd, 0, none⟩) N N, .slice (some ⟨gb, 0, none⟩) N N] (farsL x N) B Q) ∧ Hid (VO Z F N s i x B Q))
  case atStart => exact ⟨0, [(s, (0, false), 0)], List.replicate N (0, false), [s], by omega, Lib.hid (by rw [start_fars hs]; exact HS5.out), Lib.hid VO.start⟩
  case round =>
    clear HS5
    obtain ⟨i, x, B, Q, hk, HS, HO⟩ := hrel
    obtain ⟨wo, hwo⟩ : ∃ wo, wo = wr := ⟨_, rfl⟩
    subst hwo
    cases Q with
    | nil =>
      obtain ⟨⟨p0, p1, p2, p3, p4, p5, p6, p7⟩, _⟩ := t8Cells HS.out.tv.var
      have hv2 := kept_box HV.out HS.out.tv.tr.below
      obtain ⟨⟨m0, m1, m2, m3, m4, m5, m6, m7⟩, f0, f1, f2, f3, f4, f5, f6, f7⟩ := t8Cells hv2
      have HV2 := Lib.hid hv2
      clear hv2
      go_wp2_with (first
        | (go_at_call 76; refine (qlen_any qb qg N (natI []) _ HS.out.que).mono ?_; rintro e w6 ⟨rfl, nn, rfl⟩))
      have HS6 := Lib.hid (HS.out.drewN nn)
      have HV3 : Hid ((wo.drewN nn).heap[w.heap.size + 1]? = _) := Lib.hid HV2.out
      generalize wo.drewN nn = wz at *
      obtain ⟨hs1, hk1⟩ := t8Set HV3.out (.int .i64 (N : Int)) (.bool b) (.slice ao Z.length cap) (.slice fo F.length fc) (.slice (some ⟨g1, 0, none⟩) N c1) (.slice (some ⟨g2, 0, none⟩) N c2) (.slice (some ⟨gd, 0, none⟩) N N) (.slice (some ⟨gb, 0, none⟩) N N)
      have hlt := HS6.out.tv.tr.lt
      have hvl := lt_whole HV.out
      have HTR := Lib.hid ((HS6.out.tv.tr.weak HB0.out).kept hk1 (by show gd ≠ w.heap.size + 1; omega) (by show gb ≠ w.heap.size + 1; omega) (fun i e => by have e2 : i = w.heap.size + 1 := e; omega))
      clear m0 m1 m2 m3 m4 m5 m6 m7 f0 f1 f2 f3 f4 f5 f6 f7 p0 p1 p2 p3 p4 p5 p6 p7 hk1 HV3
      generalize World.setCell (World.setCell (World.setCell (World.setCell (World.setCell (World.setCell (World.setCell (World.setCell _ _ _) _ _) _ _) _ _) _ _) _ _) _ _) _ _ = W at *
      obtain ⟨⟨r0, r1, r2, r3, r4, r5, r6, r7⟩, _⟩ := t8Cells hs1
      try rw [Exit.noGoto_ret]
      exact bodyPost_ret (v := .agg #[.int .i64 (N : Int), .bool b, .slice ao Z.length cap, .slice fo F.length fc, .slice (some ⟨g1, 0, none⟩) N c1, .slice (some ⟨g2, 0, none⟩) N c2, .slice (some ⟨gd, 0, none⟩) N N, .slice (some ⟨gb, 0, none⟩) N N]) (by simp [results, Try.results69, go_sem, r0, r1, r2, r3, r4, r5, r6, r7]) rfl ⟨gd, gb, x, B, rfl, HTR.out, HO.out.stop hs HT.out t⟩
    | cons u Q =>
      obtain ⟨hI, hu, hiN⟩ := HO.out.take hs HT.out
      have HI := Lib.hid hI
      have hun : (u : Int) < (N : Int) := by omega
      have HQ : Hid (((natI (u :: Q)).length : Int) = (Q.length : Int) + 1) := Lib.hid (by simp [natI])
      clear hI HO
      go_wp2_with (first
        | (go_at_call 76; refine (qlen_any qb qg N (natI (u :: Q)) _ HS.out.que).mono ?_; rintro e w6 ⟨rfl, nn, rfl⟩; rw [HQ.out]; have HS6 := Lib.hid (HS.out.drewN nn))
        | (go_at_call 77; refine (take_yes qb qg N (natI Q) (u : Int) _ HS6.out.que).mono ?_; rintro e w7 ⟨rfl, hq7, hk7⟩; have hs7 := HS6.out.turned (Q' := Q) hq7 (hk7.mono (fun i _ h => .inl h)); have HS7 := Lib.hid hs7; have e0 := cell_below' hs7.tv.tr.below k0 hx1; have e1 := cell_below' hs7.tv.tr.below k1 hx1; have e2 := cell_below' hs7.tv.tr.below k2 hx1; have e3 := cell_below' hs7.tv.tr.below k3 hx1; have e4 := cell_below' hs7.tv.tr.below k4 hx1; have e5 := cell_below' hs7.tv.tr.below k5 hx1; clear hq7 hk7 hs7)
        | (go_at_call 78; refine (vfrom_at (N : Int) b ao fo cap fc Z F g1 c1 g2 c2 N u _ (HD.out.below HS7.out.tv.tr.below) hu hN hz).mono ?_; rintro e w8 ⟨sa, sc, rfl, hos, hb8⟩; have HS8 := Lib.hid (HS7.out.next hb8); have HOS := Lib.hid hos; have hbl : (gd < w7.heap.size ∧ gb < w7.heap.size) ∧ gt < w7.heap.size ∧ qb < w7.heap.size ∧ qg < w7.heap.size := ⟨⟨HS7.out.tv.tr.lt.1.2, HS7.out.tv.tr.lt.2.2⟩, lt_whole HS7.out.tv.var, HS7.out.que.lt.1, HS7.out.que.lt.2.1⟩; clear hos hb8 e0 e1 e2 e3 e4 e5))
      obtain ⟨b7, hb7⟩ : ∃ b7, w7.heap.size = b7 := ⟨_, rfl⟩
      rw [hb7] at hbl HOS
      have hsl := stepsU_len Z u
      obtain ⟨SU, hSU⟩ : ∃ SU, stepsU Z u = SU := ⟨_, rfl⟩
      rw [hSU] at hsl HOS
      have HSU := Lib.hid hSU
      rw [HSU.out]
      clear hSU HS HS6 HS7 hb7 HQ
      go_loopw [41] (fun iv wi => ∃ (j : Nat) (x : List Ent) (B : List StepT) (Q : List Nat), j ≤ SU.length ∧ iv = .int .i64 (j : Int) ∧ Hid (SW w1 wi gd gb gt qb qg N #[.int .i64 (N : Int), .bool b, .slice ao Z.length cap, .slice fo F.length fc, .slice (some ⟨g1, 0, none⟩) N c1, .slice (some ⟨g2, 0, none⟩) N c2, .slice (some ⟨gd, 0, none⟩) N N, .slice (some ⟨gb, 0, none⟩) N N] (farsL x N) B Q) ∧ Hid (OwnS wi b7 (.slice sa SU.length sc) SU) ∧ Hid (VI Z F N s i x B u Q (SU.drop j))) (fun iv _ => SU.length - (intOf iv).toNat)
      case atStart => exact ⟨0, x, B, Q, Nat.zero_le _, rfl, HS8, HOS, Lib.hid (by rw [List.drop_zero, ← HSU.out]; exact HI.out)⟩
      case round =>
        clear HS8 HOS HI
        obtain ⟨j, x, B, Q, hj, rfl, HS, HOS, HI⟩ := hrel
        have e0 := cell_below' HS.out.tv.tr.below k0 hx1
        have e1 := cell_below' HS.out.tv.tr.below k1 hx1
        have e2 := cell_below' HS.out.tv.tr.below k2 hx1
        have e3 := cell_below' HS.out.tv.tr.below k3 hx1
        have e4 := cell_below' HS.out.tv.tr.below k4 hx1
        have e5 := cell_below' HS.out.tv.tr.below k5 hx1
        by_cases hlt : j < SU.length
        · have hli : (j : Int) < (SU.length : Int) := by omega
          have hDr : SU.drop j = SU[j] :: SU.drop (j + 1) := List.drop_eq_getElem_cons hlt
          obtain ⟨bb, oo, e, hbb, q0, q1⟩ := step_at (own_rowK encS_len HOS.out) (List.getElem?_eq_getElem hlt)
          cases e
          have hI := HI.out
          rw [hDr] at hI
          have HI2 := Lib.hid hI
          clear hDr hI
          generalize SU[j] = y at *
          obtain ⟨p, a, q, hp, ha, hy, hyf⟩ := stepsU_mem (HI2.out.mem y (by simp))
          subst hy
          simp only at q0 q1
          obtain ⟨v, hv⟩ : ∃ v, toS Z ((p : Int), q) = v := ⟨_, rfl⟩
          obtain ⟨rb, hrb⟩ : ∃ rb, roomB Z F ((p : Int), q) = rb := ⟨_, rfl⟩
          have HEND : Hid (endI a q = (v : Int)) := Lib.hid (by rw [← hv]; exact (begI_fromE ha (HE.out a (List.mem_of_getElem? ha)) q).2)
          have HA := Lib.hid ha
          have HVV := Lib.hid hv
          have HRB := Lib.hid hrb
          have hvN : v < N := by rw [← hv]; exact hTa p a q ha
          have hvi : (v : Int) < (N : Int) := by omega
          obtain ⟨hf0, hfN, hfb⟩ := HI2.out.far hs HT.out
          have hfbv := hfb v
          obtain ⟨fu, hfu⟩ : ∃ fu, farX x u = fu := ⟨_, rfl⟩
          obtain ⟨fv, hfv⟩ : ∃ fv, farX x v = fv := ⟨_, rfl⟩
          rw [hfu] at hf0 hfN
          rw [hfv] at hfbv
          have HFU := Lib.hid hfu
          have HFV := Lib.hid hfv
          have hBl := HI2.out.byy.1
          have hsz := HS.out.tv.tr.below.size
          have HS8 := Lib.hid (HS.out.next ((Below.refl _ _).alloc (Nat.le_refl _) (.cells #[.int .i64 (p : Int), .bool q] 90)))
          have HO8 := Lib.hid (HOS.out.alloc (.cells #[.int .i64 (p : Int), .bool q] 90))
          have y0 := cell_alloc e0 (.cells #[.int .i64 (p : Int), .bool q] 90)
          have y1 := cell_alloc e1 (.cells #[.int .i64 (p : Int), .bool q] 90)
          have y2 := cell_alloc e2 (.cells #[.int .i64 (p : Int), .bool q] 90)
          have y3 := cell_alloc e3 (.cells #[.int .i64 (p : Int), .bool q] 90)
          have y4 := cell_alloc e4 (.cells #[.int .i64 (p : Int), .bool q] 90)
          have y5 := cell_alloc e5 (.cells #[.int .i64 (p : Int), .bool q] 90)
          have s0 := cell_new wr #[.int .i64 (p : Int), .bool q] 90 0
          have s1 := cell_new wr #[.int .i64 (p : Int), .bool q] 90 1
          obtain ⟨bs, hbs⟩ : ∃ bs, wr.heap.size = bs := ⟨_, rfl⟩
          have hbl2 : (gd < bs ∧ gb < bs) ∧ gt < bs ∧ qb < bs ∧ qg < bs ∧ w.heap.size < bs := by
            have h1 := HS.out.tv.tr.lt
            have h2 := lt_whole HS.out.tv.var
            have h3 := HS.out.que.lt
            omega
          have hbn : bs < (wr.alloc (.cells #[.int .i64 (p : Int), .bool q] 90)).heap.size := by simp; omega
          rw [hbs] at s0 s1
          clear hv hrb hfu hfv ha hyf hfb e0 e1 e2 e3 e4 e5
          cases rb
          · have HI3 := Lib.hid (HI2.out.skip HRB.out)
            go_wp2_with (first
              | (go_at_call 79; refine (vend_at (N : Int) b ao cap Z p q a _ (HD.out.below HS8.out.tv.tr.below).arcs HA.out hz).mono ?_; rintro e w9 ⟨rfl, hb9⟩; rw [HEND.out]; have HS9 := Lib.hid (HS8.out.next hb9); have HO9 := Lib.hid (HO8.out.below hb9); have z0 := cell_below hb9 y0; have z1 := cell_below hb9 y1; have z2 := cell_below hb9 y2; have z3 := cell_below hb9 y3; have z4 := cell_below hb9 y4; have z5 := cell_below hb9 y5; have t0 := cell_below hb9 s0; have t1 := cell_below hb9 s1; have hbn9 := Nat.lt_of_lt_of_le hbn hb9.size; clear hb9 y0 y1 y2 y3 y4 y5 s0 s1)
              | (go_at_call 80; refine (vhasroom_is (N : Int) b ao cap Z fo fc F _ _ p q false _ (HD.out.below HS9.out.tv.tr.below).arcs (HD.out.below HS9.out.tv.tr.below).flow hp HFL.out hz HRB.out).mono ?_; rintro e w10 ⟨rfl, hb10⟩; have HS10 := Lib.hid (HS9.out.next hb10); have HO10 := Lib.hid (HO9.out.below hb10); have r0 := cell_below hb10 t0; have r1 := cell_below hb10 t1; obtain ⟨dv, dvf⟩ := HS10.out.tv.tr.lev.cell (atI_get (v := v) (by rw [farsL_len]; exact hvN)); obtain ⟨du, duf⟩ := HS10.out.tv.tr.lev.cell (atI_get (v := u) (by rw [farsL_len]; exact hu)); rw [farsL_at x hvN, HFV.out] at dv; rw [farsL_at x hu, HFU.out] at du; unfold encI at dv du; obtain ⟨⟨_, _, _, _, _, _, g6, g7⟩, _⟩ := t8Cells HS10.out.tv.var; have hbn10 := Nat.lt_of_lt_of_le hbn9 hb10.size; clear hb10 z0 z1 z2 z3 z4 z5 t0 t1))
            go_roundw
            case rel => exact ⟨j + 1, x, B, Q, by omega, by go_num, HS10, HO10, HI3⟩
            case measure => simp [intOf]; omega
          · by_cases h0 : fv = -1
            · subst h0
              obtain ⟨hI3, hK3, hQl, hF3, hM3⟩ := HI2.out.add HRB.out (by rw [HVV.out]; exact HFV.out) hs HT.out
              rw [HVV.out] at hI3 hK3 hF3 hM3
              rw [HFU.out] at hK3
              have HI3 := Lib.hid hI3
              have HK3 := Lib.hid hK3
              have HM3 := Lib.hid hM3
              clear hI3 hK3 hM3 hF3
              go_wp2_with (first
                | (go_at_call 79; refine (vend_at (N : Int) b ao cap Z p q a _ (HD.out.below HS8.out.tv.tr.below).arcs HA.out hz).mono ?_; rintro e w9 ⟨rfl, hb9⟩; rw [HEND.out]; have HS9 := Lib.hid (HS8.out.next hb9); have HO9 := Lib.hid (HO8.out.below hb9); have z0 := cell_below hb9 y0; have z1 := cell_below hb9 y1; have z2 := cell_below hb9 y2; have z3 := cell_below hb9 y3; have z4 := cell_below hb9 y4; have z5 := cell_below hb9 y5; have t0 := cell_below hb9 s0; have t1 := cell_below hb9 s1; have hbn9 := Nat.lt_of_lt_of_le hbn hb9.size; clear hb9 y0 y1 y2 y3 y4 y5 s0 s1)
                | (go_at_call 80; refine (vhasroom_is (N : Int) b ao cap Z fo fc F _ _ p q true _ (HD.out.below HS9.out.tv.tr.below).arcs (HD.out.below HS9.out.tv.tr.below).flow hp HFL.out hz HRB.out).mono ?_; rintro e w10 ⟨rfl, hb10⟩; have HS10 := Lib.hid (HS9.out.next hb10); have HO10 := Lib.hid (HO9.out.below hb10); have r0 := cell_below hb10 t0; have r1 := cell_below hb10 t1; obtain ⟨dv, dvf⟩ := HS10.out.tv.tr.lev.cell (atI_get (v := v) (by rw [farsL_len]; exact hvN)); obtain ⟨du, duf⟩ := HS10.out.tv.tr.lev.cell (atI_get (v := u) (by rw [farsL_len]; exact hu)); rw [farsL_at x hvN, HFV.out] at dv; rw [farsL_at x hu, HFU.out] at du; unfold encI at dv du; obtain ⟨⟨_, _, _, _, _, _, g6, g7⟩, _⟩ := t8Cells HS10.out.tv.var; have hbn10 := Nat.lt_of_lt_of_le hbn9 hb10.size; clear hb10 z0 z1 z2 z3 z4 z5 t0 t1))
              go_region
              have hvB : v < B.length := by rw [hBl]; exact hvN
              have hS11 := (HS10.out.setL v (fu + 1)).next (below_drew (Below.refl _ _))
              rw [← HK3.out] at hS11
              have hk11 : Kept (fun i => i = gd) w10 (w10.setCell ⟨gd, v, none⟩ (.int .i64 (fu + 1))).drew := ((Kept.refl (fun i => i = gd) w10).set (.inl rfl) _).drew
              have hcb := hk11.block bs hbn10 (by show bs ≠ gd; omega)
              have r2 := (cell_of_block (o := 0) hcb).trans r0
              have r3 := (cell_of_block (o := 1) hcb).trans r1
              have HO11 := Lib.hid (HO10.out.keptv hk11 (fun g hg => by show g ≠ gd; omega))
              have HS11 := Lib.hid hS11
              clear hk11 hcb hS11 r0 r1 dv dvf du duf g6 g7 HS10 HO10
              generalize (w10.setCell ⟨gd, v, none⟩ (.int .i64 (fu + 1))).drew = w11 at *
              obtain ⟨⟨_, _, _, _, _, _, g6, g7⟩, _⟩ := t8Cells HS11.out.tv.var
              obtain ⟨⟨d0, d1⟩, d2, d3⟩ := HS11.out.tv.tr.byy.cell (List.getElem?_eq_getElem hvB)
              have hS12 := HS11.out.setB hvB (p : Int) q
              have hk12 : Kept (fun i => i = gb) w11 ((w11.setCell ⟨gb, v * 2, none⟩ (.int .i64 (p : Int))).setCell ⟨gb, v * 2 + 1, none⟩ (.bool q)) := ((Kept.refl (fun i => i = gb) w11).set (.inl rfl) _).set (.inl rfl) _
              have HO12 := Lib.hid (HO11.out.keptv hk12 (fun g hg => by show g ≠ gb; omega))
              have HS12 := Lib.hid hS12
              clear hk12 hS12
              by_cases hte : (v : Int) = t
              · have hft : ((v : Int) == t) = true := by simpa using hte
                have HTE := Lib.hid hte
                clear hte
                obtain ⟨⟨p0, p1, p2, p3, p4, p5, p6, p7⟩, _⟩ := t8Cells HS12.out.tv.var
                have hv2 := kept_box HV.out HS12.out.tv.tr.below
                obtain ⟨⟨m0, m1, m2, m3, m4, m5, m6, m7⟩, f0, f1, f2, f3, f4, f5, f6, f7⟩ := t8Cells hv2
                have HV2 := Lib.hid hv2
                clear hv2
                go_wp2
                rw [Exit.noGoto_ret]
                generalize (w11.setCell ⟨gb, v * 2, none⟩ (.int .i64 (p : Int))).setCell ⟨gb, v * 2 + 1, none⟩ (.bool q) = wz at *
                obtain ⟨hs1, hk1⟩ := t8Set HV2.out (.int .i64 (N : Int)) (.bool b) (.slice ao Z.length cap) (.slice fo F.length fc) (.slice (some ⟨g1, 0, none⟩) N c1) (.slice (some ⟨g2, 0, none⟩) N c2) (.slice (some ⟨gd, 0, none⟩) N N) (.slice (some ⟨gb, 0, none⟩) N N)
                have hlt2 := HS12.out.tv.tr.lt
                have hvl := lt_whole HV.out
                have HTR := Lib.hid ((HS12.out.tv.tr.weak HB0.out).kept hk1 (by show gd ≠ w.heap.size + 1; omega) (by show gb ≠ w.heap.size + 1; omega) (fun i e => by have e2 : i = w.heap.size + 1 := e; omega))
                clear m0 m1 m2 m3 m4 m5 m6 m7 f0 f1 f2 f3 f4 f5 f6 f7 p0 p1 p2 p3 p4 p5 p6 p7 hk1 HV2
                generalize World.setCell (World.setCell (World.setCell (World.setCell (World.setCell (World.setCell (World.setCell (World.setCell _ _ _) _ _) _ _) _ _) _ _) _ _) _ _) _ _ = W at *
                obtain ⟨⟨r0, r1, r2, r3, r4, r5, r6, r7⟩, _⟩ := t8Cells hs1
                exact bodyPost_ret (v := .agg #[.int .i64 (N : Int), .bool b, .slice ao Z.length cap, .slice fo F.length fc, .slice (some ⟨g1, 0, none⟩) N c1, .slice (some ⟨g2, 0, none⟩) N c2, .slice (some ⟨gd, 0, none⟩) N N, .slice (some ⟨gb, 0, none⟩) N N]) (by simp [results, Try.results69, go_sem, r0, r1, r2, r3, r4, r5, r6, r7]) rfl ⟨gd, gb, _, _, rfl, HTR.out, HI3.out.out hiN HTE.out.symm HM3.out⟩
              · have hft : ((v : Int) == t) = false := by simpa using hte
                clear hte
                go_wp2_with (first
                  | (go_at_call 75; go_loud (refine (put_yes qb qg N (natI Q) (v : Int) _ HS12.out.que (by rw [natI_len]; exact hQl)).mono ?_; rintro e w13 ⟨rfl, hq13, hk13⟩; have HS13 := Lib.hid (HS12.out.turned (Q' := Q ++ [v]) (by rw [natI_snoc]; exact hq13) hk13); have HO13 := Lib.hid (HO12.out.keptv hk13 (fun g hg => by show ¬ (g = qb ∨ g = qg); omega)); clear hq13 hk13)))
                go_roundw
                case rel => exact ⟨j + 1, _, _, _, by omega, by go_num, HS13, HO13, HI3⟩
                case measure => simp [intOf]; omega
            · have HI3 := Lib.hid (HI2.out.old HRB.out (by rw [HVV.out, HFV.out]; exact h0))
              have hf1 : (fv == -1) = false := by simpa using h0
              have hf2 : (fv != -1) = true := by simpa using h0
              go_wp2_with (first
                | (go_at_call 79; refine (vend_at (N : Int) b ao cap Z p q a _ (HD.out.below HS8.out.tv.tr.below).arcs HA.out hz).mono ?_; rintro e w9 ⟨rfl, hb9⟩; rw [HEND.out]; have HS9 := Lib.hid (HS8.out.next hb9); have HO9 := Lib.hid (HO8.out.below hb9); have z0 := cell_below hb9 y0; have z1 := cell_below hb9 y1; have z2 := cell_below hb9 y2; have z3 := cell_below hb9 y3; have z4 := cell_below hb9 y4; have z5 := cell_below hb9 y5; have t0 := cell_below hb9 s0; have t1 := cell_below hb9 s1; have hbn9 := Nat.lt_of_lt_of_le hbn hb9.size; clear hb9 y0 y1 y2 y3 y4 y5 s0 s1)
                | (go_at_call 80; refine (vhasroom_is (N : Int) b ao cap Z fo fc F _ _ p q true _ (HD.out.below HS9.out.tv.tr.below).arcs (HD.out.below HS9.out.tv.tr.below).flow hp HFL.out hz HRB.out).mono ?_; rintro e w10 ⟨rfl, hb10⟩; have HS10 := Lib.hid (HS9.out.next hb10); have HO10 := Lib.hid (HO9.out.below hb10); have r0 := cell_below hb10 t0; have r1 := cell_below hb10 t1; obtain ⟨dv, dvf⟩ := HS10.out.tv.tr.lev.cell (atI_get (v := v) (by rw [farsL_len]; exact hvN)); obtain ⟨du, duf⟩ := HS10.out.tv.tr.lev.cell (atI_get (v := u) (by rw [farsL_len]; exact hu)); rw [farsL_at x hvN, HFV.out] at dv; rw [farsL_at x hu, HFU.out] at du; unfold encI at dv du; obtain ⟨⟨_, _, _, _, _, _, g6, g7⟩, _⟩ := t8Cells HS10.out.tv.var; have hbn10 := Nat.lt_of_lt_of_le hbn9 hb10.size; clear hb10 z0 z1 z2 z3 z4 z5 t0 t1))
              go_roundw
              case rel => exact ⟨j + 1, x, B, Q, by omega, by go_num, HS10, HO10, HI3⟩
              case measure => simp [intOf]; omega
        · have hli : ¬ (j : Int) < (SU.length : Int) := by omega
          obtain rfl : j = SU.length := by omega
          have hI := HI.out
          rw [List.drop_length] at hI
          have HO2 := Lib.hid hI.done
          clear hI
          go_wp2
          go_roundg (gk - 1)
          case measure => omega
          case rel => exact ⟨i + 1, x, B, Q, by omega, HS, HO2⟩
end
end Go.Proofs.Ytmflleifglefiaa

namespace Go.Proofs.Ytmflleifglefiaa
open Go.RowKit
set_option linter.unusedVariables false

theorem rep_set {α : Type} (z s : α) (k : Nat) (suf : List α) : (List.replicate (k + 1) z ++ suf).set k s = List.replicate k z ++ (s :: suf) := by
  rw [List.replicate_succ', List.append_assoc, List.set_append_right _ _ (by simp), List.length_replicate, Nat.sub_self]
  rfl
section
variable (b : Bool) (ao fo : Option Addr) (cap fc : Nat) (Z : List ArcT) (F : List Int) (g1 c1 g2 c2 N : Nat)
set_option maxRecDepth 100000 in
set_option maxHeartbeats 8000000 in
theorem vtreepath_at (gd gb : Nat) (x : List Ent) (B : List StepT) (l : List StepT) (s i0 : Nat) (P : List StepT) (w0 : World) (j0 : Nat) (q0 : Ent) (w : World) (h : TR w0 w gd gb N (farsL x N) B) (hr : Row encA 4 w ao Z) (hsk : SK (fromS Z) (toS Z) l s x i0 P) (hby : ByX N x B) (hq : x[j0]? = some q0) (hk : ∀ v ∈ keysX x, v < N) (hN : N ≤ 50) (hz : Z.length ≤ 200)
    (hl : ∀ y ∈ l, ∃ (p : Nat) (a : ArcT) (q : Bool), Z[p]? = some a ∧ y = ((p : Int), q)) (hE : ∀ a ∈ Z, a.1 = (frN a : Int) ∧ a.2.1 = (toN a : Int)) (hL : (pathX x j0).length ≤ 50) :
    Calls Try.prog 70 #[.agg #[.int .i64 (N : Int), .bool b, .slice ao Z.length cap, .slice fo F.length fc, .slice (some ⟨g1, 0, none⟩) N c1, .slice (some ⟨g2, 0, none⟩) N c2, .slice (some ⟨gd, 0, none⟩) N N, .slice (some ⟨gb, 0, none⟩) N N], .int .i64 (q0.1 : Int)] w (StepsV (pathX x j0) w) := by
  have hb00 := (Below.refl _ w).alloc (Nat.le_refl _) (.cells #[.int .i64 (N : Int), .bool b, .slice ao Z.length cap, .slice fo F.length fc, .slice (some ⟨g1, 0, none⟩) N c1, .slice (some ⟨g2, 0, none⟩) N c2, .slice (some ⟨gd, 0, none⟩) N N, .slice (some ⟨gb, 0, none⟩) N N] 117)
  have HB0 := Lib.hid hb00
  have hn1 := heap_alloc_new w (.cells #[.int .i64 (N : Int), .bool b, .slice ao Z.length cap, .slice fo F.length fc, .slice (some ⟨g1, 0, none⟩) N c1, .slice (some ⟨g2, 0, none⟩) N c2, .slice (some ⟨gd, 0, none⟩) N N, .slice (some ⟨gb, 0, none⟩) N N] 117)
  have HX := Lib.hid hn1
  obtain ⟨⟨k0, k1, k2, k3, k4, k5, k6, k7⟩, _⟩ := t8Cells hn1
  have HT := Lib.hid (h.next hb00)
  have HR := Lib.hid (hr.below' hb00)
  have HSK := Lib.hid hsk
  have HBY := Lib.hid hby
  have HK := Lib.hid hk
  have HE := Lib.hid hE
  have HL := Lib.hid hl
  have HQ := Lib.hid hq
  have hq0N : q0.1 < N := hk _ (keysX_mem.2 ⟨j0, q0, hq, rfl⟩)
  have hqi : (q0.1 : Int) < (N : Int) := by omega
  have hgl := h.lt
  obtain ⟨dv, dvf⟩ := HT.out.lev.cell (atI_get (v := q0.1) (by rw [farsL_len]; exact hq0N))
  rw [farsL_at x hq0N, farX_some hsk hq] at dv
  unfold encI at dv
  obtain ⟨L0, hL0⟩ : ∃ L0, (pathX x j0).length = L0 := ⟨_, rfl⟩
  have HL0 := Lib.hid hL0
  rw [hL0] at dv hL
  obtain ⟨R, hR⟩ : ∃ R, pathX x j0 = R := ⟨_, rfl⟩
  rw [hR]
  have HRR := Lib.hid hR
  obtain ⟨v0, hv0⟩ : ∃ v0, q0.1 = v0 := ⟨_, rfl⟩
  have HV0 := Lib.hid hv0
  rw [hv0] at dv dvf hqi hq0N ⊢
  have HSZ : Hid ((w.alloc (.cells #[.int .i64 (N : Int), .bool b, .slice ao Z.length cap, .slice fo F.length fc, .slice (some ⟨g1, 0, none⟩) N c1, .slice (some ⟨g2, 0, none⟩) N c2, .slice (some ⟨gd, 0, none⟩) N N, .slice (some ⟨gb, 0, none⟩) N N] 117)).heap.size = w.heap.size + 1) := Lib.hid (by simp)
  clear h hr hsk hby hk hE hl hq hb00 hn1 hL0 hR hv0
  go_enter Try.func70, Try.ntmps70
  go_wp2_with (first
    | (at_make; refine wpList_make_steps rfl _ _ rfl L0 rfl rfl (by omega) ?_; intro w2 ho2 hb2; have HO2 := Lib.hid ho2; have HB2 := Lib.hid hb2; clear ho2 hb2 k6 dv dvf))
  generalize w.alloc (.cells #[.int .i64 (N : Int), .bool b, .slice ao Z.length cap, .slice fo F.length fc, .slice (some ⟨g1, 0, none⟩) N c1, .slice (some ⟨g2, 0, none⟩) N c2, .slice (some ⟨gd, 0, none⟩) N N, .slice (some ⟨gb, 0, none⟩) N N] 117) = w1 at *
  have hx1 := lt_whole HX.out
  obtain ⟨g, hg⟩ : ∃ g, w.heap.size + 1 = g := ⟨_, rfl⟩
  have hg2 : w1.heap.size = g := by rw [HSZ.out, hg]
  rw [hg2] at HO2
  rw [hg]
  go_loopw [1, 6] (fun nv lv wr => ∃ (m j : Nat) (q : Ent) (suf : List StepT), nv = .int .i64 (q.1 : Int) ∧ lv = .int .i64 (m : Int) ∧ m ≤ L0 ∧ Hid (x[j]? = some q) ∧ Hid ((pathX x j).length = m) ∧ Hid (R = pathX x j ++ suf) ∧ Hid (OwnS wr w1.heap.size (.slice (some ⟨g, 0, none⟩) L0 L0) (List.replicate m (0, false) ++ suf)) ∧ Hid (Below w1.heap.size w1 wr)) (fun _ lv _ => (intOf lv).toNat)
  case atStart => exact ⟨L0, j0, q0, [], by rw [HV0.out], rfl, Nat.le_refl _, HQ, HL0, Lib.hid (by rw [HRR.out]; simp), Lib.hid (by rw [List.append_nil, hg2]; exact HO2.out), HB2⟩
  case round =>
    obtain ⟨m, j, q, suf, rfl, rfl, hm, HQJ, HPL, HRS, HO, HB⟩ := hrel
    cases m with
    | zero =>
      obtain rfl : j = 0 := by
        refine Classical.byContradiction fun h0 => ?_
        have h1 := pathX_succ HSK.out HQJ.out (by omega)
        have h2 := HPL.out
        rw [h1] at h2
        simp at h2
      have HRE : Hid (R = suf) := Lib.hid (by rw [HRS.out, pathX_zero, List.nil_append])
      go_wp2
      go_ret
      have ho := HO.out
      rw [List.replicate_zero, List.nil_append, ← HRE.out] at ho
      have hl0 : R.length = L0 := by rw [← HRR.out, HL0.out]
      exact ⟨some ⟨g, 0, none⟩, L0, by rw [hl0]; rfl, own_rowK encS_len ho, HB0.out.trans (HB.out.mono HB0.out.size)⟩
    | succ k =>
      have hj0 : 0 < j := by
        refine Classical.byContradiction fun h0 => ?_
        obtain rfl : j = 0 := by omega
        have h2 := HPL.out
        rw [pathX_zero] at h2
        simp at h2
      obtain ⟨hyl, hyt, hjl, _, q', hq', hqf⟩ := HSK.out.par j q HQJ.out hj0
      have hps := pathX_succ HSK.out HQJ.out hj0
      have hB := HBY.out.2 j q HQJ.out hj0
      have hqN := HK.out _ (keysX_mem.2 ⟨j, q, HQJ.out, rfl⟩)
      have hqi2 : (q.1 : Int) < (N : Int) := by omega
      obtain ⟨p, a, dir, ha, hy⟩ := HL.out _ hyl
      have HFR : Hid (begI a dir = (q'.1 : Int)) := Lib.hid (by rw [hqf, hy]; exact (begI_fromE ha (HE.out a (List.mem_of_getElem? ha)) dir).1)
      have HRS2 : Hid (R = pathX x q.2.2 ++ ((p : Int), dir) :: suf) := Lib.hid (by rw [HRS.out, hps, hy, List.append_assoc]; rfl)
      have HPL2 : Hid ((pathX x q.2.2).length = k) := Lib.hid (by have := HPL.out; rw [hps, List.length_append] at this; simpa using this)
      rw [hy] at hB
      have HA := Lib.hid ha
      have HQ' := Lib.hid hq'
      have HBq := Lib.hid hB
      have hTw := HT.out.next HB.out
      obtain ⟨⟨d0, d1⟩, _, _⟩ := hTw.byy.cell hB
      have hOl : k < (List.replicate (k + 1) ((0, false) : StepT) ++ suf).length := by simp; omega
      obtain ⟨⟨s0, s1⟩, s2, s3⟩ := HO.out.cell (List.getElem?_eq_getElem hOl)
      have hki : (k : Int) < (L0 : Int) := by omega
      have m0 := cell_below' HB.out k0 hx1
      have m1 := cell_below' HB.out k1 hx1
      have m2 := cell_below' HB.out k2 hx1
      have m7 := cell_below' HB.out k7 hx1
      have hO2 := HO.out.put hOl (p : Int) dir
      rw [rep_set] at hO2
      have hB2 : Below w1.heap.size w1 ((wr.setCell ⟨g, k * 2, none⟩ (.int .i64 (p : Int))).setCell ⟨g, k * 2 + 1, none⟩ (.bool dir)) := below_set (below_set HB.out (by omega) _) (by omega) _
      have HO2 := Lib.hid hO2
      have HB2 := Lib.hid hB2
      generalize q.1 = v at *
      clear hps hyl hyt hy ha hq' hqf hB hTw hO2 hB2 HQJ HPL HRS
      go_wp2_with fail
      generalize (wr.setCell ⟨g, k * 2, none⟩ (.int .i64 (p : Int))).setCell ⟨g, k * 2 + 1, none⟩ (.bool dir) = W at *
      clear m0 m1 m2 m7 d0 d1 s0 s1 s2 s3 hOl
      have hT2 := HT.out.next HB2.out
      have hgbl := hT2.lt.2.2
      obtain ⟨⟨d0, d1⟩, _, _⟩ := hT2.byy.cell HBq.out
      have m0 := cell_below' HB2.out k0 hx1
      have m1 := cell_below' HB2.out k1 hx1
      have m2 := cell_below' HB2.out k2 hx1
      have m7 := cell_below' HB2.out k7 hx1
      have HRW := Lib.hid (HR.out.below' HB2.out)
      clear hT2
      have HCALL := Lib.hid (vbegin_at (N : Int) b ao cap Z p dir a W.drew (HRW.out.below' (below_drew (Below.refl W.heap.size W))) HA.out hz)
      go_region_held3 (fun W => W.cell? ⟨w.heap.size, 0, none⟩ = some (.int .i64 (N : Int)) ∧ W.cell? ⟨w.heap.size, 1, none⟩ = some (.bool b) ∧ W.cell? ⟨w.heap.size, 2, none⟩ = some (.slice ao Z.length cap) ∧ W.cell? ⟨w.heap.size, 7, none⟩ = some (.slice (some ⟨gb, 0, none⟩) N N) ∧ W.cell? ⟨gb, v * 2, none⟩ = some (.int .i64 (p : Int)) ∧ W.cell? ⟨gb, v * 2 + 1, none⟩ = some (.bool dir)) (first | exact ⟨m0, m1, m2, m7, d0, d1⟩ | exact ⟨z0, z1, z2, z3, z4, z5⟩ | go_keep)
        (first | (go_at_call 81; go_loud (refine HCALL.out.mono ?_; rintro e w6 ⟨rfl, b6⟩; rw [HFR.out]; have z0 := cell_below (w := W.drew) b6 m0; have z1 := cell_below (w := W.drew) b6 m1; have z2 := cell_below (w := W.drew) b6 m2; have z3 := cell_below (w := W.drew) b6 m7; have z4 := cell_below (w := W.drew) b6 d0; have z5 := cell_below (w := W.drew) b6 d1; have HO6 := Lib.hid (OwnS.below (w := W.drew) HO2.out b6); have HB6 := Lib.hid ((below_drew HB2.out).trans (b6.mono HB2.out.size)); clear b6)))
      all_goals
        go_wp2
        go_roundw
        case rel => exact ⟨k, q.2.2, q', ((p : Int), dir) :: suf, rfl, by go_num, by omega, HQ', HPL2, HRS2, HO6, HB6⟩
        case measure => simp [intOf]
end
end Go.Proofs.Ytmflleifglefiaa

namespace Go.Proofs.Ytmflleifglefiaa
open Go.RowKit
set_option linter.unusedVariables false

def seekF (n : Int) (Z : List ArcT) (F : List Int) (s : Int) : List Ent := seekK (fromS Z) (toS Z) (stepsK Z F Z.length) s.toNat n.toNat
def levE (n : Int) (Z : List ArcT) (F : List Int) (s : Int) : Int := if flowE n Z F = 0 then (if nodeB n s = true then 0 else 1) else flowE n Z F
def levL (n : Int) (Z : List ArcT) (F : List Int) (s : Int) : List Int := if levE n Z F s = 0 then farsL (seekF n Z F s) n.toNat else []
def pathE (n : Int) (Z : List ArcT) (F : List Int) (s t : Int) : Int := if flowE n Z F = 0 then endsE n Z s t else flowE n Z F
def wayF (n : Int) (Z : List ArcT) (F : List Int) (s t : Int) : Option (List StepT) := if pathE n Z F s t = 0 then wayK (fromS Z) (toS Z) (stepsK Z F Z.length) n.toNat s.toNat t.toNat else none
def wayL (n : Int) (Z : List ArcT) (F : List Int) (s t : Int) : List StepT := (wayF n Z F s t).getD []
def wayB (n : Int) (Z : List ArcT) (F : List Int) (s t : Int) : Bool := (wayF n Z F s t).isSome
theorem levE_ok {n : Int} {Z : List ArcT} {F : List Int} {s : Int} (h : levE n Z F s = 0) : flowE n Z F = 0 ∧ nodeB n s = true ∧ ∃ i : Nat, s = (i : Int) ∧ i < n.toNat := by
  unfold levE at h
  split at h
  · next h1 =>
    split at h
    · next h2 =>
      have h3 := h2
      unfold nodeB at h3
      rw [decide_eq_true_eq] at h3
      exact ⟨h1, h2, s.toNat, by omega, by omega⟩
    · exact absurd h (by decide)
  · next h1 => exact absurd h h1
theorem pathE_ok {n : Int} {Z : List ArcT} {F : List Int} {s t : Int} (h : pathE n Z F s t = 0) : flowE n Z F = 0 ∧ endsE n Z s t = 0 := by
  unfold pathE at h
  split at h
  · next h1 => exact ⟨h1, h⟩
  · next h1 => exact absurd h h1
theorem levL_no {n : Int} {Z : List ArcT} {F : List Int} {s : Int} (h : levE n Z F s ≠ 0) : levL n Z F s = [] := by unfold levL; rw [if_neg h]
theorem wayF_no {n : Int} {Z : List ArcT} {F : List Int} {s t : Int} (h : pathE n Z F s t ≠ 0) : wayF n Z F s t = none := by unfold wayF; rw [if_neg h]
theorem flow_arcs {n : Int} {Z : List ArcT} {F : List Int} (h : flowE n Z F = 0) : (∀ a ∈ Z, a.1 = (frN a : Int) ∧ a.2.1 = (toN a : Int)) ∧ (∀ (p : Nat) (a : ArcT) (q : Bool), Z[p]? = some a → toS Z ((p : Int), q) < n.toNat ∧ fromS Z ((p : Int), q) < n.toNat) := by
  have hR := (flow_facts (b := true) h).1
  refine ⟨fun a ha => ⟨(right_arc hR ha).1, (right_arc hR ha).2.1⟩, fun p a q ha => ?_⟩
  obtain ⟨_, _, h1, h2, _, _⟩ := right_arc hR (List.mem_of_getElem? ha)
  have e := arcOf_nat q ha
  unfold toS fromS
  rw [e]
  cases q <;> simp [h1, h2]
theorem stepsK_arc {Z : List ArcT} {F : List Int} {y : StepT} (h : y ∈ stepsK Z F Z.length) : ∃ (p : Nat) (a : ArcT) (q : Bool), Z[p]? = some a ∧ y = ((p : Int), q) := by
  obtain ⟨h1, _, _⟩ := (stepsK_mem (Nat.le_refl _)).1 h
  refine ⟨y.1.toNat, _, y.2, arcOf_at h1, ?_⟩
  unfold isArc at h1
  obtain ⟨y1, y2⟩ := y
  simp only at h1 ⊢
  rw [Int.toNat_of_nonneg h1.1]
theorem flow_to {n : Int} {Z : List ArcT} {F : List Int} (h : flowE n Z F = 0) : ∀ y ∈ stepsK Z F Z.length, toS Z y < n.toNat := by
  intro y hy
  obtain ⟨p, a, q, ha, rfl⟩ := stepsK_arc hy
  exact ((flow_arcs h).2 p a q ha).1
/-- What the search finds until t is found is what all of it finds of t. -/
theorem VR.way {Z : List ArcT} {F : List Int} {N s t : Nat} {x : List Ent} {B : List StepT} (h : VR Z F N s (t : Int) x B) (hs : s < N) (hT : ∀ y ∈ stepsK Z F Z.length, toS Z y < N) :
    (farX x t = -1 ∧ wayK (fromS Z) (toS Z) (stepsK Z F Z.length) N s t = none) ∨ ∃ b q, farX x t ≠ -1 ∧ x[b]? = some q ∧ q.1 = t ∧ wayK (fromS Z) (toS Z) (stepsK Z F Z.length) N s t = some (pathX x b) ∧ (pathX x b).length ≤ b ∧ b < N := by
  obtain ⟨i, P, hsk⟩ := h.sk
  by_cases hm : t ∈ keysX x
  · obtain ⟨b, q, hb, hq⟩ := keysX_mem.1 hm
    obtain ⟨r, hr⟩ := h.pre
    have hbl := (List.getElem?_eq_some_iff.1 hb).1
    have hb2 : (seekK (fromS Z) (toS Z) (stepsK Z F Z.length) s N)[b]? = some q := by rw [hr, List.getElem?_append_left hbl]; exact hb
    have hw := wayK_mk hs hT hb2 hq
    have e : pathX (seekK (fromS Z) (toS Z) (stepsK Z F Z.length) s N) b = pathX x b := by rw [hr]; exact pathN_prefix hsk b b hbl
    rw [e] at hw
    have hle : ∀ (n j : Nat), j ≤ n → j < x.length → (pathX x j).length ≤ j := by
      intro n
      induction n with
      | zero => intro j hj _; obtain rfl : j = 0 := by omega
                simp [pathX_zero]
      | succ n ih =>
        intro j hj hjl
        by_cases h0 : j = 0
        · subst h0; simp [pathX_zero]
        · have he := List.getElem?_eq_getElem hjl
          rw [pathX_succ hsk he (by omega), List.length_append]
          have h3 := (hsk.par j _ he (by omega)).2.2.1
          have := ih _ (by omega) (by omega : x[j].2.2 < x.length)
          simp only [List.length_singleton]
          omega
    have hl := seek_len hsk hs hT
    exact .inr ⟨b, q, (far_mem hsk).1 hm, hb, hq, hw, hle b b (Nat.le_refl _) hbl, by omega⟩
  · refine .inl ⟨farX_none hm, ?_⟩
    rcases h.all with e | ⟨v, e1, e2⟩
    · cases hw : wayK (fromS Z) (toS Z) (stepsK Z F Z.length) N s t with
      | none => rfl
      | some p =>
        obtain ⟨b, q, h1, h2, _⟩ := wayK_some hw
        rw [e] at h1
        exact absurd (keysX_mem.2 ⟨b, q, h1, h2⟩) hm
    · have : t = v := by omega
      subst this
      exact absurd e2 hm
theorem field_tree (x y z u v r s m : Value) (W : World) : (Instr.field 117 (.agg #[x, y, z, u, v, r, s, m]) 1).run Try.prog W = .ok s W := by kernel_rfl
section
variable (n : Int) (b : Bool) (ao fo : Option Addr) (cap fc : Nat) (Z : List ArcT) (F : List Int)
/-- What Levels answers. -/
def LevRes (s : Int) (w : World) (e : Ending) (w' : World) : Prop :=
  ∃ a c, e = .returned (.tuple #[.slice a (levL n Z F s).length c, .int .i64 (levE n Z F s)]) ∧ Lst encI w' a (levL n Z F s) ∧ Below w.heap.size w w'
/-- What Path answers. -/
def PathRes (s t : Int) (w : World) (e : Ending) (w' : World) : Prop :=
  ∃ a c, e = .returned (.tuple #[.slice a (wayL n Z F s t).length c, .bool (wayB n Z F s t), .int .i64 (pathE n Z F s t)]) ∧ Row encS 2 w' a (wayL n Z F s t) ∧ Below w.heap.size w w'
theorem lev_no {s e0 : Int} (h : levE n Z F s = e0) (h0 : e0 ≠ 0) {w w' : World} (hb : Below w.heap.size w w') : LevRes n Z F s w (.returned (.tuple #[.slice none 0 0, .int .i64 e0])) w' := by
  have hn := levL_no (n := n) (Z := Z) (F := F) (s := s) (by rw [h]; exact h0)
  exact ⟨none, 0, by rw [hn, h]; rfl, by rw [hn]; exact Lst.nil _ _, hb⟩
theorem path_no {s t e0 : Int} (h : pathE n Z F s t = e0) (h0 : e0 ≠ 0) {w w' : World} (hb : Below w.heap.size w w') : PathRes n Z F s t w (.returned (.tuple #[.slice none 0 0, .bool false, .int .i64 e0])) w' := by
  have hn := wayF_no (n := n) (Z := Z) (F := F) (s := s) (t := t) (by rw [h]; exact h0)
  exact ⟨none, 0, by unfold wayL wayB; rw [hn, h]; rfl, by unfold wayL; rw [hn]; exact Row.nil _ _, hb⟩
set_option maxRecDepth 100000 in
set_option maxHeartbeats 4000000 in
theorem vpath_any (s t : Int) (w : World) (h : Row encA 4 w ao Z) (hf : Lst encI w fo F) (hz : Z.length ≤ maxLen) (hfl : F.length ≤ maxLen) :
    Calls Try.prog 63 #[.agg #[.int .i64 n, .bool b, .slice ao Z.length cap], .slice fo F.length fc, .int .i64 s, .int .i64 t] w (PathRes n Z F s t w) := by
  have hb00 := (Below.refl _ w).alloc (Nat.le_refl _) (.cells #[.int .i64 n, .bool b, .slice ao Z.length cap] 24)
  have HB0 := Lib.hid hb00
  have c0 := cell_new w #[.int .i64 n, .bool b, .slice ao Z.length cap] 24 0
  have c1 := cell_new w #[.int .i64 n, .bool b, .slice ao Z.length cap] 24 1
  have c2 := cell_new w #[.int .i64 n, .bool b, .slice ao Z.length cap] 24 2
  have HR := Lib.hid (h.below' hb00)
  have HF := Lib.hid (hf.below hb00)
  have HZ := Lib.hid hz
  have HFL := Lib.hid hfl
  clear h hf hz hfl hb00
  obtain ⟨e0, he⟩ : ∃ e0, flowE n Z F = e0 := ⟨_, rfl⟩
  have HE := Lib.hid he
  by_cases h0 : e0 = 0
  · subst h0
    obtain ⟨hR, hFl, hz2, hfz, hn1, hn2⟩ := flow_facts (b := b) he
    obtain ⟨N, rfl⟩ : ∃ N : Nat, n = (N : Int) := ⟨n.toNat, by omega⟩
    have HA := Lib.hid (flow_arcs he)
    have HTT := Lib.hid (flow_to he)
    rw [Int.toNat_natCast] at HA HTT
    have HFZ := Lib.hid hfz
    obtain ⟨e1, he1⟩ : ∃ e1, endsE (N : Int) Z s t = e1 := ⟨_, rfl⟩
    have HE1 := Lib.hid he1
    have HL : Hid (pathE (N : Int) Z F s t = e1) := Lib.hid (by unfold pathE; rw [if_pos HE.out, HE1.out])
    clear he hR hFl hfz he1
    by_cases h1 : e1 = 0
    · subst h1
      obtain ⟨_, i, j, rfl, rfl, hi, hj, hij⟩ := endsE_ok HE1.out
      rw [Int.toNat_natCast] at hi hj
      have hji : (j : Int) < (N : Int) := by omega
      go_enter Try.func63, Try.ntmps63
      go_wp2_with (first
        | (go_at_call 68; refine (vload_ok (N : Int) b ao fo cap fc Z F _ HR.out HF.out HZ.out HFL.out HE.out).mono ?_; rintro e w1 ⟨g1, k1, g2, k2, rfl, hld, hb1⟩; rw [Int.toNat_natCast] at hld ⊢; have HB1 := Lib.hid (HB0.out.trans (hb1.mono HB0.out.size)); have HLD := Lib.hid (hld.below ((Below.refl _ _).alloc (Nat.le_refl _) (.cells #[.int .i64 (N : Int), .bool b, .slice ao Z.length cap, .slice fo F.length fc, .slice (some ⟨g1, 0, none⟩) N k1, .slice (some ⟨g2, 0, none⟩) N k2] 113))); have HBA := Lib.hid (HB1.out.alloc HB1.out.size (.cells #[.int .i64 (N : Int), .bool b, .slice ao Z.length cap, .slice fo F.length fc, .slice (some ⟨g1, 0, none⟩) N k1, .slice (some ⟨g2, 0, none⟩) N k2] 113)); have x0 := cell_new w1 #[.int .i64 (N : Int), .bool b, .slice ao Z.length cap, .slice fo F.length fc, .slice (some ⟨g1, 0, none⟩) N k1, .slice (some ⟨g2, 0, none⟩) N k2] 113 0; have x1 := cell_new w1 #[.int .i64 (N : Int), .bool b, .slice ao Z.length cap, .slice fo F.length fc, .slice (some ⟨g1, 0, none⟩) N k1, .slice (some ⟨g2, 0, none⟩) N k2] 113 1; have x2 := cell_new w1 #[.int .i64 (N : Int), .bool b, .slice ao Z.length cap, .slice fo F.length fc, .slice (some ⟨g1, 0, none⟩) N k1, .slice (some ⟨g2, 0, none⟩) N k2] 113 2; have x3 := cell_new w1 #[.int .i64 (N : Int), .bool b, .slice ao Z.length cap, .slice fo F.length fc, .slice (some ⟨g1, 0, none⟩) N k1, .slice (some ⟨g2, 0, none⟩) N k2] 113 3; have x4 := cell_new w1 #[.int .i64 (N : Int), .bool b, .slice ao Z.length cap, .slice fo F.length fc, .slice (some ⟨g1, 0, none⟩) N k1, .slice (some ⟨g2, 0, none⟩) N k2] 113 4; have x5 := cell_new w1 #[.int .i64 (N : Int), .bool b, .slice ao Z.length cap, .slice fo F.length fc, .slice (some ⟨g1, 0, none⟩) N k1, .slice (some ⟨g2, 0, none⟩) N k2] 113 5; have m0 := cell_alloc (cell_below hb1 c0) (.cells #[.int .i64 (N : Int), .bool b, .slice ao Z.length cap, .slice fo F.length fc, .slice (some ⟨g1, 0, none⟩) N k1, .slice (some ⟨g2, 0, none⟩) N k2] 113); have m1 := cell_alloc (cell_below hb1 c1) (.cells #[.int .i64 (N : Int), .bool b, .slice ao Z.length cap, .slice fo F.length fc, .slice (some ⟨g1, 0, none⟩) N k1, .slice (some ⟨g2, 0, none⟩) N k2] 113); have m2 := cell_alloc (cell_below hb1 c2) (.cells #[.int .i64 (N : Int), .bool b, .slice ao Z.length cap, .slice fo F.length fc, .slice (some ⟨g1, 0, none⟩) N k1, .slice (some ⟨g2, 0, none⟩) N k2] 113); have HRA := Lib.hid ((HR.out.below' hb1).below' ((Below.refl _ _).alloc (Nat.le_refl _) (.cells #[.int .i64 (N : Int), .bool b, .slice ao Z.length cap, .slice fo F.length fc, .slice (some ⟨g1, 0, none⟩) N k1, .slice (some ⟨g2, 0, none⟩) N k2] 113))); clear hb1 hld)
        | (go_at_call 44; refine (ends_is (N : Int) b ao cap Z (i : Int) (j : Int) 0 _ HRA.out HZ.out HE1.out).mono ?_; rintro e w2 ⟨rfl, hb2⟩; have HB2 := Lib.hid (HBA.out.trans (hb2.mono HBA.out.size)); have HLD2 := Lib.hid (HLD.out.below hb2); have y0 := cell_below hb2 x0; have y1 := cell_below hb2 x1; have y2 := cell_below hb2 x2; have y3 := cell_below hb2 x3; have y4 := cell_below hb2 x4; have y5 := cell_below hb2 x5; clear hb2 x0 x1 x2 x3 x4 x5 m0 m1 m2)
        | (go_at_call 69; fail))
      refine (vsearch_at b ao fo cap fc Z F g1 k1 g2 k2 N i (j : Int) _ HLD2.out hi (by omega) hz2 HFZ.out HA.out.1 HTT.out (fun p a q h => (HA.out.2 p a q h).1)).mono ?_
      rintro e w3 ⟨gd, gb, x, B, rfl, htr, hvr⟩
      have HTR := Lib.hid (htr.next ((Below.refl _ _).alloc (Nat.le_refl _) (.cells #[.int .i64 (N : Int), .bool b, .slice ao Z.length cap, .slice fo F.length fc, .slice (some ⟨g1, 0, none⟩) N k1, .slice (some ⟨g2, 0, none⟩) N k2, .slice (some ⟨gd, 0, none⟩) N N, .slice (some ⟨gb, 0, none⟩) N N] 117)))
      have HVR := Lib.hid hvr
      have HB3 := Lib.hid (HB2.out.trans (htr.below.mono HB2.out.size))
      have HRT := Lib.hid ((HLD2.out.below htr.below).arcs.below' ((Below.refl _ _).alloc (Nat.le_refl _) (.cells #[.int .i64 (N : Int), .bool b, .slice ao Z.length cap, .slice fo F.length fc, .slice (some ⟨g1, 0, none⟩) N k1, .slice (some ⟨g2, 0, none⟩) N k2, .slice (some ⟨gd, 0, none⟩) N N, .slice (some ⟨gb, 0, none⟩) N N] 117)))
      clear y0 y1 y2 y3 y4 y5
      obtain ⟨dv, dvf⟩ := HTR.out.lev.cell (atI_get (v := j) (by rw [farsL_len]; exact hj))
      rw [farsL_at x hj] at dv
      unfold encI at dv
      have hw8 := hvr.way hi HTT.out
      have HWF : Hid (wayF (N : Int) Z F (i : Int) (j : Int) = wayK (fromS Z) (toS Z) (stepsK Z F Z.length) N i j) := Lib.hid (by unfold wayF; rw [if_pos HL.out, Int.toNat_natCast, Int.toNat_natCast, Int.toNat_natCast])
      have hgl := htr.lt
      clear htr hvr
      rcases hw8 with ⟨hf1, hw⟩ | ⟨b0, q, hf1, hxb, hqj, hw, hpl, hbN⟩
      · rw [hf1] at dv
        have HW := Lib.hid hw
        clear hf1 hw
        go_wp2
        refine bodyPost_ret (v := .tuple #[.slice none 0 0, .bool false, .int .i64 0]) (by simp [results, Try.results63, go_sem]) rfl ?_
        refine ⟨none, 0, ?_, ?_, HB3.out.alloc HB3.out.size _⟩
        · unfold wayL wayB; rw [HWF.out, HW.out, HL.out]; rfl
        · unfold wayL; rw [HWF.out, HW.out]; exact Row.nil _ _
      · obtain ⟨fv, hfv⟩ : ∃ fv, farX x j = fv := ⟨_, rfl⟩
        rw [hfv] at dv hf1
        have hf2 : (fv == -1) = false := by simpa using hf1
        have HW := Lib.hid hw
        have HXB := Lib.hid hxb
        have HQJ := Lib.hid hqj
        obtain ⟨i0, P, hsk⟩ := HVR.out.sk
        have HSK := Lib.hid hsk
        have HPL : Hid ((pathX x b0).length ≤ 50) := Lib.hid (by omega)
        clear hf1 hw hxb hqj hfv hsk hpl
        go_wp2_with (first
          | (go_at_call 70; go_loud (rw [← HQJ.out]; refine (vtreepath_at b ao fo cap fc Z F g1 k1 g2 k2 N gd gb x B (stepsK Z F Z.length) i i0 P _ b0 q _ HTR.out HRT.out HSK.out HVR.out.byy HXB.out (keys_lt HSK.out hi HTT.out) (by omega) hz2 (fun y hy => stepsK_arc hy) HA.out.1 HPL.out).mono ?_; rintro e w4 ⟨a4, c4, rfl, hr4, hb4⟩; have HR4 := Lib.hid hr4; have HB4 := Lib.hid ((HB3.out.alloc HB3.out.size (.cells #[.int .i64 (N : Int), .bool b, .slice ao Z.length cap, .slice fo F.length fc, .slice (some ⟨g1, 0, none⟩) N k1, .slice (some ⟨g2, 0, none⟩) N k2, .slice (some ⟨gd, 0, none⟩) N N, .slice (some ⟨gb, 0, none⟩) N N] 117)).trans (hb4.mono (by have := HB3.out.size; simp; omega))); clear hr4 hb4)))
        refine bodyPost_ret (v := .tuple #[.slice a4 (pathX x b0).length c4, .bool true, .int .i64 0]) (by simp [results, Try.results63, go_sem]) rfl ?_
        have hwl : wayL (N : Int) Z F (i : Int) (j : Int) = pathX x b0 := by unfold wayL; rw [HWF.out, HW.out]; rfl
        refine ⟨a4, c4, ?_, by rw [hwl]; exact HR4.out, HB4.out⟩
        rw [hwl, HL.out]
        unfold wayB
        rw [HWF.out, HW.out]
        rfl
    · have H1 := Lib.hid h1
      have hf1 : (e1 != 0) = true := by simpa using h1
      have hf2 : (e1 == 0) = false := by simpa using h1
      clear h1
      go_enter Try.func63, Try.ntmps63
      go_wp2_with (first
        | (go_at_call 68; refine (vload_ok (N : Int) b ao fo cap fc Z F _ HR.out HF.out HZ.out HFL.out HE.out).mono ?_; rintro e w1 ⟨g1, k1, g2, k2, rfl, hld, hb1⟩; rw [Int.toNat_natCast] at hld ⊢; have HB1 := Lib.hid (HB0.out.trans (hb1.mono HB0.out.size)); have HLD := Lib.hid (hld.below ((Below.refl _ _).alloc (Nat.le_refl _) (.cells #[.int .i64 (N : Int), .bool b, .slice ao Z.length cap, .slice fo F.length fc, .slice (some ⟨g1, 0, none⟩) N k1, .slice (some ⟨g2, 0, none⟩) N k2] 113))); have HBA := Lib.hid (HB1.out.alloc HB1.out.size (.cells #[.int .i64 (N : Int), .bool b, .slice ao Z.length cap, .slice fo F.length fc, .slice (some ⟨g1, 0, none⟩) N k1, .slice (some ⟨g2, 0, none⟩) N k2] 113)); have x0 := cell_new w1 #[.int .i64 (N : Int), .bool b, .slice ao Z.length cap, .slice fo F.length fc, .slice (some ⟨g1, 0, none⟩) N k1, .slice (some ⟨g2, 0, none⟩) N k2] 113 0; have x1 := cell_new w1 #[.int .i64 (N : Int), .bool b, .slice ao Z.length cap, .slice fo F.length fc, .slice (some ⟨g1, 0, none⟩) N k1, .slice (some ⟨g2, 0, none⟩) N k2] 113 1; have x2 := cell_new w1 #[.int .i64 (N : Int), .bool b, .slice ao Z.length cap, .slice fo F.length fc, .slice (some ⟨g1, 0, none⟩) N k1, .slice (some ⟨g2, 0, none⟩) N k2] 113 2; have x3 := cell_new w1 #[.int .i64 (N : Int), .bool b, .slice ao Z.length cap, .slice fo F.length fc, .slice (some ⟨g1, 0, none⟩) N k1, .slice (some ⟨g2, 0, none⟩) N k2] 113 3; have x4 := cell_new w1 #[.int .i64 (N : Int), .bool b, .slice ao Z.length cap, .slice fo F.length fc, .slice (some ⟨g1, 0, none⟩) N k1, .slice (some ⟨g2, 0, none⟩) N k2] 113 4; have x5 := cell_new w1 #[.int .i64 (N : Int), .bool b, .slice ao Z.length cap, .slice fo F.length fc, .slice (some ⟨g1, 0, none⟩) N k1, .slice (some ⟨g2, 0, none⟩) N k2] 113 5; have m0 := cell_alloc (cell_below hb1 c0) (.cells #[.int .i64 (N : Int), .bool b, .slice ao Z.length cap, .slice fo F.length fc, .slice (some ⟨g1, 0, none⟩) N k1, .slice (some ⟨g2, 0, none⟩) N k2] 113); have m1 := cell_alloc (cell_below hb1 c1) (.cells #[.int .i64 (N : Int), .bool b, .slice ao Z.length cap, .slice fo F.length fc, .slice (some ⟨g1, 0, none⟩) N k1, .slice (some ⟨g2, 0, none⟩) N k2] 113); have m2 := cell_alloc (cell_below hb1 c2) (.cells #[.int .i64 (N : Int), .bool b, .slice ao Z.length cap, .slice fo F.length fc, .slice (some ⟨g1, 0, none⟩) N k1, .slice (some ⟨g2, 0, none⟩) N k2] 113); have HRA := Lib.hid ((HR.out.below' hb1).below' ((Below.refl _ _).alloc (Nat.le_refl _) (.cells #[.int .i64 (N : Int), .bool b, .slice ao Z.length cap, .slice fo F.length fc, .slice (some ⟨g1, 0, none⟩) N k1, .slice (some ⟨g2, 0, none⟩) N k2] 113))); clear hb1 hld)
        | (go_at_call 44; refine (ends_is (N : Int) b ao cap Z s t e1 _ HRA.out HZ.out HE1.out).mono ?_; rintro e w2 ⟨rfl, hb2⟩; have HB2 := Lib.hid (HBA.out.trans (hb2.mono HBA.out.size)); clear hb2 x0 x1 x2 x3 x4 x5 m0 m1 m2))
      refine bodyPost_ret (v := .tuple #[.slice none 0 0, .bool false, .int .i64 e1]) (by simp [results, Try.results63, go_sem]) rfl ?_
      exact path_no (N : Int) Z F HL.out H1.out HB2.out
  · have hf1 : (e0 != 0) = true := by simpa using h0
    have hf2 : (e0 == 0) = false := by simpa using h0
    have HL : Hid (pathE n Z F s t = e0) := Lib.hid (by unfold pathE; rw [if_neg (by rw [he]; exact h0), he])
    have H0 := Lib.hid h0
    clear he h0
    go_enter Try.func63, Try.ntmps63
    go_wp2_with (first
      | (go_at_call 68; refine (vload_no n b ao fo cap fc Z F e0 _ HR.out HF.out HZ.out HFL.out HE.out H0.out).mono ?_; rintro e w1 ⟨rfl, hb1⟩; have HB1 := Lib.hid (HB0.out.trans (hb1.mono HB0.out.size)); clear hb1))
    refine bodyPost_ret (v := .tuple #[.slice none 0 0, .bool false, .int .i64 e0]) (by simp [results, Try.results63, go_sem]) rfl ?_
    exact path_no n Z F HL.out H0.out (HB1.out.alloc HB1.out.size _)
end
end Go.Proofs.Ytmflleifglefiaa

namespace Go.Proofs.Ytmflleifglefiaa
open Go.RowKit
set_option linter.unusedVariables false

def hasI (K : List Nat) (v : Nat) : Int := match K.findIdx? (· == v) with | some j => (j : Int) | none => -1
theorem hasI_some {K : List Nat} {v j : Nat} (hj : j < K.length) (h : K[j] = v) (hn : ∀ m (hm : m < j), K[m]'(by omega) ≠ v) : hasI K v = (j : Int) := by
  unfold hasI
  have : K.findIdx? (· == v) = some j := by
    rw [List.findIdx?_eq_some_iff_getElem]
    refine ⟨hj, by simp [h], fun m hm => by simpa using hn m hm⟩
  rw [this]
theorem hasI_none {K : List Nat} {v : Nat} (hn : ∀ m (hm : m < K.length), K[m] ≠ v) : hasI K v = -1 := by
  unfold hasI
  have : K.findIdx? (· == v) = none := by
    rw [List.findIdx?_eq_none_iff]
    intro y hy
    obtain ⟨m, hm, rfl⟩ := List.getElem_of_mem hy
    simpa using hn m hm
  rw [this]
theorem hasI_neg {K : List Nat} {v : Nat} : hasI K v < 0 ↔ v ∉ K := by
  unfold hasI
  cases h : K.findIdx? (· == v) with
  | some j =>
    rw [List.findIdx?_eq_some_iff_getElem] at h
    obtain ⟨h1, h2, _⟩ := h
    simp only
    have e : K[j] = v := by simpa using h2
    have hm : v ∈ K := by rw [← e]; exact List.getElem_mem h1
    constructor
    · intro h3; omega
    · intro h3; exact absurd hm h3
  | none =>
    rw [List.findIdx?_eq_none_iff] at h
    simp only
    constructor
    · intro _ hm; have := h v hm; simp at this
    · intro _; decide
theorem hasI_bd (K : List Nat) (v : Nat) : -1 ≤ hasI K v ∧ hasI K v < (K.length : Int) := by
  unfold hasI
  cases h : K.findIdx? (· == v) with
  | some j =>
    rw [List.findIdx?_eq_some_iff_getElem] at h
    obtain ⟨h1, _⟩ := h
    simp only; omega
  | none => simp only; omega
set_option maxRecDepth 100000 in
set_option maxHeartbeats 2000000 in
theorem rhas_any (no bo : Option Addr) (nc bl bc : Nat) (K : List Nat) (v : Nat) (w : World) (h : Lst encI w no (natI K)) (hK : K.length ≤ 200000) :
    Calls Try.prog 51 #[.agg #[.slice no K.length nc, .slice bo bl bc], .int .i64 (v : Int)] w fun e w' => e = .returned (.int .i64 (hasI K v)) ∧ Below w.heap.size w w' := by
  have hb00 := (Below.refl _ w).alloc (Nat.le_refl _) (.cells #[.slice no K.length nc, .slice bo bl bc] 86)
  have HB0 := Lib.hid hb00
  have c0 := cell_new w #[.slice no K.length nc, .slice bo bl bc] 86 0
  have HL := Lib.hid (h.below hb00)
  clear h hb00
  go_enter Try.func51, Try.ntmps51
  go_wp2
  generalize w.alloc (.cells #[.slice no K.length nc, .slice bo bl bc] 86) = w1 at *
  go_loopw [5] (fun iv wr => ∃ j : Nat, j ≤ K.length ∧ iv = .int .i64 (j : Int) ∧ Hid (∀ m (hm : m < K.length), m < j → K[m] ≠ v) ∧ Hid (Below w1.heap.size w1 wr)) (fun iv _ => K.length - (intOf iv).toNat)
  case atStart => exact ⟨0, Nat.zero_le _, rfl, Lib.hid (fun m hm h => absurd h (by omega)), Lib.hid (Below.refl _ _)⟩
  case round =>
    obtain ⟨j, hj, rfl, HN, HB⟩ := hrel
    have e0 := cell_below' HB.out c0 (block_lt_of_cell c0)
    by_cases hlt : j < K.length
    · have hli : (j : Int) < (K.length : Int) := by omega
      obtain ⟨bb, oo, e, hbb, hcp⟩ := lst_cell HL.out (i := j) (x := ((K[j] : Nat) : Int)) (natI_at hlt)
      cases e
      have hcp' := cell_below' HB.out hcp hbb
      unfold encI at hcp'
      clear hcp
      by_cases hv : K[j] = v
      · have hf1 : ((K[j] : Nat) : Int) == (v : Int) := by simp [hv]
        have HH := Lib.hid (hasI_some hlt hv (fun m hm => HN.out m (by omega) hm))
        clear hv
        generalize K[j] = y at *
        go_wp2
        go_ret
        exact ⟨by rw [HH.out]; rfl, HB0.out.trans (HB.out.mono HB0.out.size)⟩
      · have hf1 : (((K[j] : Nat) : Int) == (v : Int)) = false := by simp; omega
        have HN2 : Hid (∀ m (hm : m < K.length), m < j + 1 → K[m] ≠ v) := Lib.hid (fun m hm h => by
          by_cases e : m = j
          · subst e; exact hv
          · exact HN.out m hm (by omega))
        clear hv
        generalize K[j] = y at *
        go_wp2
        go_roundw
        case rel => exact ⟨j + 1, by omega, by go_num, HN2, HB⟩
        case measure => simp [intOf]; omega
    · have hli : ¬ (j : Int) < (K.length : Int) := by omega
      obtain rfl : j = K.length := by omega
      have HH := Lib.hid (hasI_none (K := K) (v := v) (fun m hm => HN.out m hm hm))
      go_wp2
      go_ret
      exact ⟨by rw [HH.out]; rfl, HB0.out.trans (HB.out.mono HB0.out.size)⟩
theorem rhas_len (no bo : Option Addr) (nc bl bc len : Nat) (K : List Nat) (v : Nat) (hI : Int) (w : World) (h : Lst encI w no (natI K)) (hl : K.length = len) (hK : len ≤ 200000) (hh : hasI K v = hI) :
    Calls Try.prog 51 #[.agg #[.slice no len nc, .slice bo bl bc], .int .i64 (v : Int)] w fun e w' => e = .returned (.int .i64 hI) ∧ Below w.heap.size w w' := by
  subst hl; subst hh; exact rhas_any no bo nc bl bc K v w h hK
end Go.Proofs.Ytmflleifglefiaa

namespace Go.Proofs.Ytmflleifglefiaa
open Go.RowKit
set_option linter.unusedVariables false

/-- A step whose room can be reckoned. -/
def StepOk (Z : List ArcT) (F : List Int) (y : StepT) : Prop := ∃ (p : Nat) (a : ArcT) (q : Bool), y = ((p : Int), q) ∧ Z[p]? = some a ∧ F[p]? = some (atI F p) ∧ 0 ≤ atI F p ∧ atI F p ≤ 4398046511104 ∧ 0 ≤ a.2.2.1 ∧ a.2.2.1 ≤ 4398046511104
theorem StepOk.left {Z : List ArcT} {F : List Int} {y : StepT} (h : StepOk Z F y) : -4398046511104 ≤ leftS Z F y ∧ leftS Z F y ≤ 4398046511104 := by
  obtain ⟨p, a, q, rfl, ha, _, h1, h2, h3, h4⟩ := h
  obtain ⟨l0, l1⟩ := left_at (F := F) ha
  cases q
  · rw [l0]; unfold capN; omega
  · rw [l1]; omega
section
variable (n : Int) (b : Bool) (ao fo lo : Option Addr) (cap fc lc : Nat) (Z : List ArcT) (F : List Int) (L : List StepT)
set_option maxRecDepth 100000 in
set_option maxHeartbeats 4000000 in
theorem rbottle_any (w : World) (h : Row encA 4 w ao Z) (hf : Lst encI w fo F) (hl : Row encS 2 w lo L) (hL : L ≠ []) (hll : L.length ≤ 200000) (hz : Z.length ≤ 200000) (hfl : F.length ≤ 200000) (hok : ∀ y ∈ L, StepOk Z F y) :
    Calls Try.prog 37 #[.agg #[.int .i64 n, .bool b, .slice ao Z.length cap], .slice fo F.length fc, .slice lo L.length lc] w fun e w' => e = .returned (.int .i64 (botK Z F L)) ∧ Below w.heap.size w w' := by
  have hb00 := (Below.refl _ w).alloc (Nat.le_refl _) (.cells #[.int .i64 n, .bool b, .slice ao Z.length cap] 24)
  have HB0 := Lib.hid hb00
  have c0 := cell_new w #[.int .i64 n, .bool b, .slice ao Z.length cap] 24 0
  have c1 := cell_new w #[.int .i64 n, .bool b, .slice ao Z.length cap] 24 1
  have c2 := cell_new w #[.int .i64 n, .bool b, .slice ao Z.length cap] 24 2
  have HR := Lib.hid (h.below' hb00)
  have HF := Lib.hid (hf.below hb00)
  have HLR := Lib.hid (hl.below' hb00)
  have HOK := Lib.hid hok
  have h0l : 0 < L.length := List.length_pos_iff.2 hL
  have hli0 : (0 : Int) < (L.length : Int) := by omega
  obtain ⟨y0, r, hLe⟩ : ∃ y0 r, L = y0 :: r := by cases L with | nil => exact absurd rfl hL | cons a l => exact ⟨a, l, rfl⟩
  have HLE : Hid (∀ k, 0 < k → botA Z F (leftS Z F y0) ((L.take k).drop 1) = botK Z F (L.take k)) := Lib.hid (fun k hk => by rw [hLe]; obtain ⟨m, rfl⟩ : ∃ m, k = m + 1 := ⟨k - 1, by omega⟩; simp [botK])
  obtain ⟨lb, lx, rfl, hlb, s0, s1⟩ := step_at HLR.out (i := 0) (x := y0) (by rw [hLe]; rfl)
  obtain ⟨p, a, q, hy, ha, hx, b1, b2, b3, b4⟩ := hok y0 (by rw [hLe]; simp)
  have HRM : Hid (roomI a (atI F p) q = leftS Z F y0) := Lib.hid (by rw [hy, left_room ha])
  have HA := Lib.hid ha
  have HXX := Lib.hid hx
  subst hy
  simp only at s0 s1
  have hlt1 : lb < (w.alloc (.cells #[.int .i64 n, .bool b, .slice ao Z.length cap] 24)).heap.size := hlb
  clear h hf hl hok hb00 ha hx hL hLe
  rw [Nat.zero_mul, Nat.add_zero] at s0 s1
  go_enter Try.func37, Try.ntmps37
  go_wp2
  generalize w.alloc (.cells #[.int .i64 n, .bool b, .slice ao Z.length cap] 24) = w1 at *
  go_region_held3 (fun W => W.cell? ⟨w.heap.size, 0, none⟩ = some (.int .i64 n) ∧ W.cell? ⟨w.heap.size, 1, none⟩ = some (.bool b) ∧ W.cell? ⟨w.heap.size, 2, none⟩ = some (.slice ao Z.length cap) ∧ W.cell? ⟨lb, lx, none⟩ = some (.int .i64 (p : Int)) ∧ W.cell? ⟨lb, lx + 1, none⟩ = some (.bool q)) (first | exact ⟨c0, c1, c2, s0, s1⟩ | exact ⟨z0, z1, z2, z3, z4⟩ | go_keep)
    (first | (go_at_call 53; refine (rleft_at n b ao cap Z fo fc F p q a (atI F p) w1.drew (HR.out.below' (below_drew (Below.refl w1.heap.size w1))) (HF.out.below (below_drew (Below.refl w1.heap.size w1))) HA.out HXX.out hz hfl b1 b2 b3 b4).mono ?_; rintro e w6 ⟨rfl, b6⟩; rw [HRM.out]; have z0 := cell_below (w := w1.drew) b6 c0; have z1 := cell_below (w := w1.drew) b6 c1; have z2 := cell_below (w := w1.drew) b6 c2; have z3 := cell_below (w := w1.drew) b6 s0; have z4 := cell_below (w := w1.drew) b6 s1; have HB6 := Lib.hid ((below_drew (Below.refl w1.heap.size w1)).trans b6); clear b6))
  all_goals
    have HL6 := Lib.hid (HLR.out.below' HB6.out)
    go_wp2
    go_loopw [7, 8] (fun kv iv wr => ∃ j : Nat, 0 < j ∧ j ≤ L.length ∧ iv = .int .i64 (j : Int) ∧ kv = .int .i64 (botK Z F (L.take j)) ∧ Hid (Below w1.heap.size w1 wr)) (fun _ iv _ => L.length - (intOf iv).toNat)
    case atStart => exact ⟨1, by omega, by omega, rfl, by rw [← HLE.out 1 (by omega)]; simp [botA], HB6⟩
    case round =>
      clear HB6 HL6
      obtain ⟨j, hj0, hj, rfl, rfl, HB⟩ := hrel
      by_cases hlt : j < L.length
      · have hli : (j : Int) < (L.length : Int) := by omega
        have HBK : Hid (min (botK Z F (L.take j)) (leftS Z F L[j]) = botK Z F (L.take (j + 1))) := Lib.hid (by
          rw [← HLE.out j hj0, ← HLE.out (j + 1) (by omega), List.take_succ_eq_append_getElem hlt, List.drop_append_of_le_length (by simp; omega), botA_snoc])
        obtain ⟨lb2, lx2, e, hlb2, s2, s3⟩ := step_at (HLR.out.below' HB.out) (List.getElem?_eq_getElem hlt)
        cases e
        have hokj := HOK.out _ (List.getElem_mem hlt)
        have d0 := cell_below' HB.out c0 (block_lt_of_cell c0)
        have d1 := cell_below' HB.out c1 (block_lt_of_cell c1)
        have d2 := cell_below' HB.out c2 (block_lt_of_cell c2)
        generalize L[j] = y at *
        obtain ⟨p2, a2, q2, hy2, ha2, hx2, e1, e2, e3, e4⟩ := hokj
        have HRM2 : Hid (roomI a2 (atI F p2) q2 = leftS Z F y) := Lib.hid (by rw [hy2, left_room ha2])
        have HA2 := Lib.hid ha2
        have HX2 := Lib.hid hx2
        subst hy2
        simp only at s2 s3
        obtain ⟨kb, hkb⟩ : ∃ kb, botK Z F (L.take j) = kb := ⟨_, rfl⟩
        rw [hkb] at HBK ⊢
        obtain ⟨rm, hrm⟩ : ∃ rm, leftS Z F ((p2 : Int), q2) = rm := ⟨_, rfl⟩
        rw [hrm] at HBK HRM2
        have HRW := Lib.hid (HR.out.below' HB.out)
        have HFW := Lib.hid (HF.out.below HB.out)
        clear ha2 hx2 hkb hrm
        go_wp2_with fail
        go_region_held3 (fun W => W.cell? ⟨w.heap.size, 0, none⟩ = some (.int .i64 n) ∧ W.cell? ⟨w.heap.size, 1, none⟩ = some (.bool b) ∧ W.cell? ⟨w.heap.size, 2, none⟩ = some (.slice ao Z.length cap) ∧ W.cell? ⟨lb, lx + j * 2, none⟩ = some (.int .i64 (p2 : Int)) ∧ W.cell? ⟨lb, lx + j * 2 + 1, none⟩ = some (.bool q2)) (first | exact ⟨d0, d1, d2, s2, s3⟩ | exact ⟨z0, z1, z2, z3, z4⟩ | go_keep)
          (first | (go_at_call 53; refine (rleft_at n b ao cap Z fo fc F p2 q2 a2 (atI F p2) wr.drew (HRW.out.below' (below_drew (Below.refl wr.heap.size wr))) (HFW.out.below (below_drew (Below.refl wr.heap.size wr))) HA2.out HX2.out hz hfl e1 e2 e3 e4).mono ?_; rintro e w6 ⟨rfl, b6⟩; rw [HRM2.out]; have z0 := cell_below (w := wr.drew) b6 d0; have z1 := cell_below (w := wr.drew) b6 d1; have z2 := cell_below (w := wr.drew) b6 d2; have z3 := cell_below (w := wr.drew) b6 s2; have z4 := cell_below (w := wr.drew) b6 s3; have HB7 := Lib.hid ((below_drew HB.out).trans (b6.mono HB.out.size)); clear b6))
        all_goals
          go_wp2
          go_roundw
          case rel => exact ⟨j + 1, by omega, by omega, by go_num, by rw [← HBK.out], HB7⟩
          case measure => simp [intOf]; omega
      · have hli : ¬ (j : Int) < (L.length : Int) := by omega
        obtain rfl : j = L.length := by omega
        rw [List.take_length]
        go_wp2
        go_ret
        exact ⟨rfl, HB0.out.trans (HB.out.mono HB0.out.size)⟩
end
end Go.Proofs.Ytmflleifglefiaa
