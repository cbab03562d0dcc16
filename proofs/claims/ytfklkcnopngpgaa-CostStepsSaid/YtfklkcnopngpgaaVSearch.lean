/- search of package level: what the search from a node finds until another is found. -/
import Derived.Test.YtfklkcnopngpgaaVPlant
import Derived.Test.YtfklkcnopngpgaaVFrom
import Derived.Test.YtfklkcnopngpgaaVRun
namespace Go.Proofs.Ytfklkcnopngpgaa
open Go.RowKit
set_option linter.unusedVariables false

/-- The tree that is found so far, in a variable, and the queue of what is still open. -/
structure SW (w1 wr : World) (gd gb gt qb qg N : Nat) (cs : Array Value) (d : List Int) (B : List StepT) (Q : List Nat) : Prop where
  tv : TV w1 wr gd gb gt N cs d B
  que : QIs wr qb qg N (natI Q)
  lb : w1.heap.size ≤ qb ∧ w1.heap.size ≤ qg
  ne : qb ≠ gd ∧ qb ≠ gb ∧ qb ≠ gt ∧ qg ≠ gd ∧ qg ≠ gb ∧ qg ≠ gt
section
variable {w1 wr w2 : World} {gd gb gt qb qg N : Nat} {cs : Array Value} {d : List Int} {B : List StepT} {Q Q' : List Nat}
theorem SW.next (h : SW w1 wr gd gb gt qb qg N cs d B Q) (hb : Below wr.heap.size wr w2) : SW w1 w2 gd gb gt qb qg N cs d B Q :=
  ⟨h.tv.next hb, h.que.kept (Kept.of_below (S := fun _ => False) hb) (fun x => x) (fun x => x), h.lb, h.ne⟩
theorem SW.drewN (h : SW w1 wr gd gb gt qb qg N cs d B Q) (n : Nat) : SW w1 (wr.drewN n) gd gb gt qb qg N cs d B Q := h.next (below_drewN (Below.refl _ _) n)
theorem SW.turned (h : SW w1 wr gd gb gt qb qg N cs d B Q) (hq : QIs w2 qb qg N (natI Q')) (hk : Kept (fun i => i = qb ∨ i = qg) wr w2) : SW w1 w2 gd gb gt qb qg N cs d B Q' := by
  have hn := h.ne
  have hl := h.lb
  refine ⟨h.tv.kept hk ?_ ?_ ?_ ?_, hq, h.lb, h.ne⟩
  · show ¬ (gd = qb ∨ gd = qg); omega
  · show ¬ (gb = qb ∨ gb = qg); omega
  · show ¬ (gt = qb ∨ gt = qg); omega
  · intro i hi
    have : i = qb ∨ i = qg := hi
    omega
theorem SW.setL (h : SW w1 wr gd gb gt qb qg N cs d B Q) (j : Nat) (y : Int) : SW w1 (wr.setCell ⟨gd, j, none⟩ (.int .i64 y)) gd gb gt qb qg N cs (d.set j y) B Q :=
  ⟨h.tv.setL j y, h.que.kept ((Kept.refl (fun i => i = gd) wr).set (.inl rfl) _) (fun e => h.ne.1 e) (fun e => h.ne.2.2.2.1 e), h.lb, h.ne⟩
theorem SW.setB (h : SW w1 wr gd gb gt qb qg N cs d B Q) {j : Nat} (hj : j < B.length) (x : Int) (q : Bool) : SW w1 ((wr.setCell ⟨gb, j * 2, none⟩ (.int .i64 x)).setCell ⟨gb, j * 2 + 1, none⟩ (.bool q)) gd gb gt qb qg N cs d (B.set j (x, q)) Q :=
  ⟨h.tv.setB hj x q, h.que.kept (((Kept.refl (fun i => i = gb) wr).set (.inl rfl) _).set (.inl rfl) _) (fun e => h.ne.2.1 e) (fun e => h.ne.2.2.2.2.1 e), h.lb, h.ne⟩
end
theorem OwnS.keptv {S : Nat → Prop} {w w' : World} {base : Nat} {v : Value} {L : List StepT} (h : OwnS w base v L) (k : Kept S w w') (hn : ∀ g, base ≤ g → ¬ S g) : OwnS w' base v L := by
  refine ⟨h.1, ?_⟩
  rcases h.2 with h1 | ⟨g', cap', cur, e, h2, h3, h4⟩
  · exact .inl h1
  · exact .inr ⟨g', cap', cur, e, h2, k.old h3 (hn g' h2), h4⟩
section
variable (b : Bool) (ao fo : Option Addr) (cap fc : Nat) (Z : List ArcT) (F : List Int) (g1 c1 g2 c2 N : Nat)
set_option maxRecDepth 100000 in
set_option maxHeartbeats 8000000 in
theorem vsearch_at (s : Nat) (t : Int) (w : World) (h : LD w ao fo Z F g1 g2 N) (hs : s < N) (hN : N ≤ 50) (hz : Z.length ≤ 200) (hfl : F.length = Z.length) (hE : ∀ a ∈ Z, a.1 = (frN a : Int) ∧ a.2.1 = (toN a : Int)) (hT : ∀ y ∈ stepsK Z F Z.length, toS Z y < N) (hTa : ∀ (p : Nat) (a : ArcT) (q : Bool), Z[p]? = some a → toS Z ((p : Int), q) < N) :
    Calls Try.prog 40 #[.agg #[.int .i64 (N : Int), .bool b, .slice ao Z.length cap, .slice fo F.length fc, .slice (some ⟨g1, 0, none⟩) N c1, .slice (some ⟨g2, 0, none⟩) N c2], .int .i64 (s : Int), .int .i64 t] w fun e w' => ∃ gd gb x B, e = .returned (.agg #[.int .i64 (N : Int), .bool b, .slice ao Z.length cap, .slice fo F.length fc, .slice (some ⟨g1, 0, none⟩) N c1, .slice (some ⟨g2, 0, none⟩) N c2, .slice (some ⟨gd, 0, none⟩) N N, .slice (some ⟨gb, 0, none⟩) N N]) ∧ TR w w' gd gb N (farsL x N) B ∧ VR Z F N s t x B := by
  have hb00 := ((Below.refl _ w).alloc (Nat.le_refl _) (.cells #[.int .i64 (N : Int), .bool b, .slice ao Z.length cap, .slice fo F.length fc, .slice (some ⟨g1, 0, none⟩) N c1, .slice (some ⟨g2, 0, none⟩) N c2] 73)).alloc (by simp) (.cells #[.int .i64 0, .bool false, .slice none 0 0, .slice none 0 0, .slice none 0 0, .slice none 0 0, .slice none 0 0, .slice none 0 0] 78)
  have HB0 := Lib.hid hb00
  have hn1 := alloc_whole (heap_alloc_new w (.cells #[.int .i64 (N : Int), .bool b, .slice ao Z.length cap, .slice fo F.length fc, .slice (some ⟨g1, 0, none⟩) N c1, .slice (some ⟨g2, 0, none⟩) N c2] 73)) (.cells #[.int .i64 0, .bool false, .slice none 0 0, .slice none 0 0, .slice none 0 0, .slice none 0 0, .slice none 0 0, .slice none 0 0] 78)
  have HX := Lib.hid hn1
  have HV := Lib.hid (new_whole1 w (.cells #[.int .i64 (N : Int), .bool b, .slice ao Z.length cap, .slice fo F.length fc, .slice (some ⟨g1, 0, none⟩) N c1, .slice (some ⟨g2, 0, none⟩) N c2] 73) (.cells #[.int .i64 0, .bool false, .slice none 0 0, .slice none 0 0, .slice none 0 0, .slice none 0 0, .slice none 0 0, .slice none 0 0] 78))
  obtain ⟨⟨k0, k1, k2, k3, k4, k5⟩, _⟩ := ld6Cells hn1
  have HD := Lib.hid (h.below hb00)
  have HE := Lib.hid hE
  have HT := Lib.hid hT
  have HFL := Lib.hid hfl
  clear h hb00 hn1 hE hT hfl
  go_enter Try.func40, Try.ntmps40
  go_wp2_with fail
  generalize (w.alloc (.cells #[.int .i64 (N : Int), .bool b, .slice ao Z.length cap, .slice fo F.length fc, .slice (some ⟨g1, 0, none⟩) N c1, .slice (some ⟨g2, 0, none⟩) N c2] 73)).alloc (.cells #[.int .i64 0, .bool false, .slice none 0 0, .slice none 0 0, .slice none 0 0, .slice none 0 0, .slice none 0 0, .slice none 0 0] 78) = w1 at *
  go_step3
  have hx1 := lt_whole HX.out
  go_wp2_with (first
    | (go_at_call 48; refine (vplant_at b ao fo cap fc Z F g1 c1 g2 c2 N s _ hs hN).mono ?_; rintro e w2 ⟨gd, gb, rfl, htr⟩; have hlt := htr.lt; have HTV : Hid (TV w1 (w2.alloc (.cells #[.int .i64 (N : Int), .bool b, .slice ao Z.length cap, .slice fo F.length fc, .slice (some ⟨g1, 0, none⟩) N c1, .slice (some ⟨g2, 0, none⟩) N c2, .slice (some ⟨gd, 0, none⟩) N N, .slice (some ⟨gb, 0, none⟩) N N] 78)) gd gb w2.heap.size N #[.int .i64 (N : Int), .bool b, .slice ao Z.length cap, .slice fo F.length fc, .slice (some ⟨g1, 0, none⟩) N c1, .slice (some ⟨g2, 0, none⟩) N c2, .slice (some ⟨gd, 0, none⟩) N N, .slice (some ⟨gb, 0, none⟩) N N] (startD N s) (List.replicate N (0, false))) := Lib.hid ⟨htr.next ((Below.refl _ _).alloc (Nat.le_refl _) _), heap_alloc_new _ _, by omega, by omega⟩; have l0 := cell_alloc (cell_below' htr.below k0 hx1) (.cells #[.int .i64 (N : Int), .bool b, .slice ao Z.length cap, .slice fo F.length fc, .slice (some ⟨g1, 0, none⟩) N c1, .slice (some ⟨g2, 0, none⟩) N c2, .slice (some ⟨gd, 0, none⟩) N N, .slice (some ⟨gb, 0, none⟩) N N] 78); have hs2 := htr.below.size; clear htr)
    | (go_at_call 49; refine (newq_at _ N _ rfl (by omega)).mono ?_; rintro e w4 ⟨qb, qg, hqb, hqg, rfl, hq4, hb4⟩; simp at hqb hqg; have HS4 : Hid (SW w1 w4 gd gb w2.heap.size qb qg N #[.int .i64 (N : Int), .bool b, .slice ao Z.length cap, .slice fo F.length fc, .slice (some ⟨g1, 0, none⟩) N c1, .slice (some ⟨g2, 0, none⟩) N c2, .slice (some ⟨gd, 0, none⟩) N N, .slice (some ⟨gb, 0, none⟩) N N] (startD N s) (List.replicate N (0, false)) []) := Lib.hid ⟨HTV.out.next hb4, hq4, by omega, by omega⟩; clear hq4 hb4 l0)
    | (go_at_call 50; refine (put_yes qb qg N (natI []) (s : Int) _ HS4.out.que (by simp [natI]; omega)).mono ?_; rintro e w5 ⟨rfl, hq5, hk5⟩; have HS5 : Hid (SW w1 w5 gd gb w2.heap.size qb qg N #[.int .i64 (N : Int), .bool b, .slice ao Z.length cap, .slice fo F.length fc, .slice (some ⟨g1, 0, none⟩) N c1, .slice (some ⟨g2, 0, none⟩) N c2, .slice (some ⟨gd, 0, none⟩) N N, .slice (some ⟨gb, 0, none⟩) N N] (startD N s) (List.replicate N (0, false)) [s]) := Lib.hid (HS4.out.turned hq5 hk5); clear hq5 hk5))
  obtain ⟨gt, hgt⟩ : ∃ gt, w2.heap.size = gt := ⟨_, rfl⟩
  rw [hgt] at HS5 ⊢
  have hlts : (gd < gt ∧ gb < gt) ∧ w1.heap.size ≤ gt := by omega
  clear HTV HS4 hgt hlt hs2 hqb hqg
  go_step3
  go_wp2
  go_loopg [] (N + 1) (fun k wr => ∃ i x B Q, k + i = N + 1 ∧ Hid (SW w1 wr gd gb gt qb qg N #[.int .i64 (N : Int), .bool b, .slice ao Z.length cap, .slice fo F.length fc, .slice (some ⟨g1, 0, none⟩) N c1, .slice (some ⟨g2, 0, none⟩) N c2, .slice (some ⟨gd, 0, none⟩) N N, .slice (some ⟨gb, 0, none⟩) N N] (farsL x N) B Q) ∧ Hid (VO Z F N s i x B Q))
  case atStart => exact ⟨0, [(s, (0, false), 0)], List.replicate N (0, false), [s], by omega, Lib.hid (by rw [start_fars hs]; exact HS5.out), Lib.hid VO.start⟩
  case round =>
    clear HS5
    obtain ⟨i, x, B, Q, hk, HS, HO⟩ := hrel
    obtain ⟨wo, hwo⟩ : ∃ wo, wo = wr := ⟨_, rfl⟩
    subst hwo
    cases Q with
    | nil =>
      obtain ⟨⟨p0, p1, p2, p3, p4, p5, p6, p7⟩, _⟩ := t8Cells HS.out.tv.var
      have hv2 := kept_box HV.out HS.out.tv.tr.below
      obtain ⟨⟨m0, m1, m2, m3, m4, m5, m6, m7⟩, f0, f1, f2, f3, f4, f5, f6, f7⟩ := t8Cells hv2
      have HV2 := Lib.hid hv2
      clear hv2
      go_wp2_with (first
        | (go_at_call 51; refine (qlen_any qb qg N (natI []) _ HS.out.que).mono ?_; rintro e w6 ⟨rfl, nn, rfl⟩))
      have HS6 := Lib.hid (HS.out.drewN nn)
      have HV3 : Hid ((wo.drewN nn).heap[w.heap.size + 1]? = _) := Lib.hid HV2.out
      generalize wo.drewN nn = wz at *
      obtain ⟨hs1, hk1⟩ := t8Set HV3.out (.int .i64 (N : Int)) (.bool b) (.slice ao Z.length cap) (.slice fo F.length fc) (.slice (some ⟨g1, 0, none⟩) N c1) (.slice (some ⟨g2, 0, none⟩) N c2) (.slice (some ⟨gd, 0, none⟩) N N) (.slice (some ⟨gb, 0, none⟩) N N)
      have hlt := HS6.out.tv.tr.lt
      have hvl := lt_whole HV.out
      have HTR := Lib.hid ((HS6.out.tv.tr.weak HB0.out).kept hk1 (by show gd ≠ w.heap.size + 1; omega) (by show gb ≠ w.heap.size + 1; omega) (fun i e => by have e2 : i = w.heap.size + 1 := e; omega))
      clear m0 m1 m2 m3 m4 m5 m6 m7 f0 f1 f2 f3 f4 f5 f6 f7 p0 p1 p2 p3 p4 p5 p6 p7 hk1 HV3
      generalize World.setCell (World.setCell (World.setCell (World.setCell (World.setCell (World.setCell (World.setCell (World.setCell _ _ _) _ _) _ _) _ _) _ _) _ _) _ _) _ _ = W at *
      obtain ⟨⟨r0, r1, r2, r3, r4, r5, r6, r7⟩, _⟩ := t8Cells hs1
      try rw [Exit.noGoto_ret]
      exact bodyPost_ret (v := .agg #[.int .i64 (N : Int), .bool b, .slice ao Z.length cap, .slice fo F.length fc, .slice (some ⟨g1, 0, none⟩) N c1, .slice (some ⟨g2, 0, none⟩) N c2, .slice (some ⟨gd, 0, none⟩) N N, .slice (some ⟨gb, 0, none⟩) N N]) (by simp [results, Try.results40, go_sem, r0, r1, r2, r3, r4, r5, r6, r7]) rfl ⟨gd, gb, x, B, rfl, HTR.out, HO.out.stop hs HT.out t⟩
    | cons u Q =>
      obtain ⟨hI, hu, hiN⟩ := HO.out.take hs HT.out
      have HI := Lib.hid hI
      have hun : (u : Int) < (N : Int) := by omega
      have HQ : Hid (((natI (u :: Q)).length : Int) = (Q.length : Int) + 1) := Lib.hid (by simp [natI])
      clear hI HO
      go_wp2_with (first
        | (go_at_call 51; refine (qlen_any qb qg N (natI (u :: Q)) _ HS.out.que).mono ?_; rintro e w6 ⟨rfl, nn, rfl⟩; rw [HQ.out]; have HS6 := Lib.hid (HS.out.drewN nn))
        | (go_at_call 52; refine (take_yes qb qg N (natI Q) (u : Int) _ HS6.out.que).mono ?_; rintro e w7 ⟨rfl, hq7, hk7⟩; have hs7 := HS6.out.turned (Q' := Q) hq7 (hk7.mono (fun i _ h => .inl h)); have HS7 := Lib.hid hs7; have e0 := cell_below' hs7.tv.tr.below k0 hx1; have e1 := cell_below' hs7.tv.tr.below k1 hx1; have e2 := cell_below' hs7.tv.tr.below k2 hx1; have e3 := cell_below' hs7.tv.tr.below k3 hx1; have e4 := cell_below' hs7.tv.tr.below k4 hx1; have e5 := cell_below' hs7.tv.tr.below k5 hx1; clear hq7 hk7 hs7)
        | (go_at_call 53; refine (vfrom_at (N : Int) b ao fo cap fc Z F g1 c1 g2 c2 N u _ (HD.out.below HS7.out.tv.tr.below) hu hN hz).mono ?_; rintro e w8 ⟨sa, sc, rfl, hos, hb8⟩; have HS8 := Lib.hid (HS7.out.next hb8); have HOS := Lib.hid hos; have hbl : (gd < w7.heap.size ∧ gb < w7.heap.size) ∧ gt < w7.heap.size ∧ qb < w7.heap.size ∧ qg < w7.heap.size := ⟨⟨HS7.out.tv.tr.lt.1.2, HS7.out.tv.tr.lt.2.2⟩, lt_whole HS7.out.tv.var, HS7.out.que.lt.1, HS7.out.que.lt.2.1⟩; clear hos hb8 e0 e1 e2 e3 e4 e5))
      obtain ⟨b7, hb7⟩ : ∃ b7, w7.heap.size = b7 := ⟨_, rfl⟩
      rw [hb7] at hbl HOS
      have hsl := stepsU_len Z u
      obtain ⟨SU, hSU⟩ : ∃ SU, stepsU Z u = SU := ⟨_, rfl⟩
      rw [hSU] at hsl HOS
      have HSU := Lib.hid hSU
      rw [HSU.out]
      clear hSU HS HS6 HS7 hb7 HQ
      go_loopw [41] (fun iv wi => ∃ (j : Nat) (x : List Ent) (B : List StepT) (Q : List Nat), j ≤ SU.length ∧ iv = .int .i64 (j : Int) ∧ Hid (SW w1 wi gd gb gt qb qg N #[.int .i64 (N : Int), .bool b, .slice ao Z.length cap, .slice fo F.length fc, .slice (some ⟨g1, 0, none⟩) N c1, .slice (some ⟨g2, 0, none⟩) N c2, .slice (some ⟨gd, 0, none⟩) N N, .slice (some ⟨gb, 0, none⟩) N N] (farsL x N) B Q) ∧ Hid (OwnS wi b7 (.slice sa SU.length sc) SU) ∧ Hid (VI Z F N s i x B u Q (SU.drop j))) (fun iv _ => SU.length - (intOf iv).toNat)
      case atStart => exact ⟨0, x, B, Q, Nat.zero_le _, rfl, HS8, HOS, Lib.hid (by rw [List.drop_zero, ← HSU.out]; exact HI.out)⟩
      case round =>
        clear HS8 HOS HI
        obtain ⟨j, x, B, Q, hj, rfl, HS, HOS, HI⟩ := hrel
        have e0 := cell_below' HS.out.tv.tr.below k0 hx1
        have e1 := cell_below' HS.out.tv.tr.below k1 hx1
        have e2 := cell_below' HS.out.tv.tr.below k2 hx1
        have e3 := cell_below' HS.out.tv.tr.below k3 hx1
        have e4 := cell_below' HS.out.tv.tr.below k4 hx1
        have e5 := cell_below' HS.out.tv.tr.below k5 hx1
        by_cases hlt : j < SU.length
        · have hli : (j : Int) < (SU.length : Int) := by omega
          have hDr : SU.drop j = SU[j] :: SU.drop (j + 1) := List.drop_eq_getElem_cons hlt
          obtain ⟨bb, oo, e, hbb, q0, q1⟩ := step_at (own_rowK encS_len HOS.out) (List.getElem?_eq_getElem hlt)
          cases e
          have hI := HI.out
          rw [hDr] at hI
          have HI2 := Lib.hid hI
          clear hDr hI
          generalize SU[j] = y at *
          obtain ⟨p, a, q, hp, ha, hy, hyf⟩ := stepsU_mem (HI2.out.mem y (by simp))
          subst hy
          simp only at q0 q1
          obtain ⟨v, hv⟩ : ∃ v, toS Z ((p : Int), q) = v := ⟨_, rfl⟩
          obtain ⟨rb, hrb⟩ : ∃ rb, roomB Z F ((p : Int), q) = rb := ⟨_, rfl⟩
          have HEND : Hid (endI a q = (v : Int)) := Lib.hid (by rw [← hv]; exact (begI_fromE ha (HE.out a (List.mem_of_getElem? ha)) q).2)
          have HA := Lib.hid ha
          have HVV := Lib.hid hv
          have HRB := Lib.hid hrb
          have hvN : v < N := by rw [← hv]; exact hTa p a q ha
          have hvi : (v : Int) < (N : Int) := by omega
          obtain ⟨hf0, hfN, hfb⟩ := HI2.out.far hs HT.out
          have hfbv := hfb v
          obtain ⟨fu, hfu⟩ : ∃ fu, farX x u = fu := ⟨_, rfl⟩
          obtain ⟨fv, hfv⟩ : ∃ fv, farX x v = fv := ⟨_, rfl⟩
          rw [hfu] at hf0 hfN
          rw [hfv] at hfbv
          have HFU := Lib.hid hfu
          have HFV := Lib.hid hfv
          have hBl := HI2.out.byy.1
          have hsz := HS.out.tv.tr.below.size
          have HS8 := Lib.hid (HS.out.next ((Below.refl _ _).alloc (Nat.le_refl _) (.cells #[.int .i64 (p : Int), .bool q] 42)))
          have HO8 := Lib.hid (HOS.out.alloc (.cells #[.int .i64 (p : Int), .bool q] 42))
          have y0 := cell_alloc e0 (.cells #[.int .i64 (p : Int), .bool q] 42)
          have y1 := cell_alloc e1 (.cells #[.int .i64 (p : Int), .bool q] 42)
          have y2 := cell_alloc e2 (.cells #[.int .i64 (p : Int), .bool q] 42)
          have y3 := cell_alloc e3 (.cells #[.int .i64 (p : Int), .bool q] 42)
          have y4 := cell_alloc e4 (.cells #[.int .i64 (p : Int), .bool q] 42)
          have y5 := cell_alloc e5 (.cells #[.int .i64 (p : Int), .bool q] 42)
          have s0 := cell_new wr #[.int .i64 (p : Int), .bool q] 42 0
          have s1 := cell_new wr #[.int .i64 (p : Int), .bool q] 42 1
          obtain ⟨bs, hbs⟩ : ∃ bs, wr.heap.size = bs := ⟨_, rfl⟩
          have hbl2 : (gd < bs ∧ gb < bs) ∧ gt < bs ∧ qb < bs ∧ qg < bs ∧ w.heap.size < bs := by
            have h1 := HS.out.tv.tr.lt
            have h2 := lt_whole HS.out.tv.var
            have h3 := HS.out.que.lt
            omega
          have hbn : bs < (wr.alloc (.cells #[.int .i64 (p : Int), .bool q] 42)).heap.size := by simp; omega
          rw [hbs] at s0 s1
          clear hv hrb hfu hfv ha hyf hfb e0 e1 e2 e3 e4 e5
          cases rb
          · have HI3 := Lib.hid (HI2.out.skip HRB.out)
            go_wp2_with (first
              | (go_at_call 54; refine (vend_at (N : Int) b ao cap Z p q a _ (HD.out.below HS8.out.tv.tr.below).arcs HA.out hz).mono ?_; rintro e w9 ⟨rfl, hb9⟩; rw [HEND.out]; have HS9 := Lib.hid (HS8.out.next hb9); have HO9 := Lib.hid (HO8.out.below hb9); have z0 := cell_below hb9 y0; have z1 := cell_below hb9 y1; have z2 := cell_below hb9 y2; have z3 := cell_below hb9 y3; have z4 := cell_below hb9 y4; have z5 := cell_below hb9 y5; have t0 := cell_below hb9 s0; have t1 := cell_below hb9 s1; have hbn9 := Nat.lt_of_lt_of_le hbn hb9.size; clear hb9 y0 y1 y2 y3 y4 y5 s0 s1)
              | (go_at_call 55; refine (vhasroom_is (N : Int) b ao cap Z fo fc F _ _ p q false _ (HD.out.below HS9.out.tv.tr.below).arcs (HD.out.below HS9.out.tv.tr.below).flow hp HFL.out hz HRB.out).mono ?_; rintro e w10 ⟨rfl, hb10⟩; have HS10 := Lib.hid (HS9.out.next hb10); have HO10 := Lib.hid (HO9.out.below hb10); have r0 := cell_below hb10 t0; have r1 := cell_below hb10 t1; obtain ⟨dv, dvf⟩ := HS10.out.tv.tr.lev.cell (atI_get (v := v) (by rw [farsL_len]; exact hvN)); obtain ⟨du, duf⟩ := HS10.out.tv.tr.lev.cell (atI_get (v := u) (by rw [farsL_len]; exact hu)); rw [farsL_at x hvN, HFV.out] at dv; rw [farsL_at x hu, HFU.out] at du; unfold encI at dv du; obtain ⟨⟨_, _, _, _, _, _, g6, g7⟩, _⟩ := t8Cells HS10.out.tv.var; have hbn10 := Nat.lt_of_lt_of_le hbn9 hb10.size; clear hb10 z0 z1 z2 z3 z4 z5 t0 t1))
            go_roundw
            case rel => exact ⟨j + 1, x, B, Q, by omega, by go_num, HS10, HO10, HI3⟩
            case measure => simp [intOf]; omega
          · by_cases h0 : fv = -1
            · subst h0
              obtain ⟨hI3, hK3, hQl, hF3, hM3⟩ := HI2.out.add HRB.out (by rw [HVV.out]; exact HFV.out) hs HT.out
              rw [HVV.out] at hI3 hK3 hF3 hM3
              rw [HFU.out] at hK3
              have HI3 := Lib.hid hI3
              have HK3 := Lib.hid hK3
              have HM3 := Lib.hid hM3
              clear hI3 hK3 hM3 hF3
              go_wp2_with (first
                | (go_at_call 54; refine (vend_at (N : Int) b ao cap Z p q a _ (HD.out.below HS8.out.tv.tr.below).arcs HA.out hz).mono ?_; rintro e w9 ⟨rfl, hb9⟩; rw [HEND.out]; have HS9 := Lib.hid (HS8.out.next hb9); have HO9 := Lib.hid (HO8.out.below hb9); have z0 := cell_below hb9 y0; have z1 := cell_below hb9 y1; have z2 := cell_below hb9 y2; have z3 := cell_below hb9 y3; have z4 := cell_below hb9 y4; have z5 := cell_below hb9 y5; have t0 := cell_below hb9 s0; have t1 := cell_below hb9 s1; have hbn9 := Nat.lt_of_lt_of_le hbn hb9.size; clear hb9 y0 y1 y2 y3 y4 y5 s0 s1)
                | (go_at_call 55; refine (vhasroom_is (N : Int) b ao cap Z fo fc F _ _ p q true _ (HD.out.below HS9.out.tv.tr.below).arcs (HD.out.below HS9.out.tv.tr.below).flow hp HFL.out hz HRB.out).mono ?_; rintro e w10 ⟨rfl, hb10⟩; have HS10 := Lib.hid (HS9.out.next hb10); have HO10 := Lib.hid (HO9.out.below hb10); have r0 := cell_below hb10 t0; have r1 := cell_below hb10 t1; obtain ⟨dv, dvf⟩ := HS10.out.tv.tr.lev.cell (atI_get (v := v) (by rw [farsL_len]; exact hvN)); obtain ⟨du, duf⟩ := HS10.out.tv.tr.lev.cell (atI_get (v := u) (by rw [farsL_len]; exact hu)); rw [farsL_at x hvN, HFV.out] at dv; rw [farsL_at x hu, HFU.out] at du; unfold encI at dv du; obtain ⟨⟨_, _, _, _, _, _, g6, g7⟩, _⟩ := t8Cells HS10.out.tv.var; have hbn10 := Nat.lt_of_lt_of_le hbn9 hb10.size; clear hb10 z0 z1 z2 z3 z4 z5 t0 t1))
              go_region
              have hvB : v < B.length := by rw [hBl]; exact hvN
              have hS11 := (HS10.out.setL v (fu + 1)).next (below_drew (Below.refl _ _))
              rw [← HK3.out] at hS11
              have hk11 : Kept (fun i => i = gd) w10 (w10.setCell ⟨gd, v, none⟩ (.int .i64 (fu + 1))).drew := ((Kept.refl (fun i => i = gd) w10).set (.inl rfl) _).drew
              have hcb := hk11.block bs hbn10 (by show bs ≠ gd; omega)
              have r2 := (cell_of_block (o := 0) hcb).trans r0
              have r3 := (cell_of_block (o := 1) hcb).trans r1
              have HO11 := Lib.hid (HO10.out.keptv hk11 (fun g hg => by show g ≠ gd; omega))
              have HS11 := Lib.hid hS11
              clear hk11 hcb hS11 r0 r1 dv dvf du duf g6 g7 HS10 HO10
              generalize (w10.setCell ⟨gd, v, none⟩ (.int .i64 (fu + 1))).drew = w11 at *
              obtain ⟨⟨_, _, _, _, _, _, g6, g7⟩, _⟩ := t8Cells HS11.out.tv.var
              obtain ⟨⟨d0, d1⟩, d2, d3⟩ := HS11.out.tv.tr.byy.cell (List.getElem?_eq_getElem hvB)
              have hS12 := HS11.out.setB hvB (p : Int) q
              have hk12 : Kept (fun i => i = gb) w11 ((w11.setCell ⟨gb, v * 2, none⟩ (.int .i64 (p : Int))).setCell ⟨gb, v * 2 + 1, none⟩ (.bool q)) := ((Kept.refl (fun i => i = gb) w11).set (.inl rfl) _).set (.inl rfl) _
              have HO12 := Lib.hid (HO11.out.keptv hk12 (fun g hg => by show g ≠ gb; omega))
              have HS12 := Lib.hid hS12
              clear hk12 hS12
              by_cases hte : (v : Int) = t
              · have hft : ((v : Int) == t) = true := by simpa using hte
                have HTE := Lib.hid hte
                clear hte
                obtain ⟨⟨p0, p1, p2, p3, p4, p5, p6, p7⟩, _⟩ := t8Cells HS12.out.tv.var
                have hv2 := kept_box HV.out HS12.out.tv.tr.below
                obtain ⟨⟨m0, m1, m2, m3, m4, m5, m6, m7⟩, f0, f1, f2, f3, f4, f5, f6, f7⟩ := t8Cells hv2
                have HV2 := Lib.hid hv2
                clear hv2
                go_wp2
                rw [Exit.noGoto_ret]
                generalize (w11.setCell ⟨gb, v * 2, none⟩ (.int .i64 (p : Int))).setCell ⟨gb, v * 2 + 1, none⟩ (.bool q) = wz at *
                obtain ⟨hs1, hk1⟩ := t8Set HV2.out (.int .i64 (N : Int)) (.bool b) (.slice ao Z.length cap) (.slice fo F.length fc) (.slice (some ⟨g1, 0, none⟩) N c1) (.slice (some ⟨g2, 0, none⟩) N c2) (.slice (some ⟨gd, 0, none⟩) N N) (.slice (some ⟨gb, 0, none⟩) N N)
                have hlt2 := HS12.out.tv.tr.lt
                have hvl := lt_whole HV.out
                have HTR := Lib.hid ((HS12.out.tv.tr.weak HB0.out).kept hk1 (by show gd ≠ w.heap.size + 1; omega) (by show gb ≠ w.heap.size + 1; omega) (fun i e => by have e2 : i = w.heap.size + 1 := e; omega))
                clear m0 m1 m2 m3 m4 m5 m6 m7 f0 f1 f2 f3 f4 f5 f6 f7 p0 p1 p2 p3 p4 p5 p6 p7 hk1 HV2
                generalize World.setCell (World.setCell (World.setCell (World.setCell (World.setCell (World.setCell (World.setCell (World.setCell _ _ _) _ _) _ _) _ _) _ _) _ _) _ _) _ _ = W at *
                obtain ⟨⟨r0, r1, r2, r3, r4, r5, r6, r7⟩, _⟩ := t8Cells hs1
                exact bodyPost_ret (v := .agg #[.int .i64 (N : Int), .bool b, .slice ao Z.length cap, .slice fo F.length fc, .slice (some ⟨g1, 0, none⟩) N c1, .slice (some ⟨g2, 0, none⟩) N c2, .slice (some ⟨gd, 0, none⟩) N N, .slice (some ⟨gb, 0, none⟩) N N]) (by simp [results, Try.results40, go_sem, r0, r1, r2, r3, r4, r5, r6, r7]) rfl ⟨gd, gb, _, _, rfl, HTR.out, HI3.out.out hiN HTE.out.symm HM3.out⟩
              · have hft : ((v : Int) == t) = false := by simpa using hte
                clear hte
                go_wp2_with (first
                  | (go_at_call 50; go_loud (refine (put_yes qb qg N (natI Q) (v : Int) _ HS12.out.que (by rw [natI_len]; exact hQl)).mono ?_; rintro e w13 ⟨rfl, hq13, hk13⟩; have HS13 := Lib.hid (HS12.out.turned (Q' := Q ++ [v]) (by rw [natI_snoc]; exact hq13) hk13); have HO13 := Lib.hid (HO12.out.keptv hk13 (fun g hg => by show ¬ (g = qb ∨ g = qg); omega)); clear hq13 hk13)))
                go_roundw
                case rel => exact ⟨j + 1, _, _, _, by omega, by go_num, HS13, HO13, HI3⟩
                case measure => simp [intOf]; omega
            · have HI3 := Lib.hid (HI2.out.old HRB.out (by rw [HVV.out, HFV.out]; exact h0))
              have hf1 : (fv == -1) = false := by simpa using h0
              have hf2 : (fv != -1) = true := by simpa using h0
              go_wp2_with (first
                | (go_at_call 54; refine (vend_at (N : Int) b ao cap Z p q a _ (HD.out.below HS8.out.tv.tr.below).arcs HA.out hz).mono ?_; rintro e w9 ⟨rfl, hb9⟩; rw [HEND.out]; have HS9 := Lib.hid (HS8.out.next hb9); have HO9 := Lib.hid (HO8.out.below hb9); have z0 := cell_below hb9 y0; have z1 := cell_below hb9 y1; have z2 := cell_below hb9 y2; have z3 := cell_below hb9 y3; have z4 := cell_below hb9 y4; have z5 := cell_below hb9 y5; have t0 := cell_below hb9 s0; have t1 := cell_below hb9 s1; have hbn9 := Nat.lt_of_lt_of_le hbn hb9.size; clear hb9 y0 y1 y2 y3 y4 y5 s0 s1)
                | (go_at_call 55; refine (vhasroom_is (N : Int) b ao cap Z fo fc F _ _ p q true _ (HD.out.below HS9.out.tv.tr.below).arcs (HD.out.below HS9.out.tv.tr.below).flow hp HFL.out hz HRB.out).mono ?_; rintro e w10 ⟨rfl, hb10⟩; have HS10 := Lib.hid (HS9.out.next hb10); have HO10 := Lib.hid (HO9.out.below hb10); have r0 := cell_below hb10 t0; have r1 := cell_below hb10 t1; obtain ⟨dv, dvf⟩ := HS10.out.tv.tr.lev.cell (atI_get (v := v) (by rw [farsL_len]; exact hvN)); obtain ⟨du, duf⟩ := HS10.out.tv.tr.lev.cell (atI_get (v := u) (by rw [farsL_len]; exact hu)); rw [farsL_at x hvN, HFV.out] at dv; rw [farsL_at x hu, HFU.out] at du; unfold encI at dv du; obtain ⟨⟨_, _, _, _, _, _, g6, g7⟩, _⟩ := t8Cells HS10.out.tv.var; have hbn10 := Nat.lt_of_lt_of_le hbn9 hb10.size; clear hb10 z0 z1 z2 z3 z4 z5 t0 t1))
              go_roundw
              case rel => exact ⟨j + 1, x, B, Q, by omega, by go_num, HS10, HO10, HI3⟩
              case measure => simp [intOf]; omega
        · have hli : ¬ (j : Int) < (SU.length : Int) := by omega
          obtain rfl : j = SU.length := by omega
          have hI := HI.out
          rw [List.drop_length] at hI
          have HO2 := Lib.hid hI.done
          clear hI
          go_wp2
          go_roundg (gk - 1)
          case measure => omega
          case rel => exact ⟨i + 1, x, B, Q, by omega, HS, HO2⟩
end
end Go.Proofs.Ytfklkcnopngpgaa
