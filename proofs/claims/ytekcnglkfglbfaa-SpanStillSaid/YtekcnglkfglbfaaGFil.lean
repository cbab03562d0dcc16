/- What is filled along a way: package span's fill. -/
import Derived.Test.YtekcnglkfglbfaaGMem
import Derived.Test.YtekcnglkfglbfaaXNew
import Derived.Deep.RegionLaw
namespace Go.Proofs.Ytekcnglkfglbfaa
open Go.RowKit
set_option linter.unusedVariables false

def HeldS (p N : Nat) (b : Bool) (ao : Option Addr) (zl cap : Nat) (W : World) : Prop := W.cell? ⟨p, 0, none⟩ = some (.int .i64 (N : Int)) ∧ W.cell? ⟨p, 1, none⟩ = some (.bool b) ∧ W.cell? ⟨p, 2, none⟩ = some (.slice ao zl cap)
theorem SpW.held {w : World} {p N : Nat} {b : Bool} {ao : Option Addr} {cap : Nat} {Z : List ArcT} {s t : Nat} {fo : Option Addr} {fc : Nat} {F : List Int} {m : Int} {q : Bool} {xo : Option Addr} {xc : Nat} {X : List ArcT} (h : SpW w p N b ao cap Z s t fo fc F m q xo xc X) : HeldS p N b ao Z.length cap w :=
  ⟨cell_whole h.box 0, cell_whole h.box 1, cell_whole h.box 2⟩
section
variable (p N : Nat) (b : Bool) (ao : Option Addr) (cap : Nat) (Z : List ArcT) (s t : Nat) (fo : Option Addr) (fc : Nat) (F : List Int) (m : Int) (z : Bool) (xo : Option Addr) (xc : Nat) (X : List ArcT)
set_option maxRecDepth 100000 in
set_option maxHeartbeats 4000000 in
theorem pfill_at (po : Option Addr) (pc : Nat) (P : List StepT) (w : World) (h : SpW w p N b ao cap Z s t fo fc F m z xo xc X) (he : flowE (N : Int) Z F = 0) (hP : Row encS 2 w po P) (hl : P ≠ []) (hll : P.length ≤ 1000) (hpa : ∀ y ∈ P, isArc Z y) (h0 : (pushL Z (botK Z F P) F P).1 = 0) (hk : ¬ botK Z F P < 0) :
    Calls Try.prog 43 #[.pointer (some ⟨p, 0, none⟩), .slice po P.length pc] w fun e w' => ∃ g, e = .returned (.tuple #[]) ∧ SpW w' p N b ao cap Z s t (some ⟨g, 0, none⟩) F.length (pushL Z (botK Z F P) F P).2 m z xo xc X ∧ Kept (fun i => i = p) w w' := by
  obtain ⟨hR, hF, hz, hfl, hn1, hn2⟩ := flow_facts (b := b) he
  have hlt := h.lt
  have H := Lib.hid h
  have HE := Lib.hid he
  have HPR := Lib.hid hP
  have HPA := Lib.hid hpa
  have HH0 := Lib.hid h0
  have HHK := Lib.hid hk
  have HRT := Lib.hid hR
  have HFF := Lib.hid hF
  have h0l : 0 < P.length := List.length_pos_iff.2 hl
  have hli0 : (0 : Int) < (P.length : Int) := by omega
  obtain ⟨y0, r, hPe⟩ : ∃ y0 r, P = y0 :: r := by cases P with | nil => exact absurd rfl hl | cons a l => exact ⟨a, l, rfl⟩
  have HPE := Lib.hid hPe
  have HBT : Hid (botA Z F (leftS Z F y0) P = botK Z F P) := Lib.hid (by rw [hPe]; simp [botA, botK])
  obtain ⟨lb, lx, e1, hlb, s0, s1⟩ := step_at hP (i := 0) (x := y0) (by rw [hPe]; rfl)
  subst e1
  rw [Nat.zero_mul, Nat.add_zero] at s0 s1
  have hy0 := hpa y0 (by rw [hPe]; simp)
  obtain ⟨i0, q0⟩ := y0
  obtain ⟨j0, rfl, hj0⟩ := isArc_nat hy0
  simp only at s0 s1
  obtain ⟨r0, hr0⟩ : ∃ r0, leftS Z F ((j0 : Int), q0) = r0 := ⟨_, rfl⟩
  have HR0 := Lib.hid hr0
  rw [hr0] at HBT
  clear h he hP hpa h0 hk hR hF hfl hPe hy0 hr0 hl
  go_enter Try.func43, Try.ntmps43
  go_wp2_with (first
    | (go_at_call 56; refine (proom_is p N b ao cap Z s t fo fc F m z xo xc X j0 q0 r0 _ H.out HE.out hj0 HR0.out).mono ?_; rintro e w2 ⟨rfl, b2⟩; have HB2 := Lib.hid b2; clear b2))
  go_loopw [4, 14] (fun kv iv wr => ∃ j : Nat, j ≤ P.length ∧ iv = .int .i64 (j : Int) ∧ kv = .int .i64 (botA Z F r0 (P.take j)) ∧ Hid (Below w.heap.size w wr)) (fun _ iv _ => P.length - (intOf iv).toNat)
  case atStart => exact ⟨0, by omega, rfl, rfl, HB2⟩
  case round =>
    clear HB2 s0 s1
    obtain ⟨j, hj, rfl, rfl, HB⟩ := hrel
    by_cases hlt2 : j < P.length
    · have hli : (j : Int) < (P.length : Int) := by omega
      have HBK : Hid (min (botA Z F r0 (P.take j)) (leftS Z F P[j]) = botA Z F r0 (P.take (j + 1))) := Lib.hid (by rw [List.take_succ_eq_append_getElem hlt2, botA_snoc])
      obtain ⟨lb2, lx2, e, hlb2, s2, s3⟩ := step_at (HPR.out.below' HB.out) (List.getElem?_eq_getElem hlt2)
      cases e
      have hyj := HPA.out _ (List.getElem_mem hlt2)
      generalize P[j] = y at *
      obtain ⟨i2, q2⟩ := y
      obtain ⟨j2, rfl, hj2⟩ := isArc_nat hyj
      simp only at s2 s3
      obtain ⟨r2, hr2⟩ : ∃ r2, leftS Z F ((j2 : Int), q2) = r2 := ⟨_, rfl⟩
      have HR2 := Lib.hid hr2
      rw [hr2] at HBK
      obtain ⟨kb, hkb⟩ : ∃ kb, botA Z F r0 (P.take j) = kb := ⟨_, rfl⟩
      rw [hkb] at HBK ⊢
      clear hyj hr2 hkb
      have HW := Lib.hid ((H.out.next HB.out).alloc (.cells #[.int .i64 (j2 : Int), .bool q2] 75))
      have HBA := Lib.hid (HB.out.alloc HB.out.size (.cells #[.int .i64 (j2 : Int), .bool q2] 75))
      go_wp2_with (first
        | (go_at_call 56; refine (proom_is p N b ao cap Z s t fo fc F m z xo xc X j2 q2 r2 _ HW.out HE.out hj2 HR2.out).mono ?_; rintro e w6 ⟨rfl, b6⟩; have HB6 := Lib.hid (HBA.out.trans (b6.mono HBA.out.size)); clear b6))
      go_roundw
      case rel => exact ⟨j + 1, by omega, by go_num, by rw [← HBK.out], HB6⟩
      case measure => simp [intOf]; omega
    · have hli : ¬ (j : Int) < (P.length : Int) := by omega
      obtain rfl : j = P.length := by omega
      rw [List.take_length, HBT.out]
      have HWR := Lib.hid (H.out.next HB.out)
      have HKK := Lib.hid (Kept.of_below (S := fun i => i = p) HB.out)
      have HPW := Lib.hid (HPR.out.below' HB.out)
      clear HB
      go_wp2_with fail
      refine wp_region_held_drew (S := fun W => HeldS p N b ao Z.length cap W) (by kernel_rfl) HWR.out.held (fun hHeld => ?_)
      have HWD := Lib.hid HWR.out.drew
      have HPD := Lib.hid (HPW.out.below' (below_drew (Below.refl _ _)))
      have HKD := Lib.hid HKK.out.drew
      clear HWR HPW HKK
      generalize wr.drew = wd at *
      refine wpAnyH_take (i := 0) (oi := { dst := some 25, op := Go.Op.move (Go.Operand.tmp 0), type := 60, pos := "span.go:78", after := #[], guard := none }) (v := .pointer (some ⟨p, 0, none⟩)) rfl (by kernel_rfl) (by kernel_rfl) (by kernel_rfl) (fun _ _ _ h => h) (Or.inl ⟨by rfl, ?_⟩) (by assumption) ?_
      · (intro w hSw; (try dsimp only [HeldS] at hSw); go_simp)
      try simp only [Act.put, List.setIfInBounds_toArray, List.set_cons_zero, List.set_cons_succ]
      refine wpAnyH_take (i := 1) (oi := { dst := some 26, op := Go.Op.move (Go.Operand.tmp 0), type := 60, pos := "span.go:78", after := #[], guard := none }) (v := .pointer (some ⟨p, 0, none⟩)) rfl (by kernel_rfl) (by kernel_rfl) (by kernel_rfl) (fun _ _ _ h => h) (Or.inl ⟨by rfl, ?_⟩) (by assumption) ?_
      · (intro w hSw; (try dsimp only [HeldS] at hSw); go_simp)
      try simp only [Act.put, List.setIfInBounds_toArray, List.set_cons_zero, List.set_cons_succ]
      refine wpAnyH_take (i := 2) (oi := { dst := some 27, op := Go.Op.nilCheck (Go.Operand.tmp 26), type := 0, pos := "span.go:78", after := #[{ on := 1, ground := Go.Ground.data }], guard := none }) (v := .pointer (some ⟨p, 0, none⟩)) rfl (by kernel_rfl) (by kernel_rfl) (by kernel_rfl) (fun _ _ _ h => h) (Or.inl ⟨by rfl, ?_⟩) (by assumption) ?_
      · (intro w hSw; (try dsimp only [HeldS] at hSw); go_simp)
      try simp only [Act.put, List.setIfInBounds_toArray, List.set_cons_zero, List.set_cons_succ]
      refine wpAnyH_take (i := 3) (oi := { dst := some 28, op := Go.Op.fieldAddr 64 (Go.Operand.tmp 27) 0, type := 0, pos := "span.go:78", after := #[{ on := 2, ground := Go.Ground.data }], guard := none }) (v := .pointer (some ⟨p, 0, none⟩)) rfl (by kernel_rfl) (by kernel_rfl) (by kernel_rfl) (fun _ _ _ h => h) (Or.inl ⟨by rfl, ?_⟩) (by assumption) ?_
      · (intro w hSw; (try dsimp only [HeldS] at hSw); go_simp)
      try simp only [Act.put, List.setIfInBounds_toArray, List.set_cons_zero, List.set_cons_succ]
      refine wpAnyH_take (i := 4) (oi := { dst := some 29, op := Go.Op.load 24 (Go.Operand.tmp 28), type := 24, pos := "span.go:78", after := #[{ on := 3, ground := Go.Ground.data }], guard := none }) (v := .agg #[.int .i64 (N : Int), .bool b, .slice ao Z.length cap]) rfl (by kernel_rfl) (by kernel_rfl) (by kernel_rfl) (fun _ _ _ h => h) (Or.inl ⟨by rfl, ?_⟩) (by assumption) ?_
      · (intro w hSw; (try dsimp only [HeldS] at hSw); go_simp)
      try simp only [Act.put, List.setIfInBounds_toArray, List.set_cons_zero, List.set_cons_succ]
      refine wpAnyH_take (i := 5) (oi := { dst := some 30, op := Go.Op.move (Go.Operand.tmp 0), type := 60, pos := "span.go:78", after := #[], guard := none }) (v := .pointer (some ⟨p, 0, none⟩)) rfl (by kernel_rfl) (by kernel_rfl) (by kernel_rfl) (fun _ _ _ h => h) (Or.inl ⟨by rfl, ?_⟩) (by assumption) ?_
      · (intro w hSw; (try dsimp only [HeldS] at hSw); go_simp)
      try simp only [Act.put, List.setIfInBounds_toArray, List.set_cons_zero, List.set_cons_succ]
      refine wpAnyH_take (i := 6) (oi := { dst := some 31, op := Go.Op.nilCheck (Go.Operand.tmp 30), type := 0, pos := "span.go:78", after := #[{ on := 5, ground := Go.Ground.data }], guard := none }) (v := .pointer (some ⟨p, 0, none⟩)) rfl (by kernel_rfl) (by kernel_rfl) (by kernel_rfl) (fun _ _ _ h => h) (Or.inl ⟨by rfl, ?_⟩) (by assumption) ?_
      · (intro w hSw; (try dsimp only [HeldS] at hSw); go_simp)
      try simp only [Act.put, List.setIfInBounds_toArray, List.set_cons_zero, List.set_cons_succ]
      refine wpAnyH_take (i := 7) (oi := { dst := some 32, op := Go.Op.fieldAddr 64 (Go.Operand.tmp 31) 3, type := 0, pos := "span.go:78", after := #[{ on := 6, ground := Go.Ground.data }], guard := none }) (v := .pointer (some ⟨p, 5, none⟩)) rfl (by kernel_rfl) (by kernel_rfl) (by kernel_rfl) (fun _ _ _ h => h) (Or.inl ⟨by rfl, ?_⟩) (by assumption) ?_
      · (intro w hSw; (try dsimp only [HeldS] at hSw); go_simp)
      try simp only [Act.put, List.setIfInBounds_toArray, List.set_cons_zero, List.set_cons_succ]
      refine wpAnyH_take (i := 9) (oi := { dst := some 34, op := Go.Op.move (Go.Operand.tmp 1), type := 81, pos := "span.go:78", after := #[], guard := none }) (v := .slice (some ⟨lb, lx, none⟩) P.length pc) rfl (by kernel_rfl) (by kernel_rfl) (by kernel_rfl) (fun _ _ _ h => h) (Or.inl ⟨by rfl, ?_⟩) (by assumption) ?_
      · (intro w hSw; (try dsimp only [HeldS] at hSw); go_simp)
      try simp only [Act.put, List.setIfInBounds_toArray, List.set_cons_zero, List.set_cons_succ]
      refine wpAnyH_take (i := 10) (oi := { dst := some 35, op := Go.Op.move (Go.Operand.tmp 4), type := 3, pos := "span.go:78", after := #[], guard := none }) (v := .int .i64 (botK Z F P)) rfl (by kernel_rfl) (by kernel_rfl) (by kernel_rfl) (fun _ _ _ h => h) (Or.inl ⟨by rfl, ?_⟩) (by assumption) ?_
      · (intro w hSw; (try dsimp only [HeldS] at hSw); go_simp)
      try simp only [Act.put, List.setIfInBounds_toArray, List.set_cons_zero, List.set_cons_succ]
      refine wpAnyH_ready (rs := [8]) (by kernel_rfl) (by simp) (AllReadyH.cons (o := { dst := some 33, op := Go.Op.load 25 (Go.Operand.tmp 32), type := 25, pos := "span.go:78", after := #[{ on := 7, ground := Go.Ground.data }], guard := none }) rfl (fun K hK => ?_) AllReadyH.nil)
      obtain ⟨⟨_, _, _, _, _, k5, _, _, _⟩, _⟩ := c9Cells HWD.out.box
      go_simp
      refine hK.out _ _ HWD.out.held (fun hHeld => ?_)
      clear hK k5
      try simp only [Act.put, List.setIfInBounds_toArray, List.set_cons_zero, List.set_cons_succ]
      refine wpAnyH_ready (rs := [11]) (by kernel_rfl) (by simp) (AllReadyH.cons (o := { dst := some 36, op := Go.Op.call { callee := Go.Callee.value (Go.Operand.func 57), args := #[Go.Operand.tmp 29, Go.Operand.tmp 33, Go.Operand.tmp 34, Go.Operand.tmp 35], argTypes := #[24, 25, 81, 3] }, type := 50, pos := "span.go:78", after := #[{ on := 4, ground := Go.Ground.data }, { on := 8, ground := Go.Ground.data }, { on := 9, ground := Go.Ground.data }, { on := 10, ground := Go.Ground.data }], guard := none }) rfl (fun K hK => ?_) AllReadyH.nil)
      go_simp
      refine (spush_new (N : Int) b ao fo (some ⟨lb, lx, none⟩) cap fc pc Z F P (botK Z F P) wd HWD.out.arcs HWD.out.flow HPD.out hll HE.out (by have := HHK.out; omega) HH0.out).mono ?_
      rintro e w3 ⟨g, rfl, hg, hf3, b3⟩
      have HW3 := Lib.hid (HWD.out.next b3)
      have HG : Hid (wd.heap.size ≤ g) := Lib.hid hg
      have HF3 := Lib.hid hf3
      have HK3 := Lib.hid (HKD.out.trans (Kept.of_below (S := fun i => i = p) b3) (fun i _ e => e))
      clear hg hf3 b3 hHeld
      go_wp2_with fail
      refine hK.out _ _ HW3.out.held (fun hHeld => ?_)
      clear hK
      try simp only [Act.put, List.setIfInBounds_toArray, List.set_cons_zero, List.set_cons_succ]
      refine wpAnyH_take (i := 12) (oi := { dst := some 24, op := Go.Op.move (Go.Operand.tmp 36), type := 50, pos := "span.go:78", after := #[{ on := 11, ground := Go.Ground.data }], guard := none }) (v := .tuple #[.slice (some ⟨g, 0, none⟩) (pushL Z (botK Z F P) F P).2.length F.length, .int .i64 0]) rfl (by kernel_rfl) (by kernel_rfl) (by kernel_rfl) (fun _ _ _ h => h) (Or.inl ⟨by rfl, ?_⟩) (by assumption) ?_
      · (intro w hSw; (try dsimp only [HeldS] at hSw); go_simp)
      try simp only [Act.put, List.setIfInBounds_toArray, List.set_cons_zero, List.set_cons_succ]
      refine wpAnyH_take (i := 13) (oi := { dst := some 37, op := Go.Op.extract (Go.Operand.tmp 24) 0, type := 25, pos := "span.go:78", after := #[{ on := 12, ground := Go.Ground.data }], guard := none }) (v := .slice (some ⟨g, 0, none⟩) (pushL Z (botK Z F P) F P).2.length F.length) rfl (by kernel_rfl) (by kernel_rfl) (by kernel_rfl) (fun _ _ _ h => h) (Or.inl ⟨by rfl, ?_⟩) (by assumption) ?_
      · (intro w hSw; (try dsimp only [HeldS] at hSw); go_simp)
      try simp only [Act.put, List.setIfInBounds_toArray, List.set_cons_zero, List.set_cons_succ]
      refine wpAnyH_take (i := 14) (oi := { dst := some 38, op := Go.Op.extract (Go.Operand.tmp 24) 1, type := 26, pos := "span.go:78", after := #[{ on := 12, ground := Go.Ground.data }, { on := 17, ground := Go.Ground.gcOnly Departure.lateStores }], guard := none }) (v := .int .i64 0) rfl (by kernel_rfl) (by kernel_rfl) (by kernel_rfl) (fun _ _ _ h => h) (Or.inl ⟨by rfl, ?_⟩) (by assumption) ?_
      · (intro w hSw; (try dsimp only [HeldS] at hSw); go_simp)
      try simp only [Act.put, List.setIfInBounds_toArray, List.set_cons_zero, List.set_cons_succ]
      refine wpAnyH_take (i := 15) (oi := { dst := some 39, op := Go.Op.nilCheck (Go.Operand.tmp 25), type := 0, pos := "span.go:78", after := #[{ on := 0, ground := Go.Ground.data }, { on := 0, ground := Go.Ground.phase }, { on := 1, ground := Go.Ground.phase }, { on := 2, ground := Go.Ground.phase }, { on := 3, ground := Go.Ground.phase }, { on := 4, ground := Go.Ground.phase }, { on := 5, ground := Go.Ground.phase }, { on := 6, ground := Go.Ground.phase }, { on := 7, ground := Go.Ground.phase }, { on := 8, ground := Go.Ground.phase }, { on := 9, ground := Go.Ground.phase }, { on := 10, ground := Go.Ground.phase }, { on := 11, ground := Go.Ground.phase }, { on := 12, ground := Go.Ground.phase }, { on := 13, ground := Go.Ground.phase }, { on := 14, ground := Go.Ground.textOnly Departure.lateStores }], guard := none }) (v := .pointer (some ⟨p, 0, none⟩)) rfl (by kernel_rfl) (by kernel_rfl) (by kernel_rfl) (fun _ _ _ h => h) (Or.inl ⟨by rfl, ?_⟩) (by assumption) ?_
      · (intro w hSw; (try dsimp only [HeldS] at hSw); go_simp)
      try simp only [Act.put, List.setIfInBounds_toArray, List.set_cons_zero, List.set_cons_succ]
      refine wpAnyH_take (i := 16) (oi := { dst := some 40, op := Go.Op.fieldAddr 64 (Go.Operand.tmp 39) 3, type := 0, pos := "span.go:78", after := #[{ on := 15, ground := Go.Ground.data }, { on := 0, ground := Go.Ground.phase }, { on := 1, ground := Go.Ground.phase }, { on := 2, ground := Go.Ground.phase }, { on := 3, ground := Go.Ground.phase }, { on := 4, ground := Go.Ground.phase }, { on := 5, ground := Go.Ground.phase }, { on := 6, ground := Go.Ground.phase }, { on := 7, ground := Go.Ground.phase }, { on := 8, ground := Go.Ground.phase }, { on := 9, ground := Go.Ground.phase }, { on := 10, ground := Go.Ground.phase }, { on := 11, ground := Go.Ground.phase }, { on := 12, ground := Go.Ground.phase }, { on := 13, ground := Go.Ground.phase }, { on := 14, ground := Go.Ground.textOnly Departure.lateStores }], guard := none }) (v := .pointer (some ⟨p, 5, none⟩)) rfl (by kernel_rfl) (by kernel_rfl) (by kernel_rfl) (fun _ _ _ h => h) (Or.inl ⟨by rfl, ?_⟩) (by assumption) ?_
      · (intro w hSw; (try dsimp only [HeldS] at hSw); go_simp)
      try simp only [Act.put, List.setIfInBounds_toArray, List.set_cons_zero, List.set_cons_succ]
      refine wpAnyH_ready (rs := [17]) (by kernel_rfl) (by simp) (AllReadyH.cons (o := { dst := none, op := Go.Op.store 25 (Go.Operand.tmp 40) (Go.Operand.tmp 37), type := 0, pos := "span.go:78", after := #[{ on := 16, ground := Go.Ground.data }, { on := 13, ground := Go.Ground.data }, { on := 11, ground := Go.Ground.chain }, { on := 0, ground := Go.Ground.phase }, { on := 1, ground := Go.Ground.phase }, { on := 2, ground := Go.Ground.phase }, { on := 3, ground := Go.Ground.phase }, { on := 4, ground := Go.Ground.phase }, { on := 5, ground := Go.Ground.phase }, { on := 6, ground := Go.Ground.phase }, { on := 7, ground := Go.Ground.phase }, { on := 8, ground := Go.Ground.phase }, { on := 9, ground := Go.Ground.phase }, { on := 10, ground := Go.Ground.phase }, { on := 11, ground := Go.Ground.phase }, { on := 12, ground := Go.Ground.phase }, { on := 13, ground := Go.Ground.phase }, { on := 14, ground := Go.Ground.textOnly Departure.lateStores }], guard := none }) rfl (fun K hK => ?_) AllReadyH.nil)
      obtain ⟨⟨_, _, _, _, _, z5, _, _, _⟩, y5, _, _, _⟩ := c9Cells HW3.out.box
      go_simp
      have HW4 := Lib.hid (HW3.out.setF (fo' := some ⟨g, 0, none⟩) (fc' := F.length) HF3.out (fun ad e _ => by cases e; have := HG.out; have := HWD.out.lt; show g ≠ p; omega))
      have HK4 : Hid (Kept (fun i => i = p) w (w3.setCell ⟨p, 5, none⟩ (.slice (some ⟨g, 0, none⟩) (pushL Z (botK Z F P) F P).2.length F.length))) := Lib.hid (Kept.set (S := fun i => i = p) HK3.out (.inl rfl) _)
      clear hHeld
      refine hK.out _ _ HW4.out.held (fun hHeld => ?_)
      clear hK z5 y5
      try simp only [Act.put, List.setIfInBounds_toArray, List.set_cons_zero, List.set_cons_succ]
      refine wpAnyH_done (by kernel_rfl) ?_ _
      clear hHeld
      go_wp2
      refine bodyPost_end (results_none rfl _ _ _) rfl ?_
      exact ⟨g, rfl, HW4.out, HK4.out⟩
end
end Go.Proofs.Ytekcnglkfglbfaa
