/- The levels are built anew, and the flow is filled along a way: package maxflow's rise and fill. -/
import Derived.Test.YtbgnoaijgngifaaGreatXEmpty
import Derived.Test.YtbgnoaijgngifaaGreatXNew
namespace Go.Proofs.YtbgnoaijgngifaaGreat
open Go.RowKit
set_option linter.unusedVariables false

/-- The cells of the network that are read. -/
def HeldP (p N : Nat) (b : Bool) (ao : Option Addr) (zl cap : Nat) (W : World) : Prop := W.cell? ⟨p, 0, none⟩ = some (.int .i64 (N : Int)) ∧ W.cell? ⟨p, 1, none⟩ = some (.bool b) ∧ W.cell? ⟨p, 2, none⟩ = some (.slice ao zl cap)
theorem FilW.held {w : World} {p tb sg N : Nat} {b : Bool} {ao : Option Addr} {cap : Nat} {Z : List ArcT} {sc tc : Nat} {fo : Option Addr} {fc : Nat} {F : List Int} {lo : Option Addr} {lc : Nat} {L T : List Int} (h : FilW w p tb sg N b ao cap Z sc tc fo fc F lo lc L T) : HeldP p N b ao Z.length cap w := ⟨cell_whole h.box 0, cell_whole h.box 1, cell_whole h.box 2⟩
def seekN (Z : List ArcT) (F : List Int) (N s : Nat) : List Ent := seekK (fromS Z) (toS Z) (stepsK Z F Z.length) s N
section
variable (p tb sg N : Nat) (b : Bool) (ao : Option Addr) (cap : Nat) (Z : List ArcT) (sc tc : Nat) (fo : Option Addr) (fc : Nat) (F : List Int) (lo : Option Addr) (lc : Nat) (L T : List Int)
set_option maxRecDepth 100000 in
set_option maxHeartbeats 4000000 in
theorem xrise_at (s t : Nat) (r : Bool) (w : World) (h : FilW w p tb sg N b ao cap Z sc tc fo fc F lo lc L T) (he : flowE (N : Int) Z F = 0) (hs : s < N) (ht : t < N) (hr : (farX (seekN Z F N s) t != -1) = r) :
    Calls Tryz.prog 34 #[.pointer (some ⟨p, 0, none⟩), .int .i64 (s : Int), .int .i64 (t : Int)] w fun e w' => ∃ g, e = .returned (.bool r) ∧ FilW w' p tb sg N b ao cap Z sc tc fo fc F (some ⟨g, 0, none⟩) N (farsL (seekN Z F N s) N) T ∧ Kept (fun i => i = p) w w' := by
  obtain ⟨hR, hF, hz, hfl, hn1, hn2⟩ := flow_facts (b := b) he
  have hlt := h.lt
  obtain ⟨⟨k0, k1, k2, k3, k4, k5, k6⟩, _⟩ := c7Cells h.box
  have H := Lib.hid h
  have HE := Lib.hid he
  have hti : (t : Int) < (N : Int) := by omega
  have hfl2 := farsL_len (seekN Z F N s) N
  have HFL := Lib.hid hfl2
  have hat := atI_get (d := farsL (seekN Z F N s) N) (v := t) (by rw [hfl2]; exact ht)
  rw [farsL_at _ ht] at hat
  have HAT := Lib.hid hat
  obtain ⟨d, hd⟩ : ∃ d, farX (seekN Z F N s) t = d := ⟨_, rfl⟩
  rw [hd] at HAT hr
  have HR := Lib.hid hr
  clear h he hR hF hfl hfl2 hat hd hr
  go_enter Tryz.func34, Tryz.ntmps34
  go_wp2_with fail
  go_region_held3 (fun W => W.cell? ⟨p, 0, none⟩ = some (.int .i64 (N : Int)) ∧ W.cell? ⟨p, 1, none⟩ = some (.bool b) ∧ W.cell? ⟨p, 2, none⟩ = some (.slice ao Z.length cap) ∧ W.cell? ⟨p, 4, none⟩ = some (.slice fo F.length fc)) (first | exact ⟨k0, k1, k2, k4⟩ | exact ⟨z0, z1, z2, z4⟩ | exact ⟨cell_whole (set_whole HW3.out.box 5 _) 0, cell_whole (set_whole HW3.out.box 5 _) 1, cell_whole (set_whole HW3.out.box 5 _) 2, cell_whole (set_whole HW3.out.box 5 _) 4⟩)
    (first | (go_at_call 21; refine (levels_new b ao fo cap fc Z F N s w.drew H.out.drew.arcs H.out.drew.flow HE.out hs).mono ?_; rintro e w3 ⟨g, rfl, hg, hl3, b3⟩; have HW3 := Lib.hid (H.out.drew.next b3); have HL3 := Lib.hid hl3; have HG : Hid (w.heap.size ≤ g) := Lib.hid hg; have HB3 := Lib.hid ((below_drew (Below.refl w.heap.size w)).trans b3); obtain ⟨⟨z0, z1, z2, z3, z4, z5, z6⟩, y0, y1, y2, y3, y4, y5, y6⟩ := c7Cells HW3.out.box; clear hg hl3 b3))
  all_goals
    have HW4 := Lib.hid (HW3.out.setL (lo' := some ⟨g, 0, none⟩) (lc' := N) HL3.out (fun ad e _ => by cases e; have := HG.out; exact ⟨by show g ≠ p; omega, by show g ≠ tb; omega⟩))
    have HK4 : Hid (Kept (fun i => i = p) w (w3.setCell ⟨p, 5, none⟩ (.slice (some ⟨g, 0, none⟩) (farsL (seekK (fromS Z) (toS Z) (stepsK Z F Z.length) s N) N).length N))) := Lib.hid (Kept.set (S := fun i => i = p) (Kept.of_below HB3.out) (.inl rfl) _)
    generalize w3.setCell ⟨p, 5, none⟩ (.slice (some ⟨g, 0, none⟩) (farsL (seekK (fromS Z) (toS Z) (stepsK Z F Z.length) s N) N).length N) = w4 at *
    obtain ⟨⟨x0, x1, x2, x3, x4, x5, x6⟩, _⟩ := c7Cells HW4.out.box
    obtain ⟨fb, fx, e, hfb, cd⟩ := lst_cell HW4.out.levs HAT.out
    cases e
    unfold encI at cd
    have hlen : (farsL (seekK (fromS Z) (toS Z) (stepsK Z F Z.length) s N) N).length = N := HFL.out
    rw [hlen] at x5
    rw [Nat.zero_add] at cd
    clear hlen hfb
    go_wp2
    go_ret
    exact ⟨g, ret_bool HR.out, HW4.out, HK4.out⟩
set_option maxRecDepth 100000 in
set_option maxHeartbeats 4000000 in
theorem xfill_at (po : Option Addr) (pc : Nat) (P : List StepT) (w : World) (h : FilW w p tb sg N b ao cap Z sc tc fo fc F lo lc L T) (he : flowE (N : Int) Z F = 0) (hP : Row encS 2 w po P) (hl : P ≠ []) (hll : P.length ≤ 1000) (hpa : ∀ y ∈ P, isArc Z y) (h0 : (pushL Z (botK Z F P) F P).1 = 0) (hk : ¬ botK Z F P < 0) :
    Calls Tryz.prog 36 #[.pointer (some ⟨p, 0, none⟩), .slice po P.length pc] w fun e w' => ∃ g, e = .returned (.tuple #[]) ∧ FilW w' p tb sg N b ao cap Z sc tc (some ⟨g, 0, none⟩) F.length (pushL Z (botK Z F P) F P).2 lo lc L T ∧ Kept (fun i => i = p) w w' := by
  obtain ⟨hR, hF, hz, hfl, hn1, hn2⟩ := flow_facts (b := b) he
  have hlt := h.lt
  have H := Lib.hid h
  have HE := Lib.hid he
  have HPR := Lib.hid hP
  have HPA := Lib.hid hpa
  have HH0 := Lib.hid h0
  have HHK := Lib.hid hk
  have HRT := Lib.hid hR
  have HFF := Lib.hid hF
  have h0l : 0 < P.length := List.length_pos_iff.2 hl
  have hli0 : (0 : Int) < (P.length : Int) := by omega
  obtain ⟨y0, r, hPe⟩ : ∃ y0 r, P = y0 :: r := by cases P with | nil => exact absurd rfl hl | cons a l => exact ⟨a, l, rfl⟩
  have HPE := Lib.hid hPe
  have HBT : Hid (botA Z F (leftS Z F y0) P = botK Z F P) := Lib.hid (by rw [hPe]; simp [botA, botK])
  obtain ⟨lb, lx, e1, hlb, s0, s1⟩ := step_at hP (i := 0) (x := y0) (by rw [hPe]; rfl)
  subst e1
  rw [Nat.zero_mul, Nat.add_zero] at s0 s1
  have hy0 := hpa y0 (by rw [hPe]; simp)
  obtain ⟨i0, q0⟩ := y0
  obtain ⟨j0, rfl, hj0⟩ := isArc_nat hy0
  simp only at s0 s1
  obtain ⟨r0, hr0⟩ : ∃ r0, leftS Z F ((j0 : Int), q0) = r0 := ⟨_, rfl⟩
  have HR0 := Lib.hid hr0
  rw [hr0] at HBT
  clear h he hP hpa h0 hk hR hF hfl hPe hy0 hr0 hl
  go_enter Tryz.func36, Tryz.ntmps36
  go_wp2_with (first
    | (go_at_call 53; refine (xroom_is p tb sg N b ao cap Z sc tc fo fc F lo lc L T j0 q0 r0 _ H.out HE.out hj0 HR0.out).mono ?_; rintro e w2 ⟨rfl, b2⟩; have HB2 := Lib.hid b2; clear b2))
  go_loopw [4, 14] (fun kv iv wr => ∃ j : Nat, j ≤ P.length ∧ iv = .int .i64 (j : Int) ∧ kv = .int .i64 (botA Z F r0 (P.take j)) ∧ Hid (Below w.heap.size w wr)) (fun _ iv _ => P.length - (intOf iv).toNat)
  case atStart => exact ⟨0, by omega, rfl, rfl, HB2⟩
  case round =>
    clear HB2 s0 s1
    obtain ⟨j, hj, rfl, rfl, HB⟩ := hrel
    by_cases hlt2 : j < P.length
    · have hli : (j : Int) < (P.length : Int) := by omega
      have HBK : Hid (min (botA Z F r0 (P.take j)) (leftS Z F P[j]) = botA Z F r0 (P.take (j + 1))) := Lib.hid (by rw [List.take_succ_eq_append_getElem hlt2, botA_snoc])
      obtain ⟨lb2, lx2, e, hlb2, s2, s3⟩ := step_at (HPR.out.below' HB.out) (List.getElem?_eq_getElem hlt2)
      cases e
      have hyj := HPA.out _ (List.getElem_mem hlt2)
      generalize P[j] = y at *
      obtain ⟨i2, q2⟩ := y
      obtain ⟨j2, rfl, hj2⟩ := isArc_nat hyj
      simp only at s2 s3
      obtain ⟨r2, hr2⟩ : ∃ r2, leftS Z F ((j2 : Int), q2) = r2 := ⟨_, rfl⟩
      have HR2 := Lib.hid hr2
      rw [hr2] at HBK
      obtain ⟨kb, hkb⟩ : ∃ kb, botA Z F r0 (P.take j) = kb := ⟨_, rfl⟩
      rw [hkb] at HBK ⊢
      clear hyj hr2 hkb
      have HW := Lib.hid ((H.out.next HB.out).alloc (.cells #[.int .i64 (j2 : Int), .bool q2] 90))
      have HBA := Lib.hid (HB.out.alloc HB.out.size (.cells #[.int .i64 (j2 : Int), .bool q2] 90))
      go_wp2_with (first
        | (go_at_call 53; refine (xroom_is p tb sg N b ao cap Z sc tc fo fc F lo lc L T j2 q2 r2 _ HW.out HE.out hj2 HR2.out).mono ?_; rintro e w6 ⟨rfl, b6⟩; have HB6 := Lib.hid (HBA.out.trans (b6.mono HBA.out.size)); clear b6))
      go_roundw
      case rel => exact ⟨j + 1, by omega, by go_num, by rw [← HBK.out], HB6⟩
      case measure => simp [intOf]; omega
    · have hli : ¬ (j : Int) < (P.length : Int) := by omega
      obtain rfl : j = P.length := by omega
      rw [List.take_length, HBT.out]
      have HWR := Lib.hid (H.out.next HB.out)
      have HKK := Lib.hid (Kept.of_below (S := fun i => i = p) HB.out)
      have HPW := Lib.hid (HPR.out.below' HB.out)
      clear HB
      go_wp2_with fail
      refine wp_region_held_drew (S := fun W => HeldP p N b ao Z.length cap W) (by kernel_rfl) HWR.out.held (fun hHeld => ?_)
      have HWD := Lib.hid HWR.out.drew
      have HPD := Lib.hid (HPW.out.below' (below_drew (Below.refl _ _)))
      have HKD := Lib.hid HKK.out.drew
      clear HWR HPW HKK
      generalize wr.drew = wd at *
      refine wpAnyH_take (i := 0) (oi := { dst := some 25, op := Go.Op.move (Go.Operand.tmp 0), type := 45, pos := "maxflow.go:117", after := #[], guard := none }) (v := .pointer (some ⟨p, 0, none⟩)) rfl (by kernel_rfl) (by kernel_rfl) (by kernel_rfl) (fun _ _ _ h => h) (Or.inl ⟨by rfl, ?_⟩) (by assumption) ?_
      · (intro w hSw; (try dsimp only [HeldP] at hSw); go_simp)
      try simp only [Act.put, List.setIfInBounds_toArray, List.set_cons_zero, List.set_cons_succ]
      refine wpAnyH_take (i := 1) (oi := { dst := some 26, op := Go.Op.move (Go.Operand.tmp 0), type := 45, pos := "maxflow.go:117", after := #[], guard := none }) (v := .pointer (some ⟨p, 0, none⟩)) rfl (by kernel_rfl) (by kernel_rfl) (by kernel_rfl) (fun _ _ _ h => h) (Or.inl ⟨by rfl, ?_⟩) (by assumption) ?_
      · (intro w hSw; (try dsimp only [HeldP] at hSw); go_simp)
      try simp only [Act.put, List.setIfInBounds_toArray, List.set_cons_zero, List.set_cons_succ]
      refine wpAnyH_take (i := 2) (oi := { dst := some 27, op := Go.Op.nilCheck (Go.Operand.tmp 26), type := 0, pos := "maxflow.go:117", after := #[{ on := 1, ground := Go.Ground.data }], guard := none }) (v := .pointer (some ⟨p, 0, none⟩)) rfl (by kernel_rfl) (by kernel_rfl) (by kernel_rfl) (fun _ _ _ h => h) (Or.inl ⟨by rfl, ?_⟩) (by assumption) ?_
      · (intro w hSw; (try dsimp only [HeldP] at hSw); go_simp)
      try simp only [Act.put, List.setIfInBounds_toArray, List.set_cons_zero, List.set_cons_succ]
      refine wpAnyH_take (i := 3) (oi := { dst := some 28, op := Go.Op.fieldAddr 53 (Go.Operand.tmp 27) 0, type := 0, pos := "maxflow.go:117", after := #[{ on := 2, ground := Go.Ground.data }], guard := none }) (v := .pointer (some ⟨p, 0, none⟩)) rfl (by kernel_rfl) (by kernel_rfl) (by kernel_rfl) (fun _ _ _ h => h) (Or.inl ⟨by rfl, ?_⟩) (by assumption) ?_
      · (intro w hSw; (try dsimp only [HeldP] at hSw); go_simp)
      try simp only [Act.put, List.setIfInBounds_toArray, List.set_cons_zero, List.set_cons_succ]
      refine wpAnyH_take (i := 4) (oi := { dst := some 29, op := Go.Op.fieldAddr 50 (Go.Operand.tmp 28) 0, type := 0, pos := "maxflow.go:117", after := #[{ on := 3, ground := Go.Ground.data }], guard := none }) (v := .pointer (some ⟨p, 0, none⟩)) rfl (by kernel_rfl) (by kernel_rfl) (by kernel_rfl) (fun _ _ _ h => h) (Or.inl ⟨by rfl, ?_⟩) (by assumption) ?_
      · (intro w hSw; (try dsimp only [HeldP] at hSw); go_simp)
      try simp only [Act.put, List.setIfInBounds_toArray, List.set_cons_zero, List.set_cons_succ]
      refine wpAnyH_take (i := 5) (oi := { dst := some 30, op := Go.Op.load 24 (Go.Operand.tmp 29), type := 24, pos := "maxflow.go:117", after := #[{ on := 4, ground := Go.Ground.data }], guard := none }) (v := .agg #[.int .i64 (N : Int), .bool b, .slice ao Z.length cap]) rfl (by kernel_rfl) (by kernel_rfl) (by kernel_rfl) (fun _ _ _ h => h) (Or.inl ⟨by rfl, ?_⟩) (by assumption) ?_
      · (intro w hSw; (try dsimp only [HeldP] at hSw); go_simp)
      try simp only [Act.put, List.setIfInBounds_toArray, List.set_cons_zero, List.set_cons_succ]
      refine wpAnyH_take (i := 6) (oi := { dst := some 31, op := Go.Op.move (Go.Operand.tmp 0), type := 45, pos := "maxflow.go:117", after := #[], guard := none }) (v := .pointer (some ⟨p, 0, none⟩)) rfl (by kernel_rfl) (by kernel_rfl) (by kernel_rfl) (fun _ _ _ h => h) (Or.inl ⟨by rfl, ?_⟩) (by assumption) ?_
      · (intro w hSw; (try dsimp only [HeldP] at hSw); go_simp)
      try simp only [Act.put, List.setIfInBounds_toArray, List.set_cons_zero, List.set_cons_succ]
      refine wpAnyH_take (i := 7) (oi := { dst := some 32, op := Go.Op.nilCheck (Go.Operand.tmp 31), type := 0, pos := "maxflow.go:117", after := #[{ on := 6, ground := Go.Ground.data }], guard := none }) (v := .pointer (some ⟨p, 0, none⟩)) rfl (by kernel_rfl) (by kernel_rfl) (by kernel_rfl) (fun _ _ _ h => h) (Or.inl ⟨by rfl, ?_⟩) (by assumption) ?_
      · (intro w hSw; (try dsimp only [HeldP] at hSw); go_simp)
      try simp only [Act.put, List.setIfInBounds_toArray, List.set_cons_zero, List.set_cons_succ]
      refine wpAnyH_take (i := 8) (oi := { dst := some 33, op := Go.Op.fieldAddr 53 (Go.Operand.tmp 32) 2, type := 0, pos := "maxflow.go:117", after := #[{ on := 7, ground := Go.Ground.data }], guard := none }) (v := .pointer (some ⟨p, 4, none⟩)) rfl (by kernel_rfl) (by kernel_rfl) (by kernel_rfl) (fun _ _ _ h => h) (Or.inl ⟨by rfl, ?_⟩) (by assumption) ?_
      · (intro w hSw; (try dsimp only [HeldP] at hSw); go_simp)
      try simp only [Act.put, List.setIfInBounds_toArray, List.set_cons_zero, List.set_cons_succ]
      refine wpAnyH_take (i := 10) (oi := { dst := some 35, op := Go.Op.move (Go.Operand.tmp 1), type := 60, pos := "maxflow.go:117", after := #[], guard := none }) (v := .slice (some ⟨lb, lx, none⟩) P.length pc) rfl (by kernel_rfl) (by kernel_rfl) (by kernel_rfl) (fun _ _ _ h => h) (Or.inl ⟨by rfl, ?_⟩) (by assumption) ?_
      · (intro w hSw; (try dsimp only [HeldP] at hSw); go_simp)
      try simp only [Act.put, List.setIfInBounds_toArray, List.set_cons_zero, List.set_cons_succ]
      refine wpAnyH_take (i := 11) (oi := { dst := some 36, op := Go.Op.move (Go.Operand.tmp 4), type := 3, pos := "maxflow.go:117", after := #[], guard := none }) (v := .int .i64 (botK Z F P)) rfl (by kernel_rfl) (by kernel_rfl) (by kernel_rfl) (fun _ _ _ h => h) (Or.inl ⟨by rfl, ?_⟩) (by assumption) ?_
      · (intro w hSw; (try dsimp only [HeldP] at hSw); go_simp)
      try simp only [Act.put, List.setIfInBounds_toArray, List.set_cons_zero, List.set_cons_succ]
      refine wpAnyH_ready (rs := [9]) (by kernel_rfl) (by simp) (AllReadyH.cons (o := { dst := some 34, op := Go.Op.load 33 (Go.Operand.tmp 33), type := 33, pos := "maxflow.go:117", after := #[{ on := 8, ground := Go.Ground.data }], guard := none }) rfl (fun K hK => ?_) AllReadyH.nil)
      obtain ⟨⟨_, _, _, _, k4, _, _⟩, _⟩ := c7Cells HWD.out.box
      go_simp
      refine hK.out _ _ HWD.out.held (fun hHeld => ?_)
      clear hK k4
      try simp only [Act.put, List.setIfInBounds_toArray, List.set_cons_zero, List.set_cons_succ]
      refine wpAnyH_ready (rs := [12]) (by kernel_rfl) (by simp) (AllReadyH.cons (o := { dst := some 37, op := Go.Op.call { callee := Go.Callee.value (Go.Operand.func 54), args := #[Go.Operand.tmp 30, Go.Operand.tmp 34, Go.Operand.tmp 35, Go.Operand.tmp 36], argTypes := #[24, 33, 60, 3] }, type := 54, pos := "maxflow.go:117", after := #[{ on := 5, ground := Go.Ground.data }, { on := 9, ground := Go.Ground.data }, { on := 10, ground := Go.Ground.data }, { on := 11, ground := Go.Ground.data }], guard := none }) rfl (fun K hK => ?_) AllReadyH.nil)
      go_simp
      refine (spush_new (N : Int) b ao fo (some ⟨lb, lx, none⟩) cap fc pc Z F P (botK Z F P) wd HWD.out.arcs HWD.out.flow HPD.out hll HE.out (by have := HHK.out; omega) HH0.out).mono ?_
      rintro e w3 ⟨g, rfl, hg, hf3, b3⟩
      have HW3 := Lib.hid (HWD.out.next b3)
      have HG : Hid (wd.heap.size ≤ g) := Lib.hid hg
      have HF3 := Lib.hid hf3
      have HK3 := Lib.hid (HKD.out.trans (Kept.of_below (S := fun i => i = p) b3) (fun i _ e => e))
      clear hg hf3 b3 hHeld
      go_wp2_with fail
      refine hK.out _ _ HW3.out.held (fun hHeld => ?_)
      clear hK
      try simp only [Act.put, List.setIfInBounds_toArray, List.set_cons_zero, List.set_cons_succ]
      refine wpAnyH_take (i := 13) (oi := { dst := some 24, op := Go.Op.move (Go.Operand.tmp 37), type := 54, pos := "maxflow.go:117", after := #[{ on := 12, ground := Go.Ground.data }], guard := none }) (v := .tuple #[.slice (some ⟨g, 0, none⟩) (pushL Z (botK Z F P) F P).2.length F.length, .int .i64 0]) rfl (by kernel_rfl) (by kernel_rfl) (by kernel_rfl) (fun _ _ _ h => h) (Or.inl ⟨by rfl, ?_⟩) (by assumption) ?_
      · (intro w hSw; (try dsimp only [HeldP] at hSw); go_simp)
      try simp only [Act.put, List.setIfInBounds_toArray, List.set_cons_zero, List.set_cons_succ]
      refine wpAnyH_take (i := 14) (oi := { dst := some 38, op := Go.Op.extract (Go.Operand.tmp 24) 0, type := 33, pos := "maxflow.go:117", after := #[{ on := 13, ground := Go.Ground.data }], guard := none }) (v := .slice (some ⟨g, 0, none⟩) (pushL Z (botK Z F P) F P).2.length F.length) rfl (by kernel_rfl) (by kernel_rfl) (by kernel_rfl) (fun _ _ _ h => h) (Or.inl ⟨by rfl, ?_⟩) (by assumption) ?_
      · (intro w hSw; (try dsimp only [HeldP] at hSw); go_simp)
      try simp only [Act.put, List.setIfInBounds_toArray, List.set_cons_zero, List.set_cons_succ]
      refine wpAnyH_take (i := 15) (oi := { dst := some 39, op := Go.Op.extract (Go.Operand.tmp 24) 1, type := 27, pos := "maxflow.go:117", after := #[{ on := 13, ground := Go.Ground.data }, { on := 18, ground := Go.Ground.gcOnly Departure.lateStores }], guard := none }) (v := .int .i64 0) rfl (by kernel_rfl) (by kernel_rfl) (by kernel_rfl) (fun _ _ _ h => h) (Or.inl ⟨by rfl, ?_⟩) (by assumption) ?_
      · (intro w hSw; (try dsimp only [HeldP] at hSw); go_simp)
      try simp only [Act.put, List.setIfInBounds_toArray, List.set_cons_zero, List.set_cons_succ]
      refine wpAnyH_take (i := 16) (oi := { dst := some 40, op := Go.Op.nilCheck (Go.Operand.tmp 25), type := 0, pos := "maxflow.go:117", after := #[{ on := 0, ground := Go.Ground.data }, { on := 0, ground := Go.Ground.phase }, { on := 1, ground := Go.Ground.phase }, { on := 2, ground := Go.Ground.phase }, { on := 3, ground := Go.Ground.phase }, { on := 4, ground := Go.Ground.phase }, { on := 5, ground := Go.Ground.phase }, { on := 6, ground := Go.Ground.phase }, { on := 7, ground := Go.Ground.phase }, { on := 8, ground := Go.Ground.phase }, { on := 9, ground := Go.Ground.phase }, { on := 10, ground := Go.Ground.phase }, { on := 11, ground := Go.Ground.phase }, { on := 12, ground := Go.Ground.phase }, { on := 13, ground := Go.Ground.phase }, { on := 14, ground := Go.Ground.phase }, { on := 15, ground := Go.Ground.textOnly Departure.lateStores }], guard := none }) (v := .pointer (some ⟨p, 0, none⟩)) rfl (by kernel_rfl) (by kernel_rfl) (by kernel_rfl) (fun _ _ _ h => h) (Or.inl ⟨by rfl, ?_⟩) (by assumption) ?_
      · (intro w hSw; (try dsimp only [HeldP] at hSw); go_simp)
      try simp only [Act.put, List.setIfInBounds_toArray, List.set_cons_zero, List.set_cons_succ]
      refine wpAnyH_take (i := 17) (oi := { dst := some 41, op := Go.Op.fieldAddr 53 (Go.Operand.tmp 40) 2, type := 0, pos := "maxflow.go:117", after := #[{ on := 16, ground := Go.Ground.data }, { on := 0, ground := Go.Ground.phase }, { on := 1, ground := Go.Ground.phase }, { on := 2, ground := Go.Ground.phase }, { on := 3, ground := Go.Ground.phase }, { on := 4, ground := Go.Ground.phase }, { on := 5, ground := Go.Ground.phase }, { on := 6, ground := Go.Ground.phase }, { on := 7, ground := Go.Ground.phase }, { on := 8, ground := Go.Ground.phase }, { on := 9, ground := Go.Ground.phase }, { on := 10, ground := Go.Ground.phase }, { on := 11, ground := Go.Ground.phase }, { on := 12, ground := Go.Ground.phase }, { on := 13, ground := Go.Ground.phase }, { on := 14, ground := Go.Ground.phase }, { on := 15, ground := Go.Ground.textOnly Departure.lateStores }], guard := none }) (v := .pointer (some ⟨p, 4, none⟩)) rfl (by kernel_rfl) (by kernel_rfl) (by kernel_rfl) (fun _ _ _ h => h) (Or.inl ⟨by rfl, ?_⟩) (by assumption) ?_
      · (intro w hSw; (try dsimp only [HeldP] at hSw); go_simp)
      try simp only [Act.put, List.setIfInBounds_toArray, List.set_cons_zero, List.set_cons_succ]
      refine wpAnyH_ready (rs := [18]) (by kernel_rfl) (by simp) (AllReadyH.cons (o := { dst := none, op := Go.Op.store 33 (Go.Operand.tmp 41) (Go.Operand.tmp 38), type := 0, pos := "maxflow.go:117", after := #[{ on := 17, ground := Go.Ground.data }, { on := 14, ground := Go.Ground.data }, { on := 12, ground := Go.Ground.chain }, { on := 0, ground := Go.Ground.phase }, { on := 1, ground := Go.Ground.phase }, { on := 2, ground := Go.Ground.phase }, { on := 3, ground := Go.Ground.phase }, { on := 4, ground := Go.Ground.phase }, { on := 5, ground := Go.Ground.phase }, { on := 6, ground := Go.Ground.phase }, { on := 7, ground := Go.Ground.phase }, { on := 8, ground := Go.Ground.phase }, { on := 9, ground := Go.Ground.phase }, { on := 10, ground := Go.Ground.phase }, { on := 11, ground := Go.Ground.phase }, { on := 12, ground := Go.Ground.phase }, { on := 13, ground := Go.Ground.phase }, { on := 14, ground := Go.Ground.phase }, { on := 15, ground := Go.Ground.textOnly Departure.lateStores }], guard := none }) rfl (fun K hK => ?_) AllReadyH.nil)
      obtain ⟨⟨_, _, _, _, z4, _, _⟩, _, _, _, _, y4, _, _⟩ := c7Cells HW3.out.box
      go_simp
      have HW4 := Lib.hid (HW3.out.setF (fo' := some ⟨g, 0, none⟩) (fc' := F.length) HF3.out (fun ad e _ => by cases e; have := HG.out; have := HWD.out.lt; exact ⟨by show g ≠ p; omega, by show g ≠ tb; omega⟩))
      have HK4 : Hid (Kept (fun i => i = p) w (w3.setCell ⟨p, 4, none⟩ (.slice (some ⟨g, 0, none⟩) (pushL Z (botK Z F P) F P).2.length F.length))) := Lib.hid (Kept.set (S := fun i => i = p) HK3.out (.inl rfl) _)
      clear hHeld
      refine hK.out _ _ HW4.out.held (fun hHeld => ?_)
      clear hK z4 y4
      try simp only [Act.put, List.setIfInBounds_toArray, List.set_cons_zero, List.set_cons_succ]
      refine wpAnyH_done (by kernel_rfl) ?_ _
      clear hHeld
      go_wp2
      refine bodyPost_end (results_none rfl _ _ _) rfl ?_
      exact ⟨g, rfl, HW4.out, HK4.out⟩
end
end Go.Proofs.YtbgnoaijgngifaaGreat
