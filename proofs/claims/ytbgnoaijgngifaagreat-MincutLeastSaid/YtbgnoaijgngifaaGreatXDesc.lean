/- A path that descends is sought: package maxflow's descend. -/
import Derived.Test.YtbgnoaijgngifaaGreatXRise
import Derived.Deep.LoopGhost
namespace Go.Proofs.YtbgnoaijgngifaaGreat
open Go.RowKit
set_option linter.unusedVariables false

theorem OwnS.form {w : World} {B : Nat} {v : Value} {L : List StepT} (h : OwnS w B v L) (h0 : 0 < L.length) : ∃ g cap, v = .slice (some ⟨g, 0, none⟩) L.length cap ∧ B ≤ g ∧ g < w.heap.size ∧ L.length ≤ cap ∧ cap ≤ maxLen := by
  rcases h.2 with ⟨_, h1⟩ | ⟨g, cap, cur, e, h1, h2, h3, h4, _⟩
  · omega
  · exact ⟨g, cap, e, h1, lt_whole h2, h3, h4⟩
theorem flatS_len : ∀ M : List StepT, (M.flatMap encS).length = M.length * 2
  | [] => rfl
  | a :: r => by rw [List.flatMap_cons, List.length_append, flatS_len r, encS_len]; simp only [List.length_cons]; omega
/-- All but the last. -/
theorem OwnS.init {w : World} {B g n cap : Nat} {L : List StepT} {y : StepT} (h : OwnS w B (.slice (some ⟨g, 0, none⟩) n cap) (L ++ [y])) : OwnS w B (.slice (some ⟨g, 0, none⟩) L.length cap) L := by
  refine ⟨flatS_len L, ?_⟩
  rcases h.2 with ⟨h0, _⟩ | ⟨g', cap', cur, e, h1, h2, h3, h4, h5, h6⟩
  · cases h0
  · injection e with e1 e2 e3
    injection e1 with e1
    have hg : g' = g := by injection e1 with q; exact q.symm
    subst hg
    subst e3
    rw [List.length_append, List.length_singleton] at h3 h6
    refine .inr ⟨g', cap, cur, rfl, h1, h2, by omega, h4, h5, ?_⟩
    have : cur.toList.take (L.length * 2) = (cur.toList.take ((L.length + 1) * 2)).take (L.length * 2) := by rw [List.take_take]; congr 1; omega
    rw [this, h6, List.flatMap_append, List.take_append_of_le_length (by rw [flatS_len]; exact Nat.le_refl _), List.take_of_length_le (by rw [flatS_len]; exact Nat.le_refl _)]
/-- What a search for a path that descends leaves. -/
def DescV (p tb sg N : Nat) (b : Bool) (ao : Option Addr) (cap : Nat) (Z : List ArcT) (sc tc : Nat) (fo : Option Addr) (fc : Nat) (F : List Int) (lo : Option Addr) (lc : Nat) (L T : List Int) (s t : Nat) (w : World) (e : Ending) (w' : World) : Prop :=
  ∃ T', TI Z N T' ∧ FilW w' p tb sg N b ao cap Z sc tc fo fc F lo lc L T' ∧ Kept (fun i => i = tb) w w' ∧
    ((∃ po pc P, e = .returned (.tuple #[.slice po P.length pc, .bool true]) ∧ Row encS 2 w' po P ∧ (∀ ad, po = some ad → 0 < P.length → w.heap.size ≤ ad.block) ∧ DP Z F L T' s P t) ∨ (e = .returned (.tuple #[.slice none 0 0, .bool false]) ∧ (DT Z F L N t T → Shut Z F L t s)))
/-- The cells that are read where a step is taken up. -/
def HeldD (p tb sg N sc tc v rb ro sl rc n i : Nat) (q : Bool) (W : World) : Prop := (W.cell? ⟨p, 3, none⟩ = some (.slice (some ⟨sg, 0, none⟩) N sc) ∧ W.cell? ⟨p, 6, none⟩ = some (.slice (some ⟨tb, 0, none⟩) N tc) ∧ W.cell? ⟨sg, v, none⟩ = some (.slice (some ⟨rb, ro, none⟩) sl rc)) ∧ W.cell? ⟨tb, v, none⟩ = some (.int .i64 (n : Int)) ∧ W.cell? ⟨rb, ro + n * 2, none⟩ = some (.int .i64 (i : Int)) ∧ W.cell? ⟨rb, ro + n * 2 + 1, none⟩ = some (.bool q)
theorem HeldD.below {p tb sg N sc tc v rb ro sl rc n i : Nat} {q : Bool} {w w2 : World} (h : HeldD p tb sg N sc tc v rb ro sl rc n i q w) (hb : Below w.heap.size w w2) : HeldD p tb sg N sc tc v rb ro sl rc n i q w2 :=
  ⟨⟨cell_below hb h.1.1, cell_below hb h.1.2.1, cell_below hb h.1.2.2⟩, cell_below hb h.2.1, cell_below hb h.2.2.1, cell_below hb h.2.2.2⟩
section
variable (p tb sg N : Nat) (b : Bool) (ao : Option Addr) (cap : Nat) (Z : List ArcT) (sc tc : Nat) (fo : Option Addr) (fc : Nat) (F : List Int) (lo : Option Addr) (lc : Nat) (L T : List Int)
set_option maxRecDepth 100000 in
set_option maxHeartbeats 8000000 in
theorem xdescend_at (s t : Nat) (w : World) (h : FilW w p tb sg N b ao cap Z sc tc fo fc F lo lc L T) (he : flowE (N : Int) Z F = 0) (hs : s < N) (ht : t < N) (hL : L.length = N) (hlb : ∀ v, v < N → -1 ≤ atI L v ∧ atI L v < (N : Int)) (hls : atI L s = 0) (hT : TI Z N T) :
    Calls Tryz.prog 35 #[.pointer (some ⟨p, 0, none⟩), .int .i64 (s : Int), .int .i64 (t : Int)] w (DescV p tb sg N b ao cap Z sc tc fo fc F lo lc L T s t w) := by
  obtain ⟨hR, hF, hz, hfl, hn1, hn2⟩ := flow_facts (b := b) he
  have HA := Lib.hid (flow_arcs he)
  rw [Int.toNat_natCast] at HA
  have hlt := h.lt
  have H := Lib.hid h
  have HE := Lib.hid he
  have HLL := Lib.hid hL
  have HLB := Lib.hid hlb
  have HLS := Lib.hid hls
  have HTI := Lib.hid hT
  clear h he hL hlb hls hT hR hF hfl
  go_enter Tryz.func35, Tryz.ntmps35
  go_wp2
  go_step3
  go_wp2
  go_step3
  go_wp2
  go_loopg [6, 8] (muT Z N T [] + 1) (fun k pv nv wr => ∃ (v : Nat) (P : List StepT) (T' : List Int), nv = .int .i64 (v : Int) ∧ v < N ∧ Hid (muT Z N T' P < k) ∧ Hid (TI Z N T') ∧ Hid (DP Z F L T' s P v) ∧ Hid (DT Z F L N t T → DT Z F L N t T') ∧ Hid (OwnL encI wr 0 3 (.slice (some ⟨tb, 0, none⟩) N tc) T') ∧ Hid (OwnS wr w.heap.size pv P) ∧ Hid (Kept (fun i => i = tb) w wr))
  case atStart => exact ⟨s, [], T, rfl, hs, Lib.hid (Nat.lt_succ_self _), HTI, Lib.hid (DP.start T), Lib.hid (fun x => x), Lib.hid H.out.tried, Lib.hid (OwnS.nil _ _), Lib.hid (Kept.refl _ _)⟩
  case round =>
    clear HTI
    obtain ⟨v, P, T', rfl, hv, HMU, HTI, HDP, HDT, HOT, HO, HK⟩ := hrel
    obtain ⟨gk0, hgk⟩ : ∃ gk0, gk0 = gk := ⟨_, rfl⟩
    subst hgk
    obtain ⟨pa, pc, hpv, hrow⟩ := HO.out.row
    subst hpv
    have HRW := Lib.hid hrow
    have hPl : P.length < N := by
      have h1 := HDP.out.lev.1
      have h2 := (HLB.out v hv).2
      rw [HLS.out] at h1
      omega
    clear hrow
    by_cases hvt : v = t
    · subst hvt
      have HFR : Hid (∀ ad, pa = some ad → 0 < P.length → w.heap.size ≤ ad.block) := Lib.hid (fun ad e h0 => by
        obtain ⟨g, c, e2, h1, _⟩ := HO.out.form h0
        injection e2 with e3 _ _
        rw [e] at e3
        injection e3 with e3
        subst e3
        exact h1)
      go_wp2
      try rw [Exit.noGoto_ret]
      refine bodyPost_ret (v := .tuple #[.slice pa P.length pc, .bool true]) (by simp [results, Tryz.results35, go_sem]) rfl ?_
      exact ⟨T', HTI.out, H.out.keptT HK.out HOT.out, HK.out, .inl ⟨pa, pc, P, rfl, HRW.out, HFR.out, HDP.out⟩⟩
    · have hvi : ((v : Int) != (t : Int)) = true := by simp; omega
      clear HRW
      go_wp2
      go_loopg [6, 8] (muT Z N T' P + 1) (fun k pv2 nv2 wi => ∃ T2, pv2 = .slice pa P.length pc ∧ nv2 = .int .i64 (v : Int) ∧ Hid (muT Z N T2 P < k) ∧ Hid (muT Z N T2 P < gk0) ∧ Hid (TI Z N T2) ∧ Hid (DP Z F L T2 s P v) ∧ Hid (DT Z F L N t T → DT Z F L N t T2) ∧ Hid (OwnL encI wi 0 3 (.slice (some ⟨tb, 0, none⟩) N tc) T2) ∧ Hid (OwnS wi w.heap.size (.slice pa P.length pc) P) ∧ Hid (Kept (fun i => i = tb) w wi))
      case atStart => exact ⟨T', rfl, rfl, Lib.hid (Nat.lt_succ_self _), HMU, HTI, HDP, HDT, HOT, HO, HK⟩
      case round =>
        clear HMU HTI HDP HDT HOT HO HK
        obtain ⟨T2, rfl, rfl, HM2, HMU, HTI, HDP, HDT, HOT, HO, HK⟩ := hrel
        have HW := Lib.hid (H.out.keptT HK.out HOT.out)
        obtain ⟨⟨k0, k1, k2, k3, k4, k5, k6⟩, _⟩ := c7Cells HW.out.box
        obtain ⟨ra, rc, hd, hrow, hoff⟩ := HW.out.steps.at hv
        obtain ⟨ct, cf⟩ := HW.out.tried.cell (atI_get (d := T2) (v := v) (by rw [HTI.out.len]; exact hv))
        have hbd := HTI.out.bd v hv
        obtain ⟨n, hn⟩ : ∃ n : Nat, atI T2 v = (n : Int) := ⟨(atI T2 v).toNat, by omega⟩
        rw [hn] at ct hbd
        unfold encI at ct
        have hsl := stepsU_len Z v
        have HN := Lib.hid hn
        have hvN : (v : Int) < (N : Int) := by omega
        clear hn
        by_cases hx : n < (stepsU Z v).length
        · have hxi : (n : Int) < ((stepsU Z v).length : Int) := by omega
          obtain ⟨rb, ro, e, hrb, s0, s1⟩ := step_at hrow (List.getElem?_eq_getElem hx)
          cases e
          have HSY : Hid ((stepsU Z v)[(atI T2 v).toNat]? = some (stepsU Z v)[n]) := Lib.hid (by rw [HN.out, Int.toNat_natCast]; exact List.getElem?_eq_getElem hx)
          generalize (stepsU Z v)[n] = y at *
          obtain ⟨i, a, q, hi, ha, hy, hyf⟩ := stepsU_mem (List.mem_of_getElem? HSY.out)
          subst hy
          simp only at s0 s1
          have HAI := Lib.hid ha
          obtain ⟨sl, hsle⟩ : ∃ sl, (stepsU Z v).length = sl := ⟨_, rfl⟩
          rw [hsle] at hd hx hxi hsl hbd
          have HSL := Lib.hid hsle
          clear ha hyf hrow hoff hsle
          obtain ⟨dB, hdB⟩ : ∃ dB, descB Z F L ((i : Int), q) = dB := ⟨_, rfl⟩
          have HDB := Lib.hid hdB
          clear hdB
          go_wp2_with fail
          go_quiet (fail)
          have HHD : Hid (HeldD p tb sg N sc tc v rb ro sl rc n i q (wr.drewN nq).drew) := Lib.hid ⟨⟨k3, k6, hd⟩, ct, s0, s1⟩
          have HW := Lib.hid (HW.out.drewN nq).drew
          have HOT := Lib.hid (HOT.out.below (below_drew (below_drewN (Below.refl _ wr) nq)))
          have HO := Lib.hid (HO.out.below (below_drew (below_drewN (Below.refl _ wr) nq)))
          have HK := Lib.hid (HK.out.drewN nq).drew
          clear k0 k1 k2 k3 k4 k5 k6 ct cf hd s0 s1 hrb
          go_wp2_with fail
          refine wp_region_held_drew (S := fun W => HeldD p tb sg N sc tc v rb ro sl rc n i q W) (by kernel_rfl) HHD.out (fun hHeld => ?_)
          generalize (wr.drewN nq).drew = wd at *
          refine wpAnyH_take (i := 0) (oi := { dst := some 31, op := Go.Op.move (Go.Operand.tmp 0), type := 45, pos := "maxflow.go:89", after := #[], guard := none }) (v := .pointer (some ⟨p, 0, none⟩)) rfl (by kernel_rfl) (by kernel_rfl) (by kernel_rfl) (fun _ _ _ h => h) (Or.inl ⟨by rfl, ?_⟩) (by assumption) ?_
          · (intro w hSw; (try dsimp only [HeldD] at hSw); go_simp)
          try simp only [Act.put, List.setIfInBounds_toArray, List.set_cons_zero, List.set_cons_succ]
          refine wpAnyH_take (i := 1) (oi := { dst := some 32, op := Go.Op.nilCheck (Go.Operand.tmp 31), type := 0, pos := "maxflow.go:89", after := #[{ on := 0, ground := Go.Ground.data }], guard := none }) (v := .pointer (some ⟨p, 0, none⟩)) rfl (by kernel_rfl) (by kernel_rfl) (by kernel_rfl) (fun _ _ _ h => h) (Or.inl ⟨by rfl, ?_⟩) (by assumption) ?_
          · (intro w hSw; (try dsimp only [HeldD] at hSw); go_simp)
          try simp only [Act.put, List.setIfInBounds_toArray, List.set_cons_zero, List.set_cons_succ]
          refine wpAnyH_take (i := 2) (oi := { dst := some 33, op := Go.Op.fieldAddr 53 (Go.Operand.tmp 32) 1, type := 0, pos := "maxflow.go:89", after := #[{ on := 1, ground := Go.Ground.data }], guard := none }) (v := .pointer (some ⟨p, 3, none⟩)) rfl (by kernel_rfl) (by kernel_rfl) (by kernel_rfl) (fun _ _ _ h => h) (Or.inl ⟨by rfl, ?_⟩) (by assumption) ?_
          · (intro w hSw; (try dsimp only [HeldD] at hSw); go_simp)
          try simp only [Act.put, List.setIfInBounds_toArray, List.set_cons_zero, List.set_cons_succ]
          refine wpAnyH_take (i := 3) (oi := { dst := some 34, op := Go.Op.load 51 (Go.Operand.tmp 33), type := 51, pos := "maxflow.go:89", after := #[{ on := 2, ground := Go.Ground.data }], guard := none }) (v := .slice (some ⟨sg, 0, none⟩) N sc) rfl (by kernel_rfl) (by kernel_rfl) (by kernel_rfl) (fun _ _ _ h => h) (Or.inl ⟨by rfl, ?_⟩) (by assumption) ?_
          · (intro w hSw; (try dsimp only [HeldD] at hSw); go_simp)
          try simp only [Act.put, List.setIfInBounds_toArray, List.set_cons_zero, List.set_cons_succ]
          refine wpAnyH_take (i := 4) (oi := { dst := some 35, op := Go.Op.move (Go.Operand.tmp 8), type := 3, pos := "maxflow.go:89", after := #[], guard := none }) (v := .int .i64 (v : Int)) rfl (by kernel_rfl) (by kernel_rfl) (by kernel_rfl) (fun _ _ _ h => h) (Or.inl ⟨by rfl, ?_⟩) (by assumption) ?_
          · (intro w hSw; (try dsimp only [HeldD] at hSw); go_simp)
          try simp only [Act.put, List.setIfInBounds_toArray, List.set_cons_zero, List.set_cons_succ]
          refine wpAnyH_take (i := 5) (oi := { dst := some 36, op := Go.Op.indexAddr 51 (Go.Operand.tmp 34) (Go.Operand.tmp 35), type := 0, pos := "maxflow.go:89", after := #[{ on := 3, ground := Go.Ground.data }, { on := 4, ground := Go.Ground.data }], guard := none }) (v := .pointer (some ⟨sg, v, none⟩)) rfl (by kernel_rfl) (by kernel_rfl) (by kernel_rfl) (fun _ _ _ h => h) (Or.inl ⟨by rfl, ?_⟩) (by assumption) ?_
          · (intro w hSw; (try dsimp only [HeldD] at hSw); go_simp)
          try simp only [Act.put, List.setIfInBounds_toArray, List.set_cons_zero, List.set_cons_succ]
          refine wpAnyH_take (i := 6) (oi := { dst := some 37, op := Go.Op.load 60 (Go.Operand.tmp 36), type := 60, pos := "maxflow.go:89", after := #[{ on := 5, ground := Go.Ground.data }], guard := none }) (v := .slice (some ⟨rb, ro, none⟩) sl rc) rfl (by kernel_rfl) (by kernel_rfl) (by kernel_rfl) (fun _ _ _ h => h) (Or.inl ⟨by rfl, ?_⟩) (by assumption) ?_
          · (intro w hSw; (try dsimp only [HeldD] at hSw); go_simp)
          try simp only [Act.put, List.setIfInBounds_toArray, List.set_cons_zero, List.set_cons_succ]
          refine wpAnyH_take (i := 7) (oi := { dst := some 38, op := Go.Op.move (Go.Operand.tmp 0), type := 45, pos := "maxflow.go:89", after := #[], guard := none }) (v := .pointer (some ⟨p, 0, none⟩)) rfl (by kernel_rfl) (by kernel_rfl) (by kernel_rfl) (fun _ _ _ h => h) (Or.inl ⟨by rfl, ?_⟩) (by assumption) ?_
          · (intro w hSw; (try dsimp only [HeldD] at hSw); go_simp)
          try simp only [Act.put, List.setIfInBounds_toArray, List.set_cons_zero, List.set_cons_succ]
          refine wpAnyH_take (i := 8) (oi := { dst := some 39, op := Go.Op.nilCheck (Go.Operand.tmp 38), type := 0, pos := "maxflow.go:89", after := #[{ on := 7, ground := Go.Ground.data }], guard := none }) (v := .pointer (some ⟨p, 0, none⟩)) rfl (by kernel_rfl) (by kernel_rfl) (by kernel_rfl) (fun _ _ _ h => h) (Or.inl ⟨by rfl, ?_⟩) (by assumption) ?_
          · (intro w hSw; (try dsimp only [HeldD] at hSw); go_simp)
          try simp only [Act.put, List.setIfInBounds_toArray, List.set_cons_zero, List.set_cons_succ]
          refine wpAnyH_take (i := 9) (oi := { dst := some 40, op := Go.Op.fieldAddr 53 (Go.Operand.tmp 39) 4, type := 0, pos := "maxflow.go:89", after := #[{ on := 8, ground := Go.Ground.data }], guard := none }) (v := .pointer (some ⟨p, 6, none⟩)) rfl (by kernel_rfl) (by kernel_rfl) (by kernel_rfl) (fun _ _ _ h => h) (Or.inl ⟨by rfl, ?_⟩) (by assumption) ?_
          · (intro w hSw; (try dsimp only [HeldD] at hSw); go_simp)
          try simp only [Act.put, List.setIfInBounds_toArray, List.set_cons_zero, List.set_cons_succ]
          refine wpAnyH_take (i := 10) (oi := { dst := some 41, op := Go.Op.load 33 (Go.Operand.tmp 40), type := 33, pos := "maxflow.go:89", after := #[{ on := 9, ground := Go.Ground.data }], guard := none }) (v := .slice (some ⟨tb, 0, none⟩) N tc) rfl (by kernel_rfl) (by kernel_rfl) (by kernel_rfl) (fun _ _ _ h => h) (Or.inl ⟨by rfl, ?_⟩) (by assumption) ?_
          · (intro w hSw; (try dsimp only [HeldD] at hSw); go_simp)
          try simp only [Act.put, List.setIfInBounds_toArray, List.set_cons_zero, List.set_cons_succ]
          refine wpAnyH_take (i := 11) (oi := { dst := some 42, op := Go.Op.move (Go.Operand.tmp 8), type := 3, pos := "maxflow.go:89", after := #[], guard := none }) (v := .int .i64 (v : Int)) rfl (by kernel_rfl) (by kernel_rfl) (by kernel_rfl) (fun _ _ _ h => h) (Or.inl ⟨by rfl, ?_⟩) (by assumption) ?_
          · (intro w hSw; (try dsimp only [HeldD] at hSw); go_simp)
          try simp only [Act.put, List.setIfInBounds_toArray, List.set_cons_zero, List.set_cons_succ]
          refine wpAnyH_take (i := 12) (oi := { dst := some 43, op := Go.Op.indexAddr 33 (Go.Operand.tmp 41) (Go.Operand.tmp 42), type := 0, pos := "maxflow.go:89", after := #[{ on := 10, ground := Go.Ground.data }, { on := 11, ground := Go.Ground.data }], guard := none }) (v := .pointer (some ⟨tb, v, none⟩)) rfl (by kernel_rfl) (by kernel_rfl) (by kernel_rfl) (fun _ _ _ h => h) (Or.inl ⟨by rfl, ?_⟩) (by assumption) ?_
          · (intro w hSw; (try dsimp only [HeldD] at hSw); go_simp)
          try simp only [Act.put, List.setIfInBounds_toArray, List.set_cons_zero, List.set_cons_succ]
          refine wpAnyH_take (i := 13) (oi := { dst := some 44, op := Go.Op.load 3 (Go.Operand.tmp 43), type := 3, pos := "maxflow.go:89", after := #[{ on := 12, ground := Go.Ground.data }], guard := none }) (v := .int .i64 (n : Int)) rfl (by kernel_rfl) (by kernel_rfl) (by kernel_rfl) (fun _ _ _ h => h) (Or.inl ⟨by rfl, ?_⟩) (by assumption) ?_
          · (intro w hSw; (try dsimp only [HeldD] at hSw); go_simp)
          try simp only [Act.put, List.setIfInBounds_toArray, List.set_cons_zero, List.set_cons_succ]
          refine wpAnyH_take (i := 14) (oi := { dst := some 45, op := Go.Op.indexAddr 60 (Go.Operand.tmp 37) (Go.Operand.tmp 44), type := 0, pos := "maxflow.go:89", after := #[{ on := 6, ground := Go.Ground.data }, { on := 13, ground := Go.Ground.data }], guard := none }) (v := .pointer (some ⟨rb, ro + n * 2, none⟩)) rfl (by kernel_rfl) (by kernel_rfl) (by kernel_rfl) (fun _ _ _ h => h) (Or.inl ⟨by rfl, ?_⟩) (by assumption) ?_
          · (intro w hSw; (try dsimp only [HeldD] at hSw); go_simp)
          try simp only [Act.put, List.setIfInBounds_toArray, List.set_cons_zero, List.set_cons_succ]
          refine wpAnyH_take (i := 15) (oi := { dst := some 46, op := Go.Op.load 90 (Go.Operand.tmp 45), type := 90, pos := "maxflow.go:89", after := #[{ on := 14, ground := Go.Ground.data }], guard := none }) (v := .agg #[.int .i64 (i : Int), .bool q]) rfl (by kernel_rfl) (by kernel_rfl) (by kernel_rfl) (fun _ _ _ h => h) (Or.inl ⟨by rfl, ?_⟩) (by assumption) ?_
          · (intro w hSw; (try dsimp only [HeldD] at hSw); go_simp)
          try simp only [Act.put, List.setIfInBounds_toArray, List.set_cons_zero, List.set_cons_succ]
          refine wpAnyH_ready (rs := [16]) (by kernel_rfl) (by simp) (AllReadyH.cons (o := { dst := some 9, op := Go.Op.alloc 90, type := 0, pos := "maxflow.go:89", after := #[], guard := none }) rfl (fun K hK => ?_) AllReadyH.nil)
          have b5 := (Below.refl _ wd).alloc (Nat.le_refl _) (.cells #[.int .i64 0, .bool false] 90)
          have n5 := heap_alloc_new wd (.cells #[.int .i64 0, .bool false] 90)
          have n50 := cell_whole n5 0
          have n51 := cell_whole n5 1
          have f50 := frozen_whole n5 0
          have f51 := frozen_whole n5 1
          go_simp
          refine hK.out _ _ (HHD.out.below b5) (fun hHeld => ?_)
          clear hK
          try simp only [Act.put, List.setIfInBounds_toArray, List.set_cons_zero, List.set_cons_succ]
          refine wpAnyH_ready (rs := [17]) (by kernel_rfl) (by simp) (AllReadyH.cons (o := { dst := none, op := Go.Op.store 90 (Go.Operand.tmp 9) (Go.Operand.tmp 46), type := 0, pos := "maxflow.go:89", after := #[{ on := 16, ground := Go.Ground.data }, { on := 15, ground := Go.Ground.data }, { on := 0, ground := Go.Ground.phase }, { on := 1, ground := Go.Ground.phase }, { on := 2, ground := Go.Ground.phase }, { on := 3, ground := Go.Ground.phase }, { on := 4, ground := Go.Ground.phase }, { on := 5, ground := Go.Ground.phase }, { on := 6, ground := Go.Ground.phase }, { on := 7, ground := Go.Ground.phase }, { on := 8, ground := Go.Ground.phase }, { on := 9, ground := Go.Ground.phase }, { on := 10, ground := Go.Ground.phase }, { on := 11, ground := Go.Ground.phase }, { on := 12, ground := Go.Ground.phase }, { on := 13, ground := Go.Ground.phase }, { on := 14, ground := Go.Ground.phase }, { on := 15, ground := Go.Ground.phase }, { on := 16, ground := Go.Ground.phase }], guard := none }) rfl (fun K hK => ?_) AllReadyH.nil)
          go_simp
          have b6 := (Below.refl _ wd).alloc (Nat.le_refl _) (.cells #[.int .i64 (i : Int), .bool q] 90)
          have HB6 := Lib.hid b6
          have HX6 := Lib.hid (heap_alloc_new wd (.cells #[.int .i64 (i : Int), .bool q] 90))
          clear hHeld n50 n51 f50 f51
          refine hK.out _ _ (HHD.out.below b6) (fun hHeld => ?_)
          clear hK b5 b6 n5
          try simp only [Act.put, List.setIfInBounds_toArray, List.set_cons_zero, List.set_cons_succ]
          refine wpAnyH_done (by kernel_rfl) ?_ _
          clear hHeld
          have HW := Lib.hid (HW.out.next HB6.out)
          have HOT := Lib.hid (HOT.out.below HB6.out)
          have HO0 := HO
          have HO := Lib.hid (HO.out.below HB6.out)
          have HK := Lib.hid (HK.out.trans (Kept.of_below (S := fun i => i = tb) HB6.out) (fun i _ e => e))
          obtain ⟨xb, hxb⟩ : ∃ xb, wd.heap.size = xb := ⟨_, rfl⟩
          rw [hxb] at HX6 ⊢
          clear HHD
          generalize wd.alloc (.cells #[.int .i64 (i : Int), .bool q] 90) = w5 at *
          have x0 := cell_whole HX6.out 0
          have x1 := cell_whole HX6.out 1
          have hxl := lt_whole HX6.out
          have HXR : Hid (∀ k, (Value.slice pa P.length pc).ownBlock = some k → w.heap.size ≤ k ∧ k ≠ xb) := Lib.hid (fun k e => ⟨own_block HO0.out e, by have := own_lt HO0.out e; omega⟩)
          clear HO0 hxb
          obtain ⟨u, hu⟩ : ∃ u, toS Z ((i : Int), q) = u := ⟨_, rfl⟩
          have huN : u < N := by rw [← hu]; exact (HA.out.2 i a q HAI.out).1
          have HEND : Hid (endI a q = (u : Int)) := Lib.hid (by rw [← hu]; exact (begI_fromE HAI.out (HA.out.1 a (List.mem_of_getElem? HAI.out)) q).2)
          have HTO := Lib.hid hu
          clear hu
          cases dB
          · have HMB : Hid (muT Z N (T2.set v ((n : Int) + 1)) P < muT Z N T2 P) := Lib.hid (by rw [← HN.out]; exact muT_bump HTI.out hv (by rw [HN.out, HSL.out]; exact hxi) P P (by omega))
            have HT3 : Hid (TI Z N (T2.set v ((n : Int) + 1))) := Lib.hid (by rw [← HN.out]; exact HTI.out.bump hv (by rw [HN.out, HSL.out]; exact hxi))
            have HP3 : Hid (DP Z F L (T2.set v ((n : Int) + 1)) s P v) := Lib.hid (HDP.out.bump _ (by rw [HTI.out.len]; exact hv))
            have HD3 : Hid (DT Z F L N t T → DT Z F L N t (T2.set v ((n : Int) + 1))) := Lib.hid (fun h0 => by rw [← HN.out]; exact (HDT.out h0).bump HTI.out hv HSY.out (dead_no HDB.out))
            go_wp2_with (first
              | (go_at_call 51; refine (xdescends_is p tb sg N b ao cap Z sc tc fo fc F lo lc L T2 i q false _ HW.out HE.out hi HLL.out HLB.out HDB.out).mono ?_; rintro e w6 ⟨rfl, b6⟩; have HW6 := Lib.hid (HW.out.next b6); have HOT6 := Lib.hid (HOT.out.below b6); have HO6 := Lib.hid (HO.out.below b6); have HK6 := Lib.hid (HK.out.trans (Kept.of_below (S := fun i => i = tb) b6) (fun i _ e => e)); obtain ⟨⟨_, _, _, _, _, _, k6⟩, _⟩ := c7Cells HW6.out.box; obtain ⟨ct, cf⟩ := HOT6.out.cell (atI_get (d := T2) (v := v) (by rw [HTI.out.len]; exact hv)); rw [HN.out] at ct; unfold encI at ct; clear b6 x0 x1))
            go_roundg (muT Z N (T2.set v ((n : Int) + 1)) P + 1)
            case measure => have h1 := HMB.out; have h2 := HM2.out; omega
            case rel => exact ⟨T2.set v ((n : Int) + 1), rfl, rfl, Lib.hid (Nat.lt_succ_self _), Lib.hid (by have h1 := HMB.out; have h2 := HMU.out; omega), HT3, HP3, HD3, Lib.hid (HOT6.out.put v _), Lib.hid (HO6.out.keptv ((Kept.refl (fun i => i = tb) w6).set (.inl rfl) _) (fun g hg e => by have e2 : g = tb := e; omega)), Lib.hid (HK6.out.set (.inl rfl) _)⟩
          · have HP3 : Hid (DP Z F L T2 s (P ++ [((i : Int), q)]) u) := Lib.hid (by rw [← HTO.out]; exact HDP.out.push HSY.out HDB.out)
            have HMB : Hid (muT Z N T2 (P ++ [((i : Int), q)]) < muT Z N T2 P) := Lib.hid (muT_push P _ (by omega))
            go_wp2_with (first
              | (go_at_call 51; refine (xdescends_is p tb sg N b ao cap Z sc tc fo fc F lo lc L T2 i q true _ HW.out HE.out hi HLL.out HLB.out HDB.out).mono ?_; rintro e w6 ⟨rfl, b6⟩; have HW6 := Lib.hid (HW.out.next b6); have HOT6 := Lib.hid (HOT.out.below b6); have HO6 := Lib.hid (HO.out.below b6); have HK6 := Lib.hid (HK.out.trans (Kept.of_below (S := fun i => i = tb) b6) (fun i _ e => e)); have HX6 := Lib.hid (kept_box HX6.out b6); have x0 := cell_below b6 x0; have x1 := cell_below b6 x1; have hs6 : w.heap.size ≤ w6.heap.size := HK6.out.size; clear b6)
              | (at_builtin; refine wpList_append_step rfl _ _ rfl w.heap.size _ P ((i : Int), q) rfl (HO6.out.alloc (.cells #[.int .i64 (i : Int), .bool q] 90)) _ 1 rfl (cells2 _ _ _ (by simp) _ _) (by omega) (by simp; omega) ?_; intro g8 cap8 w8 ho8 hg8 hl8 hb8 hlt8; have k68 : Kept (fun i => w.heap.size ≤ i ∧ i ≠ xb) w6 w8 := (((Kept.refl _ w6).alloc (.cells #[.int .i64 (i : Int), .bool q] 90)).trans (Kept.of_grown (S := fun i => w.heap.size ≤ i ∧ i ≠ xb) hg8 (fun k e => HXR.out k e)) (fun i _ h => h)); have HO8 := Lib.hid ho8; have HK8 : Hid (Kept (fun i => i = tb) w w8) := Lib.hid (HK6.out.trans k68 (fun i hi h => by have := h.1; omega)); have HOT8 := Lib.hid (ownL_kept HOT6.out k68 (fun g e h => by simp [Value.ownBlock] at e; have := h.1; omega)); have HX8 := Lib.hid (k68.old HX6.out (fun h => h.2 rfl)); have x0 := cell_whole HX8.out 0; have x1 := cell_whole HX8.out 1; have HW8 := Lib.hid (H.out.keptT HK8.out HOT8.out); obtain ⟨⟨k0, k1, k2, _, _, _, _⟩, _⟩ := c7Cells HW8.out.box; clear ho8 hg8 hl8 k68))
            go_region_held3 (fun W => W.cell? ⟨p, 0, none⟩ = some (.int .i64 (N : Int)) ∧ W.cell? ⟨p, 1, none⟩ = some (.bool b) ∧ W.cell? ⟨p, 2, none⟩ = some (.slice ao Z.length cap) ∧ W.cell? ⟨xb, 0, none⟩ = some (.int .i64 (i : Int)) ∧ W.cell? ⟨xb, 1, none⟩ = some (.bool q)) (first | exact ⟨k0, k1, k2, x0, x1⟩ | exact ⟨z0, z1, z2, z3, z4⟩ | go_keep)
              (first | (go_at_call 52; refine (xend_at (N : Int) b ao cap Z i q a w8.drew HW8.out.drew.arcs HAI.out hz).mono ?_; rintro e w9 ⟨rfl, b9⟩; rw [HEND.out]; have z0 := cell_below (w := w8.drew) b9 k0; have z1 := cell_below (w := w8.drew) b9 k1; have z2 := cell_below (w := w8.drew) b9 k2; have z3 := cell_below (w := w8.drew) b9 x0; have z4 := cell_below (w := w8.drew) b9 x1; have HB9 := Lib.hid ((below_drew (Below.refl w8.heap.size w8)).trans b9); clear b9))
            all_goals
              go_wp2
              go_roundg (muT Z N T2 (P ++ [((i : Int), q)]) + 1)
              case measure => have h1 := HMB.out; have h2 := HMU.out; omega
              case rel => exact ⟨u, P ++ [((i : Int), q)], T2, rfl, huN, Lib.hid (Nat.lt_succ_self _), HTI, HP3, HDT, Lib.hid (HOT8.out.below HB9.out), Lib.hid (HO8.out.below HB9.out), Lib.hid (HK8.out.trans (Kept.of_below (S := fun i => i = tb) HB9.out) (fun i _ e => e))⟩
        · have hxi : ¬ (n : Int) < ((stepsU Z v).length : Int) := by omega
          have HSH : Hid (DT Z F L N t T → Shut Z F L t v) := Lib.hid (fun h0 => (HDT.out h0).shut hv (by rw [HN.out]; exact hxi) hvt)
          obtain ⟨sl, hsle⟩ : ∃ sl, (stepsU Z v).length = sl := ⟨_, rfl⟩
          rw [hsle] at hd hx hxi hsl hbd
          clear hrow hoff hsle
          by_cases hvs : v = s
          · have hvsi : ((v : Int) == (s : Int)) = true := by simp [hvs]
            have HVS := Lib.hid hvs
            clear hvs
            go_wp2_with fail
            go_quiet (fail)
            go_wp2
            try rw [Exit.noGoto_ret]
            refine bodyPost_ret (v := .tuple #[.slice none 0 0, .bool false]) (by simp [results, Tryz.results35, go_sem]) rfl ?_
            exact ⟨T2, HTI.out, HW.out.drewN nq, HK.out.drewN nq, .inr ⟨rfl, by rw [← HVS.out]; exact HSH.out⟩⟩
          · have hvsi : ((v : Int) == (s : Int)) = false := by simp; omega
            obtain ⟨Q, y, hPQ⟩ : ∃ Q y, P = Q ++ [y] := by
              rcases List.eq_nil_or_concat P with h | ⟨Q, y, h⟩
              · subst h
                exact absurd HDP.out.walk.symm hvs
              · exact ⟨Q, y, by simpa using h⟩
            subst hPQ
            obtain ⟨hp1, hp2, hp3⟩ := HDP.out.pop
            obtain ⟨ya, yd⟩ := HDP.out.all y (by simp)
            obtain ⟨yi, q⟩ := y
            obtain ⟨i, rfl, hi⟩ := isArc_nat ya
            have hai : Z[i]? = some Z[i] := List.getElem?_eq_getElem hi
            obtain ⟨u, hu⟩ : ∃ u, fromS Z ((i : Int), q) = u := ⟨_, rfl⟩
            have huN : u < N := by rw [← hu]; exact (HA.out.2 i Z[i] q hai).2
            have HBEG : Hid (begI Z[i] q = (u : Int)) := Lib.hid (by rw [← hu]; exact (begI_fromE hai (HA.out.1 _ (List.getElem_mem hi)) q).1)
            have HAI := Lib.hid hai
            generalize Z[i] = a at *
            rw [hu] at hp1 hp3
            obtain ⟨g, c, e, hg1, hg2, hg3, hg4⟩ := HO.out.form (by simp)
            have hO := HO.out
            rw [e] at hO
            injection e with e1 e2 e3
            subst e1
            subst e3
            obtain ⟨⟨y0, y1⟩, _⟩ := OwnS.cell hO (j := Q.length) (x := ((i : Int), q)) (by simp)
            rw [List.length_append, List.length_singleton] at hPl hg3
            have hOQ := hO.init
            have HOQ := Lib.hid hOQ
            obtain ⟨m, hm⟩ : ∃ m : Nat, atI T2 u = (m : Int) := ⟨(atI T2 u).toNat, by have := (HTI.out.bd u huN).1; omega⟩
            have hml : m < (stepsU Z u).length := by
              have h1 := (List.getElem?_eq_some_iff.1 hp3).1
              rw [hm, Int.toNat_natCast] at h1
              exact h1
            have hsl2 := stepsU_len Z u
            have hmb : m ≤ 400 := by omega
            have HM := Lib.hid hm
            have hTl : atI T2 u < ((stepsU Z u).length : Int) := by rw [hm]; omega
            have HMB : Hid (muT Z N (T2.set u ((m : Int) + 1)) Q < muT Z N T2 (Q ++ [((i : Int), q)])) := Lib.hid (by rw [← hm]; exact muT_bump HTI.out huN hTl _ _ (by simp))
            have HT3 : Hid (TI Z N (T2.set u ((m : Int) + 1))) := Lib.hid (by rw [← hm]; exact HTI.out.bump huN hTl)
            have HP3 : Hid (DP Z F L (T2.set u ((m : Int) + 1)) s Q u) := Lib.hid (hp1.bump _ (by rw [HTI.out.len]; exact huN))
            have HD3 : Hid (DT Z F L N t T → DT Z F L N t (T2.set u ((m : Int) + 1))) := Lib.hid (fun h0 => by rw [← hm]; exact (HDT.out h0).bump HTI.out huN hp3 (shut_dead (by rw [hp2]; exact HSH.out h0)))
            have hQi : (Q.length : Int) < ((Q.length + 1 : Nat) : Int) := by omega
            have huNi : (u : Int) < (N : Int) := by omega
            rw [show (Q ++ [((i : Int), q)]).length = Q.length + 1 by simp]
            clear hp1 hp2 hp3 ya yd hu hai hO hOQ hm hml hsl2 hTl e2
            go_wp2_with fail
            go_quiet (fail)
            have HW := Lib.hid (HW.out.drewN nq)
            have HOT := Lib.hid (HOT.out.below (below_drewN (Below.refl _ wr) nq))
            have HOQ := Lib.hid (HOQ.out.below (below_drewN (Below.refl _ wr) nq))
            have HK := Lib.hid (HK.out.drewN nq)
            have k0 : (wr.drewN nq).cell? ⟨p, 0, none⟩ = _ := k0
            have k1 : (wr.drewN nq).cell? ⟨p, 1, none⟩ = _ := k1
            have k2 : (wr.drewN nq).cell? ⟨p, 2, none⟩ = _ := k2
            have y0 : (wr.drewN nq).cell? ⟨g, Q.length * 2, none⟩ = _ := y0
            have y1 : (wr.drewN nq).cell? ⟨g, Q.length * 2 + 1, none⟩ = _ := y1
            clear k3 k4 k5 k6 ct cf hd HO
            go_wp2_with fail
            generalize wr.drewN nq = wd at *
            obtain ⟨qm, hqm⟩ : ∃ qm, Q.length + 1 = qm := ⟨_, rfl⟩
            have HQM := Lib.hid hqm
            have hQm : (Q.length : Int) < (qm : Int) := by omega
            have hQ0 : (0 : Int) ≤ (Q.length : Int) := by omega
            rw [hqm]
            clear hqm hQi
            go_region_held3 (fun W => W.cell? ⟨p, 0, none⟩ = some (.int .i64 (N : Int)) ∧ W.cell? ⟨p, 1, none⟩ = some (.bool b) ∧ W.cell? ⟨p, 2, none⟩ = some (.slice ao Z.length cap) ∧ W.cell? ⟨g, Q.length * 2, none⟩ = some (.int .i64 (i : Int)) ∧ W.cell? ⟨g, Q.length * 2 + 1, none⟩ = some (.bool q)) (first | exact ⟨k0, k1, k2, y0, y1⟩ | exact ⟨z0, z1, z2, z3, z4⟩ | go_keep)
              (first | (go_at_call 50; refine (xbegin_at (N : Int) b ao cap Z i q a wd.drew HW.out.drew.arcs HAI.out hz).mono ?_; rintro e w9 ⟨rfl, b9⟩; rw [HBEG.out]; have z0 := cell_below (w := wd.drew) b9 k0; have z1 := cell_below (w := wd.drew) b9 k1; have z2 := cell_below (w := wd.drew) b9 k2; have z3 := cell_below (w := wd.drew) b9 y0; have z4 := cell_below (w := wd.drew) b9 y1; have HB9 := Lib.hid ((below_drew (Below.refl wd.heap.size wd)).trans b9); clear b9))
            all_goals
              have hqm := HQM.out
              subst hqm
              have hQi : (Q.length : Int) < ((Q.length + 1 : Nat) : Int) := by omega
              have HW9 := Lib.hid (HW.out.next HB9.out)
              have HOT9 := Lib.hid (HOT.out.below HB9.out)
              have HO9 := Lib.hid (HOQ.out.below HB9.out)
              have HK9 := Lib.hid (HK.out.trans (Kept.of_below (S := fun i => i = tb) HB9.out) (fun i _ e => e))
              obtain ⟨⟨_, _, _, _, _, _, k6⟩, _⟩ := c7Cells HW9.out.box
              obtain ⟨ct, cf⟩ := HOT9.out.cell (atI_get (d := T2) (v := u) (by rw [HTI.out.len]; exact huN))
              rw [HM.out] at ct
              unfold encI at ct
              go_wp2
              go_roundg (muT Z N (T2.set u ((m : Int) + 1)) Q + 1)
              case measure => have h1 := HMB.out; have h2 := HMU.out; omega
              case rel => exact ⟨u, Q, T2.set u ((m : Int) + 1), rfl, huN, Lib.hid (Nat.lt_succ_self _), HT3, HP3, HD3, Lib.hid (HOT9.out.put u _), Lib.hid (HO9.out.keptv ((Kept.refl (fun i => i = tb) w9).set (.inl rfl) _) (fun g hg e => by have e2 : g = tb := e; omega)), Lib.hid (HK9.out.set (.inl rfl) _)⟩
end
end Go.Proofs.YtbgnoaijgngifaaGreat
