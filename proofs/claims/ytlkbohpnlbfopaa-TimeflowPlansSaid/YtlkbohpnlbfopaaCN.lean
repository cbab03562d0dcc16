/- Lemmas of the layers below, several texts in one. -/
import Derived.Test.YtlkbohpnlbfopaaCM
import Derived.Deep.LoopGhost
import Derived.Deep.DeepCutAuto
import Derived.Test.YtlkbohpnlbfopaaBP
namespace Go.Proofs.Ytlkbohpnlbfopaa
open Go.RowKit
set_option linter.unusedVariables false
section
variable (K p eb sg N : Nat) (b : Bool) (ao : Option Addr) (cap : Nat) (Z : List ArcT) (sc fb fc : Nat) (F : List Int) (lb lc : Nat) (L : List Int) (tb tc : Nat) (T : List Int)
set_option maxRecDepth 100000 in
set_option maxHeartbeats 4000000 in
theorem fdescends_at (i : Nat) (q : Bool) (w : World) (h : SolW w K p eb sg N b ao cap Z sc fb fc F lb lc L tb tc T) (hW : WideNet Z N) (hF : Flow Z F) (hi : i < Z.length) (hlb : ∀ v, v < N → -1 ≤ atI L v ∧ atI L v < (N : Int)) :
    Calls Try.prog 62 #[.pointer (some ⟨p, 0, none⟩), .agg #[.int .i64 (i : Int), .bool q]] w fun e w' => e = .returned (.bool (descB Z F L ((i : Int), q))) ∧ Below w.heap.size w w' := by
  obtain ⟨_, huN, hvN⟩ := hW.arc hi q
  have hNl := hW.nodes
  obtain ⟨u, hu⟩ : ∃ u, fromS Z ((i : Int), q) = u := ⟨_, rfl⟩
  obtain ⟨v, hv⟩ : ∃ v, toS Z ((i : Int), q) = v := ⟨_, rfl⟩
  obtain ⟨r, hr⟩ : ∃ r, leftS Z F ((i : Int), q) = r := ⟨_, rfl⟩
  rw [hu] at huN
  rw [hv] at hvN
  have hub := hlb u huN
  have hvb := hlb v hvN
  have hLl := h.lens.2.1
  obtain ⟨du, _⟩ := h.levs.cell (atI_get (d := L) (v := u) (by omega))
  obtain ⟨dv, _⟩ := h.levs.cell (atI_get (d := L) (v := v) (by omega))
  have hD : descB Z F L ((i : Int), q) = decide (0 < r ∧ atI L v = atI L u + 1) := by unfold descB; rw [hu, hv, hr]
  rw [hD]
  generalize atI L u = x at *
  generalize atI L v = y at *
  unfold encI at du dv
  obtain ⟨k0, _, k2, _⟩ := h.cells
  have hui : (u : Int) < (N : Int) := by omega
  have hvi : (v : Int) < (N : Int) := by omega
  have H := Lib.hid (h.alloc (.cells #[.int .i64 (i : Int), .bool q] 93))
  have HW := Lib.hid hW
  have HFF := Lib.hid hF
  have HU := Lib.hid hu
  have HV := Lib.hid hv
  have HRR := Lib.hid hr
  have HB := Lib.hid ((Below.refl _ w).alloc (Nat.le_refl _) (.cells #[.int .i64 (i : Int), .bool q] 93))
  have k0 := cell_alloc k0 (.cells #[.int .i64 (i : Int), .bool q] 93)
  have k2 := cell_alloc k2 (.cells #[.int .i64 (i : Int), .bool q] 93)
  have du := cell_alloc du (.cells #[.int .i64 (i : Int), .bool q] 93)
  have dv := cell_alloc dv (.cells #[.int .i64 (i : Int), .bool q] 93)
  have s0 := cell_new w #[.int .i64 (i : Int), .bool q] 93 0
  have s1 := cell_new w #[.int .i64 (i : Int), .bool q] 93 1
  clear h hW hF hu hv hr hlb hD hLl
  by_cases h0 : 0 < r
  · have hg : decide (0 < r) = true := by simpa using h0
    have hdd : decide (0 < r ∧ y = x + 1) = (y == x + 1) := by
      by_cases e : y = x + 1 <;> simp [h0, e]
    have HDD := Lib.hid hdd
    have HW1 : Hid (IntKind.i64.wrap (x + 1) = x + 1) := Lib.hid (by rw [IntKind.wrap_i64]; omega)
    clear hdd
    go_enter Try.func62, Try.ntmps62
    go_wp2_with fail
    generalize hw1 : w.alloc (.cells #[.int .i64 (i : Int), .bool q] 93) = w1 at *
    go_region_held3 (fun W => W.cell? ⟨p, 0, none⟩ = some (.pointer (some ⟨eb, 0, none⟩)) ∧ W.cell? ⟨p, 2, none⟩ = some (.slice (some ⟨lb, 0, none⟩) N lc) ∧ W.cell? ⟨w.heap.size, 0, none⟩ = some (.int .i64 (i : Int)) ∧ W.cell? ⟨w.heap.size, 1, none⟩ = some (.bool q) ∧ W.cell? ⟨lb, u, none⟩ = some (.int .i64 x) ∧ W.cell? ⟨lb, v, none⟩ = some (.int .i64 y)) (first | exact ⟨k0, k2, s0, s1, du, dv⟩ | exact ⟨z0, z2, t0, t1, eu, ev⟩ | go_keep)
      (first
        | (go_at_call 48; refine (froom_is K p eb sg N b ao cap Z sc fb fc F lb lc L tb tc T i q r w1.drew H.out.drew HW.out HFF.out hi HRR.out).mono ?_; rintro e w6 ⟨rfl, b6⟩; have HZ := Lib.hid ((H.out.drew.next b6).ex.beg); have HBW := Lib.hid ((below_drew HB.out).trans (b6.mono (by have := HB.out.size; simpa using this))); have z0 := cell_below (w := w1.drew) b6 k0; have z2 := cell_below (w := w1.drew) b6 k2; have t0 := cell_below (w := w1.drew) b6 s0; have t1 := cell_below (w := w1.drew) b6 s1; have eu := cell_below (w := w1.drew) b6 du; have ev := cell_below (w := w1.drew) b6 dv; clear b6)
        | (go_at_call 47; refine (fend_is eb N ao cap Z i q v _ HZ.out HW.out hi HV.out).mono ?_; rintro e w7 ⟨rfl, b7⟩; have HZ := Lib.hid (HZ.out.next b7); have HBW := Lib.hid (HBW.out.trans (b7.mono HBW.out.size)); have z0 := cell_below b7 z0; have z2 := cell_below b7 z2; have t0 := cell_below b7 t0; have t1 := cell_below b7 t1; have eu := cell_below b7 eu; have ev := cell_below b7 ev; clear b7)
        | (go_at_call 33; refine (fbegin_is eb N ao cap Z i q u _ HZ.out HW.out hi HU.out).mono ?_; rintro e w8 ⟨rfl, b8⟩; have HZ := Lib.hid (HZ.out.next b8); have HBW := Lib.hid (HBW.out.trans (b8.mono HBW.out.size)); have z0 := cell_below b8 z0; have z2 := cell_below b8 z2; have t0 := cell_below b8 t0; have t1 := cell_below b8 t1; have eu := cell_below b8 eu; have ev := cell_below b8 ev; clear b8))
    all_goals
      go_wp2
      go_ret
      exact ⟨ret_bool (by rw [HDD.out, HW1.out]), HBW.out⟩
  · have hg : decide (0 < r) = false := by simpa using h0
    have HDD : Hid (decide (0 < r ∧ y = x + 1) = false) := Lib.hid (by simp [h0])
    have HCALL := Lib.hid (froom_is K p eb sg N b ao cap Z sc fb fc F lb lc L tb tc T i q r (w.alloc (.cells #[.int .i64 (i : Int), .bool q] 93)).drew H.out.drew HW.out HFF.out hi HRR.out)
    go_enter Try.func62, Try.ntmps62
    go_wp2_with fail
    generalize hw1 : w.alloc (.cells #[.int .i64 (i : Int), .bool q] 93) = w1 at *
    refine wp_region_held_drew (S := fun W => W.cell? ⟨w.heap.size, 0, none⟩ = some (.int .i64 (i : Int)) ∧ W.cell? ⟨w.heap.size, 1, none⟩ = some (.bool q)) (by kernel_rfl) ⟨s0, s1⟩ (fun hHeld => ?_)
    refine wpAnyH_take (i := 0) (oi := { dst := some 5, op := Go.Op.move (Go.Operand.tmp 0), type := 61, pos := "timeflow.go:121", after := #[], guard := none }) (v := .pointer (some ⟨p, 0, none⟩)) rfl (by kernel_rfl) (by kernel_rfl) (by kernel_rfl) (fun _ _ _ h => h) (Or.inl ⟨by rfl, ?_⟩) (by assumption) ?_
    · (intro w hSw; (try dsimp only at hSw); go_simp)
    try simp only [Act.put, List.setIfInBounds_toArray, List.set_cons_zero, List.set_cons_succ]
    refine wpAnyH_take (i := 1) (oi := { dst := some 6, op := Go.Op.load 93 (Go.Operand.tmp 3), type := 93, pos := "timeflow.go:121", after := #[], guard := none }) (v := .agg #[.int .i64 (i : Int), .bool q]) rfl (by kernel_rfl) (by kernel_rfl) (by kernel_rfl) (fun _ _ _ h => h) (Or.inl ⟨by rfl, ?_⟩) (by assumption) ?_
    · (intro w hSw; (try dsimp only at hSw); go_simp)
    try simp only [Act.put, List.setIfInBounds_toArray, List.set_cons_zero, List.set_cons_succ]
    refine wpAnyH_ready (rs := [2]) (by kernel_rfl) (by simp) (AllReadyH.cons (o := { dst := some 7, op := Go.Op.call { callee := Go.Callee.value (Go.Operand.func 48), args := #[Go.Operand.tmp 5, Go.Operand.tmp 6], argTypes := #[61, 93] }, type := 3, pos := "timeflow.go:121", after := #[{ on := 0, ground := Go.Ground.data }, { on := 1, ground := Go.Ground.data }], guard := none }) rfl (fun KQ hK => ?_) (AllReadyH.nil))
    go_simp
    refine HCALL.out.mono ?_
    rintro e w7 ⟨rfl, b7⟩
    have hn7 : w7.cell? ⟨w.heap.size, 0, none⟩ = some (.int .i64 (i : Int)) ∧ w7.cell? ⟨w.heap.size, 1, none⟩ = some (.bool q) := ⟨cell_below (w := w1.drew) b7 s0, cell_below (w := w1.drew) b7 s1⟩
    have HB7 := Lib.hid ((below_drew HB.out).trans (b7.mono (by have := HB.out.size; simpa using this)))
    clear b7 hHeld
    go_wp2_with fail
    refine hK.out _ _ hn7 (fun hHeld => ?_)
    clear hK
    try simp only [Act.put, List.setIfInBounds_toArray, List.set_cons_zero, List.set_cons_succ]
    refine wpAnyH_take (i := 3) (oi := { dst := some 8, op := Go.Op.binOp Go.BinOp.gtr 3 (Go.Operand.tmp 7) (Go.Operand.const (Go.Value.int Go.IntKind.i64 0)) 3, type := 4, pos := "timeflow.go:121", after := #[{ on := 2, ground := Go.Ground.data }], guard := none }) (v := .bool false) rfl (by kernel_rfl) (by kernel_rfl) (by kernel_rfl) (fun _ _ _ h => h) (Or.inl ⟨by rfl, ?_⟩) (by assumption) ?_
    · (intro w hSw; (try dsimp only at hSw); go_simp)
    try simp only [Act.put, List.setIfInBounds_toArray, List.set_cons_zero, List.set_cons_succ]
    refine wpAnyH_take (i := 4) (oi := { dst := some 9, op := Go.Op.move (Go.Operand.tmp 8), type := 4, pos := "timeflow.go:121", after := #[{ on := 3, ground := Go.Ground.data }, { on := 2, ground := Go.Ground.chain }], guard := none }) (v := .bool false) rfl (by kernel_rfl) (by kernel_rfl) (by kernel_rfl) (fun _ _ _ h => h) (Or.inl ⟨by rfl, ?_⟩) (by assumption) ?_
    · (intro w hSw; (try dsimp only at hSw); go_simp)
    try simp only [Act.put, List.setIfInBounds_toArray, List.set_cons_zero, List.set_cons_succ]
    refine wpAnyH_take (i := 5) (oi := { dst := some 10, op := Go.Op.move (Go.Operand.tmp 0), type := 61, pos := "timeflow.go:121", after := #[{ on := 4, ground := Go.Ground.guard }], guard := some (4, true) }) (v := undef) rfl (by kernel_rfl) (by kernel_rfl) (by kernel_rfl) (fun _ _ _ h => h) (Or.inr ⟨by simp [Region.wanted, yielded], rfl⟩) (by assumption) ?_
    try simp only [Act.put, List.setIfInBounds_toArray, List.set_cons_zero, List.set_cons_succ]
    refine wpAnyH_take (i := 6) (oi := { dst := some 11, op := Go.Op.nilCheck (Go.Operand.tmp 10), type := 0, pos := "timeflow.go:121", after := #[{ on := 5, ground := Go.Ground.data }, { on := 4, ground := Go.Ground.guard }], guard := some (4, true) }) (v := undef) rfl (by kernel_rfl) (by kernel_rfl) (by kernel_rfl) (fun _ _ _ h => h) (Or.inr ⟨by simp [Region.wanted, yielded], rfl⟩) (by assumption) ?_
    try simp only [Act.put, List.setIfInBounds_toArray, List.set_cons_zero, List.set_cons_succ]
    refine wpAnyH_take (i := 7) (oi := { dst := some 12, op := Go.Op.fieldAddr 67 (Go.Operand.tmp 11) 2, type := 0, pos := "timeflow.go:121", after := #[{ on := 6, ground := Go.Ground.data }, { on := 4, ground := Go.Ground.guard }], guard := some (4, true) }) (v := undef) rfl (by kernel_rfl) (by kernel_rfl) (by kernel_rfl) (fun _ _ _ h => h) (Or.inr ⟨by simp [Region.wanted, yielded], rfl⟩) (by assumption) ?_
    try simp only [Act.put, List.setIfInBounds_toArray, List.set_cons_zero, List.set_cons_succ]
    refine wpAnyH_take (i := 8) (oi := { dst := some 13, op := Go.Op.load 65 (Go.Operand.tmp 12), type := 65, pos := "timeflow.go:121", after := #[{ on := 7, ground := Go.Ground.data }, { on := 4, ground := Go.Ground.guard }], guard := some (4, true) }) (v := undef) rfl (by kernel_rfl) (by kernel_rfl) (by kernel_rfl) (fun _ _ _ h => h) (Or.inr ⟨by simp [Region.wanted, yielded], rfl⟩) (by assumption) ?_
    try simp only [Act.put, List.setIfInBounds_toArray, List.set_cons_zero, List.set_cons_succ]
    refine wpAnyH_take (i := 9) (oi := { dst := some 14, op := Go.Op.move (Go.Operand.tmp 0), type := 61, pos := "timeflow.go:121", after := #[{ on := 4, ground := Go.Ground.guard }], guard := some (4, true) }) (v := undef) rfl (by kernel_rfl) (by kernel_rfl) (by kernel_rfl) (fun _ _ _ h => h) (Or.inr ⟨by simp [Region.wanted, yielded], rfl⟩) (by assumption) ?_
    try simp only [Act.put, List.setIfInBounds_toArray, List.set_cons_zero, List.set_cons_succ]
    refine wpAnyH_take (i := 10) (oi := { dst := some 15, op := Go.Op.nilCheck (Go.Operand.tmp 14), type := 0, pos := "timeflow.go:121", after := #[{ on := 9, ground := Go.Ground.data }, { on := 4, ground := Go.Ground.guard }], guard := some (4, true) }) (v := undef) rfl (by kernel_rfl) (by kernel_rfl) (by kernel_rfl) (fun _ _ _ h => h) (Or.inr ⟨by simp [Region.wanted, yielded], rfl⟩) (by assumption) ?_
    try simp only [Act.put, List.setIfInBounds_toArray, List.set_cons_zero, List.set_cons_succ]
    refine wpAnyH_take (i := 11) (oi := { dst := some 16, op := Go.Op.fieldAddr 67 (Go.Operand.tmp 15) 0, type := 0, pos := "timeflow.go:121", after := #[{ on := 10, ground := Go.Ground.data }, { on := 4, ground := Go.Ground.guard }], guard := some (4, true) }) (v := undef) rfl (by kernel_rfl) (by kernel_rfl) (by kernel_rfl) (fun _ _ _ h => h) (Or.inr ⟨by simp [Region.wanted, yielded], rfl⟩) (by assumption) ?_
    try simp only [Act.put, List.setIfInBounds_toArray, List.set_cons_zero, List.set_cons_succ]
    refine wpAnyH_take (i := 12) (oi := { dst := some 17, op := Go.Op.load 58 (Go.Operand.tmp 16), type := 58, pos := "timeflow.go:121", after := #[{ on := 11, ground := Go.Ground.data }, { on := 4, ground := Go.Ground.guard }], guard := some (4, true) }) (v := undef) rfl (by kernel_rfl) (by kernel_rfl) (by kernel_rfl) (fun _ _ _ h => h) (Or.inr ⟨by simp [Region.wanted, yielded], rfl⟩) (by assumption) ?_
    try simp only [Act.put, List.setIfInBounds_toArray, List.set_cons_zero, List.set_cons_succ]
    refine wpAnyH_take (i := 13) (oi := { dst := some 18, op := Go.Op.load 93 (Go.Operand.tmp 3), type := 93, pos := "timeflow.go:121", after := #[{ on := 4, ground := Go.Ground.guard }], guard := some (4, true) }) (v := undef) rfl (by kernel_rfl) (by kernel_rfl) (by kernel_rfl) (fun _ _ _ h => h) (Or.inr ⟨by simp [Region.wanted, yielded], rfl⟩) (by assumption) ?_
    try simp only [Act.put, List.setIfInBounds_toArray, List.set_cons_zero, List.set_cons_succ]
    refine wpAnyH_take (i := 14) (oi := { dst := some 19, op := Go.Op.call { callee := Go.Callee.value (Go.Operand.func 47), args := #[Go.Operand.tmp 17, Go.Operand.tmp 18], argTypes := #[58, 93] }, type := 3, pos := "timeflow.go:121", after := #[{ on := 12, ground := Go.Ground.data }, { on := 13, ground := Go.Ground.data }, { on := 4, ground := Go.Ground.chain }, { on := 4, ground := Go.Ground.guard }], guard := some (4, true) }) (v := undef) rfl (by kernel_rfl) (by kernel_rfl) (by kernel_rfl) (fun _ _ _ h => h) (Or.inr ⟨by simp [Region.wanted, yielded], rfl⟩) (by assumption) ?_
    try simp only [Act.put, List.setIfInBounds_toArray, List.set_cons_zero, List.set_cons_succ]
    refine wpAnyH_take (i := 15) (oi := { dst := some 20, op := Go.Op.indexAddr 65 (Go.Operand.tmp 13) (Go.Operand.tmp 19), type := 0, pos := "timeflow.go:121", after := #[{ on := 8, ground := Go.Ground.data }, { on := 14, ground := Go.Ground.data }, { on := 4, ground := Go.Ground.guard }], guard := some (4, true) }) (v := undef) rfl (by kernel_rfl) (by kernel_rfl) (by kernel_rfl) (fun _ _ _ h => h) (Or.inr ⟨by simp [Region.wanted, yielded], rfl⟩) (by assumption) ?_
    try simp only [Act.put, List.setIfInBounds_toArray, List.set_cons_zero, List.set_cons_succ]
    refine wpAnyH_take (i := 16) (oi := { dst := some 21, op := Go.Op.load 3 (Go.Operand.tmp 20), type := 3, pos := "timeflow.go:121", after := #[{ on := 15, ground := Go.Ground.data }, { on := 4, ground := Go.Ground.guard }], guard := some (4, true) }) (v := undef) rfl (by kernel_rfl) (by kernel_rfl) (by kernel_rfl) (fun _ _ _ h => h) (Or.inr ⟨by simp [Region.wanted, yielded], rfl⟩) (by assumption) ?_
    try simp only [Act.put, List.setIfInBounds_toArray, List.set_cons_zero, List.set_cons_succ]
    refine wpAnyH_take (i := 17) (oi := { dst := some 22, op := Go.Op.move (Go.Operand.tmp 0), type := 61, pos := "timeflow.go:121", after := #[{ on := 4, ground := Go.Ground.guard }], guard := some (4, true) }) (v := undef) rfl (by kernel_rfl) (by kernel_rfl) (by kernel_rfl) (fun _ _ _ h => h) (Or.inr ⟨by simp [Region.wanted, yielded], rfl⟩) (by assumption) ?_
    try simp only [Act.put, List.setIfInBounds_toArray, List.set_cons_zero, List.set_cons_succ]
    refine wpAnyH_take (i := 18) (oi := { dst := some 23, op := Go.Op.nilCheck (Go.Operand.tmp 22), type := 0, pos := "timeflow.go:121", after := #[{ on := 17, ground := Go.Ground.data }, { on := 4, ground := Go.Ground.guard }], guard := some (4, true) }) (v := undef) rfl (by kernel_rfl) (by kernel_rfl) (by kernel_rfl) (fun _ _ _ h => h) (Or.inr ⟨by simp [Region.wanted, yielded], rfl⟩) (by assumption) ?_
    try simp only [Act.put, List.setIfInBounds_toArray, List.set_cons_zero, List.set_cons_succ]
    refine wpAnyH_take (i := 19) (oi := { dst := some 24, op := Go.Op.fieldAddr 67 (Go.Operand.tmp 23) 2, type := 0, pos := "timeflow.go:121", after := #[{ on := 18, ground := Go.Ground.data }, { on := 4, ground := Go.Ground.guard }], guard := some (4, true) }) (v := undef) rfl (by kernel_rfl) (by kernel_rfl) (by kernel_rfl) (fun _ _ _ h => h) (Or.inr ⟨by simp [Region.wanted, yielded], rfl⟩) (by assumption) ?_
    try simp only [Act.put, List.setIfInBounds_toArray, List.set_cons_zero, List.set_cons_succ]
    refine wpAnyH_take (i := 20) (oi := { dst := some 25, op := Go.Op.load 65 (Go.Operand.tmp 24), type := 65, pos := "timeflow.go:121", after := #[{ on := 19, ground := Go.Ground.data }, { on := 4, ground := Go.Ground.guard }], guard := some (4, true) }) (v := undef) rfl (by kernel_rfl) (by kernel_rfl) (by kernel_rfl) (fun _ _ _ h => h) (Or.inr ⟨by simp [Region.wanted, yielded], rfl⟩) (by assumption) ?_
    try simp only [Act.put, List.setIfInBounds_toArray, List.set_cons_zero, List.set_cons_succ]
    refine wpAnyH_take (i := 21) (oi := { dst := some 26, op := Go.Op.move (Go.Operand.tmp 0), type := 61, pos := "timeflow.go:121", after := #[{ on := 4, ground := Go.Ground.guard }], guard := some (4, true) }) (v := undef) rfl (by kernel_rfl) (by kernel_rfl) (by kernel_rfl) (fun _ _ _ h => h) (Or.inr ⟨by simp [Region.wanted, yielded], rfl⟩) (by assumption) ?_
    try simp only [Act.put, List.setIfInBounds_toArray, List.set_cons_zero, List.set_cons_succ]
    refine wpAnyH_take (i := 22) (oi := { dst := some 27, op := Go.Op.nilCheck (Go.Operand.tmp 26), type := 0, pos := "timeflow.go:121", after := #[{ on := 21, ground := Go.Ground.data }, { on := 4, ground := Go.Ground.guard }], guard := some (4, true) }) (v := undef) rfl (by kernel_rfl) (by kernel_rfl) (by kernel_rfl) (fun _ _ _ h => h) (Or.inr ⟨by simp [Region.wanted, yielded], rfl⟩) (by assumption) ?_
    try simp only [Act.put, List.setIfInBounds_toArray, List.set_cons_zero, List.set_cons_succ]
    refine wpAnyH_take (i := 23) (oi := { dst := some 28, op := Go.Op.fieldAddr 67 (Go.Operand.tmp 27) 0, type := 0, pos := "timeflow.go:121", after := #[{ on := 22, ground := Go.Ground.data }, { on := 4, ground := Go.Ground.guard }], guard := some (4, true) }) (v := undef) rfl (by kernel_rfl) (by kernel_rfl) (by kernel_rfl) (fun _ _ _ h => h) (Or.inr ⟨by simp [Region.wanted, yielded], rfl⟩) (by assumption) ?_
    try simp only [Act.put, List.setIfInBounds_toArray, List.set_cons_zero, List.set_cons_succ]
    refine wpAnyH_take (i := 24) (oi := { dst := some 29, op := Go.Op.load 58 (Go.Operand.tmp 28), type := 58, pos := "timeflow.go:121", after := #[{ on := 23, ground := Go.Ground.data }, { on := 4, ground := Go.Ground.guard }], guard := some (4, true) }) (v := undef) rfl (by kernel_rfl) (by kernel_rfl) (by kernel_rfl) (fun _ _ _ h => h) (Or.inr ⟨by simp [Region.wanted, yielded], rfl⟩) (by assumption) ?_
    try simp only [Act.put, List.setIfInBounds_toArray, List.set_cons_zero, List.set_cons_succ]
    refine wpAnyH_take (i := 25) (oi := { dst := some 30, op := Go.Op.load 93 (Go.Operand.tmp 3), type := 93, pos := "timeflow.go:121", after := #[{ on := 4, ground := Go.Ground.guard }], guard := some (4, true) }) (v := undef) rfl (by kernel_rfl) (by kernel_rfl) (by kernel_rfl) (fun _ _ _ h => h) (Or.inr ⟨by simp [Region.wanted, yielded], rfl⟩) (by assumption) ?_
    try simp only [Act.put, List.setIfInBounds_toArray, List.set_cons_zero, List.set_cons_succ]
    refine wpAnyH_take (i := 26) (oi := { dst := some 31, op := Go.Op.call { callee := Go.Callee.value (Go.Operand.func 33), args := #[Go.Operand.tmp 29, Go.Operand.tmp 30], argTypes := #[58, 93] }, type := 3, pos := "timeflow.go:121", after := #[{ on := 24, ground := Go.Ground.data }, { on := 25, ground := Go.Ground.data }, { on := 14, ground := Go.Ground.chain }, { on := 4, ground := Go.Ground.guard }], guard := some (4, true) }) (v := undef) rfl (by kernel_rfl) (by kernel_rfl) (by kernel_rfl) (fun _ _ _ h => h) (Or.inr ⟨by simp [Region.wanted, yielded], rfl⟩) (by assumption) ?_
    try simp only [Act.put, List.setIfInBounds_toArray, List.set_cons_zero, List.set_cons_succ]
    refine wpAnyH_take (i := 27) (oi := { dst := some 32, op := Go.Op.indexAddr 65 (Go.Operand.tmp 25) (Go.Operand.tmp 31), type := 0, pos := "timeflow.go:121", after := #[{ on := 20, ground := Go.Ground.data }, { on := 26, ground := Go.Ground.data }, { on := 4, ground := Go.Ground.guard }], guard := some (4, true) }) (v := undef) rfl (by kernel_rfl) (by kernel_rfl) (by kernel_rfl) (fun _ _ _ h => h) (Or.inr ⟨by simp [Region.wanted, yielded], rfl⟩) (by assumption) ?_
    try simp only [Act.put, List.setIfInBounds_toArray, List.set_cons_zero, List.set_cons_succ]
    refine wpAnyH_take (i := 28) (oi := { dst := some 33, op := Go.Op.load 3 (Go.Operand.tmp 32), type := 3, pos := "timeflow.go:121", after := #[{ on := 27, ground := Go.Ground.data }, { on := 4, ground := Go.Ground.guard }], guard := some (4, true) }) (v := undef) rfl (by kernel_rfl) (by kernel_rfl) (by kernel_rfl) (fun _ _ _ h => h) (Or.inr ⟨by simp [Region.wanted, yielded], rfl⟩) (by assumption) ?_
    try simp only [Act.put, List.setIfInBounds_toArray, List.set_cons_zero, List.set_cons_succ]
    refine wpAnyH_take (i := 29) (oi := { dst := some 34, op := Go.Op.binOp Go.BinOp.add 3 (Go.Operand.tmp 33) (Go.Operand.const (Go.Value.int Go.IntKind.i64 1)) 3, type := 3, pos := "timeflow.go:121", after := #[{ on := 28, ground := Go.Ground.data }, { on := 4, ground := Go.Ground.guard }], guard := some (4, true) }) (v := undef) rfl (by kernel_rfl) (by kernel_rfl) (by kernel_rfl) (fun _ _ _ h => h) (Or.inr ⟨by simp [Region.wanted, yielded], rfl⟩) (by assumption) ?_
    try simp only [Act.put, List.setIfInBounds_toArray, List.set_cons_zero, List.set_cons_succ]
    refine wpAnyH_take (i := 30) (oi := { dst := some 35, op := Go.Op.binOp Go.BinOp.eql 3 (Go.Operand.tmp 21) (Go.Operand.tmp 34) 3, type := 4, pos := "timeflow.go:121", after := #[{ on := 16, ground := Go.Ground.data }, { on := 29, ground := Go.Ground.data }, { on := 4, ground := Go.Ground.guard }], guard := some (4, true) }) (v := undef) rfl (by kernel_rfl) (by kernel_rfl) (by kernel_rfl) (fun _ _ _ h => h) (Or.inr ⟨by simp [Region.wanted, yielded], rfl⟩) (by assumption) ?_
    try simp only [Act.put, List.setIfInBounds_toArray, List.set_cons_zero, List.set_cons_succ]
    refine wpAnyH_take (i := 31) (oi := { dst := some 36, op := Go.Op.pick (Go.Operand.tmp 9) (Go.Operand.tmp 35) (Go.Operand.const (Go.Value.bool false)), type := 4, pos := "timeflow.go:121", after := #[{ on := 4, ground := Go.Ground.data }, { on := 30, ground := Go.Ground.data }], guard := none }) (v := .bool false) rfl (by kernel_rfl) (by kernel_rfl) (by kernel_rfl) (fun _ _ _ h => h) (Or.inl ⟨by rfl, ?_⟩) (by assumption) ?_
    · (intro w hSw; (try dsimp only at hSw); go_simp)
    try simp only [Act.put, List.setIfInBounds_toArray, List.set_cons_zero, List.set_cons_succ]
    refine wpAnyH_take (i := 32) (oi := { dst := some 4, op := Go.Op.assign (Go.Operand.tmp 36), type := 4, pos := "timeflow.go:121", after := #[{ on := 31, ground := Go.Ground.data }, { on := 26, ground := Go.Ground.chain }, { on := 0, ground := Go.Ground.phase }, { on := 1, ground := Go.Ground.phase }, { on := 2, ground := Go.Ground.phase }, { on := 3, ground := Go.Ground.phase }, { on := 4, ground := Go.Ground.phase }, { on := 5, ground := Go.Ground.phase }, { on := 6, ground := Go.Ground.phase }, { on := 7, ground := Go.Ground.phase }, { on := 8, ground := Go.Ground.phase }, { on := 9, ground := Go.Ground.phase }, { on := 10, ground := Go.Ground.phase }, { on := 11, ground := Go.Ground.phase }, { on := 12, ground := Go.Ground.phase }, { on := 13, ground := Go.Ground.phase }, { on := 14, ground := Go.Ground.phase }, { on := 15, ground := Go.Ground.phase }, { on := 16, ground := Go.Ground.phase }, { on := 17, ground := Go.Ground.phase }, { on := 18, ground := Go.Ground.phase }, { on := 19, ground := Go.Ground.phase }, { on := 20, ground := Go.Ground.phase }, { on := 21, ground := Go.Ground.phase }, { on := 22, ground := Go.Ground.phase }, { on := 23, ground := Go.Ground.phase }, { on := 24, ground := Go.Ground.phase }, { on := 25, ground := Go.Ground.phase }, { on := 26, ground := Go.Ground.phase }, { on := 27, ground := Go.Ground.phase }, { on := 28, ground := Go.Ground.phase }, { on := 29, ground := Go.Ground.phase }, { on := 30, ground := Go.Ground.phase }, { on := 31, ground := Go.Ground.phase }], guard := none }) (v := .bool false) rfl (by kernel_rfl) (by kernel_rfl) (by kernel_rfl) (fun _ _ _ h => h) (Or.inl ⟨by rfl, ?_⟩) (by assumption) ?_
    · (intro w hSw; (try dsimp only at hSw); go_simp)
    try simp only [Act.put, List.setIfInBounds_toArray, List.set_cons_zero, List.set_cons_succ]
    refine wpAnyH_done (by kernel_rfl) ?_ _
    go_wp2
    go_ret
    exact ⟨ret_bool HDD.out.symm, HB7.out⟩
theorem fdescends_is (i : Nat) (q d : Bool) (w : World) (h : SolW w K p eb sg N b ao cap Z sc fb fc F lb lc L tb tc T) (hW : WideNet Z N) (hF : Flow Z F) (hi : i < Z.length) (hlb : ∀ v, v < N → -1 ≤ atI L v ∧ atI L v < (N : Int)) (hd : descB Z F L ((i : Int), q) = d) :
    Calls Try.prog 62 #[.pointer (some ⟨p, 0, none⟩), .agg #[.int .i64 (i : Int), .bool q]] w fun e w' => e = .returned (.bool d) ∧ Below w.heap.size w w' := by subst hd; exact fdescends_at K p eb sg N b ao cap Z sc fb fc F lb lc L tb tc T i q w h hW hF hi hlb
end
end Go.Proofs.Ytlkbohpnlbfopaa
namespace Go.Proofs.Ytlkbohpnlbfopaa
open Go.RowKit
set_option linter.unusedVariables false
theorem neg_step {L : List Int} {j : Nat} (hj : j < L.length) : (List.replicate j (-1) ++ L.drop j).set j (-1) = List.replicate (j + 1) (-1) ++ L.drop (j + 1) := by
  rw [List.set_append_right _ _ (by simp), List.length_replicate, Nat.sub_self, List.drop_eq_getElem_cons hj, List.set_cons_zero, List.replicate_succ', List.append_assoc]
  rfl
def HeldR6 (p eb lb N lc : Nat) (W : World) : Prop := W.cell? ⟨p, 0, none⟩ = some (.pointer (some ⟨eb, 0, none⟩)) ∧ W.cell? ⟨p, 2, none⟩ = some (.slice (some ⟨lb, 0, none⟩) N lc)
section
variable (K p eb sg N : Nat) (b : Bool) (ao : Option Addr) (cap : Nat) (Z : List ArcT) (sc fb fc : Nat) (F : List Int) (lb lc : Nat) (L : List Int) (tb tc : Nat) (T : List Int)
set_option maxRecDepth 100000 in
set_option maxHeartbeats 16000000 in
theorem frise_at (w : World) (h : SolW w K p eb sg N b ao cap Z sc fb fc F lb lc L tb tc T) (hW : WideNet Z N) (hF : Flow Z F) (h2 : 2 ≤ N) :
    Calls Try.prog 34 #[.pointer (some ⟨p, 0, none⟩)] w fun e w' => e = .returned (.bool (farX (seekN Z F N (N - 2)) (N - 1) != -1)) ∧ SolW w' K p eb sg N b ao cap Z sc fb fc F lb lc (farsL (seekN Z F N (N - 2)) N) tb tc T ∧ Kept (fun i => i = lb) w w' := by
  have hNl := hW.nodes
  have hzl := hW.len
  have H := Lib.hid h
  have HWN := Lib.hid hW
  have HFF := Lib.hid hF
  have HT : Hid (∀ y ∈ stepsK Z F Z.length, toS Z y < N) := Lib.hid (fun y hy => (wide_step hW hF hy).1.1)
  obtain ⟨s, hs⟩ : ∃ s, N - 2 = s := ⟨_, rfl⟩
  obtain ⟨t, ht⟩ : ∃ t, N - 1 = t := ⟨_, rfl⟩
  have hsN : s < N := by omega
  have htN : t < N := by omega
  have HSS : Hid (((N - 2 : Nat) : Int) = (s : Int)) := Lib.hid (by rw [hs])
  have HTS : Hid (((N - 1 : Nat) : Int) = (t : Int)) := Lib.hid (by rw [ht])
  rw [hs, ht]
  have HLT := Lib.hid h.lt
  have hLN := h.lens.2.1
  obtain ⟨_, _, k2, _⟩ := h.cells
  clear h hW hF hs ht
  go_enter Try.func34, Try.ntmps34
  go_wp2
  go_loopw [14] (fun iv wr => ∃ j : Nat, j ≤ N ∧ iv = .int .i64 (j : Int) ∧ Hid (SolW wr K p eb sg N b ao cap Z sc fb fc F lb lc (List.replicate j (-1) ++ L.drop j) tb tc T) ∧ Hid (Kept (fun i => i = lb) w wr)) (fun iv _ => N - (intOf iv).toNat)
  case atStart => exact ⟨0, Nat.zero_le _, rfl, Lib.hid (by simpa using H.out), Lib.hid (Kept.refl _ _)⟩
  case round =>
    obtain ⟨j, hj, rfl, HS, HK⟩ := hrel
    by_cases hlt : j < N
    · have hli : (j : Int) < (N : Int) := by omega
      have hj0 : (0 : Int) ≤ (j : Int) := by omega
      obtain ⟨_, _, k2, _⟩ := HS.out.cells
      obtain ⟨ct, cf⟩ := HS.out.levs.cell (atI_get (d := List.replicate j (-1) ++ L.drop j) (v := j) (by simp; omega))
      unfold encI at ct
      go_wp2
      go_roundw
      case rel => exact ⟨j + 1, by omega, by go_num, Lib.hid (by have h1 := HS.out.setL j (-1); rw [neg_step (by omega)] at h1; exact h1), Lib.hid (HK.out.set (.inl rfl) _)⟩
      case measure => simp [intOf]; omega
    · have hli : ¬ (j : Int) < (N : Int) := by omega
      obtain rfl : N = j := by omega
      rw [List.drop_of_length_le (by omega), List.append_nil] at HS
      obtain ⟨k0, _, k2, _⟩ := HS.out.cells
      have HWD := Lib.hid HS.out.drew
      have HKD := Lib.hid HK.out.drew
      go_wp2_with fail
      refine wp_region_held_drew (S := fun W => HeldR6 p eb lb N lc W) (by kernel_rfl) ⟨HS.out.cells.1, HS.out.cells.2.2.1⟩ (fun hHeld => ?_)
      generalize wr.drew = wd at *
      refine wpAnyH_take (i := 0) (oi := { dst := some 24, op := Go.Op.move (Go.Operand.tmp 0), type := 61, pos := "timeflow.go:95", after := #[], guard := none }) (v := .pointer (some ⟨p, 0, none⟩)) rfl (by kernel_rfl) (by kernel_rfl) (by kernel_rfl) (fun _ _ _ h => h) (Or.inl ⟨by rfl, ?_⟩) (by assumption) ?_
      · (intro w hSw; (try dsimp only [HeldR6] at hSw); go_simp)
      try simp only [Act.put, List.setIfInBounds_toArray, List.set_cons_zero, List.set_cons_succ]
      refine wpAnyH_take (i := 1) (oi := { dst := some 25, op := Go.Op.nilCheck (Go.Operand.tmp 24), type := 0, pos := "timeflow.go:95", after := #[{ on := 0, ground := Go.Ground.data }], guard := none }) (v := .pointer (some ⟨p, 0, none⟩)) rfl (by kernel_rfl) (by kernel_rfl) (by kernel_rfl) (fun _ _ _ h => h) (Or.inl ⟨by rfl, ?_⟩) (by assumption) ?_
      · (intro w hSw; (try dsimp only [HeldR6] at hSw); go_simp)
      try simp only [Act.put, List.setIfInBounds_toArray, List.set_cons_zero, List.set_cons_succ]
      refine wpAnyH_take (i := 2) (oi := { dst := some 26, op := Go.Op.fieldAddr 67 (Go.Operand.tmp 25) 2, type := 0, pos := "timeflow.go:95", after := #[{ on := 1, ground := Go.Ground.data }], guard := none }) (v := .pointer (some ⟨p, 2, none⟩)) rfl (by kernel_rfl) (by kernel_rfl) (by kernel_rfl) (fun _ _ _ h => h) (Or.inl ⟨by rfl, ?_⟩) (by assumption) ?_
      · (intro w hSw; (try dsimp only [HeldR6] at hSw); go_simp)
      try simp only [Act.put, List.setIfInBounds_toArray, List.set_cons_zero, List.set_cons_succ]
      refine wpAnyH_take (i := 3) (oi := { dst := some 27, op := Go.Op.load 65 (Go.Operand.tmp 26), type := 65, pos := "timeflow.go:95", after := #[{ on := 2, ground := Go.Ground.data }], guard := none }) (v := .slice (some ⟨lb, 0, none⟩) N lc) rfl (by kernel_rfl) (by kernel_rfl) (by kernel_rfl) (fun _ _ _ h => h) (Or.inl ⟨by rfl, ?_⟩) (by assumption) ?_
      · (intro w hSw; (try dsimp only [HeldR6] at hSw); go_simp)
      try simp only [Act.put, List.setIfInBounds_toArray, List.set_cons_zero, List.set_cons_succ]
      refine wpAnyH_take (i := 4) (oi := { dst := some 28, op := Go.Op.move (Go.Operand.tmp 0), type := 61, pos := "timeflow.go:95", after := #[], guard := none }) (v := .pointer (some ⟨p, 0, none⟩)) rfl (by kernel_rfl) (by kernel_rfl) (by kernel_rfl) (fun _ _ _ h => h) (Or.inl ⟨by rfl, ?_⟩) (by assumption) ?_
      · (intro w hSw; (try dsimp only [HeldR6] at hSw); go_simp)
      try simp only [Act.put, List.setIfInBounds_toArray, List.set_cons_zero, List.set_cons_succ]
      refine wpAnyH_take (i := 5) (oi := { dst := some 29, op := Go.Op.nilCheck (Go.Operand.tmp 28), type := 0, pos := "timeflow.go:95", after := #[{ on := 4, ground := Go.Ground.data }], guard := none }) (v := .pointer (some ⟨p, 0, none⟩)) rfl (by kernel_rfl) (by kernel_rfl) (by kernel_rfl) (fun _ _ _ h => h) (Or.inl ⟨by rfl, ?_⟩) (by assumption) ?_
      · (intro w hSw; (try dsimp only [HeldR6] at hSw); go_simp)
      try simp only [Act.put, List.setIfInBounds_toArray, List.set_cons_zero, List.set_cons_succ]
      refine wpAnyH_take (i := 6) (oi := { dst := some 30, op := Go.Op.fieldAddr 67 (Go.Operand.tmp 29) 0, type := 0, pos := "timeflow.go:95", after := #[{ on := 5, ground := Go.Ground.data }], guard := none }) (v := .pointer (some ⟨p, 0, none⟩)) rfl (by kernel_rfl) (by kernel_rfl) (by kernel_rfl) (fun _ _ _ h => h) (Or.inl ⟨by rfl, ?_⟩) (by assumption) ?_
      · (intro w hSw; (try dsimp only [HeldR6] at hSw); go_simp)
      try simp only [Act.put, List.setIfInBounds_toArray, List.set_cons_zero, List.set_cons_succ]
      refine wpAnyH_take (i := 7) (oi := { dst := some 31, op := Go.Op.load 58 (Go.Operand.tmp 30), type := 58, pos := "timeflow.go:95", after := #[{ on := 6, ground := Go.Ground.data }], guard := none }) (v := .pointer (some ⟨eb, 0, none⟩)) rfl (by kernel_rfl) (by kernel_rfl) (by kernel_rfl) (fun _ _ _ h => h) (Or.inl ⟨by rfl, ?_⟩) (by assumption) ?_
      · (intro w hSw; (try dsimp only [HeldR6] at hSw); go_simp)
      try simp only [Act.put, List.setIfInBounds_toArray, List.set_cons_zero, List.set_cons_succ]
      refine wpAnyH_ready (rs := [8]) (by kernel_rfl) (by simp) (AllReadyH.cons (o := { dst := some 32, op := Go.Op.call { callee := Go.Callee.value (Go.Operand.func 25), args := #[Go.Operand.tmp 31], argTypes := #[58] }, type := 3, pos := "timeflow.go:95", after := #[{ on := 7, ground := Go.Ground.data }], guard := none }) rfl (fun KQ hK => ?_) (AllReadyH.nil))
      go_simp
      refine (ffirst_at K eb sg N b ao cap Z sc wd HWD.out.ex h2 hNl).mono ?_
      rintro e w9 ⟨rfl, rfl⟩
      rw [HSS.out]
      clear hHeld
      go_wp2_with fail
      refine hK.out _ _ ⟨HWD.out.cells.1, HWD.out.cells.2.2.1⟩ (fun hHeld => ?_)
      clear hK
      try simp only [Act.put, List.setIfInBounds_toArray, List.set_cons_zero, List.set_cons_succ]
      refine wpAnyH_take (i := 9) (oi := { dst := some 33, op := Go.Op.indexAddr 65 (Go.Operand.tmp 27) (Go.Operand.tmp 32), type := 0, pos := "timeflow.go:95", after := #[{ on := 3, ground := Go.Ground.data }, { on := 8, ground := Go.Ground.data }, { on := 0, ground := Go.Ground.phase }, { on := 1, ground := Go.Ground.phase }, { on := 2, ground := Go.Ground.phase }, { on := 3, ground := Go.Ground.phase }, { on := 4, ground := Go.Ground.phase }, { on := 5, ground := Go.Ground.phase }, { on := 6, ground := Go.Ground.phase }, { on := 7, ground := Go.Ground.phase }, { on := 8, ground := Go.Ground.phase }], guard := none }) (v := .pointer (some ⟨lb, s, none⟩)) rfl (by kernel_rfl) (by kernel_rfl) (by kernel_rfl) (fun _ _ _ h => h) (Or.inl ⟨by rfl, ?_⟩) (by assumption) ?_
      · (intro w hSw; (try dsimp only [HeldR6] at hSw); go_simp)
      try simp only [Act.put, List.setIfInBounds_toArray, List.set_cons_zero, List.set_cons_succ]
      refine wpAnyH_ready (rs := [10]) (by kernel_rfl) (by simp) (AllReadyH.cons (o := { dst := none, op := Go.Op.store 3 (Go.Operand.tmp 33) (Go.Operand.const (Go.Value.int Go.IntKind.i64 0)), type := 0, pos := "timeflow.go:95", after := #[{ on := 9, ground := Go.Ground.data }, { on := 8, ground := Go.Ground.chain }, { on := 0, ground := Go.Ground.phase }, { on := 1, ground := Go.Ground.phase }, { on := 2, ground := Go.Ground.phase }, { on := 3, ground := Go.Ground.phase }, { on := 4, ground := Go.Ground.phase }, { on := 5, ground := Go.Ground.phase }, { on := 6, ground := Go.Ground.phase }, { on := 7, ground := Go.Ground.phase }, { on := 8, ground := Go.Ground.phase }], guard := none }) rfl (fun KQ hK => ?_) (AllReadyH.nil))
      obtain ⟨ct, cf⟩ := HWD.out.levs.cell (atI_get (d := List.replicate N (-1)) (v := s) (by rw [List.length_replicate]; exact hsN))
      go_simp
      have HS10 := Lib.hid (HWD.out.setL s 0)
      have HK10 : Hid (Kept (fun i => i = lb) w (wd.setCell ⟨lb, s, none⟩ (.int .i64 0))) := Lib.hid (HKD.out.set (.inl rfl) _)
      clear hHeld
      refine hK.out _ _ ⟨HS10.out.cells.1, HS10.out.cells.2.2.1⟩ (fun hHeld => ?_)
      clear hK ct cf
      try simp only [Act.put, List.setIfInBounds_toArray, List.set_cons_zero, List.set_cons_succ]
      refine wpAnyH_done (by kernel_rfl) ?_ _
      clear hHeld
      have HS0 : Hid (SolW (wd.setCell ⟨lb, s, none⟩ (.int .i64 0)) K p eb sg N b ao cap Z sc fb fc F lb lc (farsL [(s, (0, false), 0)] N) tb tc T) := Lib.hid (by rw [start_fars hsN]; exact HS10.out)
      clear HS HK HWD HKD k0 k2 HS10 hli hlt hj
      generalize wd.setCell ⟨lb, s, none⟩ (.int .i64 0) = w1 at *
      have hz1 := HK10.out.size
      obtain ⟨k0, _, k2, _⟩ := HS0.out.cells
      go_wp2_with (first
        | (go_at_call 25; refine (ffirst_at K eb sg N b ao cap Z sc w1 HS0.out.ex h2 hNl).mono ?_; rintro e w9 ⟨rfl, rfl⟩; rw [HSS.out]))
      obtain ⟨g0, hg0⟩ : ∃ g0, w1.heap.size = g0 := ⟨_, rfl⟩
      have HQ0 : Hid (QI (w1.alloc (.cells #[.int .i64 (s : Int)] 3)) w.heap.size g0 0 1 (natI [s])) := Lib.hid (by
        have hn := heap_alloc_new w1 (.cells #[.int .i64 (s : Int)] 3)
        rw [hg0] at hn
        refine ⟨by omega, by simp; omega, by simp [natI], fun j x hx => ?_, fun j hj => ?_⟩
        · match j with
          | 0 => cases hx; rw [cell_whole hn]; rfl
          | j + 1 => simp [natI] at hx
        · obtain rfl : j = 0 := by omega
          exact ⟨by rw [cell_whole hn]; rfl, frozen_whole hn 0⟩)
      have HS1 := Lib.hid (HS0.out.alloc (.cells #[.int .i64 (s : Int)] 3))
      have HK1 := Lib.hid (HK10.out.alloc (.cells #[.int .i64 (s : Int)] 3))
      rw [hg0]
      clear HS0 HK10 k0 k2 hg0
      generalize w1.alloc (.cells #[.int .i64 (s : Int)] 3) = w2 at *
      go_loopg [4] (N + 1) (fun k ov wr => ∃ i x B Q g o c, k + i = N + 1 ∧ ov = .slice (some ⟨g, o, none⟩) Q.length c ∧ Hid (SolW wr K p eb sg N b ao cap Z sc fb fc F lb lc (farsL x N) tb tc T) ∧ Hid (QI wr w.heap.size g o c (natI Q)) ∧ Hid (VO Z F N s i x B Q) ∧ Hid (Kept (fun i => i = lb) w wr))
      case atStart => exact ⟨0, [(s, (0, false), 0)], List.replicate N (0, false), [s], g0, 0, 1, by omega, rfl, HS1, HQ0, Lib.hid VO.start, HK1⟩
      case round =>
        clear HS1 HQ0 HK1
        obtain ⟨i, x, B, Q, g, o, c, hk, rfl, HS, HQ, HO, HK⟩ := hrel
        obtain ⟨wo, hwo⟩ : ∃ wo, wo = wr := ⟨_, rfl⟩
        subst hwo
        obtain ⟨k0, _, k2, _⟩ := HS.out.cells
        cases Q with
        | nil =>
          have HX : Hid (seekN Z F N s = x) := Lib.hid (by
            rcases (HO.out.stop hsN HT.out (-1)).all with h1 | ⟨v, h1, _⟩
            · exact h1
            · omega)
          obtain ⟨ct, _⟩ := HS.out.levs.cell (atI_get (d := farsL x N) (v := t) (by rw [farsL_len]; exact htN))
          rw [farsL_at x htN] at ct
          unfold encI at ct
          have hti : (t : Int) < (N : Int) := by omega
          have ht0 : (0 : Int) ≤ (t : Int) := by omega
          go_wp2_with fail
          go_region_held3 (fun W => W.cell? ⟨p, 0, none⟩ = some (.pointer (some ⟨eb, 0, none⟩)) ∧ W.cell? ⟨p, 2, none⟩ = some (.slice (some ⟨lb, 0, none⟩) N lc) ∧ W.cell? ⟨lb, t, none⟩ = some (.int .i64 (farX x t))) (first | exact ⟨k0, k2, ct⟩ | go_keep)
            (first | (go_at_call 49; refine (flast_at K eb sg N b ao cap Z sc wo.drew HS.out.drew.ex h2 hNl).mono ?_; rintro e w9 ⟨rfl, rfl⟩; rw [HTS.out]))
          all_goals
            go_wp2
            go_ret
            exact ⟨by rw [HX.out]; rfl, by rw [HX.out]; exact HS.out.drew, HK.out.drew⟩
        | cons u Q =>
          obtain ⟨hI, hu, hiN⟩ := HO.out.take hsN HT.out
          have HI := Lib.hid hI
          have hun : (u : Int) < (N : Int) := by omega
          have hu0 : (0 : Int) ≤ (u : Int) := by omega
          have hql : ((u :: Q).length : Int) = (Q.length : Int) + 1 := by simp
          have hqp : decide ((0 : Int) < (Q.length : Int) + 1) = true := by simp
          have hq1 : ((0 : Int) < (Q.length : Int) + 1) := by omega
          have u0 : wo.cell? ⟨g, o, none⟩ = some (.int .i64 (u : Int)) := by have := HQ.out.at' 0 (u : Int) (by simp [natI]); simpa [encI] using this
          clear hI HO
          go_upto_region 10 with (fail)
          go_cut [4] (fun ov wc => ∃ g2 o2 c2, ov = .slice (some ⟨g2, o2, none⟩) Q.length c2 ∧ Hid (SolW wc K p eb sg N b ao cap Z sc fb fc F lb lc (farsL x N) tb tc T) ∧ Hid (QI wc w.heap.size g2 o2 c2 (natI Q)) ∧ Hid (Kept (fun i => i = lb) w wc))
          case first =>
            by_cases hc1 : c = 1
            · subst hc1
              obtain ⟨hQ, hq⟩ := HQ.out.tail1
              have HQ3 := Lib.hid hq
              clear hQ hq
              go_wp2
              go_meet
              exact ⟨g, o, 0, by simp, HS, HQ3, HK⟩
            · have HQ3 := Lib.hid (HQ.out.tail hc1)
              go_wp2
              go_meet
              exact ⟨g, o + 1, c - 1, by simp, HS, HQ3, HK⟩
          case rest =>
            clear HS HQ HK k0 k2 u0
            obtain ⟨g2, o2, c2, rfl, HS, HQ, HK⟩ := hcut
            obtain ⟨k0, _, k2, _⟩ := HS.out.cells
            obtain ⟨_, _, _, e3⟩ := HS.out.ex.cells
            obtain ⟨ra, rc, hd, hrow, hund⟩ := HS.out.ex.steps u hu
            have hsl := stepsU_len Z u
            obtain ⟨SU, hSU⟩ : ∃ SU, stepsU Z u = SU := ⟨_, rfl⟩
            rw [hSU] at hd hrow hsl hund
            have HRW := Lib.hid hrow
            have HRU := Lib.hid hund
            have hI := HI.out
            rw [hSU] at hI
            have HI0 := Lib.hid hI
            have HKK := Lib.hid HS.out.ex.lt
            have HWC := Lib.hid HS.out.lt
            clear hrow hund hI HI
            go_wp2_with fail
            go_loopw [4, 59] (fun ov iv wi => ∃ (j : Nat) (x : List Ent) (B : List StepT) (Q : List Nat) (g o c : Nat), j ≤ SU.length ∧ iv = .int .i64 (j : Int) ∧ ov = .slice (some ⟨g, o, none⟩) Q.length c ∧ Hid (SolW wi K p eb sg N b ao cap Z sc fb fc F lb lc (farsL x N) tb tc T) ∧ Hid (QI wi w.heap.size g o c (natI Q)) ∧ Hid (VI Z F N s i x B u Q (SU.drop j)) ∧ Hid (Row encS 2 wi ra SU) ∧ Hid (Kept (fun i => i = lb) w wi)) (fun _ iv _ => SU.length - (intOf iv).toNat)
            case atStart => exact ⟨0, x, B, Q, g2, o2, c2, Nat.zero_le _, rfl, rfl, HS, HQ, Lib.hid (by rw [List.drop_zero]; exact HI0.out), HRW, HK⟩
            case round =>
              clear HS HQ HI0 HRW HK k0 k2 e3 hd
              obtain ⟨j, x, B, Q, g, o, c, hj, rfl, rfl, HS, HQ, HI, HRW, HK⟩ := hrel
              by_cases hlt : j < SU.length
              · have hli : (j : Int) < (SU.length : Int) := by omega
                have hj0 : (0 : Int) ≤ (j : Int) := by omega
                have hDr : SU.drop j = SU[j] :: SU.drop (j + 1) := List.drop_eq_getElem_cons hlt
                obtain ⟨bb, oo, e, hbb, q0, q1⟩ := step_at HRW.out (List.getElem?_eq_getElem hlt)
                subst e
                have hI := HI.out
                rw [hDr] at hI
                have HI2 := Lib.hid hI
                clear hDr hI
                generalize SU[j] = y at *
                obtain ⟨pp, a, q, hp, ha, hy, hyf⟩ := stepsU_mem (HI2.out.mem y (by simp))
                subst hy
                simp only at q0 q1
                obtain ⟨v, hv⟩ : ∃ v, toS Z ((pp : Int), q) = v := ⟨_, rfl⟩
                obtain ⟨r, hr⟩ : ∃ r, leftS Z F ((pp : Int), q) = r := ⟨_, rfl⟩
                have hvN : v < N := by rw [← hv]; exact (HWN.out.arc hp q).2.2
                have HVV := Lib.hid hv
                have HRR := Lib.hid hr
                have HRB : Hid (roomB Z F ((pp : Int), q) = decide (0 < r)) := Lib.hid (by unfold roomB; rw [hr])
                have hvi : (v : Int) < (N : Int) := by omega
                have hv0 : (0 : Int) ≤ (v : Int) := by omega
                obtain ⟨hf0, hfN, hfb⟩ := HI2.out.far hsN HT.out
                have hfbv := hfb v
                obtain ⟨fu, hfu⟩ : ∃ fu, farX x u = fu := ⟨_, rfl⟩
                obtain ⟨fv, hfv⟩ : ∃ fv, farX x v = fv := ⟨_, rfl⟩
                rw [hfu] at hf0 hfN
                rw [hfv] at hfbv
                have HFU := Lib.hid hfu
                have HFV := Lib.hid hfv
                have hbx := HK.out.size
                obtain ⟨xb, hxb⟩ : ∃ xb, wr.heap.size = xb := ⟨_, rfl⟩
                have HX8 := Lib.hid (heap_alloc_new wr (.cells #[.int .i64 (pp : Int), .bool q] 93))
                rw [hxb] at HX8
                have HS8 := Lib.hid (HS.out.alloc (.cells #[.int .i64 (pp : Int), .bool q] 93))
                have HQ8 := Lib.hid (HQ.out.next ((Below.refl _ wr).alloc (Nat.le_refl _) (.cells #[.int .i64 (pp : Int), .bool q] 93)))
                have HR8 := Lib.hid (HRW.out.below' ((Below.refl _ wr).alloc (Nat.le_refl _) (.cells #[.int .i64 (pp : Int), .bool q] 93)))
                have HK8 := Lib.hid (HK.out.alloc (.cells #[.int .i64 (pp : Int), .bool q] 93))
                obtain ⟨k0, _, k2, _⟩ := HS8.out.cells
                have s0 := cell_whole HX8.out 0
                have s1 := cell_whole HX8.out 1
                have HLB := Lib.hid HS.out.lt.2.2.1.2
                clear hv hr hfu hfv ha hyf hfb HS HQ HRW HK
                go_wp2_with fail
                generalize wr.alloc (.cells #[.int .i64 (pp : Int), .bool q] 93) = w8 at *
                go_region_held3 (fun W => W.cell? ⟨p, 0, none⟩ = some (.pointer (some ⟨eb, 0, none⟩)) ∧ W.cell? ⟨xb, 0, none⟩ = some (.int .i64 (pp : Int)) ∧ W.cell? ⟨xb, 1, none⟩ = some (.bool q)) (first | exact ⟨k0, s0, s1⟩ | exact ⟨z0, z1, z2⟩ | go_keep)
                  (first | (go_at_call 47; refine (fend_is eb N ao cap Z pp q v w8.drew HS8.out.drew.ex.beg HWN.out hp HVV.out).mono ?_; rintro e w9 ⟨rfl, b9⟩; have z0 := cell_below (w := w8.drew) b9 k0; have z1 := cell_below (w := w8.drew) b9 s0; have z2 := cell_below (w := w8.drew) b9 s1; have HB9 := Lib.hid ((below_drew (Below.refl w8.heap.size w8)).trans b9); clear b9))
                all_goals
                  have HS9 := Lib.hid (HS8.out.next HB9.out)
                  have HQ9 := Lib.hid (HQ8.out.next HB9.out)
                  have HR9 := Lib.hid (HR8.out.below' HB9.out)
                  have HK9 := Lib.hid (HK8.out.trans' (Kept.of_below HB9.out))
                  obtain ⟨dv, dvf⟩ := HS9.out.levs.cell (atI_get (d := farsL x N) (v := v) (by rw [farsL_len]; exact hvN))
                  obtain ⟨du, duf⟩ := HS9.out.levs.cell (atI_get (d := farsL x N) (v := u) (by rw [farsL_len]; exact hu))
                  rw [farsL_at x hvN, HFV.out] at dv
                  rw [farsL_at x hu, HFU.out] at du
                  unfold encI at dv du
                  obtain ⟨_, _, k2, _⟩ := HS9.out.cells
                  clear z0 k0 s0 s1 HS8 HQ8 HR8 HK8 HX8
                  by_cases h0 : 0 < r
                  · have hg : decide (0 < r) = true := by simpa using h0
                    have HRT : Hid (roomB Z F ((pp : Int), q) = true) := Lib.hid (by rw [HRB.out]; exact hg)
                    by_cases hn : fv = -1
                    · subst hn
                      obtain ⟨hI3, hK3, hQl, hF3, hM3⟩ := HI2.out.add HRT.out (by rw [HVV.out]; exact HFV.out) hsN HT.out
                      rw [HVV.out] at hI3 hK3 hF3 hM3
                      rw [HFU.out] at hK3
                      have HI3 := Lib.hid hI3
                      have HK3 := Lib.hid hK3
                      have hwf : IntKind.i64.wrap (fu + 1) = fu + 1 := IntWalk.i64_in _ (by omega)
                      have HNQ : Hid (natI (Q ++ [v]) = natI Q ++ [(v : Int)]) := Lib.hid (natI_snoc Q v)
                      have HNL : Hid ((natI Q).length = Q.length) := Lib.hid (natI_len Q)
                      clear hI3 hK3 hF3 hM3
                      go_wp2_with (first
                        | (go_at_call 48; refine (froom_is K p eb sg N b ao cap Z sc fb fc F lb lc (farsL x N) tb tc T pp q r _ HS9.out HWN.out HFF.out hp HRR.out).mono ?_; rintro e w10 ⟨rfl, b10⟩; have HS10 := Lib.hid (HS9.out.next b10); have HQ10 := Lib.hid (HQ9.out.next b10); have HR10 := Lib.hid (HR9.out.below' b10); have HK10 := Lib.hid (HK9.out.trans' (Kept.of_below b10)); have dv := cell_below b10 dv; have du := cell_below b10 du; have k2 := cell_below b10 k2; clear b10 z1 z2))
                      obtain ⟨_, dvf⟩ := HS10.out.levs.cell (atI_get (d := farsL x N) (v := v) (by rw [farsL_len]; exact hvN))
                      go_region
                      have hS11 := (HS10.out.setL v (fu + 1)).drew
                      rw [← HK3.out] at hS11
                      have hk11 : Kept (fun i => i = lb) w10 (w10.setCell ⟨lb, v, none⟩ (.int .i64 (fu + 1))).drew := ((Kept.refl (fun i => i = lb) w10).set (.inl rfl) _).drew
                      have hlw := HLT.out.2.2.1
                      have HS11 := Lib.hid hS11
                      have HQ11 := Lib.hid (HQ10.out.kept hk11 (by have h1 := HQ10.out.lo; show ¬ g = lb; omega))
                      have HR11 := Lib.hid (row_keptK HR10.out hk11 (K := K) (fun i e => by have e2 : i = lb := e; omega) HRU.out)
                      have HK11 := Lib.hid (HK10.out.trans' hk11)
                      clear hS11 hk11 HS10 HQ10 HR10 HK10 dv du dvf k2
                      generalize (w10.setCell ⟨lb, v, none⟩ (.int .i64 (fu + 1))).drew = w11 at *
                      have hz11 := HK11.out.size
                      go_wp2_with (first
                        | (at_builtin; refine wpList_append_qi rfl _ _ rfl w.heap.size g o c Q.length (natI Q) (v : Int) HNL.out rfl (HQ11.out.next ((Below.refl _ w11).alloc (Nat.le_refl _) (.cells #[.int .i64 (v : Int)] 3))) w11.heap.size 1 rfl (cell_new w11 #[.int .i64 (v : Int)] 3 0) (by omega) (by simp; omega) ?_; intro g12 o12 c12 w12 hq12 hk12; have hk13 := ((Kept.refl (fun i => i = g) w11).alloc (.cells #[.int .i64 (v : Int)] 3)).trans' hk12; have HQ12 : Hid (QI w12 w.heap.size g12 o12 c12 (natI (Q ++ [v]))) := Lib.hid (by rw [HNQ.out]; exact hq12); have HS12 := Lib.hid (HS11.out.off (B := w.heap.size) hk13 (fun i _ e => by have e2 : i = g := e; have h1 := HQ11.out.lo; omega) (by have h1 := HLT.out; omega)); have HR12 := Lib.hid (row_keptK HR11.out hk13 (K := w.heap.size) (fun i e => by have e2 : i = g := e; have h1 := HQ11.out.lo; omega) (fun ad e h => by have h1 := HRU.out ad e h; have h2 := HLT.out.2.2.2.2; omega)); have HK12 := Lib.hid (HK11.out.trans hk13 (fun i hi e => by have e2 : i = g := e; have h1 := HQ11.out.lo; omega)); clear hq12 hk12 hk13))
                      go_roundw
                      case rel => exact ⟨j + 1, _, _, Q ++ [v], g12, o12, c12, by omega, by go_num, by simp, HS12, HQ12, HI3, HR12, HK12⟩
                      case measure => simp [intOf]; omega
                    · have HI3 := Lib.hid (HI2.out.old HRT.out (by rw [HVV.out, HFV.out]; exact hn))
                      have hne : (fv == -1) = false := by simpa using hn
                      go_wp2_with (first
                        | (go_at_call 48; refine (froom_is K p eb sg N b ao cap Z sc fb fc F lb lc (farsL x N) tb tc T pp q r _ HS9.out HWN.out HFF.out hp HRR.out).mono ?_; rintro e w10 ⟨rfl, b10⟩; have HS10 := Lib.hid (HS9.out.next b10); have HQ10 := Lib.hid (HQ9.out.next b10); have HR10 := Lib.hid (HR9.out.below' b10); have HK10 := Lib.hid (HK9.out.trans' (Kept.of_below b10)); have dv := cell_below b10 dv; have k2 := cell_below b10 k2; clear b10 z1 z2 du))
                      go_roundw
                      case rel => exact ⟨j + 1, x, B, Q, g, o, c, by omega, by go_num, rfl, HS10, HQ10, HI3, HR10, HK10⟩
                      case measure => simp [intOf]; omega
                  · have hg : decide (0 < r) = false := by simpa using h0
                    have HI3 := Lib.hid (HI2.out.skip (by rw [HRB.out]; exact hg))
                    go_wp2_with (first
                      | (go_at_call 48; refine (froom_is K p eb sg N b ao cap Z sc fb fc F lb lc (farsL x N) tb tc T pp q r _ HS9.out HWN.out HFF.out hp HRR.out).mono ?_; rintro e w10 ⟨rfl, b10⟩; have HS10 := Lib.hid (HS9.out.next b10); have HQ10 := Lib.hid (HQ9.out.next b10); have HR10 := Lib.hid (HR9.out.below' b10); have HK10 := Lib.hid (HK9.out.trans' (Kept.of_below b10)); clear b10 z1 z2 du dv k2))
                    go_roundw
                    case rel => exact ⟨j + 1, x, B, Q, g, o, c, by omega, by go_num, rfl, HS10, HQ10, HI3, HR10, HK10⟩
                    case measure => simp [intOf]; omega
              · have hli : ¬ (j : Int) < (SU.length : Int) := by omega
                obtain rfl : j = SU.length := by omega
                have hI := HI.out
                rw [List.drop_length] at hI
                have HO3 := Lib.hid hI.done
                clear hI HI
                go_wp2
                go_roundg (N - i)
                case measure => omega
                case rel => exact ⟨i + 1, x, B, Q, g, o, c, by omega, rfl, HS, HQ, HO3, HK⟩
end
end Go.Proofs.Ytlkbohpnlbfopaa
namespace Go.Proofs.Ytlkbohpnlbfopaa
open Go.RowKit
set_option linter.unusedVariables false
def LeadV (K p eb sg N : Nat) (b : Bool) (ao : Option Addr) (cap : Nat) (Z : List ArcT) (sc fb fc : Nat) (F : List Int) (lb lc : Nat) (L : List Int) (tb tc : Nat) (T : List Int) (B : Nat) (w : World) (e : Ending) (w' : World) : Prop :=
  ∃ T', TI Z N T' ∧ SolW w' K p eb sg N b ao cap Z sc fb fc F lb lc L tb tc T' ∧ Kept (fun i => i = tb ∨ B ≤ i) w w' ∧
    ((∃ pv P, e = .returned (.tuple #[pv, .bool true]) ∧ OwnS w' B pv P ∧ DP Z F L T' (N - 2) P (N - 1)) ∨ (e = .returned (.tuple #[.slice none 0 0, .bool false]) ∧ (DT Z F L N (N - 1) T → Shut Z F L (N - 1) (N - 2))))
def HeldF (p eb sg tb N sc tc v rb ro sl rc n i : Nat) (q : Bool) (W : World) : Prop := (W.cell? ⟨p, 0, none⟩ = some (.pointer (some ⟨eb, 0, none⟩)) ∧ W.cell? ⟨eb, 3, none⟩ = some (.slice (some ⟨sg, 0, none⟩) N sc) ∧ W.cell? ⟨p, 3, none⟩ = some (.slice (some ⟨tb, 0, none⟩) N tc) ∧ W.cell? ⟨sg, v, none⟩ = some (.slice (some ⟨rb, ro, none⟩) sl rc)) ∧ W.cell? ⟨tb, v, none⟩ = some (.int .i64 (n : Int)) ∧ W.cell? ⟨rb, ro + n * 2, none⟩ = some (.int .i64 (i : Int)) ∧ W.cell? ⟨rb, ro + n * 2 + 1, none⟩ = some (.bool q)
theorem HeldF.below {p eb sg tb N sc tc v rb ro sl rc n i : Nat} {q : Bool} {w w2 : World} (h : HeldF p eb sg tb N sc tc v rb ro sl rc n i q w) (hb : Below w.heap.size w w2) : HeldF p eb sg tb N sc tc v rb ro sl rc n i q w2 :=
  ⟨⟨cell_below hb h.1.1, cell_below hb h.1.2.1, cell_below hb h.1.2.2.1, cell_below hb h.1.2.2.2⟩, cell_below hb h.2.1, cell_below hb h.2.2.1, cell_below hb h.2.2.2⟩
def HeldF3 (p tb N tc : Nat) (W : World) : Prop := W.cell? ⟨p, 3, none⟩ = some (.slice (some ⟨tb, 0, none⟩) N tc)
section
variable (K p eb sg N : Nat) (b : Bool) (ao : Option Addr) (cap : Nat) (Z : List ArcT) (sc fb fc : Nat) (F : List Int) (lb lc : Nat) (L : List Int) (tb tc : Nat) (T : List Int)
theorem ftip_is (po : Option Addr) (pc n : Nat) (P : List StepT) (v : Nat) (w : World) (h : SolW w K p eb sg N b ao cap Z sc fb fc F lb lc L tb tc T) (hW : WideNet Z N) (h2 : 2 ≤ N) (hn : P.length = n) (hr : Row encS 2 w po P) (hw : Walk (fromS Z) (toS Z) (N - 2) P v) (ha : ∀ y ∈ P, isArc Z y) (hl : P.length ≤ 100000) :
    Calls Try.prog 61 #[.pointer (some ⟨p, 0, none⟩), .slice po n pc] w fun e w' => e = .returned (.int .i64 (v : Int)) ∧ Below w.heap.size w w' := by subst hn; exact ftip_at K p eb sg N b ao cap Z sc fb fc F lb lc L tb tc T po pc P v w h hW h2 hr hw ha hl
set_option maxRecDepth 100000 in
set_option maxHeartbeats 16000000 in
theorem flead_at (B : Nat) (pv : Value) (P0 : List StepT) (v0 : Nat) (w : World) (h : SolW w K p eb sg N b ao cap Z sc fb fc F lb lc L tb tc T) (hW : WideNet Z N) (hF : Flow Z F) (h2 : 2 ≤ N) (hlb : ∀ v, v < N → -1 ≤ atI L v ∧ atI L v < (N : Int)) (hls : atI L (N - 2) = 0) (hT : TI Z N T) (hd : DP Z F L T (N - 2) P0 v0) (hv0 : v0 < N) (hP : OwnS w B pv P0) (hB : (p < B ∧ fb < B) ∧ lb < B ∧ tb < B) (hBw : B ≤ w.heap.size) :
    Calls Try.prog 50 #[.pointer (some ⟨p, 0, none⟩), pv] w (LeadV K p eb sg N b ao cap Z sc fb fc F lb lc L tb tc T B w) := by
  have hNl := hW.nodes
  have hzl := hW.len
  have H := Lib.hid h
  have HWN := Lib.hid hW
  have HFF := Lib.hid hF
  have HLB := Lib.hid hlb
  have HLS := Lib.hid hls
  have HTI := Lib.hid hT
  have HDP := Lib.hid hd
  have HBB := Lib.hid hB
  have HPO := Lib.hid hP
  obtain ⟨pa0, pc0, hpv0, _⟩ := hP.row
  subst hpv0
  clear h hW hF hlb hls hT hd hB hP
  go_enter Try.func50, Try.ntmps50
  go_wp2
  go_loopg [1] (muT Z N T P0 + 1) (fun k pv wr => ∃ (v : Nat) (P : List StepT) (T' : List Int), v < N ∧ Hid (muT Z N T' P < k) ∧ Hid (TI Z N T') ∧ Hid (DP Z F L T' (N - 2) P v) ∧ Hid (DT Z F L N (N - 1) T → DT Z F L N (N - 1) T') ∧ Hid (SolW wr K p eb sg N b ao cap Z sc fb fc F lb lc L tb tc T') ∧ Hid (OwnS wr B pv P) ∧ Hid (Kept (fun i => i = tb ∨ B ≤ i) w wr))
  case atStart => exact ⟨v0, P0, T, hv0, Lib.hid (Nat.lt_succ_self _), HTI, HDP, Lib.hid (fun x => x), H, HPO, Lib.hid (Kept.refl _ _)⟩
  case round =>
    clear HTI HDP H HPO
    obtain ⟨v, P, T2, hv, HMU, HTI, HDP, HDT, HW, HO, HK⟩ := hrel
    obtain ⟨gk0, hgk⟩ : ∃ gk0, gk0 = gk := ⟨_, rfl⟩
    subst hgk
    obtain ⟨pa, pc, hpv, hrow⟩ := HO.out.row
    subst hpv
    have HRW := Lib.hid hrow
    have hPl : P.length < N := by
      have h1 := HDP.out.lev.1
      have h2 := (HLB.out v hv).2
      rw [HLS.out] at h1
      omega
    have hPb : P.length ≤ 100000 := by omega
    have HPA : Hid (∀ y ∈ P, isArc Z y) := Lib.hid (fun y hy => (HDP.out.all y hy).1)
    have HWK := Lib.hid HDP.out.walk
    have HTT := Lib.hid (show ((N - 1 : Nat) : Int) = (N : Int) - 1 by omega)
    have hrs := HK.out.size
    obtain ⟨k0, _, _, k3⟩ := HW.out.cells
    clear hrow
    by_cases hvt : v = N - 1
    · have hne : ((v : Int) != (N : Int) - 1) = false := by simp; omega
      have HVT := Lib.hid hvt
      clear hvt
      go_wp2_with fail
      go_region_held3 (fun W => W.cell? ⟨p, 0, none⟩ = some (.pointer (some ⟨eb, 0, none⟩))) (first | exact k0 | exact z0 | go_keep)
        (first
          | (go_at_call 61; refine (ftip_at K p eb sg N b ao cap Z sc fb fc F lb lc L tb tc T2 pa pc P v _ HW.out.drew HWN.out h2 (HRW.out.below' (below_drew (Below.refl _ wr))) HWK.out HPA.out hPb).mono ?_; rintro e w9 ⟨rfl, b9⟩; have z0 := cell_below (w := wr.drew) b9 k0; have k0 := z0; have HW9 := Lib.hid (HW.out.drew.next b9); have HO9 := Lib.hid ((HO.out.below (below_drew (Below.refl _ wr))).below b9); have HK9 := Lib.hid (HK.out.drew.trans' (Kept.of_below b9)); clear b9)
          | (go_at_call 49; refine (flast_at K eb sg N b ao cap Z sc _ (by first | exact HW9.out.ex | exact HW.out.drew.ex) h2 hNl).mono ?_; rintro e w8 ⟨rfl, rfl⟩; rw [HTT.out]))
      all_goals
        go_wp2
        refine bodyPost_ret (v := .tuple #[.slice pa P.length pc, .bool true]) (by simp [results, Try.results50, go_sem]) rfl ?_
        exact ⟨T2, HTI.out, HW9.out, HK9.out, .inl ⟨_, P, rfl, HO9.out, by rw [← HVT.out]; exact HDP.out⟩⟩
    · have hne : ((v : Int) != (N : Int) - 1) = true := by simp; omega
      have hbd := HTI.out.bd v hv
      obtain ⟨n, hn⟩ : ∃ n : Nat, atI T2 v = (n : Int) := ⟨(atI T2 v).toNat, by omega⟩
      rw [hn] at hbd
      have HN := Lib.hid hn
      have hsl := stepsU_len Z v
      have hvN : (v : Int) < (N : Int) := by omega
      have hv00 : (0 : Int) ≤ (v : Int) := by omega
      clear hn k3
      go_wp2_with fail
      go_region_held3 (fun W => W.cell? ⟨p, 0, none⟩ = some (.pointer (some ⟨eb, 0, none⟩))) (first | exact k0 | exact z0 | go_keep)
        (first
          | (go_at_call 61; refine (ftip_at K p eb sg N b ao cap Z sc fb fc F lb lc L tb tc T2 pa pc P v _ HW.out.drew HWN.out h2 (HRW.out.below' (below_drew (Below.refl _ wr))) HWK.out HPA.out hPb).mono ?_; rintro e w9 ⟨rfl, b9⟩; have z0 := cell_below (w := wr.drew) b9 k0; have k0 := z0; have HW9 := Lib.hid (HW.out.drew.next b9); have HO9 := Lib.hid ((HO.out.below (below_drew (Below.refl _ wr))).below b9); have HRW9 := Lib.hid ((HRW.out.below' (below_drew (Below.refl _ wr))).below' b9); have HK9 := Lib.hid (HK.out.drew.trans' (Kept.of_below b9)); clear b9)
          | (go_at_call 49; refine (flast_at K eb sg N b ao cap Z sc _ (by first | exact HW9.out.ex | exact HW.out.drew.ex) h2 hNl).mono ?_; rintro e w8 ⟨rfl, rfl⟩; rw [HTT.out]))
      all_goals
        go_wp2_with (first
          | (go_at_call 61; refine (ftip_at K p eb sg N b ao cap Z sc fb fc F lb lc L tb tc T2 pa pc P v _ HW9.out HWN.out h2 HRW9.out HWK.out HPA.out hPb).mono ?_; rintro e w10 ⟨rfl, b10⟩; have HWA := Lib.hid (HW9.out.next b10); have HOA := Lib.hid (HO9.out.below b10); have HKA := Lib.hid (HK9.out.trans' (Kept.of_below b10)); clear b10 z0))
        clear HW HO HRW HK HW9 HO9 HRW9 HK9 k0
        obtain ⟨ra, rc, hd, hrow, _⟩ := HWA.out.ex.steps v hv
        obtain ⟨k0, _, _, k3⟩ := HWA.out.cells
        obtain ⟨_, _, _, e3⟩ := HWA.out.ex.cells
        obtain ⟨ct, _⟩ := HWA.out.tried.cell (atI_get (d := T2) (v := v) (by rw [HTI.out.len]; exact hv))
        rw [HN.out] at ct
        unfold encI at ct
        by_cases hx : n < (stepsU Z v).length
        · obtain ⟨rb, ro, e, hrb, s0, s1⟩ := step_at hrow (List.getElem?_eq_getElem hx)
          cases e
          have HSY : Hid ((stepsU Z v)[(atI T2 v).toNat]? = some (stepsU Z v)[n]) := Lib.hid (by rw [HN.out, Int.toNat_natCast]; exact List.getElem?_eq_getElem hx)
          generalize (stepsU Z v)[n] = y at *
          obtain ⟨i, a, q, hi, ha, hy, hyf⟩ := stepsU_mem (List.mem_of_getElem? HSY.out)
          subst hy
          simp only at s0 s1
          obtain ⟨sl, hsle⟩ : ∃ sl, (stepsU Z v).length = sl := ⟨_, rfl⟩
          rw [hsle] at hd hx hsl hbd
          have HSL := Lib.hid hsle
          have hxi : (n : Int) < (sl : Int) := by omega
          have hxd : decide ((n : Int) < (sl : Int)) = true := by simpa using hx
          have hn00 : (0 : Int) ≤ (n : Int) := by omega
          clear ha hyf hrow hsle
          obtain ⟨dB, hdB⟩ : ∃ dB, descB Z F L ((i : Int), q) = dB := ⟨_, rfl⟩
          have HDB := Lib.hid hdB
          clear hdB
          go_quiet (fail)
          have HHD : Hid (HeldF p eb sg tb N sc tc v rb ro sl rc n i q (w10.drewN nq).drew) := Lib.hid ⟨⟨k0, e3, k3, hd⟩, ct, s0, s1⟩
          have HW := Lib.hid (HWA.out.drewN nq).drew
          have HO := Lib.hid (HOA.out.below (below_drew (below_drewN (Below.refl _ w10) nq)))
          have HK := Lib.hid (HKA.out.drewN nq).drew
          clear k0 k3 e3 ct hd s0 s1 hrb HWA HOA HKA
          go_wp2_with fail
          refine wp_region_held_drew (S := fun W => HeldF p eb sg tb N sc tc v rb ro sl rc n i q W) (by kernel_rfl) HHD.out (fun hHeld => ?_)
          generalize (w10.drewN nq).drew = wd at *
          refine wpAnyH_take (i := 0) (oi := { dst := some 56, op := Go.Op.move (Go.Operand.tmp 0), type := 61, pos := "timeflow.go:140", after := #[], guard := none }) (v := .pointer (some ⟨p, 0, none⟩)) rfl (by kernel_rfl) (by kernel_rfl) (by kernel_rfl) (fun _ _ _ h => h) (Or.inl ⟨by rfl, ?_⟩) (by assumption) ?_
          · (intro w hSw; (try dsimp only [HeldF] at hSw); go_simp)
          try simp only [Act.put, List.setIfInBounds_toArray, List.set_cons_zero, List.set_cons_succ]
          refine wpAnyH_take (i := 1) (oi := { dst := some 57, op := Go.Op.nilCheck (Go.Operand.tmp 56), type := 0, pos := "timeflow.go:140", after := #[{ on := 0, ground := Go.Ground.data }], guard := none }) (v := .pointer (some ⟨p, 0, none⟩)) rfl (by kernel_rfl) (by kernel_rfl) (by kernel_rfl) (fun _ _ _ h => h) (Or.inl ⟨by rfl, ?_⟩) (by assumption) ?_
          · (intro w hSw; (try dsimp only [HeldF] at hSw); go_simp)
          try simp only [Act.put, List.setIfInBounds_toArray, List.set_cons_zero, List.set_cons_succ]
          refine wpAnyH_take (i := 2) (oi := { dst := some 58, op := Go.Op.fieldAddr 67 (Go.Operand.tmp 57) 0, type := 0, pos := "timeflow.go:140", after := #[{ on := 1, ground := Go.Ground.data }], guard := none }) (v := .pointer (some ⟨p, 0, none⟩)) rfl (by kernel_rfl) (by kernel_rfl) (by kernel_rfl) (fun _ _ _ h => h) (Or.inl ⟨by rfl, ?_⟩) (by assumption) ?_
          · (intro w hSw; (try dsimp only [HeldF] at hSw); go_simp)
          try simp only [Act.put, List.setIfInBounds_toArray, List.set_cons_zero, List.set_cons_succ]
          refine wpAnyH_take (i := 3) (oi := { dst := some 59, op := Go.Op.load 58 (Go.Operand.tmp 58), type := 58, pos := "timeflow.go:140", after := #[{ on := 2, ground := Go.Ground.data }], guard := none }) (v := .pointer (some ⟨eb, 0, none⟩)) rfl (by kernel_rfl) (by kernel_rfl) (by kernel_rfl) (fun _ _ _ h => h) (Or.inl ⟨by rfl, ?_⟩) (by assumption) ?_
          · (intro w hSw; (try dsimp only [HeldF] at hSw); go_simp)
          try simp only [Act.put, List.setIfInBounds_toArray, List.set_cons_zero, List.set_cons_succ]
          refine wpAnyH_take (i := 4) (oi := { dst := some 60, op := Go.Op.nilCheck (Go.Operand.tmp 59), type := 0, pos := "timeflow.go:140", after := #[{ on := 3, ground := Go.Ground.data }], guard := none }) (v := .pointer (some ⟨eb, 0, none⟩)) rfl (by kernel_rfl) (by kernel_rfl) (by kernel_rfl) (fun _ _ _ h => h) (Or.inl ⟨by rfl, ?_⟩) (by assumption) ?_
          · (intro w hSw; (try dsimp only [HeldF] at hSw); go_simp)
          try simp only [Act.put, List.setIfInBounds_toArray, List.set_cons_zero, List.set_cons_succ]
          refine wpAnyH_take (i := 5) (oi := { dst := some 61, op := Go.Op.fieldAddr 90 (Go.Operand.tmp 60) 1, type := 0, pos := "timeflow.go:140", after := #[{ on := 4, ground := Go.Ground.data }], guard := none }) (v := .pointer (some ⟨eb, 3, none⟩)) rfl (by kernel_rfl) (by kernel_rfl) (by kernel_rfl) (fun _ _ _ h => h) (Or.inl ⟨by rfl, ?_⟩) (by assumption) ?_
          · (intro w hSw; (try dsimp only [HeldF] at hSw); go_simp)
          try simp only [Act.put, List.setIfInBounds_toArray, List.set_cons_zero, List.set_cons_succ]
          refine wpAnyH_take (i := 6) (oi := { dst := some 62, op := Go.Op.load 88 (Go.Operand.tmp 61), type := 88, pos := "timeflow.go:140", after := #[{ on := 5, ground := Go.Ground.data }], guard := none }) (v := .slice (some ⟨sg, 0, none⟩) N sc) rfl (by kernel_rfl) (by kernel_rfl) (by kernel_rfl) (fun _ _ _ h => h) (Or.inl ⟨by rfl, ?_⟩) (by assumption) ?_
          · (intro w hSw; (try dsimp only [HeldF] at hSw); go_simp)
          try simp only [Act.put, List.setIfInBounds_toArray, List.set_cons_zero, List.set_cons_succ]
          refine wpAnyH_take (i := 7) (oi := { dst := some 63, op := Go.Op.move (Go.Operand.tmp 6), type := 3, pos := "timeflow.go:140", after := #[], guard := none }) (v := .int .i64 (v : Int)) rfl (by kernel_rfl) (by kernel_rfl) (by kernel_rfl) (fun _ _ _ h => h) (Or.inl ⟨by rfl, ?_⟩) (by assumption) ?_
          · (intro w hSw; (try dsimp only [HeldF] at hSw); go_simp)
          try simp only [Act.put, List.setIfInBounds_toArray, List.set_cons_zero, List.set_cons_succ]
          refine wpAnyH_take (i := 8) (oi := { dst := some 64, op := Go.Op.indexAddr 88 (Go.Operand.tmp 62) (Go.Operand.tmp 63), type := 0, pos := "timeflow.go:140", after := #[{ on := 6, ground := Go.Ground.data }, { on := 7, ground := Go.Ground.data }], guard := none }) (v := .pointer (some ⟨sg, v, none⟩)) rfl (by kernel_rfl) (by kernel_rfl) (by kernel_rfl) (fun _ _ _ h => h) (Or.inl ⟨by rfl, ?_⟩) (by assumption) ?_
          · (intro w hSw; (try dsimp only [HeldF] at hSw); go_simp)
          try simp only [Act.put, List.setIfInBounds_toArray, List.set_cons_zero, List.set_cons_succ]
          refine wpAnyH_take (i := 9) (oi := { dst := some 65, op := Go.Op.load 94 (Go.Operand.tmp 64), type := 94, pos := "timeflow.go:140", after := #[{ on := 8, ground := Go.Ground.data }], guard := none }) (v := .slice (some ⟨rb, ro, none⟩) sl rc) rfl (by kernel_rfl) (by kernel_rfl) (by kernel_rfl) (fun _ _ _ h => h) (Or.inl ⟨by rfl, ?_⟩) (by assumption) ?_
          · (intro w hSw; (try dsimp only [HeldF] at hSw); go_simp)
          try simp only [Act.put, List.setIfInBounds_toArray, List.set_cons_zero, List.set_cons_succ]
          refine wpAnyH_take (i := 10) (oi := { dst := some 66, op := Go.Op.move (Go.Operand.tmp 0), type := 61, pos := "timeflow.go:140", after := #[], guard := none }) (v := .pointer (some ⟨p, 0, none⟩)) rfl (by kernel_rfl) (by kernel_rfl) (by kernel_rfl) (fun _ _ _ h => h) (Or.inl ⟨by rfl, ?_⟩) (by assumption) ?_
          · (intro w hSw; (try dsimp only [HeldF] at hSw); go_simp)
          try simp only [Act.put, List.setIfInBounds_toArray, List.set_cons_zero, List.set_cons_succ]
          refine wpAnyH_take (i := 11) (oi := { dst := some 67, op := Go.Op.nilCheck (Go.Operand.tmp 66), type := 0, pos := "timeflow.go:140", after := #[{ on := 10, ground := Go.Ground.data }], guard := none }) (v := .pointer (some ⟨p, 0, none⟩)) rfl (by kernel_rfl) (by kernel_rfl) (by kernel_rfl) (fun _ _ _ h => h) (Or.inl ⟨by rfl, ?_⟩) (by assumption) ?_
          · (intro w hSw; (try dsimp only [HeldF] at hSw); go_simp)
          try simp only [Act.put, List.setIfInBounds_toArray, List.set_cons_zero, List.set_cons_succ]
          refine wpAnyH_take (i := 12) (oi := { dst := some 68, op := Go.Op.fieldAddr 67 (Go.Operand.tmp 67) 3, type := 0, pos := "timeflow.go:140", after := #[{ on := 11, ground := Go.Ground.data }], guard := none }) (v := .pointer (some ⟨p, 3, none⟩)) rfl (by kernel_rfl) (by kernel_rfl) (by kernel_rfl) (fun _ _ _ h => h) (Or.inl ⟨by rfl, ?_⟩) (by assumption) ?_
          · (intro w hSw; (try dsimp only [HeldF] at hSw); go_simp)
          try simp only [Act.put, List.setIfInBounds_toArray, List.set_cons_zero, List.set_cons_succ]
          refine wpAnyH_take (i := 13) (oi := { dst := some 69, op := Go.Op.load 65 (Go.Operand.tmp 68), type := 65, pos := "timeflow.go:140", after := #[{ on := 12, ground := Go.Ground.data }], guard := none }) (v := .slice (some ⟨tb, 0, none⟩) N tc) rfl (by kernel_rfl) (by kernel_rfl) (by kernel_rfl) (fun _ _ _ h => h) (Or.inl ⟨by rfl, ?_⟩) (by assumption) ?_
          · (intro w hSw; (try dsimp only [HeldF] at hSw); go_simp)
          try simp only [Act.put, List.setIfInBounds_toArray, List.set_cons_zero, List.set_cons_succ]
          refine wpAnyH_take (i := 14) (oi := { dst := some 70, op := Go.Op.move (Go.Operand.tmp 6), type := 3, pos := "timeflow.go:140", after := #[], guard := none }) (v := .int .i64 (v : Int)) rfl (by kernel_rfl) (by kernel_rfl) (by kernel_rfl) (fun _ _ _ h => h) (Or.inl ⟨by rfl, ?_⟩) (by assumption) ?_
          · (intro w hSw; (try dsimp only [HeldF] at hSw); go_simp)
          try simp only [Act.put, List.setIfInBounds_toArray, List.set_cons_zero, List.set_cons_succ]
          refine wpAnyH_take (i := 15) (oi := { dst := some 71, op := Go.Op.indexAddr 65 (Go.Operand.tmp 69) (Go.Operand.tmp 70), type := 0, pos := "timeflow.go:140", after := #[{ on := 13, ground := Go.Ground.data }, { on := 14, ground := Go.Ground.data }], guard := none }) (v := .pointer (some ⟨tb, v, none⟩)) rfl (by kernel_rfl) (by kernel_rfl) (by kernel_rfl) (fun _ _ _ h => h) (Or.inl ⟨by rfl, ?_⟩) (by assumption) ?_
          · (intro w hSw; (try dsimp only [HeldF] at hSw); go_simp)
          try simp only [Act.put, List.setIfInBounds_toArray, List.set_cons_zero, List.set_cons_succ]
          refine wpAnyH_take (i := 16) (oi := { dst := some 72, op := Go.Op.load 3 (Go.Operand.tmp 71), type := 3, pos := "timeflow.go:140", after := #[{ on := 15, ground := Go.Ground.data }], guard := none }) (v := .int .i64 (n : Int)) rfl (by kernel_rfl) (by kernel_rfl) (by kernel_rfl) (fun _ _ _ h => h) (Or.inl ⟨by rfl, ?_⟩) (by assumption) ?_
          · (intro w hSw; (try dsimp only [HeldF] at hSw); go_simp)
          try simp only [Act.put, List.setIfInBounds_toArray, List.set_cons_zero, List.set_cons_succ]
          refine wpAnyH_take (i := 17) (oi := { dst := some 73, op := Go.Op.indexAddr 94 (Go.Operand.tmp 65) (Go.Operand.tmp 72), type := 0, pos := "timeflow.go:140", after := #[{ on := 9, ground := Go.Ground.data }, { on := 16, ground := Go.Ground.data }], guard := none }) (v := .pointer (some ⟨rb, (ro + n * 2), none⟩)) rfl (by kernel_rfl) (by kernel_rfl) (by kernel_rfl) (fun _ _ _ h => h) (Or.inl ⟨by rfl, ?_⟩) (by assumption) ?_
          · (intro w hSw; (try dsimp only [HeldF] at hSw); go_simp)
          try simp only [Act.put, List.setIfInBounds_toArray, List.set_cons_zero, List.set_cons_succ]
          refine wpAnyH_take (i := 18) (oi := { dst := some 74, op := Go.Op.load 93 (Go.Operand.tmp 73), type := 93, pos := "timeflow.go:140", after := #[{ on := 17, ground := Go.Ground.data }], guard := none }) (v := .agg #[.int .i64 (i : Int), .bool q]) rfl (by kernel_rfl) (by kernel_rfl) (by kernel_rfl) (fun _ _ _ h => h) (Or.inl ⟨by rfl, ?_⟩) (by assumption) ?_
          · (intro w hSw; (try dsimp only [HeldF] at hSw); go_simp)
          try simp only [Act.put, List.setIfInBounds_toArray, List.set_cons_zero, List.set_cons_succ]
          refine wpAnyH_ready (rs := [19]) (by kernel_rfl) (by simp) (AllReadyH.cons (o := { dst := some 7, op := Go.Op.alloc 93, type := 0, pos := "timeflow.go:140", after := #[], guard := none }) rfl (fun KQ hK => ?_) (AllReadyH.nil))
          obtain ⟨xb, hxb⟩ : ∃ xb, wd.heap.size = xb := ⟨_, rfl⟩
          go_simp
          have b5 := (Below.refl _ wd).alloc (Nat.le_refl _) (.cells #[.int .i64 0, .bool false] 93)
          have n5 := heap_alloc_new wd (.cells #[.int .i64 0, .bool false] 93)
          have n50 := cell_whole n5 0
          have n51 := cell_whole n5 1
          have f50 := frozen_whole n5 0
          have f51 := frozen_whole n5 1
          refine hK.out _ _ (HHD.out.below b5) (fun hHeld => ?_)
          clear hK
          try simp only [Act.put, List.setIfInBounds_toArray, List.set_cons_zero, List.set_cons_succ]
          refine wpAnyH_ready (rs := [20]) (by kernel_rfl) (by simp) (AllReadyH.cons (o := { dst := none, op := Go.Op.store 93 (Go.Operand.tmp 7) (Go.Operand.tmp 74), type := 0, pos := "timeflow.go:140", after := #[{ on := 19, ground := Go.Ground.data }, { on := 18, ground := Go.Ground.data }, { on := 0, ground := Go.Ground.phase }, { on := 1, ground := Go.Ground.phase }, { on := 2, ground := Go.Ground.phase }, { on := 3, ground := Go.Ground.phase }, { on := 4, ground := Go.Ground.phase }, { on := 5, ground := Go.Ground.phase }, { on := 6, ground := Go.Ground.phase }, { on := 7, ground := Go.Ground.phase }, { on := 8, ground := Go.Ground.phase }, { on := 9, ground := Go.Ground.phase }, { on := 10, ground := Go.Ground.phase }, { on := 11, ground := Go.Ground.phase }, { on := 12, ground := Go.Ground.phase }, { on := 13, ground := Go.Ground.phase }, { on := 14, ground := Go.Ground.phase }, { on := 15, ground := Go.Ground.phase }, { on := 16, ground := Go.Ground.phase }, { on := 17, ground := Go.Ground.phase }, { on := 18, ground := Go.Ground.phase }, { on := 19, ground := Go.Ground.phase }], guard := none }) rfl (fun KQ hK => ?_) (AllReadyH.nil))
          go_simp
          have b6 := (Below.refl _ wd).alloc (Nat.le_refl _) (.cells #[.int .i64 (i : Int), .bool q] 93)
          have HB6 := Lib.hid b6
          have HX6 := Lib.hid (heap_alloc_new wd (.cells #[.int .i64 (i : Int), .bool q] 93))
          clear hHeld n50 n51 f50 f51
          refine hK.out _ _ (HHD.out.below b6) (fun hHeld => ?_)
          clear hK b5 b6 n5
          try simp only [Act.put, List.setIfInBounds_toArray, List.set_cons_zero, List.set_cons_succ]
          refine wpAnyH_done (by kernel_rfl) ?_ _
          clear hHeld
          have HW := Lib.hid (HW.out.next HB6.out)
          have HO := Lib.hid (HO.out.below HB6.out)
          have HK0 := Lib.hid HK.out
          have HK := Lib.hid (HK.out.trans' (Kept.of_below HB6.out))
          rw [hxb] at HX6
          have HXB : Hid (xb < (wd.alloc (.cells #[.int .i64 (i : Int), .bool q] 93)).heap.size ∧ w.heap.size ≤ xb) := Lib.hid ⟨lt_whole HX6.out, by have := HK0.out.size; omega⟩
          clear HHD hxb HK0
          generalize wd.alloc (.cells #[.int .i64 (i : Int), .bool q] 93) = w5 at *
          have x0 := cell_whole HX6.out 0
          have x1 := cell_whole HX6.out 1
          obtain ⟨u, hu⟩ : ∃ u, toS Z ((i : Int), q) = u := ⟨_, rfl⟩
          have huN : u < N := by rw [← hu]; exact (HWN.out.arc hi q).2.2
          have HTO := Lib.hid hu
          clear hu
          cases dB
          · have HMB : Hid (muT Z N (T2.set v ((n : Int) + 1)) P < muT Z N T2 P) := Lib.hid (by rw [← HN.out]; exact muT_bump HTI.out hv (by rw [HN.out, HSL.out]; exact hxi) P P (by omega))
            have HT3 : Hid (TI Z N (T2.set v ((n : Int) + 1))) := Lib.hid (by rw [← HN.out]; exact HTI.out.bump hv (by rw [HN.out, HSL.out]; exact hxi))
            have HP3 : Hid (DP Z F L (T2.set v ((n : Int) + 1)) (N - 2) P v) := Lib.hid (HDP.out.bump _ (by rw [HTI.out.len]; exact hv))
            have HD3 : Hid (DT Z F L N (N - 1) T → DT Z F L N (N - 1) (T2.set v ((n : Int) + 1))) := Lib.hid (fun h0 => by rw [← HN.out]; exact (HDT.out h0).bump HTI.out hv HSY.out (dead_no HDB.out))
            have hwn : IntKind.i64.wrap ((n : Int) + 1) = (n : Int) + 1 := IntWalk.i64_in _ (by omega)
            go_wp2_with (first
              | (go_at_call 62; refine (fdescends_is K p eb sg N b ao cap Z sc fb fc F lb lc L tb tc T2 i q false _ HW.out HWN.out HFF.out hi HLB.out HDB.out).mono ?_; rintro e w6 ⟨rfl, b6⟩; have HW6 := Lib.hid (HW.out.next b6); have HO6 := Lib.hid (HO.out.below b6); have HK6 := Lib.hid (HK.out.trans' (Kept.of_below b6)); obtain ⟨_, _, _, k3⟩ := HW6.out.cells; obtain ⟨ct, cf⟩ := HW6.out.tried.cell (atI_get (d := T2) (v := v) (by rw [HTI.out.len]; exact hv)); rw [HN.out] at ct; unfold encI at ct; clear b6 x0 x1))
            go_roundg (muT Z N (T2.set v ((n : Int) + 1)) P + 1)
            case measure => have h1 := HMB.out; have h2 := HMU.out; omega
            case rel => exact ⟨v, P, T2.set v ((n : Int) + 1), hv, Lib.hid (Nat.lt_succ_self _), HT3, HP3, HD3, Lib.hid (HW6.out.setT v _), Lib.hid (ownS_kept HO6.out ((Kept.refl (fun i => i = tb) w6).set (.inl rfl) _) (fun g e q => by have h1 := own_block HO6.out e; have e2 : g = tb := q; have := HBB.out; omega)), Lib.hid (HK6.out.set (.inl (.inl rfl)) _)⟩
          · have HP3 : Hid (DP Z F L T2 (N - 2) (P ++ [((i : Int), q)]) u) := Lib.hid (by rw [← HTO.out]; exact HDP.out.push HSY.out HDB.out)
            have HMB : Hid (muT Z N T2 (P ++ [((i : Int), q)]) < muT Z N T2 P) := Lib.hid (muT_push P _ (by omega))
            go_wp2_with (first
              | (go_at_call 62; refine (fdescends_is K p eb sg N b ao cap Z sc fb fc F lb lc L tb tc T2 i q true _ HW.out HWN.out HFF.out hi HLB.out HDB.out).mono ?_; rintro e w6 ⟨rfl, b6⟩; have HW6 := Lib.hid (HW.out.next b6); have HO6 := Lib.hid (HO.out.below b6); have HK6 := Lib.hid (HK.out.trans' (Kept.of_below b6)); have x0 := cell_below b6 x0; have x1 := cell_below b6 x1; have hs6 : w.heap.size ≤ w6.heap.size := HK6.out.size; clear b6)
              | (at_builtin; refine wpList_append_step rfl _ _ rfl B _ P ((i : Int), q) rfl (HO6.out.alloc (.cells #[.int .i64 (i : Int), .bool q] 93)) _ 1 rfl (cells2 _ _ _ (by simp) _ _) (by omega) (by simp; omega) ?_; intro g8 cap8 w8 ho8 hg8 hl8 hb8 hlt8; have k68 : Kept (fun i => B ≤ i) w6 w8 := (((Kept.refl _ w6).alloc (.cells #[.int .i64 (i : Int), .bool q] 93)).trans (Kept.of_grown (S := fun i => B ≤ i) hg8 (fun k e => own_block HO6.out e)) (fun i _ h => h)); have HO8 := Lib.hid ho8; have HK8 : Hid (Kept (fun i => i = tb ∨ B ≤ i) w w8) := Lib.hid (HK6.out.trans k68 (fun i _ h => .inr h)); have HW8 := Lib.hid (HW6.out.off k68 (fun i _ h => h) HBB.out); clear ho8 hg8 hl8 k68 x0 x1))
            go_roundg (muT Z N T2 (P ++ [((i : Int), q)]) + 1)
            case measure => have h1 := HMB.out; have h2 := HMU.out; omega
            case rel => exact ⟨u, P ++ [((i : Int), q)], T2, huN, Lib.hid (Nat.lt_succ_self _), HTI, HP3, HDT, HW8, HO8, HK8⟩
        · have hxi : ¬ (n : Int) < ((stepsU Z v).length : Int) := by omega
          have HSH : Hid (DT Z F L N (N - 1) T → Shut Z F L (N - 1) v) := Lib.hid (fun h0 => (HDT.out h0).shut hv (by rw [HN.out]; exact hxi) hvt)
          obtain ⟨sl, hsle⟩ : ∃ sl, (stepsU Z v).length = sl := ⟨_, rfl⟩
          rw [hsle] at hd hx hxi hsl hbd
          have hxd : decide ((n : Int) < (sl : Int)) = false := by simpa using hxi
          clear hrow hsle
          rcases List.eq_nil_or_concat P with hp | ⟨Q, y, hp⟩
          · subst hp
            have HVS : Hid (N - 2 = v) := Lib.hid HDP.out.walk
            go_quiet (fail)
            go_wp2
            refine bodyPost_ret (v := .tuple #[.slice none 0 0, .bool false]) (by simp [results, Try.results50, go_sem]) rfl ?_
            exact ⟨T2, HTI.out, HWA.out.drewN nq, HKA.out.drewN nq, .inr ⟨rfl, by rw [HVS.out]; exact HSH.out⟩⟩
          · obtain rfl : P = Q ++ [y] := by simpa using hp
            clear hp
            obtain ⟨hp1, hp2, hp3⟩ := HDP.out.pop
            obtain ⟨ya, yd⟩ := HDP.out.all y (by simp)
            obtain ⟨yi, q⟩ := y
            obtain ⟨i, rfl, hi⟩ := isArc_nat ya
            obtain ⟨u, hu⟩ : ∃ u, fromS Z ((i : Int), q) = u := ⟨_, rfl⟩
            have huN : u < N := by rw [← hu]; exact (HWN.out.arc hi q).2.1
            rw [hu] at hp1 hp3
            obtain ⟨g, c, e, hg1, hg2, hg3, hg4⟩ := ownS_form HOA.out (by simp)
            have hO := HOA.out
            rw [e] at hO
            injection e with e1 e2 e3'
            subst e1
            subst e3'
            rw [List.length_append, List.length_singleton] at hPl hg3 hPb
            have hOQ := ownS_take hO
            have HOQ := Lib.hid hOQ
            obtain ⟨m, hm⟩ : ∃ m : Nat, atI T2 u = (m : Int) := ⟨(atI T2 u).toNat, by have := (HTI.out.bd u huN).1; omega⟩
            have hml : m < (stepsU Z u).length := by
              have h1 := (List.getElem?_eq_some_iff.1 hp3).1
              rw [hm, Int.toNat_natCast] at h1
              exact h1
            have hsl2 := stepsU_len Z u
            have hmb : m ≤ 100000 := by omega
            have HM := Lib.hid hm
            have hTl : atI T2 u < ((stepsU Z u).length : Int) := by rw [hm]; omega
            have HMB : Hid (muT Z N (T2.set u ((m : Int) + 1)) Q < muT Z N T2 (Q ++ [((i : Int), q)])) := Lib.hid (by rw [← hm]; exact muT_bump HTI.out huN hTl _ _ (by simp))
            have HT3 : Hid (TI Z N (T2.set u ((m : Int) + 1))) := Lib.hid (by rw [← hm]; exact HTI.out.bump huN hTl)
            have HP3 : Hid (DP Z F L (T2.set u ((m : Int) + 1)) (N - 2) Q u) := Lib.hid (hp1.bump _ (by rw [HTI.out.len]; exact huN))
            have HD3 : Hid (DT Z F L N (N - 1) T → DT Z F L N (N - 1) (T2.set u ((m : Int) + 1))) := Lib.hid (fun h0 => by rw [← hm]; exact (HDT.out h0).bump HTI.out huN hp3 (shut_dead (by rw [hp2]; exact HSH.out h0)))
            have HQW := Lib.hid hp1.walk
            have HQA : Hid (∀ y ∈ Q, isArc Z y) := Lib.hid (fun y hy => (hp1.all y hy).1)
            have hQb : Q.length ≤ 100000 := by omega
            have huNi : (u : Int) < (N : Int) := by omega
            have hu00 : (0 : Int) ≤ (u : Int) := by omega
            have hc0 : ¬ pc = 0 := by omega
            have hwm : IntKind.i64.wrap ((m : Int) + 1) = (m : Int) + 1 := IntWalk.i64_in _ (by omega)
            rw [show (Q ++ [((i : Int), q)]).length = Q.length + 1 by simp]
            have hne2 : (((Q.length + 1 : Nat) : Int) == 0) = false := by simp; omega
            have q0 : IntKind.i64.wrap (((Q.length + 1 : Nat) : Int) - 1) = (Q.length : Int) := by rw [IntKind.wrap_i64]; omega
            clear hp1 hp2 hp3 ya yd hu hO hOQ hm hml hsl2 hTl e2
            go_quiet (fail)
            have HWD := Lib.hid (HWA.out.drewN nq).drew
            have HOD := Lib.hid (HOQ.out.below (below_drew (below_drewN (Below.refl _ w10) nq)))
            have HKD := Lib.hid (HKA.out.drewN nq).drew
            have HE3 : Hid ((w10.drewN nq).drew.cell? ⟨p, 3, none⟩ = some (.slice (some ⟨tb, 0, none⟩) N tc)) := Lib.hid k3
            clear k0 k3 e3 ct hd HWA HOA HKA HOQ
            go_wp2_with fail
            refine wp_region_held_drew (S := fun W => HeldF3 p tb N tc W) (by kernel_rfl) HE3.out (fun hHeld => ?_)
            clear HE3
            generalize (w10.drewN nq).drew = wd at *
            have HCALL := Lib.hid (ftip_is K p eb sg N b ao cap Z sc fb fc F lb lc L tb tc T2 (some ⟨g, 0, none⟩) pc Q.length Q u wd HWD.out HWN.out h2 rfl (own_rowK encS_len HOD.out) HQW.out HQA.out hQb)
            refine wpAnyH_take (i := 0) (oi := { dst := some 25, op := Go.Op.move (Go.Operand.tmp 0), type := 61, pos := "timeflow.go:150", after := #[], guard := none }) (v := .pointer (some ⟨p, 0, none⟩)) rfl (by kernel_rfl) (by kernel_rfl) (by kernel_rfl) (fun _ _ _ h => h) (Or.inl ⟨by rfl, ?_⟩) (by assumption) ?_
            · (intro w hSw; (try dsimp only [HeldF3] at hSw); go_simp)
            try simp only [Act.put, List.setIfInBounds_toArray, List.set_cons_zero, List.set_cons_succ]
            refine wpAnyH_take (i := 1) (oi := { dst := some 26, op := Go.Op.nilCheck (Go.Operand.tmp 25), type := 0, pos := "timeflow.go:150", after := #[{ on := 0, ground := Go.Ground.data }], guard := none }) (v := .pointer (some ⟨p, 0, none⟩)) rfl (by kernel_rfl) (by kernel_rfl) (by kernel_rfl) (fun _ _ _ h => h) (Or.inl ⟨by rfl, ?_⟩) (by assumption) ?_
            · (intro w hSw; (try dsimp only [HeldF3] at hSw); go_simp)
            try simp only [Act.put, List.setIfInBounds_toArray, List.set_cons_zero, List.set_cons_succ]
            refine wpAnyH_take (i := 2) (oi := { dst := some 27, op := Go.Op.fieldAddr 67 (Go.Operand.tmp 26) 3, type := 0, pos := "timeflow.go:150", after := #[{ on := 1, ground := Go.Ground.data }], guard := none }) (v := .pointer (some ⟨p, 3, none⟩)) rfl (by kernel_rfl) (by kernel_rfl) (by kernel_rfl) (fun _ _ _ h => h) (Or.inl ⟨by rfl, ?_⟩) (by assumption) ?_
            · (intro w hSw; (try dsimp only [HeldF3] at hSw); go_simp)
            try simp only [Act.put, List.setIfInBounds_toArray, List.set_cons_zero, List.set_cons_succ]
            refine wpAnyH_take (i := 3) (oi := { dst := some 28, op := Go.Op.load 65 (Go.Operand.tmp 27), type := 65, pos := "timeflow.go:150", after := #[{ on := 2, ground := Go.Ground.data }], guard := none }) (v := .slice (some ⟨tb, 0, none⟩) N tc) rfl (by kernel_rfl) (by kernel_rfl) (by kernel_rfl) (fun _ _ _ h => h) (Or.inl ⟨by rfl, ?_⟩) (by assumption) ?_
            · (intro w hSw; (try dsimp only [HeldF3] at hSw); go_simp)
            try simp only [Act.put, List.setIfInBounds_toArray, List.set_cons_zero, List.set_cons_succ]
            refine wpAnyH_take (i := 4) (oi := { dst := some 29, op := Go.Op.move (Go.Operand.tmp 0), type := 61, pos := "timeflow.go:150", after := #[], guard := none }) (v := .pointer (some ⟨p, 0, none⟩)) rfl (by kernel_rfl) (by kernel_rfl) (by kernel_rfl) (fun _ _ _ h => h) (Or.inl ⟨by rfl, ?_⟩) (by assumption) ?_
            · (intro w hSw; (try dsimp only [HeldF3] at hSw); go_simp)
            try simp only [Act.put, List.setIfInBounds_toArray, List.set_cons_zero, List.set_cons_succ]
            refine wpAnyH_take (i := 5) (oi := { dst := some 30, op := Go.Op.move (Go.Operand.tmp 1), type := 94, pos := "timeflow.go:150", after := #[], guard := none }) (v := .slice (some ⟨g, 0, none⟩) Q.length pc) rfl (by kernel_rfl) (by kernel_rfl) (by kernel_rfl) (fun _ _ _ h => h) (Or.inl ⟨by rfl, ?_⟩) (by assumption) ?_
            · (intro w hSw; (try dsimp only [HeldF3] at hSw); go_simp)
            try simp only [Act.put, List.setIfInBounds_toArray, List.set_cons_zero, List.set_cons_succ]
            refine wpAnyH_ready (rs := [6]) (by kernel_rfl) (by simp) (AllReadyH.cons (o := { dst := some 31, op := Go.Op.call { callee := Go.Callee.value (Go.Operand.func 61), args := #[Go.Operand.tmp 29, Go.Operand.tmp 30], argTypes := #[61, 94] }, type := 3, pos := "timeflow.go:150", after := #[{ on := 4, ground := Go.Ground.data }, { on := 5, ground := Go.Ground.data }], guard := none }) rfl (fun KQ hK => ?_) (AllReadyH.nil))
            go_simp
            refine HCALL.out.mono ?_
            rintro e w9 ⟨rfl, b9⟩
            have HW9 := Lib.hid (HWD.out.next b9)
            have HO9 := Lib.hid (HOD.out.below b9)
            have HK9 := Lib.hid (HKD.out.trans' (Kept.of_below b9))
            clear b9 hHeld
            go_wp2_with fail
            refine hK.out _ _ HW9.out.cells.2.2.2 (fun hHeld => ?_)
            clear hK
            try simp only [Act.put, List.setIfInBounds_toArray, List.set_cons_zero, List.set_cons_succ]
            refine wpAnyH_take (i := 7) (oi := { dst := some 32, op := Go.Op.indexAddr 65 (Go.Operand.tmp 28) (Go.Operand.tmp 31), type := 0, pos := "timeflow.go:150", after := #[{ on := 3, ground := Go.Ground.data }, { on := 6, ground := Go.Ground.data }], guard := none }) (v := .pointer (some ⟨tb, u, none⟩)) rfl (by kernel_rfl) (by kernel_rfl) (by kernel_rfl) (fun _ _ _ h => h) (Or.inl ⟨by rfl, ?_⟩) (by assumption) ?_
            · (intro w hSw; (try dsimp only [HeldF3] at hSw); go_simp)
            try simp only [Act.put, List.setIfInBounds_toArray, List.set_cons_zero, List.set_cons_succ]
            refine wpAnyH_ready (rs := [8]) (by kernel_rfl) (by simp) (AllReadyH.cons (o := { dst := some 33, op := Go.Op.load 3 (Go.Operand.tmp 32), type := 3, pos := "timeflow.go:150", after := #[{ on := 7, ground := Go.Ground.data }], guard := none }) rfl (fun KQ hK => ?_) (AllReadyH.nil))
            obtain ⟨ct, cf⟩ := HW9.out.tried.cell (atI_get (d := T2) (v := u) (by rw [HTI.out.len]; exact huN))
            rw [HM.out] at ct
            unfold encI at ct
            go_simp
            refine hK.out _ _ HW9.out.cells.2.2.2 (fun hHeld => ?_)
            clear hK
            try simp only [Act.put, List.setIfInBounds_toArray, List.set_cons_zero, List.set_cons_succ]
            refine wpAnyH_take (i := 9) (oi := { dst := some 34, op := Go.Op.binOp Go.BinOp.add 3 (Go.Operand.tmp 33) (Go.Operand.const (Go.Value.int Go.IntKind.i64 1)) 3, type := 3, pos := "timeflow.go:150", after := #[{ on := 8, ground := Go.Ground.data }], guard := none }) (v := .int .i64 ((m : Int) + 1)) rfl (by kernel_rfl) (by kernel_rfl) (by kernel_rfl) (fun _ _ _ h => h) (Or.inl ⟨by rfl, ?_⟩) (by assumption) ?_
            · (intro w hSw; (try dsimp only [HeldF3] at hSw); go_simp)
            try simp only [Act.put, List.setIfInBounds_toArray, List.set_cons_zero, List.set_cons_succ]
            refine wpAnyH_take (i := 10) (oi := { dst := some 35, op := Go.Op.indexAddr 65 (Go.Operand.tmp 28) (Go.Operand.tmp 31), type := 0, pos := "timeflow.go:150", after := #[{ on := 3, ground := Go.Ground.data }, { on := 6, ground := Go.Ground.data }, { on := 0, ground := Go.Ground.phase }, { on := 1, ground := Go.Ground.phase }, { on := 2, ground := Go.Ground.phase }, { on := 3, ground := Go.Ground.phase }, { on := 4, ground := Go.Ground.phase }, { on := 5, ground := Go.Ground.phase }, { on := 6, ground := Go.Ground.phase }, { on := 7, ground := Go.Ground.phase }, { on := 8, ground := Go.Ground.phase }, { on := 9, ground := Go.Ground.phase }], guard := none }) (v := .pointer (some ⟨tb, u, none⟩)) rfl (by kernel_rfl) (by kernel_rfl) (by kernel_rfl) (fun _ _ _ h => h) (Or.inl ⟨by rfl, ?_⟩) (by assumption) ?_
            · (intro w hSw; (try dsimp only [HeldF3] at hSw); go_simp)
            try simp only [Act.put, List.setIfInBounds_toArray, List.set_cons_zero, List.set_cons_succ]
            refine wpAnyH_ready (rs := [11]) (by kernel_rfl) (by simp) (AllReadyH.cons (o := { dst := none, op := Go.Op.store 3 (Go.Operand.tmp 35) (Go.Operand.tmp 34), type := 0, pos := "timeflow.go:150", after := #[{ on := 10, ground := Go.Ground.data }, { on := 9, ground := Go.Ground.data }, { on := 6, ground := Go.Ground.chain }, { on := 0, ground := Go.Ground.phase }, { on := 1, ground := Go.Ground.phase }, { on := 2, ground := Go.Ground.phase }, { on := 3, ground := Go.Ground.phase }, { on := 4, ground := Go.Ground.phase }, { on := 5, ground := Go.Ground.phase }, { on := 6, ground := Go.Ground.phase }, { on := 7, ground := Go.Ground.phase }, { on := 8, ground := Go.Ground.phase }, { on := 9, ground := Go.Ground.phase }], guard := none }) rfl (fun KQ hK => ?_) (AllReadyH.nil))
            go_simp
            have HW10 := Lib.hid (HW9.out.setT u ((m : Int) + 1))
            have HO10 : Hid (OwnS (w9.setCell ⟨tb, u, none⟩ (.int .i64 ((m : Int) + 1))) B (.slice (some ⟨g, 0, none⟩) Q.length pc) Q) := Lib.hid (ownS_kept HO9.out ((Kept.refl (fun i => i = tb) w9).set (.inl rfl) (.int .i64 ((m : Int) + 1))) (fun g' e q => by have h1 := own_block HO9.out e; have e2 : g' = tb := q; have := HBB.out; omega))
            have HK10 : Hid (Kept (fun i => i = tb ∨ B ≤ i) w (w9.setCell ⟨tb, u, none⟩ (.int .i64 ((m : Int) + 1)))) := Lib.hid (HK9.out.set (.inl (.inl rfl)) _)
            clear hHeld
            refine hK.out _ _ HW10.out.cells.2.2.2 (fun hHeld => ?_)
            clear hK ct cf
            try simp only [Act.put, List.setIfInBounds_toArray, List.set_cons_zero, List.set_cons_succ]
            refine wpAnyH_done (by kernel_rfl) ?_ _
            clear hHeld
            go_wp2
            go_roundg (muT Z N (T2.set u ((m : Int) + 1)) Q + 1)
            case measure => have h1 := HMB.out; have h2 := HMU.out; omega
            case rel => exact ⟨u, Q, T2.set u ((m : Int) + 1), huN, Lib.hid (Nat.lt_succ_self _), HT3, HP3, HD3, HW10, HO10, HK10⟩
end
end Go.Proofs.Ytlkbohpnlbfopaa
namespace Go.Proofs.Ytlkbohpnlbfopaa
open Go.RowKit
set_option linter.unusedVariables false
theorem DP.lt {Z : List ArcT} {F L T : List Int} {N s v : Nat} {P : List StepT} (h : DP Z F L T s P v) (hW : WideNet Z N) (hs : s < N) : v < N := by
  rcases List.eq_nil_or_concat P with hp | ⟨Q, y, hp⟩
  · subst hp
    have : s = v := h.walk
    omega
  · obtain rfl : P = Q ++ [y] := by simpa using hp
    obtain ⟨_, _, _, hy⟩ := walk_app.1 h.walk
    have ha := (h.all y (by simp)).1
    obtain ⟨yi, q⟩ := y
    obtain ⟨i, rfl, hi⟩ := isArc_nat ha
    have h1 := (hW.arc hi q).2.2
    have h2 : toS Z ((i : Int), q) = v := hy
    omega
def BlockV (K p eb sg N : Nat) (b : Bool) (ao : Option Addr) (cap : Nat) (Z : List ArcT) (sc fb fc lb lc : Nat) (L : List Int) (tb tc : Nat) (v0 : Int) (w : World) (e : Ending) (w' : World) : Prop :=
  ∃ F' T' v, e = .returned (.tuple #[]) ∧ SolW w' K p eb sg N b ao cap Z sc fb fc F' lb lc L tb tc T' ∧ Kept (fun i => i = fb ∨ i = tb) w w' ∧ FlowST Z N (N - 2) (N - 1) F' v ∧ v0 < v
section
variable (K p eb sg N : Nat) (b : Bool) (ao : Option Addr) (cap : Nat) (Z : List ArcT) (sc fb fc : Nat) (F : List Int) (lb lc : Nat) (L : List Int) (tb tc : Nat) (T : List Int)
set_option maxRecDepth 100000 in
set_option maxHeartbeats 8000000 in
theorem fblock_at (v0 : Int) (w : World) (h : SolW w K p eb sg N b ao cap Z sc fb fc F lb lc L tb tc T) (hW : WideNet Z N) (hL : L = farsL (seekN Z F N (N - 2)) N) (hv : FlowST Z N (N - 2) (N - 1) F v0) (h2 : 2 ≤ N) (hfar : farX (seekN Z F N (N - 2)) (N - 1) ≠ -1) :
    Calls Try.prog 35 #[.pointer (some ⟨p, 0, none⟩)] w (BlockV K p eb sg N b ao cap Z sc fb fc lb lc L tb tc v0 w) := by
  have hNl := hW.nodes
  have hs : N - 2 < N := by omega
  obtain ⟨hsk, hat, hz0⟩ := wide_levs hW hv.1 hs
  have hop := wide_open hW hv.1 hs hfar
  rw [← hL] at hat hop
  have HOP := Lib.hid hop
  have HLB : Hid (∀ v, v < N → -1 ≤ atI L v ∧ atI L v < (N : Int)) := Lib.hid (fun v hv => by rw [(hat v hv).1]; exact (hat v hv).2)
  have HLS : Hid (atI L (N - 2) = 0) := Lib.hid (by rw [(hat _ hs).1]; exact hz0)
  obtain ⟨M, hM⟩ : ∃ M, mostV Z (N - 2) = M := ⟨_, rfl⟩
  have hne : N - 2 ≠ N - 1 := by omega
  have HM : Hid (∀ f k, FlowST Z N (N - 2) (N - 1) f k → k ≤ M) := Lib.hid (fun f k h => by rw [← hM]; exact le_mostV hW.lt hs hne h)
  have HNE := Lib.hid hne
  have HWN := Lib.hid hW
  have HV := Lib.hid hv
  have H := Lib.hid h
  have HLT := Lib.hid h.lt
  have HN := Lib.hid h.ne
  have hTl := h.lens.2.2
  obtain ⟨_, _, _, k3⟩ := h.cells
  have h3 := setCells_zero h.tried hTl
  have HW3 := Lib.hid (h.keptT h3.2 (fun i _ e => e) h3.1 (by simp))
  have HK3 := Lib.hid h3.2
  have HTR := Lib.hid h.tried
  clear h hW hL hv hfar hsk hat hz0 hop hM hne h3
  go_enter Try.func35, Try.ntmps35
  go_wp2_with (first
    | (show wpList Try.prog _ _ ({ dst := none, op := Go.Op.call { callee := Go.Callee.builtin Go.Builtin.clear, args := _, argTypes := _ }, type := _, pos := _, after := _, guard := _ } :: _) _ _; refine wpList_clear_ints rfl _ rfl rfl K tb N tc T rfl (by omega) hTl HTR.out ?_; generalize w.setCells tb 0 (List.replicate N (.int .i64 0)) = w3 at *))
  refine (flead_at K p eb sg N b ao cap Z sc fb fc F lb lc L tb tc (List.replicate N 0) w.heap.size (.slice none 0 0) [] (N - 2) _ HW3.out HWN.out HV.out.1 h2 HLB.out HLS.out (TI.start Z N) (DP.start _) hs (OwnS.nil _ _) (by have := HLT.out; omega) HK3.out.size).mono ?_
  rintro e w4 ⟨T4, hT4, hw4, hk4, hor⟩
  have HT4 := Lib.hid hT4
  have HW4 := Lib.hid hw4
  have HK4 : Hid (Kept (fun i => i = fb ∨ i = tb) w w4) := Lib.hid ((HK3.out.mono (fun i _ e => .inr e)).trans hk4 (fun i hi e => by rcases e with e | e; exact .inr e; omega))
  clear hT4 hw4 hk4
  rcases hor with ⟨pv, P, rfl, hP, hD⟩ | ⟨rfl, hsh⟩
  · have HP := Lib.hid hP
    have HD := Lib.hid hD
    clear hP hD
    go_wp2
    go_loopg [2, 3] ((M - v0).toNat + 1) (fun k pv ov wr => ∃ F T v okB, ov = .bool okB ∧ Hid ((M - v).toNat < k) ∧ Hid (SolW wr K p eb sg N b ao cap Z sc fb fc F lb lc L tb tc T) ∧ Hid (FlowST Z N (N - 2) (N - 1) F v) ∧ Hid (TI Z N T) ∧ Hid (Kept (fun i => i = fb ∨ i = tb) w wr) ∧ Hid (okB = true → v0 ≤ v ∧ ∃ P, OwnS wr w.heap.size pv P ∧ DP Z F L T (N - 2) P (N - 1)) ∧ Hid (okB = false → v0 < v))
    case atStart => exact ⟨F, T4, v0, true, rfl, Lib.hid (Nat.lt_succ_self _), HW4, HV, HT4, HK4, Lib.hid (fun _ => ⟨Int.le_refl _, P, HP.out, HD.out⟩), Lib.hid (fun e => by cases e)⟩
    case round =>
      clear HW3 HK3 HV HT4 HW4 HK4 HP HD HTR H
      obtain ⟨F, T, v, okB, rfl, HMU, HW, HV, HTI, HK, HYES, HNO⟩ := hrel
      cases okB
      · have HV2 := Lib.hid (HNO.out rfl)
        go_wp2
        refine bodyPost_end (results_none rfl _ _ _) rfl ?_
        exact ⟨F, T, v, rfl, HW.out, HK.out, HV.out, HV2.out⟩
      · obtain ⟨hv0, P, hP, hD⟩ := HYES.out rfl
        obtain ⟨f1, f2, f3, f4⟩ := DP.fill_of HNE.out HV.out hD
        obtain ⟨pg, pc, e, hg1, hg2, hg3, hg4⟩ := ownS_form hP (List.length_pos_iff.2 f1)
        subst e
        have hPl : P.length ≤ 100000 := by
          have h1 := hD.lev.1
          have h2 := (HLB.out (N - 1) (by omega)).2
          rw [HLS.out] at h1
          omega
        have HP := Lib.hid hP
        have HD := Lib.hid hD
        have HF1 := Lib.hid f1
        have HF2 := Lib.hid f2
        have HF3 := Lib.hid f3
        have HF4 := Lib.hid f4
        clear hP hD f1 f2 f3 f4 HYES HNO
        go_wp2_with (first
          | (go_at_call 51; refine (ffill_at K p eb sg N b ao cap Z sc fb fc F lb lc L tb tc T w.heap.size pg pc P _ HW.out HWN.out HP.out (by have := HLT.out; omega) HF3.out HF1.out hPl).mono ?_; rintro e w5 ⟨m, rfl, hr5, hw5, ho5, hk5⟩; have HR5 := Lib.hid hr5; have HW5 := Lib.hid hw5; have HO5 := Lib.hid ho5; have HK5 := Lib.hid (HK.out.trans hk5 (fun i _ e => .inl e)); clear hr5 hw5 ho5 hk5))
        generalize hkb : botK Z F P = kb at *
        obtain ⟨u, hu⟩ := HD.out.rest HF3.out HR5.out
        have huN := hu.lt HWN.out hs
        have HU := Lib.hid hu
        clear hu
        refine (flead_at K p eb sg N b ao cap Z sc fb fc (pushedL kb F P) lb lc L tb tc T w.heap.size (.slice (some ⟨pg, 0, none⟩) m pc) (P.take m) u _ HW5.out HWN.out HF4.out.1 h2 HLB.out HLS.out HTI.out HU.out huN HO5.out (by have := HLT.out; omega) HK5.out.size).mono ?_
        rintro e w6 ⟨T6, hT6, hw6, hk6, hor⟩
        have HT6 := Lib.hid hT6
        have HW6 := Lib.hid hw6
        have HK6 : Hid (Kept (fun i => i = fb ∨ i = tb) w w6) := Lib.hid (HK5.out.trans hk6 (fun i hi e => by rcases e with e | e; exact .inr e; omega))
        clear hT6 hw6 hk6
        rcases hor with ⟨pv6, P6, rfl, hP6, hD6⟩ | ⟨rfl, hsh⟩
        · have HP6 := Lib.hid hP6
          have HD6 := Lib.hid hD6
          clear hP6 hD6
          go_wp2
          go_roundg ((M - (v + kb)).toNat + 1)
          case measure =>
            have h1 := HMU.out
            have h2 := HM.out _ _ HF4.out
            have h3 := HF2.out
            omega
          case rel => exact ⟨_, T6, v + kb, true, rfl, Lib.hid (Nat.lt_succ_self _), HW6, HF4, HT6, HK6, Lib.hid (fun _ => ⟨by have h3 := HF2.out; omega, P6, HP6.out, HD6.out⟩), Lib.hid (fun e => by cases e)⟩
        · clear hsh
          go_wp2
          go_roundg ((M - (v + kb)).toNat + 1)
          case measure =>
            have h1 := HMU.out
            have h2 := HM.out _ _ HF4.out
            have h3 := HF2.out
            omega
          case rel => exact ⟨_, T6, v + kb, false, rfl, Lib.hid (Nat.lt_succ_self _), HW6, HF4, HT6, HK6, Lib.hid (fun e => by cases e), Lib.hid (fun _ => by have h3 := HF2.out; omega)⟩
  · exact absurd (hsh DT.start) HOP.out
end
end Go.Proofs.Ytlkbohpnlbfopaa
