/- Does a step descend: package maxflow's descends. -/
import Derived.Test.YtbgnoaijgngifaaGreatXStep
import Derived.Test.YtbgnoaijgngifaaGreatVLevs
namespace Go.Proofs.YtbgnoaijgngifaaGreat
open Go.RowKit
set_option linter.unusedVariables false

section
variable (p tb sg N : Nat) (b : Bool) (ao : Option Addr) (cap : Nat) (Z : List ArcT) (sc tc : Nat) (fo : Option Addr) (fc : Nat) (F : List Int) (lo : Option Addr) (lc : Nat) (L T : List Int)
set_option maxRecDepth 100000 in
set_option maxHeartbeats 4000000 in
theorem xdescends_at (i : Nat) (q : Bool) (w : World) (h : FilW w p tb sg N b ao cap Z sc tc fo fc F lo lc L T) (he : flowE (N : Int) Z F = 0) (hi : i < Z.length) (hL : L.length = N) (hlb : ∀ v, v < N → -1 ≤ atI L v ∧ atI L v < (N : Int)) :
    Calls Tryz.prog 51 #[.pointer (some ⟨p, 0, none⟩), .agg #[.int .i64 (i : Int), .bool q]] w fun e w' => e = .returned (.bool (descB Z F L ((i : Int), q))) ∧ Below w.heap.size w w' := by
  obtain ⟨hR, hF, hz, hfl, hn1, hn2⟩ := flow_facts (b := b) he
  have ha : Z[i]? = some Z[i] := List.getElem?_eq_getElem hi
  obtain ⟨hA1, hA2⟩ := flow_arcs he
  rw [Int.toNat_natCast] at hA2
  obtain ⟨hvN, huN⟩ := hA2 i Z[i] q ha
  obtain ⟨hbe, hen⟩ := begI_fromE ha (hA1 _ (List.getElem_mem hi)) q
  obtain ⟨u, hu⟩ : ∃ u, fromS Z ((i : Int), q) = u := ⟨_, rfl⟩
  obtain ⟨v, hv⟩ : ∃ v, toS Z ((i : Int), q) = v := ⟨_, rfl⟩
  obtain ⟨r, hr⟩ : ∃ r, leftS Z F ((i : Int), q) = r := ⟨_, rfl⟩
  rw [hu] at huN hbe
  rw [hv] at hvN hen
  have hub := hlb u huN
  have hvb := hlb v hvN
  obtain ⟨lb, lx, e1, hlb1, du⟩ := lst_cell h.levs (atI_get (d := L) (v := u) (by omega))
  obtain ⟨lb', lx', e2, hlb2, dv⟩ := lst_cell h.levs (atI_get (d := L) (v := v) (by omega))
  have hD : descB Z F L ((i : Int), q) = decide (0 < r ∧ atI L v = atI L u + 1) := by unfold descB; rw [hu, hv, hr]
  rw [hD]
  generalize atI L u = x at *
  generalize atI L v = y at *
  subst e1
  cases e2
  unfold encI at du dv
  obtain ⟨⟨k0, k1, k2, k3, k4, k5, k6⟩, _⟩ := c7Cells h.box
  have hui : (u : Int) < (L.length : Int) := by omega
  have hvi : (v : Int) < (L.length : Int) := by omega
  have hLl : L.length ≤ 200 := by omega
  have H := Lib.hid (h.alloc (.cells #[.int .i64 (i : Int), .bool q] 90))
  have HE := Lib.hid he
  have HA := Lib.hid ha
  have HRR := Lib.hid hr
  have HBE := Lib.hid hbe
  have HEN := Lib.hid hen
  have HB := Lib.hid ((Below.refl _ w).alloc (Nat.le_refl _) (.cells #[.int .i64 (i : Int), .bool q] 90))
  have k0 := cell_alloc k0 (.cells #[.int .i64 (i : Int), .bool q] 90)
  have k1 := cell_alloc k1 (.cells #[.int .i64 (i : Int), .bool q] 90)
  have k2 := cell_alloc k2 (.cells #[.int .i64 (i : Int), .bool q] 90)
  have k5 := cell_alloc k5 (.cells #[.int .i64 (i : Int), .bool q] 90)
  have du := cell_alloc du (.cells #[.int .i64 (i : Int), .bool q] 90)
  have dv := cell_alloc dv (.cells #[.int .i64 (i : Int), .bool q] 90)
  have s0 := cell_new w #[.int .i64 (i : Int), .bool q] 90 0
  have s1 := cell_new w #[.int .i64 (i : Int), .bool q] 90 1
  clear h he hR hF hfl hn1 ha hA1 hA2 hbe hen hu hv hr hlb hlb1 hlb2 hD k3 k4 k6 hL
  generalize Z[i] = a at *
  by_cases h0 : 0 < r
  · have hg : decide (0 < r) = true := by simpa using h0
    have hdd : decide (0 < r ∧ y = x + 1) = (y == x + 1) := by
      by_cases e : y = x + 1 <;> simp [h0, e]
    have HDD := Lib.hid hdd
    have HW1 : Hid (IntKind.i64.wrap (x + 1) = x + 1) := Lib.hid (by rw [IntKind.wrap_i64]; omega)
    clear hdd
    go_enter Tryz.func51, Tryz.ntmps51
    go_wp2_with fail
    generalize hw1 : w.alloc (.cells #[.int .i64 (i : Int), .bool q] 90) = w1 at *
    go_region_held3 (fun W => W.cell? ⟨p, 0, none⟩ = some (.int .i64 (N : Int)) ∧ W.cell? ⟨p, 1, none⟩ = some (.bool b) ∧ W.cell? ⟨p, 2, none⟩ = some (.slice ao Z.length cap) ∧ W.cell? ⟨p, 5, none⟩ = some (.slice (some ⟨lb, lx, none⟩) L.length lc) ∧ W.cell? ⟨w.heap.size, 0, none⟩ = some (.int .i64 (i : Int)) ∧ W.cell? ⟨w.heap.size, 1, none⟩ = some (.bool q) ∧ W.cell? ⟨lb, lx + u, none⟩ = some (.int .i64 x) ∧ W.cell? ⟨lb, lx + v, none⟩ = some (.int .i64 y)) (first | exact ⟨k0, k1, k2, k5, s0, s1, du, dv⟩ | exact ⟨z0, z1, z2, z5, t0, t1, eu, ev⟩ | go_keep)
      (first
        | (go_at_call 53; refine (xroom_is p tb sg N b ao cap Z sc tc fo fc F (some ⟨lb, lx, none⟩) lc L T i q r w1.drew H.out.drew HE.out hi HRR.out).mono ?_; rintro e w6 ⟨rfl, b6⟩; have HZ := Lib.hid ((H.out.drew.next b6).arcs); have HBW := Lib.hid ((below_drew HB.out).trans (b6.mono (by have := HB.out.size; simpa using this))); have z0 := cell_below (w := w1.drew) b6 k0; have z1 := cell_below (w := w1.drew) b6 k1; have z2 := cell_below (w := w1.drew) b6 k2; have z5 := cell_below (w := w1.drew) b6 k5; have t0 := cell_below (w := w1.drew) b6 s0; have t1 := cell_below (w := w1.drew) b6 s1; have eu := cell_below (w := w1.drew) b6 du; have ev := cell_below (w := w1.drew) b6 dv; clear b6)
        | (go_at_call 52; refine (xend_at (N : Int) b ao cap Z i q a _ HZ.out HA.out hz).mono ?_; rintro e w7 ⟨rfl, b7⟩; rw [HEN.out]; have HZ := Lib.hid (HZ.out.below' b7); have HBW := Lib.hid (HBW.out.trans (b7.mono HBW.out.size)); have z0 := cell_below b7 z0; have z1 := cell_below b7 z1; have z2 := cell_below b7 z2; have z5 := cell_below b7 z5; have t0 := cell_below b7 t0; have t1 := cell_below b7 t1; have eu := cell_below b7 eu; have ev := cell_below b7 ev; clear b7)
        | (go_at_call 50; refine (xbegin_at (N : Int) b ao cap Z i q a _ HZ.out HA.out hz).mono ?_; rintro e w8 ⟨rfl, b8⟩; rw [HBE.out]; have HZ := Lib.hid (HZ.out.below' b8); have HBW := Lib.hid (HBW.out.trans (b8.mono HBW.out.size)); have z0 := cell_below b8 z0; have z1 := cell_below b8 z1; have z2 := cell_below b8 z2; have z5 := cell_below b8 z5; have t0 := cell_below b8 t0; have t1 := cell_below b8 t1; have eu := cell_below b8 eu; have ev := cell_below b8 ev; clear b8))
    all_goals
      go_wp2
      go_ret
      exact ⟨ret_bool (by rw [HDD.out, HW1.out]), HBW.out⟩
  · have hg : decide (0 < r) = false := by simpa using h0
    have HDD : Hid (decide (0 < r ∧ y = x + 1) = false) := Lib.hid (by simp [h0])
    have HCALL := Lib.hid (xroom_is p tb sg N b ao cap Z sc tc fo fc F (some ⟨lb, lx, none⟩) lc L T i q r (w.alloc (.cells #[.int .i64 (i : Int), .bool q] 90)).drew H.out.drew HE.out hi HRR.out)
    go_enter Tryz.func51, Tryz.ntmps51
    go_wp2_with fail
    generalize hw1 : w.alloc (.cells #[.int .i64 (i : Int), .bool q] 90) = w1 at *
    refine wp_region_held_drew (S := fun W => W.cell? ⟨w.heap.size, 0, none⟩ = some (.int .i64 (i : Int)) ∧ W.cell? ⟨w.heap.size, 1, none⟩ = some (.bool q)) (by kernel_rfl) ⟨s0, s1⟩ (fun hHeld => ?_)
    refine wpAnyH_take (i := 0) (oi := { dst := some 5, op := Go.Op.move (Go.Operand.tmp 0), type := 45, pos := "maxflow.go:78", after := #[], guard := none }) (v := .pointer (some ⟨p, 0, none⟩)) rfl (by kernel_rfl) (by kernel_rfl) (by kernel_rfl) (fun _ _ _ h => h) (Or.inl ⟨by rfl, ?_⟩) (by assumption) ?_
    · (intro w hSw; (try dsimp only at hSw); go_simp)
    try simp only [Act.put, List.setIfInBounds_toArray, List.set_cons_zero, List.set_cons_succ]
    refine wpAnyH_take (i := 1) (oi := { dst := some 6, op := Go.Op.load 90 (Go.Operand.tmp 3), type := 90, pos := "maxflow.go:78", after := #[], guard := none }) (v := .agg #[.int .i64 (i : Int), .bool q]) rfl (by kernel_rfl) (by kernel_rfl) (by kernel_rfl) (fun _ _ _ h => h) (Or.inl ⟨by rfl, ?_⟩) (by assumption) ?_
    · (intro w hSw; (try dsimp only at hSw); go_simp)
    try simp only [Act.put, List.setIfInBounds_toArray, List.set_cons_zero, List.set_cons_succ]
    refine wpAnyH_ready (rs := [2]) (by kernel_rfl) (by simp) (AllReadyH.cons (o := { dst := some 7, op := Go.Op.call { callee := Go.Callee.value (Go.Operand.func 53), args := #[Go.Operand.tmp 5, Go.Operand.tmp 6], argTypes := #[45, 90] }, type := 3, pos := "maxflow.go:78", after := #[{ on := 0, ground := Go.Ground.data }, { on := 1, ground := Go.Ground.data }], guard := none }) rfl (fun K hK => ?_) AllReadyH.nil)
    go_simp
    refine HCALL.out.mono ?_
    rintro e w7 ⟨rfl, b7⟩
    have hn7 : w7.cell? ⟨w.heap.size, 0, none⟩ = some (.int .i64 (i : Int)) ∧ w7.cell? ⟨w.heap.size, 1, none⟩ = some (.bool q) := ⟨cell_below (w := w1.drew) b7 s0, cell_below (w := w1.drew) b7 s1⟩
    have HB7 := Lib.hid ((below_drew HB.out).trans (b7.mono (by have := HB.out.size; simpa using this)))
    clear b7 hHeld
    go_wp2_with fail
    refine hK.out _ _ hn7 (fun hHeld => ?_)
    clear hK
    try simp only [Act.put, List.setIfInBounds_toArray, List.set_cons_zero, List.set_cons_succ]
    refine wpAnyH_take (i := 3) (oi := { dst := some 8, op := Go.Op.binOp Go.BinOp.gtr 3 (Go.Operand.tmp 7) (Go.Operand.const (Go.Value.int Go.IntKind.i64 0)) 3, type := 4, pos := "maxflow.go:78", after := #[{ on := 2, ground := Go.Ground.data }], guard := none }) (v := .bool false) rfl (by kernel_rfl) (by kernel_rfl) (by kernel_rfl) (fun _ _ _ h => h) (Or.inl ⟨by rfl, ?_⟩) (by assumption) ?_
    · (intro w hSw; (try dsimp only at hSw); go_simp)
    try simp only [Act.put, List.setIfInBounds_toArray, List.set_cons_zero, List.set_cons_succ]
    refine wpAnyH_take (i := 4) (oi := { dst := some 9, op := Go.Op.move (Go.Operand.tmp 8), type := 4, pos := "maxflow.go:78", after := #[{ on := 3, ground := Go.Ground.data }, { on := 2, ground := Go.Ground.chain }], guard := none }) (v := .bool false) rfl (by kernel_rfl) (by kernel_rfl) (by kernel_rfl) (fun _ _ _ h => h) (Or.inl ⟨by rfl, ?_⟩) (by assumption) ?_
    · (intro w hSw; (try dsimp only at hSw); go_simp)
    try simp only [Act.put, List.setIfInBounds_toArray, List.set_cons_zero, List.set_cons_succ]
    refine wpAnyH_take (i := 5) (oi := { dst := some 10, op := Go.Op.move (Go.Operand.tmp 0), type := 45, pos := "maxflow.go:78", after := #[{ on := 4, ground := Go.Ground.guard }], guard := some (4, true) }) (v := undef) rfl (by kernel_rfl) (by kernel_rfl) (by kernel_rfl) (fun _ _ _ h => h) (Or.inr ⟨by simp [Region.wanted, yielded], rfl⟩) (by assumption) ?_
    try simp only [Act.put, List.setIfInBounds_toArray, List.set_cons_zero, List.set_cons_succ]
    refine wpAnyH_take (i := 6) (oi := { dst := some 11, op := Go.Op.nilCheck (Go.Operand.tmp 10), type := 0, pos := "maxflow.go:78", after := #[{ on := 5, ground := Go.Ground.data }, { on := 4, ground := Go.Ground.guard }], guard := some (4, true) }) (v := undef) rfl (by kernel_rfl) (by kernel_rfl) (by kernel_rfl) (fun _ _ _ h => h) (Or.inr ⟨by simp [Region.wanted, yielded], rfl⟩) (by assumption) ?_
    try simp only [Act.put, List.setIfInBounds_toArray, List.set_cons_zero, List.set_cons_succ]
    refine wpAnyH_take (i := 7) (oi := { dst := some 12, op := Go.Op.fieldAddr 53 (Go.Operand.tmp 11) 3, type := 0, pos := "maxflow.go:78", after := #[{ on := 6, ground := Go.Ground.data }, { on := 4, ground := Go.Ground.guard }], guard := some (4, true) }) (v := undef) rfl (by kernel_rfl) (by kernel_rfl) (by kernel_rfl) (fun _ _ _ h => h) (Or.inr ⟨by simp [Region.wanted, yielded], rfl⟩) (by assumption) ?_
    try simp only [Act.put, List.setIfInBounds_toArray, List.set_cons_zero, List.set_cons_succ]
    refine wpAnyH_take (i := 8) (oi := { dst := some 13, op := Go.Op.load 33 (Go.Operand.tmp 12), type := 33, pos := "maxflow.go:78", after := #[{ on := 7, ground := Go.Ground.data }, { on := 4, ground := Go.Ground.guard }], guard := some (4, true) }) (v := undef) rfl (by kernel_rfl) (by kernel_rfl) (by kernel_rfl) (fun _ _ _ h => h) (Or.inr ⟨by simp [Region.wanted, yielded], rfl⟩) (by assumption) ?_
    try simp only [Act.put, List.setIfInBounds_toArray, List.set_cons_zero, List.set_cons_succ]
    refine wpAnyH_take (i := 9) (oi := { dst := some 14, op := Go.Op.move (Go.Operand.tmp 0), type := 45, pos := "maxflow.go:78", after := #[{ on := 4, ground := Go.Ground.guard }], guard := some (4, true) }) (v := undef) rfl (by kernel_rfl) (by kernel_rfl) (by kernel_rfl) (fun _ _ _ h => h) (Or.inr ⟨by simp [Region.wanted, yielded], rfl⟩) (by assumption) ?_
    try simp only [Act.put, List.setIfInBounds_toArray, List.set_cons_zero, List.set_cons_succ]
    refine wpAnyH_take (i := 10) (oi := { dst := some 15, op := Go.Op.nilCheck (Go.Operand.tmp 14), type := 0, pos := "maxflow.go:78", after := #[{ on := 9, ground := Go.Ground.data }, { on := 4, ground := Go.Ground.guard }], guard := some (4, true) }) (v := undef) rfl (by kernel_rfl) (by kernel_rfl) (by kernel_rfl) (fun _ _ _ h => h) (Or.inr ⟨by simp [Region.wanted, yielded], rfl⟩) (by assumption) ?_
    try simp only [Act.put, List.setIfInBounds_toArray, List.set_cons_zero, List.set_cons_succ]
    refine wpAnyH_take (i := 11) (oi := { dst := some 16, op := Go.Op.fieldAddr 53 (Go.Operand.tmp 15) 0, type := 0, pos := "maxflow.go:78", after := #[{ on := 10, ground := Go.Ground.data }, { on := 4, ground := Go.Ground.guard }], guard := some (4, true) }) (v := undef) rfl (by kernel_rfl) (by kernel_rfl) (by kernel_rfl) (fun _ _ _ h => h) (Or.inr ⟨by simp [Region.wanted, yielded], rfl⟩) (by assumption) ?_
    try simp only [Act.put, List.setIfInBounds_toArray, List.set_cons_zero, List.set_cons_succ]
    refine wpAnyH_take (i := 12) (oi := { dst := some 17, op := Go.Op.load 50 (Go.Operand.tmp 16), type := 50, pos := "maxflow.go:78", after := #[{ on := 11, ground := Go.Ground.data }, { on := 4, ground := Go.Ground.guard }], guard := some (4, true) }) (v := undef) rfl (by kernel_rfl) (by kernel_rfl) (by kernel_rfl) (fun _ _ _ h => h) (Or.inr ⟨by simp [Region.wanted, yielded], rfl⟩) (by assumption) ?_
    try simp only [Act.put, List.setIfInBounds_toArray, List.set_cons_zero, List.set_cons_succ]
    refine wpAnyH_take (i := 13) (oi := { dst := some 18, op := Go.Op.load 90 (Go.Operand.tmp 3), type := 90, pos := "maxflow.go:78", after := #[{ on := 4, ground := Go.Ground.guard }], guard := some (4, true) }) (v := undef) rfl (by kernel_rfl) (by kernel_rfl) (by kernel_rfl) (fun _ _ _ h => h) (Or.inr ⟨by simp [Region.wanted, yielded], rfl⟩) (by assumption) ?_
    try simp only [Act.put, List.setIfInBounds_toArray, List.set_cons_zero, List.set_cons_succ]
    refine wpAnyH_take (i := 14) (oi := { dst := some 19, op := Go.Op.call { callee := Go.Callee.value (Go.Operand.func 52), args := #[Go.Operand.tmp 17, Go.Operand.tmp 18], argTypes := #[50, 90] }, type := 3, pos := "maxflow.go:78", after := #[{ on := 12, ground := Go.Ground.data }, { on := 13, ground := Go.Ground.data }, { on := 4, ground := Go.Ground.chain }, { on := 4, ground := Go.Ground.guard }], guard := some (4, true) }) (v := undef) rfl (by kernel_rfl) (by kernel_rfl) (by kernel_rfl) (fun _ _ _ h => h) (Or.inr ⟨by simp [Region.wanted, yielded], rfl⟩) (by assumption) ?_
    try simp only [Act.put, List.setIfInBounds_toArray, List.set_cons_zero, List.set_cons_succ]
    refine wpAnyH_take (i := 15) (oi := { dst := some 20, op := Go.Op.indexAddr 33 (Go.Operand.tmp 13) (Go.Operand.tmp 19), type := 0, pos := "maxflow.go:78", after := #[{ on := 8, ground := Go.Ground.data }, { on := 14, ground := Go.Ground.data }, { on := 4, ground := Go.Ground.guard }], guard := some (4, true) }) (v := undef) rfl (by kernel_rfl) (by kernel_rfl) (by kernel_rfl) (fun _ _ _ h => h) (Or.inr ⟨by simp [Region.wanted, yielded], rfl⟩) (by assumption) ?_
    try simp only [Act.put, List.setIfInBounds_toArray, List.set_cons_zero, List.set_cons_succ]
    refine wpAnyH_take (i := 16) (oi := { dst := some 21, op := Go.Op.load 3 (Go.Operand.tmp 20), type := 3, pos := "maxflow.go:78", after := #[{ on := 15, ground := Go.Ground.data }, { on := 4, ground := Go.Ground.guard }], guard := some (4, true) }) (v := undef) rfl (by kernel_rfl) (by kernel_rfl) (by kernel_rfl) (fun _ _ _ h => h) (Or.inr ⟨by simp [Region.wanted, yielded], rfl⟩) (by assumption) ?_
    try simp only [Act.put, List.setIfInBounds_toArray, List.set_cons_zero, List.set_cons_succ]
    refine wpAnyH_take (i := 17) (oi := { dst := some 22, op := Go.Op.move (Go.Operand.tmp 0), type := 45, pos := "maxflow.go:78", after := #[{ on := 4, ground := Go.Ground.guard }], guard := some (4, true) }) (v := undef) rfl (by kernel_rfl) (by kernel_rfl) (by kernel_rfl) (fun _ _ _ h => h) (Or.inr ⟨by simp [Region.wanted, yielded], rfl⟩) (by assumption) ?_
    try simp only [Act.put, List.setIfInBounds_toArray, List.set_cons_zero, List.set_cons_succ]
    refine wpAnyH_take (i := 18) (oi := { dst := some 23, op := Go.Op.nilCheck (Go.Operand.tmp 22), type := 0, pos := "maxflow.go:78", after := #[{ on := 17, ground := Go.Ground.data }, { on := 4, ground := Go.Ground.guard }], guard := some (4, true) }) (v := undef) rfl (by kernel_rfl) (by kernel_rfl) (by kernel_rfl) (fun _ _ _ h => h) (Or.inr ⟨by simp [Region.wanted, yielded], rfl⟩) (by assumption) ?_
    try simp only [Act.put, List.setIfInBounds_toArray, List.set_cons_zero, List.set_cons_succ]
    refine wpAnyH_take (i := 19) (oi := { dst := some 24, op := Go.Op.fieldAddr 53 (Go.Operand.tmp 23) 3, type := 0, pos := "maxflow.go:78", after := #[{ on := 18, ground := Go.Ground.data }, { on := 4, ground := Go.Ground.guard }], guard := some (4, true) }) (v := undef) rfl (by kernel_rfl) (by kernel_rfl) (by kernel_rfl) (fun _ _ _ h => h) (Or.inr ⟨by simp [Region.wanted, yielded], rfl⟩) (by assumption) ?_
    try simp only [Act.put, List.setIfInBounds_toArray, List.set_cons_zero, List.set_cons_succ]
    refine wpAnyH_take (i := 20) (oi := { dst := some 25, op := Go.Op.load 33 (Go.Operand.tmp 24), type := 33, pos := "maxflow.go:78", after := #[{ on := 19, ground := Go.Ground.data }, { on := 4, ground := Go.Ground.guard }], guard := some (4, true) }) (v := undef) rfl (by kernel_rfl) (by kernel_rfl) (by kernel_rfl) (fun _ _ _ h => h) (Or.inr ⟨by simp [Region.wanted, yielded], rfl⟩) (by assumption) ?_
    try simp only [Act.put, List.setIfInBounds_toArray, List.set_cons_zero, List.set_cons_succ]
    refine wpAnyH_take (i := 21) (oi := { dst := some 26, op := Go.Op.move (Go.Operand.tmp 0), type := 45, pos := "maxflow.go:78", after := #[{ on := 4, ground := Go.Ground.guard }], guard := some (4, true) }) (v := undef) rfl (by kernel_rfl) (by kernel_rfl) (by kernel_rfl) (fun _ _ _ h => h) (Or.inr ⟨by simp [Region.wanted, yielded], rfl⟩) (by assumption) ?_
    try simp only [Act.put, List.setIfInBounds_toArray, List.set_cons_zero, List.set_cons_succ]
    refine wpAnyH_take (i := 22) (oi := { dst := some 27, op := Go.Op.nilCheck (Go.Operand.tmp 26), type := 0, pos := "maxflow.go:78", after := #[{ on := 21, ground := Go.Ground.data }, { on := 4, ground := Go.Ground.guard }], guard := some (4, true) }) (v := undef) rfl (by kernel_rfl) (by kernel_rfl) (by kernel_rfl) (fun _ _ _ h => h) (Or.inr ⟨by simp [Region.wanted, yielded], rfl⟩) (by assumption) ?_
    try simp only [Act.put, List.setIfInBounds_toArray, List.set_cons_zero, List.set_cons_succ]
    refine wpAnyH_take (i := 23) (oi := { dst := some 28, op := Go.Op.fieldAddr 53 (Go.Operand.tmp 27) 0, type := 0, pos := "maxflow.go:78", after := #[{ on := 22, ground := Go.Ground.data }, { on := 4, ground := Go.Ground.guard }], guard := some (4, true) }) (v := undef) rfl (by kernel_rfl) (by kernel_rfl) (by kernel_rfl) (fun _ _ _ h => h) (Or.inr ⟨by simp [Region.wanted, yielded], rfl⟩) (by assumption) ?_
    try simp only [Act.put, List.setIfInBounds_toArray, List.set_cons_zero, List.set_cons_succ]
    refine wpAnyH_take (i := 24) (oi := { dst := some 29, op := Go.Op.load 50 (Go.Operand.tmp 28), type := 50, pos := "maxflow.go:78", after := #[{ on := 23, ground := Go.Ground.data }, { on := 4, ground := Go.Ground.guard }], guard := some (4, true) }) (v := undef) rfl (by kernel_rfl) (by kernel_rfl) (by kernel_rfl) (fun _ _ _ h => h) (Or.inr ⟨by simp [Region.wanted, yielded], rfl⟩) (by assumption) ?_
    try simp only [Act.put, List.setIfInBounds_toArray, List.set_cons_zero, List.set_cons_succ]
    refine wpAnyH_take (i := 25) (oi := { dst := some 30, op := Go.Op.load 90 (Go.Operand.tmp 3), type := 90, pos := "maxflow.go:78", after := #[{ on := 4, ground := Go.Ground.guard }], guard := some (4, true) }) (v := undef) rfl (by kernel_rfl) (by kernel_rfl) (by kernel_rfl) (fun _ _ _ h => h) (Or.inr ⟨by simp [Region.wanted, yielded], rfl⟩) (by assumption) ?_
    try simp only [Act.put, List.setIfInBounds_toArray, List.set_cons_zero, List.set_cons_succ]
    refine wpAnyH_take (i := 26) (oi := { dst := some 31, op := Go.Op.call { callee := Go.Callee.value (Go.Operand.func 50), args := #[Go.Operand.tmp 29, Go.Operand.tmp 30], argTypes := #[50, 90] }, type := 3, pos := "maxflow.go:78", after := #[{ on := 24, ground := Go.Ground.data }, { on := 25, ground := Go.Ground.data }, { on := 14, ground := Go.Ground.chain }, { on := 4, ground := Go.Ground.guard }], guard := some (4, true) }) (v := undef) rfl (by kernel_rfl) (by kernel_rfl) (by kernel_rfl) (fun _ _ _ h => h) (Or.inr ⟨by simp [Region.wanted, yielded], rfl⟩) (by assumption) ?_
    try simp only [Act.put, List.setIfInBounds_toArray, List.set_cons_zero, List.set_cons_succ]
    refine wpAnyH_take (i := 27) (oi := { dst := some 32, op := Go.Op.indexAddr 33 (Go.Operand.tmp 25) (Go.Operand.tmp 31), type := 0, pos := "maxflow.go:78", after := #[{ on := 20, ground := Go.Ground.data }, { on := 26, ground := Go.Ground.data }, { on := 4, ground := Go.Ground.guard }], guard := some (4, true) }) (v := undef) rfl (by kernel_rfl) (by kernel_rfl) (by kernel_rfl) (fun _ _ _ h => h) (Or.inr ⟨by simp [Region.wanted, yielded], rfl⟩) (by assumption) ?_
    try simp only [Act.put, List.setIfInBounds_toArray, List.set_cons_zero, List.set_cons_succ]
    refine wpAnyH_take (i := 28) (oi := { dst := some 33, op := Go.Op.load 3 (Go.Operand.tmp 32), type := 3, pos := "maxflow.go:78", after := #[{ on := 27, ground := Go.Ground.data }, { on := 4, ground := Go.Ground.guard }], guard := some (4, true) }) (v := undef) rfl (by kernel_rfl) (by kernel_rfl) (by kernel_rfl) (fun _ _ _ h => h) (Or.inr ⟨by simp [Region.wanted, yielded], rfl⟩) (by assumption) ?_
    try simp only [Act.put, List.setIfInBounds_toArray, List.set_cons_zero, List.set_cons_succ]
    refine wpAnyH_take (i := 29) (oi := { dst := some 34, op := Go.Op.binOp Go.BinOp.add 3 (Go.Operand.tmp 33) (Go.Operand.const (Go.Value.int Go.IntKind.i64 1)) 3, type := 3, pos := "maxflow.go:78", after := #[{ on := 28, ground := Go.Ground.data }, { on := 4, ground := Go.Ground.guard }], guard := some (4, true) }) (v := undef) rfl (by kernel_rfl) (by kernel_rfl) (by kernel_rfl) (fun _ _ _ h => h) (Or.inr ⟨by simp [Region.wanted, yielded], rfl⟩) (by assumption) ?_
    try simp only [Act.put, List.setIfInBounds_toArray, List.set_cons_zero, List.set_cons_succ]
    refine wpAnyH_take (i := 30) (oi := { dst := some 35, op := Go.Op.binOp Go.BinOp.eql 3 (Go.Operand.tmp 21) (Go.Operand.tmp 34) 3, type := 4, pos := "maxflow.go:78", after := #[{ on := 16, ground := Go.Ground.data }, { on := 29, ground := Go.Ground.data }, { on := 4, ground := Go.Ground.guard }], guard := some (4, true) }) (v := undef) rfl (by kernel_rfl) (by kernel_rfl) (by kernel_rfl) (fun _ _ _ h => h) (Or.inr ⟨by simp [Region.wanted, yielded], rfl⟩) (by assumption) ?_
    try simp only [Act.put, List.setIfInBounds_toArray, List.set_cons_zero, List.set_cons_succ]
    refine wpAnyH_take (i := 31) (oi := { dst := some 36, op := Go.Op.pick (Go.Operand.tmp 9) (Go.Operand.tmp 35) (Go.Operand.const (Go.Value.bool false)), type := 4, pos := "maxflow.go:78", after := #[{ on := 4, ground := Go.Ground.data }, { on := 30, ground := Go.Ground.data }], guard := none }) (v := .bool false) rfl (by kernel_rfl) (by kernel_rfl) (by kernel_rfl) (fun _ _ _ h => h) (Or.inl ⟨by rfl, ?_⟩) (by assumption) ?_
    · (intro w hSw; (try dsimp only at hSw); go_simp)
    try simp only [Act.put, List.setIfInBounds_toArray, List.set_cons_zero, List.set_cons_succ]
    refine wpAnyH_take (i := 32) (oi := { dst := some 4, op := Go.Op.assign (Go.Operand.tmp 36), type := 4, pos := "maxflow.go:78", after := #[{ on := 31, ground := Go.Ground.data }, { on := 26, ground := Go.Ground.chain }, { on := 0, ground := Go.Ground.phase }, { on := 1, ground := Go.Ground.phase }, { on := 2, ground := Go.Ground.phase }, { on := 3, ground := Go.Ground.phase }, { on := 4, ground := Go.Ground.phase }, { on := 5, ground := Go.Ground.phase }, { on := 6, ground := Go.Ground.phase }, { on := 7, ground := Go.Ground.phase }, { on := 8, ground := Go.Ground.phase }, { on := 9, ground := Go.Ground.phase }, { on := 10, ground := Go.Ground.phase }, { on := 11, ground := Go.Ground.phase }, { on := 12, ground := Go.Ground.phase }, { on := 13, ground := Go.Ground.phase }, { on := 14, ground := Go.Ground.phase }, { on := 15, ground := Go.Ground.phase }, { on := 16, ground := Go.Ground.phase }, { on := 17, ground := Go.Ground.phase }, { on := 18, ground := Go.Ground.phase }, { on := 19, ground := Go.Ground.phase }, { on := 20, ground := Go.Ground.phase }, { on := 21, ground := Go.Ground.phase }, { on := 22, ground := Go.Ground.phase }, { on := 23, ground := Go.Ground.phase }, { on := 24, ground := Go.Ground.phase }, { on := 25, ground := Go.Ground.phase }, { on := 26, ground := Go.Ground.phase }, { on := 27, ground := Go.Ground.phase }, { on := 28, ground := Go.Ground.phase }, { on := 29, ground := Go.Ground.phase }, { on := 30, ground := Go.Ground.phase }, { on := 31, ground := Go.Ground.phase }], guard := none }) (v := .bool false) rfl (by kernel_rfl) (by kernel_rfl) (by kernel_rfl) (fun _ _ _ h => h) (Or.inl ⟨by rfl, ?_⟩) (by assumption) ?_
    · (intro w hSw; (try dsimp only at hSw); go_simp)
    try simp only [Act.put, List.setIfInBounds_toArray, List.set_cons_zero, List.set_cons_succ]
    refine wpAnyH_done (by kernel_rfl) ?_ _
    go_wp2
    go_ret
    exact ⟨ret_bool HDD.out.symm, HB7.out⟩
theorem xdescends_is (i : Nat) (q d : Bool) (w : World) (h : FilW w p tb sg N b ao cap Z sc tc fo fc F lo lc L T) (he : flowE (N : Int) Z F = 0) (hi : i < Z.length) (hL : L.length = N) (hlb : ∀ v, v < N → -1 ≤ atI L v ∧ atI L v < (N : Int)) (hd : descB Z F L ((i : Int), q) = d) :
    Calls Tryz.prog 51 #[.pointer (some ⟨p, 0, none⟩), .agg #[.int .i64 (i : Int), .bool q]] w fun e w' => e = .returned (.bool d) ∧ Below w.heap.size w w' := by subst hd; exact xdescends_at p tb sg N b ao cap Z sc tc fo fc F lo lc L T i q w h he hi hL hlb
end
end Go.Proofs.YtbgnoaijgngifaaGreat
