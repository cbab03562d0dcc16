/- The orders of package table and of the document: of pairs, arcs, slots and movements; each call only makes new memory. -/
import Derived.Test.YtieomjkiabfhcaaTSmall
namespace Go.Proofs.Ytieomjkiabfhcaa
open Go.RowKit Go.Sort
set_option linter.unusedVariables false

/-- The order of three numbers, one behind the other. -/
def ltK (a b : Int × Int × Int) : Bool := decide (a.1 < b.1 ∨ a.1 = b.1 ∧ (a.2.1 < b.2.1 ∨ a.2.1 = b.2.1 ∧ a.2.2 < b.2.2))
theorem ltK_iff {a b : Int × Int × Int} : ltK a b = true ↔ (a.1 < b.1 ∨ a.1 = b.1 ∧ (a.2.1 < b.2.1 ∨ a.2.1 = b.2.1 ∧ a.2.2 < b.2.2)) := by unfold ltK; exact decide_eq_true_iff
theorem ltK_no {a b : Int × Int × Int} : ltK a b = false ↔ ¬ (a.1 < b.1 ∨ a.1 = b.1 ∧ (a.2.1 < b.2.1 ∨ a.2.1 = b.2.1 ∧ a.2.2 < b.2.2)) := by unfold ltK; exact decide_eq_false_iff_not
theorem ltK_irrefl (a : Int × Int × Int) : ltK a a = false := by rw [ltK_no]; omega
theorem ltK_trans {a b c : Int × Int × Int} (h : ltK a b = true) (k : ltK b c = true) : ltK a c = true := by rw [ltK_iff] at *; omega
theorem ltK_ntrans {a b c : Int × Int × Int} (h : ltK a b = false) (k : ltK b c = false) : ltK a c = false := by rw [ltK_no] at *; omega
theorem ltK_asymm {a b : Int × Int × Int} (h : ltK a b = true) : ltK b a = false := by rw [ltK_iff] at h; rw [ltK_no]; omega
theorem ltK_total {a b : Int × Int × Int} (h : a ≠ b) : ltK a b = true ∨ ltK b a = true := by
  obtain ⟨x, y, z⟩ := a; obtain ⟨u, v, s⟩ := b
  rw [ltK_iff, ltK_iff]
  simp only [ne_eq, Prod.mk.injEq, not_and] at h
  simp only
  omega
def kP (p : Int × Int) : Int × Int × Int := (p.1, p.2, 0)
def kS (s : Int × Int) : Int × Int × Int := (s.2, s.1, 0)
def kM (m : Int × Int × Int) : Int × Int × Int := (m.2.1, m.1, 0)
def cmpP (a b : Int × Int) : Int := orI [cmpI a.1 b.1, cmpI a.2 b.2]
def cmpS (a b : Int × Int) : Int := orI [cmpI a.2 b.2, cmpI a.1 b.1]
def cmpM (a b : Int × Int × Int) : Int := cmpP (a.2.1, a.1) (b.2.1, b.1)
def cmpA (a b : Int × Int × Int × Int) : Int := orI [cmpI a.1 b.1, cmpI a.2.1 b.2.1, cmpI a.2.2.2 b.2.2.2]
theorem cmpI_lt (x y : Int) : (cmpI x y < 0 ↔ x < y) ∧ (cmpI x y = 0 ↔ x = y) := by unfold cmpI; repeat' split
                                                                                    all_goals omega
theorem cmpP_lt (a b : Int × Int) : decide (cmpP a b < 0) = ltK (kP a) (kP b) := by
  unfold cmpP ltK kP orI orI orI
  apply decide_eq_decide.2
  have h1 := cmpI_lt a.1 b.1
  have h2 := cmpI_lt a.2 b.2
  simp only
  repeat' split
  all_goals omega
theorem cmpS_lt (a b : Int × Int) : decide (cmpS a b < 0) = ltK (kS a) (kS b) := by
  unfold cmpS ltK kS orI orI orI
  apply decide_eq_decide.2
  have h1 := cmpI_lt a.1 b.1
  have h2 := cmpI_lt a.2 b.2
  simp only
  repeat' split
  all_goals omega
theorem cmpM_lt (a b : Int × Int × Int) : decide (cmpM a b < 0) = ltK (kM a) (kM b) := cmpP_lt _ _
theorem cmpA_lt (a b : Int × Int × Int × Int) : decide (cmpA a b < 0) = ltK (kOf a) (kOf b) := by
  unfold cmpA ltK kOf orI orI orI orI
  apply decide_eq_decide.2
  have h1 := cmpI_lt a.1 b.1
  have h2 := cmpI_lt a.2.1 b.2.1
  have h3 := cmpI_lt a.2.2.2 b.2.2.2
  simp only
  repeat' split
  all_goals omega
theorem below_grow (w : World) (q : Nat) (os : Array Obj) : Below w.heap.size w (grow (w.drewN q) os) :=
  ⟨rfl, rfl, rfl, by simp [grow, World.drewN], fun k hk => by
    show ((w.drewN q).heap ++ os)[k]? = w.heap[k]?
    rw [Array.getElem?_append_left (by exact hk)]; rfl⟩
theorem box0 (w : World) (cs ds : Array Value) (t s : TypeId) (j : Nat) : ((w.alloc (.cells cs t)).alloc (.cells ds s)).cell? ⟨w.heap.size, j, none⟩ = cs[j]? := by
  rw [((Below.refl _ (w.alloc (.cells cs t))).alloc (Nat.le_refl _) (.cells ds s)).cell (p := ⟨w.heap.size, j, none⟩) (by simp), cell_new]
theorem box1 (w : World) (cs ds : Array Value) (t s : TypeId) (j : Nat) : ((w.alloc (.cells cs t)).alloc (.cells ds s)).cell? ⟨w.heap.size + 1, j, none⟩ = ds[j]? := cell_new' (by simp) _ _ _
theorem boxes (w : World) (o p : Obj) : (w.alloc o).alloc p = grow (w.drewN 0) #[o, p] := by rw [alloc_eq_grow, alloc_eq_grow, grow_grow]; rfl
theorem boxes_end (w : World) (a b o : Obj) : ((grow (w.drewN 0) #[a, b]).drew).alloc o = grow (w.drewN 1) #[a, b, o] := by
  rw [alloc_eq_grow]; show grow (grow (w.drewN 1) #[a, b]) #[o] = _; rw [grow_grow]; rfl
/-- Numbers in a new block. -/
theorem ri_new {w : World} {n : Nat} (hn : w.heap.size = n) (zs : List Int) (t : TypeId) : RI (w.alloc (.cells (zs.map fun z => Value.int .i64 z).toArray t)) (some ⟨n, 0, none⟩) zs := by
  intro i hi
  refine ⟨_, rfl, by subst hn; simp, ?_⟩
  rw [Addr.add_lit, Nat.zero_add, cell_newL hn, List.getElem?_map, List.getElem?_eq_getElem hi, getD_of_lt hi]; rfl
set_option maxRecDepth 100000 in
set_option maxHeartbeats 1000000 in
theorem cmpp_any (a b : Int × Int) (w : World) : Calls Try.prog 45 #[.agg #[.int .i64 a.1, .int .i64 a.2], .agg #[.int .i64 b.1, .int .i64 b.2]] w fun e w' => e = .returned (.int .i64 (cmpP a b)) ∧ ∃ q os, w' = grow (w.drewN q) os := by
  obtain ⟨x, y⟩ := a
  obtain ⟨z, u⟩ := b
  simp only
  go_enter Try.func45, Try.ntmps45
  go_wp2
  have d0 : ((w.alloc (.cells #[.int .i64 x, .int .i64 y] 37)).alloc (.cells #[.int .i64 z, .int .i64 u] 37)).cell? ⟨w.heap.size, 0, none⟩ = some (.int .i64 x) := box0 w _ _ _ _ 0
  have c0 : ((w.alloc (.cells #[.int .i64 x, .int .i64 y] 37)).alloc (.cells #[.int .i64 z, .int .i64 u] 37)).cell? ⟨w.heap.size + 1, 0, none⟩ = some (.int .i64 z) := box1 w _ _ _ _ 0
  have d1 : ((w.alloc (.cells #[.int .i64 x, .int .i64 y] 37)).alloc (.cells #[.int .i64 z, .int .i64 u] 37)).cell? ⟨w.heap.size, 1, none⟩ = some (.int .i64 y) := box0 w _ _ _ _ 1
  have c1 : ((w.alloc (.cells #[.int .i64 x, .int .i64 y] 37)).alloc (.cells #[.int .i64 z, .int .i64 u] 37)).cell? ⟨w.heap.size + 1, 1, none⟩ = some (.int .i64 u) := box1 w _ _ _ _ 1
  have HW : Hid ((w.alloc (.cells #[.int .i64 x, .int .i64 y] 37)).alloc (.cells #[.int .i64 z, .int .i64 u] 37) = grow (w.drewN 0) #[.cells #[.int .i64 x, .int .i64 y] 37, .cells #[.int .i64 z, .int .i64 u] 37]) := Lib.hid (boxes _ _ _)
  generalize (w.alloc (.cells #[.int .i64 x, .int .i64 y] 37)).alloc (.cells #[.int .i64 z, .int .i64 u] 37) = w1 at *
  refine wp_region_still_tail 10 (by kernel_rfl) (by kernel_rfl) ?_
  change wpStill _ _ w1.drew _ _ _
  simp only [List.take_succ_cons, List.take_zero, List.drop_succ_cons, List.drop_zero]
  repeat (first | still_step | still_call (cmpi_any _ _ _))
  refine wpStill_nil ?_
  change wpList _ _ _ _ _ w1.drew
  generalize hw2 : w1.drew = w2
  have HW2 := Lib.hid hw2
  clear hw2
  go_wp2_with (go_at_call 57; refine (or_some _ _ [cmpI x z, cmpI y u] _ (ri_new rfl _ _) (by simp)).mono ?_; rintro e w' ⟨rfl, rfl⟩)
  go_ret
  exact ⟨rfl, 1, _, by rw [← HW2.out, HW.out]; exact boxes_end _ _ _ _⟩
set_option maxRecDepth 100000 in
set_option maxHeartbeats 1000000 in
theorem cmps_any (a b : Int × Int) (w : World) : Calls Try.prog 49 #[.agg #[.int .i64 a.1, .int .i64 a.2], .agg #[.int .i64 b.1, .int .i64 b.2]] w fun e w' => e = .returned (.int .i64 (cmpS a b)) ∧ ∃ q os, w' = grow (w.drewN q) os := by
  obtain ⟨x, y⟩ := a
  obtain ⟨z, u⟩ := b
  simp only
  go_enter Try.func49, Try.ntmps49
  go_wp2
  have d0 : ((w.alloc (.cells #[.int .i64 x, .int .i64 y] 74)).alloc (.cells #[.int .i64 z, .int .i64 u] 74)).cell? ⟨w.heap.size, 0, none⟩ = some (.int .i64 x) := box0 w _ _ _ _ 0
  have c0 : ((w.alloc (.cells #[.int .i64 x, .int .i64 y] 74)).alloc (.cells #[.int .i64 z, .int .i64 u] 74)).cell? ⟨w.heap.size + 1, 0, none⟩ = some (.int .i64 z) := box1 w _ _ _ _ 0
  have d1 : ((w.alloc (.cells #[.int .i64 x, .int .i64 y] 74)).alloc (.cells #[.int .i64 z, .int .i64 u] 74)).cell? ⟨w.heap.size, 1, none⟩ = some (.int .i64 y) := box0 w _ _ _ _ 1
  have c1 : ((w.alloc (.cells #[.int .i64 x, .int .i64 y] 74)).alloc (.cells #[.int .i64 z, .int .i64 u] 74)).cell? ⟨w.heap.size + 1, 1, none⟩ = some (.int .i64 u) := box1 w _ _ _ _ 1
  have HW : Hid ((w.alloc (.cells #[.int .i64 x, .int .i64 y] 74)).alloc (.cells #[.int .i64 z, .int .i64 u] 74) = grow (w.drewN 0) #[.cells #[.int .i64 x, .int .i64 y] 74, .cells #[.int .i64 z, .int .i64 u] 74]) := Lib.hid (boxes _ _ _)
  generalize (w.alloc (.cells #[.int .i64 x, .int .i64 y] 74)).alloc (.cells #[.int .i64 z, .int .i64 u] 74) = w1 at *
  refine wp_region_still_tail 10 (by kernel_rfl) (by kernel_rfl) ?_
  change wpStill _ _ w1.drew _ _ _
  simp only [List.take_succ_cons, List.take_zero, List.drop_succ_cons, List.drop_zero]
  repeat (first | still_step | still_call (cmpi_any _ _ _))
  refine wpStill_nil ?_
  change wpList _ _ _ _ _ w1.drew
  generalize hw2 : w1.drew = w2
  have HW2 := Lib.hid hw2
  clear hw2
  go_wp2_with (go_at_call 57; refine (or_some _ _ [cmpI y u, cmpI x z] _ (ri_new rfl _ _) (by simp)).mono ?_; rintro e w' ⟨rfl, rfl⟩)
  go_ret
  exact ⟨rfl, 1, _, by rw [← HW2.out, HW.out]; exact boxes_end _ _ _ _⟩
set_option maxRecDepth 100000 in
set_option maxHeartbeats 1000000 in
theorem cmpa_any (a b : Int × Int × Int × Int) (w : World) : Calls Try.prog 41 #[.agg #[.int .i64 a.1, .int .i64 a.2.1, .int .i64 a.2.2.1, .int .i64 a.2.2.2], .agg #[.int .i64 b.1, .int .i64 b.2.1, .int .i64 b.2.2.1, .int .i64 b.2.2.2]] w fun e w' => e = .returned (.int .i64 (cmpA a b)) ∧ ∃ q os, w' = grow (w.drewN q) os := by
  obtain ⟨x, y, v, s⟩ := a
  obtain ⟨z, u, p, t⟩ := b
  simp only
  go_enter Try.func41, Try.ntmps41
  go_wp2
  have d0 : ((w.alloc (.cells #[.int .i64 x, .int .i64 y, .int .i64 v, .int .i64 s] 52)).alloc (.cells #[.int .i64 z, .int .i64 u, .int .i64 p, .int .i64 t] 52)).cell? ⟨w.heap.size, 0, none⟩ = some (.int .i64 x) := box0 w _ _ _ _ 0
  have c0 : ((w.alloc (.cells #[.int .i64 x, .int .i64 y, .int .i64 v, .int .i64 s] 52)).alloc (.cells #[.int .i64 z, .int .i64 u, .int .i64 p, .int .i64 t] 52)).cell? ⟨w.heap.size + 1, 0, none⟩ = some (.int .i64 z) := box1 w _ _ _ _ 0
  have d1 : ((w.alloc (.cells #[.int .i64 x, .int .i64 y, .int .i64 v, .int .i64 s] 52)).alloc (.cells #[.int .i64 z, .int .i64 u, .int .i64 p, .int .i64 t] 52)).cell? ⟨w.heap.size, 1, none⟩ = some (.int .i64 y) := box0 w _ _ _ _ 1
  have c1 : ((w.alloc (.cells #[.int .i64 x, .int .i64 y, .int .i64 v, .int .i64 s] 52)).alloc (.cells #[.int .i64 z, .int .i64 u, .int .i64 p, .int .i64 t] 52)).cell? ⟨w.heap.size + 1, 1, none⟩ = some (.int .i64 u) := box1 w _ _ _ _ 1
  have d3 : ((w.alloc (.cells #[.int .i64 x, .int .i64 y, .int .i64 v, .int .i64 s] 52)).alloc (.cells #[.int .i64 z, .int .i64 u, .int .i64 p, .int .i64 t] 52)).cell? ⟨w.heap.size, 3, none⟩ = some (.int .i64 s) := box0 w _ _ _ _ 3
  have c3 : ((w.alloc (.cells #[.int .i64 x, .int .i64 y, .int .i64 v, .int .i64 s] 52)).alloc (.cells #[.int .i64 z, .int .i64 u, .int .i64 p, .int .i64 t] 52)).cell? ⟨w.heap.size + 1, 3, none⟩ = some (.int .i64 t) := box1 w _ _ _ _ 3
  have HW : Hid ((w.alloc (.cells #[.int .i64 x, .int .i64 y, .int .i64 v, .int .i64 s] 52)).alloc (.cells #[.int .i64 z, .int .i64 u, .int .i64 p, .int .i64 t] 52) = grow (w.drewN 0) #[.cells #[.int .i64 x, .int .i64 y, .int .i64 v, .int .i64 s] 52, .cells #[.int .i64 z, .int .i64 u, .int .i64 p, .int .i64 t] 52]) := Lib.hid (boxes _ _ _)
  generalize (w.alloc (.cells #[.int .i64 x, .int .i64 y, .int .i64 v, .int .i64 s] 52)).alloc (.cells #[.int .i64 z, .int .i64 u, .int .i64 p, .int .i64 t] 52) = w1 at *
  refine wp_region_still_tail 15 (by kernel_rfl) (by kernel_rfl) ?_
  change wpStill _ _ w1.drew _ _ _
  simp only [List.take_succ_cons, List.take_zero, List.drop_succ_cons, List.drop_zero]
  repeat (first | still_step | still_call (cmpi_any _ _ _))
  refine wpStill_nil ?_
  change wpList _ _ _ _ _ w1.drew
  generalize hw2 : w1.drew = w2
  have HW2 := Lib.hid hw2
  clear hw2
  go_wp2_with (go_at_call 57; refine (or_some _ _ [cmpI x z, cmpI y u, cmpI s t] _ (ri_new rfl _ _) (by simp)).mono ?_; rintro e w' ⟨rfl, rfl⟩)
  go_ret
  exact ⟨rfl, 1, _, by rw [← HW2.out, HW.out]; exact boxes_end _ _ _ _⟩
theorem cmpm_any (a b : Int × Int × Int) (w : World) : Calls Try.prog 53 #[.agg #[.int .i64 a.1, .int .i64 a.2.1, .int .i64 a.2.2], .agg #[.int .i64 b.1, .int .i64 b.2.1, .int .i64 b.2.2]] w fun e w' => e = .returned (.int .i64 (cmpM a b)) ∧ ∃ q os, w' = grow (w.drewN q) os := by
  go_enter Try.func53, Try.ntmps53
  go_wp2_with (go_at_call 45; refine (cmpp_any (a.2.1, a.1) (b.2.1, b.1) _).mono ?_; rintro e w' ⟨rfl, q, os, rfl⟩)
  go_ret
  exact ⟨rfl, q, _, by rw [boxes]; show grow (grow (w.drewN q) _) _ = _; rw [grow_grow]⟩
theorem rbefore_any (a b : Int × Int × Int) (w : World) : Calls Try.prog 42 #[.agg #[.int .i64 a.1, .int .i64 a.2.1, .int .i64 a.2.2], .agg #[.int .i64 b.1, .int .i64 b.2.1, .int .i64 b.2.2]] w fun e w' => e = .returned (.bool (ltK a b)) ∧ Below w.heap.size w w' := by
  obtain ⟨x, y, z⟩ := a
  obtain ⟨u, v, s⟩ := b
  simp only
  have fin : ∀ o p : Obj, Below w.heap.size w ((w.alloc o).alloc p) := fun o p => ((Below.refl _ w).alloc (Nat.le_refl _) _).alloc (by simp) _
  have FIN := Lib.hid fin
  clear fin
  by_cases h : x = u
  · subst h
    by_cases h : y = v
    · subst h
      have HE : Hid (ltK (x, y, z) (x, y, s) = decide (z < s)) := Lib.hid (by unfold ltK; apply decide_eq_decide.2; simp)
      go_enter Try.func42, Try.ntmps42
      go_wp2
      go_ret
      exact ⟨ret_bool HE.out.symm, FIN.out _ _⟩
    · have HE : Hid (ltK (x, y, z) (x, v, s) = decide (y < v)) := Lib.hid (by unfold ltK; apply decide_eq_decide.2; simp [h])
      have h1 : (y == v) = false := by simpa using h
      have h2 : (y != v) = true := by simpa using h
      clear h
      go_enter Try.func42, Try.ntmps42
      go_wp2
      go_ret
      exact ⟨ret_bool HE.out.symm, FIN.out _ _⟩
  · have HE : Hid (ltK (x, y, z) (u, v, s) = decide (x < u)) := Lib.hid (by unfold ltK; apply decide_eq_decide.2; simp [h])
    have h1 : (x == u) = false := by simpa using h
    have h2 : (x != u) = true := by simpa using h
    clear h
    go_enter Try.func42, Try.ntmps42
    go_wp2
    go_ret
    exact ⟨ret_bool HE.out.symm, FIN.out _ _⟩
end Go.Proofs.Ytieomjkiabfhcaa
