/- A movement's amount is laid into a flow: package expand's carry; by how much a stock has changed: changeAt. -/
import Derived.Test.YtbkmfjegbmjknaaCE
import Derived.Test.YtbkmfjegbmjknaaCD
import Derived.Test.YtbkmfjegbmjknaaCC
namespace Go.Proofs.Ytbkmfjegbmjknaa
open Go.RowKit Go.Maps
set_option linter.unusedVariables false
set_option maxRecDepth 100000 in
set_option maxHeartbeats 4000000 in
theorem uchange_zero (v : Nat) (x : Int) (g : List Int) (ga : Option Addr) (gl gc : Nat) (G : List (List Int)) (w : World) (h : IRow w ga G) (hl : G.length = gl) (hg : G[0]? = some g) (hv : g[v]? = some x) :
    Calls Try.prog 82 #[.agg #[.int .i64 (v : Int), .int .i64 0], .slice ga gl gc] w fun e w' => e = .returned (.int .i64 x) ∧ Below w.heap.size w w' := by
  have hb00 := (Below.refl _ w).alloc (Nat.le_refl _) (.cells #[.int .i64 (v : Int), .int .i64 0] 26)
  have HB := Lib.hid hb00
  have HN := Lib.hid (heap_alloc_new w (.cells #[.int .i64 (v : Int), .int .i64 0] 26))
  have s0 := cell_whole HN.out 0
  have s1 := cell_whole HN.out 1
  obtain ⟨b, o, a, c, q, ad, e, h1, h2, h3⟩ := irow_num (h.below hb00) hg hv
  subst e
  have hq : (v : Int) < (q : Int) := by rw [h2]; have := (List.getElem?_eq_some_iff.1 hv).1; omega
  have hgl : (0 : Int) < (gl : Int) := by rw [← hl]; have := (List.getElem?_eq_some_iff.1 hg).1; omega
  have h1' : (w.alloc (.cells #[.int .i64 (v : Int), .int .i64 0] 26)).cell? ⟨b, o, none⟩ = some (.slice (some ⟨a, c, none⟩) q ad) := h1
  clear hb00 h hl hg hv h2
  go_enter Try.func82, Try.ntmps82
  go_wp2_with fail
  go_quiet (fail)
  go_wp2
  go_ret
  exact ⟨rfl, below_drewN HB.out _⟩
set_option maxRecDepth 100000 in
set_option maxHeartbeats 4000000 in
theorem uchange_succ (v u : Nat) (x y : Int) (g g' : List Int) (ga : Option Addr) (gl gc : Nat) (G : List (List Int)) (w : World) (h : IRow w ga G) (hl : G.length = gl) (hg : G[u + 1]? = some g) (hv : g[v]? = some x) (hg' : G[u]? = some g') (hv' : g'[v]? = some y) (hx : -1099511627776 ≤ x ∧ x ≤ 1099511627776) (hy : -1099511627776 ≤ y ∧ y ≤ 1099511627776) (hu : u ≤ 2000) :
    Calls Try.prog 82 #[.agg #[.int .i64 (v : Int), .int .i64 ((u + 1 : Nat) : Int)], .slice ga gl gc] w fun e w' => e = .returned (.int .i64 (x - y)) ∧ Below w.heap.size w w' := by
  obtain ⟨uu, huu⟩ : ∃ uu, u + 1 = uu := ⟨_, rfl⟩
  rw [huu] at hg ⊢
  have hb00 := (Below.refl _ w).alloc (Nat.le_refl _) (.cells #[.int .i64 (v : Int), .int .i64 (uu : Int)] 26)
  have HB := Lib.hid hb00
  have HN := Lib.hid (heap_alloc_new w (.cells #[.int .i64 (v : Int), .int .i64 (uu : Int)] 26))
  have s0 := cell_whole HN.out 0
  have s1 := cell_whole HN.out 1
  obtain ⟨b, o, a, c, q, ad, e, h1, h2, h3⟩ := irow_num (h.below hb00) hg hv
  subst e
  obtain ⟨b', o', a', c', q', ad', e, h1', h2', h3'⟩ := irow_num (h.below hb00) hg' hv'
  cases e
  have hq : (v : Int) < (q : Int) := by rw [h2]; have := (List.getElem?_eq_some_iff.1 hv).1; omega
  have hq' : (v : Int) < (q' : Int) := by rw [h2']; have := (List.getElem?_eq_some_iff.1 hv').1; omega
  have hgl : (uu : Int) < (gl : Int) := by rw [← hl]; have := (List.getElem?_eq_some_iff.1 hg).1; omega
  have hgl' : (u : Int) < (gl : Int) := by omega
  have hne : ((uu : Int) == 0) = false := by simp; omega
  have hw1 : IntKind.i64.wrap ((uu : Int) - 1) = (u : Int) := by rw [IntWalk.i64_in _ (by omega)]; omega
  have hw2 : IntKind.i64.wrap (x - y) = x - y := IntWalk.i64_in _ (by omega)
  clear hb00 h hl hg hv h2 hg' hv' h2' hx hy
  go_enter Try.func82, Try.ntmps82
  go_wp2_with fail
  go_quiet (fail)
  go_wp2
  go_ret
  exact ⟨rfl, below_drewN HB.out _⟩
theorem wpList_look_slotA {β : Type} {mk : β → Value} {w : World} {b m : Nat} {f : Int × Int → Option β} {ops : Array Oper} {rest : List Oper} {o : Oper} {a : Act} {Q : Exit → Act → World → Prop} (hg : o.guard = none) (mo x : Operand) (t e : TypeId) (hop : o.op = Op.lookup t mo x false)
    (ht : Try.prog.underlying t = some (.map 26 e)) {z : Value} (hz : (zeroValue e).run Try.prog w = .ok z w) (h : SlotM mk w b m f) (p : Int × Int) (hp : okP p) (hm : a.eval mo = .map (some b)) (hx : a.eval x = slotV p)
    (hK : wpList Try.prog ops Q rest (a.put o.dst (atV mk z (f p))) w) : wpList Try.prog ops Q (o :: rest) a w := by
  refine wpList_look_slot hg mo x t e hop ht hz h p hp hm hx ?_
  cases hf : f p with
  | none => rw [hf] at hK; exact hK
  | some c => rw [hf] at hK; exact hK
theorem zeroCrossC : ∀ u : World, (zeroValue 119).run Try.prog u = .ok (.slice none 0 0) u := fun _ => by kernel_rfl
theorem three_alloc (w : World) (o1 o2 o3 : Obj) (g : Nat) (hg : w.heap.size = g) : (((w.alloc o1).alloc o2).alloc o3).heap[g]? = some o1 ∧ (((w.alloc o1).alloc o2).alloc o3).heap[g + 1]? = some o2 ∧ (((w.alloc o1).alloc o2).alloc o3).heap[g + 2]? = some o3 ∧ Below g w (((w.alloc o1).alloc o2).alloc o3) ∧ (((w.alloc o1).alloc o2).alloc o3).heap.size = g + 3 := by
  subst hg
  have e : ∀ (W : World) (o : Obj) (n : Nat), W.heap.size = n → (W.alloc o).heap[n]? = some o ∧ (W.alloc o).heap.size = n + 1 := fun W o n h => by subst h; exact ⟨heap_alloc_new W o, by simp⟩
  obtain ⟨a1, s1⟩ := e w o1 _ rfl
  obtain ⟨a2, s2⟩ := e (w.alloc o1) o2 _ s1
  obtain ⟨a3, s3⟩ := e ((w.alloc o1).alloc o2) o3 _ s2
  exact ⟨alloc_whole (alloc_whole a1 o2) o3, alloc_whole a2 o3, a3, (((Below.refl _ w).alloc (Nat.le_refl _) o1).alloc (by omega) o2).alloc (by omega) o3, s3⟩
set_option maxRecDepth 100000 in
set_option maxHeartbeats 8000000 in
theorem ucarry_any (k : GBk) (E : Exp) (bn : Int) (m : Nat) (fa : Option Addr) (al ac : Nat) (hd : Int × Int → Option (Nat × Nat × Nat)) (g base M cap : Nat) (F : List Int) (p1 p2 ma mt mn : Int) (w : World)
    (hG : GX k (E.N : Int) (E.H : Int) bn w (contK E E.kinds) m (.slice fa al ac) hd) (hF : OwnL encI w base 3 (.slice (some ⟨g, 0, none⟩) M cap) F) (hFK : F.length = E.kinds.length) (hM : M = F.length) (hK : M ≤ 100000) (hp : okP (p1, p2)) :
    Calls Try.prog 81 #[grwV k (E.N : Int) (E.H : Int) bn (.slice fa al ac), .slice (some ⟨g, 0, none⟩) M cap, .agg #[.int .i64 p1, .int .i64 p2], .agg #[.int .i64 ma, .int .i64 mt, .int .i64 mn]] w fun e w' =>
      e = .returned (.tuple #[]) ∧ OwnL encI w' base 3 (.slice (some ⟨g, 0, none⟩) M cap) (carL ma mn F (crossF E E.kinds (p1, p2))) ∧ Kept (fun i => i = g) w w' := by
  unfold grwV
  obtain ⟨g0, hg0⟩ : ∃ g0, w.heap.size = g0 := ⟨_, rfl⟩
  obtain ⟨a1, a2, a3, hb1, hs1⟩ := three_alloc w (.cells #[.int .i64 (E.N : Int), .int .i64 (E.H : Int), .int .i64 bn, .bool false, .slice fa al ac, .map (some k.bc), .map (some k.bw), .map (some k.be), .map (some k.bx)] 83) (.cells #[.int .i64 p1, .int .i64 p2] 26) (.cells #[.int .i64 ma, .int .i64 mt, .int .i64 mn] 94) g0 hg0
  have hb1' : Below w.heap.size w (((w.alloc (.cells #[.int .i64 (E.N : Int), .int .i64 (E.H : Int), .int .i64 bn, .bool false, .slice fa al ac, .map (some k.bc), .map (some k.bw), .map (some k.be), .map (some k.bx)] 83)).alloc (.cells #[.int .i64 p1, .int .i64 p2] 26)).alloc (.cells #[.int .i64 ma, .int .i64 mt, .int .i64 mn] 94)) := by rw [hg0]; exact hb1
  have hgb : base ≤ g ∧ g < w.heap.size := ⟨own_block hF rfl, own_lt hF rfl⟩
  have HX := Lib.hid (hG.below hb1')
  have HF := Lib.hid (hF.below hb1')
  have HB := Lib.hid hb1'
  have HMV := Lib.hid a3
  have HFK := Lib.hid hFK
  have HM := Lib.hid hM
  have HP := Lib.hid hp
  have HGB := Lib.hid hgb
  have x5 := cell_whole a1 5
  have y0 := cell_whole a2 0
  have y1 := cell_whole a2 1
  have z0 := cell_whole a3 0
  have z2 := cell_whole a3 2
  have hcv : ∃ ca cc, atV hdV (Value.slice none 0 0) (hd (p1, p2)) = .slice ca (crossF E E.kinds (p1, p2)).length cc ∧ Row encPQ 2 (((w.alloc (.cells #[.int .i64 (E.N : Int), .int .i64 (E.H : Int), .int .i64 bn, .bool false, .slice fa al ac, .map (some k.bc), .map (some k.bw), .map (some k.be), .map (some k.bx)] 83)).alloc (.cells #[.int .i64 p1, .int .i64 p2] 26)).alloc (.cells #[.int .i64 ma, .int .i64 mt, .int .i64 mn] 94)) ca (crossF E E.kinds (p1, p2)) ∧ ∀ ad, ca = some ad → ad.block ≠ g := by
    cases hh : hd (p1, p2) with
    | none =>
      have e : crossF E E.kinds (p1, p2) = [] := HX.out.cn _ hh
      rw [e]
      exact ⟨none, 0, rfl, Row.nil _ _, fun ad e => by cases e⟩
    | some c =>
      obtain ⟨hcl, hrow⟩ := HX.out.cr _ c hh
      obtain ⟨ca, cc, e1, e2, e3⟩ := own_rowQ encP_lenQ (show World.ownsRow _ k.B 121 2 (hdV c) (crossF E E.kinds (p1, p2)).length ((crossF E E.kinds (p1, p2)).flatMap encPQ) from hrow)
      refine ⟨ca, cc, e1, e2, fun ad e4 e5 => ?_⟩
      have e6 : (hdV c).ownBlock = some g := by rw [e1, e4]; show some ad.block = _; rw [e5]
      exact own_apart hrow HF.out (by decide) e6 rfl
  obtain ⟨ca, cc, hcv1, hcv2, hcv3⟩ := hcv
  have HV := Lib.hid hcv1
  have HROW := Lib.hid hcv2
  have HNE := Lib.hid hcv3
  have HCE : Hid (∀ c ∈ crossF E E.kinds (p1, p2), ∃ ci cj : Nat, c = ((ci : Int), (cj : Int)) ∧ cj < F.length) := Lib.hid (fun c hc => by
    obtain ⟨i, u, j, rfl, hk, _⟩ := cross_at hc
    exact ⟨i, j, rfl, by rw [hFK]; exact (List.getElem?_eq_some_iff.1 hk).1⟩)
  have HST := Lib.hid (fun (i : Nat) (c : Int × Int) (hc : (crossF E E.kinds (p1, p2))[i]? = some c) => carL_step (a := ma) (x := mn) (F := F) hc)
  have HCLB : Hid ((crossF E E.kinds (p1, p2)).length ≤ 100000) := Lib.hid (by
    have h1 : (crossF E E.kinds (p1, p2)).length ≤ E.kinds.zipIdx.length := List.length_filterMap_le _ _
    rw [List.length_zipIdx] at h1
    omega)
  have HLEN := Lib.hid (fun C => carL_len ma mn F C)
  have HMM := Lib.hid HX.out.cm
  clear hG hF hFK hM hp hb1 hb1' a1 a2 a3 hcv1 hcv2 hcv3
  generalize crossF E E.kinds (p1, p2) = C at *
  obtain ⟨cl, hcl⟩ : ∃ cl, C.length = cl := ⟨_, rfl⟩
  have HCL := Lib.hid hcl
  rw [hcl] at HV HCLB
  clear hcl
  generalize hw1 : (((w.alloc (.cells #[.int .i64 (E.N : Int), .int .i64 (E.H : Int), .int .i64 bn, .bool false, .slice fa al ac, .map (some k.bc), .map (some k.bw), .map (some k.be), .map (some k.bx)] 83)).alloc (.cells #[.int .i64 p1, .int .i64 p2] 26)).alloc (.cells #[.int .i64 ma, .int .i64 mt, .int .i64 mn] 94)) = w1 at *
  rw [hg0] at HGB
  have hl1 : g < w1.heap.size := by have := HGB.out.2; omega
  go_enter Try.func81, Try.ntmps81
  go_wp2_with (first
    | (at_lookup; (try rw [hw1]); refine wpList_look_slotA rfl _ _ _ _ rfl Try.underlying80 (zeroCrossC _) HMM.out (p1, p2) HP.out rfl rfl ?_; rw [HV.out])
    | fail)
  clear x5 y0 y1
  go_loopw [15] (fun iv wr => ∃ n : Nat, n ≤ cl ∧ iv = .int .i64 (n : Int) ∧ Hid (OwnL encI wr base 3 (.slice (some ⟨g, 0, none⟩) M cap) (carL ma mn F (C.take n))) ∧ Hid (Kept (fun i => i = g) w1 wr)) (fun iv _ => cl - (intOf iv).toNat)
  case atStart => exact ⟨0, Nat.zero_le _, rfl, Lib.hid (by rw [List.take_zero]; exact HF.out), Lib.hid (Kept.refl _ _)⟩
  case round =>
    obtain ⟨n, hn, rfl, HO, HK⟩ := hrel
    have hclb := HCLB.out
    by_cases hlt : n < cl
    · have hli : (n : Int) < (cl : Int) := by omega
      have hnl : n < C.length := by rw [HCL.out]; exact hlt
      obtain ⟨cb, cx, e, hcb, d0, d1⟩ := Row.pair (rowOffO HROW.out HK.out (fun ad e _ e2 => HNE.out ad e e2)) hnl
      subst e
      obtain ⟨ci, cj, hce, hcj⟩ := HCE.out _ (List.getElem_mem hnl)
      have HSTEP := Lib.hid (HST.out n _ (List.getElem?_eq_getElem hnl))
      rw [hce] at d0 d1 HSTEP
      have hmv := HK.out.old HMV.out (fun e => by have e2 : g0 + 2 = g := e; have := HGB.out.2; omega)
      have hcjm : (cj : Int) < (M : Int) := by rw [HM.out]; omega
      have hln : (carL ma mn F (C.take n)).length = F.length := HLEN.out _
      obtain ⟨y, hy⟩ : ∃ y, (carL ma mn F (C.take n))[cj]? = some y := ⟨_, List.getElem?_eq_getElem (by rw [hln]; exact hcj)⟩
      have hOA := HO.out.alloc (.cells #[.int .i64 (ci : Int), .int .i64 (cj : Int)] 121)
      obtain ⟨f0, f1⟩ := hOA.cell hy
      obtain ⟨f2, f3⟩ := HO.out.cell hy
      unfold encI at f0 f2
      have hal := (Below.refl wr.heap.size wr).alloc (Nat.le_refl _) (.cells #[.int .i64 (ci : Int), .int .i64 (cj : Int)] 121)
      have hmv2 := kept_box hmv hal
      have m0 := cell_whole hmv 0
      have m2 := cell_whole hmv 2
      have m0' := cell_whole hmv2 0
      have m2' := cell_whole hmv2 2
      have hnew := heap_alloc_new wr (.cells #[.int .i64 (ci : Int), .int .i64 (cj : Int)] 121)
      have q0 := cell_whole hnew 0
      have q1 := cell_whole hnew 1
      have HOA := Lib.hid hOA
      have hlr : g < wr.heap.size := by have := HK.out.size; omega
      clear hOA hal hnew hmv hmv2 hy hln hnl hce hcj
      generalize carL ma mn F (C.take n) = F1 at *
      by_cases hq : (ci : Int) = ma
      · have hq1 : ((ci : Int) == ma) = true := by simpa using hq
        have HS1 : Hid (carL ma mn F (C.take (n + 1)) = F1.set cj mn) := Lib.hid (by rw [HSTEP.out, if_pos hq, Int.toNat_natCast])
        clear HSTEP hq
        go_wp2_with fail
        go_roundw
        case rel => exact ⟨n + 1, by omega, by go_num, Lib.hid (by rw [HS1.out]; first | exact HOA.out.put cj mn | exact (HO.out.put cj mn).alloc _), Lib.hid (by first | exact (HK.out.alloc _).set (.inl rfl) _ | exact (HK.out.set (.inl rfl) _).alloc _)⟩
        case measure => simp [intOf]; omega
      · have hq1 : ((ci : Int) == ma) = false := by simpa using hq
        have HS1 : Hid (carL ma mn F (C.take (n + 1)) = F1) := Lib.hid (by rw [HSTEP.out, if_neg hq])
        clear HSTEP hq
        go_wp2_with fail
        go_roundw
        case rel => exact ⟨n + 1, by omega, by go_num, Lib.hid (by rw [HS1.out]; exact HOA.out), Lib.hid (HK.out.alloc _)⟩
        case measure => simp [intOf]; omega
    · have hli : ¬ (n : Int) < (cl : Int) := by omega
      obtain rfl : n = cl := by omega
      have HE : Hid (C.take n = C) := Lib.hid (by rw [← HCL.out]; exact List.take_length)
      go_wp2_with fail
      refine bodyPost_end (results_none rfl _ _ _) rfl ?_
      exact ⟨rfl, by rw [HE.out] at HO; exact HO.out, (Kept.of_below HB.out).trans' HK.out⟩
end Go.Proofs.Ytbkmfjegbmjknaa
