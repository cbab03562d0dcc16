/- Lemmas of the layers below, several texts in one. -/
import Derived.Test.YtlkbohpnlbfopaaUMk
import Derived.Test.YtlkbohpnlbfopaaCB
namespace Go.Proofs.Ytlkbohpnlbfopaa
open Go.RowKit
set_option linter.unusedVariables false
theorem sizeGrowth : (Try.prog.info? 101).map (·.size) = some 9 := by kernel_rfl
theorem grwL_one (b : GBk) (N H bn : Int) (ao : Option Addr) (l c : Nat) : ∀ v ∈ grwL b N H bn (.slice ao l c), v.oneCell' = true := by
  intro v hv
  unfold grwL at hv
  simp only [List.mem_cons, List.not_mem_nil, or_false] at hv
  rcases hv with rfl | rfl | rfl | rfl | rfl | rfl | rfl | rfl | rfl <;> rfl
def grw0L : List Value := [.int .i64 0, .int .i64 0, .int .i64 0, .bool false, .slice none 0 0, .map none, .map none, .map none, .map none]
theorem grw0L_one : ∀ v ∈ grw0L, v.oneCell' = true := by
  intro v hv
  unfold grw0L at hv
  simp only [List.mem_cons, List.not_mem_nil, or_false] at hv
  rcases hv with rfl | rfl | rfl | rfl | rfl | rfl | rfl | rfl | rfl <;> rfl
def grw0 : Value := .agg #[.int .i64 0, .int .i64 0, .int .i64 0, .bool false, .slice none 0 0, .map none, .map none, .map none, .map none]
def grwV (b : GBk) (N H bn : Int) (av : Value) : Value := .agg #[.int .i64 N, .int .i64 H, .int .i64 bn, .bool false, av, .map (some b.bc), .map (some b.bw), .map (some b.be), .map (some b.bx)]
theorem five_alloc (w : World) (o1 o2 o3 o4 o5 : Obj) (g : Nat) (hg : w.heap.size = g) : (((((w.alloc o1).alloc o2).alloc o3).alloc o4).alloc o5).heap[g]? = some o1 ∧ (((((w.alloc o1).alloc o2).alloc o3).alloc o4).alloc o5).heap[g + 1]? = some o2 ∧ (((((w.alloc o1).alloc o2).alloc o3).alloc o4).alloc o5).heap[g + 2]? = some o3 ∧ (((((w.alloc o1).alloc o2).alloc o3).alloc o4).alloc o5).heap[g + 3]? = some o4 ∧ (((((w.alloc o1).alloc o2).alloc o3).alloc o4).alloc o5).heap[g + 4]? = some o5 ∧ Below g w (((((w.alloc o1).alloc o2).alloc o3).alloc o4).alloc o5) ∧ (((((w.alloc o1).alloc o2).alloc o3).alloc o4).alloc o5).heap.size = g + 5 := by
  subst hg
  have e : ∀ (W : World) (o : Obj) (n : Nat), W.heap.size = n → (W.alloc o).heap[n]? = some o ∧ (W.alloc o).heap.size = n + 1 := fun W o n h => by subst h; exact ⟨heap_alloc_new W o, by simp⟩
  obtain ⟨a1, s1⟩ := e w o1 _ rfl
  obtain ⟨a2, s2⟩ := e (w.alloc o1) o2 _ s1
  obtain ⟨a3, s3⟩ := e ((w.alloc o1).alloc o2) o3 _ s2
  obtain ⟨a4, s4⟩ := e (((w.alloc o1).alloc o2).alloc o3) o4 _ s3
  obtain ⟨a5, s5⟩ := e ((((w.alloc o1).alloc o2).alloc o3).alloc o4) o5 _ s4
  exact ⟨alloc_whole (alloc_whole (alloc_whole (alloc_whole a1 o2) o3) o4) o5, alloc_whole (alloc_whole (alloc_whole a2 o3) o4) o5, alloc_whole (alloc_whole a3 o4) o5, alloc_whole a4 o5, a5,
    (((((Below.refl _ w).alloc (Nat.le_refl _) o1).alloc (by omega) o2).alloc (by omega) o3).alloc (by omega) o4).alloc (by omega) o5, s5⟩
section
variable (n : Int) (b : Bool) (ao : Option Addr) (nl cap : Nat) (Z : List ArcT) (s t H : Int)
def GrwRes (E : Exp) (w : World) (e : Ending) (w' : World) : Prop :=
  ∃ (k : GBk) (m : Nat) (av : Value) (hd : Int × Int → Option (Nat × Nat × Nat)), e = .returned (.tuple #[grwV k (E.N : Int) (E.H : Int) (((E.H : Int) + 1) * (E.N : Int) + 2) av, .int .i64 0]) ∧ k.B = w.heap.size ∧ GX k (E.N : Int) (E.H : Int) (((E.H : Int) + 1) * (E.N : Int) + 2) w' (contK E E.kinds) m av hd ∧ Below w.heap.size w w'
set_option maxRecDepth 100000 in
set_option maxHeartbeats 8000000 in
theorem ugrow_no (w : World) (h : Row encA 4 w ao Z) (hl : Z.length = nl) (hz : Z.length ≤ 4398046511104) (hx : xpE n Z s t H ≠ 0) :
    Calls Try.prog 36 #[.agg #[.int .i64 n, .bool b, .slice ao nl cap], .int .i64 s, .int .i64 t, .int .i64 H] w fun e w' => e = .returned (.tuple #[grw0, .int .i64 (xpE n Z s t H)]) ∧ Below w.heap.size w w' := by
  have hzm : Z.length ≤ maxLen := by unfold maxLen; omega
  have HZM := Lib.hid hzm
  obtain ⟨x0, hx0⟩ : ∃ x0, xpE n Z s t H = x0 := ⟨_, rfl⟩
  have HX0 := Lib.hid hx0
  rw [hx0]
  clear hx0
  obtain ⟨g0, hg0⟩ : ∃ g0, w.heap.size = g0 := ⟨_, rfl⟩
  obtain ⟨a1, a2, a3, a4, a5, hb1, hs1⟩ := five_alloc w (.cells #[.int .i64 n, .bool b, .slice ao nl cap] 24) (.cells #[.int .i64 s] 3) (.cells #[.int .i64 t] 3) (.cells #[.int .i64 H] 3) (.cells #[.int .i64 0, .int .i64 0, .int .i64 0, .bool false, .slice none 0 0, .map none, .map none, .map none, .map none] 101) g0 hg0
  have HN := Lib.hid a1
  have HS := Lib.hid a2
  have HT := Lib.hid a3
  have HH := Lib.hid a4
  have HG := Lib.hid a5
  have HB := Lib.hid hb1
  have HSZ := Lib.hid hs1
  have HR := Lib.hid (h.below' (hg0.symm ▸ hb1))
  have c0 := cell_whole a1 0
  have c1 := cell_whole a1 1
  have c2 := cell_whole a1 2
  have c3 := cell_whole a2 0
  have c4 := cell_whole a3 0
  have c5 := cell_whole a4 0
  have HL := Lib.hid hl
  have hnl : nl ≤ 4398046511104 := by omega
  have hmk := fun W => run_make_row' (P := Try.prog) 65 3 (.int .i64 0) 8 Try.underlying65 infoInt rfl .i64 .i64 nl (by omega) (by omega) W
  clear h hzm a1 a2 a3 a4 a5 hb1 hs1 hz
  go_enter Try.func36, Try.ntmps36
  go_wp2_with fail
  generalize ((((w.alloc (.cells #[.int .i64 n, .bool b, .slice ao nl cap] 24)).alloc (.cells #[.int .i64 s] 3)).alloc (.cells #[.int .i64 t] 3)).alloc (.cells #[.int .i64 H] 3)).alloc (.cells #[.int .i64 0, .int .i64 0, .int .i64 0, .bool false, .slice none 0 0, .map none, .map none, .map none, .map none] 101) = w1 at *
  have HZ0 := Lib.hid hg0
  clear hg0
  have bA := Lib.hid (below_drew ((Below.refl _ w1).alloc (Nat.le_refl _) (.cells (madeCells #[.int .i64 0] nl) 3)))
  have HRm := Lib.hid (HR.out.below' bA.out)
  have HFm : Hid (Lst encI (w1.alloc (.cells (madeCells #[.int .i64 0] nl) 3)).drew (some ⟨w1.heap.size, 0, none⟩) (List.replicate nl 0)) := Lib.hid (made_zeros w1 _ nl rfl)
  obtain ⟨e0, he⟩ : ∃ e0, askE n Z s t H = e0 := ⟨_, rfl⟩
  have HE := Lib.hid he
  have HCALL := Lib.hid (pworth_zero n b ao cap Z s t H (some ⟨w1.heap.size, 0, none⟩) nl e0 _ HRm.out (by rw [HL.out]; exact HFm.out) HZM.out he)
  rw [HL.out] at HCALL
  have HXE := Lib.hid hx
  clear he hx hl
  have hwl : g0 < w1.heap.size := lt_whole HN.out
  have hwl1 : g0 + 1 < w1.heap.size := lt_whole HS.out
  have hwl2 : g0 + 2 < w1.heap.size := lt_whole HT.out
  have hwl3 : g0 + 3 < w1.heap.size := lt_whole HH.out
  go_region_held3 (fun W => W.cell? ⟨g0, 0, none⟩ = some (.int .i64 n) ∧ W.cell? ⟨g0, 1, none⟩ = some (.bool b) ∧ W.cell? ⟨g0, 2, none⟩ = some (.slice ao nl cap) ∧ W.cell? ⟨g0 + 1, 0, none⟩ = some (.int .i64 s) ∧ W.cell? ⟨g0 + 2, 0, none⟩ = some (.int .i64 t) ∧ W.cell? ⟨g0 + 3, 0, none⟩ = some (.int .i64 H)) (first | exact ⟨c0, c1, c2, c3, c4, c5⟩ | exact ⟨z0, z1, z2, z3, z4, z5⟩ | go_keep)
    (first | (go_at_call 52; refine HCALL.out.mono ?_; rintro e w2 ⟨v, rfl, hb2⟩; have HB2 := Lib.hid (bA.out.trans (hb2.mono bA.out.size)); have hn2 := kept_box HN.out HB2.out; have hs2 := kept_box HS.out HB2.out; have ht2 := kept_box HT.out HB2.out; have hh2 := kept_box HH.out HB2.out; have z0 := cell_whole hn2 0; have z1 := cell_whole hn2 1; have z2 := cell_whole hn2 2; have z3 := cell_whole hs2 0; have z4 := cell_whole ht2 0; have z5 := cell_whole hh2 0; clear hb2 hn2 hs2 ht2 hh2))
  all_goals
    clear hmk c0 c1 c2 c3 c4 c5
    have HG2 := Lib.hid (kept_box HG.out HB2.out)
    by_cases h0 : e0 = 0
    · subst h0
      have HX2 : Hid (fitN n Z H = false ∧ xpE n Z s t H = 2) := Lib.hid (by
        have h1 := xpE_fit HE.out
        cases hf : fitN n Z H with
        | true => rw [hf] at h1; exact absurd h1 HXE.out
        | false => rw [hf] at h1; exact ⟨rfl, h1⟩)
      have hxx : x0 = 2 := by rw [← HX0.out]; exact HX2.out.2
      subst hxx
      have HGO := Lib.hid (ugridof_any n H b ao nl cap Z false w2 (HR.out.below' HB2.out) HL.out HZM.out HX2.out.1)
      go_wp2_with (first
        | (go_at_call 39; refine HGO.out.mono ?_; rintro e w3 ⟨rfl, hb3⟩; simp only [Bool.false_eq_true, if_false]; have HB3 := Lib.hid ((HB2.out.trans (hb3.mono HB2.out.size)).alloc (by have := HB2.out.size; have := hb3.size; omega) (.cells #[.int .i64 0, .int .i64 0] 97)); have HG3 := Lib.hid (alloc_whole (kept_box HG2.out hb3) (.cells #[.int .i64 0, .int .i64 0] 97)); clear hb3)
        | ((with_reducible show wpList _ _ _ (Oper.mk none (Op.store 101 _ _) _ _ _ _ :: _) _ _); refine wpList_store_box sizeGrowth rfl _ _ rfl (g0 + 4) _ grw0L rfl rfl HG3.out rfl rfl grw0L_one ?_; intro w5 hg5 hk5; have HG5 := Lib.hid hg5; have HK5 := Lib.hid hk5; clear hg5 hk5))
      have k0 := cell_whole HG5.out 0
      have k1 := cell_whole HG5.out 1
      have k2 := cell_whole HG5.out 2
      have k3 := cell_whole HG5.out 3
      have k4 := cell_whole HG5.out 4
      have k5 := cell_whole HG5.out 5
      have k6 := cell_whole HG5.out 6
      have k7 := cell_whole HG5.out 7
      have k8 := cell_whole HG5.out 8
      unfold grw0L at k0 k1 k2 k3 k4 k5 k6 k7 k8
      have hz0 := HZ0.out
      have hsz := HSZ.out
      have hbB := HB.out
      have hb3s := HB3.out.size
      refine bodyPost_ret (v := .tuple #[grw0, .int .i64 2]) (by simp [results, Try.results36, go_sem, k0, k1, k2, k3, k4, k5, k6, k7, k8, grw0]) rfl ⟨rfl, ?_⟩
      rw [hz0]
      exact (hbB.trans (HB3.out.mono (by omega))).trans (HK5.out.below (by omega) (fun i e => by have e2 : i = g0 + 4 := e; omega))
    · have hf1 : (e0 != 0) = true := by simpa using h0
      have hf2 : (e0 == 0) = false := by simpa using h0
      have HX2 : Hid (xpE n Z s t H = e0) := Lib.hid (by rw [xpE_ask (by rw [HE.out]; exact h0), HE.out])
      have hxx : x0 = e0 := by rw [← HX0.out]; exact HX2.out
      subst hxx
      go_wp2_with ((with_reducible show wpList _ _ _ (Oper.mk none (Op.store 101 _ _) _ _ _ _ :: _) _ _); refine wpList_store_box sizeGrowth rfl _ _ rfl (g0 + 4) _ grw0L rfl rfl HG2.out rfl rfl grw0L_one ?_; intro w5 hg5 hk5; have HG5 := Lib.hid hg5; have HK5 := Lib.hid hk5; clear hg5 hk5)
      have k0 := cell_whole HG5.out 0
      have k1 := cell_whole HG5.out 1
      have k2 := cell_whole HG5.out 2
      have k3 := cell_whole HG5.out 3
      have k4 := cell_whole HG5.out 4
      have k5 := cell_whole HG5.out 5
      have k6 := cell_whole HG5.out 6
      have k7 := cell_whole HG5.out 7
      have k8 := cell_whole HG5.out 8
      unfold grw0L at k0 k1 k2 k3 k4 k5 k6 k7 k8
      have hz0 := HZ0.out
      have hsz := HSZ.out
      have hbB := HB.out
      have hb2s := HB2.out.size
      refine bodyPost_ret (v := .tuple #[grw0, .int .i64 x0]) (by simp [results, Try.results36, go_sem, k0, k1, k2, k3, k4, k5, k6, k7, k8, grw0]) rfl ⟨rfl, ?_⟩
      rw [hz0]
      exact (hbB.trans (HB2.out.mono (by omega))).trans (HK5.out.below (by omega) (fun i e => by have e2 : i = g0 + 4 := e; omega))
theorem xpE_nat {n : Int} {Z : List ArcT} {s t H : Int} (h : xpE n Z s t H = 0) : ∃ N i j K : Nat, n = (N : Int) ∧ s = (i : Int) ∧ t = (j : Int) ∧ H = (K : Int) ∧ i < N ∧ j < N ∧ i ≠ j ∧ SpanNet Z N ∧ K ≤ 1024 ∧ (K + 1) * N ≤ 4000 ∧ (K + 1) * Z.length ≤ 10000 := by
  obtain ⟨h1, h2⟩ := xpE_ok.1 h
  obtain ⟨N, i, j, rfl, rfl, rfl, hi, hj, hij, hW, hH0, hH1⟩ := ask_net h1
  obtain ⟨N', K, e1, rfl, _, _, h3, h4, h5, _⟩ := fit_nat h2
  obtain rfl : N = N' := by omega
  exact ⟨N, i, j, K, rfl, rfl, rfl, rfl, hi, hj, hij, hW, h3, h4, h5⟩
theorem mvK_len (E : Exp) (u : Nat) : ∀ i, (E.mvK u i).length ≤ i
  | 0 => Nat.le_refl _
  | i + 1 => by
    show (E.mvK u i ++ if E.ok i u then [Kd.mv i u] else []).length ≤ i + 1
    rw [List.length_append]
    have := mvK_len E u i
    split <;> simp <;> omega
theorem wtK_len (E : Exp) (u : Nat) : ∀ i, (E.wtK u i).length ≤ i
  | 0 => Nat.le_refl _
  | i + 1 => by
    show (E.wtK u i ++ if E.wok i u then [Kd.wt i u] else []).length ≤ i + 1
    rw [List.length_append]
    have := wtK_len E u i
    split <;> simp <;> omega
theorem rise_le {u K x : Nat} (h : u ≤ K) : u * x ≤ K * x := Nat.mul_le_mul_right x h
theorem step_store_box {T : TypeId} {k : Nat} (hT : (Try.prog.info? T).map (·.size) = some k) {w : World} {ops : Array Oper} {o : Oper} {a : Act} {KK : Act → World → Prop} {Q : Exit → Act → World → Prop} {G : Prop} (hgd : o.guard = none) (x y : Operand) (ho : o.op = .store T x y)
    (g : Nat) (c : Array Value) (l : List Value) (hx : a.eval x = .pointer (some ⟨g, 0, none⟩)) (hy : a.eval y = .agg l.toArray) (hg : w.heap[g]? = some (.cells c T (0, 0))) (hc : c.size = k) (hl : l.length = k) (h1 : ∀ v ∈ l, v.oneCell' = true)
    (h : ∀ w', w'.heap[g]? = some (.cells l.toArray T (0, 0)) → Kept (fun i => i = g) w w' → KK (a.put o.dst undef) w') : if Region.wanted o (yielded ops a.tmps) = true then Oper.wp Try.prog o a w KK Q else G := by
  rw [if_pos (show Region.wanted o (yielded ops a.tmps) = true by simp [Region.wanted, hgd])]
  have hs : l.toArray.size = k := by rw [List.size_toArray, hl]
  have hrun := run_storeVar_row (P := Try.prog) w g T T c l.toArray hg (by rw [hs]; exact hT) (by rw [hc, hs]) (all_oneCell_toArray h1)
  unfold Oper.wp execOp
  simp only [ho, hx, hy, Instr.storeAt, Instr.sureAddr, Sem.run_bind, Sem.run_pure, Result.andThen_ok, hrun]
  exact h _ (setRow_heap w g c _ T _ hg) ⟨rfl, rfl, rfl, by simp, fun k _ hk => setRow_other w g k _ (fun e => hk e)⟩
def HeldG (g : Nat) (N H : Int) (W : World) : Prop := W.cell? ⟨g, 0, none⟩ = some (.int .i64 N) ∧ W.cell? ⟨g, 1, none⟩ = some (.int .i64 H)
set_option maxRecDepth 100000 in
set_option maxHeartbeats 16000000 in
theorem ugrow_yes (N i j K : Nat) (w : World) (h : Row encA 4 w ao Z) (hl : Z.length = nl) (hx : xpE (N : Int) Z (i : Int) (j : Int) (K : Int) = 0) (hi : i < N) (hj : j < N) (hij : i ≠ j) (hW : SpanNet Z N) (hK : K ≤ 1024) (hm1 : (K + 1) * N ≤ 4000) (hm2 : (K + 1) * Z.length ≤ 10000) :
    Calls Try.prog 36 #[.agg #[.int .i64 (N : Int), .bool b, .slice ao nl cap], .int .i64 (i : Int), .int .i64 (j : Int), .int .i64 (K : Int)] w (GrwRes ⟨Z, N, i, j, K, b⟩ w) := by
  have hN : N ≤ 50 := hW.nodes
  have hnl : nl ≤ 200 := by rw [← hl]; exact hW.len
  have hzm : Z.length ≤ maxLen := by unfold maxLen; omega
  have HZM := Lib.hid hzm
  obtain ⟨g0, hg0⟩ : ∃ g0, w.heap.size = g0 := ⟨_, rfl⟩
  obtain ⟨a1, a2, a3, a4, a5, hb1, hs1⟩ := five_alloc w (.cells #[.int .i64 (N : Int), .bool b, .slice ao nl cap] 24) (.cells #[.int .i64 (i : Int)] 3) (.cells #[.int .i64 (j : Int)] 3) (.cells #[.int .i64 (K : Int)] 3) (.cells #[.int .i64 0, .int .i64 0, .int .i64 0, .bool false, .slice none 0 0, .map none, .map none, .map none, .map none] 101) g0 hg0
  have HN := Lib.hid a1
  have HS := Lib.hid a2
  have HT := Lib.hid a3
  have HH := Lib.hid a4
  have HG := Lib.hid a5
  have HB := Lib.hid hb1
  have HSZ := Lib.hid hs1
  have HR := Lib.hid (h.below' (hg0.symm ▸ hb1))
  have HLOW : Hid (∀ ad, ao = some ad → 0 < Z.length → ad.block < g0) := Lib.hid (hg0 ▸ h.lt)
  have HRW := Lib.hid h
  have c0 := cell_whole a1 0
  have c1 := cell_whole a1 1
  have c2 := cell_whole a1 2
  have c3 := cell_whole a2 0
  have c4 := cell_whole a3 0
  have c5 := cell_whole a4 0
  have HL := Lib.hid hl
  have HWN := Lib.hid hW
  have HM1 := Lib.hid hm1
  have HM2 : Hid ((K + 1) * nl ≤ 10000) := Lib.hid (by rw [← hl]; exact hm2)
  have hmk := fun W => run_make_row' (P := Try.prog) 65 3 (.int .i64 0) 8 Try.underlying65 infoInt rfl .i64 .i64 nl (by omega) (by omega) W
  clear h hzm a1 a2 a3 a4 a5 hb1 hs1 hW hm1 hm2
  go_enter Try.func36, Try.ntmps36
  go_wp2_with fail
  generalize ((((w.alloc (.cells #[.int .i64 (N : Int), .bool b, .slice ao nl cap] 24)).alloc (.cells #[.int .i64 (i : Int)] 3)).alloc (.cells #[.int .i64 (j : Int)] 3)).alloc (.cells #[.int .i64 (K : Int)] 3)).alloc (.cells #[.int .i64 0, .int .i64 0, .int .i64 0, .bool false, .slice none 0 0, .map none, .map none, .map none, .map none] 101) = w1 at *
  have HZ0 := Lib.hid hg0
  clear hg0
  have bA := Lib.hid (below_drew ((Below.refl _ w1).alloc (Nat.le_refl _) (.cells (madeCells #[.int .i64 0] nl) 3)))
  have HRm := Lib.hid (HR.out.below' bA.out)
  have HFm : Hid (Lst encI (w1.alloc (.cells (madeCells #[.int .i64 0] nl) 3)).drew (some ⟨w1.heap.size, 0, none⟩) (List.replicate nl 0)) := Lib.hid (made_zeros w1 _ nl rfl)
  have HXE := Lib.hid (xpE_ok.1 hx)
  have HCALL := Lib.hid (pworth_zero (N : Int) b ao cap Z (i : Int) (j : Int) (K : Int) (some ⟨w1.heap.size, 0, none⟩) nl 0 _ HRm.out (by rw [HL.out]; exact HFm.out) HZM.out HXE.out.1)
  rw [HL.out] at HCALL
  clear hx hl
  have hwl : g0 < w1.heap.size := lt_whole HN.out
  have hwl1 : g0 + 1 < w1.heap.size := lt_whole HS.out
  have hwl2 : g0 + 2 < w1.heap.size := lt_whole HT.out
  have hwl3 : g0 + 3 < w1.heap.size := lt_whole HH.out
  go_region_held3 (fun W => W.cell? ⟨g0, 0, none⟩ = some (.int .i64 (N : Int)) ∧ W.cell? ⟨g0, 1, none⟩ = some (.bool b) ∧ W.cell? ⟨g0, 2, none⟩ = some (.slice ao nl cap) ∧ W.cell? ⟨g0 + 1, 0, none⟩ = some (.int .i64 (i : Int)) ∧ W.cell? ⟨g0 + 2, 0, none⟩ = some (.int .i64 (j : Int)) ∧ W.cell? ⟨g0 + 3, 0, none⟩ = some (.int .i64 (K : Int))) (first | exact ⟨c0, c1, c2, c3, c4, c5⟩ | exact ⟨z0, z1, z2, z3, z4, z5⟩ | go_keep)
    (first | (go_at_call 52; refine HCALL.out.mono ?_; rintro e w2 ⟨v, rfl, hb2⟩; have HB2 := Lib.hid (bA.out.trans (hb2.mono bA.out.size)); have hn2 := kept_box HN.out HB2.out; have hs2 := kept_box HS.out HB2.out; have ht2 := kept_box HT.out HB2.out; have hh2 := kept_box HH.out HB2.out; have z0 := cell_whole hn2 0; have z1 := cell_whole hn2 1; have z2 := cell_whole hn2 2; have z3 := cell_whole hs2 0; have z4 := cell_whole ht2 0; have z5 := cell_whole hh2 0; clear hb2 hn2 hs2 ht2 hh2))
  clear hmk c0 c1 c2 c3 c4 c5
  have HGO := Lib.hid (ugridof_any (N : Int) (K : Int) b ao nl cap Z true w2 (HR.out.below' HB2.out) HL.out HZM.out HXE.out.2)
  have hmf : ∀ (fn : Fn) (first cap : Array Value) (w : World), (Instr.makeFunc fn first cap).run Try.prog w = .ok (.func fn first cap) w := fun _ _ _ _ => rfl
  go_wp2_with (go_at_call 39; refine HGO.out.mono ?_; rintro e w3 ⟨rfl, hb3⟩; simp only [if_true]; have HB3 := Lib.hid (HB2.out.trans (hb3.mono HB2.out.size)); clear hb3)
  have HB4 := Lib.hid (HB3.out.alloc HB3.out.size (.cells #[.int .i64 (N : Int), .int .i64 (K : Int)] 97))
  have HGB := Lib.hid (heap_alloc_new w3 (.cells #[.int .i64 (N : Int), .int .i64 (K : Int)] 97))
  obtain ⟨fi, hfi⟩ : ∃ fi, ((K : Int) + 1) * (N : Int) = fi := ⟨_, rfl⟩
  have hfb : 0 ≤ fi ∧ fi ≤ 1025 * 200 := by
    rw [← hfi]
    exact ⟨Int.mul_nonneg (by omega) (by omega), Int.mul_le_mul (by omega) (by omega) (by omega) (by omega)⟩
  have hwf : IntKind.i64.wrap (fi + 2) = fi + 2 := IntWalk.i64_in _ (by omega)
  generalize w3.alloc (.cells #[.int .i64 (N : Int), .int .i64 (K : Int)] 97) = w4 at *
  have HGQ : Hid (w4.drew.heap[w3.heap.size]? = some (.cells #[.int .i64 (N : Int), .int .i64 (K : Int)] 97 (0, 0))) := HGB
  have HBQ := Lib.hid (below_drew HB4.out)
  clear z0 z1 z2 z3 z4 z5
  refine wp_region_held_drew (S := fun W => HeldG w3.heap.size (N : Int) (K : Int) W) (by kernel_rfl) ⟨cell_whole HGQ.out 0, cell_whole HGQ.out 1⟩ (fun hHeld => ?_)
  generalize w4.drew = wq at *
  refine wpAnyH_take (i := 0) (oi := { dst := some 46, op := Go.Op.load 97 (Go.Operand.tmp 12), type := 97, pos := "expand.go:122", after := #[], guard := none }) (v := .agg #[.int .i64 (N : Int), .int .i64 (K : Int)]) rfl (by kernel_rfl) (by kernel_rfl) (by kernel_rfl) (fun _ _ _ h => h) (Or.inl ⟨by rfl, ?_⟩) (by assumption) ?_
  · (intro w hSw; (try dsimp only [HeldG] at hSw); go_simp)
  try simp only [Act.put, List.setIfInBounds_toArray, List.set_cons_zero, List.set_cons_succ]
  refine wpAnyH_take (i := 1) (oi := { dst := some 47, op := Go.Op.load 97 (Go.Operand.tmp 12), type := 97, pos := "expand.go:122", after := #[], guard := none }) (v := .agg #[.int .i64 (N : Int), .int .i64 (K : Int)]) rfl (by kernel_rfl) (by kernel_rfl) (by kernel_rfl) (fun _ _ _ h => h) (Or.inl ⟨by rfl, ?_⟩) (by assumption) ?_
  · (intro w hSw; (try dsimp only [HeldG] at hSw); go_simp)
  try simp only [Act.put, List.setIfInBounds_toArray, List.set_cons_zero, List.set_cons_succ]
  refine r9_000000 (w0 := wq) (N := N) (H := K) (fi := fi) ⟨fun W hW => ⟨cell_whole (kept_box HGQ.out hW) 0, cell_whole (kept_box HGQ.out hW) 1⟩, hN, hK, hfi, hwf, (fun c a w o v h => by cases o <;> exact h), fun m5 m6 m7 m8 mg w5 hr => ?_⟩ wq (R9.start wq)
  have hsQ : g0 + 5 ≤ wq.heap.size := by have h1 := HBQ.out.size; rw [HSZ.out] at h1; exact h1
  have hmg := (hr.cg mg rfl).1
  have hm5 := (hr.c5 m5 rfl).1
  have hm6 := (hr.c6 m6 rfl).1
  have hm7 := (hr.c7 m7 rfl).1
  have hm8 := (hr.c8 m8 rfl).1
  have hw3 : w3.heap.size < wq.heap.size := lt_whole HGQ.out
  have HR5 := Lib.hid hr
  refine wpAnyH_ready (rs := [11]) (by kernel_rfl) (by simp) (AllReadyH.cons (o := ops9[11]) rfl (fun KK hK => ?_) AllReadyH.nil)
  refine step_store_box sizeGrowth (by rfl) _ _ (by rfl) mg _ (grwL ⟨g0, mg, m5, m6, m7, m8⟩ (N : Int) (K : Int) (fi + 2) (.slice none 0 0)) (by rfl) (by rfl) (hr.cg mg rfl).2 rfl rfl (grwL_one _ _ _ _ _ _ _) ?_
  intro w6 hg6 hk6
  have HX6 : Hid (GX ⟨g0, mg, m5, m6, m7, m8⟩ (N : Int) (K : Int) (fi + 2) w6 (contK ⟨Z, N, i, j, K, b⟩ []) 0 (.slice none 0 0) (fun _ => none)) := Lib.hid {
    ok := ⟨⟨(show g0 ≤ mg by omega), (show g0 ≤ m5 by omega), (show g0 ≤ m6 by omega), (show g0 ≤ m7 by omega), (show g0 ≤ m8 by omega)⟩, ⟨(hr.ne1 m5 m6 rfl).1 rfl, (hr.ne1 m5 m7 rfl).2.1 rfl, (hr.ne1 m5 m8 rfl).2.2 rfl⟩, ⟨(hr.ne2 m6 m7 rfl).1 rfl, (hr.ne2 m6 m8 rfl).2 rfl, hr.ne3 m7 m8 rfl rfl⟩⟩
    box := hg6
    arcs := World.ownsRow_nil _ _ _ _
    cm := (hr.c5 m5 rfl).2.keptS hk6 (fun e => (hr.c5 m5 rfl).2.ne_box (hr.cg mg rfl).2 (Eq.symm e))
    cn := fun p _ => rfl
    cr := fun p x e => nomatch e
    ap := fun p q x y _ e => nomatch e
    wm := (hr.c6 m6 rfl).2.keptS hk6 (fun e => (hr.c6 m6 rfl).2.ne_box (hr.cg mg rfl).2 (Eq.symm e))
    em := (hr.c7 m7 rfl).2.keptS hk6 (fun e => (hr.c7 m7 rfl).2.ne_box (hr.cg mg rfl).2 (Eq.symm e))
    xm := (hr.c8 m8 rfl).2.keptS hk6 (fun e => (hr.c8 m8 rfl).2.ne_box (hr.cg mg rfl).2 (Eq.symm e)) }
  have HB6 : Hid (Below w1.heap.size w1 w6) := Lib.hid ((HBQ.out.trans (hr.low.mono HBQ.out.size)).trans (hk6.below (by have := HBQ.out.size; have := hr.low.size; omega) (fun x e => by have e2 : x = mg := e; have := HBQ.out.size; omega)))
  have HGB6 : Hid (w6.heap[w3.heap.size]? = some (.cells #[.int .i64 (N : Int), .int .i64 (K : Int)] 97 (0, 0))) := Lib.hid (hk6.old (kept_box HGQ.out hr.low) (show ¬ w3.heap.size = mg by omega))
  have HNG : Hid (¬ GS ⟨g0, mg, m5, m6, m7, m8⟩ (.slice none 0 0) (fun _ => none) (g0 + 4)) := Lib.hid (by
    rintro (e | e | e | e | e | e | ⟨p, x, e, _⟩)
    · have e2 : g0 + 4 = mg := e; omega
    · have e2 : g0 + 4 = m5 := e; omega
    · have e2 : g0 + 4 = m6 := e; omega
    · have e2 : g0 + 4 = m7 := e; omega
    · have e2 : g0 + 4 = m8 := e; omega
    · cases e
    · cases e)
  clear hr hg6 hk6
  refine hK.out _ _ ⟨cell_whole HGB6.out 0, cell_whole HGB6.out 1⟩ (fun hHeld2 => ?_)
  clear hK
  refine wpAnyH_done (by kernel_rfl) ?_ _
  clear hHeld hHeld2
  unfold act9 ops9
  simp only [Act.put, List.setIfInBounds_toArray]
  have HN6 := Lib.hid (kept_box HN.out HB6.out)
  have HS6 := Lib.hid (kept_box HS.out HB6.out)
  have HT6 := Lib.hid (kept_box HT.out HB6.out)
  have HH6 := Lib.hid (kept_box HH.out HB6.out)
  have HG6 := Lib.hid (kept_box HG.out HB6.out)
  have q5 := cell_whole HH6.out 0
  have hwK : IntKind.i64.wrap ((K : Int) + 1) = (K : Int) + 1 := IntWalk.i64_in _ (by omega)
  clear HGB6 HR5 hmg hm5 hm6 hm7 hm8 hw3 HBQ HGQ HB4 HGB HB3 HB2 HGO HCALL bA HRm HFm hwf hfb
  go_wp2_with fail
  clear q5
  go_loopw [58] (fun iv wr => ∃ (u m1 : Nat) (av1 : Value) (hd1 : Int × Int → Option (Nat × Nat × Nat)), u ≤ K + 1 ∧ iv = .int .i64 (u : Int) ∧ Hid (m1 ≤ u * nl + u * N) ∧ Hid ((Exp.timeK (⟨Z, N, i, j, K, b⟩ : Exp) u).length ≤ u * nl + u * N) ∧ Hid (GX ⟨g0, mg, m5, m6, m7, m8⟩ (N : Int) (K : Int) (fi + 2) wr (contK (⟨Z, N, i, j, K, b⟩ : Exp) (Exp.timeK (⟨Z, N, i, j, K, b⟩ : Exp) u)) m1 av1 hd1) ∧ Hid (GTo ⟨g0, mg, m5, m6, m7, m8⟩ (.slice none 0 0) (fun _ => none) w6 av1 hd1 wr)) (fun iv _ => K + 1 - (intOf iv).toNat)
  case atStart => exact ⟨0, 0, .slice none 0 0, fun _ => none, Nat.zero_le _, rfl, Lib.hid (Nat.zero_le _), Lib.hid (by simp [Exp.timeK]), HX6, Lib.hid (GTo.refl _ _ _ _)⟩
  case round =>
    obtain ⟨u, m1, av1, hd1, hu, rfl, HM, HLN, HX, HT⟩ := hrel
    have hnr := HX6.out.box_old HT.out HN6.out (by decide) (by decide) (by decide)
    have HSr := Lib.hid (HX6.out.box_old HT.out HS6.out (by decide) (by decide) (by decide))
    have HTr := Lib.hid (HX6.out.box_old HT.out HT6.out (by decide) (by decide) (by decide))
    have HHr := Lib.hid (HX6.out.box_old HT.out HH6.out (by decide) (by decide) (by decide))
    have HRr : Hid (Row encA 4 wr ao Z) := Lib.hid ((HRW.out.below (HB.out.trans (HB6.out.mono (by have := HSZ.out; omega))) HLOW.out).below (HX6.out.low HT.out) HLOW.out)
    have n2 := cell_whole hnr 2
    have HNr := Lib.hid hnr
    clear hnr
    by_cases hlt : u < K + 1
    · have hli : (u : Int) < (K : Int) + 1 := by omega
      have hbu : u * nl ≤ 10000 ∧ u * N ≤ 4000 := ⟨Nat.le_trans (rise_le hu) HM2.out, Nat.le_trans (rise_le hu) HM1.out⟩
      have hk1 : (Exp.timeK (⟨Z, N, i, j, K, b⟩ : Exp) u).length + nl ≤ 100000 := by have := HLN.out; omega
      have hmm1 : m1 + nl ≤ 100000 := by have := HM.out; omega
      have HK1 := Lib.hid hk1
      have HMM1 := Lib.hid hmm1
      have HBU := Lib.hid hbu
      clear hk1 hmm1 hbu
      go_wp2_with (go_at_call 55; refine (ucross_any (⟨Z, N, i, j, K, b⟩ : Exp) ⟨g0, mg, m5, m6, m7, m8⟩ (fi + 2) _ _ _ _ ao nl cap u _ _ _ _ HX.out HRr.out HLOW.out HL.out HWN.out HSr.out HTr.out HHr.out (by omega) hK HK1.out HMM1.out).mono ?_; rintro e w7 ⟨av2, hd2, m2, rfl, hm2, hx7, ht7⟩; have HX7 : Hid (GX ⟨g0, mg, m5, m6, m7, m8⟩ (N : Int) (K : Int) (fi + 2) w7 (contK (⟨Z, N, i, j, K, b⟩ : Exp) (Exp.timeK (⟨Z, N, i, j, K, b⟩ : Exp) u ++ Exp.mvK (⟨Z, N, i, j, K, b⟩ : Exp) u nl)) m2 av2 hd2) := Lib.hid hx7; have HT7 := Lib.hid (HT.out.trans ht7); have HM2' := Lib.hid hm2; clear hx7 ht7 hm2)
      have hlen7 : (Exp.timeK (⟨Z, N, i, j, K, b⟩ : Exp) u ++ Exp.mvK (⟨Z, N, i, j, K, b⟩ : Exp) u nl).length ≤ u * nl + u * N + nl := by
        rw [List.length_append]
        have h1 := HLN.out
        have h2 := mvK_len (⟨Z, N, i, j, K, b⟩ : Exp) u nl
        omega
      have HL7 := Lib.hid hlen7
      have hk2 : (Exp.timeK (⟨Z, N, i, j, K, b⟩ : Exp) u ++ Exp.mvK (⟨Z, N, i, j, K, b⟩ : Exp) u nl).length + N ≤ 100000 := by have := HBU.out; omega
      have hmm2 : m2 + N ≤ 100000 := by have := HM2'.out; have := HM.out; have := HBU.out; omega
      have HK2 := Lib.hid hk2
      have HMM2 := Lib.hid hmm2
      have HNs := Lib.hid (HX6.out.box_old HT7.out HN6.out (by decide) (by decide) (by decide))
      have HSs := Lib.hid (HX6.out.box_old HT7.out HS6.out (by decide) (by decide) (by decide))
      have HTs := Lib.hid (HX6.out.box_old HT7.out HT6.out (by decide) (by decide) (by decide))
      have HHs := Lib.hid (HX6.out.box_old HT7.out HH6.out (by decide) (by decide) (by decide))
      clear hk2 hmm2 hlen7 n2
      go_wp2_with (go_at_call 56; refine (uwait_any (⟨Z, N, i, j, K, b⟩ : Exp) ⟨g0, mg, m5, m6, m7, m8⟩ (fi + 2) (N : Int) _ _ _ _ _ u _ _ _ _ _ HX7.out hN HSs.out HTs.out HHs.out HNs.out (by omega) hK HK2.out HMM2.out).mono ?_; rintro e w8 ⟨av3, hd3, m3, rfl, hm3, hx8, ht8⟩; have HX8 : Hid (GX ⟨g0, mg, m5, m6, m7, m8⟩ (N : Int) (K : Int) (fi + 2) w8 (contK (⟨Z, N, i, j, K, b⟩ : Exp) ((Exp.timeK (⟨Z, N, i, j, K, b⟩ : Exp) u ++ Exp.mvK (⟨Z, N, i, j, K, b⟩ : Exp) u nl) ++ Exp.wtK (⟨Z, N, i, j, K, b⟩ : Exp) u N)) m3 av3 hd3) := Lib.hid hx8; have HT8 := Lib.hid (HT7.out.trans ht8); have HM3 := Lib.hid hm3; clear hx8 ht8 hm3)
      have HTK : Hid (Exp.timeK (⟨Z, N, i, j, K, b⟩ : Exp) (u + 1) = (Exp.timeK (⟨Z, N, i, j, K, b⟩ : Exp) u ++ Exp.mvK (⟨Z, N, i, j, K, b⟩ : Exp) u nl) ++ Exp.wtK (⟨Z, N, i, j, K, b⟩ : Exp) u N) := Lib.hid (by
        show Exp.timeK (⟨Z, N, i, j, K, b⟩ : Exp) u ++ (Exp.mvK (⟨Z, N, i, j, K, b⟩ : Exp) u Z.length ++ Exp.wtK (⟨Z, N, i, j, K, b⟩ : Exp) u N) = _
        rw [List.append_assoc, HL.out])
      have HB9 : Hid (m3 ≤ (u + 1) * nl + (u + 1) * N) := Lib.hid (by
        have h1 := HM3.out
        have h2 := HM2'.out
        have h3 := HM.out
        rw [Nat.succ_mul, Nat.succ_mul]
        have h4 : m3 ≤ m2 + N := h1
        omega)
      have HL9 : Hid ((Exp.timeK (⟨Z, N, i, j, K, b⟩ : Exp) (u + 1)).length ≤ (u + 1) * nl + (u + 1) * N) := Lib.hid (by
        rw [HTK.out, List.length_append, Nat.succ_mul, Nat.succ_mul]
        have h1 := HL7.out
        have h2 := wtK_len (⟨Z, N, i, j, K, b⟩ : Exp) u N
        omega)
      clear HX7 HT7 HX HT HNs HSs HTs HHs HNr HSr HTr HHr HRr
      go_roundw
      case rel => exact ⟨u + 1, m3, av3, hd3, by omega, by go_num, HB9, HL9, Lib.hid (by rw [HTK.out]; exact HX8.out), HT8⟩
      case measure => simp [intOf]; omega
    · have hli : ¬ (u : Int) < (K : Int) + 1 := by omega
      obtain rfl : u = K + 1 := by omega
      have s0 := cell_whole HSr.out 0
      have t0 := cell_whole HTr.out 0
      have hk3 : (Exp.timeK (⟨Z, N, i, j, K, b⟩ : Exp) (K + 1)).length + 2 * (K + 1) ≤ 100000 := by have := HLN.out; have := HM1.out; have := HM2.out; omega
      have hm3 : m1 + 2 * (K + 1) ≤ 100000 := by have := HM.out; have := HM1.out; have := HM2.out; omega
      have HK3 := Lib.hid hk3
      have HMM3 := Lib.hid hm3
      clear n2 hk3 hm3
      go_wp2_with (first
        | (go_at_call 57; refine (ujoin_any (⟨Z, N, i, j, K, b⟩ : Exp) ⟨g0, mg, m5, m6, m7, m8⟩ (fi + 2) _ _ _ _ _ HX.out hN hi hj hK HK3.out HMM3.out).mono ?_; rintro e w7 ⟨av2, hd2, m2, rfl, hm2, hx7, ht7⟩; obtain ⟨fa, fc, rfl, _⟩ := own_row encA_len hx7.arcs; have HX7 : Hid (GX ⟨g0, mg, m5, m6, m7, m8⟩ (N : Int) (K : Int) (fi + 2) w7 (contK (⟨Z, N, i, j, K, b⟩ : Exp) (Exp.timeK (⟨Z, N, i, j, K, b⟩ : Exp) (K + 1) ++ (Exp.soK (K + 1) ++ Exp.siK (K + 1)))) m2 (.slice fa (contK (⟨Z, N, i, j, K, b⟩ : Exp) (Exp.timeK (⟨Z, N, i, j, K, b⟩ : Exp) (K + 1) ++ (Exp.soK (K + 1) ++ Exp.siK (K + 1)))).A.length fc) hd2) := Lib.hid hx7; have HT7 := Lib.hid (HT.out.trans ht7); have HGR7 := Lib.hid (HT7.out.kept.old HG6.out HNG.out); have p0 : w7.cell? ⟨mg, 0, none⟩ = some (.int .i64 (N : Int)) := cell_whole HX7.out.box 0; have p1 : w7.cell? ⟨mg, 1, none⟩ = some (.int .i64 (K : Int)) := cell_whole HX7.out.box 1; have p2 : w7.cell? ⟨mg, 2, none⟩ = some (.int .i64 (fi + 2)) := cell_whole HX7.out.box 2; have p3 : w7.cell? ⟨mg, 3, none⟩ = some (.bool false) := cell_whole HX7.out.box 3; have p4 := cell_whole HX7.out.box 4; have p5 : w7.cell? ⟨mg, 5, none⟩ = some (.map (some m5)) := cell_whole HX7.out.box 5; have p6 : w7.cell? ⟨mg, 6, none⟩ = some (.map (some m6)) := cell_whole HX7.out.box 6; have p7 : w7.cell? ⟨mg, 7, none⟩ = some (.map (some m7)) := cell_whole HX7.out.box 7; have p8 : w7.cell? ⟨mg, 8, none⟩ = some (.map (some m8)) := cell_whole HX7.out.box 8; have HLL := Lib.hid (rfl : (contK (⟨Z, N, i, j, K, b⟩ : Exp) (Exp.timeK (⟨Z, N, i, j, K, b⟩ : Exp) (K + 1) ++ (Exp.soK (K + 1) ++ Exp.siK (K + 1)))).A.length = _); generalize (contK (⟨Z, N, i, j, K, b⟩ : Exp) (Exp.timeK (⟨Z, N, i, j, K, b⟩ : Exp) (K + 1) ++ (Exp.soK (K + 1) ++ Exp.siK (K + 1)))).A.length = fl at HX7 HLL p4 HT7 HGR7; have p4' : w7.cell? ⟨mg, 4, none⟩ = some (.slice fa fl fc) := p4; clear hx7 ht7 hm2 p4)
        | ((with_reducible show wpList _ _ _ (Oper.mk none (Op.store 101 _ _) _ _ _ _ :: _) _ _); refine wpList_store_box sizeGrowth rfl _ _ rfl (g0 + 4) _ (grwL ⟨g0, mg, m5, m6, m7, m8⟩ (N : Int) (K : Int) (fi + 2) (.slice fa fl fc)) rfl rfl HGR7.out rfl rfl (grwL_one _ _ _ _ _ _ _) ?_; intro w9 hg9 hk9; have HG9 := Lib.hid hg9; have HK9 := Lib.hid hk9; clear hg9 hk9))
      have k0 := cell_whole HG9.out 0
      have k1 := cell_whole HG9.out 1
      have k2 := cell_whole HG9.out 2
      have k3 := cell_whole HG9.out 3
      have k4 := cell_whole HG9.out 4
      have k5 := cell_whole HG9.out 5
      have k6 := cell_whole HG9.out 6
      have k7 := cell_whole HG9.out 7
      have k8 := cell_whole HG9.out 8
      unfold grwL at k0 k1 k2 k3 k4 k5 k6 k7 k8
      have hz0 := HZ0.out
      refine bodyPost_ret (v := .tuple #[grwV ⟨g0, mg, m5, m6, m7, m8⟩ (N : Int) (K : Int) (fi + 2) (.slice fa fl fc), .int .i64 0]) (by simp [results, Try.results36, go_sem, k0, k1, k2, k3, k4, k5, k6, k7, k8, grwV]) rfl ?_
      have hX9 : GX ⟨g0, mg, m5, m6, m7, m8⟩ (N : Int) (K : Int) (fi + 2) w9 (contK (⟨Z, N, i, j, K, b⟩ : Exp) (Exp.timeK (⟨Z, N, i, j, K, b⟩ : Exp) (K + 1) ++ (Exp.soK (K + 1) ++ Exp.siK (K + 1)))) m2 (.slice fa fl fc) hd2 := HX7.out.keptS HK9.out (fun x hx e => by
        have e2 : x = g0 + 4 := e
        subst e2
        exact HNG.out (HT7.out.back _ (lt_whole HG6.out) hx))
      refine ⟨⟨g0, mg, m5, m6, m7, m8⟩, m2, .slice fa fl fc, hd2, by rw [hfi], hz0.symm, by rw [hfi]; exact hX9, ?_⟩
      rw [hz0]
      have h1 := HB.out.trans (HB6.out.mono (by have := HSZ.out; omega))
      have h2 := h1.trans (HX6.out.low HT7.out)
      exact h2.trans (HK9.out.below (by have := h2.size; omega) (fun x e => by have e2 : x = g0 + 4 := e; omega))
end
end Go.Proofs.Ytlkbohpnlbfopaa
namespace Go.Proofs.Ytlkbohpnlbfopaa
open Go.RowKit
set_option linter.unusedVariables false
theorem sizeNet15 : (Try.prog.info? 24).map (·.size) = some 3 := by kernel_rfl
def expOf (n : Int) (Z : List ArcT) (s t H : Int) (b : Bool) : Exp := ⟨Z, n.toNat, s.toNat, t.toNat, H.toNat, b⟩
theorem expOf_nat (N i j K : Nat) (Z : List ArcT) (b : Bool) : expOf (N : Int) Z (i : Int) (j : Int) (K : Int) b = ⟨Z, N, i, j, K, b⟩ := rfl
def bldA (n : Int) (Z : List ArcT) (s t H : Int) (b : Bool) : List ArcT := if xpE n Z s t H = 0 then (expOf n Z s t H b).net else []
def bldN (n : Int) (Z : List ArcT) (s t H : Int) : Int := if xpE n Z s t H = 0 then (H + 1) * n + 2 else 0
theorem net_one (n : Int) (f : Bool) (ao : Option Addr) (l c : Nat) : ∀ v ∈ [Value.int .i64 n, .bool f, .slice ao l c], v.oneCell' = true := by
  intro v hv
  simp only [List.mem_cons, List.not_mem_nil, or_false] at hv
  rcases hv with rfl | rfl | rfl <;> rfl
section
variable (n : Int) (b : Bool) (ao : Option Addr) (nl cap : Nat) (Z : List ArcT) (s t H : Int)
def BldRes (w : World) (e : Ending) (w' : World) : Prop :=
  ∃ (oa : Option Addr) (oc : Nat), e = .returned (.tuple #[.agg #[.int .i64 (bldN n Z s t H), .bool false, .slice oa (bldA n Z s t H b).length oc], .int .i64 (xpE n Z s t H)]) ∧ Row encA 4 w' oa (bldA n Z s t H b) ∧ Below w.heap.size w w'
set_option maxRecDepth 100000 in
set_option maxHeartbeats 8000000 in
theorem ubuild_any (w : World) (h : Row encA 4 w ao Z) (hl : Z.length = nl) (hz : Z.length ≤ 4398046511104) :
    Calls Try.prog 32 #[.agg #[.int .i64 n, .bool b, .slice ao nl cap], .int .i64 s, .int .i64 t, .int .i64 H] w (BldRes n b Z s t H w) := by
  have hb00 := ((Below.refl _ w).alloc (Nat.le_refl _) (.cells #[.int .i64 n, .bool b, .slice ao nl cap] 24)).alloc (by simp) (.cells #[.int .i64 0, .bool false, .slice none 0 0] 24)
  have HB := Lib.hid hb00
  have HN := Lib.hid (alloc_whole (heap_alloc_new w (.cells #[.int .i64 n, .bool b, .slice ao nl cap] 24)) (.cells #[.int .i64 0, .bool false, .slice none 0 0] 24))
  have HX := Lib.hid (new_whole1 w (.cells #[.int .i64 n, .bool b, .slice ao nl cap] 24) (.cells #[.int .i64 0, .bool false, .slice none 0 0] 24))
  have c0 := cell_whole HN.out 0
  have c1 := cell_whole HN.out 1
  have c2 := cell_whole HN.out 2
  have HR := Lib.hid (h.below' hb00)
  have HL := Lib.hid hl
  have HZ := Lib.hid hz
  by_cases hx : xpE n Z s t H = 0
  · obtain ⟨N, i, j, K, rfl, rfl, rfl, rfl, hi, hj, hij, hW, hK, hm1, hm2⟩ := xpE_nat hx
    have HA : Hid (bldA (N : Int) Z (i : Int) (j : Int) (K : Int) b = (⟨Z, N, i, j, K, b⟩ : Exp).net ∧ bldN (N : Int) Z (i : Int) (j : Int) (K : Int) = ((K : Int) + 1) * (N : Int) + 2) := Lib.hid (by unfold bldA bldN; rw [if_pos hx, if_pos hx]; exact ⟨rfl, rfl⟩)
    have HXE := Lib.hid hx
    have HCALL := Lib.hid (ugrow_yes b ao nl cap Z N i j K _ HR.out hl hx hi hj hij hW hK hm1 hm2)
    clear h hb00 hl hz hx hW hm1 hm2
    go_enter Try.func32, Try.ntmps32
    go_wp2_with (first
      | (go_at_call 36; refine HCALL.out.mono ?_; rintro e w2 ⟨k, m, av, hd, rfl, hkB, hgx, hb2⟩; unfold grwV; obtain ⟨fa, fc, rfl, hrow, hbk⟩ := own_rowQ encA_len hgx.arcs; have HBK : Hid (∀ ad, fa = some ad → w.heap.size + 2 ≤ ad.block) := Lib.hid (fun ad e => by have h1 := (hbk ad e).2.1; rw [hkB] at h1; simp at h1; omega); have HROW := Lib.hid hrow; generalize hfl : (contK ⟨Z, N, i, j, K, b⟩ (⟨Z, N, i, j, K, b⟩ : Exp).kinds).A.length = fl at *; have HLEN := Lib.hid hfl; clear hfl; have HB2 := Lib.hid (HB.out.trans (hb2.mono HB.out.size)); have HX2 := Lib.hid (kept_box HX.out hb2); clear hb2 hgx hrow hkB hbk)
      | ((with_reducible show wpList _ _ _ (Oper.mk none (Op.store 24 _ _) _ _ _ _ :: _) _ _); refine wpList_store_box sizeNet15 rfl _ _ rfl (w.heap.size + 1) _ [.int .i64 (((K : Int) + 1) * (N : Int) + 2), .bool false, .slice fa fl fc] rfl rfl (alloc_whole HX2.out _) rfl rfl (net_one _ _ _ _ _) ?_; intro w3 hg3 hk3; have HG3 := Lib.hid hg3; have HK3 := Lib.hid hk3; clear hg3 hk3))
    have k0 := cell_whole HG3.out 0
    have k1 := cell_whole HG3.out 1
    have k2 := cell_whole HG3.out 2
    refine bodyPost_ret (v := .tuple #[.agg #[.int .i64 (((K : Int) + 1) * (N : Int) + 2), .bool false, .slice fa fl fc], .int .i64 0]) (by simp [results, Try.results32, go_sem, k0, k1, k2]) rfl ?_
    have hbF : Below w.heap.size w w3 := (HB2.out.alloc HB2.out.size _).trans (HK3.out.below (by have := HB2.out.size; simp; omega) (fun i e => by have e2 : i = w.heap.size + 1 := e; omega))
    refine ⟨fa, fc, ?_, ?_, hbF⟩
    · rw [HA.out.1, HA.out.2, HXE.out, ← HLEN.out]; rfl
    · rw [HA.out.1]
      exact rowOffO (HROW.out.below' ((Below.refl _ w2).alloc (Nat.le_refl _) _)) HK3.out (fun ad e _ e2 => by have h1 := HBK.out ad e; have e3 : ad.block = w.heap.size + 1 := e2; omega)
  · have HA : Hid (bldA n Z s t H b = [] ∧ bldN n Z s t H = 0) := Lib.hid (by unfold bldA bldN; rw [if_neg hx, if_neg hx]; exact ⟨rfl, rfl⟩)
    obtain ⟨e0, he⟩ : ∃ e0, xpE n Z s t H = e0 := ⟨_, rfl⟩
    have HCALL := Lib.hid (ugrow_no n b ao nl cap Z s t H _ HR.out hl hz hx)
    rw [he] at HCALL
    have HE := Lib.hid he
    clear h hb00 hl hz hx he
    go_enter Try.func32, Try.ntmps32
    go_wp2_with (first
      | (go_at_call 36; refine HCALL.out.mono ?_; rintro e w2 ⟨rfl, hb2⟩; unfold grw0; have HB2 := Lib.hid (HB.out.trans (hb2.mono HB.out.size)); have HX2 := Lib.hid (kept_box HX.out hb2); clear hb2)
      | ((with_reducible show wpList _ _ _ (Oper.mk none (Op.store 24 _ _) _ _ _ _ :: _) _ _); refine wpList_store_box sizeNet15 rfl _ _ rfl (w.heap.size + 1) _ [.int .i64 0, .bool false, .slice none 0 0] rfl rfl (alloc_whole HX2.out _) rfl rfl (net_one _ _ _ _ _) ?_; intro w3 hg3 hk3; have HG3 := Lib.hid hg3; have HK3 := Lib.hid hk3; clear hg3 hk3))
    have k0 := cell_whole HG3.out 0
    have k1 := cell_whole HG3.out 1
    have k2 := cell_whole HG3.out 2
    refine bodyPost_ret (v := .tuple #[.agg #[.int .i64 0, .bool false, .slice none 0 0], .int .i64 e0]) (by simp [results, Try.results32, go_sem, k0, k1, k2]) rfl ?_
    have hbF : Below w.heap.size w w3 := (HB2.out.alloc HB2.out.size _).trans (HK3.out.below (by have := HB2.out.size; simp; omega) (fun i e => by have e2 : i = w.heap.size + 1 := e; omega))
    exact ⟨none, 0, by rw [HA.out.1, HA.out.2, HE.out]; rfl, by rw [HA.out.1]; exact Row.nil _ _, hbF⟩
end
end Go.Proofs.Ytlkbohpnlbfopaa
