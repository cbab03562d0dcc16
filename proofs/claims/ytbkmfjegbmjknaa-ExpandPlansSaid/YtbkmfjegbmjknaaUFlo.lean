/- Package expand's Flow. -/
import Derived.Test.YtbkmfjegbmjknaaUGfl
import Derived.Test.YtbkmfjegbmjknaaCC
namespace Go.Proofs.Ytbkmfjegbmjknaa
open Go.RowKit Go.Maps
set_option linter.unusedVariables false
def floE (n : Int) (Z : List ArcT) (s t H : Int) (b : Bool) (L : List MoveT) : Int := if xpE n Z s t H = 0 then plnE n Z s t H b L else xpE n Z s t H
def floV (n : Int) (Z : List ArcT) (s t H : Int) (b : Bool) (L : List MoveT) : List Int := if floE n Z s t H b L = 0 then (expOf n Z s t H b).kinds.map (flwK (expOf n Z s t H b) (mvs L)) else []
def FloRes (n : Int) (b : Bool) (Z : List ArcT) (s t H : Int) (L : List MoveT) (w : World) (e : Ending) (w' : World) : Prop :=
  ∃ (fo : Option Addr) (fc : Nat), e = .returned (.tuple #[.slice fo (floV n Z s t H b L).length fc, .int .i64 (floE n Z s t H b L)]) ∧ Lst encI w' fo (floV n Z s t H b L) ∧ Below w.heap.size w w'
theorem flw_perm {E : Exp} {A B : List MoveT} (h : A.Perm B) : flwK E A = flwK E B := by
  funext kd
  obtain ⟨a, i, u⟩ := kd
  match a with
  | 0 => exact nOf_perm h _
  | 1 => exact stk_perm _ h _ _
  | 2 => show -(_ - _) = -(_ - _); rw [stk_perm _ h, stk_perm _ h]
  | a + 3 => show _ - _ = _ - _; rw [stk_perm _ h, stk_perm _ h]
theorem plan_mvE {n : Int} {Z : List ArcT} {s t H : Int} {b : Bool} {L : List MoveT} (h : plnE n Z s t H b L = 0) : mvE n Z s t H L = 0 := by
  by_cases e : mvE n Z s t H L = 0
  · exact e
  · rw [plnE_bad e] at h; exact absurd h e
theorem plan_ok {n : Int} {Z : List ArcT} {s t H : Int} {L : List MoveT} (h : mvE n Z s t H L = 0) : AllIn (mvS L) ∧ ∀ x ∈ mvs L, okM Z s t H x = true := (mvE_ok.1 h).2
theorem stk_small {Z : List ArcT} {N : Nat} {s t H : Int} {L M : List MoveT} (hW : SpanNet Z N) (hn : L.length ≤ 200) (h : ∀ x ∈ mvs L, okM Z s t H x = true) (hp : M.Perm (mvs L)) (v u : Int) : -1099511627776 ≤ stk Z M v u ∧ stk Z M v u ≤ 1099511627776 := by
  have h1 := stk_bd (Z := Z) (c := 1048576) v u (M := M) (fun x hx => by
    obtain ⟨g1, g2, _, _, g5, g6, _⟩ := okM_yes.1 (h x (hp.mem_iff.1 hx))
    refine ⟨g5, Int.le_trans g6 ?_⟩
    obtain ⟨p, hp⟩ : ∃ p : Nat, x.1 = (p : Int) := ⟨x.1.toNat, by omega⟩
    have hpl : p < Z.length := by omega
    rw [hp, arcI_at hpl]
    exact (hW.caps _ (List.getElem_mem hpl)).2)
  have h2 : M.length ≤ 200 := by rw [hp.length_eq]; exact Nat.le_trans (mvs_len L) hn
  have h3 : (1048576 : Int) * (M.length : Int) ≤ 1048576 * 200 := Int.mul_le_mul_of_nonneg_left (by omega) (by omega)
  omega
theorem sto_at {N i j K : Nat} {Z : List ArcT} {L M : List MoveT} (h : mvE (N : Int) Z (i : Int) (j : Int) (K : Int) L = 0) (hp : M.Perm (mvs L)) : ∀ u, u ≤ K → ∀ v, v < N → ∃ g, (stoV (N : Int) Z (i : Int) (j : Int) (K : Int) L)[u]? = some g ∧ g[v]? = some (stk Z M (v : Int) (u : Int)) := by
  intro u hu v hv
  unfold stoV
  rw [if_pos h, Int.toNat_natCast, Int.toNat_natCast]
  refine ⟨(List.range N).map (fun v => stkN Z L u v), ?_, ?_⟩
  · rw [List.getElem?_map, List.getElem?_range (by omega)]; rfl
  · rw [List.getElem?_map, List.getElem?_range hv]
    show some (stk Z L (v : Int) (u : Int)) = _
    rw [stk_of hp]
theorem moves_ok (lo : Option Addr) (lc ll : Nat) (L : List MoveT) (w : World) (h : Row encK 3 w lo L) (hok : ∀ x ∈ L, okK x) (hn : L.length ≤ 200) (hll : L.length = ll) (ha : AllIn (mvS L)) :
    Calls Try.prog 48 #[.slice lo ll lc] w fun e w' => ∃ (mo : Option Addr) (mc ml : Nat) (M : List MoveT), e = .returned (.tuple #[.slice mo ml mc, .int .i64 0]) ∧ M.length = ml ∧ Row encK 3 w' mo M ∧ M.Perm (mvs L) ∧ Below w.heap.size w w' := by
  subst hll
  refine (moves_any lo lc L w h hok hn).mono ?_
  rintro e w' ⟨hb, ⟨_, ao, cap, M, h1, h2, h3, _⟩ | ⟨hno, _⟩⟩
  · exact ⟨ao, cap, M.length, M, h1, rfl, h2, h3, hb⟩
  · exact absurd ha hno
section
variable (n : Int) (b : Bool) (ao lo : Option Addr) (nl cap ll lc : Nat) (Z : List ArcT) (s t H : Int) (L : List MoveT)
end
section
variable (b : Bool) (ao lo : Option Addr) (nl cap ll lc : Nat) (Z : List ArcT) (N i j K : Nat) (L : List MoveT)
set_option maxRecDepth 100000 in
set_option maxHeartbeats 8000000 in
theorem uflow_yes (w : World) (h : Row encA 4 w ao Z) (hl : Z.length = nl) (hL : Row encK 3 w lo L) (hok : ∀ x ∈ L, okK x) (hn : L.length ≤ 200) (hll : L.length = ll) (hx : xpE (N : Int) Z (i : Int) (j : Int) (K : Int) = 0) (hi : i < N) (hj : j < N) (hij : i ≠ j) (hW : SpanNet Z N) (hK : K ≤ 1024) (hm1 : (K + 1) * N ≤ 4000) (hm2 : (K + 1) * Z.length ≤ 10000) :
    Calls Try.prog 26 #[.agg #[.int .i64 (N : Int), .bool b, .slice ao nl cap], .int .i64 (i : Int), .int .i64 (j : Int), .int .i64 (K : Int), .slice lo ll lc] w (FloRes (N : Int) b Z (i : Int) (j : Int) (K : Int) L w) := by
  have hb00 := (Below.refl _ w).alloc (Nat.le_refl _) (.cells #[.int .i64 (N : Int), .bool b, .slice ao nl cap] 24)
  have HB := Lib.hid hb00
  have HN := Lib.hid (heap_alloc_new w (.cells #[.int .i64 (N : Int), .bool b, .slice ao nl cap] 24))
  have x0 := cell_whole HN.out 0
  have x1 := cell_whole HN.out 1
  have x2 := cell_whole HN.out 2
  have HR := Lib.hid (h.below' hb00)
  have HL := Lib.hid (hL.below' hb00)
  have HOK := Lib.hid hok
  have HL2 := Lib.hid hn
  have HLL := Lib.hid hll
  have HZL := Lib.hid hl
  have HWW := Lib.hid hW
  have HKK := Lib.hid hK
  have HIJ := Lib.hid (And.intro hi hj)
  have HZM : Hid (Z.length ≤ 4398046511104) := Lib.hid (by have := hW.len; omega)
  have HCALL := Lib.hid (ugrow_yes b ao nl cap Z N i j K _ (h.below' hb00) hl hx hi hj hij hW hK hm1 hm2)
  obtain ⟨al, hal⟩ : ∃ al, (⟨Z, N, i, j, K, b⟩ : Exp).kinds.length = al := ⟨_, rfl⟩
  have HAL := Lib.hid hal
  have HAL2 : Hid ((contK (⟨Z, N, i, j, K, b⟩ : Exp) (⟨Z, N, i, j, K, b⟩ : Exp).kinds).A.length = al) := Lib.hid (by rw [contK_len]; exact hal)
  have HAL3 : Hid (al ≤ 100000) := Lib.hid (by have := kinds_len (⟨Z, N, i, j, K, b⟩ : Exp); simp only at this; omega)
  have HXP := Lib.hid hx
  obtain ⟨v0, hv0⟩ : ∃ v0, plnV (N : Int) Z (i : Int) (j : Int) (K : Int) b L = v0 := ⟨_, rfl⟩
  obtain ⟨e0, he0⟩ : ∃ e0, plnE (N : Int) Z (i : Int) (j : Int) (K : Int) b L = e0 := ⟨_, rfl⟩
  have HV0 := Lib.hid hv0
  have HE0 := Lib.hid he0
  have HFE0 : Hid (floE (N : Int) Z (i : Int) (j : Int) (K : Int) b L = e0) := Lib.hid (by unfold floE; rw [if_pos hx, he0])
  have hx0 : ((0 : Int) != 0) = false := rfl
  clear h hb00 hl hx hi hj hij hW hK hm1 hm2 hL hok hn hll hal hv0
  by_cases hz : e0 = 0
  · subst hz
    have hmv := plan_mvE he0
    have HM0 := Lib.hid hmv
    have HPO := Lib.hid (plan_ok hmv)
    have HMC := Lib.hid (fun (W : World) (hr : Row encK 3 W lo L) => moves_ok lo lc ll L W hr HOK.out HL2.out HLL.out HPO.out.1)
    have HIN : Hid (∀ m ∈ mvs L, MvIn (⟨Z, N, i, j, K, b⟩ : Exp) m) := Lib.hid (fun m hm => mv_in (E := ⟨Z, N, i, j, K, b⟩) HWW.out (HPO.out.2 m hm))
    have HSTO : Hid (∀ M : List MoveT, M.Perm (mvs L) → ∀ u, u ≤ K → ∀ v, v < N → ∃ g, (stoV (N : Int) Z (i : Int) (j : Int) (K : Int) L)[u]? = some g ∧ g[v]? = some (stk Z M (v : Int) (u : Int))) := Lib.hid (fun M hp => sto_at hmv hp)
    have HBD : Hid (∀ M : List MoveT, M.Perm (mvs L) → ∀ v u : Int, -1099511627776 ≤ stk Z M v u ∧ stk Z M v u ≤ 1099511627776) := Lib.hid (fun M hp => stk_small HWW.out HL2.out HPO.out.2 hp)
    have HFE : Hid (∀ M : List MoveT, M.Perm (mvs L) → (⟨Z, N, i, j, K, b⟩ : Exp).kinds.map (flwK (⟨Z, N, i, j, K, b⟩ : Exp) M) = floV (N : Int) Z (i : Int) (j : Int) (K : Int) b L) := Lib.hid (fun M hp => by
      unfold floV
      rw [HFE0.out, if_pos rfl, flw_perm hp, expOf_nat])
    have HFL : Hid ((floV (N : Int) Z (i : Int) (j : Int) (K : Int) b L).length = al) := Lib.hid (by rw [← HFE.out _ (List.Perm.refl _), List.length_map]; exact HAL.out)
    clear hmv he0
    go_enter Try.func26, Try.ntmps26
    go_wp2_with (first
      | (go_at_call 50; refine (ugflow_any k (⟨Z, N, i, j, K, b⟩ : Exp) (((K : Int) + 1) * (N : Int) + 2) m fa al ac hd ao mo ga nl cap ml mc gl gc M (stoV (N : Int) Z (i : Int) (j : Int) (K : Int) L) _ HGX.out HAL.out HAL3.out HR.out HZL.out HMR.out HMLN.out (by rw [← HMLN.out, HMP.out.length_eq]; exact Nat.le_trans (mvs_len L) HL2.out) (fun m hm => HIN.out m (HMP.out.mem_iff.1 hm)) (keys_nodup HMP.out) HIR.out HGL.out (HSTO.out M HMP.out) (HBD.out M HMP.out) HWW.out HKK.out HIJ.out.1 HIJ.out.2).mono ?_; rw [HFE.out M HMP.out]; rintro e w6 ⟨fo, fc, rfl, hf, hb⟩; have HF := Lib.hid hf; have HB := Lib.hid (HB.out.trans (hb.mono HB.out.size)); clear hb hf)
      | (go_at_call 49; refine (nstocks_any (N : Int) b ao cap nl Z (i : Int) (j : Int) (K : Int) lo lc ll L _ HR.out HZM.out HL.out HOK.out HL2.out HZL.out HLL.out).mono ?_; unfold StoRes; rw [HM0.out]; rintro e w5 ⟨ga, gl, gc, rfl, hgl, hir, hb⟩; have hn := kept_box HN.out hb; have HN := Lib.hid hn; have x0 := cell_whole hn 0; have x1 := cell_whole hn 1; have x2 := cell_whole hn 2; clear hn; have HR := Lib.hid (HR.out.below' hb); have HL := Lib.hid (HL.out.below' hb); have HB := Lib.hid (HB.out.trans (hb.mono HB.out.size)); have HGX := Lib.hid (HGX.out.below hb); have hq := kept_box HGB.out hb; have HGB := Lib.hid hq; have g0 := cell_whole hq 0; have g1 := cell_whole hq 1; have g2 := cell_whole hq 2; have g3 := cell_whole hq 3; have g4 := cell_whole hq 4; have g5 := cell_whole hq 5; have g6 := cell_whole hq 6; have g7 := cell_whole hq 7; have g8 := cell_whole hq 8; clear hq; have HMR := Lib.hid (HMR.out.below' hb); have HIR := Lib.hid hir; have HGL := Lib.hid hgl; clear hb hir hgl)
      | (go_at_call 48; refine HMC.out _ HL.out |>.mono ?_; rintro e w4 ⟨mo, mc, ml, M, rfl, hml, hmr, hmp, hb⟩; have hn := kept_box HN.out hb; have HN := Lib.hid hn; have x0 := cell_whole hn 0; have x1 := cell_whole hn 1; have x2 := cell_whole hn 2; clear hn; have HR := Lib.hid (HR.out.below' hb); have HL := Lib.hid (HL.out.below' hb); have HB := Lib.hid (HB.out.trans (hb.mono HB.out.size)); have HGX := Lib.hid (HGX.out.below hb); have hq := kept_box HGB.out hb; have HGB := Lib.hid hq; have g0 := cell_whole hq 0; have g1 := cell_whole hq 1; have g2 := cell_whole hq 2; have g3 := cell_whole hq 3; have g4 := cell_whole hq 4; have g5 := cell_whole hq 5; have g6 := cell_whole hq 6; have g7 := cell_whole hq 7; have g8 := cell_whole hq 8; clear hq; have HMR := Lib.hid hmr; have HMP := Lib.hid hmp; have HMLN := Lib.hid hml; clear hb hmr hmp hml)
      | (go_at_call 47; refine (nchk14_any (N : Int) b ao cap nl Z (i : Int) (j : Int) (K : Int) lo lc ll L _ HR.out HZM.out HL.out HOK.out HL2.out HZL.out HLL.out).mono ?_; rw [HV0.out, HE0.out]; rintro e w3 ⟨rfl, hb⟩; have hn := kept_box HN.out hb; have HN := Lib.hid hn; have x0 := cell_whole hn 0; have x1 := cell_whole hn 1; have x2 := cell_whole hn 2; clear hn; have HR := Lib.hid (HR.out.below' hb); have HL := Lib.hid (HL.out.below' hb); have HB := Lib.hid (HB.out.trans (hb.mono HB.out.size)); have HGX := Lib.hid (HGX.out.below hb); have hq := kept_box HGB.out hb; have HGB := Lib.hid hq; have g0 := cell_whole hq 0; have g1 := cell_whole hq 1; have g2 := cell_whole hq 2; have g3 := cell_whole hq 3; have g4 := cell_whole hq 4; have g5 := cell_whole hq 5; have g6 := cell_whole hq 6; have g7 := cell_whole hq 7; have g8 := cell_whole hq 8; clear hq; clear hb)
      | (go_at_call 42; refine HCALL.out.mono ?_; rintro e w2 ⟨k, m, av, hd, rfl, hkB, hgx, hb0⟩; obtain ⟨fa, ac, rfl, hrow, _⟩ := own_rowQ encA_len hgx.arcs; unfold grwV; (rw [show (contK (⟨Z, N, i, j, K, b⟩ : Exp) (⟨Z, N, i, j, K, b⟩ : Exp).kinds).A.length = al from HAL2.out] at hgx ⊢); have hal0 := (Below.refl _ w2).alloc (Nat.le_refl _) (.cells #[.int .i64 (N : Int), .int .i64 (K : Int), .int .i64 (((K : Int) + 1) * (N : Int) + 2), .bool false, .slice fa al ac, .map (some k.bc), .map (some k.bw), .map (some k.be), .map (some k.bx)] 83); have hnb := heap_alloc_new w2 (.cells #[.int .i64 (N : Int), .int .i64 (K : Int), .int .i64 (((K : Int) + 1) * (N : Int) + 2), .bool false, .slice fa al ac, .map (some k.bc), .map (some k.bw), .map (some k.be), .map (some k.bx)] 83); have hb := hb0.trans (hal0.mono hb0.size); have hn := kept_box HN.out hb; have HN := Lib.hid hn; have x0 := cell_whole hn 0; have x1 := cell_whole hn 1; have x2 := cell_whole hn 2; clear hn; have HR := Lib.hid (HR.out.below' hb); have HL := Lib.hid (HL.out.below' hb); have HB := Lib.hid (HB.out.trans (hb.mono HB.out.size)); have HGX := Lib.hid (hgx.below hal0); have HGB := Lib.hid hnb; have g0 := cell_whole hnb 0; have g1 := cell_whole hnb 1; have g2 := cell_whole hnb 2; have g3 := cell_whole hnb 3; have g4 := cell_whole hnb 4; have g5 := cell_whole hnb 5; have g6 := cell_whole hnb 6; have g7 := cell_whole hnb 7; have g8 := cell_whole hnb 8; clear hkB hgx hb0 hrow hal0 hnb hb))
    go_ret2
    exact ⟨fo, fc, by rw [HFE0.out, HFL.out]; rfl, HF.out, HB.out⟩
  · have hz2 : (e0 != 0) = true := by simpa using hz
    have HV : Hid (floV (N : Int) Z (i : Int) (j : Int) (K : Int) b L = []) := Lib.hid (by unfold floV; rw [HFE0.out, if_neg hz])
    clear hz he0
    go_enter Try.func26, Try.ntmps26
    go_wp2_with (first
      | (go_at_call 47; refine (nchk14_any (N : Int) b ao cap nl Z (i : Int) (j : Int) (K : Int) lo lc ll L _ HR.out HZM.out HL.out HOK.out HL2.out HZL.out HLL.out).mono ?_; rw [HV0.out, HE0.out]; rintro e w3 ⟨rfl, hb⟩; have hn := kept_box HN.out hb; have HN := Lib.hid hn; have x0 := cell_whole hn 0; have x1 := cell_whole hn 1; have x2 := cell_whole hn 2; clear hn; have HR := Lib.hid (HR.out.below' hb); have HL := Lib.hid (HL.out.below' hb); have HB := Lib.hid (HB.out.trans (hb.mono HB.out.size)); have HGX := Lib.hid (HGX.out.below hb); have hq := kept_box HGB.out hb; have HGB := Lib.hid hq; have g0 := cell_whole hq 0; have g1 := cell_whole hq 1; have g2 := cell_whole hq 2; have g3 := cell_whole hq 3; have g4 := cell_whole hq 4; have g5 := cell_whole hq 5; have g6 := cell_whole hq 6; have g7 := cell_whole hq 7; have g8 := cell_whole hq 8; clear hq; clear hb)
      | (go_at_call 42; refine HCALL.out.mono ?_; rintro e w2 ⟨k, m, av, hd, rfl, hkB, hgx, hb0⟩; obtain ⟨fa, ac, rfl, hrow, _⟩ := own_rowQ encA_len hgx.arcs; unfold grwV; (rw [show (contK (⟨Z, N, i, j, K, b⟩ : Exp) (⟨Z, N, i, j, K, b⟩ : Exp).kinds).A.length = al from HAL2.out] at hgx ⊢); have hal0 := (Below.refl _ w2).alloc (Nat.le_refl _) (.cells #[.int .i64 (N : Int), .int .i64 (K : Int), .int .i64 (((K : Int) + 1) * (N : Int) + 2), .bool false, .slice fa al ac, .map (some k.bc), .map (some k.bw), .map (some k.be), .map (some k.bx)] 83); have hnb := heap_alloc_new w2 (.cells #[.int .i64 (N : Int), .int .i64 (K : Int), .int .i64 (((K : Int) + 1) * (N : Int) + 2), .bool false, .slice fa al ac, .map (some k.bc), .map (some k.bw), .map (some k.be), .map (some k.bx)] 83); have hb := hb0.trans (hal0.mono hb0.size); have hn := kept_box HN.out hb; have HN := Lib.hid hn; have x0 := cell_whole hn 0; have x1 := cell_whole hn 1; have x2 := cell_whole hn 2; clear hn; have HR := Lib.hid (HR.out.below' hb); have HL := Lib.hid (HL.out.below' hb); have HB := Lib.hid (HB.out.trans (hb.mono HB.out.size)); have HGX := Lib.hid (hgx.below hal0); have HGB := Lib.hid hnb; have g0 := cell_whole hnb 0; have g1 := cell_whole hnb 1; have g2 := cell_whole hnb 2; have g3 := cell_whole hnb 3; have g4 := cell_whole hnb 4; have g5 := cell_whole hnb 5; have g6 := cell_whole hnb 6; have g7 := cell_whole hnb 7; have g8 := cell_whole hnb 8; clear hkB hgx hb0 hrow hal0 hnb hb))
    go_ret2
    exact ⟨none, 0, by rw [HFE0.out, HV.out]; rfl, by rw [HV.out]; exact Lst.nil _ _, HB.out⟩
end
end Go.Proofs.Ytbkmfjegbmjknaa
