/- Lemmas of the layers below, several texts in one. -/
import Derived.Test.YtlkbohpnlbfopaaCB
import Derived.Test.YtlkbohpnlbfopaaCI
import Derived.Test.YtlkbohpnlbfopaaBT
namespace Go.Proofs.Ytlkbohpnlbfopaa
open Go.RowKit
set_option linter.unusedVariables false
theorem rmoves_any (lo : Option Addr) (cap : Nat) (Z : List MoveT) (w : World) (h : Row encK 3 w lo Z) (hk : ∀ x ∈ Z, okK x) (hn : Z.length ≤ 200) : Calls Try.prog 14 #[.slice lo Z.length cap] w (MovesRes Z w) :=
  rmoves_from (fun ad c X W h1 h2 h3 => rmoves_some ad c X W h1 h2 h3) lo cap Z w h hk hn
section
variable (n : Int) (b : Bool) (ao : Option Addr) (nl cap : Nat) (Z : List ArcT) (s t H : Int)
set_option maxRecDepth 100000 in
set_option maxHeartbeats 4000000 in
theorem rmove14_any (i u k : Int) (w : World) (h : Row encA 4 w ao Z) (hl : Z.length = nl) (hnl : nl ≤ 200) (hH : 0 ≤ H ∧ H ≤ 1024) (hZ : ∀ a ∈ Z, 0 ≤ a.2.2.2 ∧ a.2.2.2 ≤ 1048576) :
    Calls Try.prog 60 #[.agg #[.int .i64 n, .bool b, .slice ao nl cap], .int .i64 s, .int .i64 t, .int .i64 H, .agg #[.int .i64 i, .int .i64 u, .int .i64 k]] w fun e w' => e = .returned (.bool (okM Z s t H (i, u, k))) ∧ Below w.heap.size w w' := by
  have hb00 := ((Below.refl _ w).alloc (Nat.le_refl _) (.cells #[.int .i64 n, .bool b, .slice ao nl cap] 24)).alloc (by simp) (.cells #[.int .i64 i, .int .i64 u, .int .i64 k] 78)
  have hx00 := alloc_whole (heap_alloc_new w (.cells #[.int .i64 n, .bool b, .slice ao nl cap] 24)) (.cells #[.int .i64 i, .int .i64 u, .int .i64 k] 78)
  have hm00 := new_whole1 w (.cells #[.int .i64 n, .bool b, .slice ao nl cap] 24) (.cells #[.int .i64 i, .int .i64 u, .int .i64 k] 78)
  have HB := Lib.hid hb00
  have HR := Lib.hid (h.below' hb00)
  have c2 := cell_whole hx00 2
  have m0 := cell_whole hm00 0
  have m1 := cell_whole hm00 1
  have m2 := cell_whole hm00 2
  have HZ := Lib.hid hZ
  have HLN := Lib.hid hl
  obtain ⟨hH0, hH1⟩ := hH
  clear h hb00 hx00 hm00 hZ
  have hok : okM Z s t H (i, u, k) = false ∨ (0 ≤ i ∧ i < (nl : Int)) := by
    by_cases h0 : 0 ≤ i ∧ i < (nl : Int)
    · exact .inr h0
    · exact .inl (okM_no (fun e => h0 ⟨e.1, by rw [← hl]; exact e.2.1⟩))
  by_cases hi0 : i < 0
  · have HO : Hid (okM Z s t H (i, u, k) = false) := Lib.hid (hok.resolve_right (fun e => by omega))
    rw [HO.out]
    clear hok hl
    go_enter Try.func60, Try.ntmps60
    go_wp2
    go_ret
    exact ⟨rfl, HB.out⟩
  · by_cases hi1 : (nl : Int) ≤ i
    · have HO : Hid (okM Z s t H (i, u, k) = false) := Lib.hid (hok.resolve_right (fun e => by omega))
      rw [HO.out]
      clear hok hl
      go_enter Try.func60, Try.ntmps60
      go_wp2
      go_ret
      exact ⟨rfl, HB.out⟩
    · obtain ⟨p, rfl⟩ : ∃ p : Nat, i = (p : Int) := ⟨i.toNat, by omega⟩
      have hp : p < Z.length := by omega
      have hpi : (p : Int) < (nl : Int) := by omega
      obtain ⟨ab, ax, e, hab, d0, d1, d2, d3⟩ := arc_at HR.out (List.getElem?_eq_getElem hp)
      cases e
      obtain ⟨z1, z2⟩ := HZ.out _ (List.getElem_mem hp)
      have HOK : Hid (okM Z s t H ((p : Int), u, k) = decide (0 ≤ u ∧ u ≤ H - Z[p].2.2.2 ∧ 0 ≤ k ∧ k ≤ Z[p].2.2.1 ∧ Z[p].2.1 ≠ s ∧ Z[p].1 ≠ t)) := Lib.hid (by
        unfold okM
        rw [decide_eq_decide]
        show (0 ≤ (p : Int) ∧ (p : Int) < (Z.length : Int) ∧ 0 ≤ u ∧ u + (arcI Z (p : Int)).2.2.2 ≤ H ∧ 0 ≤ k ∧ k ≤ (arcI Z (p : Int)).2.2.1 ∧ (arcI Z (p : Int)).2.1 ≠ s ∧ (arcI Z (p : Int)).1 ≠ t) ↔ _
        rw [arcI_at hp]
        constructor
        · rintro ⟨_, _, h3, h4, h5, h6, h7, h8⟩; exact ⟨h3, by omega, h5, h6, h7, h8⟩
        · rintro ⟨h3, h4, h5, h6, h7, h8⟩; exact ⟨by omega, by omega, h3, by omega, h5, h6, h7, h8⟩)
      obtain ⟨q, hq⟩ : ∃ q, okM Z s t H ((p : Int), u, k) = q := ⟨_, rfl⟩
      rw [hq]
      generalize Z[p] = a at *
      obtain ⟨x, y, c, tt⟩ := a
      have HQ : Hid (q = decide (0 ≤ u ∧ u ≤ H - tt ∧ 0 ≤ k ∧ k ≤ c ∧ y ≠ s ∧ x ≠ t)) := Lib.hid (hq ▸ HOK.out)
      simp only at d0 d1 d2 d3 z1 z2 ⊢
      clear HOK hok hl hp hq
      by_cases hu0 : u < 0
      · have HF : Hid (q = false) := Lib.hid (by rw [HQ.out, decide_eq_false_iff_not]; omega)
        go_enter Try.func60, Try.ntmps60
        go_wp2
        go_ret
        exact ⟨ret_bool HF.out.symm, HB.out⟩
      · by_cases hu1 : u > H
        · have HF : Hid (q = false) := Lib.hid (by rw [HQ.out, decide_eq_false_iff_not]; omega)
          go_enter Try.func60, Try.ntmps60
          go_wp2
          go_ret
          exact ⟨ret_bool HF.out.symm, HB.out⟩
        · have hw : IntKind.i64.wrap (u + tt) = u + tt := IntWalk.i64_in _ (by omega)
          go_enter Try.func60, Try.ntmps60
          go_wp2
          all_goals
            go_ret
            refine ⟨ret_bool ?_, HB.out.alloc (by simp; omega) _⟩
            rw [HQ.out]
            first
              | (rw [eq_comm, decide_eq_false_iff_not]; omega)
              | (rw [Bool.eq_iff_iff, decide_eq_true_eq, Bool.and_eq_true, bne_iff_ne, bne_iff_ne]; omega)
def MrgRes (n : Int) (Z : List ArcT) (s t H : Int) (L : List MoveT) (w : World) (e : Ending) (w' : World) : Prop :=
  (mvE n Z s t H L = 0 ∧ ∃ (mo : Option Addr) (mc : Nat) (M : List MoveT), e = .returned (.tuple #[.slice mo M.length mc, .int .i64 0]) ∧ Row encK 3 w' mo M ∧ M.Perm (mvs L) ∧ Below w.heap.size w w') ∨
    (mvE n Z s t H L ≠ 0 ∧ e = .returned (.tuple #[.slice none 0 0, .int .i64 (mvE n Z s t H L)]) ∧ Below w.heap.size w w')
set_option maxRecDepth 100000 in
set_option maxHeartbeats 4000000 in
theorem rmerged_no (lo : Option Addr) (lc : Nat) (L : List MoveT) (w : World) (h : Row encA 4 w ao Z) (hz : Z.length ≤ maxLen) (he : askE n Z s t H ≠ 0) :
    Calls Try.prog 42 #[.agg #[.int .i64 n, .bool b, .slice ao Z.length cap], .int .i64 s, .int .i64 t, .int .i64 H, .slice lo L.length lc] w (MrgRes n Z s t H L w) := by
  have hb00 := (Below.refl _ w).alloc (Nat.le_refl _) (.cells #[.int .i64 n, .bool b, .slice ao Z.length cap] 24)
  have hn00 := heap_alloc_new w (.cells #[.int .i64 n, .bool b, .slice ao Z.length cap] 24)
  have HB := Lib.hid hb00
  have HR := Lib.hid (h.below' hb00)
  have c0 := cell_whole hn00 0
  have c1 := cell_whole hn00 1
  have c2 := cell_whole hn00 2
  have HME : Hid (mvE n Z s t H L = askE n Z s t H) := Lib.hid (mvE_ask he)
  obtain ⟨e0, he0⟩ : ∃ e0, askE n Z s t H = e0 := ⟨_, rfl⟩
  have HE := Lib.hid he0
  rw [he0] at he
  have HN0 := Lib.hid he
  have hf1 : (e0 != 0) = true := by simpa using he
  have hf2 : (e0 == 0) = false := by simpa using he
  have HZ := Lib.hid hz
  clear h hb00 hn00 he he0 hz
  go_enter Try.func42, Try.ntmps42
  go_wp2_with (go_at_call 19; refine (rasked12_is n b ao cap Z e0 s t H _ HR.out HZ.out HE.out).mono ?_; rintro e w2 ⟨rfl, hb2⟩; have HB2 := Lib.hid (HB.out.trans (hb2.mono HB.out.size)); clear hb2)
  go_ret2
  exact .inr ⟨by rw [HME.out, HE.out]; exact HN0.out, by rw [HME.out, HE.out]; rfl, HB2.out⟩
set_option maxRecDepth 100000 in
set_option maxHeartbeats 8000000 in
theorem rmerged_ok (lo : Option Addr) (lc nl : Nat) (L : List MoveT) (w : World) (h : Row encA 4 w ao Z) (hl : Row encK 3 w lo L) (hok : ∀ x ∈ L, okK x) (hn : L.length ≤ 200) (hnl : Z.length = nl) (he : askE n Z s t H = 0) :
    Calls Try.prog 42 #[.agg #[.int .i64 n, .bool b, .slice ao nl cap], .int .i64 s, .int .i64 t, .int .i64 H, .slice lo L.length lc] w (MrgRes n Z s t H L w) := by
  obtain ⟨N, i0, j0, hnN, hsN, htN, hi0, hj0, hij, hW, hH0, hH1⟩ := ask_net he
  have hb00 := (Below.refl _ w).alloc (Nat.le_refl _) (.cells #[.int .i64 n, .bool b, .slice ao nl cap] 24)
  have hn00 := heap_alloc_new w (.cells #[.int .i64 n, .bool b, .slice ao nl cap] 24)
  have HB := Lib.hid hb00
  have HNB := Lib.hid hn00
  have HR0 := Lib.hid h
  have HL0 := Lib.hid hl
  have c0 := cell_whole hn00 0
  have c1 := cell_whole hn00 1
  have c2 := cell_whole hn00 2
  have HE := Lib.hid he
  have HOK := Lib.hid hok
  have HNL := Lib.hid hnl
  have HW := Lib.hid hW
  have hnl2 : nl ≤ 200 := by rw [← hnl]; exact hW.len
  have HCALL := Lib.hid (rasked12_is n b ao cap Z 0 s t H _ (h.below' hb00) (by unfold maxLen; omega) he)
  rw [hnl] at HCALL
  clear h hl hb00 hn00 he hok hnl hW hnN hsN htN hi0 hj0 hij
  go_enter Try.func42, Try.ntmps42
  go_wp2_with (go_at_call 19; refine HCALL.out.mono ?_; rintro e w2 ⟨rfl, hb2⟩; have HB2 := Lib.hid (HB.out.trans (hb2.mono HB.out.size)); have HN2 := Lib.hid (kept_box HNB.out hb2); clear hb2)
  refine (rmoves_any lo lc L w2 (HL0.out.below' HB2.out) HOK.out hn).mono ?_
  rintro e w4 ⟨hb4, ⟨hall, mo, mc, M, rfl, hrow, hperm, hsorted⟩ | ⟨hall, rfl⟩⟩
  · have HMP := Lib.hid hperm
    have hml : M.length ≤ 200 := by rw [hperm.length_eq]; exact Nat.le_trans (mvs_len L) hn
    have HALL := Lib.hid hall
    have HROW := Lib.hid hrow
    have HN4 := Lib.hid (kept_box HN2.out hb4)
    have HB4 := Lib.hid (HB2.out.trans (hb4.mono HB2.out.size))
    clear hall hb4 hrow hperm hsorted HL0 HCALL c0 c1 c2
    go_wp2_with fail
    go_loopw [15] (fun iv wr => ∃ j : Nat, j ≤ M.length ∧ iv = .int .i64 (j : Int) ∧ Hid (∀ x ∈ M.take j, okM Z s t H x = true) ∧ Hid (Below w4.heap.size w4 wr)) (fun iv _ => M.length - (intOf iv).toNat)
    case atStart => exact ⟨0, Nat.zero_le _, rfl, Lib.hid (fun x hx => by rw [List.take_zero] at hx; cases hx), Lib.hid (Below.refl _ _)⟩
    case round =>
      obtain ⟨j, hj, rfl, HOJ, HW4⟩ := hrel
      have hbn := kept_box HN4.out HW4.out
      have HBJ := Lib.hid (HB4.out.trans (HW4.out.mono HB4.out.size))
      by_cases hlt2 : j < M.length
      · have hli : (j : Int) < (M.length : Int) := by omega
        obtain ⟨mb, mx, e, hmb, d0, d1, d2⟩ := Row.tri (HROW.out.below' HW4.out) hlt2
        cases e
        have HXM : Hid (M[j] ∈ mvs L) := Lib.hid (HMP.out.mem_iff.1 (List.getElem_mem hlt2))
        have HTK : Hid (M.take (j + 1) = M.take j ++ [M[j]]) := Lib.hid (List.take_succ_eq_append_getElem hlt2)
        generalize M[j] = x at *
        obtain ⟨i, u, k⟩ := x
        simp only at d0 d1 d2
        have c0 := cell_whole hbn 0
        have c1 := cell_whole hbn 1
        have c2 := cell_whole hbn 2
        have HTM : Hid (∀ a ∈ Z, 0 ≤ a.2.2.2 ∧ a.2.2.2 ≤ 1048576) := Lib.hid HW.out.times
        have HRQ := Lib.hid (HR0.out.below' (below_drew HBJ.out))
        obtain ⟨q, hq⟩ : ∃ q, okM Z s t H (i, u, k) = q := ⟨_, rfl⟩
        have HQ := Lib.hid hq
        clear hq
        go_wp2_with fail
        go_region_held3 (fun W => W.cell? ⟨w.heap.size, 0, none⟩ = some (.int .i64 n) ∧ W.cell? ⟨w.heap.size, 1, none⟩ = some (.bool b) ∧ W.cell? ⟨w.heap.size, 2, none⟩ = some (.slice ao nl cap) ∧ W.cell? ⟨mb, mx + j * 3, none⟩ = some (.int .i64 i) ∧ W.cell? ⟨mb, mx + j * 3 + 1, none⟩ = some (.int .i64 u) ∧ W.cell? ⟨mb, mx + j * 3 + 2, none⟩ = some (.int .i64 k)) (first | exact ⟨c0, c1, c2, d0, d1, d2⟩ | exact ⟨z0, z1, z2, y0, y1, y2⟩ | go_keep)
          (first | (go_at_call 60; refine (rmove14_any n b ao nl cap Z s t H i u k _ HRQ.out HNL.out hnl2 ⟨hH0, hH1⟩ HTM.out).mono ?_; rw [HQ.out]; rintro e w5 ⟨rfl, hb5⟩; have HB5 := Lib.hid (HW4.out.trans ((below_undrew hb5).mono HW4.out.size)); have hn5 := kept_box HN4.out HB5.out; have z0 := cell_whole hn5 0; have z1 := cell_whole hn5 1; have z2 := cell_whole hn5 2; have y0 := cell_below' hb5 d0 (by simpa using hmb); have y1 := cell_below' hb5 d1 (by simpa using hmb); have y2 := cell_below' hb5 d2 (by simpa using hmb); clear hb5 hn5))
        all_goals
          cases q
          · have HME : Hid (mvE n Z s t H L = 140) := Lib.hid (mvE_move HE.out HALL.out HXM.out HQ.out)
            go_wp2
            go_ret2
            exact .inr ⟨by rw [HME.out]; decide, by rw [HME.out]; rfl, HB4.out.trans (HB5.out.mono HB4.out.size)⟩
          · have HOJ2 : Hid (∀ x ∈ M.take (j + 1), okM Z s t H x = true) := Lib.hid (by
              rw [HTK.out]
              intro x hx
              rcases List.mem_append.1 hx with hx | hx
              · exact HOJ.out x hx
              · rw [List.mem_singleton.1 hx]; exact HQ.out)
            go_wp2
            go_roundw
            case rel => exact ⟨j + 1, by omega, by go_num, HOJ2, HB5⟩
            case measure => simp [intOf]; omega
      · have hli : ¬ (j : Int) < (M.length : Int) := by omega
        have HME : Hid (mvE n Z s t H L = 0) := Lib.hid (mvE_ok.2 ⟨HE.out, HALL.out, fun x hx => HOJ.out x (by rw [List.take_of_length_le (by omega)]; exact HMP.out.mem_iff.2 hx)⟩)
        go_wp2
        go_ret2
        exact .inl ⟨HME.out, mo, mc, M, rfl, HROW.out.below' HW4.out, HMP.out, HBJ.out⟩
  · have HME : Hid (mvE n Z s t H L = 10) := Lib.hid (mvE_over HE.out hall)
    have HB4 := Lib.hid (HB2.out.trans (hb4.mono HB2.out.size))
    clear hall hb4
    go_wp2
    go_ret2
    exact .inr ⟨by rw [HME.out]; decide, by rw [HME.out]; rfl, HB4.out⟩
end
end Go.Proofs.Ytlkbohpnlbfopaa
namespace Go.Proofs.Ytlkbohpnlbfopaa
open Go.RowKit
set_option linter.unusedVariables false
theorem stk_step {Z : List ArcT} {M : List MoveT} {i : Nat} (hi : i < M.length) (v u : Int) : stk Z (M.take (i + 1)) v u = stk Z (M.take i) v u + (if (arcI Z M[i].1).2.1 = v ∧ M[i].2.1 + (arcI Z M[i].1).2.2.2 ≤ u then M[i].2.2 else 0) - (if (arcI Z M[i].1).1 = v ∧ M[i].2.1 ≤ u then M[i].2.2 else 0) := by
  rw [List.take_succ_eq_append_getElem hi, stk_snoc]
  unfold wgt
  simp only
  split <;> split <;> omega
section
variable (n : Int) (b : Bool) (ao : Option Addr) (nl cap : Nat) (Z : List ArcT) (s t : Int) (H N : Nat)
set_option maxRecDepth 100000 in
set_option maxHeartbeats 8000000 in
theorem rstock14_any (mo : Option Addr) (mc ml : Nat) (M : List MoveT) (v u : Nat) (w : World) (h : Row encA 4 w ao Z) (hl : Z.length = nl) (hm : Row encK 3 w mo M) (hml : M.length = ml) (hm2 : ml ≤ 200) (hW : SpanNet Z N) (hH : H ≤ 1024) (hM : ∀ x ∈ M, okM Z s t (H : Int) x = true) :
    Calls Try.prog 43 #[.agg #[.int .i64 n, .bool b, .slice ao nl cap], .slice mo ml mc, .int .i64 (v : Int), .int .i64 (u : Int)] w fun e w' => e = .returned (.int .i64 (stk Z M (v : Int) (u : Int))) ∧ Below w.heap.size w w' := by
  have hb00 := (Below.refl _ w).alloc (Nat.le_refl _) (.cells #[.int .i64 n, .bool b, .slice ao nl cap] 24)
  have hn00 := heap_alloc_new w (.cells #[.int .i64 n, .bool b, .slice ao nl cap] 24)
  have HB := Lib.hid hb00
  have HNB := Lib.hid hn00
  have HR := Lib.hid (h.below' hb00)
  have HMR := Lib.hid (hm.below' hb00)
  have HLN := Lib.hid hl
  have HML := Lib.hid hml
  have HW := Lib.hid hW
  have HM := Lib.hid hM
  have HST := Lib.hid (fun i (hi : i < M.length) => stk_step (Z := Z) hi (v : Int) (u : Int))
  have HBD : Hid (∀ i, i ≤ 200 → -209715200 ≤ stk Z (M.take i) (v : Int) (u : Int) ∧ stk Z (M.take i) (v : Int) (u : Int) ≤ 209715200) := Lib.hid (fun i hi => by
    have h1 := stk_bd (Z := Z) (c := 1048576) (v : Int) (u : Int) (M := M.take i) (fun x hx => by
      obtain ⟨g1, g2, _, _, g5, g6, _⟩ := okM_yes.1 (hM x (List.mem_of_mem_take hx))
      refine ⟨g5, Int.le_trans g6 ?_⟩
      obtain ⟨p, hp⟩ : ∃ p : Nat, x.1 = (p : Int) := ⟨x.1.toNat, by omega⟩
      have hpl : p < Z.length := by omega
      rw [hp, arcI_at hpl]
      exact (hW.caps _ (List.getElem_mem hpl)).2)
    have h2 : ((M.take i).length : Int) ≤ 200 := by have := List.length_take_le i M; omega
    omega)
  have hnl2 : nl ≤ 200 := by rw [← hl]; exact hW.len
  clear h hl hm hml hW hM hb00 hn00
  go_enter Try.func43, Try.ntmps43
  go_wp2
  generalize w.alloc (.cells #[.int .i64 n, .bool b, .slice ao nl cap] 24) = w1 at *
  go_loopw [9, 10] (fun kv iv wr => ∃ i : Nat, i ≤ ml ∧ iv = .int .i64 (i : Int) ∧ kv = .int .i64 (stk Z (M.take i) (v : Int) (u : Int)) ∧ Hid (Below w1.heap.size w1 wr)) (fun _ iv _ => ml - (intOf iv).toNat)
  case atStart => exact ⟨0, Nat.zero_le _, rfl, rfl, Lib.hid (Below.refl _ _)⟩
  case round =>
    obtain ⟨i, hi, rfl, rfl, HWR⟩ := hrel
    by_cases hlt : i < ml
    · have hli : (i : Int) < (ml : Int) := by omega
      have hiM : i < M.length := by rw [HML.out]; exact hlt
      obtain ⟨mb, mx, e, hmb, d0, d1, d2⟩ := Row.tri (HMR.out.below' HWR.out) hiM
      cases e
      have HS1 := Lib.hid (HST.out i hiM)
      have HB1 := HBD.out i (by omega)
      have HB2 := HBD.out (i + 1) (by omega)
      obtain ⟨g1, g2, g3, g4, g5, g6, _⟩ := okM_yes.1 (HM.out _ (List.getElem_mem hiM))
      generalize M[i] = x at *
      obtain ⟨ix, ux, kx⟩ := x
      simp only at d0 d1 d2 g1 g2 g3 g4 g5 g6 HS1
      obtain ⟨p, rfl⟩ : ∃ p : Nat, ix = (p : Int) := ⟨ix.toNat, by omega⟩
      have hpz : p < Z.length := by omega
      have hpi : (p : Int) < (nl : Int) := by rw [← HLN.out]; exact g2
      obtain ⟨ab, ax, e, hab, a0, a1, a2, a3⟩ := arc_at (HR.out.below' HWR.out) (List.getElem?_eq_getElem hpz)
      cases e
      have ht := (HW.out.times _ (List.getElem_mem hpz)).1
      have hc := (HW.out.caps _ (List.getElem_mem hpz)).2
      unfold tm at ht
      unfold capN at hc
      rw [arcI_at hpz] at HS1 g4 g6
      generalize Z[p] = a at *
      obtain ⟨x, y, c, tt⟩ := a
      simp only at a0 a1 a2 a3 ht hc HS1 g4 g6
      have hbn := kept_box HNB.out HWR.out
      have c2 := cell_whole hbn 2
      generalize stk Z (M.take i) (v : Int) (u : Int) = K0 at *
      obtain ⟨K1, hK1⟩ : ∃ K1, stk Z (M.take (i + 1)) (v : Int) (u : Int) = K1 := ⟨_, rfl⟩
      have HK1 := Lib.hid hK1
      rw [hK1] at HS1 HB2
      clear hK1
      go_wp2_with fail
      go_region_held3 (fun W => W.cell? ⟨w.heap.size, 2, none⟩ = some (.slice (some ⟨ab, ax, none⟩) nl cap) ∧ W.cell? ⟨mb, mx + i * 3, none⟩ = some (.int .i64 (p : Int)) ∧ W.cell? ⟨ab, ax + p * 4, none⟩ = some (.int .i64 x) ∧ W.cell? ⟨ab, ax + p * 4 + 1, none⟩ = some (.int .i64 y) ∧ W.cell? ⟨ab, ax + p * 4 + 2, none⟩ = some (.int .i64 c) ∧ W.cell? ⟨ab, ax + p * 4 + 3, none⟩ = some (.int .i64 tt)) (first | exact ⟨c2, d0, a0, a1, a2, a3⟩ | go_keep) (fail)
      have hnx := heap_alloc_new wr (.cells #[.int .i64 x, .int .i64 y, .int .i64 c, .int .i64 tt] 73)
      have hbl := (Below.refl _ wr).alloc (Nat.le_refl _) (.cells #[.int .i64 x, .int .i64 y, .int .i64 c, .int .i64 tt] 73)
      have n0 : (wr.alloc (.cells #[.int .i64 x, .int .i64 y, .int .i64 c, .int .i64 tt] 73)).drew.cell? ⟨wr.heap.size, 0, none⟩ = some (.int .i64 x) := cell_whole hnx 0
      have n1 : (wr.alloc (.cells #[.int .i64 x, .int .i64 y, .int .i64 c, .int .i64 tt] 73)).drew.cell? ⟨wr.heap.size, 1, none⟩ = some (.int .i64 y) := cell_whole hnx 1
      have n3 : (wr.alloc (.cells #[.int .i64 x, .int .i64 y, .int .i64 c, .int .i64 tt] 73)).drew.cell? ⟨wr.heap.size, 3, none⟩ = some (.int .i64 tt) := cell_whole hnx 3
      have e1 : (wr.alloc (.cells #[.int .i64 x, .int .i64 y, .int .i64 c, .int .i64 tt] 73)).drew.cell? ⟨mb, mx + i * 3 + 1, none⟩ = some (.int .i64 ux) := cell_below' hbl d1 hmb
      have e2 : (wr.alloc (.cells #[.int .i64 x, .int .i64 y, .int .i64 c, .int .i64 tt] 73)).drew.cell? ⟨mb, mx + i * 3 + 2, none⟩ = some (.int .i64 kx) := cell_below' hbl d2 hmb
      have HWX := Lib.hid (HWR.out.trans ((below_drew hbl).mono HWR.out.size))
      clear hnx hbl d0 d1 d2 a0 a1 a2 a3 c2 hbn
      generalize (wr.alloc (.cells #[.int .i64 x, .int .i64 y, .int .i64 c, .int .i64 tt] 73)).drew = wx at *
      have hw1 : IntKind.i64.wrap (ux + tt) = ux + tt := IntWalk.i64_in _ (by omega)
      have hw2 : IntKind.i64.wrap (K0 + kx) = K0 + kx := IntWalk.i64_in _ (by omega)
      have hw3 : IntKind.i64.wrap (K0 - kx) = K0 - kx := IntWalk.i64_in _ (by omega)
      have hw4 : IntKind.i64.wrap (K0 + kx - kx) = K0 + kx - kx := IntWalk.i64_in _ (by omega)
      have hA : ((y == (v : Int)) = false ∧ ¬ (y = (v : Int) ∧ ux + tt ≤ (u : Int))) ∨ ((y == (v : Int)) = true ∧ (decide (ux + tt ≤ (u : Int)) = false ∧ ¬ (y = (v : Int) ∧ ux + tt ≤ (u : Int)))) ∨ ((y == (v : Int)) = true ∧ (decide (ux + tt ≤ (u : Int)) = true ∧ (y = (v : Int) ∧ ux + tt ≤ (u : Int)))) := by
        by_cases c1 : y = (v : Int)
        · by_cases c2 : ux + tt ≤ (u : Int)
          · exact .inr (.inr ⟨by rw [beq_iff_eq]; exact c1, decide_eq_true c2, c1, c2⟩)
          · exact .inr (.inl ⟨by rw [beq_iff_eq]; exact c1, decide_eq_false c2, fun e => c2 e.2⟩)
        · exact .inl ⟨by rw [beq_eq_false_iff_ne]; exact c1, fun e => c1 e.1⟩
      have hB : ((x == (v : Int)) = false ∧ ¬ (x = (v : Int) ∧ ux ≤ (u : Int))) ∨ ((x == (v : Int)) = true ∧ (decide (ux ≤ (u : Int)) = false ∧ ¬ (x = (v : Int) ∧ ux ≤ (u : Int)))) ∨ ((x == (v : Int)) = true ∧ (decide (ux ≤ (u : Int)) = true ∧ (x = (v : Int) ∧ ux ≤ (u : Int)))) := by
        by_cases c1 : x = (v : Int)
        · by_cases c2 : ux ≤ (u : Int)
          · exact .inr (.inr ⟨by rw [beq_iff_eq]; exact c1, decide_eq_true c2, c1, c2⟩)
          · exact .inr (.inl ⟨by rw [beq_iff_eq]; exact c1, decide_eq_false c2, fun e => c2 e.2⟩)
        · exact .inl ⟨by rw [beq_eq_false_iff_ne]; exact c1, fun e => c1 e.1⟩
      rcases hA with ⟨hA1, hA3⟩ | ⟨hA1, hA2, hA3⟩ | ⟨hA1, hA2, hA3⟩ <;> rcases hB with ⟨hB1, hB3⟩ | ⟨hB1, hB2, hB3⟩ | ⟨hB1, hB2, hB3⟩
      all_goals
        have HE : Hid (K1 = (K0 + if y = (v : Int) ∧ ux + tt ≤ (u : Int) then kx else 0) - if x = (v : Int) ∧ ux ≤ (u : Int) then kx else 0) := HS1
        have HA3 := Lib.hid hA3
        have HB3 := Lib.hid hB3
        clear hA3 hB3 HS1
        go_wp2
        go_quiet (fail)
        go_wp2
        have HWQ := Lib.hid (below_drewN HWX.out nq)
        go_roundw
        case rel =>
          refine ⟨i + 1, by omega, by go_num, vi ?_, HWQ⟩
          rw [HK1.out, HE.out]
          first
            | (rw [if_pos HA3.out, if_pos HB3.out]; omega)
            | (rw [if_pos HA3.out, if_neg HB3.out]; omega)
            | (rw [if_neg HA3.out, if_pos HB3.out]; omega)
            | (rw [if_neg HA3.out, if_neg HB3.out]; omega)
        case measure => simp [intOf]; omega
    · have hli : ¬ (i : Int) < (ml : Int) := by omega
      obtain rfl : ml = i := by omega
      have HT : Hid (M.take ml = M) := Lib.hid (List.take_of_length_le (by rw [HML.out]; exact Nat.le_refl _))
      rw [HT.out]
      go_wp2
      go_ret
      exact ⟨rfl, HB.out.trans (HWR.out.mono HB.out.size)⟩
end
end Go.Proofs.Ytlkbohpnlbfopaa
namespace Go.Proofs.Ytlkbohpnlbfopaa
open Go.RowKit
set_option linter.unusedVariables false
def rowT (Z : List ArcT) (L : List MoveT) (N u : Nat) : List Int := (List.range N).map fun v => stkN Z L u v
theorem rowT_len (Z : List ArcT) (L : List MoveT) (N u : Nat) : (rowT Z L N u).length = N := by simp [rowT]
section
variable (b : Bool) (ao : Option Addr) (cap nl : Nat) (Z : List ArcT) (N i j hh : Nat) (lo : Option Addr) (lc ll : Nat) (L : List MoveT)
end
end Go.Proofs.Ytlkbohpnlbfopaa
namespace Go.Proofs.Ytlkbohpnlbfopaa
open Go.RowKit
set_option linter.unusedVariables false
section
variable (n : Int) (b : Bool) (ao : Option Addr) (cap nl : Nat) (Z : List ArcT) (s t H : Int) (lo : Option Addr) (lc ll : Nat) (L : List MoveT)
theorem rmerged_any (w : World) (h : Row encA 4 w ao Z) (hz : Z.length ≤ 4398046511104) (hl : Row encK 3 w lo L) (hok : ∀ x ∈ L, okK x) (hn : L.length ≤ 200) :
    Calls Try.prog 42 #[.agg #[.int .i64 n, .bool b, .slice ao Z.length cap], .int .i64 s, .int .i64 t, .int .i64 H, .slice lo L.length lc] w (MrgRes n Z s t H L w) := by
  by_cases he : askE n Z s t H = 0
  · exact rmerged_ok n b ao cap Z s t H lo lc Z.length L w h hl hok hn rfl he
  · exact rmerged_no n b ao cap Z s t H lo lc L w h (by unfold maxLen; omega) he
theorem rmerged_bad (e0 : Int) (w : World) (h : Row encA 4 w ao Z) (hz : Z.length ≤ 4398046511104) (hl : Row encK 3 w lo L) (hok : ∀ x ∈ L, okK x) (hn : L.length ≤ 200) (hnl : Z.length = nl) (hll : L.length = ll) (he : mvE n Z s t H L = e0) (h0 : e0 ≠ 0) :
    Calls Try.prog 42 #[.agg #[.int .i64 n, .bool b, .slice ao nl cap], .int .i64 s, .int .i64 t, .int .i64 H, .slice lo ll lc] w fun e w' => e = .returned (.tuple #[.slice none 0 0, .int .i64 e0]) ∧ Below w.heap.size w w' := by
  subst hnl hll
  refine (rmerged_any n b ao cap Z s t H lo lc L w h hz hl hok hn).mono ?_
  rintro e w' (⟨h1, _⟩ | ⟨_, h2, h3⟩)
  · exact absurd (he ▸ h1) h0
  · rw [he] at h2; exact ⟨h2, h3⟩
theorem rmerged_good (w : World) (h : Row encA 4 w ao Z) (hz : Z.length ≤ 4398046511104) (hl : Row encK 3 w lo L) (hok : ∀ x ∈ L, okK x) (hn : L.length ≤ 200) (hnl : Z.length = nl) (hll : L.length = ll) (he : mvE n Z s t H L = 0) :
    Calls Try.prog 42 #[.agg #[.int .i64 n, .bool b, .slice ao nl cap], .int .i64 s, .int .i64 t, .int .i64 H, .slice lo ll lc] w fun e w' => ∃ (mo : Option Addr) (mc ml : Nat) (M : List MoveT), e = .returned (.tuple #[.slice mo ml mc, .int .i64 0]) ∧ M.length = ml ∧ Row encK 3 w' mo M ∧ M.Perm (mvs L) ∧ Below w.heap.size w w' := by
  subst hnl hll
  refine (rmerged_any n b ao cap Z s t H lo lc L w h hz hl hok hn).mono ?_
  rintro e w' (⟨_, mo, mc, M, h2, h3, h4, h5⟩ | ⟨h1, _⟩)
  · exact ⟨mo, mc, M.length, M, h2, rfl, h3, h4, h5⟩
  · exact absurd he h1
set_option maxRecDepth 100000 in
set_option maxHeartbeats 4000000 in
theorem rstocks_bad (e0 : Int) (w : World) (h : Row encA 4 w ao Z) (hz : Z.length ≤ 4398046511104) (hl : Row encK 3 w lo L) (hok : ∀ x ∈ L, okK x) (hn : L.length ≤ 200) (hnl : Z.length = nl) (hll : L.length = ll) (he : mvE n Z s t H L = e0) (h0 : e0 ≠ 0) :
    Calls Try.prog 27 #[.agg #[.int .i64 n, .bool b, .slice ao nl cap], .int .i64 s, .int .i64 t, .int .i64 H, .slice lo ll lc] w fun e w' => e = .returned (.tuple #[.slice none 0 0, .int .i64 e0]) ∧ Below w.heap.size w w' := by
  have hb00 := (Below.refl _ w).alloc (Nat.le_refl _) (.cells #[.int .i64 n, .bool b, .slice ao nl cap] 24)
  have hn00 := heap_alloc_new w (.cells #[.int .i64 n, .bool b, .slice ao nl cap] 24)
  have HB := Lib.hid hb00
  have c0 := cell_whole hn00 0
  have c1 := cell_whole hn00 1
  have c2 := cell_whole hn00 2
  have hf1 : (e0 != 0) = true := by simpa using h0
  have hf2 : (e0 == 0) = false := by simpa using h0
  have HCALL := Lib.hid (rmerged_bad n b ao cap nl Z s t H lo lc ll L e0 _ (h.below' hb00) hz (hl.below' hb00) hok hn hnl hll he h0)
  clear h hb00 hn00 hz hl hok hnl hll he h0
  go_enter Try.func27, Try.ntmps27
  go_wp2_with (go_at_call 42; refine HCALL.out.mono ?_; rintro e w2 ⟨rfl, hb2⟩; have HB2 := Lib.hid (HB.out.trans (hb2.mono HB.out.size)); clear hb2)
  go_ret2
  exact ⟨rfl, HB2.out⟩
end
section
variable (b : Bool) (ao : Option Addr) (cap nl : Nat) (Z : List ArcT) (N i j hh : Nat) (lo : Option Addr) (lc ll : Nat) (L : List MoveT)
set_option maxRecDepth 100000 in
set_option maxHeartbeats 8000000 in
theorem rstocks_good (w : World) (h : Row encA 4 w ao Z) (hz : Z.length ≤ 4398046511104) (hl : Row encK 3 w lo L) (hok : ∀ x ∈ L, okK x) (hn : L.length ≤ 200) (hnl : Z.length = nl) (hll : L.length = ll) (he : mvE (N : Int) Z (i : Int) (j : Int) (hh : Int) L = 0) :
    Calls Try.prog 27 #[.agg #[.int .i64 (N : Int), .bool b, .slice ao nl cap], .int .i64 (i : Int), .int .i64 (j : Int), .int .i64 (hh : Int), .slice lo ll lc] w fun e w' => ∃ aa ac, e = .returned (.tuple #[.slice aa (hh + 1) ac, .int .i64 0]) ∧ IRow w' aa ((List.range (hh + 1)).map fun u => rowT Z L N u) ∧ Below w.heap.size w w' := by
  have hb00 := (Below.refl _ w).alloc (Nat.le_refl _) (.cells #[.int .i64 (N : Int), .bool b, .slice ao nl cap] 24)
  have hn00 := heap_alloc_new w (.cells #[.int .i64 (N : Int), .bool b, .slice ao nl cap] 24)
  have HB := Lib.hid hb00
  have HNB := Lib.hid hn00
  have HR := Lib.hid (h.below' hb00)
  have c0 := cell_whole hn00 0
  have c1 := cell_whole hn00 1
  have c2 := cell_whole hn00 2
  have HNL := Lib.hid hnl
  obtain ⟨⟨hiN, hjN, hij⟩, hW, hH, hM⟩ := good_net Z N i j hh L he
  have hN50 := hW.nodes
  have HW := Lib.hid hW
  have HM := Lib.hid hM
  have HCALL := Lib.hid (rmerged_good (N : Int) b ao cap nl Z (i : Int) (j : Int) (hh : Int) lo lc ll L _ (h.below' hb00) hz (hl.below' hb00) hok hn hnl hll he)
  obtain ⟨n1, hn1⟩ : ∃ n1, n1 = hh + 1 := ⟨_, rfl⟩
  have HN1 := Lib.hid hn1
  rw [← hn1]
  clear h hb00 hn00 hz hl hok hnl hll he hW hM hn1
  go_enter Try.func27, Try.ntmps27
  go_wp2_with (go_at_call 42; refine HCALL.out.mono ?_; rintro e w2 ⟨mo, mc, ml, M, rfl, hml, hrow, hperm, hb2⟩; have HML := Lib.hid hml; have HROW := Lib.hid hrow; have HMP := Lib.hid hperm; have HB2 := Lib.hid (HB.out.trans (hb2.mono HB.out.size)); have HN2 := Lib.hid (kept_box HNB.out hb2); have HR2 := Lib.hid (HR.out.below' hb2); clear hb2 hml hrow hperm)
  have hm2 : ml ≤ 200 := by rw [← HML.out, HMP.out.length_eq]; exact Nat.le_trans (mvs_len L) hn
  have HOM : Hid (∀ x ∈ M, okM Z (i : Int) (j : Int) (hh : Int) x = true) := Lib.hid (fun x hx => HM.out x (HMP.out.mem_iff.1 hx))
  clear HCALL c0 c1 c2
  go_loopw [14, 15] (fun ov iv wr => ∃ u : Nat, u ≤ hh + 1 ∧ iv = .int .i64 (u : Int) ∧ Hid (RIw w2 wr ov ((List.range u).map fun u => rowT Z L N u)) ∧ Hid (Below w2.heap.size w2 wr)) (fun _ iv _ => hh + 1 - (intOf iv).toNat)
  case atStart => exact ⟨0, Nat.zero_le _, rfl, Lib.hid ⟨[], OwnL.nil _ _ _, rfl, fun i hi => absurd hi (by simp)⟩, Lib.hid (Below.refl _ _)⟩
  case round =>
    obtain ⟨u, hu, rfl, HRI, HWR⟩ := hrel
    by_cases hlt : u < hh + 1
    · have hli : (u : Int) ≤ (hh : Int) := by omega
      obtain ⟨wo, hwo⟩ : ∃ wo, wo = wr := ⟨_, rfl⟩
      subst hwo
      go_wp2_with fail
      go_loopw [16, 17] (fun rv jv wz => ∃ v : Nat, v ≤ N ∧ jv = .int .i64 (v : Int) ∧ Hid (OwnL encI wz wo.heap.size 3 rv ((List.range v).map fun v => stkN Z L u v)) ∧ Hid (Below wo.heap.size wo wz)) (fun _ jv _ => N - (intOf jv).toNat)
      case atStart => exact ⟨0, Nat.zero_le _, rfl, Lib.hid (OwnL.nil _ _ _), Lib.hid (Below.refl _ _)⟩
      case round =>
        obtain ⟨v, hv, rfl, HO, HWZ⟩ := hrel
        have HB2Z := Lib.hid (HWR.out.trans (HWZ.out.mono HWR.out.size))
        have hbn := kept_box HN2.out HB2Z.out
        have c0 := cell_whole hbn 0
        have c1 := cell_whole hbn 1
        have c2 := cell_whole hbn 2
        by_cases hlv : v < N
        · have hlj : (v : Int) < (N : Int) := by omega
          have HRZ := Lib.hid (HR2.out.below' HB2Z.out)
          have HMZ := Lib.hid (HROW.out.below' HB2Z.out)
          have HSK : Hid (stk Z M (v : Int) (u : Int) = stkN Z L u v) := Lib.hid (stk_of HMP.out (v : Int) (u : Int))
          have HST := Lib.hid (range_step (fun v => stkN Z L u v) v)
          have HAL := Lib.hid (range_lenM (fun v => stkN Z L u v) v)
          obtain ⟨x, hx⟩ : ∃ x, stkN Z L u v = x := ⟨_, rfl⟩
          rw [hx] at HST HSK
          have HX := Lib.hid hx
          generalize (List.range v).map (fun v => stkN Z L u v) = A at *
          clear hx hbn
          go_wp2_with (first
            | (go_at_call 43; refine (rstock14_any (N : Int) b ao nl cap Z (i : Int) (j : Int) hh N mo mc ml M v u _ HRZ.out HNL.out HMZ.out HML.out hm2 HW.out hH HOM.out).mono ?_; rw [HSK.out]; rintro e w5 ⟨rfl, hb5⟩; have HB5 := Lib.hid (HWZ.out.trans (hb5.mono HWZ.out.size)); have HO5 := Lib.hid (HO.out.below hb5); clear hb5)
            | (at_builtin; refine wpList_append_one Try.underlying65 infoInt rfl (by omega) rfl _ _ rfl wo.heap.size _ A x rfl rfl (HO5.out.alloc _) _ 1 rfl (cell_new' (by simp) _ _ 0) (by have := HAL.out; omega) (by have h1 := HB5.out.size; simp; omega) ?_; intro ga ca w8 ho hg hl8 hb8 hlt8; have HO8 := Lib.hid ho; have HG8 := Lib.hid hg; clear ho hg hl8 hb8 hlt8))
          go_roundw
          case rel => exact ⟨v + 1, by omega, by go_num, by rw [HST.out]; exact HO8, Lib.hid (below_grown (HB5.out.alloc HB5.out.size _) (by have h1 := HB5.out.size; simp; omega) HG8.out (fun k e => own_block HO5.out e))⟩
          case measure => simp [intOf]; omega
        · have hlj : ¬ (v : Int) < (N : Int) := by omega
          obtain rfl : v = N := by omega
          have hri := HRI.out.below HWZ.out
          have HRL := Lib.hid hri.lt
          have HRLO := Lib.hid HRI.out.lt
          have HST := Lib.hid (range_step (fun u => rowT Z L v u) u)
          have HAL := Lib.hid (range_lenM (fun u => rowT Z L v u) u)
          generalize (List.range u).map (fun u => rowT Z L v u) = A at *
          obtain ⟨vs, ho8, hv2, hv3⟩ := hri
          have HV := Lib.hid (And.intro hv2 hv3)
          have hvN : vs.length ≤ 200000 := by have := HAL.out; omega
          obtain ⟨la, lc8, hrv, hls⟩ := HO.out.lst
          rw [range_lenM] at hrv
          subst hrv
          have HLS : Hid (Lst encI wr la (rowT Z L v u)) := Lib.hid hls
          have HBL : Hid (∀ ad, la = some ad → wo.heap.size ≤ ad.block) := Lib.hid (fun ad e => by subst e; exact own_block HO.out rfl)
          have HO8 := Lib.hid (ho8.alloc (.cells #[.slice la v lc8] 65))
          clear ho8 hv2 hv3 hls hbn
          go_wp2_with (at_builtin; refine wpList_append_one (enc := encV) Try.underlying74 infoInts rfl (by omega) rfl _ _ rfl w2.heap.size _ vs (.slice la v lc8) rfl rfl HO8.out _ 1 rfl (cell_new' (by simp) _ _ 0) hvN (by have h1 := HB2Z.out.size; simp; omega) ?_; intro g4 cap4 w9 ho9 hg9 hl9 hb9 hlt9; have HO9 := Lib.hid ho9; have HG9 := Lib.hid hg9; have HL9 := Lib.hid hl9; clear ho9 hg9 hl9 hb9 hlt9)
          have ba := (Below.refl wr.heap.size wr).alloc (Nat.le_refl _) (.cells #[.slice la v lc8] 65)
          have HQ : Hid (RIw w2 w9 (.slice (some ⟨g4, 0, none⟩) (vs.length + 1) cap4) ((List.range (u + 1)).map fun u => rowT Z L v u)) := Lib.hid (by
            rw [HST.out]
            have hrl := rowT_len Z L v u
            refine RIw.push (w := wr.alloc (.cells #[.slice la v lc8] 65)) (c := lc8) (a := la) (g := rowT Z L v u) HV.out.1 (fun i hi => ?_) (HLS.out.below ba) (fun ad e h0 e2 => ?_) (by rw [hrl]; exact HO9.out) HG9.out HL9.out
            · obtain ⟨ao', c', q1, q2, q3⟩ := HV.out.2 i hi
              exact ⟨ao', c', q1, q2.below ba, q3⟩
            · have q1 := HBL.out ad e
              have q2 := HRLO.out _ e2.symm
              omega)
          have HWQ : Hid (Below w2.heap.size w2 w9) := Lib.hid (by
            have h1 := HB2Z.out.size
            exact below_grown (HB2Z.out.alloc h1 _) (by simp; omega) HG9.out (fun k e => own_block HO8.out e))
          go_roundw
          case rel => exact ⟨u + 1, by omega, by go_num, HQ, HWQ⟩
          case measure => simp [intOf]; omega
    · have hli : ¬ (u : Int) ≤ (hh : Int) := by omega
      obtain rfl : u = hh + 1 := by omega
      obtain ⟨aa, ac, hv, hls⟩ := HRI.out.row
      rw [range_lenM, ← HN1.out] at hv
      rw [← HN1.out] at hls
      subst hv
      have HLS := Lib.hid hls
      clear hls
      go_wp2
      go_ret2
      exact ⟨aa, ⟨ac, rfl⟩, HLS.out, HB2.out.trans (HWR.out.mono HB2.out.size)⟩
end
end Go.Proofs.Ytlkbohpnlbfopaa
namespace Go.Proofs.Ytlkbohpnlbfopaa
open Go.RowKit
set_option linter.unusedVariables false
theorem irow_num {w : World} {ga : Option Addr} {G : List (List Int)} (h : IRow w ga G) {i v : Nat} {g : List Int} {x : Int} (hg : G[i]? = some g) (hv : g[v]? = some x) : ∃ b o a c q ad, ga = some ⟨b, o, none⟩ ∧ w.cell? ⟨b, o + i, none⟩ = some (.slice (some ⟨a, c, none⟩) q ad) ∧ q = g.length ∧ w.cell? ⟨a, c + v, none⟩ = some (.int .i64 x) := by
  obtain ⟨b, o, ao, cap, e, hb, hc, hl⟩ := irow_at h hg
  obtain ⟨a, c, e2, _, hx⟩ := lst_cell hl hv
  subst e2
  exact ⟨b, o, a, c, _, cap, e, hc, rfl, hx⟩
section
variable (n : Int) (b : Bool) (ao : Option Addr) (cap nl : Nat) (Z : List ArcT) (s t H : Int) (lo : Option Addr) (lc ll : Nat) (L : List MoveT)
set_option maxRecDepth 100000 in
set_option maxHeartbeats 4000000 in
theorem rchk_bad (e0 : Int) (w : World) (h : Row encA 4 w ao Z) (hz : Z.length ≤ 4398046511104) (hl : Row encK 3 w lo L) (hok : ∀ x ∈ L, okK x) (hn : L.length ≤ 200) (hnl : Z.length = nl) (hll : L.length = ll) (he : mvE n Z s t H L = e0) (h0 : e0 ≠ 0) :
    Calls Try.prog 13 #[.agg #[.int .i64 n, .bool b, .slice ao nl cap], .int .i64 s, .int .i64 t, .int .i64 H, .slice lo ll lc] w fun e w' => e = .returned (.tuple #[.int .i64 0, .int .i64 e0]) ∧ Below w.heap.size w w' := by
  have hb00 := (Below.refl _ w).alloc (Nat.le_refl _) (.cells #[.int .i64 n, .bool b, .slice ao nl cap] 24)
  have hn00 := heap_alloc_new w (.cells #[.int .i64 n, .bool b, .slice ao nl cap] 24)
  have HB := Lib.hid hb00
  have c0 := cell_whole hn00 0
  have c1 := cell_whole hn00 1
  have c2 := cell_whole hn00 2
  have hf1 : (e0 != 0) = true := by simpa using h0
  have hf2 : (e0 == 0) = false := by simpa using h0
  have HCALL := Lib.hid (rstocks_bad n b ao cap nl Z s t H lo lc ll L e0 _ (h.below' hb00) hz (hl.below' hb00) hok hn hnl hll he h0)
  clear h hb00 hn00 hz hl hok hnl hll he h0
  go_enter Try.func13, Try.ntmps13
  go_wp2_with (go_at_call 27; refine HCALL.out.mono ?_; rintro e w2 ⟨rfl, hb2⟩; have HB2 := Lib.hid (HB.out.trans (hb2.mono HB.out.size)); clear hb2)
  go_ret2
  exact ⟨rfl, HB2.out⟩
end
section
variable (b : Bool) (ao : Option Addr) (cap nl : Nat) (Z : List ArcT) (N i j hh : Nat) (lo : Option Addr) (lc ll : Nat) (L : List MoveT)
set_option maxRecDepth 100000 in
set_option maxHeartbeats 8000000 in
theorem rchk_good (w : World) (h : Row encA 4 w ao Z) (hz : Z.length ≤ 4398046511104) (hl : Row encK 3 w lo L) (hok : ∀ x ∈ L, okK x) (hn : L.length ≤ 200) (hnl : Z.length = nl) (hll : L.length = ll) (he : mvE (N : Int) Z (i : Int) (j : Int) (hh : Int) L = 0) :
    Calls Try.prog 13 #[.agg #[.int .i64 (N : Int), .bool b, .slice ao nl cap], .int .i64 (i : Int), .int .i64 (j : Int), .int .i64 (hh : Int), .slice lo ll lc] w fun e w' => e = .returned (.tuple #[.int .i64 (plnV (N : Int) Z (i : Int) (j : Int) (hh : Int) b L), .int .i64 (plnE (N : Int) Z (i : Int) (j : Int) (hh : Int) b L)]) ∧ Below w.heap.size w w' := by
  have hb00 := (Below.refl _ w).alloc (Nat.le_refl _) (.cells #[.int .i64 (N : Int), .bool b, .slice ao nl cap] 24)
  have hn00 := heap_alloc_new w (.cells #[.int .i64 (N : Int), .bool b, .slice ao nl cap] 24)
  have HB := Lib.hid hb00
  have HNB := Lib.hid hn00
  have c0 := cell_whole hn00 0
  have c1 := cell_whole hn00 1
  have c2 := cell_whole hn00 2
  obtain ⟨⟨hiN, hjN, hij⟩, hW, hH, hM⟩ := good_net Z N i j hh L he
  have hN50 := hW.nodes
  have HCALL := Lib.hid (rstocks_good b ao cap nl Z N i j hh lo lc ll L _ (h.below' hb00) hz (hl.below' hb00) hok hn hnl hll he)
  obtain ⟨r, hr⟩ : ∃ r, planB Z L N i j hh b = r := ⟨_, rfl⟩
  obtain ⟨MK, HMK⟩ : ∃ MK : Nat → Prop, Hid (∀ u, MK u ↔ (b = true ∧ u < hh)) := ⟨_, Lib.hid (fun u => Iff.rfl)⟩
  have HYES : Hid ((∀ v, v < N → v ≠ i → v ≠ j → ∀ u, u ≤ hh → 0 ≤ stkN Z L u v ∧ (stkN Z L u v = 0 ∨ MK u)) → r = true) := Lib.hid (fun h => by
    rw [← hr]
    exact planG_is.2 (fun u hu v hv hs ht => ⟨(h v hv hs ht u hu).1, (h v hv hs ht u hu).2.imp id (HMK.out u).1⟩))
  have HNO : Hid (∀ u, u ≤ hh → ∀ v, v < N → v ≠ i → v ≠ j → ¬ (0 ≤ stkN Z L u v ∧ (stkN Z L u v = 0 ∨ MK u)) → r = false) := Lib.hid (fun u hu v hv hs ht hn => by
    rw [← hr]
    cases hq : planB Z L N i j hh b with
    | false => rfl
    | true => exact absurd (planG_is.1 hq u hu v hv hs ht) (fun e => hn ⟨e.1, e.2.imp id (HMK.out u).2⟩))
  obtain ⟨P, HP⟩ : ∃ P : Nat → Prop, Hid (∀ v, P v ↔ (v ≠ i → v ≠ j → ∀ u, u ≤ hh → 0 ≤ stkN Z L u v ∧ (stkN Z L u v = 0 ∨ MK u))) := ⟨_, Lib.hid (fun v => Iff.rfl)⟩
  obtain ⟨Q, HQ⟩ : ∃ Q : Nat → Nat → Prop, Hid (∀ v u, Q v u ↔ (0 ≤ stkN Z L u v ∧ (stkN Z L u v = 0 ∨ MK u))) := ⟨_, Lib.hid (fun v u => Iff.rfl)⟩
  have HV0 : Hid (r = false → plnE (N : Int) Z (i : Int) (j : Int) (hh : Int) b L = 141 ∧ plnV (N : Int) Z (i : Int) (j : Int) (hh : Int) b L = 0) := Lib.hid (fun e => by
    have h1 : plnE (N : Int) Z (i : Int) (j : Int) (hh : Int) b L = 141 := by rw [plnE_good he, hr, e]; rfl
    exact ⟨h1, plnV_is (by rw [h1]; decide)⟩)
  have HV1 : Hid (r = true → plnE (N : Int) Z (i : Int) (j : Int) (hh : Int) b L = 0 ∧ plnV (N : Int) Z (i : Int) (j : Int) (hh : Int) b L = stkN Z L hh j) := Lib.hid (fun e => by
    have h1 : plnE (N : Int) Z (i : Int) (j : Int) (hh : Int) b L = 0 := by rw [plnE_good he, hr, e]; rfl
    refine ⟨h1, ?_⟩
    unfold plnV
    rw [if_pos h1]
    rfl)
  generalize plnE (N : Int) Z (i : Int) (j : Int) (hh : Int) b L = pe at *
  generalize plnV (N : Int) Z (i : Int) (j : Int) (hh : Int) b L = pv at *
  clear h hb00 hn00 hz hl hok hnl hll he hW hM hr
  cases b
  all_goals
    go_enter Try.func13, Try.ntmps13
    go_wp2_with (go_at_call 27; refine HCALL.out.mono ?_; rintro e w2 ⟨aa, ac, rfl, hls, hb2⟩; have HLS := Lib.hid hls; have HB2 := Lib.hid (HB.out.trans (hb2.mono HB.out.size)); have HN2 := Lib.hid (kept_box HNB.out hb2); clear hb2 hls)
    have HGET : Hid (∀ u v, u < hh + 1 → v < N → ∃ g2 o2 a2 x2 q2 k2, aa = some ⟨g2, o2, none⟩ ∧ w2.cell? ⟨g2, o2 + u, none⟩ = some (.slice (some ⟨a2, x2, none⟩) q2 k2) ∧ q2 = N ∧ w2.cell? ⟨a2, x2 + v, none⟩ = some (.int .i64 (stkN Z L u v))) := Lib.hid (fun u v hu hv => by
      obtain ⟨g2, o2, a2, x2, q2, k2, e1, e2, e3, e4⟩ := irow_num HLS.out (i := u) (v := v) (g := rowT Z L N u) (x := stkN Z L u v) (by rw [List.getElem?_map, List.getElem?_range hu]; rfl) (by unfold rowT; rw [List.getElem?_map, List.getElem?_range hv]; rfl)
      exact ⟨g2, o2, a2, x2, q2, k2, e1, e2, by rw [e3, rowT_len], e4⟩)
    clear HCALL c0 c1 c2
    have hbn := HN2.out
    have c0 := cell_whole hbn 0
    have c1 := cell_whole hbn 1
    clear hbn
    go_loopw [14] (fun iv wr => ∃ v : Nat, v ≤ N ∧ iv = .int .i64 (v : Int) ∧ Hid (∀ x, x < v → P x) ∧ wr = w2) (fun iv _ => N - (intOf iv).toNat)
    case atStart => exact ⟨0, Nat.zero_le _, rfl, Lib.hid (fun x hx => absurd hx (by omega)), rfl⟩
    case round =>
      obtain ⟨v, hv, rfl, HPV, rfl⟩ := hrel
      by_cases hlv : v < N
      · have hlj : (v : Int) < (N : Int) := by omega
        have HPV2 : Hid (P v → ∀ x, x < v + 1 → P x) := Lib.hid (fun h x hx => by
          by_cases e : x = v
          · rw [e]; exact h
          · exact HPV.out x (by omega))
        go_wp2
        obtain ⟨wo, hwo⟩ : ∃ wo, wo = wr := ⟨_, rfl⟩
        subst hwo
        go_loopw [15] (fun iv wz => ∃ u : Nat, u ≤ hh + 1 ∧ iv = .int .i64 (u : Int) ∧ Hid (∀ x, x < u → Q v x) ∧ wz = wo) (fun iv _ => hh + 1 - (intOf iv).toNat)
        case atStart => exact ⟨0, Nat.zero_le _, rfl, Lib.hid (fun x hx => absurd hx (by omega)), rfl⟩
        case round =>
          obtain ⟨u, hu, rfl, HQU, rfl⟩ := hrel
          by_cases hlu : u < hh + 1
          · have hlu2 : (u : Int) ≤ (hh : Int) := by omega
            by_cases hvi : v = i
            · have q1 : ((v : Int) != (i : Int)) = false := by rw [bne_eq_false_iff_eq, hvi]
              have HPP := Lib.hid (HPV2.out ((HP.out v).2 (fun e => absurd hvi e)))
              clear hvi
              go_wp2
              go_roundw
              case rel => exact ⟨v + 1, by omega, by go_num, HPP, by first | rfl | trivial⟩
              case measure => simp [intOf]; omega
            · have q1 : ((v : Int) != (i : Int)) = true := by rw [bne_iff_ne]; omega
              by_cases hvj : v = j
              · have q2 : ((v : Int) != (j : Int)) = false := by rw [bne_eq_false_iff_eq, hvj]
                have HPP := Lib.hid (HPV2.out ((HP.out v).2 (fun _ e => absurd hvj e)))
                clear hvj hvi
                go_wp2
                go_roundw
                case rel => exact ⟨v + 1, by omega, by go_num, HPP, by first | rfl | trivial⟩
                case measure => simp [intOf]; omega
              · have q2 : ((v : Int) != (j : Int)) = true := by rw [bne_iff_ne]; omega
                obtain ⟨g2, o2, a2, x2, q3, k2, e1, e2, e3, e4⟩ := HGET.out u v hlu hlv
                subst e1
                rw [e3] at e2
                clear e3
                have HNK : Hid (¬ (0 ≤ stkN Z L u v ∧ (stkN Z L u v = 0 ∨ MK u)) → r = false) := Lib.hid (HNO.out u (by omega) v hlv hvi hvj)
                have HQ2 : Hid ((0 ≤ stkN Z L u v ∧ (stkN Z L u v = 0 ∨ MK u)) → ∀ x, x < u + 1 → Q v x) := Lib.hid (fun h x hx => by
                  by_cases e : x = u
                  · rw [e]; exact (HQ.out v u).2 h
                  · exact HQU.out x (by omega))
                have hui : (u : Int) < (hh : Int) + 1 := by omega
                generalize stkN Z L u v = y at *
                have HVI := Lib.hid hvi
                have HVJ := Lib.hid hvj
                clear hvi hvj
                rcases Int.lt_trichotomy y 0 with hy | hy | hy
                · have HR := Lib.hid (HV0.out (HNK.out (fun e => by omega)))
                  clear HQ2 HNK
                  go_wp2
                  go_ret2
                  exact ⟨by rw [HR.out.1, HR.out.2]; rfl, HB2.out⟩
                · have HQQ := Lib.hid (HQ2.out ⟨by omega, .inl hy⟩)
                  subst hy
                  clear HQ2 HNK
                  go_wp2
                  go_roundw
                  case rel => exact ⟨u + 1, by omega, by go_num, HQQ, by first | rfl | trivial⟩
                  case measure => simp [intOf]; omega
                · have hy2 : ¬ y < 0 := by omega
                  by_cases hm : MK u
                  · have HQQ := Lib.hid (HQ2.out ⟨by omega, .inr hm⟩)
                    have hm2 := ((HMK.out u).1 hm).2
                    have hm3 := ((HMK.out u).1 hm).1
                    have q5 : ((u : Int) == (hh : Int)) = false := by rw [beq_eq_false_iff_ne]; omega
                    clear HQ2 HNK hm
                    first
                      | exact False.elim hm3
                      | exact absurd hm3 (by decide)
                      | (go_wp2
                         go_roundw
                         case rel => exact ⟨u + 1, by omega, by go_num, HQQ, by first | rfl | trivial⟩
                         case measure => simp [intOf]; omega)
                  · have HR := Lib.hid (HV0.out (HNK.out (fun e => e.2.elim (fun e2 => by omega) hm)))
                    have q5 := fun e => (show ¬ u < hh from fun e2 : u < hh => hm ((HMK.out u).2 ⟨e, e2⟩))
                    clear HQ2 HNK hm
                    (first | (have q6 := q5 trivial) | (have q6 := q5 rfl) | skip)
                    clear q5
                    (first | (have q7 : ((u : Int) == (hh : Int)) = true := by rw [beq_iff_eq]; omega) | skip)
                    go_wp2
                    go_ret2
                    exact ⟨by rw [HR.out.1, HR.out.2]; rfl, HB2.out⟩
          · have hlu2 : ¬ (u : Int) ≤ (hh : Int) := by omega
            have HPP := Lib.hid (HPV2.out ((HP.out v).2 (fun _ _ x hx => (HQ.out v x).1 (HQU.out x (by omega)))))
            go_wp2
            go_roundw
            case rel => exact ⟨v + 1, by omega, by go_num, HPP, by first | rfl | trivial⟩
            case measure => simp [intOf]; omega
      · have hlj : ¬ (v : Int) < (N : Int) := by omega
        have HR := Lib.hid (HV1.out (HYES.out (fun x hx => (HP.out x).1 (HPV.out x (by omega)))))
        obtain ⟨g2, o2, a2, x2, q3, k2, e1, e2, e3, e4⟩ := HGET.out hh j (by omega) hjN
        subst e1
        rw [e3] at e2
        clear e3
        have hji : (j : Int) < (N : Int) := by omega
        go_wp2
        go_ret2
        exact ⟨by rw [HR.out.1, HR.out.2]; rfl, HB2.out⟩
end
end Go.Proofs.Ytlkbohpnlbfopaa
namespace Go.Proofs.Ytlkbohpnlbfopaa
open Go.RowKit
set_option linter.unusedVariables false
section
variable (n : Int) (b : Bool) (ao : Option Addr) (cap nl : Nat) (Z : List ArcT) (s t H : Int) (lo : Option Addr) (lc ll : Nat) (L : List MoveT)
theorem rchk14_any (w : World) (h : Row encA 4 w ao Z) (hz : Z.length ≤ 4398046511104) (hl : Row encK 3 w lo L) (hok : ∀ x ∈ L, okK x) (hn : L.length ≤ 200) (hnl : Z.length = nl) (hll : L.length = ll) :
    Calls Try.prog 13 #[.agg #[.int .i64 n, .bool b, .slice ao nl cap], .int .i64 s, .int .i64 t, .int .i64 H, .slice lo ll lc] w fun e w' => e = .returned (.tuple #[.int .i64 (plnV n Z s t H b L), .int .i64 (plnE n Z s t H b L)]) ∧ Below w.heap.size w w' := by
  by_cases he : mvE n Z s t H L = 0
  · obtain ⟨N, i, j, hh, rfl, rfl, rfl, rfl⟩ := good_nat he
    exact rchk_good b ao cap nl Z N i j hh lo lc ll L w h hz hl hok hn hnl hll he
  · rw [plnV_is (by rw [plnE_bad he]; exact he), plnE_bad he]
    exact rchk_bad n b ao cap nl Z s t H lo lc ll L _ w h hz hl hok hn hnl hll rfl he
end
end Go.Proofs.Ytlkbohpnlbfopaa
namespace Go.Proofs.Ytlkbohpnlbfopaa
open Go.RowKit
set_option linter.unusedVariables false
theorem IRow.nil (w : World) (ga : Option Addr) : IRow w ga [] := fun i hi => absurd hi (by simp)
section
variable (n : Int) (b : Bool) (ao : Option Addr) (cap nl : Nat) (Z : List ArcT) (s t H : Int) (lo : Option Addr) (lc ll : Nat) (L : List MoveT)
end
section
variable (b : Bool) (ao : Option Addr) (cap nl : Nat) (Z : List ArcT) (N i j hh : Nat) (lo : Option Addr) (lc ll : Nat) (L : List MoveT)
end
section
variable (n : Int) (b : Bool) (ao : Option Addr) (cap nl : Nat) (Z : List ArcT) (s t H : Int) (lo : Option Addr) (lc ll : Nat) (L : List MoveT)
end
end Go.Proofs.Ytlkbohpnlbfopaa
