/- The document's answer: whether a merged movement may be; what is merged. -/
import Derived.Test.YtedficnaipiplaaHFol
import Derived.Test.YtedficnaipiplaaGRef
import Derived.Test.YtedficnaipiplaaBT
namespace Go.Proofs.Ytedficnaipiplaa
open Go.RowKit
set_option linter.unusedVariables false

theorem rmoves_any (lo : Option Addr) (cap : Nat) (Z : List MoveT) (w : World) (h : Row encK 3 w lo Z) (hk : ∀ x ∈ Z, okK x) (hn : Z.length ≤ 200) : Calls Try.prog 22 #[.slice lo Z.length cap] w (MovesRes Z w) :=
  rmoves_from (fun ad c X W h1 h2 h3 => rmoves_some ad c X W h1 h2 h3) lo cap Z w h hk hn
section
variable (n : Int) (b : Bool) (ao : Option Addr) (nl cap : Nat) (Z : List ArcT) (s t H : Int)
set_option maxRecDepth 100000 in
set_option maxHeartbeats 4000000 in
theorem rmove14_any (i u k : Int) (w : World) (h : Row encA 4 w ao Z) (hl : Z.length = nl) (hnl : nl ≤ 200) (hH : 0 ≤ H ∧ H ≤ 1024) (hZ : ∀ a ∈ Z, 0 ≤ a.2.2.2 ∧ a.2.2.2 ≤ 1048576) :
    Calls Try.prog 37 #[.agg #[.int .i64 n, .bool b, .slice ao nl cap], .int .i64 s, .int .i64 t, .int .i64 H, .agg #[.int .i64 i, .int .i64 u, .int .i64 k]] w fun e w' => e = .returned (.bool (okM Z s t H (i, u, k))) ∧ Below w.heap.size w w' := by
  have hb00 := ((Below.refl _ w).alloc (Nat.le_refl _) (.cells #[.int .i64 n, .bool b, .slice ao nl cap] 24)).alloc (by simp) (.cells #[.int .i64 i, .int .i64 u, .int .i64 k] 51)
  have hx00 := alloc_whole (heap_alloc_new w (.cells #[.int .i64 n, .bool b, .slice ao nl cap] 24)) (.cells #[.int .i64 i, .int .i64 u, .int .i64 k] 51)
  have hm00 := new_whole1 w (.cells #[.int .i64 n, .bool b, .slice ao nl cap] 24) (.cells #[.int .i64 i, .int .i64 u, .int .i64 k] 51)
  have HB := Lib.hid hb00
  have HR := Lib.hid (h.below' hb00)
  have c2 := cell_whole hx00 2
  have m0 := cell_whole hm00 0
  have m1 := cell_whole hm00 1
  have m2 := cell_whole hm00 2
  have HZ := Lib.hid hZ
  have HLN := Lib.hid hl
  obtain ⟨hH0, hH1⟩ := hH
  clear h hb00 hx00 hm00 hZ
  have hok : okM Z s t H (i, u, k) = false ∨ (0 ≤ i ∧ i < (nl : Int)) := by
    by_cases h0 : 0 ≤ i ∧ i < (nl : Int)
    · exact .inr h0
    · exact .inl (okM_no (fun e => h0 ⟨e.1, by rw [← hl]; exact e.2.1⟩))
  by_cases hi0 : i < 0
  · have HO : Hid (okM Z s t H (i, u, k) = false) := Lib.hid (hok.resolve_right (fun e => by omega))
    rw [HO.out]
    clear hok hl
    go_enter Try.func37, Try.ntmps37
    go_wp2
    go_ret
    exact ⟨rfl, HB.out⟩
  · by_cases hi1 : (nl : Int) ≤ i
    · have HO : Hid (okM Z s t H (i, u, k) = false) := Lib.hid (hok.resolve_right (fun e => by omega))
      rw [HO.out]
      clear hok hl
      go_enter Try.func37, Try.ntmps37
      go_wp2
      go_ret
      exact ⟨rfl, HB.out⟩
    · obtain ⟨p, rfl⟩ : ∃ p : Nat, i = (p : Int) := ⟨i.toNat, by omega⟩
      have hp : p < Z.length := by omega
      have hpi : (p : Int) < (nl : Int) := by omega
      obtain ⟨ab, ax, e, hab, d0, d1, d2, d3⟩ := arc_at HR.out (List.getElem?_eq_getElem hp)
      cases e
      obtain ⟨z1, z2⟩ := HZ.out _ (List.getElem_mem hp)
      have HOK : Hid (okM Z s t H ((p : Int), u, k) = decide (0 ≤ u ∧ u ≤ H - Z[p].2.2.2 ∧ 0 ≤ k ∧ k ≤ Z[p].2.2.1 ∧ Z[p].2.1 ≠ s ∧ Z[p].1 ≠ t)) := Lib.hid (by
        unfold okM
        rw [decide_eq_decide]
        show (0 ≤ (p : Int) ∧ (p : Int) < (Z.length : Int) ∧ 0 ≤ u ∧ u + (arcI Z (p : Int)).2.2.2 ≤ H ∧ 0 ≤ k ∧ k ≤ (arcI Z (p : Int)).2.2.1 ∧ (arcI Z (p : Int)).2.1 ≠ s ∧ (arcI Z (p : Int)).1 ≠ t) ↔ _
        rw [arcI_at hp]
        constructor
        · rintro ⟨_, _, h3, h4, h5, h6, h7, h8⟩; exact ⟨h3, by omega, h5, h6, h7, h8⟩
        · rintro ⟨h3, h4, h5, h6, h7, h8⟩; exact ⟨by omega, by omega, h3, by omega, h5, h6, h7, h8⟩)
      obtain ⟨q, hq⟩ : ∃ q, okM Z s t H ((p : Int), u, k) = q := ⟨_, rfl⟩
      rw [hq]
      generalize Z[p] = a at *
      obtain ⟨x, y, c, tt⟩ := a
      have HQ : Hid (q = decide (0 ≤ u ∧ u ≤ H - tt ∧ 0 ≤ k ∧ k ≤ c ∧ y ≠ s ∧ x ≠ t)) := Lib.hid (hq ▸ HOK.out)
      simp only at d0 d1 d2 d3 z1 z2 ⊢
      clear HOK hok hl hp hq
      by_cases hu0 : u < 0
      · have HF : Hid (q = false) := Lib.hid (by rw [HQ.out, decide_eq_false_iff_not]; omega)
        go_enter Try.func37, Try.ntmps37
        go_wp2
        go_ret
        exact ⟨ret_bool HF.out.symm, HB.out⟩
      · by_cases hu1 : u > H
        · have HF : Hid (q = false) := Lib.hid (by rw [HQ.out, decide_eq_false_iff_not]; omega)
          go_enter Try.func37, Try.ntmps37
          go_wp2
          go_ret
          exact ⟨ret_bool HF.out.symm, HB.out⟩
        · have hw : IntKind.i64.wrap (u + tt) = u + tt := IntWalk.i64_in _ (by omega)
          go_enter Try.func37, Try.ntmps37
          go_wp2
          all_goals
            go_ret
            refine ⟨ret_bool ?_, HB.out.alloc (by simp; omega) _⟩
            rw [HQ.out]
            first
              | (rw [eq_comm, decide_eq_false_iff_not]; omega)
              | (rw [Bool.eq_iff_iff, decide_eq_true_eq, Bool.and_eq_true, bne_iff_ne, bne_iff_ne]; omega)
/-- What Merged tells. -/
def MrgRes (n : Int) (Z : List ArcT) (s t H : Int) (L : List MoveT) (w : World) (e : Ending) (w' : World) : Prop :=
  (mvE n Z s t H L = 0 ∧ ∃ (mo : Option Addr) (mc : Nat) (M : List MoveT), e = .returned (.tuple #[.slice mo M.length mc, .int .i64 0]) ∧ Row encK 3 w' mo M ∧ M.Perm (mvs L) ∧ Below w.heap.size w w') ∨
    (mvE n Z s t H L ≠ 0 ∧ e = .returned (.tuple #[.slice none 0 0, .int .i64 (mvE n Z s t H L)]) ∧ Below w.heap.size w w')
set_option maxRecDepth 100000 in
set_option maxHeartbeats 4000000 in
theorem rmerged_no (lo : Option Addr) (lc : Nat) (L : List MoveT) (w : World) (h : Row encA 4 w ao Z) (hz : Z.length ≤ maxLen) (he : askE n Z s t H ≠ 0) :
    Calls Try.prog 27 #[.agg #[.int .i64 n, .bool b, .slice ao Z.length cap], .int .i64 s, .int .i64 t, .int .i64 H, .slice lo L.length lc] w (MrgRes n Z s t H L w) := by
  have hb00 := (Below.refl _ w).alloc (Nat.le_refl _) (.cells #[.int .i64 n, .bool b, .slice ao Z.length cap] 24)
  have hn00 := heap_alloc_new w (.cells #[.int .i64 n, .bool b, .slice ao Z.length cap] 24)
  have HB := Lib.hid hb00
  have HR := Lib.hid (h.below' hb00)
  have c0 := cell_whole hn00 0
  have c1 := cell_whole hn00 1
  have c2 := cell_whole hn00 2
  have HME : Hid (mvE n Z s t H L = askE n Z s t H) := Lib.hid (mvE_ask he)
  obtain ⟨e0, he0⟩ : ∃ e0, askE n Z s t H = e0 := ⟨_, rfl⟩
  have HE := Lib.hid he0
  rw [he0] at he
  have HN0 := Lib.hid he
  have hf1 : (e0 != 0) = true := by simpa using he
  have hf2 : (e0 == 0) = false := by simpa using he
  have HZ := Lib.hid hz
  clear h hb00 hn00 he he0 hz
  go_enter Try.func27, Try.ntmps27
  go_wp2_with (go_at_call 36; refine (rasked12_is n b ao cap Z e0 s t H _ HR.out HZ.out HE.out).mono ?_; rintro e w2 ⟨rfl, hb2⟩; have HB2 := Lib.hid (HB.out.trans (hb2.mono HB.out.size)); clear hb2)
  go_ret2
  exact .inr ⟨by rw [HME.out, HE.out]; exact HN0.out, by rw [HME.out, HE.out]; rfl, HB2.out⟩
set_option maxRecDepth 100000 in
set_option maxHeartbeats 8000000 in
theorem rmerged_ok (lo : Option Addr) (lc nl : Nat) (L : List MoveT) (w : World) (h : Row encA 4 w ao Z) (hl : Row encK 3 w lo L) (hok : ∀ x ∈ L, okK x) (hn : L.length ≤ 200) (hnl : Z.length = nl) (he : askE n Z s t H = 0) :
    Calls Try.prog 27 #[.agg #[.int .i64 n, .bool b, .slice ao nl cap], .int .i64 s, .int .i64 t, .int .i64 H, .slice lo L.length lc] w (MrgRes n Z s t H L w) := by
  obtain ⟨N, i0, j0, hnN, hsN, htN, hi0, hj0, hij, hW, hH0, hH1⟩ := ask_net he
  have hb00 := (Below.refl _ w).alloc (Nat.le_refl _) (.cells #[.int .i64 n, .bool b, .slice ao nl cap] 24)
  have hn00 := heap_alloc_new w (.cells #[.int .i64 n, .bool b, .slice ao nl cap] 24)
  have HB := Lib.hid hb00
  have HNB := Lib.hid hn00
  have HR0 := Lib.hid h
  have HL0 := Lib.hid hl
  have c0 := cell_whole hn00 0
  have c1 := cell_whole hn00 1
  have c2 := cell_whole hn00 2
  have HE := Lib.hid he
  have HOK := Lib.hid hok
  have HNL := Lib.hid hnl
  have HW := Lib.hid hW
  have hnl2 : nl ≤ 200 := by rw [← hnl]; exact hW.len
  have HCALL := Lib.hid (rasked12_is n b ao cap Z 0 s t H _ (h.below' hb00) (by unfold maxLen; omega) he)
  rw [hnl] at HCALL
  clear h hl hb00 hn00 he hok hnl hW hnN hsN htN hi0 hj0 hij
  go_enter Try.func27, Try.ntmps27
  go_wp2_with (go_at_call 36; refine HCALL.out.mono ?_; rintro e w2 ⟨rfl, hb2⟩; have HB2 := Lib.hid (HB.out.trans (hb2.mono HB.out.size)); have HN2 := Lib.hid (kept_box HNB.out hb2); clear hb2)
  refine (rmoves_any lo lc L w2 (HL0.out.below' HB2.out) HOK.out hn).mono ?_
  rintro e w4 ⟨hb4, ⟨hall, mo, mc, M, rfl, hrow, hperm, hsorted⟩ | ⟨hall, rfl⟩⟩
  · have HMP := Lib.hid hperm
    have hml : M.length ≤ 200 := by rw [hperm.length_eq]; exact Nat.le_trans (mvs_len L) hn
    have HALL := Lib.hid hall
    have HROW := Lib.hid hrow
    have HN4 := Lib.hid (kept_box HN2.out hb4)
    have HB4 := Lib.hid (HB2.out.trans (hb4.mono HB2.out.size))
    clear hall hb4 hrow hperm hsorted HL0 HCALL c0 c1 c2
    go_wp2_with fail
    go_loopw [15] (fun iv wr => ∃ j : Nat, j ≤ M.length ∧ iv = .int .i64 (j : Int) ∧ Hid (∀ x ∈ M.take j, okM Z s t H x = true) ∧ Hid (Below w4.heap.size w4 wr)) (fun iv _ => M.length - (intOf iv).toNat)
    case atStart => exact ⟨0, Nat.zero_le _, rfl, Lib.hid (fun x hx => by rw [List.take_zero] at hx; cases hx), Lib.hid (Below.refl _ _)⟩
    case round =>
      obtain ⟨j, hj, rfl, HOJ, HW4⟩ := hrel
      have hbn := kept_box HN4.out HW4.out
      have HBJ := Lib.hid (HB4.out.trans (HW4.out.mono HB4.out.size))
      by_cases hlt2 : j < M.length
      · have hli : (j : Int) < (M.length : Int) := by omega
        obtain ⟨mb, mx, e, hmb, d0, d1, d2⟩ := Row.tri (HROW.out.below' HW4.out) hlt2
        cases e
        have HXM : Hid (M[j] ∈ mvs L) := Lib.hid (HMP.out.mem_iff.1 (List.getElem_mem hlt2))
        have HTK : Hid (M.take (j + 1) = M.take j ++ [M[j]]) := Lib.hid (List.take_succ_eq_append_getElem hlt2)
        generalize M[j] = x at *
        obtain ⟨i, u, k⟩ := x
        simp only at d0 d1 d2
        have c0 := cell_whole hbn 0
        have c1 := cell_whole hbn 1
        have c2 := cell_whole hbn 2
        have HTM : Hid (∀ a ∈ Z, 0 ≤ a.2.2.2 ∧ a.2.2.2 ≤ 1048576) := Lib.hid HW.out.times
        have HRQ := Lib.hid (HR0.out.below' (below_drew HBJ.out))
        obtain ⟨q, hq⟩ : ∃ q, okM Z s t H (i, u, k) = q := ⟨_, rfl⟩
        have HQ := Lib.hid hq
        clear hq
        go_wp2_with fail
        go_region_held3 (fun W => W.cell? ⟨w.heap.size, 0, none⟩ = some (.int .i64 n) ∧ W.cell? ⟨w.heap.size, 1, none⟩ = some (.bool b) ∧ W.cell? ⟨w.heap.size, 2, none⟩ = some (.slice ao nl cap) ∧ W.cell? ⟨mb, mx + j * 3, none⟩ = some (.int .i64 i) ∧ W.cell? ⟨mb, mx + j * 3 + 1, none⟩ = some (.int .i64 u) ∧ W.cell? ⟨mb, mx + j * 3 + 2, none⟩ = some (.int .i64 k)) (first | exact ⟨c0, c1, c2, d0, d1, d2⟩ | exact ⟨z0, z1, z2, y0, y1, y2⟩ | go_keep)
          (first | (go_at_call 37; refine (rmove14_any n b ao nl cap Z s t H i u k _ HRQ.out HNL.out hnl2 ⟨hH0, hH1⟩ HTM.out).mono ?_; rw [HQ.out]; rintro e w5 ⟨rfl, hb5⟩; have HB5 := Lib.hid (HW4.out.trans ((below_undrew hb5).mono HW4.out.size)); have hn5 := kept_box HN4.out HB5.out; have z0 := cell_whole hn5 0; have z1 := cell_whole hn5 1; have z2 := cell_whole hn5 2; have y0 := cell_below' hb5 d0 (by simpa using hmb); have y1 := cell_below' hb5 d1 (by simpa using hmb); have y2 := cell_below' hb5 d2 (by simpa using hmb); clear hb5 hn5))
        all_goals
          cases q
          · have HME : Hid (mvE n Z s t H L = 140) := Lib.hid (mvE_move HE.out HALL.out HXM.out HQ.out)
            go_wp2
            go_ret2
            exact .inr ⟨by rw [HME.out]; decide, by rw [HME.out]; rfl, HB4.out.trans (HB5.out.mono HB4.out.size)⟩
          · have HOJ2 : Hid (∀ x ∈ M.take (j + 1), okM Z s t H x = true) := Lib.hid (by
              rw [HTK.out]
              intro x hx
              rcases List.mem_append.1 hx with hx | hx
              · exact HOJ.out x hx
              · rw [List.mem_singleton.1 hx]; exact HQ.out)
            go_wp2
            go_roundw
            case rel => exact ⟨j + 1, by omega, by go_num, HOJ2, HB5⟩
            case measure => simp [intOf]; omega
      · have hli : ¬ (j : Int) < (M.length : Int) := by omega
        have HME : Hid (mvE n Z s t H L = 0) := Lib.hid (mvE_ok.2 ⟨HE.out, HALL.out, fun x hx => HOJ.out x (by rw [List.take_of_length_le (by omega)]; exact HMP.out.mem_iff.2 hx)⟩)
        go_wp2
        go_ret2
        exact .inl ⟨HME.out, mo, mc, M, rfl, HROW.out.below' HW4.out, HMP.out, HBJ.out⟩
  · have HME : Hid (mvE n Z s t H L = 10) := Lib.hid (mvE_over HE.out hall)
    have HB4 := Lib.hid (HB2.out.trans (hb4.mono HB2.out.size))
    clear hall hb4
    go_wp2
    go_ret2
    exact .inr ⟨by rw [HME.out]; decide, by rw [HME.out]; rfl, HB4.out⟩
end
end Go.Proofs.Ytedficnaipiplaa
