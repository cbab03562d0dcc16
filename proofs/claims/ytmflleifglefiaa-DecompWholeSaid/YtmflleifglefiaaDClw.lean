/- The document's Clean of layer 13: the walk. -/
import Derived.Test.YtmflleifglefiaaDCln
namespace Go.Proofs.Ytmflleifglefiaa
open Go.RowKit
set_option linter.unusedVariables false

/-- What Clean tells. -/
def CleanRes (n : Int) (Z : List ArcT) (s t : Int) (F : List Int) (w : World) (e : Ending) (w' : World) : Prop :=
  (splitE n Z s t F = 0 ∧ ∃ (N i j : Nat) (v : Value), n = (N : Int) ∧ s = (i : Int) ∧ t = (j : Int) ∧ e = .returned (.tuple #[v, .int .i64 0]) ∧ OwnL encI w' w.heap.size 3 v (sumP Z.length (chainsF Z N i j F)) ∧ Below w.heap.size w w') ∨
  (splitE n Z s t F ≠ 0 ∧ e = .returned (.tuple #[.slice none 0 0, .int .i64 (splitE n Z s t F)]) ∧ Below w.heap.size w w')
theorem madeC (w : World) (B M : Nat) (hB : B ≤ w.heap.size) (hM : M ≤ 200000) : OwnL encI (w.alloc (.cells (madeCells #[.int .i64 0] M) 3)) B 3 (.slice (some ⟨w.heap.size, 0, none⟩) M M) (List.replicate M 0) := by
  refine ⟨by simp, .inr ⟨w.heap.size, M, _, by rw [List.length_replicate], hB, heap_alloc_new _ _, by simp, by unfold maxLen; omega, by simp [madeCells], ?_⟩⟩
  have h := made_one (.int .i64 0) rfl M
  rw [Nat.mul_one] at h
  rw [show (madeCells #[Value.int .i64 0] M) = madeCells (Value.int .i64 0).cells M from rfl, h]
  simp [encI]
section
variable (n : Int) (b : Bool) (ao fo : Option Addr) (cap fc : Nat) (Z : List ArcT) (F : List Int)
set_option maxRecDepth 100000 in
set_option maxHeartbeats 8000000 in
theorem rclean13_any (s t : Int) (w : World) (h : Row encA 4 w ao Z) (hf : Lst encI w fo F) (hnil : fo = none → fc = 0) (hz : Z.length ≤ maxLen) (hfl : F.length ≤ maxLen) :
    Calls Try.prog 12 #[.agg #[.int .i64 n, .bool b, .slice ao Z.length cap], .int .i64 s, .int .i64 t, .slice fo F.length fc] w (CleanRes n Z s t F w) := by
  have hb00 := (Below.refl _ w).alloc (Nat.le_refl _) (.cells #[.int .i64 n, .bool b, .slice ao Z.length cap] 24)
  have HB0 := Lib.hid hb00
  have HR := Lib.hid (h.below' hb00)
  have HF := Lib.hid (hf.below hb00)
  have HN0 := Lib.hid (heap_alloc_new w (.cells #[.int .i64 n, .bool b, .slice ao Z.length cap] 24))
  have HZ := Lib.hid hz
  have HFL := Lib.hid hfl
  have HNL := Lib.hid hnil
  obtain ⟨e0, he⟩ : ∃ e0, splitE n Z s t F = e0 := ⟨_, rfl⟩
  have HE := Lib.hid he
  clear h hf hb00 hz hnil
  by_cases h0 : e0 = 0
  · have HE0 : Hid (splitE n Z s t F = 0) := Lib.hid (by rw [he]; exact h0)
    have HTR : Hid (∀ e w', (∃ (N i j : Nat) (v : Value), n = (N : Int) ∧ s = (i : Int) ∧ t = (j : Int) ∧ e = .returned (.tuple #[v, .int .i64 0]) ∧ OwnL encI w' w.heap.size 3 v (sumP Z.length (chainsF Z N i j F)) ∧ Below w.heap.size w w') → CleanRes n Z s t F w e w') := Lib.hid (fun e w' q => .inl ⟨HE0.out, q⟩)
    clear he h0
    refine Calls.mono ?_ HTR.out
    clear HTR
    go_enter Try.func12, Try.ntmps12
    have k0 := cell_whole HN0.out 0
    have k1 := cell_whole HN0.out 1
    have k2 := cell_whole HN0.out 2
    have hmk := fun (hq : F.length ≤ 200) W => run_make_row' (P := Try.prog) 25 3 (.int .i64 0) 8 Try.underlying25 infoInt rfl .i64 .i64 F.length (by omega) (by omega) W
    have HMK := Lib.hid hmk
    clear hmk
    go_wp2_with (first
      | (go_at_call 10; refine (rsplit13_any n b ao fo cap fc Z F s t _ HR.out HF.out HNL.out HZ.out HFL.out).mono ?_; intro e w3 hres; obtain ⟨_, N, i, j, ca, ya, cc, yc, X, Y, hn, hs, ht, hij, rfl, hcr, hcy, hb3⟩ := hres.resolve_right (fun q => q.1 HE0.out); have HN := Lib.hid hn; have HS := Lib.hid hs; have HT := Lib.hid ht; have HCR := Lib.hid hcr; have HB3 := Lib.hid (HB0.out.trans (hb3.mono HB0.out.size)); have hcf := chains_facts (N := N) (i := i) (j := j) (by rw [← hn, ← hs, ← ht]; exact HE0.out); have HCF := Lib.hid hcf; have hmk := HMK.out (by have h1 := hcf.2.2.1; have h2 := hcf.2.2.2.1; omega); clear hres hn hs ht hij hcr hcy hb3 hcf k0 k1 k2))
    clear HR HF HN0 HZ HNL hmk HMK HE HB0 hfl HFL
    obtain ⟨hP, hM, hFZ, hZ2, hC2, hPI⟩ := HCF.out
    have HP := Lib.hid hP
    have HM := Lib.hid hM
    rw [hFZ]
    have HCL : Hid (X.length = (chainsF Z N i j F).length) := Lib.hid (by have := congrArg List.length HCR.out.2.2; rwa [List.length_map, List.length_map] at this)
    have hb4 := (Below.refl _ w3).alloc (Nat.le_refl _) (.cells #[.slice ca X.length cc, .slice ya Y.length yc] 32)
    have hx4 := heap_alloc_new w3 (.cells #[.slice ca X.length cc, .slice ya Y.length yc] 32)
    have HC4 : Hid (ChR (w3.alloc (.cells #[.slice ca X.length cc, .slice ya Y.length yc] 32)) ca X (chainsF Z N i j F)) := Lib.hid ⟨HCR.out.1.below' hb4, fun x hx => (HCR.out.2.1 x hx).below hb4, HCR.out.2.2⟩
    have HB4 := Lib.hid (HB3.out.trans (hb4.mono HB3.out.size))
    have HX4 := Lib.hid hx4
    have hg4 : (w3.alloc (.cells #[.slice ca X.length cc, .slice ya Y.length yc] 32)).heap.size = w3.heap.size + 1 := by simp
    clear HCR HB3 hb4 hx4 HCF
    generalize w3.alloc (.cells #[.slice ca X.length cc, .slice ya Y.length yc] 32) = w4 at *
    have hmb := (Below.refl _ w4).alloc (Nat.le_refl _) (.cells (madeCells #[.int .i64 0] Z.length) 3)
    have hmo := madeC w4 w4.heap.size Z.length (Nat.le_refl _) (by omega)
    have HMB := Lib.hid hmb
    have HMO : Hid (OwnL encI (w4.alloc (.cells (madeCells #[.int .i64 0] Z.length) 3)) w4.heap.size 3 (.slice (some ⟨w4.heap.size, 0, none⟩) Z.length Z.length) (sumP Z.length ((chainsF Z N i j F).take 0))) := Lib.hid hmo
    clear hmb hmo hP hM hPI
    generalize w4.alloc (.cells (madeCells #[.int .i64 0] Z.length) 3) = w5 at *
    obtain ⟨g3, hg3⟩ : ∃ g3, w3.heap.size = g3 := ⟨_, rfl⟩
    rw [hg3] at hg4 HX4 ⊢
    have HG4 := Lib.hid hg4
    have HMO : Hid (OwnL encI w5 w4.heap.size 3 (.slice (some ⟨g3 + 1, 0, none⟩) Z.length Z.length) (sumP Z.length ((chainsF Z N i j F).take 0))) := Lib.hid (by have h1 := HMO.out; rw [show (some (Addr.mk w4.heap.size 0 none)) = some ⟨g3 + 1, 0, none⟩ by rw [hg4]] at h1; exact h1)
    obtain ⟨C, hC⟩ : ∃ C, chainsF Z N i j F = C := ⟨_, rfl⟩
    have HCE := Lib.hid hC
    rw [hC] at HP HM HCL HC4 HMO hC2
    clear hC hg4 hg3
    have hX2 : X.length ≤ 200 := by rw [HCL.out]; exact hC2
    go_loopw [13] (fun iv wr => ∃ k : Nat, k ≤ X.length ∧ iv = .int .i64 (k : Int) ∧ Hid (OwnL encI wr w4.heap.size 3 (.slice (some ⟨g3 + 1, 0, none⟩) Z.length Z.length) (sumP Z.length (C.take k))) ∧ Hid (Below w4.heap.size w4 wr)) (fun iv _ => X.length - (intOf iv).toNat)
    case atStart => exact ⟨0, Nat.zero_le _, rfl, HMO, HMB⟩
    case round =>
      clear HMO HMB
      obtain ⟨k, hk, rfl, HO, HW⟩ := hrel
      have hxb := kept_box HX4.out HW.out
      have c0 := cell_whole hxb 0
      by_cases hlt : k < X.length
      · have hli : (k : Int) < (X.length : Int) := by omega
        have hkC : k < C.length := by rw [← HCL.out]; exact hlt
        have hkp : X[k].2 = partI C[k] := by
          have h1 := congrArg (fun l => l[k]?) HC4.out.2.2
          simp only [List.getElem?_map, List.getElem?_eq_getElem hlt, List.getElem?_eq_getElem hkC, Option.map_some] at h1
          exact Option.some.inj h1
        obtain ⟨b1, o1, q1, hb1, s1, s2⟩ := chC_at HC4.out.1 (List.getElem?_eq_getElem hlt)
        have hxl := HC4.out.2.1 _ (List.getElem_mem hlt)
        obtain ⟨u, v, hpi⟩ := HP.out _ (List.getElem_mem hkC)
        have hbd := clean_bd HP.out HM.out hkC
        have hpl := part_le HP.out (List.getElem_mem hkC) HM.out
        have hTS : sumP Z.length (C.take (k + 1)) = takeK (-C[k].2) (sumP Z.length (C.take k)) C[k].1 := by
          have e := List.take_succ_eq_append_getElem hkC
          rw [e, sumP_snoc (Z := Z) (by rw [← e]; exact fun q hq => HP.out q (List.mem_of_mem_take hq))]
        have hSL : (sumP Z.length (C.take k)).length = Z.length := sumP_len _ _
        obtain ⟨p, hp⟩ : ∃ p, C[k] = p := ⟨_, rfl⟩
        rw [hp] at hkp hpi hbd hpl hTS
        obtain ⟨l, K⟩ := p
        generalize X[k] = x at *
        obtain ⟨⟨xa, xc⟩, xl, xk⟩ := x
        injection hkp with e1 e2
        simp only at e1 e2 hxl s1 s2 hpi hbd hpl hTS
        cases q1
        have hal := arcsL_len l
        rw [← e1] at hal
        obtain ⟨M, hlM⟩ : ∃ M, l.length = M := ⟨_, rfl⟩
        rw [hlM] at hal hbd
        rw [hal] at s1
        rw [e2] at s2
        have hall : ∀ x ∈ l, ∃ p : Nat, x.1 = (p : Int) ∧ p < Z.length := fun x hx => isArc_nat (trail_isArc hpi.1 x hx)
        have hMl : M ≤ 200 := by
          have h1 := nodup_le (N := Z.length) (toNat_nodup (trail_isArc hpi.1) (part_once hpi)) (fun v hv => by
            obtain ⟨x, hx, rfl⟩ := List.mem_map.1 hv
            obtain ⟨p, hp, hpl⟩ := hall x hx
            rw [hp, Int.toNat_natCast]
            exact hpl)
          rw [List.length_map, hlM] at h1
          omega
        have HALL := Lib.hid hall
        have HBD := Lib.hid hbd
        have HTS := Lib.hid hTS
        have HLM := Lib.hid hlM
        have HXL : Hid (Lst encI w4 xa (arcsL l)) := Lib.hid (by rw [← e1]; exact hxl)
        have s0 := s1
        have s1 := cell_below HW.out s1
        generalize sumP Z.length (C.take k) = S at *
        clear hall hbd hTS hlM hxl e1 hpi hal hp hxb
        go_wp2
        go_loopw [14] (fun iv wz => ∃ m : Nat, m ≤ M ∧ iv = .int .i64 (m : Int) ∧ Hid (OwnL encI wz w4.heap.size 3 (.slice (some ⟨g3 + 1, 0, none⟩) Z.length Z.length) (takeK (-K) S (l.take m))) ∧ Hid (Below w4.heap.size w4 wz)) (fun iv _ => M - (intOf iv).toNat)
        case atStart => exact ⟨0, Nat.zero_le _, rfl, HO, HW⟩
        case round =>
          clear HO HW c0 s1
          obtain ⟨m, hm, rfl, HO, HW⟩ := hrel
          have c0 := cell_whole (kept_box HX4.out HW.out) 0
          have s1 := cell_below HW.out s0
          have s2 := cell_below HW.out s2
          by_cases hlt2 : m < M
          · have hli2 : (m : Int) < (M : Int) := by omega
            have hml : m < l.length := by rw [HLM.out]; exact hlt2
            obtain ⟨p, hp, hpl2⟩ := HALL.out _ (List.getElem_mem hml)
            have hpi : (p : Int) < (Z.length : Int) := by omega
            obtain ⟨ab2, ax2, e1, _, a0⟩ := lst_cell (HXL.out.below HW.out) (arcsL_at hml)
            cases e1
            have HTK := Lib.hid (takeK_snoc (-K) S (l.take m) l[m])
            obtain ⟨d0, d1⟩ := HBD.out m hm p hpl2
            have HFN := Lib.hid (takeK_len (-K) (l.take m) S)
            have HT2 : Hid (l.take (m + 1) = l.take m ++ [l[m]]) := Lib.hid (List.take_succ_eq_append_getElem hml)
            rw [hp] at a0 HTK
            rw [Int.toNat_natCast] at HTK
            have hX := atI_get (d := takeK (-K) S (l.take m)) (v := p) (by rw [HFN.out, hSL]; exact hpl2)
            obtain ⟨cy, fy⟩ := HO.out.cell hX
            unfold encI at cy a0
            have HST : Hid (takeK (-K) S (l.take (m + 1)) = (takeK (-K) S (l.take m)).set p (atI (takeK (-K) S (l.take m)) p + K)) := Lib.hid (by rw [HT2.out, HTK.out, Int.sub_neg])
            clear hX hp hml HTK HT2
            generalize takeK (-K) S (l.take m) = G at *
            generalize atI G p = y at *
            have hwr : IntKind.i64.wrap (y + K) = y + K := IntWalk.i64_in _ (by omega)
            have hgb : w4.heap.size ≤ g3 + 1 := by rw [HG4.out]; exact Nat.le_refl _
            go_wp2_with fail
            go_region
            go_wp2
            go_roundw
            case rel => exact ⟨m + 1, by omega, by go_num, Lib.hid (by rw [HST.out]; exact (HO.out.put p _).below (below_drew (Below.refl _ _))), Lib.hid (below_drew (below_set HW.out hgb _))⟩
            case measure => simp [intOf]; omega
          · have hli2 : ¬ (m : Int) < (M : Int) := by omega
            have HTE : Hid (takeK (-K) S (l.take m) = takeK (-K) S l) := Lib.hid (by rw [List.take_of_length_le (by rw [HLM.out]; omega)])
            rw [HTE.out] at HO
            go_wp2
            go_roundw
            case rel => exact ⟨k + 1, by omega, by go_num, Lib.hid (by rw [HTS.out]; exact HO.out), HW⟩
            case measure => simp [intOf]; omega
      · have hli : ¬ (k : Int) < (X.length : Int) := by omega
        have HTE : Hid (C.take k = C) := Lib.hid (List.take_of_length_le (by rw [← HCL.out]; omega))
        rw [HTE.out] at HO
        go_wp2
        refine bodyPost_ret (v := .tuple #[.slice (some ⟨g3 + 1, 0, none⟩) Z.length Z.length, .int .i64 0]) (by simp [results, Try.results12, go_sem]) rfl ?_
        exact ⟨N, HN.out, i, HS.out, j, HT.out, _, rfl, by rw [HCE.out]; exact own_mono HO.out HB4.out.size, HB4.out.trans (HW.out.mono HB4.out.size)⟩
  · have HSP : Hid (splitE n Z s t F = e0) := Lib.hid he
    have hf1 : (e0 != 0) = true := by simpa using h0
    have H0 := Lib.hid h0
    clear h0 he
    go_enter Try.func12, Try.ntmps12
    have k0 := cell_whole HN0.out 0
    have k1 := cell_whole HN0.out 1
    have k2 := cell_whole HN0.out 2
    go_wp2_with (first
      | (go_at_call 10; refine (rsplit13_any n b ao fo cap fc Z F s t _ HR.out HF.out HNL.out HZ.out HFL.out).mono ?_; intro e w3 hres; obtain ⟨_, rfl, hb3⟩ := hres.resolve_left (fun q => H0.out (by rw [← HSP.out]; exact q.1)); rw [HSP.out]; have HB3 := Lib.hid (HB0.out.trans (hb3.mono HB0.out.size)); clear hres hb3 k0 k1 k2))
    refine bodyPost_ret (v := .tuple #[.slice none 0 0, .int .i64 e0]) (by simp [results, Try.results12, go_sem]) rfl ?_
    exact .inr ⟨by rw [HSP.out]; exact H0.out, by rw [HSP.out], HB3.out.alloc HB3.out.size _⟩
end
end Go.Proofs.Ytmflleifglefiaa
