/- The document's Order, of any network. -/
import Derived.Test.YtfnafdjcncgcnaaARest
namespace Go.Proofs.Ytfnafdjcncgcnaa
open Go.RowKit
set_option linter.unusedVariables false

def encB (b : Bool) : Value := .bool b
theorem infoBool : (Try.prog.info? 4).map (fun i => (i.zero, i.size, i.bytes)) = some (some (.bool false), 1, 1) := by kernel_rfl
/-- Which nodes stand already. -/
def doneL (out : List Nat) (N : Nat) : List Bool := (List.range N).map fun v => out.contains v
theorem doneL_at (out : List Nat) {N v : Nat} (h : v < N) : (doneL out N)[v]? = some (out.contains v) := by simp [doneL, h]
theorem doneL_nil (N : Nat) : doneL [] N = List.replicate N false := by
  apply List.ext_getElem
  · simp [doneL]
  · intro i h1 h2; simp [doneL]
theorem doneL_set (out : List Nat) {N x : Nat} (h : x < N) : (doneL out N).set x true = doneL (out ++ [x]) N := by
  apply List.ext_getElem
  · simp [doneL]
  · intro i h1 h2
    rw [List.getElem_set]
    simp only [doneL, List.getElem_map, List.getElem_range]
    by_cases e : x = i
    · subst e; simp
    · rw [if_neg e]
      have e2 : i ≠ x := fun q => e q.symm
      simp [e2]
theorem freeN_zero (Z : List ArcT) (out : List Nat) (v : Nat) : freeN (Z.take 0) out v = !out.contains v := by simp [freeN]
theorem freeN_succ {Z : List ArcT} {i : Nat} {a : ArcT} (ha : Z[i]? = some a) (out : List Nat) (v : Nat) : freeN (Z.take (i + 1)) out v = (freeN (Z.take i) out v && (!(toN a == v) || out.contains (frN a))) := by
  obtain ⟨hi, e⟩ := List.getElem?_eq_some_iff.1 ha
  subst e
  rw [List.take_succ_eq_append_getElem hi]
  unfold freeN
  rw [List.all_append, List.all_cons, List.all_nil, Bool.and_true, Bool.and_assoc]
/-- The first free node from m on. -/
def NextIs (Z : List ArcT) (N : Nat) (out : List Nat) (m : Nat) (nx : Int) : Prop :=
  (nx = -1 ∧ ∀ u, m ≤ u → u < N → freeN Z out u = false) ∨ (∃ x : Nat, nx = (x : Int) ∧ m ≤ x ∧ x < N ∧ freeN Z out x = true ∧ ∀ u, m ≤ u → u < x → freeN Z out u = false)
theorem NextIs.start (Z : List ArcT) (N : Nat) (out : List Nat) : NextIs Z N out N (-1) := .inl ⟨rfl, fun u h1 h2 => by omega⟩
theorem NextIs.yes {Z : List ArcT} {N : Nat} {out : List Nat} {v : Nat} {nx : Int} (h : NextIs Z N out (v + 1) nx) (hv : v < N) (hf : freeN Z out v = true) : NextIs Z N out v (v : Int) :=
  .inr ⟨v, rfl, Nat.le_refl _, hv, hf, fun u h1 h2 => by omega⟩
theorem NextIs.no {Z : List ArcT} {N : Nat} {out : List Nat} {v : Nat} {nx : Int} (h : NextIs Z N out (v + 1) nx) (hf : freeN Z out v = false) : NextIs Z N out v nx := by
  rcases h with ⟨h1, h2⟩ | ⟨x, h1, h2, h3, h4, h5⟩
  · refine .inl ⟨h1, fun u g1 g2 => ?_⟩
    by_cases e : u = v
    · subst e; exact hf
    · exact h2 u (by omega) g2
  · refine .inr ⟨x, h1, by omega, h3, h4, fun u g1 g2 => ?_⟩
    by_cases e : u = v
    · subst e; exact hf
    · exact h5 u (by omega) g2
theorem NextIs.none {Z : List ArcT} {N : Nat} {out : List Nat} {nx : Int} (h : NextIs Z N out 0 nx) (h0 : nx < 0) : nextN Z N out = Option.none := by
  rcases h with ⟨h1, h2⟩ | ⟨x, h1, _⟩
  · unfold nextN
    rw [List.find?_eq_none]
    intro u hu
    rw [h2 u (Nat.zero_le _) (by simpa using hu)]
    simp
  · omega
theorem NextIs.some {Z : List ArcT} {N : Nat} {out : List Nat} {nx : Int} (h : NextIs Z N out 0 nx) (h0 : ¬ nx < 0) : ∃ x : Nat, nx = (x : Int) ∧ x < N ∧ nextN Z N out = Option.some x := by
  rcases h with ⟨h1, h2⟩ | ⟨x, h1, h2, h3, h4, h5⟩
  · omega
  · refine ⟨x, h1, h3, ?_⟩
    unfold nextN
    rw [List.find?_range_eq_some]
    exact ⟨h4, by simpa using h3, fun u hu => by rw [h5 u (Nat.zero_le _) hu]; rfl⟩
theorem orderK_next {Z : List ArcT} {N k : Nat} {out : List Nat} {x : Nat} (h : orderK Z N k = some out) (hx : nextN Z N out = some x) : orderK Z N (k + 1) = some (out ++ [x]) := by
  unfold orderK; rw [h]; simp only; rw [hx]
theorem orderK_stop {Z : List ArcT} {N k : Nat} {out : List Nat} (h : orderK Z N k = some out) (hx : nextN Z N out = none) (hk : k < N) : orderK Z N N = none := by
  have h1 : orderK Z N (k + 1) = none := by unfold orderK; rw [h]; simp only; rw [hx]
  have := orderK_none h1 (N - (k + 1))
  rwa [show k + 1 + (N - (k + 1)) = N by omega] at this
set_option maxRecDepth 100000 in
set_option maxHeartbeats 4000000 in
theorem rorder_ok (n : Int) (b : Bool) (ao : Option Addr) (cap : Nat) (Z : List ArcT) (w : World) (h : Row encA 4 w ao Z) (hc : checkE n Z = 0) :
    Calls Try.prog 21 #[.agg #[.int .i64 n, .bool b, .slice ao Z.length cap]] w (OrdRes (orderK Z n.toNat n.toNat) w) := by
  have hR : Right (n, b, Z) := right_iff.1 hc
  have hn := nodesE_ok hR.1
  have hzl : Z.length ≤ 200 := hR.2.1
  simp only at hn
  obtain ⟨N, rfl⟩ : ∃ N : Nat, n = (N : Int) := ⟨n.toNat, by omega⟩
  have HC := Lib.hid hc
  have HRT := Lib.hid hR
  have HR := Lib.hid (row_alloc h (.cells #[.int .i64 (N : Int), .bool b, .slice ao Z.length cap] 24))
  clear h hc hR
  go_enter Try.func21, Try.ntmps21
  have c0 := cell_new w #[.int .i64 (N : Int), .bool b, .slice ao Z.length cap] 24 0
  have c2 := cell_new w #[.int .i64 (N : Int), .bool b, .slice ao Z.length cap] 24 2
  have HB0 : Hid (Below w.heap.size w (w.alloc (.cells #[.int .i64 (N : Int), .bool b, .slice ao Z.length cap] 24))) := Lib.hid ((Below.refl _ w).alloc (Nat.le_refl _) _)
  go_wp2_with (first
    | (go_at_call 24; refine (rcheck_any (N : Int) b ao cap Z _ HR.out (by unfold maxLen; omega)).mono ?_; rintro e w1 ⟨rfl, hb1⟩; rw [HC.out]; have d0 := cell_below hb1 c0; have d2 := cell_below hb1 c2; have HR1 := Lib.hid (HR.out.below' hb1); have HB1 := Lib.hid (HB0.out.trans (hb1.mono (by simp))); clear hb1 c0 c2)
    | (at_make; refine wpList_make_L (enc := encB) false Try.underlying62 infoBool rfl (by omega) rfl _ _ rfl N rfl rfl (by omega) ?_; intro w2 ho2 hb2; have HO2 := Lib.hid ho2; have HB2 := Lib.hid hb2; clear ho2 hb2))
  have hgl : w1.heap.size < w2.heap.size := (own_lt2 HO2.out rfl).2
  go_loopw [6, 8] (fun ov i wr => ∃ (k : Nat) (out : List Nat), k ≤ N ∧ i = .int .i64 (k : Int) ∧ Hid (out.length = k) ∧ w2.heap.size ≤ wr.heap.size ∧ Hid (Below w1.heap.size w1 wr) ∧ Hid (OwnL encB wr w1.heap.size 4 (.slice (some ⟨w1.heap.size, 0, none⟩) N N) (doneL out N)) ∧ Hid (OwnL encI wr w2.heap.size 3 ov (natI out)) ∧ Hid (orderK Z N k = some out)) (fun _ i _ => N - (intOf i).toNat)
  case atStart => exact ⟨0, [], Nat.zero_le _, rfl, Lib.hid rfl, Nat.le_refl _, HB2, Lib.hid (by rw [doneL_nil]; exact HO2.out), Lib.hid (OwnL.nil _ _ _), Lib.hid rfl⟩
  case round =>
    clear HO2 HB2
    obtain ⟨k, out, hk, rfl, hol, hsz, HB, HD, HO, HK⟩ := hrel
    have e0 := cell_below' HB.out d0 (block_lt_of_cell d0)
    have e2 := cell_below' HB.out d2 (block_lt_of_cell d2)
    obtain ⟨oa, oc, hov, hol2⟩ := HO.out.lst
    subst hov
    have HOL := Lib.hid hol2
    have HON := Lib.hid (natI_len out)
    clear hol2
    by_cases hlt : k < N
    · have hli : (k : Int) < (N : Int) := by omega
      go_wp2
      go_loop [9, 10] (fun nx iv => ∃ (m : Nat) (nz z : Int), m ≤ N ∧ nx = .int .i64 nz ∧ iv = .int .i64 z ∧ z = (m : Int) - 1 ∧ -1 ≤ nz ∧ nz ≤ 50 ∧ Hid (NextIs Z N out m nz)) (fun _ iv => ((intOf iv) + 1).toNat)
      case atStart => exact ⟨N, -1, _, Nat.le_refl _, rfl, rfl, rfl, by omega, by omega, Lib.hid (NextIs.start Z N out)⟩
      case round =>
        obtain ⟨m, nz, z, hm, rfl, rfl, hz, hn1, hn2, HN⟩ := hrel
        by_cases hm0 : m = 0
        · subst hm0
          obtain rfl : z = -1 := by omega
          clear hz
          by_cases hneg : nz < 0
          · have HE := Lib.hid (orderK_stop HK.out (HN.out.none hneg) hlt)
            go_wp2
            refine bodyPost_ret (v := .tuple #[.slice none 0 0, .bool false, .int .i64 0]) (by simp [results, Try.results21, go_sem]) rfl ?_
            rw [HE.out]
            exact ⟨none, 0, rfl, Lst.nil _ _, HB1.out.trans (HB.out.mono HB1.out.size)⟩
          · obtain ⟨x, hx, hxN, hxn⟩ := HN.out.some hneg
            subst hx
            have HK2 := Lib.hid (orderK_next HK.out hxn)
            clear hxn hneg
            have hxi : (x : Int) < (N : Int) := by omega
            obtain ⟨hcx, hfx⟩ := HD.out.cell (doneL_at out hxN)
            unfold encB at hcx
            have HD3 : Hid (OwnL encB (wr.setCell ⟨w1.heap.size, x, none⟩ (.bool true)) w1.heap.size 4 (.slice (some ⟨w1.heap.size, 0, none⟩) N N) (doneL (out ++ [x]) N)) := Lib.hid (by have h := HD.out.put x true; rw [doneL_set out hxN] at h; exact h)
            have HO3 := Lib.hid ((ownL_kept HO.out ((Kept.refl (fun i => i = w1.heap.size) wr).set (.inl rfl) (.bool true) (j := x)) (fun g e e2 => by have := (own_lt2 HO.out e).1; omega)).alloc (.cells #[.int .i64 (x : Int)] 3))
            have HB3 := Lib.hid (below_set (g := w1.heap.size) (j := x) HB.out (Nat.le_refl _) (.bool true))
            have hsz3 : (wr.setCell ⟨w1.heap.size, x, none⟩ (.bool true)).heap.size = wr.heap.size := by simp [World.setCell]
            have hs1 := HB.out.size
            go_wp2_with (first
              | (at_builtin; refine wpList_append_one (enc := encI) Try.underlying32 infoInt rfl (by omega) rfl _ _ rfl w2.heap.size _ (natI out) (x : Int) rfl rfl HO3.out _ 1 rfl (cell_new' (by simp [World.setCell]) _ _ 0) (by rw [HON.out, hol.out]; omega) (by simp [World.setCell]; omega) ?_; intro g4 cap4 w4 ho4 hg4 hl4 hb4 hlt4; have HO4 := Lib.hid ho4; have hs4 := hg4.size; have HB4 := Lib.hid (below_grown (HB3.out.alloc (by omega) (.cells #[.int .i64 (x : Int)] 3)) (by simp [World.setCell]; omega) hg4 (fun g e => by have := own_block HO3.out e; omega)); have HD4 := Lib.hid ((HD3.out.alloc (.cells #[.int .i64 (x : Int)] 3)).grown hg4 (.inr (fun e => by have : w2.heap.size ≤ w1.heap.size := own_block HO3.out e.symm; omega))); clear ho4 hg4 hl4))
            go_roundw
            case rel => exact ⟨k + 1, out ++ [x], by omega, by go_num, Lib.hid (by simp [hol.out]), by simp [World.setCell] at hs4; omega, HB4, HD4, Lib.hid (by rw [natI_snoc]; exact HO4.out), HK2⟩
            case measure => simp [intOf]; omega
        · obtain ⟨v, rfl⟩ : ∃ v, m = v + 1 := ⟨m - 1, by omega⟩
          obtain rfl : z = (v : Int) := by omega
          clear hz hm0
          have hvN : v < N := by omega
          have hvi : (v : Int) < (N : Int) := by omega
          obtain ⟨hcv, hfv⟩ := HD.out.cell (doneL_at out hvN)
          unfold encB at hcv
          have hfz := freeN_zero Z out v
          obtain ⟨ob, hob⟩ : ∃ ob, out.contains v = ob := ⟨_, rfl⟩
          rw [hob] at hcv hfz
          have HFZ := Lib.hid hfz
          clear hfz hob
          go_wp2
          go_loop [11, 12] (fun fr iv => ∃ (i : Nat) (q : Bool), i ≤ Z.length ∧ fr = .bool q ∧ iv = .int .i64 (i : Int) ∧ Hid (q = freeN (Z.take i) out v)) (fun _ iv => Z.length - (intOf iv).toNat)
          case atStart => exact ⟨0, _, Nat.zero_le _, rfl, rfl, Lib.hid HFZ.out.symm⟩
          case round =>
            obtain ⟨i, q, hi, rfl, rfl, HQ⟩ := hrel
            by_cases hlt2 : i < Z.length
            · have hli2 : (i : Int) < (Z.length : Int) := by omega
              have hpa : Z[i]? = some Z[i] := List.getElem?_eq_getElem hlt2
              obtain ⟨h1, h2, h3, h4, h5, h6⟩ := right_arc HRT.out (List.mem_of_getElem? hpa)
              rw [Int.toNat_natCast] at h3 h4
              obtain ⟨ab, ax, e, hab, a0, a1, _, _⟩ := arc_at (HR1.out.below' HB.out) hpa
              cases e
              rw [h1] at a0
              rw [h2] at a1
              have hsu := freeN_succ hpa out v
              rw [← HQ.out] at hsu
              obtain ⟨hcx, _⟩ := HD.out.cell (doneL_at out h3)
              unfold encB at hcx
              clear hpa h1 h2 h5 h6
              generalize frN Z[i] = x at *
              generalize toN Z[i] = y at *
              obtain ⟨xb, hxb⟩ : ∃ xb, out.contains x = xb := ⟨_, rfl⟩
              rw [hxb] at hcx hsu
              have HSU := Lib.hid hsu
              have hxi : (x : Int) < (N : Int) := by omega
              clear hxb hsu
              by_cases hy : y = v
              · subst hy
                cases xb with
                | true =>
                  go_wp2
                  go_round
                  case rel => exact ⟨i + 1, q, by omega, rfl, by go_num, Lib.hid (by rw [HSU.out]; simp)⟩
                  case measure => simp [intOf]; omega
                | false =>
                  go_wp2
                  go_round
                  case rel => exact ⟨i + 1, false, by omega, rfl, by go_num, Lib.hid (by rw [HSU.out]; simp)⟩
                  case measure => simp [intOf]; omega
              · have hf1 : ((y : Int) == (v : Int)) = false := by simp; omega
                have hf2 : ¬ (y : Int) = (v : Int) := by omega
                have HY := Lib.hid hy
                clear hy
                go_wp2
                go_round
                case rel => exact ⟨i + 1, q, by omega, rfl, by go_num, Lib.hid (by rw [HSU.out]; simp [HY.out])⟩
                case measure => simp [intOf]; omega
            · have hli2 : ¬ (i : Int) < (Z.length : Int) := by omega
              obtain rfl : i = Z.length := by omega
              have hQ := HQ.out
              rw [List.take_length] at hQ
              cases q with
              | true =>
                have HN2 := Lib.hid (HN.out.yes hvN hQ.symm)
                clear hQ
                go_wp2
                go_round
                case rel => exact ⟨v, _, _, by omega, rfl, rfl, by first | rfl | omega, by omega, by omega, HN2⟩
                case measure => simp [intOf]; try omega
              | false =>
                have HN2 := Lib.hid (HN.out.no hQ.symm)
                clear hQ
                go_wp2
                go_round
                case rel => exact ⟨v, _, _, by omega, rfl, rfl, by first | rfl | omega, by omega, by omega, HN2⟩
                case measure => simp [intOf]; try omega
    · have hli : ¬ (k : Int) < (N : Int) := by omega
      obtain rfl : k = N := by omega
      rw [HON.out]
      go_wp2
      refine bodyPost_ret (v := .tuple #[.slice oa out.length oc, .bool true, .int .i64 0]) (by simp [results, Try.results21, go_sem]) rfl ?_
      rw [HK.out]
      exact ⟨oa, oc, rfl, HOL.out, HB1.out.trans (HB.out.mono HB1.out.size)⟩
theorem rorder_no (n : Int) (b : Bool) (ao : Option Addr) (cap : Nat) (Z : List ArcT) (w : World) (e0 : Int) (h : Row encA 4 w ao Z) (hm : Z.length ≤ maxLen) (he : checkE n Z = e0) (h0 : e0 ≠ 0) :
    Calls Try.prog 21 #[.agg #[.int .i64 n, .bool b, .slice ao Z.length cap]] w fun e w' => e = .returned (.tuple #[.slice none 0 0, .bool false, .int .i64 e0]) ∧ Below w.heap.size w w' := by
  have HE := Lib.hid he
  have HM := Lib.hid hm
  have HR := Lib.hid (row_alloc h (.cells #[.int .i64 n, .bool b, .slice ao Z.length cap] 24))
  have hf2 : (e0 != 0) = true := by simpa using h0
  have hf1 : (e0 == 0) = false := by simpa using h0
  clear h he h0 hm
  have HB0 : Hid (Below w.heap.size w (w.alloc (.cells #[.int .i64 n, .bool b, .slice ao Z.length cap] 24))) := Lib.hid ((Below.refl _ w).alloc (Nat.le_refl _) _)
  go_enter Try.func21, Try.ntmps21
  go_wp2_with (go_at_call 24; refine (rcheck_any n b ao cap Z _ HR.out HM.out).mono ?_; rintro e w1 ⟨rfl, hb1⟩; rw [HE.out]; have HB1 := Lib.hid (HB0.out.trans (hb1.mono (by simp))); clear hb1)
  exact bodyPost_ret (v := .tuple #[.slice none 0 0, .bool false, .int .i64 e0]) (by simp [results, Try.results21, go_sem]) rfl ⟨rfl, HB1.out⟩
theorem rorder_any (n : Int) (b : Bool) (ao : Option Addr) (cap : Nat) (Z : List ArcT) (w : World) (h : Row encA 4 w ao Z) (hm : Z.length ≤ maxLen) :
    Calls Try.prog 21 #[.agg #[.int .i64 n, .bool b, .slice ao Z.length cap]] w (OrdV (orderL n Z) (checkE n Z) w) := by
  by_cases h0 : checkE n Z = 0
  · unfold orderL
    rw [if_pos h0, h0]
    exact rorder_ok n b ao cap Z w h h0
  · unfold orderL
    rw [if_neg h0]
    refine (rorder_no n b ao cap Z w _ h hm rfl h0).mono ?_
    rintro e w' ⟨rfl, hb⟩
    exact ⟨none, 0, rfl, Lst.nil _ _, hb⟩
end Go.Proofs.Ytfnafdjcncgcnaa
