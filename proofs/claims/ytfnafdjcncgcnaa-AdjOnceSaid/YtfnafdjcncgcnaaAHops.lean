/- Hops of package adj, of any network. -/
import Derived.Test.YtfnafdjcncgcnaaAStart
import Derived.Test.YtfnafdjcncgcnaaPQueue
import Derived.Deep.LoopGhost
namespace Go.Proofs.Ytfnafdjcncgcnaa
open Go.RowKit
set_option linter.unusedVariables false

theorem ownL_kept {α : Type} {enc : α → Value} {S : Nat → Prop} {w w' : World} {base : Nat} {e : TypeId} {v : Value} {L : List α} (h : OwnL enc w base e v L) (k : Kept S w w') (hn : ∀ g, v.ownBlock = some g → ¬ S g) : OwnL enc w' base e v L := by
  refine ⟨h.1, ?_⟩
  rcases h.2 with h1 | ⟨g', cap, cur, rfl, h2, h3, h4⟩
  · exact .inl h1
  · exact .inr ⟨g', cap, cur, rfl, h2, k.old h3 (hn g' rfl), h4⟩
theorem GRow.at {w : World} {g N : Nat} {f : ArcT → Nat} {Z : List ArcT} (h : GRow w (some ⟨g, 0, none⟩) (lists f Z N)) {v : Nat} (hv : v < N) : ∃ ao cap, g < w.heap.size ∧ w.cell? ⟨g, v, none⟩ = some (.slice ao (places f Z v).length cap) ∧ Lst encI w ao (natI (places f Z v)) := by
  obtain ⟨b, o, ao, cap, e, h1, h2, h3⟩ := h v (by rw [lists_len]; exact hv)
  cases e
  have e : (lists f Z N)[v]'(by rw [lists_len]; exact hv) = places f Z v := by simp [lists]
  rw [e] at h2 h3
  rw [Nat.zero_add] at h2
  exact ⟨ao, cap, h1, h2, h3⟩
theorem arc_at {w : World} {ao : Option Addr} {Z : List ArcT} (h : Row encA 4 w ao Z) {p : Nat} {a : ArcT} (hp : Z[p]? = some a) : ∃ b o, ao = some ⟨b, o, none⟩ ∧ b < w.heap.size ∧
    w.cell? ⟨b, o + p * 4, none⟩ = some (.int .i64 a.1) ∧ w.cell? ⟨b, o + p * 4 + 1, none⟩ = some (.int .i64 a.2.1) ∧ w.cell? ⟨b, o + p * 4 + 2, none⟩ = some (.int .i64 a.2.2.1) ∧ w.cell? ⟨b, o + p * 4 + 3, none⟩ = some (.int .i64 a.2.2.2) := by
  obtain ⟨hi, e⟩ := List.getElem?_eq_some_iff.1 hp
  subst e
  exact h.arc hi
theorem right_arc {n : Int} {b : Bool} {Z : List ArcT} (h : Right (n, b, Z)) {a : ArcT} (ha : a ∈ Z) : a.1 = (frN a : Int) ∧ a.2.1 = (toN a : Int) ∧ frN a < n.toNat ∧ toN a < n.toNat ∧ 0 ≤ tm a ∧ tm a ≤ 1048576 := by
  obtain ⟨h1, h2⟩ := arcE_ok (h.2.2 a ha)
  unfold badEnds at h1
  unfold bigArc at h2
  unfold frN toN tm
  omega
theorem right_ends {n : Int} {b : Bool} {Z : List ArcT} (h : Right (n, b, Z)) : ∀ a ∈ Z, frN a < n.toNat ∧ toN a < n.toNat := fun a ha => ⟨(right_arc h ha).2.2.1, (right_arc h ha).2.2.2.1⟩
theorem natI_at {l : List Nat} {j : Nat} (h : j < l.length) : (natI l)[j]? = some ((l[j] : Nat) : Int) := by simp [natI, h]
/-- Numbers that a call tells, and that nothing is wrong. -/
def NumRes (d : List Int) (w : World) (e : Ending) (w' : World) : Prop :=
  ∃ a c, e = .returned (.tuple #[.slice a d.length c, .int .i64 0]) ∧ Lst encI w' a d ∧ Below w.heap.size w w'
structure HW (w1 wr : World) (gd qb qg N : Nat) (d : List Int) (Q : List Nat) : Prop where
  below : Below w1.heap.size w1 wr
  dist : OwnL encI wr w1.heap.size 3 (.slice (some ⟨gd, 0, none⟩) N N) d
  que : QIs wr qb qg N (natI Q)
  lb : w1.heap.size ≤ gd ∧ w1.heap.size ≤ qb ∧ w1.heap.size ≤ qg
  ne : gd ≠ qb ∧ gd ≠ qg
section
variable {w1 wr w2 : World} {gd qb qg N : Nat} {d : List Int} {Q Q' : List Nat}
theorem HW.drewN (h : HW w1 wr gd qb qg N d Q) (n : Nat) : HW w1 (wr.drewN n) gd qb qg N d Q :=
  ⟨below_drewN h.below n, h.dist, h.que, h.lb, h.ne⟩
theorem HW.turned (h : HW w1 wr gd qb qg N d Q) (hq : QIs w2 qb qg N (natI Q')) (hk : Kept (fun i => i = qb ∨ i = qg) wr w2) : HW w1 w2 gd qb qg N d Q' := by
  have hs := h.below.size
  have hl := h.lb
  refine ⟨h.below.trans (hk.below (by omega) (fun i hi => by omega)), ownL_kept h.dist hk (fun g e => ?_), hq, h.lb, h.ne⟩
  simp [Value.ownBlock] at e
  subst e
  have := h.ne
  omega
theorem HW.set (h : HW w1 wr gd qb qg N d Q) (j : Nat) (y : Int) : HW w1 (wr.setCell ⟨gd, j, none⟩ (.int .i64 y)) gd qb qg N (d.set j y) Q :=
  ⟨below_set h.below h.lb.1 _, h.dist.put j y, h.que.kept ((Kept.refl (fun i => i = gd) wr).set (.inl rfl) _) (fun e => h.ne.1 e.symm) (fun e => h.ne.2 e.symm), h.lb, h.ne⟩
end
set_option maxRecDepth 100000 in
set_option maxHeartbeats 4000000 in
theorem hops_ok (n : Int) (b : Bool) (ao : Option Addr) (cap : Nat) (Z : List ArcT) (s : Nat) (w : World) (h : Row encA 4 w ao Z) (hc : checkE n Z = 0) (hs : s < n.toNat) :
    Calls Try.prog 16 #[.agg #[.int .i64 n, .bool b, .slice ao Z.length cap], .int .i64 (s : Int)] w (NumRes (hopK Z n.toNat s n.toNat) w) := by
  have hR : Right (n, b, Z) := right_iff.1 hc
  have hn := nodesE_ok hR.1
  have hzl : Z.length ≤ 200 := hR.2.1
  simp only at hn
  obtain ⟨N, rfl⟩ : ∃ N : Nat, n = (N : Int) := ⟨n.toNat, by omega⟩
  have hsN : s < N := by simpa using hs
  have HS := Lib.hid hs
  have HC := Lib.hid hc
  have HRT := Lib.hid hR
  have HR := Lib.hid (row_alloc h (.cells #[.int .i64 (N : Int), .bool b, .slice ao Z.length cap] 24))
  clear h hc hR hs
  go_enter Try.func16, Try.ntmps16
  have c0 := cell_new w #[.int .i64 (N : Int), .bool b, .slice ao Z.length cap] 24 0
  have c2 := cell_new w #[.int .i64 (N : Int), .bool b, .slice ao Z.length cap] 24 2
  have HB0 : Hid (Below w.heap.size w (w.alloc (.cells #[.int .i64 (N : Int), .bool b, .slice ao Z.length cap] 24))) := Lib.hid ((Below.refl _ w).alloc (Nat.le_refl _) _)
  go_wp2_with (first
    | (go_at_call 28; refine (start_ok (N : Int) b ao cap Z s _ HR.out HC.out HS.out).mono ?_; rintro e w2 ⟨w1, g1, cg1, gd, rfl, hb1, hg1, hgd, ho2, hb2⟩; rw [Int.toNat_natCast] at hg1 ho2 ⊢; have d0 := cell_below hb1 c0; have d2 := cell_below hb1 c2; have k0 := cell_below hb2 d0; have HR1 := Lib.hid (HR.out.below' hb1); have HG1 := Lib.hid hg1; have HO2 := Lib.hid ho2; have HB1 := Lib.hid (HB0.out.trans (hb1.mono (by simp))); have HB2 := Lib.hid hb2; clear hb1 hg1 ho2 hb2 c0 c2)
    | (go_at_call 29; refine (newq_at _ N _ rfl (by omega)).mono ?_; rintro e w3 ⟨qb, qg, hqb, hqg, rfl, hq3, hb3⟩; have hgd2 : gd < w2.heap.size := (own_lt2 HO2.out rfl).2; have hs2 := HB2.out.size; have HW3 : Hid (HW w1 w3 gd qb qg N (startD N s) []) := Lib.hid ⟨HB2.out.trans (hb3.mono HB2.out.size), HO2.out.below hb3, hq3, ⟨hgd, by omega, by omega⟩, by omega, by omega⟩; clear hq3 hb3 k0)
    | (go_at_call 30; refine (put_yes qb qg N (natI []) (s : Int) _ HW3.out.que (by simp [natI]; omega)).mono ?_; rintro e w4 ⟨rfl, hq4, hk4⟩; have HW4 : Hid (HW w1 w4 gd qb qg N (startD N s) [s]) := Lib.hid (HW3.out.turned hq4 hk4); clear hq4 hk4))
  go_loopg [] (N + 1) (fun k wr => ∃ d Q D K, k + D.length = N + 1 ∧ Hid (HW w1 wr gd qb qg N d Q) ∧ Hid (BI Z N s d Q D K []))
  case atStart => exact ⟨startD N s, [s], [], 0, by simp, HW4, Lib.hid (BI.start hsN)⟩
  case round =>
    obtain ⟨d, Q, D, K, hk, HWO, HI⟩ := hrel
    obtain ⟨wo, hwo⟩ : ∃ wo, wo = wr := ⟨_, rfl⟩
    subst hwo
    have hkb := HI.out.kb
    have e0 := cell_below' HWO.out.below d0 (block_lt_of_cell d0)
    cases Q with
    | nil =>
      go_wp2_with (first
        | (go_at_call 31; refine (qlen_any qb qg N (natI []) _ HWO.out.que).mono ?_; rintro e w5 ⟨rfl, nn, rfl⟩; have HW5 := Lib.hid (HWO.out.drewN nn)))
      go_ret2
      have hD := isDist_unique (HI.out.done hsN (by have := right_ends HRT.out; simpa using this)) (hop_isDist hsN (by have := right_ends HRT.out; simpa using this))
      obtain ⟨a, c, e, hl⟩ := HW5.out.dist.lst
      have hlen := HI.out.len
      refine ⟨a, c, ?_, ?_, HB1.out.trans (HW5.out.below.mono HB1.out.size)⟩
      · rw [Int.toNat_natCast, ← hD, ← e]; rfl
      · rw [Int.toNat_natCast, ← hD]; exact hl
    | cons u Q =>
      obtain ⟨hI2, hu, hDl⟩ := HI.out.take
      have HI2 := Lib.hid hI2
      obtain ⟨ao2, cap2, hg1lt, hcl, hlst⟩ := HG1.out.at hu
      have hun : (u : Int) < (N : Int) := by omega
      have HL := Lib.hid hlst
      have hpl := places_len frN Z u
      have HQ : Hid (((natI (u :: Q)).length : Int) = (Q.length : Int) + 1) := Lib.hid (by simp [natI])
      obtain ⟨P, hP⟩ : ∃ P, places frN Z u = P := ⟨_, rfl⟩
      rw [hP] at hcl hpl
      have HP := Lib.hid hP
      clear hI2 hP hlst
      obtain ⟨K1, hK1⟩ : ∃ K1, atI d u = K1 := ⟨_, rfl⟩
      have HK1 := Lib.hid hK1
      clear hK1
      go_wp2_with (first
        | (go_at_call 31; refine (qlen_any qb qg N (natI (u :: Q)) _ HWO.out.que).mono ?_; rintro e w5 ⟨rfl, nn, rfl⟩; rw [HQ.out]; have HW5 := Lib.hid (HWO.out.drewN nn))
        | (go_at_call 32; refine (take_yes qb qg N (natI Q) (u : Int) _ HW5.out.que).mono ?_; rintro e w6 ⟨rfl, hq6, hk6⟩; have HW6 : Hid (HW w1 w6 gd qb qg N d Q) := Lib.hid (HW5.out.turned hq6 (hk6.mono (fun i _ h => .inl h))); have f1 := cell_below' HW6.out.below hcl hg1lt; clear hq6 hk6))
      go_loopw [48] (fun i wi => ∃ (j : Nat) (d' : List Int) (Q' : List Nat), j ≤ P.length ∧ i = .int .i64 (j : Int) ∧ Hid (HW w1 wi gd qb qg N d' Q') ∧ Hid (BI Z N s d' Q' (u :: D) K1 (P.drop j)) ∧ Hid (atI d' u = K1)) (fun i _ => P.length - (intOf i).toNat)
      case atStart => exact ⟨0, d, Q, Nat.zero_le _, rfl, HW6, Lib.hid (by rw [List.drop_zero, ← HP.out, ← HK1.out]; exact HI2.out), HK1⟩
      case round =>
        obtain ⟨j, d', Q', hj, rfl, HWI, HJ, HKU⟩ := hrel
        have dd2 := cell_below' HWI.out.below d2 (block_lt_of_cell d2)
        have hkb2 := HJ.out.kb
        have hka : 0 ≤ K1 := hkb2.1
        have hkc : K1 ≤ 50 := by have := hkb2.2; simp only [List.length_cons] at this; omega
        clear hkb2
        by_cases hlt : j < P.length
        · have hli : (j : Int) < (P.length : Int) := by omega
          have hpm : P[j] ∈ places frN Z u := by rw [HP.out]; exact List.getElem_mem hlt
          obtain ⟨bb, oo, e, hbb, hcp⟩ := lst_cell HL.out (i := j) (x := ((P[j] : Nat) : Int)) (by rw [HP.out]; exact natI_at hlt)
          cases e
          have hcp' := cell_below' HWI.out.below hcp hbb
          unfold encI at hcp'
          have hDr : P.drop j = P[j] :: P.drop (j + 1) := List.drop_eq_getElem_cons hlt
          have hJ := HJ.out
          rw [hDr] at hJ
          generalize P[j] = p at *
          obtain ⟨a, hpa, hfa⟩ := places_mem.1 hpm
          obtain ⟨h1, h2, h3, h4, h5, h6⟩ := right_arc HRT.out (List.mem_of_getElem? hpa)
          rw [Int.toNat_natCast] at h3 h4
          obtain ⟨ab, ax, e, hab, _, a1, _, _⟩ := arc_at (HR1.out.below' HWI.out.below) hpa
          cases e
          rw [h2] at a1
          have hpz : p < Z.length := (List.getElem?_eq_some_iff.1 hpa).1
          have hpi : (p : Int) < (Z.length : Int) := by omega
          have hdl := HJ.out.len
          obtain ⟨hcx, hfx⟩ := HWI.out.dist.cell (atI_get (v := toN a) (by omega))
          obtain ⟨hcu, hfu⟩ := HWI.out.dist.cell (atI_get (v := u) (by omega))
          rw [HKU.out] at hcu
          unfold encI at hcx hcu
          have HPA := Lib.hid hpa
          have HFA := Lib.hid hfa
          have HJ2 := Lib.hid hJ
          have hnn := fun h => (HJ.out.sound (toN a) (by omega)).resolve_left h
          clear hpm hcp hDr hJ hpa hfa h1 h2 h3 h5 h6 hdl
          by_cases h0 : atI d' (toN a) = -1
          · obtain ⟨hI3, hK3, hQl⟩ := HJ2.out.put HPA.out (by rw [HFA.out]; exact HKU.out) (by rw [HFA.out]; simp) h4 h0
            rw [HFA.out] at hK3
            rw [h0] at hcx
            have HI3 := Lib.hid hI3
            have HK3 := Lib.hid hK3
            have HWS := Lib.hid (HWI.out.set (toN a) (K1 + 1))
            clear hI3 hK3 h0 hnn
            generalize toN a = x at *
            have hxi : (x : Int) < (N : Int) := by omega
            go_wp2_with (first
              | (go_at_call 30; refine (put_yes qb qg N (natI Q') (x : Int) _ HWS.out.que (by rw [natI_len]; exact hQl)).mono ?_; rintro e w7 ⟨rfl, hq7, hk7⟩; have HW7 : Hid (HW w1 w7 gd qb qg N (d'.set x (K1 + 1)) (Q' ++ [x])) := Lib.hid (HWS.out.turned (by rw [natI_snoc]; exact hq7) hk7); clear hq7 hk7))
            go_roundw
            case rel => exact ⟨j + 1, _, _, by omega, by go_num, HW7, HI3, HK3⟩
            case measure => simp [intOf]; omega
          · have HI3 := Lib.hid (HJ2.out.skip HPA.out (by rw [HFA.out]; exact HKU.out) h4 (hnn h0).1)
            obtain ⟨dv, hdv⟩ : ∃ dv, atI d' (toN a) = dv := ⟨_, rfl⟩
            rw [hdv] at hcx h0
            have hf1 : (dv == -1) = false := by simpa using h0
            clear hdv hnn hcu hfu
            generalize toN a = x at *
            have hxi : (x : Int) < (N : Int) := by omega
            go_wp2
            go_roundw
            case rel => exact ⟨j + 1, d', Q', by omega, by go_num, HWI, HI3, HKU⟩
            case measure => simp [intOf]; omega
        · have hli : ¬ (j : Int) < (P.length : Int) := by omega
          obtain rfl : j = P.length := by omega
          have hJ := HJ.out
          rw [List.drop_length] at hJ
          have HJ2 := Lib.hid hJ
          clear hJ
          go_wp2
          go_roundg (gk - 1)
          case measure => omega
          case rel => exact ⟨d', Q', u :: D, K1, by simp only [List.length_cons]; omega, HWI, HJ2⟩
end Go.Proofs.Ytfnafdjcncgcnaa
