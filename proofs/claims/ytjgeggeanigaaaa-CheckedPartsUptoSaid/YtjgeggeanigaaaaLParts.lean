/- Statement CheckedParts in its second form, at the commit that the claim names: for any two lists of numbers of 64 bits, the sum of both together is the sum of both sums, if they fit. Its one condition: the arguments hold together at most 1048576 values. -/
import Derived.Test.YtjgeggeanigaaaaParts
import Derived.ProofKit
import Derived.JoinedCond
namespace Go.Proofs.Ytjgeggeanigaaaa.checkedParts
open Go.ChangeShapes Go.WideShapes Go.ChangeAt Go.RowKit
set_option linter.unusedVariables false

theorem own : ownKnob Try.prog.godebug = none := by kernel_rfl
theorem laidOut : laidOutB Try.prog = true := by kernel_rfl
theorem cellsInt : Try.prog.cellsOf 3 = 1 := by kernel_rfl

/-- A list that came in, nil or not: its numbers, where they lie, how much it weighs. -/
theorem view {H : Type} {enc : TypeId × Value → H} {W : World} {fuel : Nat} {a0 : Option Addr} {len cap : Nat} {d : DataW H} {p : List MemPlace}
    (hf : DataW.trod enc Try.prog W 0 (fun _ => true) true fuel 27 (Value.slice a0 len cap).cells.toList = some (d, p)) :
    ∃ Z : List Int, Z.length = len ∧ (a0 = none → cap = 0) ∧ RI W a0 Z ∧ In64 Z ∧ Z.length ≤ Rows.uptoBulk d := by
  rcases open_ints Try.underlying27 Try.underlying3 cellsInt hf with ⟨hcs, hx⟩ | ⟨a, len', cap', zs, hcs, _, hl, hm, hz, hx, hcell, hwz⟩
  · simp [Value.cells] at hcs
    obtain ⟨rfl, rfl, rfl⟩ := hcs
    exact ⟨[], rfl, fun _ => rfl, fun i hi => absurd hi (by simp), (fun z hz => by cases hz), Nat.zero_le _⟩
  · simp [Value.cells] at hcs
    obtain ⟨rfl, rfl, rfl⟩ := hcs
    simp only [Prod.mk.injEq] at hx
    obtain ⟨rfl, rfl⟩ := hx
    simp only [if_true] at hz
    refine ⟨zs.take len, by simp; omega, (fun h => by cases h), fun i hi => ?_, fun z hz2 => wf_i64 (hwz z (List.mem_of_mem_take hz2)), ?_⟩
    · have hi' : i < len := by simp at hi; omega
      have hc := hcell i (by omega)
      have hb := block_lt_of_cell hc
      rw [add_block] at hb
      refine ⟨a, rfl, hb, ?_⟩
      rw [hc]
      simp [List.getD, hi']
    · have h1 : ∀ l : List (DataW H), l.length ≤ Rows.uptoBulkAll l := by
        intro l
        induction l with
        | nil => exact Nat.zero_le _
        | cons x r ih =>
          have hx1 : 1 ≤ Rows.uptoBulk x := by
            cases x with
            | lit l => cases l <;> simp [Rows.uptoBulk]
            | _ => simp [Rows.uptoBulk]
          simp only [Rows.uptoBulkAll, List.length_cons]; omega
      have h2 := h1 (lits .i64 (zs.take len))
      simp only [Rows.uptoBulk]
      rw [show (lits (H := H) .i64 (zs.take len)).length = (zs.take len).length by simp [lits]] at h2
      omega

theorem fin {w w1 w2 w3 : World} {ao : Option Addr} {n cap : Nat} (h1 : Below w.heap.size w w1) (h2 : w1.grownBy w2 none) (h3 : w2.grownBy w3 (Value.slice ao n cap).ownBlock) (hk : ∀ k, (Value.slice ao n cap).ownBlock = some k → w1.heap.size ≤ k) : Below w.heap.size w w3 := by
  have a2 := h1.grown h2 h1.size (fun k hk => by cases hk)
  exact a2.grown h3 (Nat.le_trans h1.size h2.size) (fun k h => Nat.le_trans h1.size (hk k h))
set_option maxHeartbeats 1000000 in
theorem walk (a : Option Addr) (la ca : Nat) (A : List Int) (b : Option Addr) (lb cb : Nat) (B : List Int) (w : World) (hla : A.length = la) (hna : a = none → ca = 0) (hra : RI w a A) (hza : In64 A) (hlb : B.length = lb) (hnb : b = none → cb = 0) (hrb : RI w b B) (hzb : In64 B) (hs : A.length + B.length ≤ 1048576) :
    Calls Try.prog 12 #[.slice a la ca, .slice b lb cb] w fun e w' => e = .returned (.bool true) ∧ Below w.heap.size w w' := by
  have HLa := Lib.hid hla
  have HNa := Lib.hid hna
  have HRa := Lib.hid hra
  have HZa := Lib.hid hza
  have HLb := Lib.hid hlb
  have HNb := Lib.hid hnb
  have HRb := Lib.hid hrb
  have HZb := Lib.hid hzb
  have hs2 : la + lb ≤ 1048576 := by omega
  clear hla hna hra hza hlb hnb hrb hzb
  have HZ2 : Hid (In64 (A ++ B)) := Lib.hid (fun z hz => (List.mem_append.1 hz).elim (HZa.out z) (HZb.out z))
  have HS2 : Hid (fitR (A ++ B).sum = fitR (A.sum + B.sum)) := Lib.hid (by rw [List.sum_append])
  generalize HXa : A.sum = x at HS2
  generalize HXb : B.sum = y at HS2
  by_cases fa : -9223372036854775808 ≤ x ∧ x ≤ 9223372036854775807
  · have HSa : Hid (fitR A.sum = .tuple #[.int .i64 x, .bool true]) := Lib.hid (by rw [HXa]; exact fitR_yes fa)
    obtain ⟨fa1, fa2⟩ := fa
    by_cases fb : -9223372036854775808 ≤ y ∧ y ≤ 9223372036854775807
    · have HSb : Hid (fitR B.sum = .tuple #[.int .i64 y, .bool true]) := Lib.hid (by rw [HXb]; exact fitR_yes fb)
      obtain ⟨fb1, fb2⟩ := fb
      clear HXa HXb
      go_enter Try.func12, Try.ntmps12
      go_wp2_with (first | (go_at_call 21; refine (awake_any _).mono ?_; rintro e w1 ⟨rfl, hb1⟩; have HA1 := Lib.hid (HRa.out.below hb1); have HB1 := Lib.hid (HRb.out.below hb1)) | (go_at_call 24; first | ((with_reducible refine (sum_any a la ca A _ HLa.out HA1.out HZa.out (by omega)).mono ?_); rintro e w' ⟨rfl, rfl⟩; rw [HSa.out]) | ((with_reducible refine (sum_any b lb cb B _ HLb.out HB1.out HZb.out (by omega)).mono ?_); rintro e w' ⟨rfl, rfl⟩; rw [HSb.out]) | ((with_reducible refine (sum_any ao2 (la + lb) cap2 (A ++ B) _ HL2.out HR2.out HZ2.out (by rw [HL2.out]; omega)).mono ?_); rintro e w' ⟨rfl, rfl⟩; rw [HS2.out]; unfold fitR)) | (at_builtin; refine wpList_append_ri rfl (.tmp 28) (.tmp 29) rfl w1.heap.size (.slice none 0 0) 0 [] rfl (World.ownsRow_nil _ _ _ _) a la ca A rfl HLa.out HNa.out HA1.out (by omega) (Nat.le_refl _) ?_; intro v1 w2 hown1 hgrow1; simp only [Nat.zero_add, List.nil_append] at hown1; obtain ⟨ao1, cap1, rfl, hri1, hlen1, hbk1⟩ := own_ri hown1; have HO1 := Lib.hid hown1; have HG1 := Lib.hid hgrow1; have HK1 := Lib.hid hbk1; have HB2 := Lib.hid (HB1.out.grown hgrow1); clear hown1 hgrow1 hbk1 hri1 hlen1) | (at_builtin; refine wpList_append_ri rfl (.tmp 31) (.tmp 32) rfl w1.heap.size (.slice ao1 la cap1) la A rfl HO1.out b lb cb B rfl HLb.out HNb.out HB2.out (by omega) HG1.out.size ?_; intro v2 w3 hown2 hgrow2; obtain ⟨ao2, cap2, rfl, hri2, hlen2, hbk2⟩ := own_ri hown2; have HL2 := Lib.hid hlen2; have HR2 := Lib.hid hri2; have HG2 := Lib.hid hgrow2; have HE := Lib.hid (fin hb1 HG1.out HG2.out HK1.out); clear hown2 hgrow2 hbk2 hri2 hlen2) | (go_at_call 15; refine (add_any _ _ _ (by omega) (by omega) (by omega) (by omega)).mono ?_; rintro e w' ⟨rfl, rfl⟩; unfold fitR))
      all_goals (go_ret; exact ⟨by simp, HE.out⟩)
    · have HSb : Hid (fitR B.sum = .tuple #[.int .i64 0, .bool false]) := Lib.hid (by rw [HXb]; exact fitR_no fb)
      clear HXa HXb fb
      go_enter Try.func12, Try.ntmps12
      go_wp2_with (first | (go_at_call 21; refine (awake_any _).mono ?_; rintro e w1 ⟨rfl, hb1⟩; have HA1 := Lib.hid (HRa.out.below hb1); have HB1 := Lib.hid (HRb.out.below hb1)) | (go_at_call 24; first | ((with_reducible refine (sum_any a la ca A _ HLa.out HA1.out HZa.out (by omega)).mono ?_); rintro e w' ⟨rfl, rfl⟩; rw [HSa.out]) | ((with_reducible refine (sum_any b lb cb B _ HLb.out HB1.out HZb.out (by omega)).mono ?_); rintro e w' ⟨rfl, rfl⟩; rw [HSb.out]) | ((with_reducible refine (sum_any ao2 (la + lb) cap2 (A ++ B) _ HL2.out HR2.out HZ2.out (by rw [HL2.out]; omega)).mono ?_); rintro e w' ⟨rfl, rfl⟩; rw [HS2.out]; unfold fitR)) | (at_builtin; refine wpList_append_ri rfl (.tmp 28) (.tmp 29) rfl w1.heap.size (.slice none 0 0) 0 [] rfl (World.ownsRow_nil _ _ _ _) a la ca A rfl HLa.out HNa.out HA1.out (by omega) (Nat.le_refl _) ?_; intro v1 w2 hown1 hgrow1; simp only [Nat.zero_add, List.nil_append] at hown1; obtain ⟨ao1, cap1, rfl, hri1, hlen1, hbk1⟩ := own_ri hown1; have HO1 := Lib.hid hown1; have HG1 := Lib.hid hgrow1; have HK1 := Lib.hid hbk1; have HB2 := Lib.hid (HB1.out.grown hgrow1); clear hown1 hgrow1 hbk1 hri1 hlen1) | (at_builtin; refine wpList_append_ri rfl (.tmp 31) (.tmp 32) rfl w1.heap.size (.slice ao1 la cap1) la A rfl HO1.out b lb cb B rfl HLb.out HNb.out HB2.out (by omega) HG1.out.size ?_; intro v2 w3 hown2 hgrow2; obtain ⟨ao2, cap2, rfl, hri2, hlen2, hbk2⟩ := own_ri hown2; have HL2 := Lib.hid hlen2; have HR2 := Lib.hid hri2; have HG2 := Lib.hid hgrow2; have HE := Lib.hid (fin hb1 HG1.out HG2.out HK1.out); clear hown2 hgrow2 hbk2 hri2 hlen2))
      all_goals (go_ret; exact ⟨by simp, HE.out⟩)
  · have HSa : Hid (fitR A.sum = .tuple #[.int .i64 0, .bool false]) := Lib.hid (by rw [HXa]; exact fitR_no fa)
    have HSb : Hid (fitR B.sum = .tuple #[.int .i64 (fitV y), .bool (fitB y)]) := Lib.hid (by rw [HXb]; rfl)
    clear HXa HXb fa
    go_enter Try.func12, Try.ntmps12
    go_wp2_with (first | (go_at_call 21; refine (awake_any _).mono ?_; rintro e w1 ⟨rfl, hb1⟩; have HA1 := Lib.hid (HRa.out.below hb1); have HB1 := Lib.hid (HRb.out.below hb1)) | (go_at_call 24; first | ((with_reducible refine (sum_any a la ca A _ HLa.out HA1.out HZa.out (by omega)).mono ?_); rintro e w' ⟨rfl, rfl⟩; rw [HSa.out]) | ((with_reducible refine (sum_any b lb cb B _ HLb.out HB1.out HZb.out (by omega)).mono ?_); rintro e w' ⟨rfl, rfl⟩; rw [HSb.out]) | ((with_reducible refine (sum_any ao2 (la + lb) cap2 (A ++ B) _ HL2.out HR2.out HZ2.out (by rw [HL2.out]; omega)).mono ?_); rintro e w' ⟨rfl, rfl⟩; rw [HS2.out]; unfold fitR)) | (at_builtin; refine wpList_append_ri rfl (.tmp 28) (.tmp 29) rfl w1.heap.size (.slice none 0 0) 0 [] rfl (World.ownsRow_nil _ _ _ _) a la ca A rfl HLa.out HNa.out HA1.out (by omega) (Nat.le_refl _) ?_; intro v1 w2 hown1 hgrow1; simp only [Nat.zero_add, List.nil_append] at hown1; obtain ⟨ao1, cap1, rfl, hri1, hlen1, hbk1⟩ := own_ri hown1; have HO1 := Lib.hid hown1; have HG1 := Lib.hid hgrow1; have HK1 := Lib.hid hbk1; have HB2 := Lib.hid (HB1.out.grown hgrow1); clear hown1 hgrow1 hbk1 hri1 hlen1) | (at_builtin; refine wpList_append_ri rfl (.tmp 31) (.tmp 32) rfl w1.heap.size (.slice ao1 la cap1) la A rfl HO1.out b lb cb B rfl HLb.out HNb.out HB2.out (by omega) HG1.out.size ?_; intro v2 w3 hown2 hgrow2; obtain ⟨ao2, cap2, rfl, hri2, hlen2, hbk2⟩ := own_ri hown2; have HL2 := Lib.hid hlen2; have HR2 := Lib.hid hri2; have HG2 := Lib.hid hgrow2; have HE := Lib.hid (fin hb1 HG1.out HG2.out HK1.out); clear hown2 hgrow2 hbk2 hri2 hlen2))
    all_goals (go_ret; exact ⟨by simp, HE.out⟩)

theorem contract (H : Type) (enc : TypeId × Value → H) (W : World) (base : Nat) (args : Array Value) (ds gs : List (DataW H)) (before : List MemPlace)
    (hval : ∀ (j : Nat) t v, Try.f12.params[j]? = some t → args[j]? = some v → Value.okWide Try.prog W .any base t v)
    (hW : DataW.Whole enc Try.prog Try.f12.params.toList Rows.checkedPartsSpec.vars false W args.toList ds gs before) (hk : Rows.uptoSmall H (ds ++ gs) = true) :
    Calls Try.prog 12 args W fun e W' => ∃ v, e = .returned v ∧ Rows.checkedPartsSpec.post enc Try.prog Try.f12 false true false false W args v W' := by
  have hW' := hW
  obtain ⟨p, q, hA0, hV, rfl, hfz, hnd⟩ := hW
  have hA : DataW.TrodAll enc Try.prog W 0 (fun _ => true) true Try.f12.params.toList args.toList ds p := hA0
  rw [Try.params12] at hA hval
  obtain ⟨v0, vs0, d0, ds0, p0, q0, hargs, rfl, rfl, h0, r0⟩ := trodAll_cons hA
  obtain ⟨v1, vs1, d1, ds1, p1, q1, rfl, rfl, rfl, h1, r1⟩ := trodAll_cons r0
  obtain ⟨rfl, rfl, rfl⟩ := trodAll_nil r1
  obtain rfl : args = #[v0, v1] := by cases args; simp_all
  obtain ⟨rfl, rfl⟩ := trodVars_none hV
  obtain ⟨a0, l0, c0, rfl⟩ := okWide_slice Try.underlying27 (hval 0 27 v0 rfl rfl)
  obtain ⟨a1, l1, c1, rfl⟩ := okWide_slice Try.underlying27 (hval 1 27 v1 rfl rfl)
  clear hA0
  simp only [List.append_nil] at hW' hk
  have hlt : ∀ x ∈ p0 ++ p1, x.block < W.heap.size := fun x hx => by simpa using hW'.lt x (by simpa using hx)
  have h0k := h0
  obtain ⟨fu0, hf0⟩ := h0
  obtain ⟨Z0, hl0, hn0, hr0, hz0, hu0⟩ := view hf0
  have h1k := h1
  obtain ⟨fu1, hf1⟩ := h1
  obtain ⟨Z1, hl1, hn1, hr1, hz1, hu1⟩ := view hf1
  have hbk : Rows.uptoBulkAll [d0, d1] ≤ 1048576 := of_decide_eq_true hk
  simp only [Rows.uptoBulkAll] at hbk
  refine (walk a0 l0 c0 Z0 a1 l1 c1 Z1 W hl0 hn0 hr0 hz0 hl1 hn1 hr1 hz1 (by omega)).mono fun e W' ⟨he, hg⟩ => ?_
  subst he
  exact ⟨_, rfl, _, _, _, _, _, [], hW', (trodAll_cons_mk (shut_bool Try.underlying4 _) trodAll_mk0), (trodAll_cons_mk (Below.trod laidOut (by kernel_rfl) (of_decide_eq_true (by kernel_rfl)) h0k hg (fun x hx => hlt x (by simp [hx]))) (trodAll_cons_mk (Below.trod laidOut (by kernel_rfl) (of_decide_eq_true (by kernel_rfl)) h1k hg (fun x hx => hlt x (by simp [hx]))) trodAll_mk0)), rfl, hg.frame _, fun h => by cases h⟩

set_option maxRecDepth 100000 in
theorem lifted (os : Os) (started : os.Started) (H : Type) (enc : TypeId × Value → H) (F : Stop.Interp) :
    ReturnsInHanded {} Try.checked os 12 .any ((Rows.OpenSpec.upto Rows.checkedPartsSpec).pre6 enc Try.prog Try.f12 Rows.checkedPartsUptoRow.domain false) (((Rows.OpenSpec.upto Rows.checkedPartsSpec).at F).post enc Try.prog Try.f12 false true false false) := by
  refine returnsInHanded_of_cond (C := Try.checked) (s := Rows.OpenSpec.upto Rows.checkedPartsSpec) (k := Rows.uptoSmall) rfl own started (by kernel_rfl) Try.func12
    (OpenSpec.witness (enc := enc) (C := Try.checked) (s := Rows.OpenSpec.upto Rows.checkedPartsSpec) (k := Rows.uptoSmall) rfl false ⟨#[], #[.slice none 0 0, .slice none 0 0], []⟩ 8 (by kernel_rfl) (by kernel_rfl) (by kernel_rfl)
      (x := ([.nil, .nil], [], [])) (by kernel_rfl) rfl (by kernel_rfl)) ?_
  intro W base args ds gs before hval hW _ hk _
  exact contract H enc W base args ds gs before hval hW hk

/-- The given statement. -/
theorem proved : Rows.CheckedPartsUptoSaid :=
  OpenClaim.holds_of_cond 12 Try.f12 rfl rfl rfl rfl rfl rfl rfl ⟨rfl, rfl, rfl, rfl, rfl⟩ rfl rfl rfl rfl rfl (by kernel_rfl) Try.func12 (by kernel_rfl)
    (of_decide_eq_true (by kernel_rfl)) (by unfold Func.isWrapper; first | (rw [if_pos (by decide +kernel)]; kernel_rfl) | (rw [if_neg (by decide +kernel)]; exact ⟨rfl, rfl⟩))
    (fun os started H enc _ F => lifted os started H enc F)
#print axioms proved
end Go.Proofs.Ytjgeggeanigaaaa.checkedParts
