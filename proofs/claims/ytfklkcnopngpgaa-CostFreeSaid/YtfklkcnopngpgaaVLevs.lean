/- What Levels and Path of layer 8 answer, in plain lists; and that package level's answer just that. -/
import Derived.Test.YtfklkcnopngpgaaVPath
import Derived.Test.YtfklkcnopngpgaaBD
namespace Go.Proofs.Ytfklkcnopngpgaa
open Go.RowKit
set_option linter.unusedVariables false

def seekF (n : Int) (Z : List ArcT) (F : List Int) (s : Int) : List Ent := seekK (fromS Z) (toS Z) (stepsK Z F Z.length) s.toNat n.toNat
def levE (n : Int) (Z : List ArcT) (F : List Int) (s : Int) : Int := if flowE n Z F = 0 then (if nodeB n s = true then 0 else 1) else flowE n Z F
def levL (n : Int) (Z : List ArcT) (F : List Int) (s : Int) : List Int := if levE n Z F s = 0 then farsL (seekF n Z F s) n.toNat else []
def pathE (n : Int) (Z : List ArcT) (F : List Int) (s t : Int) : Int := if flowE n Z F = 0 then endsE n Z s t else flowE n Z F
def wayF (n : Int) (Z : List ArcT) (F : List Int) (s t : Int) : Option (List StepT) := if pathE n Z F s t = 0 then wayK (fromS Z) (toS Z) (stepsK Z F Z.length) n.toNat s.toNat t.toNat else none
def wayL (n : Int) (Z : List ArcT) (F : List Int) (s t : Int) : List StepT := (wayF n Z F s t).getD []
def wayB (n : Int) (Z : List ArcT) (F : List Int) (s t : Int) : Bool := (wayF n Z F s t).isSome
theorem levE_ok {n : Int} {Z : List ArcT} {F : List Int} {s : Int} (h : levE n Z F s = 0) : flowE n Z F = 0 ∧ nodeB n s = true ∧ ∃ i : Nat, s = (i : Int) ∧ i < n.toNat := by
  unfold levE at h
  split at h
  · next h1 =>
    split at h
    · next h2 =>
      have h3 := h2
      unfold nodeB at h3
      rw [decide_eq_true_eq] at h3
      exact ⟨h1, h2, s.toNat, by omega, by omega⟩
    · exact absurd h (by decide)
  · next h1 => exact absurd h h1
theorem pathE_ok {n : Int} {Z : List ArcT} {F : List Int} {s t : Int} (h : pathE n Z F s t = 0) : flowE n Z F = 0 ∧ endsE n Z s t = 0 := by
  unfold pathE at h
  split at h
  · next h1 => exact ⟨h1, h⟩
  · next h1 => exact absurd h h1
theorem levL_no {n : Int} {Z : List ArcT} {F : List Int} {s : Int} (h : levE n Z F s ≠ 0) : levL n Z F s = [] := by unfold levL; rw [if_neg h]
theorem wayF_no {n : Int} {Z : List ArcT} {F : List Int} {s t : Int} (h : pathE n Z F s t ≠ 0) : wayF n Z F s t = none := by unfold wayF; rw [if_neg h]
theorem flow_arcs {n : Int} {Z : List ArcT} {F : List Int} (h : flowE n Z F = 0) : (∀ a ∈ Z, a.1 = (frN a : Int) ∧ a.2.1 = (toN a : Int)) ∧ (∀ (p : Nat) (a : ArcT) (q : Bool), Z[p]? = some a → toS Z ((p : Int), q) < n.toNat ∧ fromS Z ((p : Int), q) < n.toNat) := by
  have hR := (flow_facts (b := true) h).1
  refine ⟨fun a ha => ⟨(right_arc hR ha).1, (right_arc hR ha).2.1⟩, fun p a q ha => ?_⟩
  obtain ⟨_, _, h1, h2, _, _⟩ := right_arc hR (List.mem_of_getElem? ha)
  have e := arcOf_nat q ha
  unfold toS fromS
  rw [e]
  cases q <;> simp [h1, h2]
theorem stepsK_arc {Z : List ArcT} {F : List Int} {y : StepT} (h : y ∈ stepsK Z F Z.length) : ∃ (p : Nat) (a : ArcT) (q : Bool), Z[p]? = some a ∧ y = ((p : Int), q) := by
  obtain ⟨h1, _, _⟩ := (stepsK_mem (Nat.le_refl _)).1 h
  refine ⟨y.1.toNat, _, y.2, arcOf_at h1, ?_⟩
  unfold isArc at h1
  obtain ⟨y1, y2⟩ := y
  simp only at h1 ⊢
  rw [Int.toNat_of_nonneg h1.1]
theorem flow_to {n : Int} {Z : List ArcT} {F : List Int} (h : flowE n Z F = 0) : ∀ y ∈ stepsK Z F Z.length, toS Z y < n.toNat := by
  intro y hy
  obtain ⟨p, a, q, ha, rfl⟩ := stepsK_arc hy
  exact ((flow_arcs h).2 p a q ha).1
/-- What the search finds until t is found is what all of it finds of t. -/
theorem VR.way {Z : List ArcT} {F : List Int} {N s t : Nat} {x : List Ent} {B : List StepT} (h : VR Z F N s (t : Int) x B) (hs : s < N) (hT : ∀ y ∈ stepsK Z F Z.length, toS Z y < N) :
    (farX x t = -1 ∧ wayK (fromS Z) (toS Z) (stepsK Z F Z.length) N s t = none) ∨ ∃ b q, farX x t ≠ -1 ∧ x[b]? = some q ∧ q.1 = t ∧ wayK (fromS Z) (toS Z) (stepsK Z F Z.length) N s t = some (pathX x b) ∧ (pathX x b).length ≤ b ∧ b < N := by
  obtain ⟨i, P, hsk⟩ := h.sk
  by_cases hm : t ∈ keysX x
  · obtain ⟨b, q, hb, hq⟩ := keysX_mem.1 hm
    obtain ⟨r, hr⟩ := h.pre
    have hbl := (List.getElem?_eq_some_iff.1 hb).1
    have hb2 : (seekK (fromS Z) (toS Z) (stepsK Z F Z.length) s N)[b]? = some q := by rw [hr, List.getElem?_append_left hbl]; exact hb
    have hw := wayK_mk hs hT hb2 hq
    have e : pathX (seekK (fromS Z) (toS Z) (stepsK Z F Z.length) s N) b = pathX x b := by rw [hr]; exact pathN_prefix hsk b b hbl
    rw [e] at hw
    have hle : ∀ (n j : Nat), j ≤ n → j < x.length → (pathX x j).length ≤ j := by
      intro n
      induction n with
      | zero => intro j hj _; obtain rfl : j = 0 := by omega
                simp [pathX_zero]
      | succ n ih =>
        intro j hj hjl
        by_cases h0 : j = 0
        · subst h0; simp [pathX_zero]
        · have he := List.getElem?_eq_getElem hjl
          rw [pathX_succ hsk he (by omega), List.length_append]
          have h3 := (hsk.par j _ he (by omega)).2.2.1
          have := ih _ (by omega) (by omega : x[j].2.2 < x.length)
          simp only [List.length_singleton]
          omega
    have hl := seek_len hsk hs hT
    exact .inr ⟨b, q, (far_mem hsk).1 hm, hb, hq, hw, hle b b (Nat.le_refl _) hbl, by omega⟩
  · refine .inl ⟨farX_none hm, ?_⟩
    rcases h.all with e | ⟨v, e1, e2⟩
    · cases hw : wayK (fromS Z) (toS Z) (stepsK Z F Z.length) N s t with
      | none => rfl
      | some p =>
        obtain ⟨b, q, h1, h2, _⟩ := wayK_some hw
        rw [e] at h1
        exact absurd (keysX_mem.2 ⟨b, q, h1, h2⟩) hm
    · have : t = v := by omega
      subst this
      exact absurd e2 hm
theorem field_tree (x y z u v r s m : Value) (W : World) : (Instr.field 78 (.agg #[x, y, z, u, v, r, s, m]) 1).run Try.prog W = .ok s W := by kernel_rfl
section
variable (n : Int) (b : Bool) (ao fo : Option Addr) (cap fc : Nat) (Z : List ArcT) (F : List Int)
/-- What Levels answers. -/
def LevRes (s : Int) (w : World) (e : Ending) (w' : World) : Prop :=
  ∃ a c, e = .returned (.tuple #[.slice a (levL n Z F s).length c, .int .i64 (levE n Z F s)]) ∧ Lst encI w' a (levL n Z F s) ∧ Below w.heap.size w w'
/-- What Path answers. -/
def PathRes (s t : Int) (w : World) (e : Ending) (w' : World) : Prop :=
  ∃ a c, e = .returned (.tuple #[.slice a (wayL n Z F s t).length c, .bool (wayB n Z F s t), .int .i64 (pathE n Z F s t)]) ∧ Row encS 2 w' a (wayL n Z F s t) ∧ Below w.heap.size w w'
theorem lev_no {s e0 : Int} (h : levE n Z F s = e0) (h0 : e0 ≠ 0) {w w' : World} (hb : Below w.heap.size w w') : LevRes n Z F s w (.returned (.tuple #[.slice none 0 0, .int .i64 e0])) w' := by
  have hn := levL_no (n := n) (Z := Z) (F := F) (s := s) (by rw [h]; exact h0)
  exact ⟨none, 0, by rw [hn, h]; rfl, by rw [hn]; exact Lst.nil _ _, hb⟩
theorem path_no {s t e0 : Int} (h : pathE n Z F s t = e0) (h0 : e0 ≠ 0) {w w' : World} (hb : Below w.heap.size w w') : PathRes n Z F s t w (.returned (.tuple #[.slice none 0 0, .bool false, .int .i64 e0])) w' := by
  have hn := wayF_no (n := n) (Z := Z) (F := F) (s := s) (t := t) (by rw [h]; exact h0)
  exact ⟨none, 0, by unfold wayL wayB; rw [hn, h]; rfl, by unfold wayL; rw [hn]; exact Row.nil _ _, hb⟩
set_option maxRecDepth 100000 in
set_option maxHeartbeats 4000000 in
theorem levels_any (s : Int) (w : World) (h : Row encA 4 w ao Z) (hf : Lst encI w fo F) (hz : Z.length ≤ maxLen) (hfl : F.length ≤ maxLen) :
    Calls Try.prog 24 #[.agg #[.int .i64 n, .bool b, .slice ao Z.length cap], .slice fo F.length fc, .int .i64 s] w (LevRes n Z F s w) := by
  have hb00 := (Below.refl _ w).alloc (Nat.le_refl _) (.cells #[.int .i64 n, .bool b, .slice ao Z.length cap] 24)
  have HB0 := Lib.hid hb00
  have c0 := cell_new w #[.int .i64 n, .bool b, .slice ao Z.length cap] 24 0
  have c1 := cell_new w #[.int .i64 n, .bool b, .slice ao Z.length cap] 24 1
  have c2 := cell_new w #[.int .i64 n, .bool b, .slice ao Z.length cap] 24 2
  have HR := Lib.hid (h.below' hb00)
  have HF := Lib.hid (hf.below hb00)
  have HZ := Lib.hid hz
  have HFL := Lib.hid hfl
  clear h hf hz hfl hb00
  obtain ⟨e0, he⟩ : ∃ e0, flowE n Z F = e0 := ⟨_, rfl⟩
  have HE := Lib.hid he
  by_cases h0 : e0 = 0
  · subst h0
    obtain ⟨hR, hFl, hz2, hfz, hn1, hn2⟩ := flow_facts (b := b) he
    obtain ⟨N, rfl⟩ : ∃ N : Nat, n = (N : Int) := ⟨n.toNat, by omega⟩
    have HA := Lib.hid (flow_arcs he)
    have HTT := Lib.hid (flow_to he)
    rw [Int.toNat_natCast] at HA HTT
    have HFZ := Lib.hid hfz
    obtain ⟨q, hq⟩ : ∃ q, nodeB (N : Int) s = q := ⟨_, rfl⟩
    have HQ := Lib.hid hq
    clear he hR hFl hfz hq
    cases q
    · have HL : Hid (levE (N : Int) Z F s = 1) := Lib.hid (by unfold levE; rw [if_pos HE.out, HQ.out]; rfl)
      go_enter Try.func24, Try.ntmps24
      go_wp2_with (first
        | (go_at_call 38; refine (vload_ok (N : Int) b ao fo cap fc Z F _ HR.out HF.out HZ.out HFL.out HE.out).mono ?_; rintro e w1 ⟨g1, k1, g2, k2, rfl, hld, hb1⟩; rw [Int.toNat_natCast] at hld ⊢; have HB1 := Lib.hid (HB0.out.trans (hb1.mono HB0.out.size)); have HLD := Lib.hid hld; clear hb1 hld)
        | (go_at_call 39; refine (vhasnode_is (N : Int) b _ s false _ HQ.out).mono ?_; rintro e w2 ⟨rfl, hb2⟩; have HB2 := Lib.hid ((HB1.out.alloc (Nat.le_trans (Nat.le_refl _) HB1.out.size) _).trans (hb2.mono (by have := HB1.out.size; simp; omega))); clear hb2))
      go_ret2
      exact lev_no (N : Int) Z F HL.out (by decide) HB2.out
    · obtain ⟨_, _, i, rfl, hi⟩ := levE_ok (n := (N : Int)) (Z := Z) (F := F) (s := s) (by unfold levE; rw [if_pos HE.out, HQ.out]; rfl)
      rw [Int.toNat_natCast] at hi
      have hfl := field_tree
      have HL : Hid (levE (N : Int) Z F (i : Int) = 0) := Lib.hid (by unfold levE; rw [if_pos HE.out, HQ.out]; rfl)
      go_enter Try.func24, Try.ntmps24
      go_wp2_with (first
        | (go_at_call 38; refine (vload_ok (N : Int) b ao fo cap fc Z F _ HR.out HF.out HZ.out HFL.out HE.out).mono ?_; rintro e w1 ⟨g1, k1, g2, k2, rfl, hld, hb1⟩; rw [Int.toNat_natCast] at hld ⊢; have HB1 := Lib.hid (HB0.out.trans (hb1.mono HB0.out.size)); have HLD := Lib.hid (hld.below ((Below.refl _ _).alloc (Nat.le_refl _) (.cells #[.int .i64 (N : Int), .bool b, .slice ao Z.length cap, .slice fo F.length fc, .slice (some ⟨g1, 0, none⟩) N k1, .slice (some ⟨g2, 0, none⟩) N k2] 73))); have HBA := Lib.hid (HB1.out.alloc HB1.out.size (.cells #[.int .i64 (N : Int), .bool b, .slice ao Z.length cap, .slice fo F.length fc, .slice (some ⟨g1, 0, none⟩) N k1, .slice (some ⟨g2, 0, none⟩) N k2] 73)); have x0 := cell_new w1 #[.int .i64 (N : Int), .bool b, .slice ao Z.length cap, .slice fo F.length fc, .slice (some ⟨g1, 0, none⟩) N k1, .slice (some ⟨g2, 0, none⟩) N k2] 73 0; have x1 := cell_new w1 #[.int .i64 (N : Int), .bool b, .slice ao Z.length cap, .slice fo F.length fc, .slice (some ⟨g1, 0, none⟩) N k1, .slice (some ⟨g2, 0, none⟩) N k2] 73 1; have x2 := cell_new w1 #[.int .i64 (N : Int), .bool b, .slice ao Z.length cap, .slice fo F.length fc, .slice (some ⟨g1, 0, none⟩) N k1, .slice (some ⟨g2, 0, none⟩) N k2] 73 2; have x3 := cell_new w1 #[.int .i64 (N : Int), .bool b, .slice ao Z.length cap, .slice fo F.length fc, .slice (some ⟨g1, 0, none⟩) N k1, .slice (some ⟨g2, 0, none⟩) N k2] 73 3; have x4 := cell_new w1 #[.int .i64 (N : Int), .bool b, .slice ao Z.length cap, .slice fo F.length fc, .slice (some ⟨g1, 0, none⟩) N k1, .slice (some ⟨g2, 0, none⟩) N k2] 73 4; have x5 := cell_new w1 #[.int .i64 (N : Int), .bool b, .slice ao Z.length cap, .slice fo F.length fc, .slice (some ⟨g1, 0, none⟩) N k1, .slice (some ⟨g2, 0, none⟩) N k2] 73 5; clear hb1 hld)
        | (go_at_call 39; refine (vhasnode_is (N : Int) b _ (i : Int) true _ HQ.out).mono ?_; rintro e w2 ⟨rfl, hb2⟩; have HB2 := Lib.hid (HBA.out.trans (hb2.mono HBA.out.size)); have HLD2 := Lib.hid (HLD.out.below hb2); have y0 := cell_below hb2 x0; have y1 := cell_below hb2 x1; have y2 := cell_below hb2 x2; have y3 := cell_below hb2 x3; have y4 := cell_below hb2 x4; have y5 := cell_below hb2 x5; clear hb2 x0 x1 x2 x3 x4 x5)
        | (go_at_call 40; refine (vsearch_at b ao fo cap fc Z F g1 k1 g2 k2 N i (-1) _ HLD2.out hi (by omega) hz2 HFZ.out HA.out.1 HTT.out (fun p a q h => (HA.out.2 p a q h).1)).mono ?_; rintro e w3 ⟨gd, gb, x, B, rfl, htr, hvr⟩; have HTR := Lib.hid htr; have HVR := Lib.hid hvr; clear htr hvr))
      go_ret2
      have hX : seekF (N : Int) Z F (i : Int) = x := by
        unfold seekF
        rw [Int.toNat_natCast, Int.toNat_natCast]
        rcases HVR.out.all with h1 | ⟨v, h1, _⟩
        · exact h1
        · omega
      have hl : levL (N : Int) Z F (i : Int) = farsL x N := by unfold levL; rw [if_pos HL.out, hX, Int.toNat_natCast]
      refine ⟨some ⟨gd, 0, none⟩, N, by rw [hl, HL.out, farsL_len]; rfl, ?_, HB2.out.trans (HTR.out.below.mono HB2.out.size)⟩
      rw [hl]
      exact HTR.out.lev.lstK
  · have hf1 : (e0 != 0) = true := by simpa using h0
    have hf2 : (e0 == 0) = false := by simpa using h0
    have HL : Hid (levE n Z F s = e0) := Lib.hid (by unfold levE; rw [if_neg (by rw [he]; exact h0), he])
    have H0 := Lib.hid h0
    clear he h0
    go_enter Try.func24, Try.ntmps24
    go_wp2_with (first
      | (go_at_call 38; refine (vload_no n b ao fo cap fc Z F e0 _ HR.out HF.out HZ.out HFL.out HE.out H0.out).mono ?_; rintro e w1 ⟨rfl, hb1⟩; have HB1 := Lib.hid (HB0.out.trans (hb1.mono HB0.out.size)); clear hb1))
    go_ret2
    exact lev_no n Z F HL.out H0.out (HB1.out.alloc HB1.out.size _)
end
end Go.Proofs.Ytfklkcnopngpgaa
