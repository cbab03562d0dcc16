/- Lemmas of the layers below, several texts in one. -/
import Derived.Test.YtlkbohpnlbfopaaGreatBF
import Derived.Test.YtlkbohpnlbfopaaGreatBD
import Derived.Test.YtlkbohpnlbfopaaGreatARord
import Derived.Test.YtlkbohpnlbfopaaGreatBG
import Derived.Deep.DeepCutAuto
import Derived.Deep.RegionHeld3
namespace Go.Proofs.YtlkbohpnlbfopaaGreat
set_option linter.unusedVariables false
def rowS (Z : List ArcT) (x : StepT) : ArcT := ((fromS Z x : Int), (toS Z x : Int), 0, tmS Z x)
theorem rowS_fr (Z : List ArcT) (x : StepT) : frN (rowS Z x) = fromS Z x := by unfold frN rowS; simp
theorem rowS_to (Z : List ArcT) (x : StepT) : toN (rowS Z x) = toS Z x := by unfold toN rowS; simp
theorem rowS_tm (Z : List ArcT) (x : StepT) : tm (rowS Z x) = tmS Z x := rfl
def rowsR (Z : List ArcT) (F : List Int) : List ArcT := (stepsK Z F Z.length).map (rowS Z)
theorem rowsR_len (Z : List ArcT) (F : List Int) : (rowsR Z F).length = (stepsK Z F Z.length).length := by unfold rowsR; simp
theorem rowsR_mem {Z : List ArcT} {F : List Int} {a : ArcT} : a ∈ rowsR Z F ↔ ∃ x, (isArc Z x ∧ 0 < leftS Z F x) ∧ rowS Z x = a := by
  unfold rowsR
  rw [List.mem_map]
  constructor
  · rintro ⟨x, hx, e⟩
    have := (stepsK_mem (Nat.le_refl _)).1 hx
    exact ⟨x, ⟨this.1, this.2.2⟩, e⟩
  · rintro ⟨x, ⟨h1, h2⟩, e⟩
    exact ⟨x, (stepsK_mem (Nat.le_refl _)).2 ⟨h1, h1.2, h2⟩, e⟩
def valO (x : Option Int) : Int := x.getD 0
def valsO (d : List (Option Int)) : List Int := d.map valO
def isO (d : List (Option Int)) : List Bool := d.map Option.isSome
theorem valsO_at {d : List (Option Int)} {v : Nat} (h : v < d.length) : (valsO d)[v]? = some (valO (getO d v)) := by
  unfold valsO getO
  rw [List.getElem?_map, List.getD_eq_getElem?_getD, List.getElem?_eq_getElem h]
  rfl
theorem isO_at {d : List (Option Int)} {v : Nat} (h : v < d.length) : (isO d)[v]? = some (getO d v).isSome := by
  unfold isO getO
  rw [List.getElem?_map, List.getD_eq_getElem?_getD, List.getElem?_eq_getElem h]
  rfl
theorem valsO_set (d : List (Option Int)) (v : Nat) (x : Int) : valsO (d.set v (some x)) = (valsO d).set v x := by unfold valsO; rw [List.map_set]; rfl
theorem isO_set (d : List (Option Int)) (v : Nat) (x : Int) : isO (d.set v (some x)) = (isO d).set v true := by unfold isO; rw [List.map_set]; rfl
theorem valsO_start (N s : Nat) : valsO (startO N s) = List.replicate N 0 := by
  unfold startO valsO
  apply List.ext_getElem
  · simp
  · intro i h1 h2
    simp only [List.getElem_map, List.getElem_set, List.getElem_replicate]
    split <;> rfl
theorem isO_start (N s : Nat) : isO (startO N s) = (List.replicate N false).set s true := by
  unfold startO
  rw [isO_set]
  unfold isO
  rw [List.map_replicate]
  rfl
def okO (c : ArcT → Int) : List ArcT → List (Option Int) → Bool
  | [], _ => true
  | a :: r, d => !gives c d a && okO c r (relaxO c d a)
theorem okO_snoc (c : ArcT → Int) (a : ArcT) : ∀ (Y : List ArcT) (d : List (Option Int)), okO c (Y ++ [a]) d = (okO c Y d && !gives c (relaxAllO c Y d) a)
  | [], d => by simp [okO, relaxAllO]
  | b :: r, d => by
    show (!gives c d b && okO c (r ++ [a]) (relaxO c d b)) = (!gives c d b && okO c r (relaxO c d b) && !gives c (relaxAllO c r (relaxO c d b)) a)
    rw [okO_snoc c a r, Bool.and_assoc]
theorem relaxAllO_snoc (c : ArcT → Int) (a : ArcT) (Y : List ArcT) (d : List (Option Int)) : relaxAllO c (Y ++ [a]) d = relaxO c (relaxAllO c Y d) a := by unfold relaxAllO; rw [List.foldl_append]; rfl
theorem relaxO_same {c : ArcT → Int} {d : List (Option Int)} {a : ArcT} (h : gives c d a = false) : relaxO c d a = d := by unfold relaxO; rw [h]; rfl
theorem gives_eq {c : ArcT → Int} {d : List (Option Int)} {a : ArcT} : gives c d a = ((getO d (frN a)).isSome && (!(getO d (toN a)).isSome || decide (valO (getO d (frN a)) + c a < valO (getO d (toN a))))) := by
  unfold gives
  cases getO d (frN a) with
  | none => rfl
  | some x =>
    cases getO d (toN a) with
    | none => rfl
    | some y => rfl
theorem relaxO_yes {c : ArcT → Int} {d : List (Option Int)} {a : ArcT} (h : gives c d a = true) : relaxO c d a = d.set (toN a) (some (valO (getO d (frN a)) + c a)) := by
  unfold relaxO
  rw [if_pos h]
  rfl
theorem okO_iff (c : ArcT → Int) : ∀ (Y : List ArcT) (d : List (Option Int)), okO c Y d = true ↔ ∀ a ∈ Y, gives c d a = false
  | [], d => by simp [okO]
  | b :: r, d => by
    show (!gives c d b && okO c r (relaxO c d b)) = true ↔ _
    rw [Bool.and_eq_true, Bool.not_eq_true']
    constructor
    · rintro ⟨h1, h2⟩ a ha
      rw [relaxO_same h1] at h2
      rcases List.mem_cons.1 ha with rfl | ha
      · exact h1
      · exact (okO_iff c r d).1 h2 a ha
    · intro h
      have h1 := h b (by simp)
      rw [relaxO_same h1]
      exact ⟨h1, (okO_iff c r d).2 fun a ha => h a (by simp [ha])⟩
theorem okO_same (c : ArcT → Int) : ∀ (Y : List ArcT) (d : List (Option Int)), okO c Y d = true → relaxAllO c Y d = d
  | [], d, _ => rfl
  | b :: r, d, h => by
    have h1 := (okO_iff c (b :: r) d).1 h b (by simp)
    have e : relaxAllO c (b :: r) d = relaxAllO c r (relaxO c d b) := rfl
    rw [e, relaxO_same h1]
    exact okO_same c r d ((okO_iff c r d).2 fun a ha => (okO_iff c (b :: r) d).1 h a (by simp [ha]))
def BdO (d : List (Option Int)) (u : Nat) : Prop := ∀ v x, getO d v = some x → -(u * 1073741824 : Int) ≤ x ∧ x ≤ u * 1073741824
theorem BdO.relax {c : ArcT → Int} {d : List (Option Int)} {u : Nat} {a : ArcT} (h : BdO d u) (hc : -1073741824 ≤ c a ∧ c a ≤ 1073741824) (hto : toN a < d.length) : BdO (relaxO c d a) (u + 1) := by
  intro v x hx
  unfold relaxO at hx
  split at hx
  · next hg =>
    rw [getO_set hto] at hx
    split at hx
    · cases hx
      cases hf : getO d (frN a) with
      | none => simp only [Option.getD_none]; omega
      | some y =>
        have := h _ _ hf
        simp only [Option.getD_some]
        omega
    · have := h v x hx
      omega
  · have := h v x hx
    omega
theorem BdO.val {d : List (Option Int)} {u : Nat} (h : BdO d u) (v : Nat) : -(u * 1073741824 : Int) ≤ valO (getO d v) ∧ valO (getO d v) ≤ u * 1073741824 := by
  cases hg : getO d v with
  | none => simp only [valO, Option.getD_none]; omega
  | some x => exact h v x hg
theorem BdO.start (N s : Nat) : BdO (startO N s) 0 := by
  intro v x hx
  unfold startO at hx
  by_cases hs : s < N
  · rw [getO_set (by simp; exact hs)] at hx
    split at hx
    · cases hx; simp
    · unfold getO at hx
      rw [List.getD_eq_getElem?_getD, List.getElem?_replicate] at hx
      split at hx <;> cases hx
  · unfold getO at hx
    rw [List.set_eq_of_length_le (by simp; omega), List.getD_eq_getElem?_getD, List.getElem?_replicate] at hx
    split at hx <;> cases hx
def dN (Z : List ArcT) (F : List Int) (N s k : Nat) : List (Option Int) := bellK tm (rowsR Z F) N s k
def calmN (Z : List ArcT) (F : List Int) (N s : Nat) : Bool := okO tm (rowsR Z F) (dN Z F N s N)
def NoGainF (Z : List ArcT) (F : List Int) (s : Nat) : Prop := NoGain (rowsR Z F) tm s
theorem rowsR_to {Z : List ArcT} {F : List Int} {N : Nat} (h : ∀ a ∈ Z, frN a < N ∧ toN a < N) : ∀ a ∈ rowsR Z F, frN a < N ∧ toN a < N := by
  intro a ha
  obtain ⟨x, ⟨h1, _⟩, rfl⟩ := rowsR_mem.1 ha
  have hm := h _ (List.mem_of_getElem? (arcOf_at h1))
  rw [rowS_fr, rowS_to]
  unfold fromS toS
  split <;> exact ⟨by omega, by omega⟩
theorem calmN_iff {Z : List ArcT} {F : List Int} {N s : Nat} (h : ∀ a ∈ Z, frN a < N ∧ toN a < N) (hs : s < N) : calmN Z F N s = true ↔ NoGainF Z F s := by
  have hZ := fun a ha => (rowsR_to (F := F) h a ha).2
  unfold calmN
  rw [okO_iff, ← closed_iff]
  constructor
  · intro hc
    exact closed_noGain hs hZ hc
  · intro hn
    exact noGain_closed hs hZ hn
theorem calmN_far {Z : List ArcT} {F : List Int} {N s : Nat} (h : ∀ a ∈ Z, frN a < N ∧ toN a < N) (hs : s < N) (ho : calmN Z F N s = true) : dN Z F N s (N + 1) = dN Z F N s N ∧ IsFarO (rowsR Z F) tm s N (dN Z F N s N) := by
  refine ⟨okO_same tm _ _ ho, ?_⟩
  exact bell_isFar hs (fun a ha => (rowsR_to (F := F) h a ha).2) ((calmN_iff h hs).1 ho)
end Go.Proofs.YtlkbohpnlbfopaaGreat
namespace Go.Proofs.YtlkbohpnlbfopaaGreat
open Go.RowKit
set_option linter.unusedVariables false
def timeI (a : ArcT) (k : Bool) : Int := if k then - a.2.2.2 else a.2.2.2
section
variable (n : Int) (b : Bool) (ao : Option Addr) (cap : Nat) (Z : List ArcT)
set_option maxHeartbeats 1000000 in
theorem rtime_at (i : Nat) (k : Bool) (a : ArcT) (w : World) (h : Row encA 4 w ao Z) (ha : Z[i]? = some a) (hz : Z.length ≤ 200000) (ht : -4398046511104 ≤ a.2.2.2 ∧ a.2.2.2 ≤ 4398046511104) :
    Calls Tryz.prog 67 #[.agg #[.int .i64 n, .bool b, .slice ao Z.length cap], .agg #[.int .i64 (i : Int), .bool k]] w fun e w' => e = .returned (.int .i64 (timeI a k)) ∧ Below w.heap.size w w' := by
  obtain ⟨hi, rfl⟩ := List.getElem?_eq_some_iff.1 ha
  obtain ⟨ab, ax, rfl, hab, c0, c1, c2, c3⟩ := h.arc hi
  have hli : (i : Int) < (Z.length : Int) := by omega
  obtain ⟨ht1, ht2⟩ := ht
  clear h ha c0 c1 c2
  generalize Z[i] = a at *
  obtain ⟨x, y, c, t⟩ := a
  simp only at c3 ht1 ht2
  have e0 := cell_alloc (cell_alloc c3 (.cells #[.int .i64 n, .bool b, .slice (some ⟨ab, ax, none⟩) Z.length cap] 27)) (.cells #[.int .i64 (i : Int), .bool k] 73)
  have HB := Lib.hid (((Below.refl _ w).alloc (Nat.le_refl _) (.cells #[.int .i64 n, .bool b, .slice (some ⟨ab, ax, none⟩) Z.length cap] 27)).alloc (by simp) (.cells #[.int .i64 (i : Int), .bool k] 73))
  cases k
  · go_enter Tryz.func67, Tryz.ntmps67
    go_wp2
    go_ret
    exact ⟨rfl, HB.out⟩
  · go_enter Tryz.func67, Tryz.ntmps67
    go_wp2
    go_ret
    exact ⟨rfl, HB.out⟩
end
theorem stepC {w : World} {lb lx : Nat} {L : List StepT} (h : Row encS 2 w (some ⟨lb, lx, none⟩) L) {i : Nat} {x : StepT} (hx : L[i]? = some x) : w.cell? ⟨lb, lx + i * 2, none⟩ = some (.int .i64 x.1) ∧ w.cell? ⟨lb, lx + i * 2 + 1, none⟩ = some (.bool x.2) := by
  obtain ⟨b, o, e, _, s0, s1⟩ := step_at h hx
  cases e
  exact ⟨s0, s1⟩
structure RX (w1 wr : World) (gd gi gt N : Nat) (ok : Bool) (d : List (Option Int)) (la : Option Addr) (L : List StepT) : Prop where
  below : Below w1.heap.size w1 wr
  len : d.length = N
  dd : OwnL encI wr w1.heap.size 3 (.slice (some ⟨gd, 0, none⟩) N N) (valsO d)
  ii : OwnL encB wr w1.heap.size 4 (.slice (some ⟨gi, 0, none⟩) N N) (isO d)
  var : wr.heap[gt]? = some (.cells #[.slice (some ⟨gd, 0, none⟩) N N, .slice (some ⟨gi, 0, none⟩) N N, .bool ok] 96 (0, 0))
  ne : gd ≠ gi ∧ gt ≠ gd ∧ gt ≠ gi
  big : w1.heap.size ≤ gt
  row : Row encS 2 wr la L
  off : ∀ ad, la = some ad → 0 < L.length → ad.block ≠ gd ∧ ad.block ≠ gi ∧ ad.block ≠ gt
theorem cellArr {w : World} {b j : Nat} {cs : Array Value} {t : TypeId} {v : Value} (h : w.heap[b]? = some (.cells cs t (0, 0))) (hc : w.cell? ⟨b, j, none⟩ = some v) : cs[j]? = some v := (cell_whole h j).symm.trans hc
theorem rowOffO {α : Type} {enc : α → List Value} {k : Nat} {S : Nat → Prop} {w w' : World} {ao : Option Addr} {A : List α} (h : Row enc k w ao A) (hk : Kept S w w') (hn : ∀ ad, ao = some ad → 0 < A.length → ¬ S ad.block) : Row enc k w' ao A := by
  intro i hi
  obtain ⟨b, o, e, hb, hc⟩ := h i hi
  exact ⟨b, o, e, Nat.lt_of_lt_of_le hb hk.size, fun j hj => (cell_of_block (hk.block b hb (hn _ e (by omega)))).trans (hc j hj)⟩
section
variable {w0 w1 wr w2 : World} {gd gi gt N : Nat} {ok : Bool} {d : List (Option Int)} {la : Option Addr} {L : List StepT}
theorem RX.next (h : RX w1 wr gd gi gt N ok d la L) (hb : Below wr.heap.size wr w2) : RX w1 w2 gd gi gt N ok d la L :=
  ⟨h.below.trans (hb.mono h.below.size), h.len, h.dd.below hb, h.ii.below hb, kept_box h.var hb, h.ne, h.big, h.row.below' hb, h.off⟩
theorem RX.lt (h : RX w1 wr gd gi gt N ok d la L) : (w1.heap.size ≤ gd ∧ gd < wr.heap.size) ∧ (w1.heap.size ≤ gi ∧ gi < wr.heap.size) ∧ w1.heap.size ≤ gt ∧ gt < wr.heap.size := ⟨own_lt2 h.dd rfl, own_lt2 h.ii rfl, h.big, lt_whole h.var⟩
theorem RX.off_d (h : RX w1 wr gd gi gt N ok d la L) {S : Nat → Prop} (hS : ∀ i, S i → i = gd ∨ i = gi ∨ i = gt) : ∀ ad, la = some ad → 0 < L.length → ¬ S ad.block := by
  intro ad e hl hs
  obtain ⟨h1, h2, h3⟩ := h.off ad e hl
  rcases hS _ hs with h | h | h
  · exact h1 h
  · exact h2 h
  · exact h3 h
theorem RX.mark (h : RX w1 wr gd gi gt N ok d la L) (q : Bool) : RX w1 (wr.setCell ⟨gt, 2, none⟩ (.bool q)) gd gi gt N q d la L := by
  have hk : Kept (fun i => i = gt) wr (wr.setCell ⟨gt, 2, none⟩ (.bool q)) := (Kept.refl (fun i => i = gt) wr).set (.inl rfl) _
  refine ⟨below_set h.below h.big _, h.len, ownL_kept h.dd hk (fun g e => ?_), ownL_kept h.ii hk (fun g e => ?_), set_whole h.var 2 (.bool q), h.ne, h.big, rowOffO h.row hk (h.off_d fun i e => .inr (.inr e)), h.off⟩
  · simp [Value.ownBlock] at e
    subst e
    exact fun e => h.ne.2.1 e.symm
  · simp [Value.ownBlock] at e
    subst e
    exact fun e => h.ne.2.2 e.symm
theorem RX.updDI (h : RX w1 wr gd gi gt N ok d la L) (v : Nat) (y : Int) : RX w1 ((wr.setCell ⟨gd, v, none⟩ (.int .i64 y)).setCell ⟨gi, v, none⟩ (.bool true)) gd gi gt N ok (d.set v (some y)) la L := by
  have hk1 : Kept (fun i => i = gd) wr (wr.setCell ⟨gd, v, none⟩ (.int .i64 y)) := (Kept.refl (fun i => i = gd) wr).set (.inl rfl) _
  have hk2 : Kept (fun i => i = gi) (wr.setCell ⟨gd, v, none⟩ (.int .i64 y)) ((wr.setCell ⟨gd, v, none⟩ (.int .i64 y)).setCell ⟨gi, v, none⟩ (.bool true)) := (Kept.refl (fun i => i = gi) _).set (.inl rfl) _
  refine ⟨below_set (below_set h.below h.lt.1.1 _) h.lt.2.1.1 _, by simp [h.len], ?_, ?_, set_other (set_other h.var h.ne.2.1 _ _) h.ne.2.2 _ _, h.ne, h.big, rowOffO (rowOffO h.row hk1 (h.off_d fun i e => .inl e)) hk2 (h.off_d fun i e => .inr (.inl e)), h.off⟩
  · rw [valsO_set]
    refine ownL_kept (h.dd.put v y) hk2 (fun g e => ?_)
    simp [Value.ownBlock] at e
    subst e
    exact h.ne.1
  · rw [isO_set]
    refine (ownL_kept h.ii hk1 (fun g e => ?_)).put v true
    simp [Value.ownBlock] at e
    subst e
    exact fun e => h.ne.1 e.symm
theorem RX.updID (h : RX w1 wr gd gi gt N ok d la L) (v : Nat) (y : Int) : RX w1 ((wr.setCell ⟨gi, v, none⟩ (.bool true)).setCell ⟨gd, v, none⟩ (.int .i64 y)) gd gi gt N ok (d.set v (some y)) la L := by
  have hk1 : Kept (fun i => i = gi) wr (wr.setCell ⟨gi, v, none⟩ (.bool true)) := (Kept.refl (fun i => i = gi) wr).set (.inl rfl) _
  have hk2 : Kept (fun i => i = gd) (wr.setCell ⟨gi, v, none⟩ (.bool true)) ((wr.setCell ⟨gi, v, none⟩ (.bool true)).setCell ⟨gd, v, none⟩ (.int .i64 y)) := (Kept.refl (fun i => i = gd) _).set (.inl rfl) _
  refine ⟨below_set (below_set h.below h.lt.2.1.1 _) h.lt.1.1 _, by simp [h.len], ?_, ?_, set_other (set_other h.var h.ne.2.2 _ _) h.ne.2.1 _ _, h.ne, h.big, rowOffO (rowOffO h.row hk1 (h.off_d fun i e => .inr (.inl e))) hk2 (h.off_d fun i e => .inl e), h.off⟩
  · rw [valsO_set]
    refine (ownL_kept h.dd hk1 (fun g e => ?_)).put v y
    simp [Value.ownBlock] at e
    subst e
    exact h.ne.1
  · rw [isO_set]
    refine ownL_kept (h.ii.put v true) hk2 (fun g e => ?_)
    simp [Value.ownBlock] at e
    subst e
    exact fun e => h.ne.1 e.symm
theorem RX.first (h : RX w1 wr gd gi gt N ok (List.replicate N none) la L) (s : Nat) : RX w1 (wr.setCell ⟨gi, s, none⟩ (.bool true)) gd gi gt N ok (startO N s) la L := by
  have hk1 : Kept (fun i => i = gi) wr (wr.setCell ⟨gi, s, none⟩ (.bool true)) := (Kept.refl (fun i => i = gi) wr).set (.inl rfl) _
  have e1 : valsO (startO N s) = valsO (List.replicate N none) := by rw [valsO_start]; unfold valsO; rw [List.map_replicate]; rfl
  have e2 : isO (startO N s) = (isO (List.replicate N none)).set s true := by rw [isO_start]; unfold isO; rw [List.map_replicate]; rfl
  refine ⟨below_set h.below h.lt.2.1.1 _, by simp [startO], ?_, ?_, set_other h.var h.ne.2.2 _ _, h.ne, h.big, rowOffO h.row hk1 (h.off_d fun i e => .inr (.inl e)), h.off⟩
  · rw [e1]
    refine ownL_kept h.dd hk1 (fun g e => ?_)
    simp [Value.ownBlock] at e
    subst e
    exact h.ne.1
  · rw [e2]
    exact h.ii.put s true
theorem RX.cells (h : RX w1 wr gd gi gt N ok d la L) : (wr.cell? ⟨gt, 0, none⟩ = some (.slice (some ⟨gd, 0, none⟩) N N) ∧ wr.cell? ⟨gt, 1, none⟩ = some (.slice (some ⟨gi, 0, none⟩) N N) ∧ wr.cell? ⟨gt, 2, none⟩ = some (.bool ok)) ∧ wr.frozen? ⟨gt, 2, none⟩ = false :=
  ⟨⟨cell_whole h.var 0, cell_whole h.var 1, cell_whole h.var 2⟩, frozen_whole h.var 2⟩
theorem RX.time (h : RX w1 wr gd gi gt N ok d la L) {v : Nat} (hv : v < N) : wr.cell? ⟨gd, v, none⟩ = some (.int .i64 (valO (getO d v))) ∧ wr.frozen? ⟨gd, v, none⟩ = false := h.dd.cell (valsO_at (by rw [h.len]; exact hv))
theorem RX.has (h : RX w1 wr gd gi gt N ok d la L) {v : Nat} (hv : v < N) : wr.cell? ⟨gi, v, none⟩ = some (.bool (getO d v).isSome) ∧ wr.frozen? ⟨gi, v, none⟩ = false := h.ii.cell (isO_at (by rw [h.len]; exact hv))
theorem RX.steps (h : RX w1 wr gd gi gt N ok d la L) {lb : Option Addr} {M : List StepT} (hr : Row encS 2 wr lb M) : RX w1 wr gd gi gt N ok d lb M := by
  refine { h with row := hr, off := ?_ }
  rintro ad e hl
  obtain ⟨b, o, e2, _, hc⟩ := hr 0 hl
  rw [e] at e2
  cases e2
  have c0 := hc 0 (by decide)
  have c1 := hc 1 (by decide)
  rw [show (encS M[0])[0]? = some (.int .i64 M[0].1) from rfl] at c0
  rw [show (encS M[0])[1]? = some (.bool M[0].2) from rfl] at c1
  have f1 := own_full h.dd
  have f2 := own_full h.ii
  refine ⟨?_, ?_, ?_⟩
  · intro e3
    have e3 : b = gd := e3
    subst e3
    have c1 := cellArr f1.1 c1
    rw [List.getElem?_toArray, List.getElem?_map] at c1
    cases hx : (valsO d)[o + 0 * 2 + 1]? with
    | none => rw [hx] at c1; cases c1
    | some x => rw [hx] at c1; cases c1
  · intro e3
    have e3 : b = gi := e3
    subst e3
    have c0 := cellArr f2.1 c0
    rw [List.getElem?_toArray, List.getElem?_map] at c0
    cases hx : (isO d)[o + 0 * 2 + 0]? with
    | none => rw [hx] at c0; cases c0
    | some x => rw [hx] at c0; cases c0
  · intro e3
    have e3 : b = gt := e3
    subst e3
    have c0 := cellArr h.var c0
    generalize o + 0 * 2 + 0 = m at c0
    match m, c0 with
    | 0, c0 => cases c0
    | 1, c0 => cases c0
    | 2, c0 => cases c0
    | m + 3, c0 => simp at c0
end
end Go.Proofs.YtlkbohpnlbfopaaGreat
