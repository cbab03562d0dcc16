/- What a step makes of a flow: push of the program, in place. -/
import Derived.Test.YtiefphkfddecbaaSPush
namespace Go.Proofs.Ytiefphkfddecbaa
open Go.RowKit
set_option linter.unusedVariables false

theorem left_room {Z : List ArcT} {F : List Int} {i : Nat} {k : Bool} {a : ArcT} (ha : Z[i]? = some a) : leftS Z F ((i : Int), k) = roomI a (atI F i) k := by
  have e : arcOf Z ((i : Int), k) = a := by unfold arcOf; simp [List.getD_eq_getElem?_getD, ha]
  unfold leftS
  rw [e]
  cases k <;> simp [roomI, capN]
theorem isArc_nat {Z : List ArcT} {i : Int} {k : Bool} (h : isArc Z (i, k)) : ∃ j : Nat, i = (j : Int) ∧ j < Z.length := by
  unfold isArc at h
  simp only at h
  exact ⟨i.toNat, by omega, by omega⟩
theorem isArc_dec {Z : List ArcT} {i : Int} {k : Bool} (h : isArc Z (i, k)) : decide (0 ≤ i ∧ i < (Z.length : Int)) = true := by unfold isArc at h; simpa using h
theorem notArc_dec {Z : List ArcT} {i : Int} {k : Bool} (h : ¬ isArc Z (i, k)) : decide (0 ≤ i ∧ i < (Z.length : Int)) = false := by unfold isArc at h; exact decide_eq_false h
section
variable (n : Int) (b : Bool) (ao : Option Addr) (cap : Nat) (Z : List ArcT) (F : List Int)
set_option maxHeartbeats 1000000 in
theorem lpush_arg (v : Value) (i : Int) (q : Bool) (k : Int) (w : World) (hz : Z.length ≤ 200) (hx : ¬ isArc Z (i, q)) :
    Calls Try.prog 38 #[.agg #[.int .i64 n, .bool b, .slice ao Z.length cap, v], .agg #[.int .i64 i, .bool q], .int .i64 k] w fun e w' => e = .returned (.int .i64 1) ∧ Below w.heap.size w w' := by
  have HB := Lib.hid (((Below.refl _ w).alloc (Nat.le_refl _) (.cells #[.int .i64 n, .bool b, .slice ao Z.length cap, v] 49)).alloc (by simp) (.cells #[.int .i64 i, .bool q] 36))
  have HX := Lib.hid (notArc_dec hx)
  clear hx
  go_enter Try.func38, Try.ntmps38
  go_wp2_with (go_at_call 33; refine (hasstep_is n b ao cap Z.length i q false _ hz HX.out).mono ?_; rintro e w1 ⟨rfl, hb1⟩; have HB1 := Lib.hid (HB.out.trans (hb1.mono HB.out.size)); clear hb1)
  go_ret
  exact ⟨rfl, HB1.out⟩
/-- What push leaves behind: the flow turned, and all else as it was. -/
def PushV (w : World) (B g : Nat) (F : List Int) (e : Ending) (w' : World) : Prop :=
  e = .returned (.int .i64 0) ∧ OwnL encI w' B 3 (.slice (some ⟨g, 0, none⟩) F.length F.length) F ∧ Kept (fun i => i = g) w w'
set_option maxRecDepth 100000 in
set_option maxHeartbeats 2000000 in
theorem lpush_full (fo : Option Addr) (fc : Nat) (i : Nat) (q : Bool) (k : Int) (w : World) (h : Row encA 4 w ao Z) (hf : Lst encI w fo F) (hR : Right (n, b, Z)) (hF : Flow Z F) (hi : i < Z.length) (hr : leftS Z F ((i : Int), q) < k) :
    Calls Try.prog 38 #[.agg #[.int .i64 n, .bool b, .slice ao Z.length cap, .slice fo F.length fc], .agg #[.int .i64 (i : Int), .bool q], .int .i64 k] w fun e w' => e = .returned (.int .i64 71) ∧ Below w.heap.size w w' := by
  have hb0 := ((Below.refl _ w).alloc (Nat.le_refl _) (.cells #[.int .i64 n, .bool b, .slice ao Z.length cap, .slice fo F.length fc] 49)).alloc (by simp) (.cells #[.int .i64 (i : Int), .bool q] 36)
  have hz : Z.length ≤ 200 := hR.2.1
  have hfl : F.length = Z.length := hF.1
  have ha : Z[i]? = some Z[i] := List.getElem?_eq_getElem hi
  obtain ⟨h0, h1, h2, h3, _, _⟩ := flow_bd hR hF ha
  rw [left_room ha] at hr
  have hx := atI_get (d := F) (v := i) (by omega)
  have HR := Lib.hid (h.below' hb0)
  have HF := Lib.hid (hf.below hb0)
  have HB := Lib.hid hb0
  have HN := Lib.hid (alloc_whole (heap_alloc_new w (.cells #[.int .i64 n, .bool b, .slice ao Z.length cap, .slice fo F.length fc] 49)) (.cells #[.int .i64 (i : Int), .bool q] 36))
  have HS := Lib.hid (new_whole1 w (.cells #[.int .i64 n, .bool b, .slice ao Z.length cap, .slice fo F.length fc] 49) (.cells #[.int .i64 (i : Int), .bool q] 36))
  have HA := Lib.hid ha
  have HX := Lib.hid hx
  have HH := Lib.hid (isArc_dec (Z := Z) (i := (i : Int)) (k := q) ⟨by simp only; omega, by simp only; omega⟩)
  have HFL := Lib.hid hfl
  have HC : Hid (0 ≤ atI F i ∧ atI F i ≤ 1048576 ∧ 0 ≤ Z[i].2.2.1 ∧ Z[i].2.2.1 ≤ 1048576) := Lib.hid ⟨h0, by omega, h2, h3⟩
  generalize Z[i] = a at *
  obtain ⟨rm, hrm⟩ : ∃ rm, roomI a (atI F i) q = rm := ⟨_, rfl⟩
  rw [hrm] at hr
  have HRM := Lib.hid hrm
  clear h hf hR hF ha hx hb0 h0 h1 h2 h3 hfl hrm
  go_enter Try.func38, Try.ntmps38
  go_wp2_with (first
    | (go_at_call 33; refine (hasstep_is n b ao cap Z.length (i : Int) q true _ hz HH.out).mono ?_; rintro e w1 ⟨rfl, hb1⟩; have HB1 := Lib.hid (HB.out.trans (hb1.mono HB.out.size)); have HR1 := Lib.hid (HR.out.below' hb1); have HF1 := Lib.hid (HF.out.below hb1); have hn1 := kept_box HN.out hb1; have hs1 := kept_box HS.out hb1; obtain ⟨⟨x0, x1, x2, x3⟩, _⟩ := ldCells hn1; have s0 := cell_whole hs1 0; have s1 := cell_whole hs1 1; clear hb1 hn1 hs1)
    | (go_at_call 34; refine (lroom_at n b ao cap Z fo fc F i q a (atI F i) _ HR1.out HF1.out HA.out HX.out hz (by rw [HFL.out]; exact hz) HC.out.1 HC.out.2.1 HC.out.2.2.1 HC.out.2.2.2).mono ?_; rintro e w2 ⟨rfl, hb2⟩; rw [HRM.out]; have HB2 := Lib.hid (HB1.out.trans (hb2.mono HB1.out.size)); clear hb2))
  go_ret
  exact ⟨rfl, HB2.out⟩
set_option maxRecDepth 100000 in
set_option maxHeartbeats 2000000 in
theorem lpush_ok (B g : Nat) (i : Nat) (q : Bool) (k : Int) (w : World) (h : Row encA 4 w ao Z) (hf : OwnL encI w B 3 (.slice (some ⟨g, 0, none⟩) F.length F.length) F) (hR : Right (n, b, Z)) (hF : Flow Z F) (hi : i < Z.length) (hk : 0 ≤ k) (hr : ¬ leftS Z F ((i : Int), q) < k) :
    Calls Try.prog 38 #[.agg #[.int .i64 n, .bool b, .slice ao Z.length cap, .slice (some ⟨g, 0, none⟩) F.length F.length], .agg #[.int .i64 (i : Int), .bool q], .int .i64 k] w (PushV w B g (stepTo k F ((i : Int), q))) := by
  have hb0 := ((Below.refl _ w).alloc (Nat.le_refl _) (.cells #[.int .i64 n, .bool b, .slice ao Z.length cap, .slice (some ⟨g, 0, none⟩) F.length F.length] 49)).alloc (by simp) (.cells #[.int .i64 (i : Int), .bool q] 36)
  have hz : Z.length ≤ 200 := hR.2.1
  have hfl : F.length = Z.length := hF.1
  have ha : Z[i]? = some Z[i] := List.getElem?_eq_getElem hi
  obtain ⟨h0, h1, h2, h3, _, _⟩ := flow_bd hR hF ha
  rw [left_room ha] at hr
  have hx := atI_get (d := F) (v := i) (by omega)
  have hgl := (own_lt2 hf rfl).2
  have HR := Lib.hid (h.below' hb0)
  have HF := Lib.hid (hf.below hb0)
  have HB := Lib.hid hb0
  have HN := Lib.hid (alloc_whole (heap_alloc_new w (.cells #[.int .i64 n, .bool b, .slice ao Z.length cap, .slice (some ⟨g, 0, none⟩) F.length F.length] 49)) (.cells #[.int .i64 (i : Int), .bool q] 36))
  have HS := Lib.hid (new_whole1 w (.cells #[.int .i64 n, .bool b, .slice ao Z.length cap, .slice (some ⟨g, 0, none⟩) F.length F.length] 49) (.cells #[.int .i64 (i : Int), .bool q] 36))
  have HA := Lib.hid ha
  have HX := Lib.hid hx
  have HH := Lib.hid (isArc_dec (Z := Z) (i := (i : Int)) (k := q) ⟨by simp only; omega, by simp only; omega⟩)
  have HFL := Lib.hid hfl
  have hlf : i < F.length := by omega
  have hlfi : (i : Int) < (F.length : Int) := by omega
  have HC : Hid (0 ≤ atI F i ∧ atI F i ≤ 1048576 ∧ 0 ≤ Z[i].2.2.1 ∧ Z[i].2.2.1 ≤ 1048576) := Lib.hid ⟨h0, by omega, h2, h3⟩
  have hST : stepTo k F ((i : Int), q) = F.set i (if q then atI F i - k else atI F i + k) := by unfold stepTo; simp
  have hkr : k ≤ 1048576 := by
    unfold capN at h1 h2 h3
    cases q <;> simp only [roomI] at hr <;> omega
  generalize Z[i] = a at *
  have HST := Lib.hid hST
  obtain ⟨x, hxx⟩ : ∃ x, atI F i = x := ⟨_, rfl⟩
  rw [hxx] at HST HC HX hr h0 h1
  have hx2 : x ≤ 1048576 := HC.out.2.1
  obtain ⟨rm, hrm⟩ : ∃ rm, roomI a x q = rm := ⟨_, rfl⟩
  rw [hrm] at hr
  have HRM := Lib.hid hrm
  clear h hf hR hF ha hx hb0 h1 h2 h3 hfl hrm hST hxx
  cases q
  all_goals
    go_enter Try.func38, Try.ntmps38
    go_wp2_with (first
      | (go_at_call 33; refine (hasstep_is n b ao cap Z.length (i : Int) _ true _ hz HH.out).mono ?_; rintro e w1 ⟨rfl, hb1⟩; have HB1 := Lib.hid (HB.out.trans (hb1.mono HB.out.size)); have HR1 := Lib.hid (HR.out.below' hb1); have HF1 := Lib.hid (HF.out.below hb1); have hn1 := kept_box HN.out hb1; have hs1 := kept_box HS.out hb1; have HN1 := Lib.hid hn1; have HS1 := Lib.hid hs1; obtain ⟨⟨x0, x1, x2, x3⟩, _⟩ := ldCells hn1; have s0 := cell_whole hs1 0; have s1 := cell_whole hs1 1; clear hb1 hn1 hs1)
      | (go_at_call 34; refine (lroom_at n b ao cap Z (some ⟨g, 0, none⟩) F.length F i _ a x _ HR1.out HF1.out.lstK HA.out HX.out hz (by rw [HFL.out]; exact hz) HC.out.1 HC.out.2.1 HC.out.2.2.1 HC.out.2.2.2).mono ?_; rintro e w2 ⟨rfl, hb2⟩; rw [HRM.out]; have HB2 := Lib.hid (HB1.out.trans (hb2.mono HB1.out.size)); have hf2 := HF1.out.below hb2; obtain ⟨cf, ff⟩ := hf2.cell HX.out; unfold encI at cf; have HF2 := Lib.hid hf2; have hn2 := kept_box HN1.out hb2; have hs2 := kept_box HS1.out hb2; obtain ⟨⟨y0, y1, y2, y3⟩, _⟩ := ldCells hn2; have t0 := cell_whole hs2 0; have t1 := cell_whole hs2 1; clear hb2 hf2 hn2 hs2 x0 x1 x2 x3 s0 s1))
    go_ret
    refine ⟨rfl, ?_, Kept.set (S := fun i => i = g) (g := g) (Kept.of_below HB2.out) (.inl rfl) _⟩
    rw [HST.out, List.length_set]
    first
      | exact HF2.out.put i (x + k)
      | exact HF2.out.put i (x - k)
end
end Go.Proofs.Ytiefphkfddecbaa
