/- Push of the program. -/
import Derived.Test.YtiefphkfddecbaaSPsh
namespace Go.Proofs.Ytiefphkfddecbaa
open Go.RowKit
set_option linter.unusedVariables false

def encS (x : StepT) : List Value := [.int .i64 x.1, .bool x.2]
theorem encS_len (x : StepT) : (encS x).length = 2 := rfl
theorem encS_one (x : StepT) : ∀ u ∈ encS x, u.oneCell' = true := by intro u hu; simp [encS] at hu; rcases hu with rfl | rfl <;> rfl
theorem step_at {w : World} {lo : Option Addr} {L : List StepT} (h : Row encS 2 w lo L) {i : Nat} {x : StepT} (hx : L[i]? = some x) : ∃ b o, lo = some ⟨b, o, none⟩ ∧ b < w.heap.size ∧ w.cell? ⟨b, o + i * 2, none⟩ = some (.int .i64 x.1) ∧ w.cell? ⟨b, o + i * 2 + 1, none⟩ = some (.bool x.2) := by
  obtain ⟨hi, rfl⟩ := List.getElem?_eq_some_iff.1 hx
  obtain ⟨b, o, e, hb, hc⟩ := h i hi
  exact ⟨b, o, e, hb, hc 0 (by omega), hc 1 (by omega)⟩
/-- What steps make of a flow of a network, or what is wrong. -/
def pushR (n : Int) (Z : List ArcT) (F : List Int) (L : List StepT) (k : Int) : Int × List Int := if flowE n Z F = 0 then (if k < 0 then (1, []) else pushL Z k F L) else (flowE n Z F, [])
theorem pushR_flow {n : Int} {Z : List ArcT} {F : List Int} {L : List StepT} {k : Int} (h : flowE n Z F ≠ 0) : pushR n Z F L k = (flowE n Z F, []) := by unfold pushR; rw [if_neg h]
theorem pushR_neg {n : Int} {Z : List ArcT} {F : List Int} {L : List StepT} {k : Int} (h : flowE n Z F = 0) (h2 : k < 0) : pushR n Z F L k = (1, []) := by unfold pushR; rw [if_pos h, if_pos h2]
theorem pushR_yes {n : Int} {Z : List ArcT} {F : List Int} {L : List StepT} {k : Int} (h : flowE n Z F = 0) (h2 : ¬ k < 0) : pushR n Z F L k = pushL Z k F L := by unfold pushR; rw [if_pos h, if_neg h2]
theorem pushL_arg {Z : List ArcT} {k : Int} {F : List Int} {L : List StepT} {m : Nat} (hm : m < L.length) (h : ¬ isArc Z L[m]) : pushL Z k F (L.drop m) = (1, []) := by
  rw [List.drop_eq_getElem_cons hm]; show (if _ then _ else _) = _; rw [if_neg h]
theorem pushL_full {Z : List ArcT} {k : Int} {F : List Int} {L : List StepT} {m : Nat} (hm : m < L.length) (h : isArc Z L[m]) (h2 : leftS Z F L[m] < k) : pushL Z k F (L.drop m) = (71, []) := by
  rw [List.drop_eq_getElem_cons hm]; show (if _ then _ else _) = _; rw [if_pos h, if_pos h2]
theorem pushL_step {Z : List ArcT} {k : Int} {F : List Int} {L : List StepT} {m : Nat} (hm : m < L.length) (h : isArc Z L[m]) (h2 : ¬ leftS Z F L[m] < k) : pushL Z k F (L.drop m) = pushL Z k (stepTo k F L[m]) (L.drop (m + 1)) := by
  rw [List.drop_eq_getElem_cons hm]; show (if _ then _ else _) = _; rw [if_pos h, if_neg h2]
/-- A flow of the call's own, and the variable that names it. -/
structure PW (w1 wr : World) (g V M : Nat) (c : Array Value) (F : List Int) : Prop where
  below : Below w1.heap.size w1 wr
  own : OwnL encI wr w1.heap.size 3 (.slice (some ⟨g, 0, none⟩) M M) F
  var : wr.heap[V]? = some (.cells c 49 (0, 0))
  ne : V ≠ g
section
variable {w1 wr w3 : World} {g V M : Nat} {c : Array Value} {F F' : List Int}
theorem PW.next (h : PW w1 wr g V M c F) (hb : Below wr.heap.size wr w3) : PW w1 w3 g V M c F := ⟨h.below.trans (hb.mono h.below.size), h.own.below hb, kept_box h.var hb, h.ne⟩
theorem PW.alloc (h : PW w1 wr g V M c F) (o : Obj) : PW w1 (wr.alloc o) g V M c F := h.next ((Below.refl _ wr).alloc (Nat.le_refl _) o)
theorem PW.turn (h : PW w1 wr g V M c F) (hk : Kept (fun i => i = g) wr w3) (ho : OwnL encI w3 w1.heap.size 3 (.slice (some ⟨g, 0, none⟩) M M) F') : PW w1 w3 g V M c F' :=
  ⟨h.below.trans (hk.below h.below.size (fun i e => by subst e; exact (own_lt2 h.own rfl).1)), ho, hk.old h.var h.ne, h.ne⟩
end
section
variable (n : Int) (b : Bool) (ao fo lo : Option Addr) (cap fc lc : Nat) (Z : List ArcT) (F : List Int) (L : List StepT)
set_option maxRecDepth 100000 in
set_option maxHeartbeats 4000000 in
theorem spush_ok (k : Int) (w : World) (h : Row encA 4 w ao Z) (hf : Lst encI w fo F) (hl : Row encS 2 w lo L) (hll : L.length ≤ 1000) (he : flowE n Z F = 0) (hk : ¬ k < 0) :
    Calls Try.prog 20 #[.agg #[.int .i64 n, .bool b, .slice ao Z.length cap], .slice fo F.length fc, .slice lo L.length lc, .int .i64 k] w (ListsV (pushL Z k F L).2 (pushL Z k F L).1 w) := by
  obtain ⟨hR, hF, hzl, hfl, hn1, hn2⟩ := flow_facts (b := b) he
  have hfl2 : F.length ≤ 200 := by omega
  have hb00 := (Below.refl _ w).alloc (Nat.le_refl _) (.cells #[.int .i64 n, .bool b, .slice ao Z.length cap] 24)
  have HB0 := Lib.hid hb00
  have HR := Lib.hid (h.below' hb00)
  have HF := Lib.hid (hf.below hb00)
  have HS := Lib.hid (hl.below' hb00)
  have HE := Lib.hid he
  have HRT := Lib.hid hR
  have HFL := Lib.hid hF
  have HL := Lib.hid hfl
  have HZ : Hid (Z.length ≤ maxLen) := Lib.hid (by unfold maxLen; omega)
  have HFM : Hid (F.length ≤ maxLen) := Lib.hid (by unfold maxLen; omega)
  clear h hf hl hb00 he hR hF hfl
  go_enter Try.func20, Try.ntmps20
  go_wp2_with (first
    | (go_at_call 23; refine (load_ok n b ao fo cap fc Z F _ HR.out HF.out HZ.out HFM.out HE.out).mono ?_; rintro e w1 ⟨rfl, hb1⟩; have hz1 := hb1.size; have hba := (Below.refl _ w1).alloc (Nat.le_refl _) (.cells #[.int .i64 n, .bool b, .slice ao Z.length cap, .slice fo F.length fc] 49); have HR1 := Lib.hid ((HR.out.below' hb1).below' hba); have HF1 := Lib.hid ((HF.out.below hb1).below hba); have HS1 := Lib.hid ((HS.out.below' hb1).below' hba); have HB1 := Lib.hid ((HB0.out.trans (hb1.mono HB0.out.size)).trans (hba.mono (by simp at hz1; omega))); obtain ⟨⟨y0, y1, y2, y3⟩, _⟩ := ldCells (heap_alloc_new w1 (.cells #[.int .i64 n, .bool b, .slice ao Z.length cap, .slice fo F.length fc] 49)); clear hb1 hz1 hba)
    | (go_at_call 37; refine (apart_ok n b ao fo cap fc Z F _ HF1.out hfl2).mono ?_; rintro e w3 ⟨g, rfl, hg3, ho3, hb3⟩; have hgl : g < w3.heap.size := (own_lt2 ho3 rfl).2; have HW3 : Hid (PW (w1.alloc (.cells #[.int .i64 n, .bool b, .slice ao Z.length cap, .slice fo F.length fc] 49)) (w3.alloc (.cells #[.int .i64 n, .bool b, .slice ao Z.length cap, .slice (some ⟨g, 0, none⟩) F.length F.length] 49)) g w3.heap.size F.length #[.int .i64 n, .bool b, .slice ao Z.length cap, .slice (some ⟨g, 0, none⟩) F.length F.length] F) := Lib.hid ⟨hb3.alloc hb3.size _, ho3.alloc _, heap_alloc_new _ _, by omega⟩; clear ho3 hb3 hg3 hgl y0 y1 y2 y3))
  generalize w3.alloc (.cells #[.int .i64 n, .bool b, .slice ao Z.length cap, .slice (some ⟨g, 0, none⟩) F.length F.length] 49) = w4 at *
  generalize w3.heap.size = V at *
  generalize w1.alloc (.cells #[.int .i64 n, .bool b, .slice ao Z.length cap, .slice fo F.length fc] 49) = wq at *
  go_loopw [31] (fun i wr => ∃ (m : Nat) (F' : List Int), m ≤ L.length ∧ i = .int .i64 (m : Int) ∧ Hid (PW wq wr g V F.length #[.int .i64 n, .bool b, .slice ao Z.length cap, .slice (some ⟨g, 0, none⟩) F.length F.length] F') ∧ Hid (Flow Z F') ∧ Hid (pushL Z k F' (L.drop m) = pushL Z k F L)) (fun i _ => L.length - (intOf i).toNat)
  case atStart => exact ⟨0, F, Nat.zero_le _, rfl, HW3, HFL, Lib.hid rfl⟩
  case round =>
    clear HW3
    obtain ⟨m, F', hm, rfl, HP, HFF, HA⟩ := hrel
    have HFN : Hid (F'.length = F.length) := Lib.hid (by rw [HFF.out.1, HL.out])
    by_cases hlt : m < L.length
    · have hli : (m : Int) < (L.length : Int) := by omega
      obtain ⟨lb, lx, e, hlb, s0, s1⟩ := step_at (HS1.out.below' HP.out.below) (List.getElem?_eq_getElem hlt)
      cases e
      by_cases hx : isArc Z L[m]
      · by_cases hr : leftS Z F' L[m] < k
        · have HD : Hid (pushL Z k F L = (71, [])) := Lib.hid (by rw [← HA.out]; exact pushL_full hlt hx hr)
          generalize L[m] = x at *
          obtain ⟨i, q⟩ := x
          simp only at s0 s1
          obtain ⟨j, rfl, hj⟩ := isArc_nat hx
          have HX := Lib.hid hr
          obtain ⟨⟨z0, z1, z2, z3⟩, _⟩ := ldCells (HP.out.alloc (.cells #[.int .i64 (j : Int), .bool q] 36)).var
          clear hx hr
          go_wp2_with (first
            | (go_at_call 38; refine (show Calls Try.prog 38 #[.agg #[.int .i64 n, .bool b, .slice ao Z.length cap, .slice (some ⟨g, 0, none⟩) F.length F.length], .agg #[.int .i64 (j : Int), .bool q], .int .i64 k] (wr.alloc (.cells #[.int .i64 (j : Int), .bool q] 36)) _ from (by rw [← HFN.out]; exact lpush_full n b ao cap Z F' (some ⟨g, 0, none⟩) F'.length j q k _ (HR1.out.below' (HP.out.alloc _).below) (HP.out.alloc _).own.lstK HRT.out HFF.out hj HX.out)).mono ?_; rintro e w6 ⟨rfl, hb6⟩; have HB6 := Lib.hid ((HP.out.alloc (.cells #[.int .i64 (j : Int), .bool q] 36)).next hb6).below; clear hb6))
          go_ret2
          rw [HD.out]
          exact ⟨none, 0, rfl, Lst.nil _ _, HB1.out.trans (HB6.out.mono HB1.out.size)⟩
        · have HD : Hid (pushL Z k (stepTo k F' L[m]) (L.drop (m + 1)) = pushL Z k F L) := Lib.hid (by rw [← HA.out]; exact (pushL_step hlt hx hr).symm)
          have HFS := Lib.hid (stepTo_flow HFF.out (by omega) hx hr)
          generalize L[m] = x at *
          obtain ⟨i, q⟩ := x
          simp only at s0 s1
          obtain ⟨j, rfl, hj⟩ := isArc_nat hx
          have HX := Lib.hid hr
          have HSL := Lib.hid (stepTo_len k F' ((j : Int), q))
          obtain ⟨⟨z0, z1, z2, z3⟩, _⟩ := ldCells (HP.out.alloc (.cells #[.int .i64 (j : Int), .bool q] 36)).var
          clear hx hr
          go_wp2_with (first
            | (go_at_call 38; refine (show Calls Try.prog 38 #[.agg #[.int .i64 n, .bool b, .slice ao Z.length cap, .slice (some ⟨g, 0, none⟩) F.length F.length], .agg #[.int .i64 (j : Int), .bool q], .int .i64 k] (wr.alloc (.cells #[.int .i64 (j : Int), .bool q] 36)) _ from (by rw [← HFN.out]; exact lpush_ok n b ao cap Z F' wq.heap.size g j q k _ (HR1.out.below' (HP.out.alloc _).below) (by rw [HFN.out]; exact (HP.out.alloc _).own) HRT.out HFF.out hj (by omega) HX.out)).mono ?_; rintro e w6 ⟨rfl, ho6, hk6⟩; rw [HSL.out, HFN.out] at ho6; have HP6 := Lib.hid ((HP.out.alloc (.cells #[.int .i64 (j : Int), .bool q] 36)).turn hk6 ho6); clear ho6 hk6))
          go_roundw
          case rel => exact ⟨m + 1, _, by omega, by go_num, HP6, HFS, HD⟩
          case measure => simp [intOf]; omega
      · have HD : Hid (pushL Z k F L = (1, [])) := Lib.hid (by rw [← HA.out]; exact pushL_arg hlt hx)
        generalize L[m] = x at *
        obtain ⟨i, q⟩ := x
        simp only at s0 s1
        have HX := Lib.hid hx
        obtain ⟨⟨z0, z1, z2, z3⟩, _⟩ := ldCells (HP.out.alloc (.cells #[.int .i64 i, .bool q] 36)).var
        clear hx
        go_wp2_with (first
          | (go_at_call 38; refine (lpush_arg n b ao cap Z (.slice (some ⟨g, 0, none⟩) F.length F.length) i q k _ hzl HX.out).mono ?_; rintro e w6 ⟨rfl, hb6⟩; have HB6 := Lib.hid ((HP.out.alloc (.cells #[.int .i64 i, .bool q] 36)).next hb6).below; clear hb6))
        go_ret2
        rw [HD.out]
        exact ⟨none, 0, rfl, Lst.nil _ _, HB1.out.trans (HB6.out.mono HB1.out.size)⟩
    · have hli : ¬ (m : Int) < (L.length : Int) := by omega
      obtain rfl : m = L.length := by omega
      have HD : Hid (pushL Z k F L = (0, F')) := Lib.hid (by rw [← HA.out, List.drop_eq_nil_of_le (Nat.le_refl _)]; rfl)
      obtain ⟨⟨z0, z1, z2, z3⟩, _⟩ := ldCells HP.out.var
      go_wp2
      go_ret2
      rw [HD.out]
      exact ⟨some ⟨g, 0, none⟩, F.length, by rw [HFN.out]; rfl, HP.out.own.lstK, HB1.out.trans (HP.out.below.mono HB1.out.size)⟩
theorem spush_no (k : Int) (e0 : Int) (w : World) (h : Row encA 4 w ao Z) (hf : Lst encI w fo F) (hz : Z.length ≤ maxLen) (hfl : F.length ≤ maxLen) (he : flowE n Z F = e0) (h0 : e0 ≠ 0) :
    Calls Try.prog 20 #[.agg #[.int .i64 n, .bool b, .slice ao Z.length cap], .slice fo F.length fc, .slice lo L.length lc, .int .i64 k] w fun e w' => e = .returned (.tuple #[.slice none 0 0, .int .i64 e0]) ∧ Below w.heap.size w w' := by
  have hb00 := (Below.refl _ w).alloc (Nat.le_refl _) (.cells #[.int .i64 n, .bool b, .slice ao Z.length cap] 24)
  have HB0 := Lib.hid hb00
  have HR := Lib.hid (h.below' hb00)
  have HF := Lib.hid (hf.below hb00)
  have HZ := Lib.hid hz
  have HFM := Lib.hid hfl
  have HE := Lib.hid he
  have H0 := Lib.hid h0
  have hf2 : (e0 != 0) = true := by simpa using h0
  have hf1 : (e0 == 0) = false := by simpa using h0
  clear h hf hz hfl he h0 hb00
  go_enter Try.func20, Try.ntmps20
  go_wp2_with (go_at_call 23; refine (load_no n b ao fo cap fc Z F e0 _ HR.out HF.out HZ.out HFM.out HE.out H0.out).mono ?_; rintro e w1 ⟨rfl, hb1⟩; have hs1 := hb1.size; have HB1 := Lib.hid ((HB0.out.trans (hb1.mono HB0.out.size)).alloc (by simp at hs1; omega) (.cells #[.int .i64 0, .bool false, .slice none 0 0, .slice none 0 0] 49)); clear hb1 hs1)
  go_ret2
  exact ⟨rfl, HB1.out⟩
theorem spush_neg (k : Int) (w : World) (h : Row encA 4 w ao Z) (hf : Lst encI w fo F) (hz : Z.length ≤ maxLen) (hfl : F.length ≤ maxLen) (he : flowE n Z F = 0) (hk : k < 0) :
    Calls Try.prog 20 #[.agg #[.int .i64 n, .bool b, .slice ao Z.length cap], .slice fo F.length fc, .slice lo L.length lc, .int .i64 k] w fun e w' => e = .returned (.tuple #[.slice none 0 0, .int .i64 1]) ∧ Below w.heap.size w w' := by
  have hb00 := (Below.refl _ w).alloc (Nat.le_refl _) (.cells #[.int .i64 n, .bool b, .slice ao Z.length cap] 24)
  have HB0 := Lib.hid hb00
  have HR := Lib.hid (h.below' hb00)
  have HF := Lib.hid (hf.below hb00)
  have HZ := Lib.hid hz
  have HFM := Lib.hid hfl
  have HE := Lib.hid he
  clear h hf hz hfl he hb00
  go_enter Try.func20, Try.ntmps20
  go_wp2_with (go_at_call 23; refine (load_ok n b ao fo cap fc Z F _ HR.out HF.out HZ.out HFM.out HE.out).mono ?_; rintro e w1 ⟨rfl, hb1⟩; have hs1 := hb1.size; have HB1 := Lib.hid ((HB0.out.trans (hb1.mono HB0.out.size)).alloc (by simp at hs1; omega) (.cells #[.int .i64 n, .bool b, .slice ao Z.length cap, .slice fo F.length fc] 49)); clear hb1 hs1)
  go_ret2
  exact ⟨rfl, HB1.out⟩
theorem push7_any (k : Int) (w : World) (h : Row encA 4 w ao Z) (hf : Lst encI w fo F) (hl : Row encS 2 w lo L) (hz : Z.length ≤ maxLen) (hfl : F.length ≤ maxLen) (hll : L.length ≤ 1000) :
    Calls Try.prog 20 #[.agg #[.int .i64 n, .bool b, .slice ao Z.length cap], .slice fo F.length fc, .slice lo L.length lc, .int .i64 k] w (ListsV (pushR n Z F L k).2 (pushR n Z F L k).1 w) := by
  by_cases h0 : flowE n Z F = 0
  · by_cases hk : k < 0
    · rw [pushR_neg h0 hk]
      refine (spush_neg n b ao fo lo cap fc lc Z F L k w h hf hz hfl h0 hk).mono ?_
      rintro e w' ⟨rfl, hb⟩
      exact ⟨none, 0, rfl, Lst.nil _ _, hb⟩
    · rw [pushR_yes h0 hk]
      exact spush_ok n b ao fo lo cap fc lc Z F L k w h hf hl hll h0 hk
  · rw [pushR_flow h0]
    refine (spush_no n b ao fo lo cap fc lc Z F L k _ w h hf hz hfl rfl h0).mono ?_
    rintro e w' ⟨rfl, hb⟩
    exact ⟨none, 0, rfl, Lst.nil _ _, hb⟩
end
end Go.Proofs.Ytiefphkfddecbaa
