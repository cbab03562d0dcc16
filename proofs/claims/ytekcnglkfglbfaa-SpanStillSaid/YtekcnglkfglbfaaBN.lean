/- Lemmas of the layers below, several texts in one. -/
import Derived.Test.YtekcnglkfglbfaaVSght
import Derived.Deep.LoopGhost
import Derived.Test.YtekcnglkfglbfaaBC
import Derived.Test.YtekcnglkfglbfaaBD
import Derived.IntWalk
import Derived.BigQuiet
import Derived.Deep.QuietTactic
namespace Go.Proofs.Ytekcnglkfglbfaa
open Go.RowKit
set_option linter.unusedVariables false

theorem hasI_key {fr t0 : StepT → Nat} {l : List StepT} {s i j : Nat} {P : List StepT} {x : List Ent} {q : Ent} (h : SK fr t0 l s x i P) (hq : x[j]? = some q) : hasI (keysX x) q.1 = (j : Int) := by
  have hj := (List.getElem?_eq_some_iff.1 hq).1
  have hk : (keysX x)[j]'(by rw [keysX_len]; exact hj) = q.1 := by
    simp [keysX]
    rw [(List.getElem?_eq_some_iff.1 hq).2]
  refine hasI_some (by rw [keysX_len]; exact hj) hk (fun m hm e => ?_)
  have h1 := List.nodup_iff_pairwise_ne.1 h.nd
  rw [List.pairwise_iff_getElem] at h1
  exact h1 m j (by rw [keysX_len]; omega) (by rw [keysX_len]; exact hj) hm (by rw [e, hk])
theorem path_le {fr t0 : StepT → Nat} {l : List StepT} {s i : Nat} {P : List StepT} {x : List Ent} (h : SK fr t0 l s x i P) : ∀ (n j : Nat), j ≤ n → j < x.length → (pathX x j).length ≤ j
  | 0, j, hj, _ => by
    obtain rfl : j = 0 := by omega
    simp [pathX_zero]
  | n + 1, j, hj, hjl => by
    by_cases h0 : j = 0
    · subst h0; simp [pathX_zero]
    · have he := List.getElem?_eq_getElem hjl
      rw [pathX_succ h he (by omega), List.length_append]
      have h3 := (h.par j _ he (by omega)).2.2.1
      have := path_le h n _ (by omega) (by omega : x[j].2.2 < x.length)
      simp only [List.length_singleton]
      omega
theorem key_first {fr t0 : StepT → Nat} {l : List StepT} {s i j : Nat} {P : List StepT} {x : List Ent} {q : Ent} (h : SK fr t0 l s x i P) (hq : x[j]? = some q) (h0 : 0 < j) : q.1 ≠ s := by
  intro e
  have h1 := hasI_key h hq
  have h2 := hasI_key h h.hd
  rw [e] at h1
  rw [h1] at h2
  omega
/-- A list of steps, and whether there is one. -/
def WayRes (o : Option (List StepT)) (w : World) (e : Ending) (w' : World) : Prop :=
  ∃ a c, e = .returned (.tuple #[.slice a (o.getD []).length c, .bool o.isSome]) ∧ Row encS 2 w' a (o.getD []) ∧ Below w.heap.size w w'
section
variable (n : Int) (b : Bool) (ao lo : Option Addr) (cap lc : Nat) (Z : List ArcT) (L : List StepT) (N : Nat)
end
end Go.Proofs.Ytekcnglkfglbfaa

namespace Go.Proofs.Ytekcnglkfglbfaa
open Go.RowKit
set_option linter.unusedVariables false

theorem way_far {Z : List ArcT} {F : List Int} {N s v : Nat} (hs : s < N) (hT : ∀ y ∈ stepsK Z F Z.length, toS Z y < N) :
    farX (seekK (fromS Z) (toS Z) (stepsK Z F Z.length) s N) v = match wayK (fromS Z) (toS Z) (stepsK Z F Z.length) N s v with | some p => (p.length : Int) | none => -1 := by
  have hsk := seek_full (fr := fromS Z) (l := stepsK Z F Z.length) hs hT
  cases hw : wayK (fromS Z) (toS Z) (stepsK Z F Z.length) N s v with
  | none => exact farX_none (wayK_none hw)
  | some p =>
    obtain ⟨c, r, r1, r2, rfl⟩ := wayK_some hw
    have := farX_some hsk r1
    rw [r2] at this
    exact this
theorem farsL_take (x : List Ent) (N k : Nat) (hk : k < N) : (farsL x N).take (k + 1) = (farsL x N).take k ++ [farX x k] := by
  have hl : k < (farsL x N).length := by rw [farsL_len]; exact hk
  rw [List.take_succ_eq_append_getElem hl]
  simp [farsL]
section
variable (n : Int) (b : Bool) (ao fo : Option Addr) (cap fc : Nat) (Z : List ArcT) (F : List Int)
end
end Go.Proofs.Ytekcnglkfglbfaa

namespace Go.Proofs.Ytekcnglkfglbfaa
open Go.RowKit
set_option linter.unusedVariables false

def ZV : List ArcT := [(0, 1, 5, 0), (1, 2, 5, 0)]
def SV : List StepT := [(0, false), (1, false)]
theorem rowV8 (w : World) (g : Nat) (hg : w.heap.size = g) (t : TypeId) : Row encA 4 (w.alloc (.cells #[.int .i64 0, .int .i64 1, .int .i64 5, .int .i64 0, .int .i64 1, .int .i64 2, .int .i64 5, .int .i64 0] t)) (some ⟨g, 0, none⟩) ZV := by
  intro i hi
  refine ⟨g, 0, rfl, by simp; omega, fun j hj => ?_⟩
  rw [Nat.zero_add, cell_new' hg]
  match i, hi, j, hj with
  | 0, _, 0, _ => rfl
  | 0, _, 1, _ => rfl
  | 0, _, 2, _ => rfl
  | 0, _, 3, _ => rfl
  | 1, _, 0, _ => rfl
  | 1, _, 1, _ => rfl
  | 1, _, 2, _ => rfl
  | 1, _, 3, _ => rfl
theorem lst28 (w : World) (t : TypeId) (g : Nat) (hg : w.heap.size = g) (x y : Int) : Lst encI (w.alloc (.cells #[.int .i64 x, .int .i64 y] t)) (some ⟨g, 0, none⟩) [x, y] := by
  intro i hi
  refine ⟨g, 0, rfl, by simp; omega, ?_⟩
  rw [Nat.zero_add, cell_new' hg]
  match i, hi with
  | 0, _ => rfl
  | 1, _ => rfl
theorem lst38 (w : World) (t : TypeId) (g : Nat) (hg : w.heap.size = g) (x y z : Int) : Lst encI (w.alloc (.cells #[.int .i64 x, .int .i64 y, .int .i64 z] t)) (some ⟨g, 0, none⟩) [x, y, z] := by
  intro i hi
  refine ⟨g, 0, rfl, by simp; omega, ?_⟩
  rw [Nat.zero_add, cell_new' hg]
  match i, hi with
  | 0, _ => rfl
  | 1, _ => rfl
  | 2, _ => rfl
theorem rowS8 (w : World) (g : Nat) (hg : w.heap.size = g) (t : TypeId) : Row encS 2 (w.alloc (.cells #[.int .i64 0, .bool false, .int .i64 1, .bool false] t)) (some ⟨g, 0, none⟩) SV := by
  intro i hi
  refine ⟨g, 0, rfl, by simp; omega, fun j hj => ?_⟩
  rw [Nat.zero_add, cell_new' hg]
  match i, hi, j, hj with
  | 0, _, 0, _ => rfl
  | 0, _, 1, _ => rfl
  | 1, _, 0, _ => rfl
  | 1, _, 1, _ => rfl
theorem zv_w1 : wayL 3 ZV [0, 0] 0 2 = SV ∧ wayB 3 ZV [0, 0] 0 2 = true ∧ pathE 3 ZV [0, 0] 0 2 = 0 := ⟨by kernel_rfl, by kernel_rfl, by kernel_rfl⟩
theorem zv_w2 : wayL 3 ZV [5, 5] 0 2 = [] ∧ wayB 3 ZV [5, 5] 0 2 = false ∧ pathE 3 ZV [5, 5] 0 2 = 0 := ⟨by kernel_rfl, by kernel_rfl, by kernel_rfl⟩
theorem zv_l : levL 3 ZV [5, 5] 2 = [2, 1, 0] ∧ levE 3 ZV [5, 5] 2 = 0 := ⟨by kernel_rfl, by kernel_rfl⟩
def LineV8 (w : World) (e : Ending) (w' : World) : Prop := ∃ g, e = .returned (.agg #[.int .i64 3, .bool false, .slice (some ⟨g, 0, none⟩) 2 2]) ∧ Row encA 4 w' (some ⟨g, 0, none⟩) ZV ∧ Below w.heap.size w w'
theorem two_len8 : ([0, 0] : List Int).length ≤ maxLen ∧ ([5, 5] : List Int).length ≤ maxLen ∧ ZV.length ≤ maxLen := by unfold maxLen; decide
theorem bstep8 {w w1 w2 : World} (h : Below w.heap.size w w1) (o : Obj) (h2 : Below (w1.alloc o).heap.size (w1.alloc o) w2) : Below w.heap.size w w2 :=
  (h.alloc h.size o).trans (h2.mono (by have := h.size; simp; omega))
end Go.Proofs.Ytekcnglkfglbfaa

namespace Go.Proofs.Ytekcnglkfglbfaa
open Go.RowKit
set_option linter.unusedVariables false

theorem levL_bd (n : Int) (Z : List ArcT) (F : List Int) (s : Int) : (levL n Z F s).length ≤ 200000 := by
  unfold levL
  by_cases h : levE n Z F s = 0
  · rw [if_pos h, farsL_len]
    obtain ⟨_, _, _, _, hn1, hn2⟩ := flow_facts (b := false) (levE_ok h).1
    omega
  · rw [if_neg h]; simp
theorem way_len {Z : List ArcT} {F : List Int} {N s t : Nat} {p : List StepT} (hs : s < N) (hT : ∀ y ∈ stepsK Z F Z.length, toS Z y < N) (h : wayK (fromS Z) (toS Z) (stepsK Z F Z.length) N s t = some p) : p.length < N := by
  obtain ⟨c, r, r1, r2, rfl⟩ := wayK_some h
  have hsk := seek_full (fr := fromS Z) (l := stepsK Z F Z.length) hs hT
  have hl := seek_len hsk hs hT
  have hc := (List.getElem?_eq_some_iff.1 r1).1
  have := path_le hsk c c (Nat.le_refl _) hc
  omega
theorem wayF_ok {n : Int} {Z : List ArcT} {F : List Int} {s t : Int} (h : pathE n Z F s t = 0) : ∃ (N i j : Nat), n = (N : Int) ∧ s = (i : Int) ∧ t = (j : Int) ∧ i < N ∧ j < N ∧ i ≠ j ∧ N ≤ 50 ∧ flowE n Z F = 0 ∧ wayF n Z F s t = wayK (fromS Z) (toS Z) (stepsK Z F Z.length) N i j := by
  obtain ⟨h1, h2⟩ := pathE_ok h
  obtain ⟨_, i, j, hs, ht, hi, hj, hij⟩ := endsE_ok h2
  obtain ⟨_, _, _, _, hn1, hn2⟩ := flow_facts (b := false) h1
  refine ⟨n.toNat, i, j, by omega, hs, ht, hi, hj, hij, by omega, h1, ?_⟩
  unfold wayF
  rw [if_pos h, hs, ht, Int.toNat_natCast, Int.toNat_natCast]
theorem wayL_bd (n : Int) (Z : List ArcT) (F : List Int) (s t : Int) : (wayL n Z F s t).length ≤ 50 := by
  unfold wayL
  by_cases h : pathE n Z F s t = 0
  · obtain ⟨N, i, j, hn, hs, ht, hi, hj, hij, hN, hf, hw⟩ := wayF_ok h
    rw [hw]
    cases hk : wayK (fromS Z) (toS Z) (stepsK Z F Z.length) N i j with
    | none => simp
    | some p =>
      have hT := flow_to hf
      rw [hn, Int.toNat_natCast] at hT
      have := way_len hi hT hk
      simp only [Option.getD_some]
      omega
  · rw [wayF_no h]; simp
section
variable (n : Int) (b : Bool) (ao fo : Option Addr) (len cap fl fc : Nat) (Z : List ArcT) (F : List Int)
end
end Go.Proofs.Ytekcnglkfglbfaa

namespace Go.Proofs.Ytekcnglkfglbfaa
open Go.RowKit
set_option linter.unusedVariables false

theorem step_okK {n : Int} {Z : List ArcT} {F : List Int} (h : flowE n Z F = 0) {y : StepT} (hy : y ∈ stepsK Z F Z.length) : StepOk Z F y ∧ isArc Z y ∧ 0 < leftS Z F y := by
  obtain ⟨hR, hF, hz, hfl, _, _⟩ := flow_facts (b := false) h
  obtain ⟨h1, _, h3⟩ := (stepsK_mem (Nat.le_refl _)).1 hy
  obtain ⟨p, a, q, ha, e⟩ := stepsK_arc hy
  have hb := flow_bd hR hF ha
  have hp : p < F.length := by rw [hfl]; exact (List.getElem?_eq_some_iff.1 ha).1
  unfold capN at hb
  exact ⟨⟨p, a, q, e, ha, atI_get hp, by omega, by omega, by omega, by omega⟩, h1, h3⟩
/-- What LevelMore says, in plain lists. -/
theorem more_plain {n : Int} {Z : List ArcT} {F : List Int} {s t : Int} (hp : pathE n Z F s t = 0) (hv : valE n Z s t F = 0) (hb : wayB n Z F s t = true) :
    wayL n Z F s t ≠ [] ∧ (wayL n Z F s t).length ≤ 50 ∧ (∀ y ∈ wayL n Z F s t, StepOk Z F y ∧ isArc Z y) ∧ 0 < botK Z F (wayL n Z F s t) ∧
    (pushR n Z F (wayL n Z F s t) (botK Z F (wayL n Z F s t))).1 = 0 ∧ valE n Z s t (pushR n Z F (wayL n Z F s t) (botK Z F (wayL n Z F s t))).2 = 0 ∧
    valK n Z s t (pushR n Z F (wayL n Z F s t) (botK Z F (wayL n Z F s t))).2 = valK n Z s t F + botK Z F (wayL n Z F s t) ∧ -209715200 ≤ valK n Z s t F ∧ valK n Z s t F ≤ 209715200 ∧ botK Z F (wayL n Z F s t) ≤ 4398046511104 := by
  have hbd := wayL_bd n Z F s t
  obtain ⟨N, i, j, rfl, rfl, rfl, hi, hj, hij, hN, hf, hw⟩ := wayF_ok hp
  obtain ⟨N', i', j', e1, e2, e3, _, _, _, hst⟩ := st_of hv
  obtain rfl : N = N' := by omega
  obtain rfl : i = i' := by omega
  obtain rfl : j = j' := by omega
  have hT := flow_to hf
  rw [Int.toNat_natCast] at hT
  obtain ⟨hR, hF, _, _, _, _⟩ := flow_facts (b := false) hf
  have hwl : wayL (N : Int) Z F (i : Int) (j : Int) = (wayK (fromS Z) (toS Z) (stepsK Z F Z.length) N i j).getD [] := by unfold wayL; rw [hw]
  have hwb : (wayK (fromS Z) (toS Z) (stepsK Z F Z.length) N i j).isSome = true := by rw [← hw]; exact hb
  obtain ⟨p, hk⟩ := Option.isSome_iff_exists.1 hwb
  rw [hk, Option.getD_some] at hwl
  rw [hwl] at hbd ⊢
  obtain ⟨w1, w2, w3, w4⟩ := way_props hi hT hk
  have hne : p ≠ [] := by
    rintro rfl
    exact hij w1
  obtain ⟨a1, a2, a3⟩ := augment hij hst w1 w3 w4 (fun x hx => (step_okK hf (w2 x hx)).2)
  have hpr : pushR (N : Int) Z F p (botK Z F p) = pushL Z (botK Z F p) F p := pushR_yes hf (by omega)
  have he := (valE_ok hv).1
  have hpl := pushed_of p F a2
  obtain ⟨o1, o2⟩ := of_st he a3
  rw [hpr, hpl]
  have hvb : valK (N : Int) Z (i : Int) (j : Int) F = bal Z F i := by unfold valK; rw [if_pos hv, Int.toNat_natCast]
  have hbb := bal_bd hR hF i (Nat.le_refl Z.length)
  have hbl : botK Z F p ≤ 4398046511104 := by
    obtain ⟨y, hy⟩ := List.exists_mem_of_ne_nil p hne
    have h1 := botK_le (Z := Z) (f := F) p y hy
    have h2 := (step_okK hf (w2 y hy)).1.left
    omega
  unfold bal at hvb
  exact ⟨hne, hbd, fun y hy => ⟨(step_okK hf (w2 y hy)).1, (step_okK hf (w2 y hy)).2.1⟩, a1, rfl, o1, o2, by omega, by omega, hbl⟩
section
variable (n : Int) (b : Bool) (ao fo : Option Addr) (len cap fl fc : Nat) (Z : List ArcT) (F : List Int)
end
end Go.Proofs.Ytekcnglkfglbfaa
