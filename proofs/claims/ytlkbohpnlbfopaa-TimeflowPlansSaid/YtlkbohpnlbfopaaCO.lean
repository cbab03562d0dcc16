/- Lemmas of the layers below, several texts in one. -/
import Derived.Test.YtlkbohpnlbfopaaCN
import Derived.Test.YtlkbohpnlbfopaaCL
import Derived.Test.YtlkbohpnlbfopaaCM
import Derived.Test.YtlkbohpnlbfopaaBX
import Derived.Test.YtlkbohpnlbfopaaCK
import Derived.Test.YtlkbohpnlbfopaaCE
import Derived.Test.YtlkbohpnlbfopaaBU
import Derived.Test.YtlkbohpnlbfopaaBY
import Derived.Test.YtlkbohpnlbfopaaBR
import Derived.Test.YtlkbohpnlbfopaaHAwk
import Derived.Test.YtlkbohpnlbfopaaBF
namespace Go.Proofs.Ytlkbohpnlbfopaa
open Go.RowKit
set_option linter.unusedVariables false
theorem four_at (w : World) (A B C D : Obj) : ((((w.alloc A).alloc B).alloc C).alloc D).drew.heap[w.heap.size]? = some A ∧ ((((w.alloc A).alloc B).alloc C).alloc D).drew.heap[w.heap.size + 1]? = some B ∧ ((((w.alloc A).alloc B).alloc C).alloc D).drew.heap[w.heap.size + 1 + 1]? = some C ∧ ((((w.alloc A).alloc B).alloc C).alloc D).drew.heap[w.heap.size + 1 + 1 + 1]? = some D ∧ Below w.heap.size w ((((w.alloc A).alloc B).alloc C).alloc D).drew := by
  have s1 : (w.alloc A).heap.size = w.heap.size + 1 := by simp
  have s2 : ((w.alloc A).alloc B).heap.size = w.heap.size + 1 + 1 := by simp
  have s3 : (((w.alloc A).alloc B).alloc C).heap.size = w.heap.size + 1 + 1 + 1 := by simp
  refine ⟨alloc_whole (alloc_whole (alloc_whole (heap_alloc_new w A) B) C) D, ?_, ?_, ?_, below_drew ((((Below.refl _ w).alloc (Nat.le_refl _) A).alloc (by omega) B).alloc (by omega) C |>.alloc (by omega) D)⟩
  · have h := heap_alloc_new (w.alloc A) B
    rw [s1] at h
    exact alloc_whole (alloc_whole h C) D
  · have h := heap_alloc_new ((w.alloc A).alloc B) C
    rw [s2] at h
    exact alloc_whole h D
  · have h := heap_alloc_new (((w.alloc A).alloc B).alloc C) D
    rw [s3] at h
    exact h
theorem made_own16 {w : World} {B g M : Nat} (hg : w.heap[g]? = some (.cells (madeCells #[.int .i64 0] M) 3 (0, 0))) (hB : B ≤ g) (hM : M ≤ 200000) : OwnL encI w B 3 (.slice (some ⟨g, 0, none⟩) M M) (List.replicate M 0) := by
  refine ⟨by simp, .inr ⟨g, M, _, by rw [List.length_replicate], hB, hg, by simp, by unfold maxLen; omega, by simp [madeCells], ?_⟩⟩
  have h := made_one (.int .i64 0) rfl M
  rw [Nat.mul_one] at h
  rw [show (madeCells #[Value.int .i64 0] M) = madeCells (Value.int .i64 0).cells M from rfl, h]
  simp [encI]
section
variable {w wc : World} {K eb sg N : Nat} {b : Bool} {ao : Option Addr} {cap : Nat} {Z : List ArcT} {sc : Nat}
theorem sol_new {p fb lb tb : Nat} (h : ExpW w K eb sg N b ao cap Z sc) (hW : WideNet Z N) (hb : Below w.heap.size w wc)
    (hf : wc.heap[fb]? = some (.cells (madeCells #[.int .i64 0] Z.length) 3 (0, 0))) (hl : wc.heap[lb]? = some (.cells (madeCells #[.int .i64 0] N) 3 (0, 0))) (ht : wc.heap[tb]? = some (.cells (madeCells #[.int .i64 0] N) 3 (0, 0)))
    (hp : wc.heap[p]? = some (.cells #[.pointer (some ⟨eb, 0, none⟩), .slice (some ⟨fb, 0, none⟩) Z.length Z.length, .slice (some ⟨lb, 0, none⟩) N N, .slice (some ⟨tb, 0, none⟩) N N] 67 (0, 0)))
    (hge : (w.heap.size ≤ p ∧ w.heap.size ≤ fb) ∧ w.heap.size ≤ lb ∧ w.heap.size ≤ tb) (hne : (p ≠ fb ∧ p ≠ lb ∧ p ≠ tb) ∧ fb ≠ lb ∧ fb ≠ tb ∧ lb ≠ tb) :
    SolW wc K p eb sg N b ao cap Z sc fb Z.length (List.replicate Z.length 0) lb N (List.replicate N 0) tb N (List.replicate N 0) := by
  have hK := h.lt.2.2
  have h1 := hW.len
  have h2 := hW.nodes
  exact ⟨h.next hb, hp, by omega, made_own16 hf (by omega) (by omega), made_own16 hl (by omega) (by omega), made_own16 ht (by omega) (by omega), ⟨by simp, by simp, by simp⟩, hne⟩
end
def SolveV (K eb sg N : Nat) (b : Bool) (ao : Option Addr) (cap : Nat) (Z : List ArcT) (sc : Nat) (w : World) (e : Ending) (w' : World) : Prop :=
  ∃ p fb fc F lb lc tb tc T k, e = .returned (.pointer (some ⟨p, 0, none⟩)) ∧ SolW w' K p eb sg N b ao cap Z sc fb fc F lb lc (farsL (seekN Z F N (N - 2)) N) tb tc T ∧ Below w.heap.size w w' ∧ FlowST Z N (N - 2) (N - 1) F k ∧ IsMost Z N (N - 2) (N - 1) k ∧ N - 1 ∉ keysX (seekN Z F N (N - 2))
section
variable (K eb sg N : Nat) (b : Bool) (ao : Option Addr) (cap : Nat) (Z : List ArcT) (sc : Nat)
set_option maxRecDepth 100000 in
set_option maxHeartbeats 8000000 in
theorem fsolve_at (w : World) (h : ExpW w K eb sg N b ao cap Z sc) (hW : WideNet Z N) (h2 : 2 ≤ N) :
    Calls Try.prog 22 #[.pointer (some ⟨eb, 0, none⟩)] w (SolveV K eb sg N b ao cap Z sc w) := by
  have hNl := hW.nodes
  have hzl := hW.len
  have hs : N - 2 < N := by omega
  have hne : N - 2 ≠ N - 1 := by omega
  have H := Lib.hid h
  have HWN := Lib.hid hW
  obtain ⟨M, hM⟩ : ∃ M, mostV Z (N - 2) = M := ⟨_, rfl⟩
  have HM : Hid (∀ f k, FlowST Z N (N - 2) (N - 1) f k → k ≤ M) := Lib.hid (fun f k h => by rw [← hM]; exact le_mostV hW.lt hs hne h)
  have HZ : Hid (FlowST Z N (N - 2) (N - 1) (List.replicate Z.length 0) 0) := Lib.hid (zero_flow Z (fun a ha => (hW.caps a ha).1) N _ _)
  obtain ⟨e0, _, e2, _⟩ := h.cells
  have hmkN := fun W => run_make_row' (P := Try.prog) 65 3 (.int .i64 0) 8 Try.underlying65 infoInt rfl .i64 .i64 N (by omega) (by omega) W
  have hmkZ := fun W => run_make_row' (P := Try.prog) 65 3 (.int .i64 0) 8 Try.underlying65 infoInt rfl .i64 .i64 Z.length (by omega) (by omega) W
  have hq : ∀ (v : Value) (i : Nat), w.cell? ⟨eb, i, none⟩ = some v → (∀ A, (w.alloc A).cell? ⟨eb, i, none⟩ = some v) ∧ (∀ A B, ((w.alloc A).alloc B).cell? ⟨eb, i, none⟩ = some v) ∧ (∀ A B C, (((w.alloc A).alloc B).alloc C).cell? ⟨eb, i, none⟩ = some v) :=
    fun v i h => ⟨fun A => cell_alloc h A, fun A B => cell_alloc (cell_alloc h A) B, fun A B C => cell_alloc (cell_alloc (cell_alloc h A) B) C⟩
  obtain ⟨a0, b0, q0⟩ := hq _ _ e0
  obtain ⟨a2, b2, q2⟩ := hq _ _ e2
  clear h hW hq hM
  go_enter Try.func22, Try.ntmps22
  go_wp2_with fail
  go_cut [3] (fun v3 wc => ∃ p fb lb tb, v3 = .pointer (some ⟨p, 0, none⟩) ∧ Hid (SolW wc K p eb sg N b ao cap Z sc fb Z.length (List.replicate Z.length 0) lb N (List.replicate N 0) tb N (List.replicate N 0)) ∧ Hid (Below w.heap.size w wc) ∧ (w.heap.size ≤ p ∧ w.heap.size ≤ fb) ∧ w.heap.size ≤ lb ∧ w.heap.size ≤ tb)
  case first =>
    go_region_held3 (fun W => W.cell? ⟨eb, 0, none⟩ = some (.int .i64 (N : Int)) ∧ W.cell? ⟨eb, 2, none⟩ = some (.slice ao Z.length cap)) (first | exact ⟨e0, e2⟩ | go_keep) (fail)
    all_goals
      go_wp2
      go_meet
      first
        | exact ⟨_, _, _, _, rfl, Lib.hid (sol_new H.out HWN.out (four_at _ _ _ _ _).2.2.2.2 (four_at _ _ _ _ _).1 (four_at _ _ _ _ _).2.1 (four_at _ _ _ _ _).2.2.1 (four_at _ _ _ _ _).2.2.2.1 (by omega) (by omega)), Lib.hid (four_at _ _ _ _ _).2.2.2.2, by omega⟩
        | exact ⟨_, _, _, _, rfl, Lib.hid (sol_new H.out HWN.out (four_at _ _ _ _ _).2.2.2.2 (four_at _ _ _ _ _).1 (four_at _ _ _ _ _).2.2.1 (four_at _ _ _ _ _).2.1 (four_at _ _ _ _ _).2.2.2.1 (by omega) (by omega)), Lib.hid (four_at _ _ _ _ _).2.2.2.2, by omega⟩
        | exact ⟨_, _, _, _, rfl, Lib.hid (sol_new H.out HWN.out (four_at _ _ _ _ _).2.2.2.2 (four_at _ _ _ _ _).2.1 (four_at _ _ _ _ _).1 (four_at _ _ _ _ _).2.2.1 (four_at _ _ _ _ _).2.2.2.1 (by omega) (by omega)), Lib.hid (four_at _ _ _ _ _).2.2.2.2, by omega⟩
        | exact ⟨_, _, _, _, rfl, Lib.hid (sol_new H.out HWN.out (four_at _ _ _ _ _).2.2.2.2 (four_at _ _ _ _ _).2.1 (four_at _ _ _ _ _).2.2.1 (four_at _ _ _ _ _).1 (four_at _ _ _ _ _).2.2.2.1 (by omega) (by omega)), Lib.hid (four_at _ _ _ _ _).2.2.2.2, by omega⟩
        | exact ⟨_, _, _, _, rfl, Lib.hid (sol_new H.out HWN.out (four_at _ _ _ _ _).2.2.2.2 (four_at _ _ _ _ _).2.2.1 (four_at _ _ _ _ _).1 (four_at _ _ _ _ _).2.1 (four_at _ _ _ _ _).2.2.2.1 (by omega) (by omega)), Lib.hid (four_at _ _ _ _ _).2.2.2.2, by omega⟩
        | exact ⟨_, _, _, _, rfl, Lib.hid (sol_new H.out HWN.out (four_at _ _ _ _ _).2.2.2.2 (four_at _ _ _ _ _).2.2.1 (four_at _ _ _ _ _).2.1 (four_at _ _ _ _ _).1 (four_at _ _ _ _ _).2.2.2.1 (by omega) (by omega)), Lib.hid (four_at _ _ _ _ _).2.2.2.2, by omega⟩
  case rest =>
    obtain ⟨p, fb, lb, tb, rfl, HS, HB, hge⟩ := hcut
    clear a0 b0 q0 a2 b2 q2 e0 e2 hmkN hmkZ
    go_wp2_with fail
    go_loopg [] ((M - 0).toNat + 1) (fun k wr => ∃ F L T v, Hid ((M - v).toNat < k) ∧ Hid (SolW wr K p eb sg N b ao cap Z sc fb Z.length F lb N L tb N T) ∧ Hid (FlowST Z N (N - 2) (N - 1) F v) ∧ Hid (Below w.heap.size w wr))
    case atStart => exact ⟨_, _, _, 0, Lib.hid (Nat.lt_succ_self _), HS, HZ, HB⟩
    case round =>
      clear HS HB HZ
      obtain ⟨F, L, T, v, HMU, HS, HV, HB⟩ := hrel
      obtain ⟨r, hr⟩ : ∃ r, (farX (seekN Z F N (N - 2)) (N - 1) != -1) = r := ⟨_, rfl⟩
      have HR := Lib.hid hr
      clear hr
      cases r
      · have HMO := Lib.hid (wide_most HWN.out hs HV.out (by have h1 := HR.out; simpa using h1))
        go_wp2_with (first
          | (go_at_call 34; refine (frise_at K p eb sg N b ao cap Z sc fb Z.length F lb N L tb N T _ HS.out HWN.out HV.out.1 h2).mono ?_; rw [HR.out]; rintro e w2 ⟨rfl, hw2, hk2⟩; have HW2 := Lib.hid hw2; have HB2 := Lib.hid (HB.out.trans (hk2.below HB.out.size (fun i e => by have e2 : i = lb := e; omega))); clear hw2 hk2))
        go_ret
        exact ⟨p, fb, Z.length, F, lb, N, tb, N, T, v, rfl, HW2.out, HB2.out, HV.out, HMO.out.1, HMO.out.2⟩
      · have HFAR : Hid (farX (seekN Z F N (N - 2)) (N - 1) ≠ -1) := Lib.hid (by have h1 := HR.out; simpa using h1)
        go_wp2_with (first
          | (go_at_call 34; refine (frise_at K p eb sg N b ao cap Z sc fb Z.length F lb N L tb N T _ HS.out HWN.out HV.out.1 h2).mono ?_; rw [HR.out]; rintro e w2 ⟨rfl, hw2, hk2⟩; have HW2 := Lib.hid hw2; have HB2 := Lib.hid (HB.out.trans (hk2.below HB.out.size (fun i e => by have e2 : i = lb := e; omega))); clear hw2 hk2)
          | (go_at_call 35; refine (fblock_at K p eb sg N b ao cap Z sc fb Z.length F lb N _ tb N T v _ HW2.out HWN.out rfl HV.out h2 HFAR.out).mono ?_; rintro e w3 ⟨F3, T3, v3, rfl, hw3, hk3, hv3, hlt3⟩; have HW3 := Lib.hid hw3; have HB3 := Lib.hid (HB2.out.trans (hk3.below HB2.out.size (fun i e => by rcases e with e | e <;> omega))); have HV3 := Lib.hid hv3; have HLT := Lib.hid hlt3; clear hw3 hk3 hv3 hlt3))
        go_roundg ((M - v3).toNat + 1)
        case measure =>
          have h1 := HMU.out
          have h2 := HM.out _ _ HV3.out
          have h3 := HLT.out
          omega
        case rel => exact ⟨F3, _, T3, v3, Lib.hid (Nat.lt_succ_self _), HW3, HV3, HB3⟩
end
end Go.Proofs.Ytlkbohpnlbfopaa
namespace Go.Proofs.Ytlkbohpnlbfopaa
open Go.RowKit
set_option linter.unusedVariables false
theorem exp_of {B : Nat} {w : World} {eb sg N : Nat} {b : Bool} {ao : Option Addr} {cap : Nat} {Z : List ArcT} {sc : Nat} {vs : List Value} {own : Nat → Nat} (hb : w.heap[eb]? = some (.cells #[.int .i64 (N : Int), .bool b, .slice ao Z.length cap, .slice (some ⟨sg, 0, none⟩) N sc] 90 (0, 0))) (ha : Row encA 4 w ao Z) (hu : Und ao Z.length w.heap.size) (hx : IXF B w sg sc vs (rowsU Z N) own) : ExpW w w.heap.size eb sg N b ao cap Z sc := by
  have hsg := hx.lt
  refine ⟨hb, ⟨lt_whole hb, hsg.2, Nat.le_refl _⟩, ha, hu, fun v hv => ?_⟩
  have hlv : v < (rowsU Z N).length := by rw [rowsU_len]; exact hv
  have hg : (rowsU Z N).getD v [] = stepsU Z v := by rw [getD_lt hlv]; simp [rowsU]
  obtain ⟨hc, _⟩ := hx.cell hlv
  have hi := hx.inn v hlv
  rw [hg] at hi
  obtain ⟨a, c, e, hr⟩ := hi.row
  refine ⟨a, c, by rw [hc, e], hr, fun ad e2 h0 => ?_⟩
  obtain ⟨g, c2, e3, _, h3, _⟩ := ownS_form hi h0
  rw [e] at e3
  injection e3 with e4 _ _
  rw [e2] at e4
  cases e4
  exact h3
def ExpV (N : Nat) (A : List ArcT) (w : World) (e : Ending) (w' : World) : Prop := ∃ eb sg oa oc, e = .returned (.tuple #[.pointer (some ⟨eb, 0, none⟩), .int .i64 0]) ∧ ExpW w' w'.heap.size eb sg N false oa oc A N ∧ Below w.heap.size w w'
section
variable (n : Int) (b : Bool) (ao : Option Addr) (nl cap : Nat) (Z : List ArcT) (s t H : Int)
set_option maxRecDepth 100000 in
set_option maxHeartbeats 8000000 in
theorem fexpof_no (w : World) (h : Row encA 4 w ao Z) (hl : Z.length = nl) (hz : Z.length ≤ 4398046511104) (hx : xpE n Z s t H ≠ 0) :
    Calls Try.prog 21 #[.agg #[.int .i64 n, .bool b, .slice ao nl cap], .int .i64 s, .int .i64 t, .int .i64 H] w fun e w' => e = .returned (.tuple #[.pointer none, .int .i64 (xpE n Z s t H)]) ∧ Below w.heap.size w w' := by
  have hb00 := (Below.refl _ w).alloc (Nat.le_refl _) (.cells #[.int .i64 n, .bool b, .slice ao nl cap] 24)
  have HB := Lib.hid hb00
  have HN := Lib.hid (heap_alloc_new w (.cells #[.int .i64 n, .bool b, .slice ao nl cap] 24))
  have c0 := cell_whole HN.out 0
  have c1 := cell_whole HN.out 1
  have c2 := cell_whole HN.out 2
  have HR := Lib.hid (h.below' hb00)
  have HCALL := Lib.hid (ubuild_any n b ao nl cap Z s t H _ HR.out hl hz)
  obtain ⟨e0, he⟩ : ∃ e0, xpE n Z s t H = e0 := ⟨_, rfl⟩
  rw [he] at hx ⊢
  have HE := Lib.hid he
  have hne : (e0 != 0) = true := by simpa using hx
  clear h hb00 hl hz hx he
  go_enter Try.func21, Try.ntmps21
  go_wp2_with (first
    | (go_at_call 32; refine HCALL.out.mono ?_; rintro e w2 ⟨oa, oc, rfl, hr2, hb2⟩; rw [HE.out]; have HB2 := Lib.hid ((HB.out.trans (hb2.mono HB.out.size))); clear hr2 hb2))
  go_ret2
  exact ⟨rfl, HB2.out.alloc HB2.out.size _⟩
theorem made_rows {w : World} {B g N : Nat} (hg : w.heap[g]? = some (.cells (madeCells #[.slice none 0 0] N) 94 (0, 0))) (hB : B ≤ g) (hN : N ≤ 200000) : OwnL encV w B 94 (.slice (some ⟨g, 0, none⟩) N N) (List.replicate N nilS) := by
  refine ⟨by simp, .inr ⟨g, N, _, by rw [List.length_replicate], hB, hg, by simp, by unfold maxLen; omega, by simp [madeCells], ?_⟩⟩
  have h := made_one (.slice none 0 0) rfl N
  rw [Nat.mul_one] at h
  rw [show (madeCells #[Value.slice none 0 0] N) = madeCells (Value.slice none 0 0).cells N from rfl, h]
  simp [encV, nilS]
set_option maxRecDepth 100000 in
set_option maxHeartbeats 16000000 in
theorem fexpof_yes (N : Nat) (A : List ArcT) (w : World) (h : Row encA 4 w ao Z) (hl : Z.length = nl) (hz : Z.length ≤ 4398046511104) (hx : xpE n Z s t H = 0) (hA : bldA n Z s t H b = A) (hN : bldN n Z s t H = (N : Int)) (hW : WideNet A N) :
    Calls Try.prog 21 #[.agg #[.int .i64 n, .bool b, .slice ao nl cap], .int .i64 s, .int .i64 t, .int .i64 H] w (ExpV N A w) := by
  have hb00 := (Below.refl _ w).alloc (Nat.le_refl _) (.cells #[.int .i64 n, .bool b, .slice ao nl cap] 24)
  have HB := Lib.hid hb00
  have HN := Lib.hid (heap_alloc_new w (.cells #[.int .i64 n, .bool b, .slice ao nl cap] 24))
  have c0 := cell_whole HN.out 0
  have c1 := cell_whole HN.out 1
  have c2 := cell_whole HN.out 2
  have HR := Lib.hid (h.below' hb00)
  have HCALL := Lib.hid (ubuild_any n b ao nl cap Z s t H _ HR.out hl hz)
  have HX := Lib.hid hx
  have HAA := Lib.hid hA
  have HNN := Lib.hid hN
  have HWN := Lib.hid hW
  have hNl := hW.nodes
  have hAl := hW.len
  have hmk := fun W => run_make_row' (P := Try.prog) 88 94 (.slice none 0 0) 24 Try.underlying88 infoStepsF rfl .i64 .i64 N (by omega) (by omega) W
  clear h hb00 hl hz hx hA hN hW
  go_enter Try.func21, Try.ntmps21
  go_wp2_with (first
    | (go_at_call 32; refine HCALL.out.mono ?_; rintro e w2 ⟨oa, oc, rfl, hr2, hb2⟩; rw [HX.out, HAA.out, HNN.out]; rw [HAA.out] at hr2; have HB2 := Lib.hid (HB.out.trans (hb2.mono HB.out.size)); have HR2 := Lib.hid hr2; clear hr2 hb2 c0 c1 c2))
  obtain ⟨ib, hib⟩ : ∃ ib, w2.heap.size = ib := ⟨_, rfl⟩
  have HM := Lib.hid (heap_alloc_new w2 (.cells #[.int .i64 (N : Int), .bool false, .slice oa A.length oc] 24))
  rw [hib] at HM ⊢
  have HB3 := Lib.hid (HB2.out.alloc HB2.out.size (.cells #[.int .i64 (N : Int), .bool false, .slice oa A.length oc] 24))
  have HR3 := Lib.hid (HR2.out.below' ((Below.refl _ w2).alloc (Nat.le_refl _) (.cells #[.int .i64 (N : Int), .bool false, .slice oa A.length oc] 24)))
  have hibl := lt_whole HM.out
  clear HB2 HR2 hib
  generalize w2.alloc (.cells #[.int .i64 (N : Int), .bool false, .slice oa A.length oc] 24) = w3 at *
  have m0 := cell_whole HM.out 0
  have m1 := cell_whole HM.out 1
  have m2 := cell_whole HM.out 2
  have HUND : Hid (Und oa A.length w3.heap.size) := Lib.hid HR3.out.lt
  obtain ⟨B, hB⟩ : ∃ B, w3.heap.size = B := ⟨_, rfl⟩
  have hq : ∀ (v : Value) (i : Nat), w3.cell? ⟨ib, i, none⟩ = some v → (∀ A, (w3.alloc A).cell? ⟨ib, i, none⟩ = some v) ∧ (∀ A B, ((w3.alloc A).alloc B).cell? ⟨ib, i, none⟩ = some v) :=
    fun v i h => ⟨fun A => cell_alloc h A, fun A B => cell_alloc (cell_alloc h A) B⟩
  obtain ⟨a0, b0⟩ := hq _ _ m0
  obtain ⟨a1, b1⟩ := hq _ _ m1
  obtain ⟨a2, b2⟩ := hq _ _ m2
  clear hq
  go_cut [12] (fun v12 wc => ∃ eb sg vs own, v12 = .pointer (some ⟨eb, 0, none⟩) ∧ Hid (wc.heap[eb]? = some (.cells #[.int .i64 (N : Int), .bool false, .slice oa A.length oc, .slice (some ⟨sg, 0, none⟩) N N] 90 (0, 0))) ∧ Hid (IXF B wc sg N vs (rowsKE A N 0) own) ∧ Hid (own eb = 0 ∧ sg ≠ eb) ∧ Hid (Below B w3 wc))
  case first =>
    go_region_held3 (fun W => W.cell? ⟨ib, 0, none⟩ = some (.int .i64 (N : Int)) ∧ W.cell? ⟨ib, 1, none⟩ = some (.bool false) ∧ W.cell? ⟨ib, 2, none⟩ = some (.slice oa A.length oc)) (first | exact ⟨m0, m1, m2⟩ | go_keep) (fail)
    all_goals
      go_wp2
      go_meet
      have hz1 : (w3.alloc (.cells (madeCells #[.slice none 0 0] N) 94)).heap.size = w3.heap.size + 1 := by simp
      have h1 := heap_alloc_new w3 (.cells (madeCells #[.slice none 0 0] N) 94)
      have h2 := heap_alloc_new (w3.alloc (.cells (madeCells #[.slice none 0 0] N) 94)) (.cells #[.int .i64 (N : Int), .bool false, .slice oa A.length oc, .slice (some ⟨B, 0, none⟩) N N] 90)
      rw [hz1, hB] at h2
      rw [hB] at h1
      have h3 := alloc_whole h1 (.cells #[.int .i64 (N : Int), .bool false, .slice oa A.length oc, .slice (some ⟨B, 0, none⟩) N N] 90)
      exact ⟨_, _, List.replicate N nilS, fun _ => 0, rfl, Lib.hid h2, Lib.hid (by rw [rowsKE_zero]; exact (IXF.start (made_rows h3 (by omega) (by omega))).below (below_drew (Below.refl _ _))), Lib.hid ⟨rfl, by omega⟩, Lib.hid (by rw [← hB]; exact below_drew (((Below.refl _ w3).alloc (Nat.le_refl _) _).alloc (by omega) _))⟩
  case rest =>
    obtain ⟨eb, sg, vs0, own0, rfl, HEB, HIX, HOE, HB4⟩ := hcut
    have m2 := cell_below HB4.out m2 (by omega)
    clear a0 a1 a2 b0 b1 b2 m0 m1 hmk
    have hB4 := HB4.out.size
    have HR4 := Lib.hid (HR3.out.below HB4.out (by rw [← hB]; exact HUND.out))
    have HUN : Hid (Und oa A.length B) := Lib.hid (by rw [← hB]; exact HUND.out)
    go_wp2_with fail
    go_loopw [37] (fun i wr => ∃ t : Nat, t ≤ A.length ∧ i = .int .i64 (t : Int) ∧ Hid (Below B w3 wr) ∧ Hid (wr.heap[eb]? = some (.cells #[.int .i64 (N : Int), .bool false, .slice oa A.length oc, .slice (some ⟨sg, 0, none⟩) N N] 90 (0, 0))) ∧ Hid (∃ vs own, own eb = 0 ∧ IXF B wr sg N vs (rowsKE A N t) own)) (fun i _ => A.length - (intOf i).toNat)
    case atStart => exact ⟨0, Nat.zero_le _, rfl, HB4, HEB, Lib.hid ⟨vs0, own0, HOE.out.1, HIX.out⟩⟩
    case round =>
      clear HB4 HEB HIX m2
      obtain ⟨t, ht, rfl, HB, HEB, HG⟩ := hrel
      have hsz0 := HB.out.size
      by_cases hlt : t < A.length
      · have hli : (t : Int) < (A.length : Int) := by omega
        have ha := List.getElem?_eq_getElem hlt
        have HE := Lib.hid (HWN.out.ends _ (List.getElem_mem hlt))
        have HL := Lib.hid (HWN.out.lt _ (List.getElem_mem hlt))
        have HAI := Lib.hid ha
        clear ha
        generalize A[t] = a at *
        have HBB := Lib.hid (HB.out.alloc (by omega) (.cells #[.bool false, .bool true] 4))
        have hbw := heap_alloc_new wr (.cells #[.bool false, .bool true] 4)
        obtain ⟨bb, hbb⟩ : ∃ bb, wr.heap.size = bb := ⟨_, rfl⟩
        rw [hbb] at hbw
        have HBW := Lib.hid hbw
        have HEB2 := Lib.hid (alloc_whole HEB.out (.cells #[.bool false, .bool true] 4))
        have hebl := lt_whole HEB.out
        have HG0 : Hid (∃ vs own, (own bb = 0 ∧ own eb = 0) ∧ IXF B (wr.alloc (.cells #[.bool false, .bool true] 4)) sg N vs (rowsJE A N t a 0) own) := Lib.hid (by obtain ⟨vs, own, ho, hG⟩ := HG.out; exact ⟨vs, _, ⟨by rw [← hbb]; exact ownSet_new own _ 0, ownSet_old ho (by omega)⟩, (hG.reown 0).below ((Below.refl _ _).alloc (Nat.le_refl _) _)⟩)
        have HSB : Hid (sg < bb) := Lib.hid (by obtain ⟨vs, own, _, hG⟩ := HG.out; have := hG.lt; omega)
        clear HG hbw HEB HB
        go_wp2_with fail
        generalize hwr : wr.alloc (.cells #[.bool false, .bool true] 4) = wy at *
        go_loopw [42] (fun i wi => ∃ j : Nat, j ≤ 2 ∧ i = .int .i64 (j : Int) ∧ Hid (Below B w3 wi) ∧ Hid (wi.heap[bb]? = some (.cells #[.bool false, .bool true] 4 (0, 0))) ∧ Hid (wi.heap[eb]? = some (.cells #[.int .i64 (N : Int), .bool false, .slice oa A.length oc, .slice (some ⟨sg, 0, none⟩) N N] 90 (0, 0))) ∧ Hid (∃ vs own, (own bb = 0 ∧ own eb = 0) ∧ IXF B wi sg N vs (rowsJE A N t a j) own)) (fun i _ => 2 - (intOf i).toNat)
        case atStart => exact ⟨0, by omega, rfl, HBB, HBW, HEB2, HG0⟩
        case round =>
          clear HBB HBW HEB2 HG0
          obtain ⟨j, hj, rfl, HB, HBW, HEB, HG⟩ := hrel
          by_cases hlt2 : j < 2
          · have hli2 : (j : Int) < 2 := by omega
            obtain ⟨q, u, hq, hu, huN, hGJ⟩ := rowsJE_step (Z := A) (t := t) hlt2 HL.out.1 HL.out.2 HE.out
            have hfu : fromS A ((t : Int), q) = u := by
              have h1 := (begI_fromE HAI.out HE.out q).1
              omega
            have HFU := Lib.hid hfu
            have bc : wr.cell? ⟨bb, j, none⟩ = some (.bool q) := (cell_whole HBW.out j).trans hq
            obtain ⟨vs, own, hvb, hG⟩ := HG.out
            have hsz := HB.out.size
            obtain ⟨xb, hxb⟩ : ∃ xb, wr.heap.size = xb := ⟨_, rfl⟩
            have hbx : bb < xb := by rw [← hxb]; exact lt_whole HBW.out
            have hex : eb < xb := by rw [← hxb]; exact lt_whole HEB.out
            have hBx : B ≤ xb := by omega
            have HSF : Hid (SE B w3 (wr.alloc (.cells #[.int .i64 (t : Int), .bool q] 93)) eb xb bb N false oa oc A (t : Int) q sg N vs (rowsJE A N t a j) (ownSet own wr.heap.size 0)) := Lib.hid ⟨HB.out.alloc (by omega) _, by simp; omega, alloc_whole HEB.out _, by rw [← hxb]; exact heap_alloc_new _ _, alloc_whole HBW.out _, HR3.out.below (HB.out.alloc (by omega) _) (by rw [← hB]; exact HUND.out), HUN.out, (hG.reown 0).below ((Below.refl _ _).alloc (Nat.le_refl _) _), ⟨HOE.out.2, by have := hG.lt; omega, by have := HSB.out; omega⟩, ⟨ownSet_old hvb.2 (by omega), by rw [← hxb]; exact ownSet_new _ _ _, ownSet_old hvb.1 (by omega)⟩⟩
            generalize ownSet own wr.heap.size 0 = own at *
            have HGJ := Lib.hid hGJ
            have HRM := Lib.hid (rowsJE_room (Z := A) (N := N) (a := a) (j := j) ht u)
            have hui : (u : Int) < (N : Int) := by omega
            have hu0 : (0 : Int) ≤ (u : Int) := by omega
            obtain ⟨sv, hsv⟩ : ∃ sv, vs.getD u nilS = sv := ⟨_, rfl⟩
            have HSV := Lib.hid hsv
            clear hq hu hGJ hG HG hvb hsv hfu HB HEB
            go_wp2_with fail
            obtain ⟨i1, hi0, hz0, hz1, hz2⟩ := info_parts infoStep
            have HJ := Lib.hid (And.intro hi0 (And.intro hz0 (And.intro hz1 hz2)))
            clear hi0 hz0 hz1 hz2 bc hxb
            refine wp_region_held_drew (S := fun W => HeldSE eb xb N oa A.length oc sg N (t : Int) q W) (by kernel_rfl) HSF.out.held (fun hHeld => ?_)
            have HS := Lib.hid (HSF.out.next (below_drew (Below.refl _ _)))
            clear HSF
            generalize (wr.alloc (.cells #[.int .i64 (t : Int), .bool q] 93)).drew = wd at *
            refine wpAnyH_take (i := 0) (oi := { dst := some 49, op := Go.Op.move (Go.Operand.tmp 12), type := 58, pos := "timeflow.go:29", after := #[], guard := none }) (v := .pointer (some ⟨eb, 0, none⟩)) rfl (by kernel_rfl) (by kernel_rfl) (by kernel_rfl) (fun _ _ _ h => h) (Or.inl ⟨by rfl, ?_⟩) (by assumption) ?_
            · (intro w hSw; (try dsimp only [HeldSE] at hSw); go_simp)
            try simp only [Act.put, List.setIfInBounds_toArray, List.set_cons_zero, List.set_cons_succ]
            refine wpAnyH_take (i := 1) (oi := { dst := some 50, op := Go.Op.nilCheck (Go.Operand.tmp 49), type := 0, pos := "timeflow.go:29", after := #[{ on := 0, ground := Go.Ground.data }], guard := none }) (v := .pointer (some ⟨eb, 0, none⟩)) rfl (by kernel_rfl) (by kernel_rfl) (by kernel_rfl) (fun _ _ _ h => h) (Or.inl ⟨by rfl, ?_⟩) (by assumption) ?_
            · (intro w hSw; (try dsimp only [HeldSE] at hSw); go_simp)
            try simp only [Act.put, List.setIfInBounds_toArray, List.set_cons_zero, List.set_cons_succ]
            refine wpAnyH_take (i := 2) (oi := { dst := some 51, op := Go.Op.fieldAddr 90 (Go.Operand.tmp 50) 1, type := 0, pos := "timeflow.go:29", after := #[{ on := 1, ground := Go.Ground.data }], guard := none }) (v := .pointer (some ⟨eb, 3, none⟩)) rfl (by kernel_rfl) (by kernel_rfl) (by kernel_rfl) (fun _ _ _ h => h) (Or.inl ⟨by rfl, ?_⟩) (by assumption) ?_
            · (intro w hSw; (try dsimp only [HeldSE] at hSw); go_simp)
            try simp only [Act.put, List.setIfInBounds_toArray, List.set_cons_zero, List.set_cons_succ]
            refine wpAnyH_take (i := 3) (oi := { dst := some 52, op := Go.Op.load 88 (Go.Operand.tmp 51), type := 88, pos := "timeflow.go:29", after := #[{ on := 2, ground := Go.Ground.data }], guard := none }) (v := .slice (some ⟨sg, 0, none⟩) N N) rfl (by kernel_rfl) (by kernel_rfl) (by kernel_rfl) (fun _ _ _ h => h) (Or.inl ⟨by rfl, ?_⟩) (by assumption) ?_
            · (intro w hSw; (try dsimp only [HeldSE] at hSw); go_simp)
            try simp only [Act.put, List.setIfInBounds_toArray, List.set_cons_zero, List.set_cons_succ]
            refine wpAnyH_take (i := 4) (oi := { dst := some 53, op := Go.Op.move (Go.Operand.tmp 12), type := 58, pos := "timeflow.go:29", after := #[], guard := none }) (v := .pointer (some ⟨eb, 0, none⟩)) rfl (by kernel_rfl) (by kernel_rfl) (by kernel_rfl) (fun _ _ _ h => h) (Or.inl ⟨by rfl, ?_⟩) (by assumption) ?_
            · (intro w hSw; (try dsimp only [HeldSE] at hSw); go_simp)
            try simp only [Act.put, List.setIfInBounds_toArray, List.set_cons_zero, List.set_cons_succ]
            refine wpAnyH_take (i := 5) (oi := { dst := some 54, op := Go.Op.load 93 (Go.Operand.tmp 16), type := 93, pos := "timeflow.go:29", after := #[], guard := none }) (v := .agg #[.int .i64 (t : Int), .bool q]) rfl (by kernel_rfl) (by kernel_rfl) (by kernel_rfl) (fun _ _ _ h => h) (Or.inl ⟨by rfl, ?_⟩) (by assumption) ?_
            · (intro w hSw; (try dsimp only [HeldSE] at hSw); go_simp)
            try simp only [Act.put, List.setIfInBounds_toArray, List.set_cons_zero, List.set_cons_succ]
            refine wpAnyH_take (i := 7) (oi := { dst := some 56, op := Go.Op.move (Go.Operand.tmp 12), type := 58, pos := "timeflow.go:29", after := #[], guard := none }) (v := .pointer (some ⟨eb, 0, none⟩)) rfl (by kernel_rfl) (by kernel_rfl) (by kernel_rfl) (fun _ _ _ h => h) (Or.inl ⟨by rfl, ?_⟩) (by assumption) ?_
            · (intro w hSw; (try dsimp only [HeldSE] at hSw); go_simp)
            try simp only [Act.put, List.setIfInBounds_toArray, List.set_cons_zero, List.set_cons_succ]
            refine wpAnyH_take (i := 8) (oi := { dst := some 57, op := Go.Op.nilCheck (Go.Operand.tmp 56), type := 0, pos := "timeflow.go:29", after := #[{ on := 7, ground := Go.Ground.data }], guard := none }) (v := .pointer (some ⟨eb, 0, none⟩)) rfl (by kernel_rfl) (by kernel_rfl) (by kernel_rfl) (fun _ _ _ h => h) (Or.inl ⟨by rfl, ?_⟩) (by assumption) ?_
            · (intro w hSw; (try dsimp only [HeldSE] at hSw); go_simp)
            try simp only [Act.put, List.setIfInBounds_toArray, List.set_cons_zero, List.set_cons_succ]
            refine wpAnyH_take (i := 9) (oi := { dst := some 58, op := Go.Op.fieldAddr 90 (Go.Operand.tmp 57) 1, type := 0, pos := "timeflow.go:29", after := #[{ on := 8, ground := Go.Ground.data }], guard := none }) (v := .pointer (some ⟨eb, 3, none⟩)) rfl (by kernel_rfl) (by kernel_rfl) (by kernel_rfl) (fun _ _ _ h => h) (Or.inl ⟨by rfl, ?_⟩) (by assumption) ?_
            · (intro w hSw; (try dsimp only [HeldSE] at hSw); go_simp)
            try simp only [Act.put, List.setIfInBounds_toArray, List.set_cons_zero, List.set_cons_succ]
            refine wpAnyH_take (i := 10) (oi := { dst := some 59, op := Go.Op.load 88 (Go.Operand.tmp 58), type := 88, pos := "timeflow.go:29", after := #[{ on := 9, ground := Go.Ground.data }], guard := none }) (v := .slice (some ⟨sg, 0, none⟩) N N) rfl (by kernel_rfl) (by kernel_rfl) (by kernel_rfl) (fun _ _ _ h => h) (Or.inl ⟨by rfl, ?_⟩) (by assumption) ?_
            · (intro w hSw; (try dsimp only [HeldSE] at hSw); go_simp)
            try simp only [Act.put, List.setIfInBounds_toArray, List.set_cons_zero, List.set_cons_succ]
            refine wpAnyH_take (i := 11) (oi := { dst := some 60, op := Go.Op.move (Go.Operand.tmp 12), type := 58, pos := "timeflow.go:29", after := #[], guard := none }) (v := .pointer (some ⟨eb, 0, none⟩)) rfl (by kernel_rfl) (by kernel_rfl) (by kernel_rfl) (fun _ _ _ h => h) (Or.inl ⟨by rfl, ?_⟩) (by assumption) ?_
            · (intro w hSw; (try dsimp only [HeldSE] at hSw); go_simp)
            try simp only [Act.put, List.setIfInBounds_toArray, List.set_cons_zero, List.set_cons_succ]
            refine wpAnyH_take (i := 12) (oi := { dst := some 61, op := Go.Op.load 93 (Go.Operand.tmp 16), type := 93, pos := "timeflow.go:29", after := #[], guard := none }) (v := .agg #[.int .i64 (t : Int), .bool q]) rfl (by kernel_rfl) (by kernel_rfl) (by kernel_rfl) (fun _ _ _ h => h) (Or.inl ⟨by rfl, ?_⟩) (by assumption) ?_
            · (intro w hSw; (try dsimp only [HeldSE] at hSw); go_simp)
            try simp only [Act.put, List.setIfInBounds_toArray, List.set_cons_zero, List.set_cons_succ]
            refine wpAnyH_take (i := 16) (oi := { dst := some 65, op := Go.Op.load 93 (Go.Operand.tmp 16), type := 93, pos := "timeflow.go:29", after := #[], guard := none }) (v := .agg #[.int .i64 (t : Int), .bool q]) rfl (by kernel_rfl) (by kernel_rfl) (by kernel_rfl) (fun _ _ _ h => h) (Or.inl ⟨by rfl, ?_⟩) (by assumption) ?_
            · (intro w hSw; (try dsimp only [HeldSE] at hSw); go_simp)
            try simp only [Act.put, List.setIfInBounds_toArray, List.set_cons_zero, List.set_cons_succ]
            refine wpAnyH_ready (rs := [6, 17]) (by kernel_rfl) (by simp) (AllReadyH.cons (o := { dst := some 55, op := Go.Op.call { callee := Go.Callee.value (Go.Operand.func 33), args := #[Go.Operand.tmp 53, Go.Operand.tmp 54], argTypes := #[58, 93] }, type := 3, pos := "timeflow.go:29", after := #[{ on := 4, ground := Go.Ground.data }, { on := 5, ground := Go.Ground.data }], guard := none }) rfl (fun KQ hK => ?_) (AllReadyH.cons (o := { dst := some 66, op := Go.Op.buildSlice 94 1 #[(0, Go.Operand.tmp 65)], type := 94, pos := "timeflow.go:29", after := #[{ on := 16, ground := Go.Ground.data }], guard := none }) rfl (fun KQ hK => ?_) (AllReadyH.nil)))
            · go_simp
              refine (fbegin_is eb N oa oc A t q u _ HS.out.beg HWN.out hlt HFU.out).mono ?_
              rintro e w7 ⟨rfl, b7⟩
              have HS := Lib.hid (HS.out.next b7)
              clear b7 hHeld
              go_wp2_with fail
              refine hK.out _ _ HS.out.held (fun hHeld => ?_)
              clear hK
              try simp only [Act.put, List.setIfInBounds_toArray, List.set_cons_zero, List.set_cons_succ]
              refine wpAnyH_ready (rs := [13, 17]) (by kernel_rfl) (by simp) (AllReadyH.cons (o := { dst := some 62, op := Go.Op.call { callee := Go.Callee.value (Go.Operand.func 33), args := #[Go.Operand.tmp 60, Go.Operand.tmp 61], argTypes := #[58, 93] }, type := 3, pos := "timeflow.go:29", after := #[{ on := 11, ground := Go.Ground.data }, { on := 12, ground := Go.Ground.data }, { on := 6, ground := Go.Ground.chain }], guard := none }) rfl (fun KQ hK => ?_) (AllReadyH.cons (o := { dst := some 66, op := Go.Op.buildSlice 94 1 #[(0, Go.Operand.tmp 65)], type := 94, pos := "timeflow.go:29", after := #[{ on := 16, ground := Go.Ground.data }], guard := none }) rfl (fun KQ hK => ?_) (AllReadyH.nil)))
              · go_simp
                refine (fbegin_is eb N oa oc A t q u _ HS.out.beg HWN.out hlt HFU.out).mono ?_
                rintro e w8 ⟨rfl, b7⟩
                have HS := Lib.hid (HS.out.next b7)
                clear b7 hHeld
                go_wp2_with fail
                refine hK.out _ _ HS.out.held (fun hHeld => ?_)
                clear hK
                try simp only [Act.put, List.setIfInBounds_toArray, List.set_cons_zero, List.set_cons_succ]
                refine wpAnyH_take (i := 14) (oi := { dst := some 63, op := Go.Op.indexAddr 88 (Go.Operand.tmp 59) (Go.Operand.tmp 62), type := 0, pos := "timeflow.go:29", after := #[{ on := 10, ground := Go.Ground.data }, { on := 13, ground := Go.Ground.data }], guard := none }) (v := .pointer (some ⟨sg, u, none⟩)) rfl (by kernel_rfl) (by kernel_rfl) (by kernel_rfl) (fun _ _ _ h => h) (Or.inl ⟨by rfl, ?_⟩) (by assumption) ?_
                · (intro w hSw; (try dsimp only [HeldSE] at hSw); go_simp)
                try simp only [Act.put, List.setIfInBounds_toArray, List.set_cons_zero, List.set_cons_succ]
                refine wpAnyH_ready (rs := [15, 17]) (by kernel_rfl) (by simp) (AllReadyH.cons (o := { dst := some 64, op := Go.Op.load 94 (Go.Operand.tmp 63), type := 94, pos := "timeflow.go:29", after := #[{ on := 14, ground := Go.Ground.data }], guard := none }) rfl (fun KQ hK => ?_) (AllReadyH.cons (o := { dst := some 66, op := Go.Op.buildSlice 94 1 #[(0, Go.Operand.tmp 65)], type := 94, pos := "timeflow.go:29", after := #[{ on := 16, ground := Go.Ground.data }], guard := none }) rfl (fun KQ hK => ?_) (AllReadyH.nil)))
                · have hc : (w8).cell? ⟨sg, u, none⟩ = some sv := by rw [← HSV.out]; exact (HS.out.ix.cell (by rw [rowsJE_len]; exact huN)).1
                  go_simp
                  refine hK.out _ _ HS.out.held (fun hHeld => ?_)
                  clear hK hc
                  try simp only [Act.put, List.setIfInBounds_toArray, List.set_cons_zero, List.set_cons_succ]
                  refine wpAnyH_ready (rs := [17]) (by kernel_rfl) (by simp) (AllReadyH.cons (o := { dst := some 66, op := Go.Op.buildSlice 94 1 #[(0, Go.Operand.tmp 65)], type := 94, pos := "timeflow.go:29", after := #[{ on := 16, ground := Go.Ground.data }], guard := none }) rfl (fun KQ hK => ?_) (AllReadyH.nil))
                  obtain ⟨nb2, hnb2⟩ : ∃ nb2, (w8).heap.size = nb2 := ⟨_, rfl⟩
                  go_simp
                  have HS := Lib.hid (HS.out.next ((Below.refl _ _).alloc (Nat.le_refl _) (.cells #[.int .i64 (t : Int), .bool q] 93)))
                  have HNW : Hid (((w8).alloc (.cells #[.int .i64 (t : Int), .bool q] 93)).heap[nb2]? = some (.cells #[.int .i64 (t : Int), .bool q] 93 (0, 0))) := Lib.hid (by rw [← hnb2]; exact heap_alloc_new _ _)
                  clear hHeld
                  refine hK.out _ _ HS.out.held (fun hHeld => ?_)
                  clear hK
                  generalize (w8).alloc (.cells #[.int .i64 (t : Int), .bool q] 93) = wn at *
                  clear hnb2
                  try simp only [Act.put, List.setIfInBounds_toArray, List.set_cons_zero, List.set_cons_succ]
                  refine wpAnyH_ready (rs := [18]) (by kernel_rfl) (by simp) (AllReadyH.cons (o := { dst := some 67, op := Go.Op.call { callee := Go.Callee.builtin Go.Builtin.append, args := #[Go.Operand.tmp 64, Go.Operand.tmp 66], argTypes := #[94, 94] }, type := 94, pos := "timeflow.go:29", after := #[{ on := 15, ground := Go.Ground.data }, { on := 17, ground := Go.Ground.data }, { on := 13, ground := Go.Ground.chain }], guard := none }) rfl (fun KQ hK => ?_) (AllReadyH.nil))
                  have HOW : Hid (OwnS (wn) B sv ((rowsJE A N t a j).getD u [])) := Lib.hid (by rw [← HSV.out]; exact HS.out.ix.inn u (by rw [rowsJE_len]; exact huN))
                  refine step_append_lies _ (by rfl) _ _ _ (by rfl) B 93 i1 _ 2 16 Try.underlying94 HJ.out.1 HJ.out.2.1 HJ.out.2.2.1 HJ.out.2.2.2 rfl (by omega) sv ((rowsJE A N t a j).getD u []).length (((rowsJE A N t a j).getD u []).flatMap encS) (by rfl) HOW.out ⟨nb2, 0, none⟩ 1 1 (encS ((t : Int), q)) (by rfl) (by rfl) (World.news_of_block (cs := #[.int .i64 (t : Int), .bool q]) (t := 93) (fr := (0, 0)) HNW.out) (encS_one _) (by omega) (by have := HRM.out; unfold maxLen; omega) (by have := HRM.out; omega) HS.out.big _ rfl ?_
                  intro g12 cap12 w12 ho12 hg12 hl12 hlt12
                  obtain ⟨q1, q2, q3, q4, q5, q6, q7, q8⟩ := HS.out.add (u := u) (by rw [rowsJE_len]; exact huN) (ownS_snoc ho12) (by rw [HSV.out]; exact hg12) (by rw [HSV.out]; exact hl12)
                  rw [HSV.out] at q2
                  have HQ4 := Lib.hid q4
                  have HQ5 := Lib.hid q5
                  have HQ6 := Lib.hid q6
                  have HQ7 := Lib.hid q7
                  have HQ8 := Lib.hid q8
                  clear hHeld
                  refine hK.out _ _ q1 (fun hHeld => ?_)
                  clear hK q1
                  try simp only [Act.put, List.setIfInBounds_toArray, List.set_cons_zero, List.set_cons_succ]
                  refine wpAnyH_take (i := 19) (oi := { dst := some 68, op := Go.Op.indexAddr 88 (Go.Operand.tmp 52) (Go.Operand.tmp 55), type := 0, pos := "timeflow.go:29", after := #[{ on := 3, ground := Go.Ground.data }, { on := 6, ground := Go.Ground.data }, { on := 0, ground := Go.Ground.phase }, { on := 1, ground := Go.Ground.phase }, { on := 2, ground := Go.Ground.phase }, { on := 3, ground := Go.Ground.phase }, { on := 4, ground := Go.Ground.phase }, { on := 5, ground := Go.Ground.phase }, { on := 6, ground := Go.Ground.phase }, { on := 7, ground := Go.Ground.phase }, { on := 8, ground := Go.Ground.phase }, { on := 9, ground := Go.Ground.phase }, { on := 10, ground := Go.Ground.phase }, { on := 11, ground := Go.Ground.phase }, { on := 12, ground := Go.Ground.phase }, { on := 13, ground := Go.Ground.phase }, { on := 14, ground := Go.Ground.phase }, { on := 15, ground := Go.Ground.phase }, { on := 16, ground := Go.Ground.phase }, { on := 17, ground := Go.Ground.phase }, { on := 18, ground := Go.Ground.phase }], guard := none }) (v := .pointer (some ⟨sg, u, none⟩)) rfl (by kernel_rfl) (by kernel_rfl) (by kernel_rfl) (fun _ _ _ h => h) (Or.inl ⟨by rfl, ?_⟩) (by assumption) ?_
                  · (intro w hSw; (try dsimp only [HeldSE] at hSw); go_simp)
                  try simp only [Act.put, List.setIfInBounds_toArray, List.set_cons_zero, List.set_cons_succ]
                  refine wpAnyH_ready (rs := [20]) (by kernel_rfl) (by simp) (AllReadyH.cons (o := { dst := none, op := Go.Op.store 94 (Go.Operand.tmp 68) (Go.Operand.tmp 67), type := 0, pos := "timeflow.go:29", after := #[{ on := 19, ground := Go.Ground.data }, { on := 18, ground := Go.Ground.data }, { on := 18, ground := Go.Ground.chain }, { on := 0, ground := Go.Ground.phase }, { on := 1, ground := Go.Ground.phase }, { on := 2, ground := Go.Ground.phase }, { on := 3, ground := Go.Ground.phase }, { on := 4, ground := Go.Ground.phase }, { on := 5, ground := Go.Ground.phase }, { on := 6, ground := Go.Ground.phase }, { on := 7, ground := Go.Ground.phase }, { on := 8, ground := Go.Ground.phase }, { on := 9, ground := Go.Ground.phase }, { on := 10, ground := Go.Ground.phase }, { on := 11, ground := Go.Ground.phase }, { on := 12, ground := Go.Ground.phase }, { on := 13, ground := Go.Ground.phase }, { on := 14, ground := Go.Ground.phase }, { on := 15, ground := Go.Ground.phase }, { on := 16, ground := Go.Ground.phase }, { on := 17, ground := Go.Ground.phase }, { on := 18, ground := Go.Ground.phase }], guard := none }) rfl (fun KQ hK => ?_) (AllReadyH.nil))
                  go_simp
                  clear hHeld
                  refine hK.out _ _ HQ4.out (fun hHeld => ?_)
                  clear hK
                  try simp only [Act.put, List.setIfInBounds_toArray, List.set_cons_zero, List.set_cons_succ]
                  refine wpAnyH_done (by kernel_rfl) ?_ _
                  clear hHeld
                  go_wp2
                  go_roundw
                  case rel => exact ⟨j + 1, by omega, by go_num, HQ5, HQ6, HQ7, Lib.hid (by rw [HGJ.out]; exact HQ8.out)⟩
                  case measure => simp [intOf]; omega
                · obtain ⟨nb2, hnb2⟩ : ∃ nb2, (w8).heap.size = nb2 := ⟨_, rfl⟩
                  go_simp
                  have HS := Lib.hid (HS.out.next ((Below.refl _ _).alloc (Nat.le_refl _) (.cells #[.int .i64 (t : Int), .bool q] 93)))
                  have HNW : Hid (((w8).alloc (.cells #[.int .i64 (t : Int), .bool q] 93)).heap[nb2]? = some (.cells #[.int .i64 (t : Int), .bool q] 93 (0, 0))) := Lib.hid (by rw [← hnb2]; exact heap_alloc_new _ _)
                  clear hHeld
                  refine hK.out _ _ HS.out.held (fun hHeld => ?_)
                  clear hK
                  generalize (w8).alloc (.cells #[.int .i64 (t : Int), .bool q] 93) = wn at *
                  clear hnb2
                  try simp only [Act.put, List.setIfInBounds_toArray, List.set_cons_zero, List.set_cons_succ]
                  refine wpAnyH_ready (rs := [15]) (by kernel_rfl) (by simp) (AllReadyH.cons (o := { dst := some 64, op := Go.Op.load 94 (Go.Operand.tmp 63), type := 94, pos := "timeflow.go:29", after := #[{ on := 14, ground := Go.Ground.data }], guard := none }) rfl (fun KQ hK => ?_) (AllReadyH.nil))
                  have hc : (wn).cell? ⟨sg, u, none⟩ = some sv := by rw [← HSV.out]; exact (HS.out.ix.cell (by rw [rowsJE_len]; exact huN)).1
                  go_simp
                  refine hK.out _ _ HS.out.held (fun hHeld => ?_)
                  clear hK hc
                  try simp only [Act.put, List.setIfInBounds_toArray, List.set_cons_zero, List.set_cons_succ]
                  refine wpAnyH_ready (rs := [18]) (by kernel_rfl) (by simp) (AllReadyH.cons (o := { dst := some 67, op := Go.Op.call { callee := Go.Callee.builtin Go.Builtin.append, args := #[Go.Operand.tmp 64, Go.Operand.tmp 66], argTypes := #[94, 94] }, type := 94, pos := "timeflow.go:29", after := #[{ on := 15, ground := Go.Ground.data }, { on := 17, ground := Go.Ground.data }, { on := 13, ground := Go.Ground.chain }], guard := none }) rfl (fun KQ hK => ?_) (AllReadyH.nil))
                  have HOW : Hid (OwnS (wn) B sv ((rowsJE A N t a j).getD u [])) := Lib.hid (by rw [← HSV.out]; exact HS.out.ix.inn u (by rw [rowsJE_len]; exact huN))
                  refine step_append_lies _ (by rfl) _ _ _ (by rfl) B 93 i1 _ 2 16 Try.underlying94 HJ.out.1 HJ.out.2.1 HJ.out.2.2.1 HJ.out.2.2.2 rfl (by omega) sv ((rowsJE A N t a j).getD u []).length (((rowsJE A N t a j).getD u []).flatMap encS) (by rfl) HOW.out ⟨nb2, 0, none⟩ 1 1 (encS ((t : Int), q)) (by rfl) (by rfl) (World.news_of_block (cs := #[.int .i64 (t : Int), .bool q]) (t := 93) (fr := (0, 0)) HNW.out) (encS_one _) (by omega) (by have := HRM.out; unfold maxLen; omega) (by have := HRM.out; omega) HS.out.big _ rfl ?_
                  intro g12 cap12 w12 ho12 hg12 hl12 hlt12
                  obtain ⟨q1, q2, q3, q4, q5, q6, q7, q8⟩ := HS.out.add (u := u) (by rw [rowsJE_len]; exact huN) (ownS_snoc ho12) (by rw [HSV.out]; exact hg12) (by rw [HSV.out]; exact hl12)
                  rw [HSV.out] at q2
                  have HQ4 := Lib.hid q4
                  have HQ5 := Lib.hid q5
                  have HQ6 := Lib.hid q6
                  have HQ7 := Lib.hid q7
                  have HQ8 := Lib.hid q8
                  clear hHeld
                  refine hK.out _ _ q1 (fun hHeld => ?_)
                  clear hK q1
                  try simp only [Act.put, List.setIfInBounds_toArray, List.set_cons_zero, List.set_cons_succ]
                  refine wpAnyH_take (i := 19) (oi := { dst := some 68, op := Go.Op.indexAddr 88 (Go.Operand.tmp 52) (Go.Operand.tmp 55), type := 0, pos := "timeflow.go:29", after := #[{ on := 3, ground := Go.Ground.data }, { on := 6, ground := Go.Ground.data }, { on := 0, ground := Go.Ground.phase }, { on := 1, ground := Go.Ground.phase }, { on := 2, ground := Go.Ground.phase }, { on := 3, ground := Go.Ground.phase }, { on := 4, ground := Go.Ground.phase }, { on := 5, ground := Go.Ground.phase }, { on := 6, ground := Go.Ground.phase }, { on := 7, ground := Go.Ground.phase }, { on := 8, ground := Go.Ground.phase }, { on := 9, ground := Go.Ground.phase }, { on := 10, ground := Go.Ground.phase }, { on := 11, ground := Go.Ground.phase }, { on := 12, ground := Go.Ground.phase }, { on := 13, ground := Go.Ground.phase }, { on := 14, ground := Go.Ground.phase }, { on := 15, ground := Go.Ground.phase }, { on := 16, ground := Go.Ground.phase }, { on := 17, ground := Go.Ground.phase }, { on := 18, ground := Go.Ground.phase }], guard := none }) (v := .pointer (some ⟨sg, u, none⟩)) rfl (by kernel_rfl) (by kernel_rfl) (by kernel_rfl) (fun _ _ _ h => h) (Or.inl ⟨by rfl, ?_⟩) (by assumption) ?_
                  · (intro w hSw; (try dsimp only [HeldSE] at hSw); go_simp)
                  try simp only [Act.put, List.setIfInBounds_toArray, List.set_cons_zero, List.set_cons_succ]
                  refine wpAnyH_ready (rs := [20]) (by kernel_rfl) (by simp) (AllReadyH.cons (o := { dst := none, op := Go.Op.store 94 (Go.Operand.tmp 68) (Go.Operand.tmp 67), type := 0, pos := "timeflow.go:29", after := #[{ on := 19, ground := Go.Ground.data }, { on := 18, ground := Go.Ground.data }, { on := 18, ground := Go.Ground.chain }, { on := 0, ground := Go.Ground.phase }, { on := 1, ground := Go.Ground.phase }, { on := 2, ground := Go.Ground.phase }, { on := 3, ground := Go.Ground.phase }, { on := 4, ground := Go.Ground.phase }, { on := 5, ground := Go.Ground.phase }, { on := 6, ground := Go.Ground.phase }, { on := 7, ground := Go.Ground.phase }, { on := 8, ground := Go.Ground.phase }, { on := 9, ground := Go.Ground.phase }, { on := 10, ground := Go.Ground.phase }, { on := 11, ground := Go.Ground.phase }, { on := 12, ground := Go.Ground.phase }, { on := 13, ground := Go.Ground.phase }, { on := 14, ground := Go.Ground.phase }, { on := 15, ground := Go.Ground.phase }, { on := 16, ground := Go.Ground.phase }, { on := 17, ground := Go.Ground.phase }, { on := 18, ground := Go.Ground.phase }], guard := none }) rfl (fun KQ hK => ?_) (AllReadyH.nil))
                  go_simp
                  clear hHeld
                  refine hK.out _ _ HQ4.out (fun hHeld => ?_)
                  clear hK
                  try simp only [Act.put, List.setIfInBounds_toArray, List.set_cons_zero, List.set_cons_succ]
                  refine wpAnyH_done (by kernel_rfl) ?_ _
                  clear hHeld
                  go_wp2
                  go_roundw
                  case rel => exact ⟨j + 1, by omega, by go_num, HQ5, HQ6, HQ7, Lib.hid (by rw [HGJ.out]; exact HQ8.out)⟩
                  case measure => simp [intOf]; omega
              · obtain ⟨nb2, hnb2⟩ : ∃ nb2, (w7).heap.size = nb2 := ⟨_, rfl⟩
                go_simp
                have HS := Lib.hid (HS.out.next ((Below.refl _ _).alloc (Nat.le_refl _) (.cells #[.int .i64 (t : Int), .bool q] 93)))
                have HNW : Hid (((w7).alloc (.cells #[.int .i64 (t : Int), .bool q] 93)).heap[nb2]? = some (.cells #[.int .i64 (t : Int), .bool q] 93 (0, 0))) := Lib.hid (by rw [← hnb2]; exact heap_alloc_new _ _)
                clear hHeld
                refine hK.out _ _ HS.out.held (fun hHeld => ?_)
                clear hK
                generalize (w7).alloc (.cells #[.int .i64 (t : Int), .bool q] 93) = wn at *
                clear hnb2
                try simp only [Act.put, List.setIfInBounds_toArray, List.set_cons_zero, List.set_cons_succ]
                refine wpAnyH_ready (rs := [13]) (by kernel_rfl) (by simp) (AllReadyH.cons (o := { dst := some 62, op := Go.Op.call { callee := Go.Callee.value (Go.Operand.func 33), args := #[Go.Operand.tmp 60, Go.Operand.tmp 61], argTypes := #[58, 93] }, type := 3, pos := "timeflow.go:29", after := #[{ on := 11, ground := Go.Ground.data }, { on := 12, ground := Go.Ground.data }, { on := 6, ground := Go.Ground.chain }], guard := none }) rfl (fun KQ hK => ?_) (AllReadyH.nil))
                go_simp
                refine (fbegin_is eb N oa oc A t q u _ HS.out.beg HWN.out hlt HFU.out).mono ?_
                rintro e w8 ⟨rfl, b7⟩
                have HS := Lib.hid (HS.out.next b7)
                have HNW := Lib.hid (kept_box HNW.out b7)
                clear b7 hHeld
                go_wp2_with fail
                refine hK.out _ _ HS.out.held (fun hHeld => ?_)
                clear hK
                try simp only [Act.put, List.setIfInBounds_toArray, List.set_cons_zero, List.set_cons_succ]
                refine wpAnyH_take (i := 14) (oi := { dst := some 63, op := Go.Op.indexAddr 88 (Go.Operand.tmp 59) (Go.Operand.tmp 62), type := 0, pos := "timeflow.go:29", after := #[{ on := 10, ground := Go.Ground.data }, { on := 13, ground := Go.Ground.data }], guard := none }) (v := .pointer (some ⟨sg, u, none⟩)) rfl (by kernel_rfl) (by kernel_rfl) (by kernel_rfl) (fun _ _ _ h => h) (Or.inl ⟨by rfl, ?_⟩) (by assumption) ?_
                · (intro w hSw; (try dsimp only [HeldSE] at hSw); go_simp)
                try simp only [Act.put, List.setIfInBounds_toArray, List.set_cons_zero, List.set_cons_succ]
                refine wpAnyH_ready (rs := [15]) (by kernel_rfl) (by simp) (AllReadyH.cons (o := { dst := some 64, op := Go.Op.load 94 (Go.Operand.tmp 63), type := 94, pos := "timeflow.go:29", after := #[{ on := 14, ground := Go.Ground.data }], guard := none }) rfl (fun KQ hK => ?_) (AllReadyH.nil))
                have hc : (w8).cell? ⟨sg, u, none⟩ = some sv := by rw [← HSV.out]; exact (HS.out.ix.cell (by rw [rowsJE_len]; exact huN)).1
                go_simp
                refine hK.out _ _ HS.out.held (fun hHeld => ?_)
                clear hK hc
                try simp only [Act.put, List.setIfInBounds_toArray, List.set_cons_zero, List.set_cons_succ]
                refine wpAnyH_ready (rs := [18]) (by kernel_rfl) (by simp) (AllReadyH.cons (o := { dst := some 67, op := Go.Op.call { callee := Go.Callee.builtin Go.Builtin.append, args := #[Go.Operand.tmp 64, Go.Operand.tmp 66], argTypes := #[94, 94] }, type := 94, pos := "timeflow.go:29", after := #[{ on := 15, ground := Go.Ground.data }, { on := 17, ground := Go.Ground.data }, { on := 13, ground := Go.Ground.chain }], guard := none }) rfl (fun KQ hK => ?_) (AllReadyH.nil))
                have HOW : Hid (OwnS (w8) B sv ((rowsJE A N t a j).getD u [])) := Lib.hid (by rw [← HSV.out]; exact HS.out.ix.inn u (by rw [rowsJE_len]; exact huN))
                refine step_append_lies _ (by rfl) _ _ _ (by rfl) B 93 i1 _ 2 16 Try.underlying94 HJ.out.1 HJ.out.2.1 HJ.out.2.2.1 HJ.out.2.2.2 rfl (by omega) sv ((rowsJE A N t a j).getD u []).length (((rowsJE A N t a j).getD u []).flatMap encS) (by rfl) HOW.out ⟨nb2, 0, none⟩ 1 1 (encS ((t : Int), q)) (by rfl) (by rfl) (World.news_of_block (cs := #[.int .i64 (t : Int), .bool q]) (t := 93) (fr := (0, 0)) HNW.out) (encS_one _) (by omega) (by have := HRM.out; unfold maxLen; omega) (by have := HRM.out; omega) HS.out.big _ rfl ?_
                intro g12 cap12 w12 ho12 hg12 hl12 hlt12
                obtain ⟨q1, q2, q3, q4, q5, q6, q7, q8⟩ := HS.out.add (u := u) (by rw [rowsJE_len]; exact huN) (ownS_snoc ho12) (by rw [HSV.out]; exact hg12) (by rw [HSV.out]; exact hl12)
                rw [HSV.out] at q2
                have HQ4 := Lib.hid q4
                have HQ5 := Lib.hid q5
                have HQ6 := Lib.hid q6
                have HQ7 := Lib.hid q7
                have HQ8 := Lib.hid q8
                clear hHeld
                refine hK.out _ _ q1 (fun hHeld => ?_)
                clear hK q1
                try simp only [Act.put, List.setIfInBounds_toArray, List.set_cons_zero, List.set_cons_succ]
                refine wpAnyH_take (i := 19) (oi := { dst := some 68, op := Go.Op.indexAddr 88 (Go.Operand.tmp 52) (Go.Operand.tmp 55), type := 0, pos := "timeflow.go:29", after := #[{ on := 3, ground := Go.Ground.data }, { on := 6, ground := Go.Ground.data }, { on := 0, ground := Go.Ground.phase }, { on := 1, ground := Go.Ground.phase }, { on := 2, ground := Go.Ground.phase }, { on := 3, ground := Go.Ground.phase }, { on := 4, ground := Go.Ground.phase }, { on := 5, ground := Go.Ground.phase }, { on := 6, ground := Go.Ground.phase }, { on := 7, ground := Go.Ground.phase }, { on := 8, ground := Go.Ground.phase }, { on := 9, ground := Go.Ground.phase }, { on := 10, ground := Go.Ground.phase }, { on := 11, ground := Go.Ground.phase }, { on := 12, ground := Go.Ground.phase }, { on := 13, ground := Go.Ground.phase }, { on := 14, ground := Go.Ground.phase }, { on := 15, ground := Go.Ground.phase }, { on := 16, ground := Go.Ground.phase }, { on := 17, ground := Go.Ground.phase }, { on := 18, ground := Go.Ground.phase }], guard := none }) (v := .pointer (some ⟨sg, u, none⟩)) rfl (by kernel_rfl) (by kernel_rfl) (by kernel_rfl) (fun _ _ _ h => h) (Or.inl ⟨by rfl, ?_⟩) (by assumption) ?_
                · (intro w hSw; (try dsimp only [HeldSE] at hSw); go_simp)
                try simp only [Act.put, List.setIfInBounds_toArray, List.set_cons_zero, List.set_cons_succ]
                refine wpAnyH_ready (rs := [20]) (by kernel_rfl) (by simp) (AllReadyH.cons (o := { dst := none, op := Go.Op.store 94 (Go.Operand.tmp 68) (Go.Operand.tmp 67), type := 0, pos := "timeflow.go:29", after := #[{ on := 19, ground := Go.Ground.data }, { on := 18, ground := Go.Ground.data }, { on := 18, ground := Go.Ground.chain }, { on := 0, ground := Go.Ground.phase }, { on := 1, ground := Go.Ground.phase }, { on := 2, ground := Go.Ground.phase }, { on := 3, ground := Go.Ground.phase }, { on := 4, ground := Go.Ground.phase }, { on := 5, ground := Go.Ground.phase }, { on := 6, ground := Go.Ground.phase }, { on := 7, ground := Go.Ground.phase }, { on := 8, ground := Go.Ground.phase }, { on := 9, ground := Go.Ground.phase }, { on := 10, ground := Go.Ground.phase }, { on := 11, ground := Go.Ground.phase }, { on := 12, ground := Go.Ground.phase }, { on := 13, ground := Go.Ground.phase }, { on := 14, ground := Go.Ground.phase }, { on := 15, ground := Go.Ground.phase }, { on := 16, ground := Go.Ground.phase }, { on := 17, ground := Go.Ground.phase }, { on := 18, ground := Go.Ground.phase }], guard := none }) rfl (fun KQ hK => ?_) (AllReadyH.nil))
                go_simp
                clear hHeld
                refine hK.out _ _ HQ4.out (fun hHeld => ?_)
                clear hK
                try simp only [Act.put, List.setIfInBounds_toArray, List.set_cons_zero, List.set_cons_succ]
                refine wpAnyH_done (by kernel_rfl) ?_ _
                clear hHeld
                go_wp2
                go_roundw
                case rel => exact ⟨j + 1, by omega, by go_num, HQ5, HQ6, HQ7, Lib.hid (by rw [HGJ.out]; exact HQ8.out)⟩
                case measure => simp [intOf]; omega
            · obtain ⟨nb2, hnb2⟩ : ∃ nb2, (wd).heap.size = nb2 := ⟨_, rfl⟩
              go_simp
              have HS := Lib.hid (HS.out.next ((Below.refl _ _).alloc (Nat.le_refl _) (.cells #[.int .i64 (t : Int), .bool q] 93)))
              have HNW : Hid (((wd).alloc (.cells #[.int .i64 (t : Int), .bool q] 93)).heap[nb2]? = some (.cells #[.int .i64 (t : Int), .bool q] 93 (0, 0))) := Lib.hid (by rw [← hnb2]; exact heap_alloc_new _ _)
              clear hHeld
              refine hK.out _ _ HS.out.held (fun hHeld => ?_)
              clear hK
              generalize (wd).alloc (.cells #[.int .i64 (t : Int), .bool q] 93) = wn at *
              clear hnb2
              try simp only [Act.put, List.setIfInBounds_toArray, List.set_cons_zero, List.set_cons_succ]
              refine wpAnyH_ready (rs := [6]) (by kernel_rfl) (by simp) (AllReadyH.cons (o := { dst := some 55, op := Go.Op.call { callee := Go.Callee.value (Go.Operand.func 33), args := #[Go.Operand.tmp 53, Go.Operand.tmp 54], argTypes := #[58, 93] }, type := 3, pos := "timeflow.go:29", after := #[{ on := 4, ground := Go.Ground.data }, { on := 5, ground := Go.Ground.data }], guard := none }) rfl (fun KQ hK => ?_) (AllReadyH.nil))
              go_simp
              refine (fbegin_is eb N oa oc A t q u _ HS.out.beg HWN.out hlt HFU.out).mono ?_
              rintro e w7 ⟨rfl, b7⟩
              have HS := Lib.hid (HS.out.next b7)
              have HNW := Lib.hid (kept_box HNW.out b7)
              clear b7 hHeld
              go_wp2_with fail
              refine hK.out _ _ HS.out.held (fun hHeld => ?_)
              clear hK
              try simp only [Act.put, List.setIfInBounds_toArray, List.set_cons_zero, List.set_cons_succ]
              refine wpAnyH_ready (rs := [13]) (by kernel_rfl) (by simp) (AllReadyH.cons (o := { dst := some 62, op := Go.Op.call { callee := Go.Callee.value (Go.Operand.func 33), args := #[Go.Operand.tmp 60, Go.Operand.tmp 61], argTypes := #[58, 93] }, type := 3, pos := "timeflow.go:29", after := #[{ on := 11, ground := Go.Ground.data }, { on := 12, ground := Go.Ground.data }, { on := 6, ground := Go.Ground.chain }], guard := none }) rfl (fun KQ hK => ?_) (AllReadyH.nil))
              go_simp
              refine (fbegin_is eb N oa oc A t q u _ HS.out.beg HWN.out hlt HFU.out).mono ?_
              rintro e w8 ⟨rfl, b7⟩
              have HS := Lib.hid (HS.out.next b7)
              have HNW := Lib.hid (kept_box HNW.out b7)
              clear b7 hHeld
              go_wp2_with fail
              refine hK.out _ _ HS.out.held (fun hHeld => ?_)
              clear hK
              try simp only [Act.put, List.setIfInBounds_toArray, List.set_cons_zero, List.set_cons_succ]
              refine wpAnyH_take (i := 14) (oi := { dst := some 63, op := Go.Op.indexAddr 88 (Go.Operand.tmp 59) (Go.Operand.tmp 62), type := 0, pos := "timeflow.go:29", after := #[{ on := 10, ground := Go.Ground.data }, { on := 13, ground := Go.Ground.data }], guard := none }) (v := .pointer (some ⟨sg, u, none⟩)) rfl (by kernel_rfl) (by kernel_rfl) (by kernel_rfl) (fun _ _ _ h => h) (Or.inl ⟨by rfl, ?_⟩) (by assumption) ?_
              · (intro w hSw; (try dsimp only [HeldSE] at hSw); go_simp)
              try simp only [Act.put, List.setIfInBounds_toArray, List.set_cons_zero, List.set_cons_succ]
              refine wpAnyH_ready (rs := [15]) (by kernel_rfl) (by simp) (AllReadyH.cons (o := { dst := some 64, op := Go.Op.load 94 (Go.Operand.tmp 63), type := 94, pos := "timeflow.go:29", after := #[{ on := 14, ground := Go.Ground.data }], guard := none }) rfl (fun KQ hK => ?_) (AllReadyH.nil))
              have hc : (w8).cell? ⟨sg, u, none⟩ = some sv := by rw [← HSV.out]; exact (HS.out.ix.cell (by rw [rowsJE_len]; exact huN)).1
              go_simp
              refine hK.out _ _ HS.out.held (fun hHeld => ?_)
              clear hK hc
              try simp only [Act.put, List.setIfInBounds_toArray, List.set_cons_zero, List.set_cons_succ]
              refine wpAnyH_ready (rs := [18]) (by kernel_rfl) (by simp) (AllReadyH.cons (o := { dst := some 67, op := Go.Op.call { callee := Go.Callee.builtin Go.Builtin.append, args := #[Go.Operand.tmp 64, Go.Operand.tmp 66], argTypes := #[94, 94] }, type := 94, pos := "timeflow.go:29", after := #[{ on := 15, ground := Go.Ground.data }, { on := 17, ground := Go.Ground.data }, { on := 13, ground := Go.Ground.chain }], guard := none }) rfl (fun KQ hK => ?_) (AllReadyH.nil))
              have HOW : Hid (OwnS (w8) B sv ((rowsJE A N t a j).getD u [])) := Lib.hid (by rw [← HSV.out]; exact HS.out.ix.inn u (by rw [rowsJE_len]; exact huN))
              refine step_append_lies _ (by rfl) _ _ _ (by rfl) B 93 i1 _ 2 16 Try.underlying94 HJ.out.1 HJ.out.2.1 HJ.out.2.2.1 HJ.out.2.2.2 rfl (by omega) sv ((rowsJE A N t a j).getD u []).length (((rowsJE A N t a j).getD u []).flatMap encS) (by rfl) HOW.out ⟨nb2, 0, none⟩ 1 1 (encS ((t : Int), q)) (by rfl) (by rfl) (World.news_of_block (cs := #[.int .i64 (t : Int), .bool q]) (t := 93) (fr := (0, 0)) HNW.out) (encS_one _) (by omega) (by have := HRM.out; unfold maxLen; omega) (by have := HRM.out; omega) HS.out.big _ rfl ?_
              intro g12 cap12 w12 ho12 hg12 hl12 hlt12
              obtain ⟨q1, q2, q3, q4, q5, q6, q7, q8⟩ := HS.out.add (u := u) (by rw [rowsJE_len]; exact huN) (ownS_snoc ho12) (by rw [HSV.out]; exact hg12) (by rw [HSV.out]; exact hl12)
              rw [HSV.out] at q2
              have HQ4 := Lib.hid q4
              have HQ5 := Lib.hid q5
              have HQ6 := Lib.hid q6
              have HQ7 := Lib.hid q7
              have HQ8 := Lib.hid q8
              clear hHeld
              refine hK.out _ _ q1 (fun hHeld => ?_)
              clear hK q1
              try simp only [Act.put, List.setIfInBounds_toArray, List.set_cons_zero, List.set_cons_succ]
              refine wpAnyH_take (i := 19) (oi := { dst := some 68, op := Go.Op.indexAddr 88 (Go.Operand.tmp 52) (Go.Operand.tmp 55), type := 0, pos := "timeflow.go:29", after := #[{ on := 3, ground := Go.Ground.data }, { on := 6, ground := Go.Ground.data }, { on := 0, ground := Go.Ground.phase }, { on := 1, ground := Go.Ground.phase }, { on := 2, ground := Go.Ground.phase }, { on := 3, ground := Go.Ground.phase }, { on := 4, ground := Go.Ground.phase }, { on := 5, ground := Go.Ground.phase }, { on := 6, ground := Go.Ground.phase }, { on := 7, ground := Go.Ground.phase }, { on := 8, ground := Go.Ground.phase }, { on := 9, ground := Go.Ground.phase }, { on := 10, ground := Go.Ground.phase }, { on := 11, ground := Go.Ground.phase }, { on := 12, ground := Go.Ground.phase }, { on := 13, ground := Go.Ground.phase }, { on := 14, ground := Go.Ground.phase }, { on := 15, ground := Go.Ground.phase }, { on := 16, ground := Go.Ground.phase }, { on := 17, ground := Go.Ground.phase }, { on := 18, ground := Go.Ground.phase }], guard := none }) (v := .pointer (some ⟨sg, u, none⟩)) rfl (by kernel_rfl) (by kernel_rfl) (by kernel_rfl) (fun _ _ _ h => h) (Or.inl ⟨by rfl, ?_⟩) (by assumption) ?_
              · (intro w hSw; (try dsimp only [HeldSE] at hSw); go_simp)
              try simp only [Act.put, List.setIfInBounds_toArray, List.set_cons_zero, List.set_cons_succ]
              refine wpAnyH_ready (rs := [20]) (by kernel_rfl) (by simp) (AllReadyH.cons (o := { dst := none, op := Go.Op.store 94 (Go.Operand.tmp 68) (Go.Operand.tmp 67), type := 0, pos := "timeflow.go:29", after := #[{ on := 19, ground := Go.Ground.data }, { on := 18, ground := Go.Ground.data }, { on := 18, ground := Go.Ground.chain }, { on := 0, ground := Go.Ground.phase }, { on := 1, ground := Go.Ground.phase }, { on := 2, ground := Go.Ground.phase }, { on := 3, ground := Go.Ground.phase }, { on := 4, ground := Go.Ground.phase }, { on := 5, ground := Go.Ground.phase }, { on := 6, ground := Go.Ground.phase }, { on := 7, ground := Go.Ground.phase }, { on := 8, ground := Go.Ground.phase }, { on := 9, ground := Go.Ground.phase }, { on := 10, ground := Go.Ground.phase }, { on := 11, ground := Go.Ground.phase }, { on := 12, ground := Go.Ground.phase }, { on := 13, ground := Go.Ground.phase }, { on := 14, ground := Go.Ground.phase }, { on := 15, ground := Go.Ground.phase }, { on := 16, ground := Go.Ground.phase }, { on := 17, ground := Go.Ground.phase }, { on := 18, ground := Go.Ground.phase }], guard := none }) rfl (fun KQ hK => ?_) (AllReadyH.nil))
              go_simp
              clear hHeld
              refine hK.out _ _ HQ4.out (fun hHeld => ?_)
              clear hK
              try simp only [Act.put, List.setIfInBounds_toArray, List.set_cons_zero, List.set_cons_succ]
              refine wpAnyH_done (by kernel_rfl) ?_ _
              clear hHeld
              go_wp2
              go_roundw
              case rel => exact ⟨j + 1, by omega, by go_num, HQ5, HQ6, HQ7, Lib.hid (by rw [HGJ.out]; exact HQ8.out)⟩
              case measure => simp [intOf]; omega
          · have hli2 : ¬ (j : Int) < 2 := by omega
            obtain rfl : 2 = j := by omega
            obtain ⟨vs, own, hvb, hG⟩ := HG.out
            have HG2 : Hid (∃ vs own, own eb = 0 ∧ IXF B wr sg N vs (rowsKE A N (t + 1)) own) := Lib.hid ⟨vs, own, hvb.2, by
              have e1 : rowsJE A N t a 2 = rowsKE A N (t + 1) := rowsKE_step HAI.out HL.out.1 HL.out.2
              rw [← e1]; exact hG⟩
            clear hG hvb HG
            go_wp2
            go_roundw
            case rel => exact ⟨t + 1, by omega, by go_num, HB, HEB, HG2⟩
            case measure => simp [intOf]; omega
      · have hli : ¬ (t : Int) < (A.length : Int) := by omega
        obtain rfl : A.length = t := by omega
        obtain ⟨vs, own, ho, hG⟩ := HG.out
        rw [rowsKE_all] at hG
        have HG2 := Lib.hid hG
        clear hG HG
        go_wp2
        go_ret2
        exact ⟨eb, sg, oa, oc, rfl, exp_of HEB.out (HR3.out.below HB.out (by rw [← hB]; exact HUND.out)) (fun ad e h0 => by have := HUN.out ad e h0; omega) HG2.out, HB3.out.trans (HB.out.mono (by have := HB3.out.size; omega))⟩
end
end Go.Proofs.Ytlkbohpnlbfopaa
namespace Go.Proofs.Ytlkbohpnlbfopaa
open Go.RowKit
set_option linter.unusedVariables false
structure NetX (n : Int) (Z : List ArcT) (s t H : Int) (b : Bool) (A : List ArcT) (q : Nat) : Prop where
  err : xpE n Z s t H = 0
  arcs : bldA n Z s t H b = A
  nodes : bldN n Z s t H = ((q + 2 : Nat) : Int)
  wide : WideNet A (q + 2)
  none : ∀ a ∈ A, toN a ≠ q
  exp : ∃ N i j K : Nat, n = (N : Int) ∧ s = (i : Int) ∧ t = (j : Int) ∧ H = (K : Int) ∧ i < N ∧ j < N ∧ i ≠ j ∧ SpanNet Z N ∧ K ≤ 1024 ∧ (K + 1) * N = q ∧ (K + 1) * N ≤ 4000 ∧ (K + 1) * Z.length ≤ 10000 ∧ A = (⟨Z, N, i, j, K, b⟩ : Exp).net
theorem net_facts {n : Int} {Z : List ArcT} {s t H : Int} (hx : xpE n Z s t H = 0) (b : Bool) : ∃ A q, NetX n Z s t H b A q := by
  obtain ⟨N, i, j, K, rfl, rfl, rfl, rfl, hi, hj, hij, hW, hK, hm1, hm2⟩ := xpE_nat hx
  have hG : (⟨Z, N, i, j, K, b⟩ : Exp).Good := Exp.good_of hW hi hj hij
  have hk := kinds_len (⟨Z, N, i, j, K, b⟩ : Exp)
  simp only at hk
  have e0 : bldA (N : Int) Z (i : Int) (j : Int) (K : Int) b = (⟨Z, N, i, j, K, b⟩ : Exp).net := by unfold bldA; rw [if_pos hx]; rfl
  have e1 : bldN (N : Int) Z (i : Int) (j : Int) (K : Int) = (((K + 1) * N + 2 : Nat) : Int) := by unfold bldN; rw [if_pos hx]; simp
  have hf : (⟨Z, N, i, j, K, b⟩ : Exp).first = (K + 1) * N := rfl
  have hl : (⟨Z, N, i, j, K, b⟩ : Exp).last = (K + 1) * N + 1 := rfl
  refine ⟨_, (K + 1) * N, hx, e0, e1, ?_, ?_, N, i, j, K, rfl, rfl, rfl, rfl, hi, hj, hij, hW, hK, rfl, hm1, hm2, rfl⟩
  · have := wide_exp hG hW (by omega) (by rw [hl]; omega)
    rw [hl] at this
    exact this
  · have := not_first hG
    rw [hf] at this
    exact this
def MostV (A : List ArcT) (q : Nat) (w : World) (e : Ending) (w' : World) : Prop := ∃ k, e = .returned (.tuple #[.int .i64 k, .int .i64 0]) ∧ IsMost A (q + 2) q (q + 1) k ∧ Below w.heap.size w w'
def MaxV (n : Int) (Z : List ArcT) (s t H : Int) (b : Bool) (A : List ArcT) (q : Nat) (w : World) (e : Ending) (w' : World) : Prop :=
  ∃ F k la lc, e = .returned (.tuple #[.slice la (movV n Z s t H b F).length lc, .int .i64 k, .int .i64 0]) ∧ FlowST A (q + 2) q (q + 1) F k ∧ IsMost A (q + 2) q (q + 1) k ∧ Row encK 3 w' la (movV n Z s t H b F) ∧ Below w.heap.size w w'
section
variable (n : Int) (b : Bool) (ao : Option Addr) (nl cap : Nat) (Z : List ArcT) (s t H : Int)
set_option maxRecDepth 100000 in
set_option maxHeartbeats 4000000 in
theorem fmost_no (w : World) (h : Row encA 4 w ao Z) (hl : Z.length = nl) (hz : Z.length ≤ 4398046511104) (hx : xpE n Z s t H ≠ 0) :
    Calls Try.prog 9 #[.agg #[.int .i64 n, .bool b, .slice ao nl cap], .int .i64 s, .int .i64 t, .int .i64 H] w fun e w' => e = .returned (.tuple #[.int .i64 0, .int .i64 (xpE n Z s t H)]) ∧ Below w.heap.size w w' := by
  have hb00 := (Below.refl _ w).alloc (Nat.le_refl _) (.cells #[.int .i64 n, .bool b, .slice ao nl cap] 24)
  have HB := Lib.hid hb00
  have HN := Lib.hid (heap_alloc_new w (.cells #[.int .i64 n, .bool b, .slice ao nl cap] 24))
  have c0 := cell_whole HN.out 0
  have c1 := cell_whole HN.out 1
  have c2 := cell_whole HN.out 2
  have HCALL := Lib.hid (fexpof_no n b ao nl cap Z s t H _ (h.below' hb00) hl hz hx)
  obtain ⟨e0, he⟩ : ∃ e0, xpE n Z s t H = e0 := ⟨_, rfl⟩
  rw [he] at hx HCALL ⊢
  have hne : (e0 != 0) = true := by simpa using hx
  clear h hb00 hl hz hx he
  go_enter Try.func9, Try.ntmps9
  go_wp2_with (first
    | (go_at_call 21; refine HCALL.out.mono ?_; rintro e w2 ⟨rfl, hb2⟩; have HB2 := Lib.hid (HB.out.trans (hb2.mono HB.out.size)); clear hb2))
  go_ret2
  exact ⟨rfl, HB2.out⟩
set_option maxRecDepth 100000 in
set_option maxHeartbeats 4000000 in
theorem fmost_yes (A : List ArcT) (q : Nat) (w : World) (h : Row encA 4 w ao Z) (hl : Z.length = nl) (hz : Z.length ≤ 4398046511104) (hX : NetX n Z s t H b A q) :
    Calls Try.prog 9 #[.agg #[.int .i64 n, .bool b, .slice ao nl cap], .int .i64 s, .int .i64 t, .int .i64 H] w (MostV A q w) := by
  have hb00 := (Below.refl _ w).alloc (Nat.le_refl _) (.cells #[.int .i64 n, .bool b, .slice ao nl cap] 24)
  have HB := Lib.hid hb00
  have HN := Lib.hid (heap_alloc_new w (.cells #[.int .i64 n, .bool b, .slice ao nl cap] 24))
  have c0 := cell_whole HN.out 0
  have c1 := cell_whole HN.out 1
  have c2 := cell_whole HN.out 2
  have HCALL := Lib.hid (fexpof_yes n b ao nl cap Z s t H (q + 2) A _ (h.below' hb00) hl hz hX.err hX.arcs hX.nodes hX.wide)
  have HX := Lib.hid hX
  clear h hb00 hl hz hX
  go_enter Try.func9, Try.ntmps9
  go_wp2_with (first
    | (go_at_call 21; refine HCALL.out.mono ?_; rintro e w2 ⟨eb, sg, oa, oc, rfl, hew, hb2⟩; have HB2 := Lib.hid (HB.out.trans (hb2.mono HB.out.size)); have HE := Lib.hid hew; clear hb2 hew)
    | (go_at_call 22; refine (fsolve_at w2.heap.size eb sg (q + 2) false oa oc A (q + 2) _ HE.out HX.out.wide (by omega)).mono ?_; rintro e w3 ⟨p, fb, fc, F, lb, lc, tb, tc, T, k, rfl, hs3, hb3, hv3, hm3, hn3⟩; have HB3 := Lib.hid (HB2.out.trans (hb3.mono HB2.out.size)); have HS3 := Lib.hid hs3; have HV3 := Lib.hid hv3; have HM3 := Lib.hid hm3; clear hs3 hb3 hv3 hm3 hn3)
    | (go_at_call 23; refine (fvalue_at w2.heap.size p eb sg (q + 2) false oa oc A (q + 2) fb fc F lb lc _ tb tc T _ HS3.out HX.out.wide HV3.out.1 (by omega)).mono ?_; rw [sum_value HV3.out HX.out.none]; rintro e w4 ⟨rfl, hb4⟩; have HB4 := Lib.hid (HB3.out.trans (hb4.mono HB3.out.size)); clear hb4))
  go_ret2
  exact ⟨k, rfl, HM3.out, HB4.out⟩
set_option maxRecDepth 100000 in
set_option maxHeartbeats 4000000 in
theorem fmax_no (w : World) (h : Row encA 4 w ao Z) (hl : Z.length = nl) (hz : Z.length ≤ 4398046511104) (hx : xpE n Z s t H ≠ 0) :
    Calls Try.prog 10 #[.agg #[.int .i64 n, .bool b, .slice ao nl cap], .int .i64 s, .int .i64 t, .int .i64 H] w fun e w' => e = .returned (.tuple #[.slice none 0 0, .int .i64 0, .int .i64 (xpE n Z s t H)]) ∧ Below w.heap.size w w' := by
  have hb00 := (Below.refl _ w).alloc (Nat.le_refl _) (.cells #[.int .i64 n, .bool b, .slice ao nl cap] 24)
  have HB := Lib.hid hb00
  have HN := Lib.hid (heap_alloc_new w (.cells #[.int .i64 n, .bool b, .slice ao nl cap] 24))
  have c0 := cell_whole HN.out 0
  have c1 := cell_whole HN.out 1
  have c2 := cell_whole HN.out 2
  have HCALL := Lib.hid (fexpof_no n b ao nl cap Z s t H _ (h.below' hb00) hl hz hx)
  obtain ⟨e0, he⟩ : ∃ e0, xpE n Z s t H = e0 := ⟨_, rfl⟩
  rw [he] at hx HCALL ⊢
  have hne : (e0 != 0) = true := by simpa using hx
  clear h hb00 hl hz hx he
  go_enter Try.func10, Try.ntmps10
  go_wp2_with (first
    | (go_at_call 21; refine HCALL.out.mono ?_; rintro e w2 ⟨rfl, hb2⟩; have HB2 := Lib.hid (HB.out.trans (hb2.mono HB.out.size)); clear hb2))
  go_ret3
  exact ⟨rfl, HB2.out⟩
set_option maxRecDepth 100000 in
set_option maxHeartbeats 4000000 in
theorem fmax_yes (A : List ArcT) (q : Nat) (w : World) (h : Row encA 4 w ao Z) (hl : Z.length = nl) (hz : Z.length ≤ 4398046511104) (hX : NetX n Z s t H b A q)
    (hM : ∀ (fo : Option Addr) (fc : Nat) (F : List Int) (W : World), Row encA 4 W ao Z → Lst encI W fo F → F.length = A.length → Calls Try.prog 24 #[.agg #[.int .i64 n, .bool b, .slice ao nl cap], .int .i64 s, .int .i64 t, .int .i64 H, .slice fo A.length fc] W (MovRes n b Z s t H F W)) :
    Calls Try.prog 10 #[.agg #[.int .i64 n, .bool b, .slice ao nl cap], .int .i64 s, .int .i64 t, .int .i64 H] w (MaxV n Z s t H b A q w) := by
  have hb00 := (Below.refl _ w).alloc (Nat.le_refl _) (.cells #[.int .i64 n, .bool b, .slice ao nl cap] 24)
  have HB := Lib.hid hb00
  have HN := Lib.hid (heap_alloc_new w (.cells #[.int .i64 n, .bool b, .slice ao nl cap] 24))
  have c0 := cell_whole HN.out 0
  have c1 := cell_whole HN.out 1
  have c2 := cell_whole HN.out 2
  have HR := Lib.hid (h.below' hb00)
  have HCALL := Lib.hid (fexpof_yes n b ao nl cap Z s t H (q + 2) A _ (h.below' hb00) hl hz hX.err hX.arcs hX.nodes hX.wide)
  have HX := Lib.hid hX
  have HMV := Lib.hid hM
  clear h hb00 hl hz hX hM
  go_enter Try.func10, Try.ntmps10
  go_wp2_with (first
    | (go_at_call 21; refine HCALL.out.mono ?_; rintro e w2 ⟨eb, sg, oa, oc, rfl, hew, hb2⟩; have HB2 := Lib.hid (HB.out.trans (hb2.mono HB.out.size)); have HE := Lib.hid hew; have HR2 := Lib.hid (HR.out.below' hb2); have c0 := cell_below hb2 c0; have c1 := cell_below hb2 c1; have c2 := cell_below hb2 c2; clear hb2 hew)
    | (go_at_call 22; refine (fsolve_at w2.heap.size eb sg (q + 2) false oa oc A (q + 2) _ HE.out HX.out.wide (by omega)).mono ?_; rintro e w3 ⟨p, fb, fc, F, lb, lc, tb, tc, T, k, rfl, hs3, hb3, hv3, hm3, hn3⟩; have HB3 := Lib.hid (HB2.out.trans (hb3.mono HB2.out.size)); have HS3 := Lib.hid hs3; have HV3 := Lib.hid hv3; have HM3 := Lib.hid hm3; have HR3 := Lib.hid (HR2.out.below' hb3); have c0 := cell_below hb3 c0; have c1 := cell_below hb3 c1; have c2 := cell_below hb3 c2; clear hs3 hb3 hv3 hm3 hn3))
  obtain ⟨_, k1, _, _⟩ := HS3.out.cells
  go_region_held3 (fun W => W.cell? ⟨w.heap.size, 0, none⟩ = some (.int .i64 n) ∧ W.cell? ⟨w.heap.size, 1, none⟩ = some (.bool b) ∧ W.cell? ⟨w.heap.size, 2, none⟩ = some (.slice ao nl cap) ∧ W.cell? ⟨p, 1, none⟩ = some (.slice (some ⟨fb, 0, none⟩) A.length fc)) (first | exact ⟨c0, c1, c2, k1⟩ | exact ⟨z0, z1, z2, z3⟩ | go_keep)
    (first | (go_at_call 24; refine (HMV.out (some ⟨fb, 0, none⟩) fc F w3.drew (HR3.out.below' (below_drew (Below.refl _ w3))) HS3.out.drew.flow.lstK HS3.out.lens.1).mono ?_; rintro e w4 ⟨ma, mc, rfl, hr4, hb4⟩; have z0 := cell_below (w := w3.drew) hb4 c0; have z1 := cell_below (w := w3.drew) hb4 c1; have z2 := cell_below (w := w3.drew) hb4 c2; have z3 := cell_below (w := w3.drew) hb4 k1; have HS4 := Lib.hid (HS3.out.drew.next hb4); have HB4 := Lib.hid ((below_drew HB3.out).trans (hb4.mono HB3.out.size)); have HR4 := Lib.hid hr4; clear hb4 hr4))
  all_goals
    go_wp2_with (first
      | (go_at_call 23; refine (fvalue_at w2.heap.size p eb sg (q + 2) false oa oc A (q + 2) fb fc F lb lc _ tb tc T _ HS4.out HX.out.wide HV3.out.1 (by omega)).mono ?_; rw [sum_value HV3.out HX.out.none]; rintro e w5 ⟨rfl, hb5⟩; have HB5 := Lib.hid (HB4.out.trans (hb5.mono HB4.out.size)); have HR5 := Lib.hid (HR4.out.below' hb5); clear hb5))
    go_ret3
    exact ⟨F, k, ma, mc, rfl, HV3.out, HM3.out, HR5.out, HB5.out⟩
end
end Go.Proofs.Ytlkbohpnlbfopaa
namespace Go.Proofs.Ytlkbohpnlbfopaa
open Go.RowKit
set_option linter.unusedVariables false
def cutL (f : Bool) (n H : Int) (D : List Int) : Nat → List (Int × Int)
  | 0 => []
  | i + 1 => cutL f n H D i ++ if atI D i != -1 then [plcV f n H (i : Int)] else []
theorem cutL_len (f : Bool) (n H : Int) (D : List Int) : ∀ i, (cutL f n H D i).length ≤ i
  | 0 => Nat.le_refl _
  | i + 1 => by
    have := cutL_len f n H D i
    show (cutL f n H D i ++ _).length ≤ i + 1
    rw [List.length_append]
    split <;> simp <;> omega
theorem cutL_congr {f : Bool} {n H : Int} {D E : List Int} : ∀ {i}, (∀ v, v < i → (atI D v != -1) = (atI E v != -1)) → cutL f n H D i = cutL f n H E i
  | 0, _ => rfl
  | i + 1, h => by
    show cutL f n H D i ++ _ = cutL f n H E i ++ _
    rw [cutL_congr (fun v hv => h v (by omega)), h i (by omega)]
def CutV (n : Int) (Z : List ArcT) (H : Int) (A : List ArcT) (q : Nat) (w : World) (e : Ending) (w' : World) : Prop :=
  ∃ F k la lc, e = .returned (.tuple #[.slice la (cutL (fitN n Z H) n H (farsL (seekN A F (q + 2) q) (q + 2)) q).length lc, .int .i64 0]) ∧ FlowST A (q + 2) q (q + 1) F k ∧ q + 1 ∉ keysX (seekN A F (q + 2) q) ∧ Row encPQ 2 w' la (cutL (fitN n Z H) n H (farsL (seekN A F (q + 2) q) (q + 2)) q) ∧ Below w.heap.size w w'
theorem cells_slot (w : World) (x y : Int) : ∀ j, j < 2 → ((w.alloc (.cells #[.int .i64 x, .int .i64 y] 56)).alloc (.cells #[.int .i64 x, .int .i64 y] 56)).cell? ⟨w.heap.size + 1, j, none⟩ = (encPQ (x, y))[j]? := by
  intro j hj
  rw [cell_whole (new_whole1 w _ _)]
  match j, hj with
  | 0, _ => rfl
  | 1, _ => rfl
section
variable (n : Int) (b : Bool) (ao : Option Addr) (nl cap : Nat) (Z : List ArcT) (s t H : Int)
set_option maxRecDepth 100000 in
set_option maxHeartbeats 4000000 in
theorem fcut_no (w : World) (h : Row encA 4 w ao Z) (hl : Z.length = nl) (hz : Z.length ≤ 4398046511104) (hx : xpE n Z s t H ≠ 0) :
    Calls Try.prog 11 #[.agg #[.int .i64 n, .bool b, .slice ao nl cap], .int .i64 s, .int .i64 t, .int .i64 H] w fun e w' => e = .returned (.tuple #[.slice none 0 0, .int .i64 (xpE n Z s t H)]) ∧ Below w.heap.size w w' := by
  have hb00 := (Below.refl _ w).alloc (Nat.le_refl _) (.cells #[.int .i64 n, .bool b, .slice ao nl cap] 24)
  have HB := Lib.hid hb00
  have HN := Lib.hid (heap_alloc_new w (.cells #[.int .i64 n, .bool b, .slice ao nl cap] 24))
  have c0 := cell_whole HN.out 0
  have c1 := cell_whole HN.out 1
  have c2 := cell_whole HN.out 2
  have HCALL := Lib.hid (fexpof_no n b ao nl cap Z s t H _ (h.below' hb00) hl hz hx)
  obtain ⟨e0, he⟩ : ∃ e0, xpE n Z s t H = e0 := ⟨_, rfl⟩
  rw [he] at hx HCALL ⊢
  have hne : (e0 != 0) = true := by simpa using hx
  clear h hb00 hl hz hx he
  go_enter Try.func11, Try.ntmps11
  go_wp2_with (first
    | (go_at_call 21; refine HCALL.out.mono ?_; rintro e w2 ⟨rfl, hb2⟩; have HB2 := Lib.hid (HB.out.trans (hb2.mono HB.out.size)); clear hb2))
  go_ret2
  exact ⟨rfl, HB2.out⟩
set_option maxRecDepth 100000 in
set_option maxHeartbeats 8000000 in
theorem fcut_yes (A : List ArcT) (q : Nat) (w : World) (h : Row encA 4 w ao Z) (hl : Z.length = nl) (hz : Z.length ≤ 4398046511104) (hX : NetX n Z s t H b A q) :
    Calls Try.prog 11 #[.agg #[.int .i64 n, .bool b, .slice ao nl cap], .int .i64 s, .int .i64 t, .int .i64 H] w (CutV n Z H A q w) := by
  have hb00 := (Below.refl _ w).alloc (Nat.le_refl _) (.cells #[.int .i64 n, .bool b, .slice ao nl cap] 24)
  have HB := Lib.hid hb00
  have HN := Lib.hid (heap_alloc_new w (.cells #[.int .i64 n, .bool b, .slice ao nl cap] 24))
  have c0 := cell_whole HN.out 0
  have c1 := cell_whole HN.out 1
  have c2 := cell_whole HN.out 2
  have HR := Lib.hid (h.below' hb00)
  have HCALL := Lib.hid (fexpof_yes n b ao nl cap Z s t H (q + 2) A _ (h.below' hb00) hl hz hX.err hX.arcs hX.nodes hX.wide)
  have HX := Lib.hid hX
  have HL := Lib.hid hl
  have HZ : Hid (Z.length ≤ maxLen) := Lib.hid (by unfold maxLen; omega)
  have hq2 : q ≤ 4000 := by obtain ⟨N, i, j, K, _, _, _, _, _, _, _, _, _, h1, h2, _⟩ := hX.exp; omega
  clear h hb00 hl hz hX
  go_enter Try.func11, Try.ntmps11
  go_wp2_with (first
    | (go_at_call 21; refine HCALL.out.mono ?_; rintro e w2 ⟨eb, sg, oa, oc, rfl, hew, hb2⟩; have HB2 := Lib.hid (HB.out.trans (hb2.mono HB.out.size)); have HE := Lib.hid hew; have HR2 := Lib.hid (HR.out.below' hb2); have c0 := cell_below hb2 c0; have c1 := cell_below hb2 c1; have c2 := cell_below hb2 c2; clear hb2 hew)
    | (go_at_call 22; refine (fsolve_at w2.heap.size eb sg (q + 2) false oa oc A (q + 2) _ HE.out HX.out.wide (by omega)).mono ?_; rintro e w3 ⟨p, fb, fc, F, lb, lc, tb, tc, T, k, rfl, hs3, hb3, hv3, hm3, hn3⟩; have HB3 := Lib.hid (HB2.out.trans (hb3.mono HB2.out.size)); have HS3 := Lib.hid hs3; have HV3 := Lib.hid hv3; have HN3 : Hid (q + 1 ∉ keysX (seekN A F (q + 2) q)) := Lib.hid hn3; have HR3 := Lib.hid (HR2.out.below' hb3); have c0 := cell_below hb3 c0; have c1 := cell_below hb3 c1; have c2 := cell_below hb3 c2; clear hs3 hb3 hv3 hm3 hn3))
  obtain ⟨k0, _, k2, _⟩ := HS3.out.cells
  obtain ⟨D, hD⟩ : ∃ D, farsL (seekN A F (q + 2) q) (q + 2) = D := ⟨_, rfl⟩
  have HDD := Lib.hid hD
  have HS3 : Hid (SolW w3 w2.heap.size p eb sg (q + 2) false oa oc A (q + 2) fb fc F lb lc D tb tc T) := Lib.hid (by rw [← hD]; exact HS3.out)
  have HQQ : Hid (((q + 2 - 2 : Nat) : Int) = (q : Int)) := Lib.hid rfl
  have hlc := HS3.out.levs.2
  have hlcq : q < lc := by
    rcases hlc with ⟨h0, _⟩ | ⟨g', cap', cur, e1, hb, hg, h1, h2, _⟩
    · cases h0
    · injection e1 with _ _ e3
      have := HS3.out.lens.2.1
      omega
  have hlc0 : ¬ lc = 0 := by omega
  have hqi : (q : Int) ≤ (lc : Int) := by omega
  clear hD hlc
  go_region_held3 (fun W => W.cell? ⟨p, 0, none⟩ = some (.pointer (some ⟨eb, 0, none⟩)) ∧ W.cell? ⟨p, 2, none⟩ = some (.slice (some ⟨lb, 0, none⟩) (q + 2) lc)) (first | exact ⟨k0, k2⟩ | go_keep)
    (first | (go_at_call 25; refine (ffirst_at w2.heap.size eb sg (q + 2) false oa oc A (q + 2) w3.drew HS3.out.drew.ex (by omega) (by omega)).mono ?_; rintro e w9 ⟨rfl, rfl⟩; rw [HQQ.out]))
  all_goals
    have HS4 := Lib.hid HS3.out.drew
    have HR4 := Lib.hid (HR3.out.below' (below_drew (Below.refl _ w3)))
    have HB4 := Lib.hid (below_drew HB3.out)
    have c0 : w3.drew.cell? ⟨w.heap.size, 0, none⟩ = _ := c0
    have c1 : w3.drew.cell? ⟨w.heap.size, 1, none⟩ = _ := c1
    have c2 : w3.drew.cell? ⟨w.heap.size, 2, none⟩ = _ := c2
    clear HS3 HR3 HB3 k0 k2
    generalize w3.drew = w4 at *
    have hws : w.heap.size < w4.heap.size := by simpa using block_lt_of_cell c0
    go_wp2_with fail
    go_loopw [13, 42] (fun sv iv wr => ∃ j : Nat, j ≤ q ∧ iv = .int .i64 (j : Int) ∧ Hid (wr.ownsRow w4.heap.size 56 2 sv (cutL (fitN n Z H) n H D j).length ((cutL (fitN n Z H) n H D j).flatMap encPQ)) ∧ Hid (Below w4.heap.size w4 wr)) (fun _ iv _ => q - (intOf iv).toNat)
    case atStart => exact ⟨0, Nat.zero_le _, rfl, Lib.hid (World.ownsRow_nil _ _ _ _), Lib.hid (Below.refl _ _)⟩
    case round =>
      obtain ⟨j, hj, rfl, HO, HBW⟩ := hrel
      have hcl := cutL_len (fitN n Z H) n H D j
      obtain ⟨sa, sc, rfl, hsr, _⟩ := own_rowQ encP_lenQ HO.out
      by_cases hlt : j < q
      · have hli : (j : Int) < (q : Int) := by omega
        have hj0 : (0 : Int) ≤ (j : Int) := by omega
        have HSW := Lib.hid (HS4.out.next HBW.out)
        obtain ⟨dj, _⟩ := HSW.out.levs.cell (atI_get (d := D) (v := j) (by rw [HSW.out.lens.2.1]; omega))
        unfold encI at dj
        have d0 := cell_below' HBW.out c0 hws
        have d1 := cell_below' HBW.out c1 hws
        have d2 := cell_below' HBW.out c2 hws
        have HRW := Lib.hid (HR4.out.below' HBW.out)
        have HSTP : Hid (cutL (fitN n Z H) n H D (j + 1) = cutL (fitN n Z H) n H D j ++ if atI D j != -1 then [plcV (fitN n Z H) n H (j : Int)] else []) := Lib.hid rfl
        generalize atI D j = x at *
        clear hsr HSW
        generalize cutL (fitN n Z H) n H D j = CL at *
        by_cases hx : x = -1
        · have hxb : (x != -1) = false := by simp [hx]
          have HST2 : Hid (cutL (fitN n Z H) n H D (j + 1) = CL) := Lib.hid (by rw [HSTP.out, hxb]; simp)
          go_wp2
          go_roundw
          case rel => exact ⟨j + 1, by omega, by go_num, Lib.hid (by rw [HST2.out]; exact HO.out), HBW⟩
          case measure => simp [intOf]; omega
        · have hxb : (x != -1) = true := by simp [hx]
          obtain ⟨⟨p1, p2⟩, hpp⟩ : ∃ pp, plcV (fitN n Z H) n H (j : Int) = pp := ⟨_, rfl⟩
          have HST2 : Hid (cutL (fitN n Z H) n H D (j + 1) = CL ++ [(p1, p2)]) := Lib.hid (by rw [HSTP.out, hxb, hpp]; simp)
          have HPP := Lib.hid hpp
          clear hpp
          go_wp2_with (first
            | (go_at_call 26; refine (uplace_any n H b ao nl cap Z (j : Int) _ HRW.out HL.out HZ.out).mono ?_; rw [HPP.out]; unfold slotV; rintro e w6 ⟨rfl, hb6⟩; have HB6 := Lib.hid (HBW.out.trans (hb6.mono HBW.out.size)); have HO6 := Lib.hid (own_below HO.out hb6); clear hb6 d0 d1 d2 dj)
            | (at_builtin; refine wpList_append_row (enc := encPQ) Try.underlying33 infoSlot rfl (by omega) (by omega) encP_lenQ rfl _ _ rfl w4.heap.size _ CL (p1, p2) (encP_oneQ _) rfl ((HO6.out.alloc (.cells #[.int .i64 p1, .int .i64 p2] 56)).alloc (.cells #[.int .i64 p1, .int .i64 p2] 56)) (w6.heap.size + 1) 1 rfl (cells_slot w6 p1 p2) (by omega) (by have := HB6.out.size; simp; omega) ?_; intro g8 cap8 w8 ho8 hg8 hl8 hb8 hlt8; have HO8 := Lib.hid ho8; have HB8 := Lib.hid (below_grown ((HB6.out.alloc HB6.out.size (.cells #[.int .i64 p1, .int .i64 p2] 56)).alloc (by have := HB6.out.size; simp; omega) (.cells #[.int .i64 p1, .int .i64 p2] 56)) (by have := HB6.out.size; simp; omega) hg8 (fun g e => own_block HO6.out e)); clear ho8 hg8 hl8))
          go_roundw
          case rel => exact ⟨j + 1, by omega, by go_num, Lib.hid (by rw [HST2.out]; exact HO8.out), HB8⟩
          case measure => simp [intOf]; omega
      · have hli : ¬ (j : Int) < (q : Int) := by omega
        obtain rfl : q = j := by omega
        have HSR := Lib.hid hsr
        clear hsr
        go_wp2
        go_ret2
        exact ⟨F, k, sa, sc, by rw [HDD.out]; rfl, HV3.out, HN3.out, by rw [HDD.out]; exact HSR.out, HB4.out.trans (HBW.out.mono HB4.out.size)⟩
end
end Go.Proofs.Ytlkbohpnlbfopaa
namespace Go.Proofs.Ytlkbohpnlbfopaa
open Go.RowKit
set_option linter.unusedVariables false
set_option maxHeartbeats 1000000 in
theorem slots16_some (a b : Addr) (ca cb : Nat) (Z : List (Int × Int)) (w : World) (ha : Row encPQ 2 w (some a) Z) (hb : Row encPQ 2 w (some b) Z) (hs : Z.length ≤ 65536) :
    Calls Try.prog 18 #[.slice (some a) Z.length ca, .slice (some b) Z.length cb] w fun e w' => e = .returned (.bool true) ∧ ∃ n, w' = w.drewN n := by
  have HA := Lib.hid ha
  have HB := Lib.hid hb
  clear ha hb
  go_enter Try.func18, Try.ntmps18
  go_wp2
  go_loopw [5] (fun si wr => ∃ (i n : Nat), i ≤ Z.length ∧ Hid (wr = w.drewN n) ∧ si = .int .i64 (i : Int)) (fun si _ => Z.length - (intOf si).toNat)
  case atStart => exact ⟨0, 0, by omega, Lib.hid rfl, rfl⟩
  case round =>
    obtain ⟨i, n, hi, HW, rfl⟩ := hrel
    by_cases hlt : i < Z.length
    · have hli : (i : Int) < (Z.length : Int) := by omega
      obtain ⟨ab, ax, e, _, c0, c1⟩ := HA.out.pair hlt
      cases e
      obtain ⟨bb, bx, e, _, d0, d1⟩ := HB.out.pair hlt
      cases e
      generalize Z[i] = x at *
      have c0' := cell_drew HW.out c0
      have c1' := cell_drew HW.out c1
      have d0' := cell_drew HW.out d0
      have d1' := cell_drew HW.out d1
      clear c0 c1 d0 d1
      have e1 := fun W => ne_slot x.1 x.2 x.1 x.2 W
      have e2 : (!(x.1 == x.1 && x.2 == x.2)) = false := by simp
      go_wp2
      go_quiet (fail)
      go_wp2
      go_roundw
      case rel => exact ⟨i + 1, n + nq, by omega, Lib.hid (by rw [HW.out, World.drewN_drewN]), by go_num⟩
      case measure => simp [intOf]; omega
    · have hli : (Z.length : Int) ≤ (i : Int) := by omega
      go_wp2
      go_ret
      exact ⟨rfl, n, HW.out⟩
theorem slots16_nil (a b : Option Addr) (ca cb : Nat) (w : World) : Calls Try.prog 18 #[.slice a 0 ca, .slice b 0 cb] w fun e w' => e = .returned (.bool true) ∧ ∃ n, w' = w.drewN n := by
  go_enter Try.func18, Try.ntmps18
  go_wp2
  refine wp_loop_rounds 1 ?_
  rw [rounds_succ]
  go_wp2
  go_ret
  exact ⟨rfl, 0, rfl⟩
theorem slots16_any (a b : Option Addr) (la lb ca cb : Nat) (Z : List (Int × Int)) (w : World) (hla : Z.length = la) (hlb : Z.length = lb) (ha : Row encPQ 2 w a Z) (hb : Row encPQ 2 w b Z) (hs : Z.length ≤ 65536) :
    Calls Try.prog 18 #[.slice a la ca, .slice b lb cb] w fun e w' => e = .returned (.bool true) ∧ ∃ n, w' = w.drewN n := by
  subst hla
  subst hlb
  cases Z with
  | nil => exact slots16_nil a b ca cb w
  | cons z Z =>
    obtain ⟨b1, o1, rfl, _⟩ := ha 0 (by simp)
    obtain ⟨b2, o2, rfl, _⟩ := hb 0 (by simp)
    exact slots16_some _ _ ca cb _ w ha hb hs
end Go.Proofs.Ytlkbohpnlbfopaa
namespace Go.Proofs.Ytlkbohpnlbfopaa
open Go.RowKit
set_option linter.unusedVariables false
def flowC (Z : List ArcT) (F : List Int) : Bool := decide (F.length = Z.length) && (List.range Z.length).all fun i => match Z[i]? with | some a => decide (0 ≤ atI F i ∧ atI F i ≤ capN a) | none => true
theorem flow_of {Z : List ArcT} {F : List Int} (h : flowC Z F = true) : Flow Z F := by
  unfold flowC at h
  rw [Bool.and_eq_true, decide_eq_true_eq] at h
  refine ⟨h.1, fun i a ha => ?_⟩
  have h2 := List.all_eq_true.1 h.2 i (List.mem_range.2 (List.getElem?_eq_some_iff.1 ha).1)
  rw [ha] at h2
  exact of_decide_eq_true h2
theorem st16_of {Z : List ArcT} {F : List Int} {N s t : Nat} {k : Int} (h1 : flowC Z F = true) (h2 : ((List.range N).all fun v => decide (v = s) || (decide (v = t) || decide (bal Z F v = 0))) = true) (h3 : bal Z F s = k) : FlowST Z N s t F k := by
  refine ⟨flow_of h1, fun v hv hs ht => ?_, h3⟩
  have h := List.all_eq_true.1 h2 v (List.mem_range.2 hv)
  simp only [Bool.or_eq_true, decide_eq_true_eq] at h
  rcases h with h | h | h
  · exact absurd h hs
  · exact absurd h ht
  · exact h
theorem cut_same {A : List ArcT} {N s t : Nat} {F G : List Int} {k m : Int} (hW : WideNet A N) (hs : s < N) (hF : FlowST A N s t F k) (hG : FlowST A N s t G m) (nF : t ∉ keysX (seekN A F N s)) (nG : t ∉ keysX (seekN A G N s)) :
    k = m ∧ ∀ f n H i, i ≤ N → cutL f n H (farsL (seekN A F N s) N) i = cutL f n H (farsL (seekN A G N s) N) i := by
  have hl : ∀ X : List Int, ∀ y : StepT, y ∈ stepsK A X A.length ↔ isArc A y ∧ 0 < leftS A X y := fun X y => by
    rw [stepsK_mem (Nat.le_refl _)]
    constructor
    · rintro ⟨h1, _, h3⟩; exact ⟨h1, h3⟩
    · rintro ⟨h1, h3⟩; exact ⟨h1, h1.2, h3⟩
  have hf := seek_facts hW hF.1 hs
  have hg := seek_facts hW hG.1 hs
  obtain ⟨h1, h2⟩ := best_same hW.lt hs (hl F) hF hf nF (hl G) hG hg nG
  refine ⟨h1, fun f n H i hi => cutL_congr (fun v hv => ?_)⟩
  rw [farsL_at _ (by omega), farsL_at _ (by omega)]
  have h3 := h2 v
  have a1 := far_mem hf (v := v)
  have a2 := far_mem hg (v := v)
  unfold foundB at h3
  by_cases e1 : v ∈ keysX (seekN A F N s) <;> by_cases e2 : v ∈ keysX (seekN A G N s)
  · have b1 := a1.1 e1
    have b2 := a2.1 e2
    rw [show (farX (seekN A F N s) v != -1) = true from by simpa using b1, show (farX (seekN A G N s) v != -1) = true from by simpa using b2]
  · simp [e1, e2] at h3
  · simp [e1, e2] at h3
  · rw [farX_none e1, farX_none e2]
def A16 : List ArcT := (⟨ZLN, 3, 0, 2, 5, false⟩ : Exp).net
def F16 : List Int := [2, 0, 2, 2, 2, 2, 2, 2, 0, 2, 2, 2, 2, 2, 0, 0, 0, 0, 2, 2, 2, 2]
def S16 (v : Nat) : Bool := v == 18 || v == 0 || v == 3 || v == 6 || v == 9 || v == 12 || v == 15 || v == 16
theorem a16_flow : flowC A16 F16 = true ∧ ((List.range 20).all fun v => decide (v = 18) || (decide (v = 19) || decide (bal A16 F16 v = 0))) = true ∧ bal A16 F16 18 = 8 ∧ capS A16 S16 = 8 := ⟨by kernel_rfl, by kernel_rfl, by kernel_rfl, by kernel_rfl⟩
theorem most16 : IsMost A16 20 18 19 8 := ⟨⟨F16, st16_of a16_flow.1 a16_flow.2.1 a16_flow.2.2.1⟩, S16, ⟨rfl, rfl⟩, a16_flow.2.2.2⟩
theorem most16_is {A : List ArcT} {q : Nat} {k : Int} (hX : NetX 3 ZLN 0 2 5 false A q) (h : IsMost A (q + 2) q (q + 1) k) : k = 8 := by
  obtain ⟨N, i, j, K, e1, e2, e3, e4, hi, hj, hij, hW, hK, hq, _, _, hA⟩ := hX.exp
  obtain rfl : N = 3 := by omega
  obtain rfl : i = 0 := by omega
  obtain rfl : j = 2 := by omega
  obtain rfl : K = 5 := by omega
  obtain rfl : q = 18 := by omega
  have hw := hX.wide
  subst hA
  exact isMost_unique hw.lt (by omega) h most16
def B16 : List ArcT := (⟨ZLN, 3, 0, 2, 1, true⟩ : Exp).net
theorem b16_flow : flowC B16 [0, 0, 0, 0, 0, 0, 0] = true ∧ ((List.range 8).all fun v => decide (v = 6) || (decide (v = 7) || decide (bal B16 [0, 0, 0, 0, 0, 0, 0] v = 0))) = true ∧ bal B16 [0, 0, 0, 0, 0, 0, 0] 6 = 0 ∧ (keysX (seekN B16 [0, 0, 0, 0, 0, 0, 0] 8 6)).elem 7 = false ∧ cutL (fitN 3 ZLN 1) 3 1 (farsL (seekN B16 [0, 0, 0, 0, 0, 0, 0] 8 6) 8) 6 = [(0, 0), (0, 1), (1, 1)] := ⟨by kernel_rfl, by kernel_rfl, by kernel_rfl, by kernel_rfl, by kernel_rfl⟩
theorem cut16_is {A : List ArcT} {q : Nat} {F : List Int} {k : Int} (hX : NetX 3 ZLN 0 2 1 true A q) (h : FlowST A (q + 2) q (q + 1) F k) (hn : q + 1 ∉ keysX (seekN A F (q + 2) q)) : cutL (fitN 3 ZLN 1) 3 1 (farsL (seekN A F (q + 2) q) (q + 2)) q = [(0, 0), (0, 1), (1, 1)] := by
  obtain ⟨N, i, j, K, e1, e2, e3, e4, hi, hj, hij, hW, hK, hq, _, _, hA⟩ := hX.exp
  obtain rfl : N = 3 := by omega
  obtain rfl : i = 0 := by omega
  obtain rfl : j = 2 := by omega
  obtain rfl : K = 1 := by omega
  obtain rfl : q = 6 := by omega
  have hw := hX.wide
  subst hA
  have hb := b16_flow
  rw [(cut_same hw (by omega) h (st16_of hb.1 hb.2.1 hb.2.2.1) hn (by
    intro hm
    have h1 := hb.2.2.2.1
    have h2 : (keysX (seekN B16 [0, 0, 0, 0, 0, 0, 0] 8 6)).elem 7 = true := List.elem_eq_true_of_mem hm
    rw [h1] at h2
    cases h2)).2 _ _ _ _ (by omega)]
  exact hb.2.2.2.2
theorem a16_err : xpE 3 ZLN 0 2 5 = 0 ∧ xpE 3 ZLN 0 2 1 = 0 ∧ xpE 3 ZLN 0 2 (-1) = 1 := ⟨by kernel_rfl, by kernel_rfl, by kernel_rfl⟩
section
variable (g : Nat) (w : World)
theorem fmostL (hr : Row encA 4 w (some ⟨g, 0, none⟩) ZLN) : Calls Try.prog 9 #[.agg #[.int .i64 3, .bool false, .slice (some ⟨g, 0, none⟩) 2 2], .int .i64 0, .int .i64 2, .int .i64 5] w fun e w' => e = .returned (.tuple #[.int .i64 8, .int .i64 0]) ∧ Below w.heap.size w w' := by
  obtain ⟨A, q, hX⟩ := net_facts a16_err.1 false
  refine (fmost_yes 3 false (some ⟨g, 0, none⟩) 2 2 ZLN 0 2 5 A q w hr rfl (by decide) hX).mono ?_
  rintro e w' ⟨k, rfl, hm, hb⟩
  rw [most16_is hX hm]
  exact ⟨rfl, hb⟩
theorem fcutL (hr : Row encA 4 w (some ⟨g, 0, none⟩) ZLN) : Calls Try.prog 11 #[.agg #[.int .i64 3, .bool true, .slice (some ⟨g, 0, none⟩) 2 2], .int .i64 0, .int .i64 2, .int .i64 1] w fun e w' => ∃ la lc, e = .returned (.tuple #[.slice la 3 lc, .int .i64 0]) ∧ Row encPQ 2 w' la [(0, 0), (0, 1), (1, 1)] ∧ Below w.heap.size w w' := by
  obtain ⟨A, q, hX⟩ := net_facts a16_err.2.1 true
  refine (fcut_yes 3 true (some ⟨g, 0, none⟩) 2 2 ZLN 0 2 1 A q w hr rfl (by decide) hX).mono ?_
  rintro e w' ⟨F, k, la, lc, rfl, hv, hn, hrow, hb⟩
  rw [cut16_is hX hv hn] at hrow ⊢
  exact ⟨la, lc, rfl, hrow, hb⟩
theorem fmaxL (hr : Row encA 4 w (some ⟨g, 0, none⟩) ZLN) : Calls Try.prog 10 #[.agg #[.int .i64 3, .bool true, .slice (some ⟨g, 0, none⟩) 2 2], .int .i64 0, .int .i64 2, .int .i64 (-1)] w fun e w' => e = .returned (.tuple #[.slice none 0 0, .int .i64 0, .int .i64 1]) ∧ Below w.heap.size w w' := by
  have := fmax_no 3 true (some ⟨g, 0, none⟩) 2 2 ZLN 0 2 (-1) w hr rfl (by decide) (by rw [a16_err.2.2]; decide)
  rwa [a16_err.2.2] at this
end
theorem row3S (w : World) (g : Nat) (hg : w.heap.size = g) (t : TypeId) : Row encPQ 2 (w.alloc (.cells #[.int .i64 0, .int .i64 0, .int .i64 0, .int .i64 1, .int .i64 1, .int .i64 1] t)) (some ⟨g, 0, none⟩) [(0, 0), (0, 1), (1, 1)] := by
  intro i hi
  refine ⟨g, 0, rfl, by simp; omega, fun j hj => ?_⟩
  rw [Nat.zero_add, cell_new' hg]
  match i, hi, j, hj with
  | 0, _, 0, _ => rfl
  | 0, _, 1, _ => rfl
  | 1, _, 0, _ => rfl
  | 1, _, 1, _ => rfl
  | 2, _, 0, _ => rfl
  | 2, _, 1, _ => rfl
set_option maxRecDepth 100000 in
set_option maxHeartbeats 8000000 in
theorem fawake_any (w : World) : Calls Try.prog 7 #[] w fun e w' => e = .returned (.bool true) ∧ Below w.heap.size w w' := by
  have HB0 := Lib.hid (Below.refl w.heap.size w)
  go_enter Try.func7, Try.ntmps7
  go_wp2_with (first
    | (go_at_call 17; refine (line14_any _ _).mono ?_; rintro e w1 ⟨g1, rfl, hr, hb⟩; have HR1 := Lib.hid hr; have HB1 := Lib.hid (HB0.out.trans (hb.mono HB0.out.size)); clear hr hb))
  refine (fmostL g1 _ HR1.out).mono ?_
  rintro e w2 ⟨rfl, hb⟩
  have HB2 := Lib.hid (HB1.out.trans (hb.mono HB1.out.size))
  clear hb HR1 HB1
  go_wp2_with (first
    | (go_at_call 17; refine (line14_any _ _).mono ?_; rintro e w3 ⟨g3, rfl, hr, hb⟩; have HR3 := Lib.hid hr; have HB3 := Lib.hid (HB2.out.trans (hb.mono HB2.out.size)); clear hr hb))
  refine (fcutL g3 _ HR3.out).mono ?_
  rintro e w4 ⟨la, lc, rfl, hrow, hb⟩
  have HRW := Lib.hid hrow
  have HB4 := Lib.hid (HB3.out.trans (hb.mono HB3.out.size))
  clear hrow hb HR3 HB3
  go_wp2_with (first
    | (go_at_call 17; refine (line14_any _ _).mono ?_; rintro e w5 ⟨g5, rfl, hr, hb⟩; have HR5 := Lib.hid hr; have HRW5 := Lib.hid (HRW.out.below' hb); have HB5 := Lib.hid (HB4.out.trans (hb.mono HB4.out.size)); clear hr hb))
  refine (fmaxL g5 _ HR5.out).mono ?_
  rintro e w6 ⟨rfl, hb⟩
  have HRW6 := Lib.hid (HRW5.out.below' hb)
  have HB6 := Lib.hid (HB5.out.trans (hb.mono HB5.out.size))
  clear hb HR5 HB5
  go_wp2_with (first
    | (go_at_call 18; refine (slots16_any la (some ⟨w6.heap.size, 0, none⟩) 3 3 lc 3 [(0, 0), (0, 1), (1, 1)] _ rfl rfl (row_alloc HRW6.out _) (row3S w6 w6.heap.size rfl _) (by decide)).mono ?_; rintro e w7 ⟨rfl, nn, rfl⟩))
  go_ret
  exact ⟨rfl, below_drewN (HB6.out.alloc HB6.out.size _) _⟩
end Go.Proofs.Ytlkbohpnlbfopaa
namespace Go.Proofs.Ytlkbohpnlbfopaa
set_option linter.unusedVariables false
namespace Exp
variable {E : Exp}
end Exp
section
variable {A N i j H : Nat} {Z : List ArcT}
theorem SmF.xpe16 (h : SmF A N i j H Z) (hA : A ≤ 10) {K : Nat} (hK : K ≤ 9) : xpE (N : Int) Z (i : Int) (j : Int) (K : Int) = 0 := by
  have hc := small_check h.nodes (by have := h.arcs; omega) h.small
  refine xpE_ok.2 ⟨small_ask (small_ends hc h.src h.snk h.ne) (by omega) (by omega), fitN_is.2 ⟨hc, by omega, by omega, ?_, ?_⟩⟩
  · have h1 : ((K : Int) + 1) * (N : Int) ≤ 10 * 5 := Int.mul_le_mul (by omega) (by have := h.nodes; omega) (by omega) (by omega)
    omega
  · have h1 : ((K : Int) + 1) * (Z.length : Int) ≤ 10 * 10 := Int.mul_le_mul (by omega) (by have := h.arcs; omega) (by omega) (by omega)
    omega
theorem SmF.net16 (h : SmF A N i j H Z) (hA : A ≤ 10) {K : Nat} (hK : K ≤ 9) (b : Bool) : NetX (N : Int) Z (i : Int) (j : Int) (K : Int) b (⟨Z, N, i, j, K, b⟩ : Exp).net ((K + 1) * N) ∧ SpanNet Z N := by
  obtain ⟨A', q, hX⟩ := net_facts (h.xpe16 hA hK) b
  obtain ⟨N', i', j', K', e1, e2, e3, e4, hi, hj, hij, hW, _, hq, _, _, hA2⟩ := hX.exp
  obtain rfl : N = N' := by omega
  obtain rfl : i = i' := by omega
  obtain rfl : j = j' := by omega
  obtain rfl : K = K' := by omega
  subst hA2
  subst hq
  exact ⟨hX, hW⟩
theorem SmF.kinds16 (h : SmF A N i j H Z) (hA : A ≤ 10) (b : Bool) : (⟨Z, N, i, j, H, b⟩ : Exp).kinds.length ≤ 200 := by
  have h1 := kinds_len (⟨Z, N, i, j, H, b⟩ : Exp)
  simp only at h1
  have h2 : (H + 1) * Z.length ≤ 8 * 10 := Nat.mul_le_mul (by have := h.hor; omega) (by have := h.arcs; omega)
  have h3 : (H + 1) * N ≤ 8 * 5 := Nat.mul_le_mul (by have := h.hor; omega) (by have := h.nodes; omega)
  have := h.hor
  omega
theorem SmF.run16 (h : SmF A N i j H Z) (hA : A ≤ 10) {b : Bool} {F : List Int} {k : Int} (hF : FlowST (⟨Z, N, i, j, H, b⟩ : Exp).net ((H + 1) * N + 2) ((H + 1) * N) ((H + 1) * N + 1) F k) :
    plnE (N : Int) Z (i : Int) (j : Int) (H : Int) b (movV (N : Int) Z (i : Int) (j : Int) (H : Int) b F) = 0 ∧ plnV (N : Int) Z (i : Int) (j : Int) (H : Int) b (movV (N : Int) Z (i : Int) (j : Int) (H : Int) b F) = k ∧ (∀ m ∈ movV (N : Int) Z (i : Int) (j : Int) (H : Int) b F, okK m) ∧ (movV (N : Int) Z (i : Int) (j : Int) (H : Int) b F).length ≤ 200 ∧
    AllIn (mvS (movV (N : Int) Z (i : Int) (j : Int) (H : Int) b F)) ∧ ∀ R, R.Perm (mvs (movV (N : Int) Z (i : Int) (j : Int) (H : Int) b F)) → Sorted kM R → R = movV (N : Int) Z (i : Int) (j : Int) (H : Int) b F := by
  have hH7 := h.hor
  have hx := h.xpe16 hA (K := H) (by omega)
  obtain ⟨_, hW⟩ := h.net16 hA (K := H) (by omega) b
  have hk := h.kinds16 hA b
  have e0 : bldA (N : Int) Z (i : Int) (j : Int) (H : Int) b = (⟨Z, N, i, j, H, b⟩ : Exp).net := by unfold bldA; rw [if_pos hx]; rfl
  have hb : isfB (⟨Z, N, i, j, H, b⟩ : Exp).net F = true := isfB_is.2 ⟨hF.1.1, fun p a x ha hx => by
    have h1 := hF.1.2 p a ha
    have e : atI F p = x := by unfold atI; rw [List.getD_eq_getElem?_getD, hx]; rfl
    rw [e] at h1
    exact h1⟩
  have e2 : movV (N : Int) Z (i : Int) (j : Int) (H : Int) b F = mvsL (⟨Z, N, i, j, H, b⟩ : Exp).kinds F := by unfold movV; rw [e0, if_pos ⟨hx, hb⟩]; rfl
  rw [e2]
  have h2 := runs_plan (E := ⟨Z, N, i, j, H, b⟩) hW h.src h.snk h.ne (F := F) (k := k) hF (xpE_ok.1 hx).1
  have hs := mvsL_sorted (F := F) (kinds_sorted ⟨Z, N, i, j, H, b⟩)
  have hz : ∀ m ∈ mvsL (⟨Z, N, i, j, H, b⟩ : Exp).kinds F, m.2.2 ≠ 0 := fun m hm => by
    obtain ⟨_, _, y, _, _, _, h4, rfl⟩ := mvsL_mem.1 hm
    simp only; omega
  have hok : ∀ m ∈ mvsL (⟨Z, N, i, j, H, b⟩ : Exp).kinds F, okK m := mvs_fit hk (isf_bd (E := ⟨Z, N, i, j, H, b⟩) hW hb).2 (fun p i' u' hp => by
    rcases Exp.kinds_cases (List.mem_of_getElem? hp) with ⟨i2, u2, e, ho⟩ | ⟨v, u2, _, e, _⟩ | ⟨u2, _, e⟩ | ⟨u2, _, e⟩
    · have e1 : i' = i2 := congrArg (fun k : Kd => k.2.1) e
      have e2 : u' = u2 := congrArg (fun k : Kd => k.2.2) e
      have := Exp.ok2_lt ho
      have := hW.len
      simp only at *
      omega
    · exact absurd (Prod.mk.inj e).1 (by decide)
    · exact absurd (Prod.mk.inj e).1 (by decide)
    · exact absurd (Prod.mk.inj e).1 (by decide))
  refine ⟨h2.1, h2.2, hok, Nat.le_trans (mvsL_len _ _) hk, (mvE_ok.1 (Classical.byContradiction fun e => e (by have h3 := h2.1; rw [plnE_bad e] at h3; exact h3))).2.1, fun R hR hS => merged_is (List.Perm.refl _) hs hz hR hS⟩
end
end Go.Proofs.Ytlkbohpnlbfopaa
