/- Lemmas of the layers below, several texts in one. -/
import Derived.Test.YtekcnglkfglbfaaBM
import Derived.Test.YtekcnglkfglbfaaBN
import Derived.Lib.SliceRun
namespace Go.Proofs.Ytekcnglkfglbfaa
open Go.RowKit
set_option linter.unusedVariables false

/-- A row of numbers is cleared. -/
theorem wpList_clear_ints {w : World} {ops : Array Oper} {rest : List Oper} {o : Oper} {a : Act} {Q : Exit → Act → World → Prop} (hgd : o.guard = none) (y : Operand) (ho : o.op = .call { callee := .builtin .clear, args := #[y], argTypes := #[25] }) (hd : o.dst = none)
    (B g n cap : Nat) (T : List Int) (hy : a.eval y = .slice (some ⟨g, 0, none⟩) n cap) (hn : 0 < n) (hT : T.length = n) (hown : OwnL encI w B 3 (.slice (some ⟨g, 0, none⟩) n cap) T)
    (hK : wpList Try.prog ops Q rest a (w.setCells g 0 (List.replicate n (.int .i64 0)))) : wpList Try.prog ops Q (o :: rest) a w := by
  refine wpList_plain hgd fun K hK2 => ?_
  have hat : ∀ j, j < n → w.cell? ⟨g, 0 + j, none⟩ = some (.int .i64 (T.getD j 0)) ∧ w.frozen? ⟨g, 0 + j, none⟩ = false := fun j hj => by
    rw [Nat.zero_add]
    exact hown.cell (atI_get (d := T) (v := j) (by omega))
  have hr := Lib.run_clear_slice (P := Try.prog) w 25 3 o.type (.int .i64 0) Try.underlying25 (fun w => by kernel_rfl) rfl rfl g 0 n cap hn (fun j hj => by rw [(hat j hj).1]; rfl) (fun j hj => (hat j hj).2)
  unfold Oper.wp execOp
  simp only [ho, resolve, invoke, builtin, Sem.run_bind, Sem.run_pure, Result.andThen_ok, List.map_toArray, List.map_cons, List.map_nil, hy, hr]
  have e : a.put o.dst (.tuple #[]) = a := by rw [hd]; rfl
  show K (a.put o.dst (.tuple #[])) _
  rw [e]
  exact hK2 _ _ hK
/-! One round, in plain lists -/
theorem flowE_of {N i j : Nat} {Z : List ArcT} {G : List Int} {v : Int} (he : endsE (N : Int) Z (i : Int) (j : Int) = 0) (h : FlowST Z N i j G v) : flowE (N : Int) Z G = 0 := (valE_ok (of_st he h).1).2.1
theorem arcs_lt {n : Int} {Z : List ArcT} {s t : Int} (he : endsE n Z s t = 0) : (∀ a ∈ Z, frN a < n.toNat ∧ toN a < n.toNat) ∧ ∀ a ∈ Z, 0 ≤ capN a := by
  have hR : Right (n, true, Z) := right_iff.1 (endsE_ok he).1
  refine ⟨fun a ha => ?_, fun a ha => ?_⟩
  · obtain ⟨_, _, h1, h2, _, _⟩ := right_arc hR ha
    exact ⟨h1, h2⟩
  · have h := arcE_ok (hR.2.2 a ha)
    simp only [badEnds] at h
    unfold capN
    omega
/-- No flow has a greater value than what the source's side takes. -/
def mostV (Z : List ArcT) (s : Nat) : Int := capS Z (fun v => decide (v = s))
theorem le_mostV {Z : List ArcT} {N s t : Nat} {f : List Int} {k : Int} (hZ : ∀ a ∈ Z, frN a < N ∧ toN a < N) (hs : s < N) (hne : s ≠ t) (h : FlowST Z N s t f k) : k ≤ mostV Z s := weak hZ hs h ⟨by simp, by simpa using fun e => hne e.symm⟩
/-- Where the levels reach the sink, a way descends to it. -/
theorem not_shut {N s t : Nat} {Z : List ArcT} {F : List Int} (he : flowE (N : Int) Z F = 0) (hs : s < N) (ht : farX (seekN Z F N s) t ≠ -1) : ¬ Shut Z F (farsL (seekN Z F N s) N) t s := by
  intro h
  obtain ⟨hsk, hat, _⟩ := levs_facts he rfl hs
  have hm : t ∈ keysX (seekN Z F N s) := Classical.byContradiction fun hn => ht (farX_none hn)
  obtain ⟨b, q, hb, hq⟩ := keysX_mem.1 hm
  obtain ⟨w1, w2⟩ := path_walk hsk b b q (Nat.le_refl _) hb
  have hd := path_desc hsk b b q (Nat.le_refl _) hb
  refine h (pathX (seekN Z F N s) b) (fun y hy => ?_) (by rw [← hq]; exact w1)
  obtain ⟨y1, _, y3⟩ := (stepsK_mem (Nat.le_refl _)).1 (w2 y hy)
  refine ⟨y1, descB_iff.2 ⟨y3, ?_⟩⟩
  obtain ⟨j, a, r, ha, rfl⟩ := stepsK_arc (w2 y hy)
  have hlt := (flow_arcs he).2 j a r ha
  rw [Int.toNat_natCast] at hlt
  have e1 : atI (farsL (seekN Z F N s) N) (toS Z ((j : Int), r)) = _ := (hat _ hlt.1).1
  have e2 : atI (farsL (seekN Z F N s) N) (fromS Z ((j : Int), r)) = _ := (hat _ hlt.2).1
  rw [e1, e2]
  exact hd _ hy
/-- Where they do not, the value is the greatest. -/
theorem most_of_far {N s t : Nat} {Z : List ArcT} {F : List Int} {k : Int} (he : endsE (N : Int) Z (s : Int) (t : Int) = 0) (hs : s < N) (h : FlowST Z N s t F k) (ht : farX (seekN Z F N s) t = -1) : IsMost Z N s t k ∧ t ∉ keysX (seekN Z F N s) := by
  have hf := flowE_of he h
  obtain ⟨hsk, _, _⟩ := levs_facts hf rfl hs
  have hn : t ∉ keysX (seekN Z F N s) := fun hm => by
    obtain ⟨b, q, hb, hq⟩ := keysX_mem.1 hm
    have := farX_some hsk hb
    rw [hq] at this
    rw [show farX (seekN Z F N s) t = _ from this] at ht
    omega
  have hZ := (arcs_lt he).1
  rw [Int.toNat_natCast] at hZ
  exact ⟨(best_side hZ hs (fun y => by
    rw [stepsK_mem (Nat.le_refl _)]
    constructor
    · rintro ⟨h1, _, h3⟩; exact ⟨h1, h3⟩
    · rintro ⟨h1, h3⟩; exact ⟨h1, h1.2, h3⟩) h hsk hn).2.2.1, hn⟩
/-- A path that is found, filled. -/
theorem fill_found {N s t : Nat} {Z : List ArcT} {F L T : List Int} {P : List StepT} {v : Int} (hne : s ≠ t) (h : FlowST Z N s t F v) (hd : DP Z F L T s P t) : P ≠ [] ∧ 0 < botK Z F P ∧ (pushL Z (botK Z F P) F P).1 = 0 ∧ FlowST Z N s t (pushL Z (botK Z F P) F P).2 (v + botK Z F P) := by
  obtain ⟨h1, h2, h3, h4⟩ := hd.found
  obtain ⟨g1, g2, g3⟩ := augment hne h h1 h2 h3 h4
  refine ⟨fun e => ?_, g1, g2, ?_⟩
  · subst e
    exact hne h1
  · rw [pushed_of P F g2]
    exact g3
end Go.Proofs.Ytekcnglkfglbfaa

namespace Go.Proofs.Ytekcnglkfglbfaa
open Go.RowKit
set_option linter.unusedVariables false

section
variable (p tb sg N : Nat) (b : Bool) (ao : Option Addr) (cap : Nat) (Z : List ArcT) (sc tc : Nat)
set_option maxRecDepth 100000 in
set_option maxHeartbeats 8000000 in
theorem xfillall_at (fo : Option Addr) (fc : Nat) (F : List Int) (lo : Option Addr) (lc : Nat) (L T : List Int) (v : Int) (s t : Nat) (w : World) (h : FilW w p tb sg N b ao cap Z sc tc fo fc F lo lc L T) (hE : endsE (N : Int) Z (s : Int) (t : Int) = 0) (hv : FlowST Z N s t F v) (hT : TI Z N T) :
    Calls Try.prog 31 #[.pointer (some ⟨p, 0, none⟩), .int .i64 (s : Int), .int .i64 (t : Int)] w fun e w' => ∃ fo' fc' F' lo' lc' L' T' k, e = .returned (.tuple #[]) ∧ FilW w' p tb sg N b ao cap Z sc tc fo' fc' F' lo' lc' L' T' ∧ Kept (fun i => i = p ∨ i = tb) w w' ∧ FlowST Z N s t F' k ∧ IsMost Z N s t k ∧ t ∉ keysX (seekN Z F' N s) := by
  obtain ⟨hc, i', j', e1, e2, hs, ht, hne⟩ := endsE_ok hE
  rw [Int.toNat_natCast] at hs ht
  obtain rfl : i' = s := by omega
  obtain rfl : j' = t := by omega
  obtain ⟨hZ, hC⟩ := arcs_lt hE
  rw [Int.toNat_natCast] at hZ
  have hn := nodesE_ok (right_iff.1 hc : Right ((N : Int), true, Z)).1
  simp only at hn
  have hlt := h.lt
  have HEE := Lib.hid hE
  have HZ := Lib.hid hZ
  have HV := Lib.hid hv
  have HW := Lib.hid h
  have HTI := Lib.hid hT
  have HNE := Lib.hid hne
  obtain ⟨M, hM⟩ : ∃ M, mostV Z i' = M := ⟨_, rfl⟩
  have HM : Hid (∀ f k, FlowST Z N i' j' f k → k ≤ M) := Lib.hid (fun f k h => by rw [← hM]; exact le_mostV hZ hs hne h)
  clear h hE hv hT hc e1 e2 hZ hC hM hne
  go_enter Try.func31, Try.ntmps31
  go_wp2
  go_step3
  go_wp2
  go_step3
  go_wp2
  go_loopg [] ((M - v).toNat + 1) (fun k wr => ∃ fo fc F lo lc L T v, Hid ((M - v).toNat < k) ∧ Hid (FilW wr p tb sg N b ao cap Z sc tc fo fc F lo lc L T) ∧ Hid (FlowST Z N i' j' F v) ∧ Hid (TI Z N T) ∧ Hid (Kept (fun i => i = p ∨ i = tb) w wr))
  case atStart => exact ⟨fo, fc, F, lo, lc, L, T, v, Lib.hid (Nat.lt_succ_self _), HW, HV, HTI, Lib.hid (Kept.refl _ _)⟩
  case round =>
    clear HW HV HTI
    obtain ⟨fo, fc, F, lo, lc, L, T, v, HMU, HW, HV, HTI, HK⟩ := hrel
    obtain ⟨gk0, hgk⟩ : ∃ gk0, gk0 = gk := ⟨_, rfl⟩
    subst hgk
    have HFE := Lib.hid (flowE_of HEE.out HV.out)
    obtain ⟨r, hr⟩ : ∃ r, (farX (seekN Z F N i') j' != -1) = r := ⟨_, rfl⟩
    have HR := Lib.hid hr
    clear hr
    cases r
    · have HMO : Hid (IsMost Z N i' j' v ∧ j' ∉ keysX (seekN Z F N i')) := Lib.hid (most_of_far HEE.out hs HV.out (by have h1 := HR.out; simpa using h1))
      go_wp2_with (first
        | (go_at_call 45; refine (xrise_at p tb sg N b ao cap Z sc tc fo fc F lo lc L T i' j' false _ HW.out HFE.out hs ht HR.out).mono ?_; rintro e w2 ⟨g, rfl, hw2, hk2⟩; have HW2 := Lib.hid hw2; have HK2 := Lib.hid (HK.out.trans hk2 (fun i _ e => .inl e)); clear hw2 hk2))
      rw [Exit.noGoto_normal]
      refine bodyPost_end (results_none rfl _ _ _) rfl ?_
      exact ⟨_, _, _, _, _, _, _, v, rfl, HW2.out, HK2.out, HV.out, HMO.out.1, HMO.out.2⟩
    · have HNS : Hid (¬ Shut Z F (farsL (seekN Z F N i') N) j' i') := Lib.hid (not_shut HFE.out hs (by have h1 := HR.out; simpa using h1))
      go_wp2_with (first
        | (go_at_call 45; refine (xrise_at p tb sg N b ao cap Z sc tc fo fc F lo lc L T i' j' true _ HW.out HFE.out hs ht HR.out).mono ?_; rintro e w2 ⟨g, rfl, hw2, hk2⟩; have HW2 := Lib.hid hw2; have HK2 := Lib.hid (HK.out.trans hk2 (fun i _ e => .inl e)); obtain ⟨⟨_, _, _, _, _, _, k6⟩, _⟩ := c7Cells hw2.box; clear hw2 hk2)
        | (show wpList Try.prog _ _ ({ dst := none, op := Go.Op.call { callee := Go.Callee.builtin Go.Builtin.clear, args := _, argTypes := _ }, type := _, pos := _, after := _, guard := _ } :: _) _ _; refine wpList_clear_ints rfl _ rfl rfl 0 tb N tc T rfl (by omega) HTI.out.len HW2.out.tried ?_; have h3 := setCells_zero HW2.out.tried HTI.out.len; have HW3 := Lib.hid (HW2.out.keptT h3.2 h3.1); have HK3 := Lib.hid (HK2.out.trans h3.2 (fun i _ e => .inr e)); clear h3 k6))
      generalize w2.setCells tb 0 (List.replicate N (.int .i64 0)) = w3 at *
      have hlf := levs_facts HFE.out rfl hs
      have HLB : Hid (∀ v, v < N → -1 ≤ atI (farsL (seekN Z F N i') N) v ∧ atI (farsL (seekN Z F N i') N) v < (N : Int)) := Lib.hid (fun v hv => by
        obtain ⟨h1, h2, h3⟩ := hlf.2.1 v hv
        rw [show atI (farsL (seekN Z F N i') N) v = _ from h1]
        exact ⟨h2, h3⟩)
      have HLS : Hid (atI (farsL (seekN Z F N i') N) i' = 0) := Lib.hid ((hlf.2.1 i' hs).1.trans hlf.2.2)
      have HLL := Lib.hid (farsL_len (seekN Z F N i') N)
      clear hlf HW2 HK2
      obtain ⟨L9, hL9⟩ : ∃ L9, farsL (seekN Z F N i') N = L9 := ⟨_, rfl⟩
      rw [hL9] at HW3 HLB HLS HLL HNS
      clear hL9
      obtain ⟨F0, hF0⟩ : ∃ F0, F0 = F := ⟨_, rfl⟩
      obtain ⟨v0, hv0⟩ : ∃ v0, v0 = v := ⟨_, rfl⟩
      subst hF0 hv0
      go_loopg [] ((M - v0).toNat + 1) (fun k wi => ∃ fo fc F T v, Hid ((M - v).toNat < k) ∧ Hid (v0 < v ∨ F = F0 ∧ v = v0 ∧ DT Z F0 L9 N j' T) ∧ Hid (FilW wi p tb sg N b ao cap Z sc tc fo fc F (some ⟨g, 0, none⟩) N L9 T) ∧ Hid (FlowST Z N i' j' F v) ∧ Hid (TI Z N T) ∧ Hid (Kept (fun i => i = p ∨ i = tb) w wi))
      case atStart => exact ⟨fo, fc, F0, List.replicate N 0, v0, Lib.hid (Nat.lt_succ_self _), Lib.hid (.inr ⟨rfl, rfl, DT.start⟩), HW3, HV, Lib.hid (TI.start Z N), HK3⟩
      case round =>
        have HV0 := HV
        clear HW3 HK3 HV HTI HFE HW HK
        obtain ⟨fo, fc, F, T, v, HM2, HOR, HW, HV, HTI, HK⟩ := hrel
        have HFE := Lib.hid (flowE_of HEE.out HV.out)
        have HCALL := Lib.hid (xdescend_at p tb sg N b ao cap Z sc tc fo fc F (some ⟨g, 0, none⟩) N L9 T i' j' wr HW.out HFE.out hs ht HLL.out HLB.out HLS.out HTI.out)
        go_wp2_with fail
        refine HCALL.out.mono ?_
        rintro e w4 ⟨T3, hT3, hW4, hK4, hor⟩
        have HT3 := Lib.hid hT3
        have HW4 := Lib.hid hW4
        have HK4 := Lib.hid (HK.out.trans hK4 (fun i _ e => .inr e))
        clear HCALL hT3 hW4 hK4
        rcases hor with ⟨po, pc, P, rfl, hP, hPo, hDP⟩ | ⟨rfl, hsh⟩
        · obtain ⟨f1, f2, f3, f4⟩ := fill_found HNE.out HV.out hDP
          have hPl : P.length ≤ 1000 := by
            have h1 := hDP.lev.1
            have h2 := (HLB.out j' ht).2
            rw [HLS.out] at h1
            omega
          have HPA := Lib.hid (fun y hy => (hDP.all y hy).1)
          have HP := Lib.hid hP
          have HF2 := Lib.hid f2
          have HF3 := Lib.hid f3
          have HF4 := Lib.hid f4
          have HF1 := Lib.hid f1
          clear hP hPo hDP f1 f2 f3 f4
          go_wp2_with (first
            | (go_at_call 47; refine (xfill_at p tb sg N b ao cap Z sc tc fo fc F (some ⟨g, 0, none⟩) N L9 T3 po pc P _ HW4.out HFE.out HP.out HF1.out hPl HPA.out HF3.out (by have := HF2.out; omega)).mono ?_; rintro e w5 ⟨g5, rfl, hw5, hk5⟩; have HW5 := Lib.hid hw5; have HK5 := Lib.hid (HK4.out.trans hk5 (fun i _ e => .inl e)); clear hw5 hk5))
          go_roundg ((M - (v + botK Z F P)).toNat + 1)
          case measure =>
            have h1 := HM2.out
            have h2 := HM.out _ _ HF4.out
            have h3 := HF2.out
            omega
          case rel => exact ⟨_, _, _, T3, v + botK Z F P, Lib.hid (Nat.lt_succ_self _), Lib.hid (.inl (by have h3 := HF2.out; rcases HOR.out with h | ⟨_, h, _⟩ <;> omega)), HW5, HF4, HT3, HK5⟩
        · have HVV : Hid (v0 < v) := Lib.hid (by
            rcases HOR.out with h | ⟨h1, h2, h3⟩
            · exact h
            · exfalso
              subst h1
              exact HNS.out (hsh h3))
          clear hsh
          go_wp2
          go_roundg ((M - v).toNat + 1)
          case measure =>
            have h1 := HMU.out
            have h2 := HM.out _ _ HV.out
            have h3 := HVV.out
            omega
          case rel => exact ⟨_, _, _, _, _, _, T3, v, Lib.hid (Nat.lt_succ_self _), HW4, HV, HT3, HK4⟩
end
end Go.Proofs.Ytekcnglkfglbfaa

namespace Go.Proofs.Ytekcnglkfglbfaa
open Go.RowKit
set_option linter.unusedVariables false

/-- What Max answers. -/
def MaxRes (n : Int) (Z : List ArcT) (s t : Int) (w : World) (e : Ending) (w' : World) : Prop :=
  (endsE n Z s t = 0 ∧ ∃ fo fc F k N i j, n = ((N : Nat) : Int) ∧ s = ((i : Nat) : Int) ∧ t = ((j : Nat) : Int) ∧ (i < N ∧ j < N ∧ i ≠ j) ∧ e = .returned (.tuple #[.slice fo F.length fc, .int .i64 k, .int .i64 0]) ∧ Lst encI w' fo F ∧ FlowST Z N i j F k ∧ IsMost Z N i j k ∧ j ∉ keysX (seekN Z F N i) ∧ Below w.heap.size w w') ∨
  (endsE n Z s t ≠ 0 ∧ e = .returned (.tuple #[.slice none 0 0, .int .i64 0, .int .i64 (endsE n Z s t)]) ∧ Below w.heap.size w w')
section
variable (n : Int) (b : Bool) (ao : Option Addr) (cap : Nat) (Z : List ArcT)
set_option maxRecDepth 100000 in
set_option maxHeartbeats 4000000 in
theorem xmax_any (s t : Int) (w : World) (h : Row encA 4 w ao Z) (hz : Z.length ≤ maxLen) :
    Calls Try.prog 20 #[.agg #[.int .i64 n, .bool b, .slice ao Z.length cap], .int .i64 s, .int .i64 t] w (MaxRes n Z s t w) := by
  have hb00 := (Below.refl _ w).alloc (Nat.le_refl _) (.cells #[.int .i64 n, .bool b, .slice ao Z.length cap] 24)
  have HB0 := Lib.hid hb00
  have HN0 := Lib.hid (heap_alloc_new w (.cells #[.int .i64 n, .bool b, .slice ao Z.length cap] 24))
  have c0 := cell_whole HN0.out 0
  have c1 := cell_whole HN0.out 1
  have c2 := cell_whole HN0.out 2
  have HR := Lib.hid (h.below' hb00)
  have HZ := Lib.hid hz
  clear h hz hb00
  obtain ⟨e0, he⟩ : ∃ e0, endsE n Z s t = e0 := ⟨_, rfl⟩
  have HE := Lib.hid he
  by_cases h0 : e0 = 0
  · subst h0
    obtain ⟨hc, i, j, rfl, rfl, hi, hj, hij⟩ := endsE_ok he
    have hR : Right (n, b, Z) := right_iff.1 hc
    have hn := nodesE_ok hR.1
    have hzl : Z.length ≤ 200 := hR.2.1
    simp only at hn
    obtain ⟨N, rfl⟩ : ∃ N : Nat, n = (N : Int) := ⟨n.toNat, by omega⟩
    rw [Int.toNat_natCast] at hi hj
    have HC := Lib.hid hc
    have HCP := Lib.hid (arcs_lt he).2
    clear he hc hR
    go_enter Try.func20, Try.ntmps20
    go_wp2_with (first
      | (go_at_call 21; refine (ends_is (N : Int) b ao cap Z (i : Int) (j : Int) 0 _ HR.out HZ.out HE.out).mono ?_; rintro e w1 ⟨rfl, hb1⟩; have HB1 := Lib.hid (HB0.out.trans (hb1.mono HB0.out.size)); have HR1 := Lib.hid (HR.out.below' hb1); have HN1 := Lib.hid (kept_box HN0.out hb1); have c0 := cell_below hb1 c0; have c1 := cell_below hb1 c1; have c2 := cell_below hb1 c2; clear hb1)
      | (go_at_call 30; refine (xempty_at b ao cap Z N _ HR1.out HC.out).mono ?_; rintro e w2 ⟨p, tb, sg, fb, rfl, hp, htb, hw2, hb2⟩; have HB2 := Lib.hid (HB1.out.trans (hb2.mono HB1.out.size)); have HW2 := Lib.hid hw2; have HR2 := Lib.hid (HR1.out.below' hb2); have HN2 := Lib.hid (kept_box HN1.out hb2); have HPT : Hid (w.heap.size < p ∧ w.heap.size < tb) := Lib.hid (by have := lt_whole HN1.out; omega); clear hp htb hw2 hb2 c0 c1 c2)
      | (go_at_call 31; refine (xfillall_at p tb sg N b ao cap Z N N (some ⟨fb, 0, none⟩) Z.length _ none 0 [] _ 0 i j _ HW2.out HE.out (zero_flow Z HCP.out N i j) (TI.start Z N)).mono ?_; rintro e w3 ⟨fo, fc, F, lo, lc, L, T, k, rfl, hw3, hk3, hv3, hm3, hn3⟩; have HW3 := Lib.hid hw3; have HB3 := Lib.hid (HB2.out.trans (hk3.below HB2.out.size (fun i e => by have := HPT.out; omega))); have HN3 := Lib.hid (hk3.old HN2.out (fun e => by have := HPT.out; omega)); have HV3 := Lib.hid hv3; have HM3 := Lib.hid hm3; have HX3 := Lib.hid hn3; clear hw3 hk3 hv3 hm3 hn3))
    have HVE := Lib.hid (of_st HE.out HV3.out)
    have HFM : Hid (F.length ≤ maxLen) := Lib.hid (by have := HV3.out.1.1; unfold maxLen; omega)
    have HR3 := Lib.hid HW3.out.arcs
    obtain ⟨⟨_, _, _, _, k4, _, _⟩, _⟩ := c7Cells HW3.out.box
    have c0 := cell_whole HN3.out 0
    have c1 := cell_whole HN3.out 1
    have c2 := cell_whole HN3.out 2
    go_region_held3 (fun W => W.cell? ⟨w.heap.size, 0, none⟩ = some (.int .i64 (N : Int)) ∧ W.cell? ⟨w.heap.size, 1, none⟩ = some (.bool b) ∧ W.cell? ⟨w.heap.size, 2, none⟩ = some (.slice ao Z.length cap) ∧ W.cell? ⟨p, 4, none⟩ = some (.slice fo F.length fc)) (first | exact ⟨c0, c1, c2, k4⟩ | exact ⟨z0, z1, z2, z4⟩ | go_keep)
      (first | (go_at_call 14; refine (scheck_any (N : Int) b ao fo cap fc Z (i : Int) (j : Int) F w3.drew HW3.out.drew.arcs HW3.out.drew.flow HZ.out HFM.out).mono ?_; rw [HVE.out.1, HVE.out.2]; rintro e w4 ⟨rfl, b4⟩; have HW4 := Lib.hid (HW3.out.drew.next b4); have z0 := cell_below (w := w3.drew) b4 c0; have z1 := cell_below (w := w3.drew) b4 c1; have z2 := cell_below (w := w3.drew) b4 c2; have z4 := cell_below (w := w3.drew) b4 k4; have HB4 := Lib.hid ((below_drew HB3.out).trans (b4.mono HB3.out.size)); clear b4))
    all_goals
      go_wp2
      go_ret3
      exact .inl ⟨HE.out, fo, fc, F, k, N, i, j, rfl, rfl, rfl, ⟨hi, hj, hij⟩, rfl, HW4.out.flow, HV3.out, HM3.out, HX3.out, HB4.out⟩
  · have H0 := Lib.hid h0
    have hf1 : (e0 != 0) = true := by simpa using h0
    have hf2 : (e0 == 0) = false := by simpa using h0
    clear h0 he
    go_enter Try.func20, Try.ntmps20
    go_wp2_with (first
      | (go_at_call 21; refine (ends_is n b ao cap Z s t e0 _ HR.out HZ.out HE.out).mono ?_; rintro e w1 ⟨rfl, hb1⟩; have HB1 := Lib.hid (HB0.out.trans (hb1.mono HB0.out.size)); clear hb1))
    go_ret3
    exact .inr ⟨by rw [HE.out]; exact H0.out, by rw [HE.out]; rfl, HB1.out⟩
/-- What Most answers. -/
def MostRes (n : Int) (Z : List ArcT) (s t : Int) (w : World) (e : Ending) (w' : World) : Prop :=
  (endsE n Z s t = 0 ∧ ∃ k N i j, n = ((N : Nat) : Int) ∧ s = ((i : Nat) : Int) ∧ t = ((j : Nat) : Int) ∧ (i < N ∧ j < N ∧ i ≠ j) ∧ e = .returned (.tuple #[.int .i64 k, .int .i64 0]) ∧ IsMost Z N i j k ∧ Below w.heap.size w w') ∨
  (endsE n Z s t ≠ 0 ∧ e = .returned (.tuple #[.int .i64 0, .int .i64 (endsE n Z s t)]) ∧ Below w.heap.size w w')
theorem xmost_any (s t : Int) (w : World) (h : Row encA 4 w ao Z) (hz : Z.length ≤ maxLen) :
    Calls Try.prog 12 #[.agg #[.int .i64 n, .bool b, .slice ao Z.length cap], .int .i64 s, .int .i64 t] w (MostRes n Z s t w) := by
  have hb00 := (Below.refl _ w).alloc (Nat.le_refl _) (.cells #[.int .i64 n, .bool b, .slice ao Z.length cap] 24)
  have HB0 := Lib.hid hb00
  have HR := Lib.hid (h.below' hb00)
  have HZ := Lib.hid hz
  clear h hz hb00
  go_enter Try.func12, Try.ntmps12
  go_wp2_with fail
  refine (xmax_any n b ao cap Z s t _ HR.out HZ.out).mono ?_
  rintro e w1 (⟨hE, fo, fc, F, k, N, i, j, rfl, rfl, rfl, hb, rfl, hf, hv, hm, hn, hb1⟩ | ⟨hE, rfl, hb1⟩)
  · have HE := Lib.hid hE
    have HM := Lib.hid hm
    have HH := Lib.hid hb
    have HB1 := Lib.hid (HB0.out.trans (hb1.mono HB0.out.size))
    clear hE hf hv hm hn hb hb1
    go_wp2
    go_ret2
    exact .inl ⟨HE.out, k, N, i, j, rfl, rfl, rfl, HH.out, rfl, HM.out, HB1.out⟩
  · obtain ⟨e0, he⟩ : ∃ e0, endsE n Z s t = e0 := ⟨_, rfl⟩
    rw [he] at hE ⊢
    have HE := Lib.hid he
    have HNE := Lib.hid hE
    have HB1 := Lib.hid (HB0.out.trans (hb1.mono HB0.out.size))
    clear hE he hb1
    go_wp2
    go_ret2
    exact .inr ⟨by rw [HE.out]; exact HNE.out, by rw [HE.out]; rfl, HB1.out⟩
end
end Go.Proofs.Ytekcnglkfglbfaa
