/- The flow is filled until no way with room leads to the sink: package maxflow's fillAll, and Max and Most. -/
import Derived.Test.YtbgnoaijgngifaaGreatXAll
namespace Go.Proofs.YtbgnoaijgngifaaGreat
open Go.RowKit
set_option linter.unusedVariables false

section
variable (p tb sg N : Nat) (b : Bool) (ao : Option Addr) (cap : Nat) (Z : List ArcT) (sc tc : Nat)
set_option maxRecDepth 100000 in
set_option maxHeartbeats 8000000 in
theorem xfillall_at (fo : Option Addr) (fc : Nat) (F : List Int) (lo : Option Addr) (lc : Nat) (L T : List Int) (v : Int) (s t : Nat) (w : World) (h : FilW w p tb sg N b ao cap Z sc tc fo fc F lo lc L T) (hE : endsE (N : Int) Z (s : Int) (t : Int) = 0) (hv : FlowST Z N s t F v) (hT : TI Z N T) :
    Calls Tryz.prog 19 #[.pointer (some ⟨p, 0, none⟩), .int .i64 (s : Int), .int .i64 (t : Int)] w fun e w' => ∃ fo' fc' F' lo' lc' L' T' k, e = .returned (.tuple #[]) ∧ FilW w' p tb sg N b ao cap Z sc tc fo' fc' F' lo' lc' L' T' ∧ Kept (fun i => i = p ∨ i = tb) w w' ∧ FlowST Z N s t F' k ∧ IsMost Z N s t k ∧ t ∉ keysX (seekN Z F' N s) := by
  obtain ⟨hc, i', j', e1, e2, hs, ht, hne⟩ := endsE_ok hE
  rw [Int.toNat_natCast] at hs ht
  obtain rfl : i' = s := by omega
  obtain rfl : j' = t := by omega
  obtain ⟨hZ, hC⟩ := arcs_lt hE
  rw [Int.toNat_natCast] at hZ
  have hn := nodesE_ok (right_iff.1 hc : Right ((N : Int), true, Z)).1
  simp only at hn
  have hlt := h.lt
  have HEE := Lib.hid hE
  have HZ := Lib.hid hZ
  have HV := Lib.hid hv
  have HW := Lib.hid h
  have HTI := Lib.hid hT
  have HNE := Lib.hid hne
  obtain ⟨M, hM⟩ : ∃ M, mostV Z i' = M := ⟨_, rfl⟩
  have HM : Hid (∀ f k, FlowST Z N i' j' f k → k ≤ M) := Lib.hid (fun f k h => by rw [← hM]; exact le_mostV hZ hs hne h)
  clear h hE hv hT hc e1 e2 hZ hC hM hne
  go_enter Tryz.func19, Tryz.ntmps19
  go_wp2
  go_step3
  go_wp2
  go_step3
  go_wp2
  go_loopg [] ((M - v).toNat + 1) (fun k wr => ∃ fo fc F lo lc L T v, Hid ((M - v).toNat < k) ∧ Hid (FilW wr p tb sg N b ao cap Z sc tc fo fc F lo lc L T) ∧ Hid (FlowST Z N i' j' F v) ∧ Hid (TI Z N T) ∧ Hid (Kept (fun i => i = p ∨ i = tb) w wr))
  case atStart => exact ⟨fo, fc, F, lo, lc, L, T, v, Lib.hid (Nat.lt_succ_self _), HW, HV, HTI, Lib.hid (Kept.refl _ _)⟩
  case round =>
    clear HW HV HTI
    obtain ⟨fo, fc, F, lo, lc, L, T, v, HMU, HW, HV, HTI, HK⟩ := hrel
    obtain ⟨gk0, hgk⟩ : ∃ gk0, gk0 = gk := ⟨_, rfl⟩
    subst hgk
    have HFE := Lib.hid (flowE_of HEE.out HV.out)
    obtain ⟨r, hr⟩ : ∃ r, (farX (seekN Z F N i') j' != -1) = r := ⟨_, rfl⟩
    have HR := Lib.hid hr
    clear hr
    cases r
    · have HMO : Hid (IsMost Z N i' j' v ∧ j' ∉ keysX (seekN Z F N i')) := Lib.hid (most_of_far HEE.out hs HV.out (by have h1 := HR.out; simpa using h1))
      go_wp2_with (first
        | (go_at_call 34; refine (xrise_at p tb sg N b ao cap Z sc tc fo fc F lo lc L T i' j' false _ HW.out HFE.out hs ht HR.out).mono ?_; rintro e w2 ⟨g, rfl, hw2, hk2⟩; have HW2 := Lib.hid hw2; have HK2 := Lib.hid (HK.out.trans hk2 (fun i _ e => .inl e)); clear hw2 hk2))
      rw [Exit.noGoto_normal]
      refine bodyPost_end (results_none rfl _ _ _) rfl ?_
      exact ⟨_, _, _, _, _, _, _, v, rfl, HW2.out, HK2.out, HV.out, HMO.out.1, HMO.out.2⟩
    · have HNS : Hid (¬ Shut Z F (farsL (seekN Z F N i') N) j' i') := Lib.hid (not_shut HFE.out hs (by have h1 := HR.out; simpa using h1))
      go_wp2_with (first
        | (go_at_call 34; refine (xrise_at p tb sg N b ao cap Z sc tc fo fc F lo lc L T i' j' true _ HW.out HFE.out hs ht HR.out).mono ?_; rintro e w2 ⟨g, rfl, hw2, hk2⟩; have HW2 := Lib.hid hw2; have HK2 := Lib.hid (HK.out.trans hk2 (fun i _ e => .inl e)); obtain ⟨⟨_, _, _, _, _, _, k6⟩, _⟩ := c7Cells hw2.box; clear hw2 hk2)
        | (show wpList Tryz.prog _ _ ({ dst := none, op := Go.Op.call { callee := Go.Callee.builtin Go.Builtin.clear, args := _, argTypes := _ }, type := _, pos := _, after := _, guard := _ } :: _) _ _; refine wpList_clear_ints rfl _ rfl rfl 0 tb N tc T rfl (by omega) HTI.out.len HW2.out.tried ?_; have h3 := setCells_zero HW2.out.tried HTI.out.len; have HW3 := Lib.hid (HW2.out.keptT h3.2 h3.1); have HK3 := Lib.hid (HK2.out.trans h3.2 (fun i _ e => .inr e)); clear h3 k6))
      generalize w2.setCells tb 0 (List.replicate N (.int .i64 0)) = w3 at *
      have hlf := levs_facts HFE.out rfl hs
      have HLB : Hid (∀ v, v < N → -1 ≤ atI (farsL (seekN Z F N i') N) v ∧ atI (farsL (seekN Z F N i') N) v < (N : Int)) := Lib.hid (fun v hv => by
        obtain ⟨h1, h2, h3⟩ := hlf.2.1 v hv
        rw [show atI (farsL (seekN Z F N i') N) v = _ from h1]
        exact ⟨h2, h3⟩)
      have HLS : Hid (atI (farsL (seekN Z F N i') N) i' = 0) := Lib.hid ((hlf.2.1 i' hs).1.trans hlf.2.2)
      have HLL := Lib.hid (farsL_len (seekN Z F N i') N)
      clear hlf HW2 HK2
      obtain ⟨L9, hL9⟩ : ∃ L9, farsL (seekN Z F N i') N = L9 := ⟨_, rfl⟩
      rw [hL9] at HW3 HLB HLS HLL HNS
      clear hL9
      obtain ⟨F0, hF0⟩ : ∃ F0, F0 = F := ⟨_, rfl⟩
      obtain ⟨v0, hv0⟩ : ∃ v0, v0 = v := ⟨_, rfl⟩
      subst hF0 hv0
      go_loopg [] ((M - v0).toNat + 1) (fun k wi => ∃ fo fc F T v, Hid ((M - v).toNat < k) ∧ Hid (v0 < v ∨ F = F0 ∧ v = v0 ∧ DT Z F0 L9 N j' T) ∧ Hid (FilW wi p tb sg N b ao cap Z sc tc fo fc F (some ⟨g, 0, none⟩) N L9 T) ∧ Hid (FlowST Z N i' j' F v) ∧ Hid (TI Z N T) ∧ Hid (Kept (fun i => i = p ∨ i = tb) w wi))
      case atStart => exact ⟨fo, fc, F0, List.replicate N 0, v0, Lib.hid (Nat.lt_succ_self _), Lib.hid (.inr ⟨rfl, rfl, DT.start⟩), HW3, HV, Lib.hid (TI.start Z N), HK3⟩
      case round =>
        have HV0 := HV
        clear HW3 HK3 HV HTI HFE HW HK
        obtain ⟨fo, fc, F, T, v, HM2, HOR, HW, HV, HTI, HK⟩ := hrel
        have HFE := Lib.hid (flowE_of HEE.out HV.out)
        have HCALL := Lib.hid (xdescend_at p tb sg N b ao cap Z sc tc fo fc F (some ⟨g, 0, none⟩) N L9 T i' j' wr HW.out HFE.out hs ht HLL.out HLB.out HLS.out HTI.out)
        go_wp2_with fail
        refine HCALL.out.mono ?_
        rintro e w4 ⟨T3, hT3, hW4, hK4, hor⟩
        have HT3 := Lib.hid hT3
        have HW4 := Lib.hid hW4
        have HK4 := Lib.hid (HK.out.trans hK4 (fun i _ e => .inr e))
        clear HCALL hT3 hW4 hK4
        rcases hor with ⟨po, pc, P, rfl, hP, hPo, hDP⟩ | ⟨rfl, hsh⟩
        · obtain ⟨f1, f2, f3, f4⟩ := fill_found HNE.out HV.out hDP
          have hPl : P.length ≤ 1000 := by
            have h1 := hDP.lev.1
            have h2 := (HLB.out j' ht).2
            rw [HLS.out] at h1
            omega
          have HPA := Lib.hid (fun y hy => (hDP.all y hy).1)
          have HP := Lib.hid hP
          have HF2 := Lib.hid f2
          have HF3 := Lib.hid f3
          have HF4 := Lib.hid f4
          have HF1 := Lib.hid f1
          clear hP hPo hDP f1 f2 f3 f4
          go_wp2_with (first
            | (go_at_call 36; refine (xfill_at p tb sg N b ao cap Z sc tc fo fc F (some ⟨g, 0, none⟩) N L9 T3 po pc P _ HW4.out HFE.out HP.out HF1.out hPl HPA.out HF3.out (by have := HF2.out; omega)).mono ?_; rintro e w5 ⟨g5, rfl, hw5, hk5⟩; have HW5 := Lib.hid hw5; have HK5 := Lib.hid (HK4.out.trans hk5 (fun i _ e => .inl e)); clear hw5 hk5))
          go_roundg ((M - (v + botK Z F P)).toNat + 1)
          case measure =>
            have h1 := HM2.out
            have h2 := HM.out _ _ HF4.out
            have h3 := HF2.out
            omega
          case rel => exact ⟨_, _, _, T3, v + botK Z F P, Lib.hid (Nat.lt_succ_self _), Lib.hid (.inl (by have h3 := HF2.out; rcases HOR.out with h | ⟨_, h, _⟩ <;> omega)), HW5, HF4, HT3, HK5⟩
        · have HVV : Hid (v0 < v) := Lib.hid (by
            rcases HOR.out with h | ⟨h1, h2, h3⟩
            · exact h
            · exfalso
              subst h1
              exact HNS.out (hsh h3))
          clear hsh
          go_wp2
          go_roundg ((M - v).toNat + 1)
          case measure =>
            have h1 := HMU.out
            have h2 := HM.out _ _ HV.out
            have h3 := HVV.out
            omega
          case rel => exact ⟨_, _, _, _, _, _, T3, v, Lib.hid (Nat.lt_succ_self _), HW4, HV, HT3, HK4⟩
end
end Go.Proofs.YtbgnoaijgngifaaGreat
