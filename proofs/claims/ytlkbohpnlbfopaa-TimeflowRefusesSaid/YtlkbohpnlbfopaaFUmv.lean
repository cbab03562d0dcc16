/- Package expand's Moves for up to 20000 arcs. -/
import Derived.Test.YtlkbohpnlbfopaaFBig
import Derived.Test.YtlkbohpnlbfopaaCE
namespace Go.Proofs.Ytlkbohpnlbfopaa
open Go.RowKit Go.Maps
set_option linter.unusedVariables false
set_option maxRecDepth 100000 in
set_option maxHeartbeats 8000000 in
theorem mvs_fit_big {K : List Kd} {F : List Int} (hK : K.length ≤ 20000) (hx : ∀ x ∈ F, 0 ≤ x ∧ x ≤ 1099511627776) (hm : ∀ (j i u : Nat), K[j]? = some (Kd.mv i u) → i ≤ 200000 ∧ u ≤ 200000) : ∀ m ∈ mvsL K F, okK m := by
  intro m hm'
  obtain ⟨j, ⟨a, i, u⟩, x, h1, h2, h3, h4, rfl⟩ := mvsL_mem.1 hm'
  have h3 : a = 0 := h3
  subst h3
  have h5 := hm j i u h1
  have h6 := hx x (List.mem_of_getElem? h2)
  refine ⟨?_, ?_, ?_⟩ <;> (unfold in64; simp only; omega)
set_option maxRecDepth 100000 in
set_option maxHeartbeats 8000000 in
theorem ugmoves_big (k : GBk) (E : Exp) (bn : Int) (m : Nat) (av : Value) (hd : Int × Int → Option (Nat × Nat × Nat)) (fo : Option Addr) (fl fc : Nat) (F : List Int) (w : World)
    (hG : GX k (E.N : Int) (E.H : Int) bn w (contK E E.kinds) m av hd) (hF : Lst encI w fo F) (hfl : F.length = fl) (hFK : F.length = E.kinds.length) (hK : E.kinds.length ≤ 20000) (hx : ∀ x ∈ F, 0 ≤ x ∧ x ≤ 1099511627776) (hW : SpanNet E.Z E.N) (hH : E.H ≤ 1024) :
    Calls Try.prog 38 #[grwV k (E.N : Int) (E.H : Int) bn av, .slice fo fl fc] w fun e w' => ∃ ao cap, e = .returned (.slice ao (mvsL E.kinds F).length cap) ∧ Row encK 3 w' ao (mvsL E.kinds F) ∧ Below w.heap.size w w' := by
  obtain ⟨i0, hi0⟩ := info_parts infoMove15
  have HI := Lib.hid hi0
  obtain ⟨fa, ac, rfl, _, _⟩ := own_rowQ encA_len hG.arcs
  unfold grwV
  obtain ⟨al, hal⟩ : ∃ al, (contK E E.kinds).A.length = al := ⟨_, rfl⟩
  rw [hal] at hG ⊢
  have hb00 := (Below.refl _ w).alloc (Nat.le_refl _) (.cells #[.int .i64 (E.N : Int), .int .i64 (E.H : Int), .int .i64 bn, .bool false, .slice fa al ac, .map (some k.bc), .map (some k.bw), .map (some k.be), .map (some k.bx)] 101)
  have HB := Lib.hid hb00
  have HN := Lib.hid (heap_alloc_new w (.cells #[.int .i64 (E.N : Int), .int .i64 (E.H : Int), .int .i64 bn, .bool false, .slice fa al ac, .map (some k.bc), .map (some k.bw), .map (some k.be), .map (some k.bx)] 101))
  have HG := Lib.hid (hG.below hb00)
  have HF := Lib.hid (hF.below hb00)
  have HFL := Lib.hid hfl
  have HFK := Lib.hid hFK
  have HKL := Lib.hid hK
  have HX := Lib.hid hx
  have HKD : Hid (∀ (j i u : Nat), E.kinds[j]? = some (Kd.mv i u) → okP (((E.frA i : Nat) : Int), (u : Int))) := Lib.hid (fun j i u h => kd_okP hW hH h)
  have HKI : Hid (∀ (j i u : Nat), E.kinds[j]? = some (Kd.mv i u) → i ≤ 200000 ∧ u ≤ 200000) := Lib.hid (fun j i u h => by
    rcases Exp.kinds_cases (List.mem_of_getElem? h) with ⟨i', u', e, ho⟩ | ⟨v, u', _, e, _⟩ | ⟨u', _, e⟩ | ⟨u', _, e⟩
    · have e1 : i = i' := congrArg (fun k : Kd => k.2.1) e
      have e2 : u = u' := congrArg (fun k : Kd => k.2.2) e
      have := Exp.ok2_lt ho
      have := hW.len
      omega
    · exact absurd (Prod.mk.inj e).1 (by decide)
    · exact absurd (Prod.mk.inj e).1 (by decide)
    · exact absurd (Prod.mk.inj e).1 (by decide))
  have n5 := cell_whole HN.out 5
  have hfl2 : fl ≤ 20000 := by omega
  clear hb00 hG hF hfl hFK hK hx hW hH hi0 hal
  generalize hw1 : w.alloc (.cells #[.int .i64 (E.N : Int), .int .i64 (E.H : Int), .int .i64 bn, .bool false, .slice fa al ac, .map (some k.bc), .map (some k.bw), .map (some k.be), .map (some k.bx)] 101) = w1 at *
  have HMM := Lib.hid HG.out.cm
  go_enter Try.func38, Try.ntmps38
  go_wp2_with (first
    | (at_range; (try rw [hw1]); refine wpList_range_slot rfl _ _ _ rfl Try.underlying98 HMM.out rfl ?_; intro w2 cnt0 hR0 hgR hsR)
    | go_in)
  go_frame
  have hb12 := below_grownN hgR
  have HBC : Hid (k.bc < w1.heap.size) := Lib.hid HMM.out.lt
  have HS2 : Hid (w1.heap.size + 1 ≤ w2.heap.size) := Lib.hid (by omega)
  have HR0 := Lib.hid hR0
  have HB12 := Lib.hid hb12
  obtain ⟨r1, hr1⟩ : ∃ r1, w1.heap.size + 1 = r1 := ⟨_, rfl⟩
  have HR1 := Lib.hid hr1
  rw [hr1] at HS2
  clear hR0 hgR hsR hb12 hr1 n5 HMM hw1
  go_loopw [5] (fun mv wr => ∃ (left : Int × Int → Bool) (cnt : Nat) (M : List MoveT), Hid (SlotR hdV wr k.bc w1.heap.size m hd left cnt) ∧ Hid (OwnMu wr r1 mv M) ∧ Hid (GatU E E.kinds F left M) ∧ Hid (Below w1.heap.size w1 wr) ∧ Hid (r1 ≤ wr.heap.size)) (fun _ wr => wr.rangeLeft k.bc w1.heap.size)
  case atStart => exact ⟨_, _, [], HR0, Lib.hid (World.ownsRow_nil _ _ _ _), Lib.hid (GatU.start (fun p hp => HG.out.cn p (by cases e : hd p with | none => rfl | some c => rw [e] at hp; cases hp))), HB12, HS2⟩
  case round =>
    clear HR0 HB12 HS2
    obtain ⟨left, cnt, M, HR, HO, HGA, HW, HSZ⟩ := hrel
    go_wp2_with (first
      | (at_next; refine wpList_next_slot rfl _ rfl rfl HR.out ?_ ?_)
      | go_in)
    · intro hall
      have HP : Hid (M.Perm (mvsL E.kinds F)) := Lib.hid (HGA.out.perm (kinds_sorted E) (fun j i u h => hall _ _ (HKD.out j i u h)))
      obtain ⟨mo, mc, rfl, hrow, _⟩ := own_rowQ encK_len HO.out
      have HROW := Lib.hid hrow
      have HOK : Hid (∀ x ∈ M, okK x) := Lib.hid (fun x hx => mvs_fit_big HKL.out HX.out HKI.out x (HP.out.mem_iff.1 hx))
      have HML : Hid (M.length ≤ 20000) := Lib.hid (Nat.le_trans HGA.out.len HKL.out)
      have HALL : Hid (AllIn (mvS M) ∧ ∀ R, R.Perm (mvs M) → Sorted kM R → R = mvsL E.kinds F) := Lib.hid (by
        have hz : ∀ m ∈ mvsL E.kinds F, m.2.2 ≠ 0 := fun m hm => by
          obtain ⟨_, _, x, _, _, _, h4, rfl⟩ := mvsL_mem.1 hm
          simp only; omega
        have hn : (pairsOf M).Nodup := (HP.out.map (fun m : MoveT => (m.2.1, m.1))).nodup_iff.2 (mvLt_pairs (mvsL_sorted (kinds_sorted E)))
        refine ⟨?_, fun R h1 h2 => merged_is HP.out (mvsL_sorted (kinds_sorted E)) hz h1 h2⟩
        rw [(mvs_again hn (fun m hm => hz m (HP.out.mem_iff.1 hm))).2]
        intro s hs
        obtain ⟨x, hx, rfl⟩ := List.mem_map.1 hs
        exact (HOK.out x hx).2.2)
      clear hrow hall
      go_wp2_with (go_at_call 58; refine (moves_big mo mc M _ HROW.out HOK.out HML.out).mono ?_; rintro e w5 ⟨hb5, hcs⟩; obtain ⟨ao, cap, R, rfl, hr5, hp5, hs5⟩ : ∃ ao cap R, e = .returned (.tuple #[.slice ao R.length cap, .int .i64 0]) ∧ Row encK 3 w5 ao R ∧ R.Perm (mvs M) ∧ Sorted kM R := (by rcases hcs with ⟨_, ao, cap, R, h1, h2, h3, h4⟩ | ⟨hno, _⟩; exact ⟨ao, cap, R, h1, h2, h3, h4⟩; exact absurd HALL.out.1 hno); have HE := HALL.out.2 R hp5 hs5; subst HE; have HR5 := Lib.hid hr5; have HB5 := Lib.hid hb5; clear hb5 hr5 hp5 hs5 hcs)
      go_ret
      exact ⟨ao, cap, rfl, HR5.out, (HB.out.trans (HW.out.mono HB.out.size)).trans (HB5.out.mono (by have h1 := HB.out.size; have h2 := HW.out.size; omega))⟩
    · intro p1 p2 cb cl cc w3 cnt' hlp hfp hR3 hlt3 hgr hsz hen
      obtain ⟨hcl0, hcrow⟩ := HG.out.cr _ _ hfp
      obtain ⟨cao, ccap, ecr, hcr, hcb⟩ := own_rowQ encP_lenQ (show w1.ownsRow k.B 124 2 (hdV (cb, cl, cc)) (crossF E E.kinds (p1, p2)).length ((crossF E E.kinds (p1, p2)).flatMap encPQ) from hcrow)
      have hcl : cl = (crossF E E.kinds (p1, p2)).length := hcl0
      clear hcl0
      have hcao : cao = some ⟨cb, 0, none⟩ := by unfold hdV at ecr; injection ecr with e1; exact e1.symm
      subst hcao
      have HCR := Lib.hid hcr
      have HCL := Lib.hid hcl
      have HCB : Hid (cb < w1.heap.size) := Lib.hid (hcb _ rfl).2.2
      have HST : Hid (GatU E E.kinds F (fun q => left q && !decide (q = (p1, p2))) (M ++ pmv F p2 (crossF E E.kinds (p1, p2)))) := Lib.hid (HGA.out.step HFK.out (kinds_sorted E) hlp)
      have HCLL : Hid (cl ≤ 20000) := Lib.hid (by
        have h1 : (crossF E E.kinds (p1, p2)).length ≤ E.kinds.zipIdx.length := List.length_filterMap_le _ _
        rw [List.length_zipIdx] at h1
        have := HKL.out
        omega)
      have HML : Hid (∀ n, (M ++ pmv F p2 ((crossF E E.kinds (p1, p2)).take n)).length ≤ 40000) := Lib.hid (fun n => by
        rw [List.length_append]
        have h1 := HGA.out.len
        have h2 := pmv_len F p2 ((crossF E E.kinds (p1, p2)).take n)
        have h3 := List.length_take_le n (crossF E E.kinds (p1, p2))
        have h4 := HKL.out
        have h5 := HCLL.out
        have h6 := HCL.out
        have h7 : ((crossF E E.kinds (p1, p2)).take n).length ≤ (crossF E E.kinds (p1, p2)).length := List.length_take_le' _ _
        omega)
      have HCE : Hid (∀ c ∈ crossF E E.kinds (p1, p2), ∃ ci cj : Nat, c = ((ci : Int), (cj : Int)) ∧ ci ≤ 200000 ∧ cj < F.length) := Lib.hid (fun c hc => by
        obtain ⟨i, u, j, rfl, hk, _⟩ := cross_at hc
        exact ⟨i, j, rfl, (HKI.out j i u hk).1, by rw [HFK.out]; exact (List.getElem?_eq_some_iff.1 hk).1⟩)
      have hnr : ∀ g, u5.ownBlock = some g → g ≠ w1.heap.size := fun g e e2 => by have h1 := own_block HO.out e; have h2 := HR1.out; omega
      have HO3 : Hid (OwnMu w3 r1 u5 M) := Lib.hid (own_old HO.out (fun g e => hgr.block g (own_lt HO.out e) (fun e2 => hnr g e (Option.some.inj e2))))
      have HR3 := Lib.hid hR3
      have HLT := Lib.hid hlt3
      have hb3 : Below w1.heap.size w1 w3 := HW.out.grown hgr HW.out.size (fun j hj => by have := Option.some.inj hj; omega)
      have HSZ3 : Hid (r1 ≤ w3.heap.size) := Lib.hid (by rw [hsz]; exact HSZ.out)
      have HRO := HR
      unfold hdV at hen
      have hal := (Below.refl w3.heap.size w3).alloc (Nat.le_refl _) (.cells #[.int .i64 p1, .int .i64 p2] 56)
      have HS4 := Lib.hid (heap_alloc_new w3 (.cells #[.int .i64 p1, .int .i64 p2] 56))
      have HR4 := Lib.hid (HR3.out.below hal)
      have HO4 := Lib.hid (HO3.out.below hal)
      have HW4 := Lib.hid (hb3.trans (hal.mono hb3.size))
      have HSZ4 : Hid (r1 ≤ (w3.alloc (.cells #[.int .i64 p1, .int .i64 p2] 56)).heap.size) := Lib.hid (Nat.le_trans HSZ3.out hal.size)
      clear hcr hcrow hcb hcl hgr hR3 hlt3 hsz hb3 hnr HO HR HW HSZ HGA ecr hal HO3 HR3 hlp hfp
      go_wp2_with fail
      obtain ⟨g6, hg6⟩ : ∃ g6, w3.heap.size = g6 := ⟨_, rfl⟩
      rw [hg6] at HS4 ⊢
      generalize w3.alloc (.cells #[.int .i64 p1, .int .i64 p2] 56) = w4 at *
      clear hen hg6 HSZ3
      go_loopw [5, 22] (fun mv iv wr => ∃ n : Nat, n ≤ cl ∧ iv = .int .i64 (n : Int) ∧ Hid (SlotR hdV wr k.bc w1.heap.size m hd (fun q => left q && !decide (q = (p1, p2))) cnt') ∧ Hid (OwnMu wr r1 mv (M ++ pmv F p2 ((crossF E E.kinds (p1, p2)).take n))) ∧ Hid (wr.heap[g6]? = some (.cells #[.int .i64 p1, .int .i64 p2] 56 (0, 0))) ∧ Hid (Below w1.heap.size w1 wr) ∧ Hid (r1 ≤ wr.heap.size)) (fun _ iv _ => cl - (intOf iv).toNat)
      case atStart => exact ⟨0, Nat.zero_le _, rfl, HR4, Lib.hid (by rw [List.take_zero, show pmv F p2 [] = [] from rfl, List.append_nil]; exact HO4.out), HS4, HW4, HSZ4⟩
      case round =>
        clear HR4 HO4 HS4 HW4 HSZ4
        obtain ⟨n, hn, rfl, HSR, HOQ, HS6, HBQ, HBS⟩ := hrel
        by_cases hlt : n < cl
        · have hli : (n : Int) < (cl : Int) := by omega
          have hnl : n < (crossF E E.kinds (p1, p2)).length := by rw [← HCL.out]; exact hlt
          obtain ⟨cb', cx, e, hcb, d0, d1⟩ := Row.pair (HCR.out.below' HBQ.out) hnl
          cases e
          obtain ⟨ci, cj, hce, hci, hcj⟩ := HCE.out _ (List.getElem_mem hnl)
          have HCN := Lib.hid (List.getElem?_eq_getElem hnl)
          obtain ⟨fb, fx, e, hfb, hf⟩ := lst_cell (HF.out.below HBQ.out) (List.getElem?_eq_getElem hcj)
          subst e
          have HXF := Lib.hid (List.getElem?_eq_getElem hcj)
          have HFB : Hid (fb < w1.heap.size) := Lib.hid (by obtain ⟨b', o', e, hb', _⟩ := HF.out cj hcj; cases e; exact hb')
          unfold encI at hf
          rw [hce] at d0 d1 HCN
          simp only [Nat.zero_add] at d0 d1
          generalize F[cj] = x at *
          have hcjl : (cj : Int) < (fl : Int) := by rw [← HFL.out]; omega
          have HSTEP : Hid (M ++ pmv F p2 ((crossF E E.kinds (p1, p2)).take (n + 1)) = (M ++ pmv F p2 ((crossF E E.kinds (p1, p2)).take n)) ++ if 0 < x then [((ci : Int), p2, x)] else []) := Lib.hid (by rw [pmv_snoc HCN.out (x := x) (by simpa using HXF.out), List.append_assoc])
          have HM1 := Lib.hid (HML.out n)
          generalize M ++ pmv F p2 ((crossF E E.kinds (p1, p2)).take n) = M1 at *
          obtain ⟨gc, hgc⟩ : ∃ gc, wr.heap.size = gc := ⟨_, rfl⟩
          have hal := (Below.refl wr.heap.size wr).alloc (Nat.le_refl _) (.cells #[.int .i64 (ci : Int), .int .i64 (cj : Int)] 124)
          have hc6 := heap_alloc_new wr (.cells #[.int .i64 (ci : Int), .int .i64 (cj : Int)] 124)
          rw [hgc] at hc6
          have hf6 := cell_below hal hf
          have HC6 := Lib.hid hc6
          have HF6 := Lib.hid hf6
          have e0 := cell_whole hc6 0
          have e1 := cell_whole hc6 1
          have HSR := Lib.hid (HSR.out.below hal)
          have HOQ := Lib.hid (HOQ.out.below hal)
          have HS6 := Lib.hid (kept_box HS6.out hal)
          have HBQ := Lib.hid (HBQ.out.trans (hal.mono HBQ.out.size))
          have HBS : Hid (r1 ≤ (wr.alloc (.cells #[.int .i64 (ci : Int), .int .i64 (cj : Int)] 124)).heap.size) := Lib.hid (Nat.le_trans HBS.out hal.size)
          have hcl2 := HCLL.out
          clear hal hc6 hnl hce hci hcb hfb hcj
          by_cases h0 : 0 < x
          · have hq : decide (0 < x) = true := decide_eq_true h0
            have HS1 : Hid (M ++ pmv F p2 ((crossF E E.kinds (p1, p2)).take (n + 1)) = M1 ++ [((ci : Int), p2, x)]) := Lib.hid (by rw [HSTEP.out, if_pos h0])
            clear HSTEP
            go_wp2_with fail
            try rw [hgc]
            clear hgc
            generalize wr.alloc (.cells #[.int .i64 (ci : Int), .int .i64 (cj : Int)] 124) = wd at *
            clear hf6 hf d0 d1 e0 e1
            refine wp_region_held_drew (S := fun W => HeldV gc g6 fb (fx + cj) (ci : Int) (cj : Int) p2 x W) (by kernel_rfl) (heldV (p1 := p1) HC6.out HS6.out HF6.out) (fun hHeld => ?_)
            have hdw := below_drew (Below.refl wd.heap.size wd)
            have HSL := Lib.hid (heldV (W := wd.drew) (p1 := p1) (kept_box HC6.out hdw) (kept_box HS6.out hdw) (cell_below hdw HF6.out))
            have HC6 := Lib.hid (kept_box HC6.out hdw)
            have HF6 := Lib.hid (cell_below hdw HF6.out)
            have HSR := Lib.hid (HSR.out.below hdw)
            have HOQ := Lib.hid (HOQ.out.below hdw)
            have HS6 := Lib.hid (kept_box HS6.out hdw)
            have HBQ := Lib.hid (HBQ.out.trans (hdw.mono HBQ.out.size))
            have HBS : Hid (r1 ≤ wd.drew.heap.size) := Lib.hid (Nat.le_trans HBS.out hdw.size)
            clear hdw
            generalize wd.drew = wq at *
            refine wpAnyH_take (i := 0) (oi := { dst := some 32, op := Go.Op.move (Go.Operand.tmp 5), type := 30, pos := "expand.go:158", after := #[], guard := none }) (v := u5) rfl (by kernel_rfl) (by kernel_rfl) (by kernel_rfl) (fun _ _ _ h => h) (Or.inl ⟨by rfl, ?_⟩) (by assumption) ?_
            · (intro w hSw; (try dsimp only [HeldV] at hSw); go_simp)
            try simp only [Act.put, List.setIfInBounds_toArray, List.set_cons_zero, List.set_cons_succ]
            refine wpAnyH_take (i := 1) (oi := { dst := some 33, op := Go.Op.fieldAddr 124 (Go.Operand.tmp 9) 0, type := 0, pos := "expand.go:158", after := #[], guard := none }) (v := .pointer (some ⟨gc, 0, none⟩)) rfl (by kernel_rfl) (by kernel_rfl) (by kernel_rfl) (fun _ _ _ h => h) (Or.inl ⟨by rfl, ?_⟩) (by assumption) ?_
            · (intro w hSw; (try dsimp only [HeldV] at hSw); go_simp)
            try simp only [Act.put, List.setIfInBounds_toArray, List.set_cons_zero, List.set_cons_succ]
            refine wpAnyH_take (i := 2) (oi := { dst := some 34, op := Go.Op.load 3 (Go.Operand.tmp 33), type := 3, pos := "expand.go:158", after := #[{ on := 1, ground := Go.Ground.data }], guard := none }) (v := .int .i64 (ci : Int)) rfl (by kernel_rfl) (by kernel_rfl) (by kernel_rfl) (fun _ _ _ h => h) (Or.inl ⟨by rfl, ?_⟩) (by assumption) ?_
            · (intro w hSw; (try dsimp only [HeldV] at hSw); go_simp)
            try simp only [Act.put, List.setIfInBounds_toArray, List.set_cons_zero, List.set_cons_succ]
            refine wpAnyH_take (i := 3) (oi := { dst := some 35, op := Go.Op.fieldAddr 56 (Go.Operand.tmp 6) 1, type := 0, pos := "expand.go:158", after := #[], guard := none }) (v := .pointer (some ⟨g6, 1, none⟩)) rfl (by kernel_rfl) (by kernel_rfl) (by kernel_rfl) (fun _ _ _ h => h) (Or.inl ⟨by rfl, ?_⟩) (by assumption) ?_
            · (intro w hSw; (try dsimp only [HeldV] at hSw); go_simp)
            try simp only [Act.put, List.setIfInBounds_toArray, List.set_cons_zero, List.set_cons_succ]
            refine wpAnyH_take (i := 4) (oi := { dst := some 36, op := Go.Op.load 3 (Go.Operand.tmp 35), type := 3, pos := "expand.go:158", after := #[{ on := 3, ground := Go.Ground.data }], guard := none }) (v := .int .i64 p2) rfl (by kernel_rfl) (by kernel_rfl) (by kernel_rfl) (fun _ _ _ h => h) (Or.inl ⟨by rfl, ?_⟩) (by assumption) ?_
            · (intro w hSw; (try dsimp only [HeldV] at hSw); go_simp)
            try simp only [Act.put, List.setIfInBounds_toArray, List.set_cons_zero, List.set_cons_succ]
            refine wpAnyH_take (i := 5) (oi := { dst := some 37, op := Go.Op.move (Go.Operand.tmp 1), type := 65, pos := "expand.go:158", after := #[], guard := none }) (v := .slice (some ⟨fb, fx, none⟩) fl fc) rfl (by kernel_rfl) (by kernel_rfl) (by kernel_rfl) (fun _ _ _ h => h) (Or.inl ⟨by rfl, ?_⟩) (by assumption) ?_
            · (intro w hSw; (try dsimp only [HeldV] at hSw); go_simp)
            try simp only [Act.put, List.setIfInBounds_toArray, List.set_cons_zero, List.set_cons_succ]
            refine wpAnyH_take (i := 6) (oi := { dst := some 38, op := Go.Op.fieldAddr 124 (Go.Operand.tmp 9) 1, type := 0, pos := "expand.go:158", after := #[], guard := none }) (v := .pointer (some ⟨gc, 1, none⟩)) rfl (by kernel_rfl) (by kernel_rfl) (by kernel_rfl) (fun _ _ _ h => h) (Or.inl ⟨by rfl, ?_⟩) (by assumption) ?_
            · (intro w hSw; (try dsimp only [HeldV] at hSw); go_simp)
            try simp only [Act.put, List.setIfInBounds_toArray, List.set_cons_zero, List.set_cons_succ]
            refine wpAnyH_take (i := 7) (oi := { dst := some 39, op := Go.Op.load 3 (Go.Operand.tmp 38), type := 3, pos := "expand.go:158", after := #[{ on := 6, ground := Go.Ground.data }], guard := none }) (v := .int .i64 (cj : Int)) rfl (by kernel_rfl) (by kernel_rfl) (by kernel_rfl) (fun _ _ _ h => h) (Or.inl ⟨by rfl, ?_⟩) (by assumption) ?_
            · (intro w hSw; (try dsimp only [HeldV] at hSw); go_simp)
            try simp only [Act.put, List.setIfInBounds_toArray, List.set_cons_zero, List.set_cons_succ]
            refine wpAnyH_take (i := 8) (oi := { dst := some 40, op := Go.Op.indexAddr 65 (Go.Operand.tmp 37) (Go.Operand.tmp 39), type := 0, pos := "expand.go:158", after := #[{ on := 5, ground := Go.Ground.data }, { on := 7, ground := Go.Ground.data }], guard := none }) (v := .pointer (some ⟨fb, fx + cj, none⟩)) rfl (by kernel_rfl) (by kernel_rfl) (by kernel_rfl) (fun _ _ _ h => h) (Or.inl ⟨by rfl, ?_⟩) (by assumption) ?_
            · (intro w hSw; (try dsimp only [HeldV] at hSw); go_simp)
            try simp only [Act.put, List.setIfInBounds_toArray, List.set_cons_zero, List.set_cons_succ]
            refine wpAnyH_take (i := 9) (oi := { dst := some 41, op := Go.Op.load 3 (Go.Operand.tmp 40), type := 3, pos := "expand.go:158", after := #[{ on := 8, ground := Go.Ground.data }], guard := none }) (v := .int .i64 x) rfl (by kernel_rfl) (by kernel_rfl) (by kernel_rfl) (fun _ _ _ h => h) (Or.inl ⟨by rfl, ?_⟩) (by assumption) ?_
            · (intro w hSw; (try dsimp only [HeldV] at hSw); go_simp)
            try simp only [Act.put, List.setIfInBounds_toArray, List.set_cons_zero, List.set_cons_succ]
            refine wpAnyH_take (i := 10) (oi := { dst := some 42, op := Go.Op.build 78 #[(0, Go.Operand.tmp 34), (1, Go.Operand.tmp 36), (2, Go.Operand.tmp 41)], type := 78, pos := "expand.go:158", after := #[{ on := 2, ground := Go.Ground.data }, { on := 4, ground := Go.Ground.data }, { on := 9, ground := Go.Ground.data }], guard := none }) (v := .agg #[.int .i64 (ci : Int), .int .i64 p2, .int .i64 x]) rfl (by kernel_rfl) (by kernel_rfl) (by kernel_rfl) (fun _ _ _ h => h) (Or.inl ⟨by rfl, ?_⟩) (by assumption) ?_
            · (intro w hSw; (try dsimp only [HeldV] at hSw); go_simp)
            try simp only [Act.put, List.setIfInBounds_toArray, List.set_cons_zero, List.set_cons_succ]
            refine wpAnyH_ready (rs := [11]) (by kernel_rfl) (by simp) (AllReadyH.cons (o := { dst := some 43, op := Go.Op.buildSlice 30 1 #[(0, Go.Operand.tmp 42)], type := 30, pos := "expand.go:158", after := #[{ on := 10, ground := Go.Ground.data }], guard := none }) rfl (fun KK hK => ?_) AllReadyH.nil)
            obtain ⟨nb2, hnb2⟩ : ∃ nb2, wq.heap.size = nb2 := ⟨_, rfl⟩
            go_simp
            have HQ2 := Lib.hid ((Below.refl wq.heap.size wq).alloc (Nat.le_refl _) (.cells #[.int .i64 (ci : Int), .int .i64 p2, .int .i64 x] 78))
            have HC6 := Lib.hid (kept_box HC6.out HQ2.out)
            have HF6 := Lib.hid (cell_below HQ2.out HF6.out)
            have HS6 := Lib.hid (kept_box HS6.out HQ2.out)
            have HSL := Lib.hid (heldV (p1 := p1) HC6.out HS6.out HF6.out)
            have HSR := Lib.hid (HSR.out.below HQ2.out)
            have HOQ := Lib.hid (HOQ.out.below HQ2.out)
            have HBQ := Lib.hid (HBQ.out.trans (HQ2.out.mono HBQ.out.size))
            have HBS : Hid (r1 ≤ (wq.alloc (.cells #[.int .i64 (ci : Int), .int .i64 p2, .int .i64 x] 78)).heap.size) := Lib.hid (Nat.le_trans HBS.out HQ2.out.size)
            have HNW : Hid ((wq.alloc (.cells #[.int .i64 (ci : Int), .int .i64 p2, .int .i64 x] 78)).heap[nb2]? = some (.cells #[.int .i64 (ci : Int), .int .i64 p2, .int .i64 x] 78 (0, 0))) := Lib.hid (by rw [← hnb2]; exact heap_alloc_new _ _)
            clear hHeld
            refine hK.out _ _ HSL.out (fun hHeld => ?_)
            clear hK
            generalize wq.alloc (.cells #[.int .i64 (ci : Int), .int .i64 p2, .int .i64 x] 78) = wn at *
            clear hnb2
            try simp only [Act.put, List.setIfInBounds_toArray, List.set_cons_zero, List.set_cons_succ]
            refine wpAnyH_ready (rs := [12]) (by kernel_rfl) (by simp) (AllReadyH.cons (o := { dst := some 44, op := Go.Op.call { callee := Go.Callee.builtin Go.Builtin.append, args := #[Go.Operand.tmp 32, Go.Operand.tmp 43], argTypes := #[30, 30] }, type := 30, pos := "expand.go:158", after := #[{ on := 0, ground := Go.Ground.data }, { on := 11, ground := Go.Ground.data }], guard := none }) rfl (fun KK hK => ?_) AllReadyH.nil)
            refine step_append_lies _ (by rfl) _ _ _ (by rfl) r1 78 i0 _ 3 24 Try.underlying30 HI.out.1 HI.out.2.1 HI.out.2.2.1 HI.out.2.2.2 rfl (by omega) u5 M1.length (M1.flatMap encK) (by rfl) HOQ.out ⟨nb2, 0, none⟩ 1 1 (encK ((ci : Int), p2, x)) (by rfl) (by rfl) (World.news_of_block (cs := #[.int .i64 (ci : Int), .int .i64 p2, .int .i64 x]) (t := 78) (fr := (0, 0)) HNW.out) (encK_one _) (by omega) (by have := HM1.out; unfold maxLen; omega) (by have := HM1.out; omega) HBS.out _ rfl ?_
            intro g8 cap8 w8 ho8 hg8 hl8 hlt8
            have HO8 : Hid (OwnMu w8 r1 (.slice (some ⟨g8, 0, none⟩) (M1.length + 1) cap8) (M1 ++ [((ci : Int), p2, x)])) := Lib.hid (ownMu_snoc ho8)
            have HOB : Hid (∀ g, u5.ownBlock = some g → r1 ≤ g) := Lib.hid (fun g e => own_block HOQ.out e)
            have HSR := Lib.hid (HSR.out.kept hg8 (fun e => by have := HOB.out _ e.symm; have := HBC.out; have := HR1.out; omega) (fun e => by have := HOB.out _ e.symm; have := HR1.out; omega))
            have HC6 := Lib.hid ((hg8.block _ (lt_whole HC6.out) (fun e => own_ne HOQ.out HC6.out (by decide) e.symm)).trans HC6.out)
            have HF6 := Lib.hid (cell_heap (hg8.block fb (by have := HFB.out; have := HBS.out; have := HR1.out; omega) (fun e => by have := HOB.out _ e.symm; have := HFB.out; have := HR1.out; omega)) HF6.out)
            have HS6 := Lib.hid ((hg8.block _ (lt_whole HS6.out) (fun e => own_ne HOQ.out HS6.out (by decide) e.symm)).trans HS6.out)
            have HBQ := Lib.hid (HBQ.out.grown hg8 HBQ.out.size (fun k hk => by have := HOB.out k hk; have := HR1.out; omega))
            have HBS : Hid (r1 ≤ w8.heap.size) := Lib.hid (Nat.le_trans HBS.out hg8.size)
            have HSL := Lib.hid (heldV (p1 := p1) HC6.out HS6.out HF6.out)
            clear hHeld ho8 hg8 hl8 hlt8
            refine hK.out _ _ HSL.out (fun hHeld => ?_)
            clear hK
            try simp only [Act.put, List.setIfInBounds_toArray, List.set_cons_zero, List.set_cons_succ]
            refine wpAnyH_take (i := 13) (oi := { dst := some 5, op := Go.Op.assign (Go.Operand.tmp 44), type := 30, pos := "expand.go:158", after := #[{ on := 12, ground := Go.Ground.data }, { on := 12, ground := Go.Ground.chain }, { on := 0, ground := Go.Ground.phase }, { on := 1, ground := Go.Ground.phase }, { on := 2, ground := Go.Ground.phase }, { on := 3, ground := Go.Ground.phase }, { on := 4, ground := Go.Ground.phase }, { on := 5, ground := Go.Ground.phase }, { on := 6, ground := Go.Ground.phase }, { on := 7, ground := Go.Ground.phase }, { on := 8, ground := Go.Ground.phase }, { on := 9, ground := Go.Ground.phase }, { on := 10, ground := Go.Ground.phase }, { on := 11, ground := Go.Ground.phase }, { on := 12, ground := Go.Ground.phase }], guard := none }) (v := .slice (some ⟨g8, 0, none⟩) (M1.length + 1) cap8) rfl (by kernel_rfl) (by kernel_rfl) (by kernel_rfl) (fun _ _ _ h => h) (Or.inl ⟨by rfl, ?_⟩) (by assumption) ?_
            · (intro w hSw; (try dsimp only at hSw); go_simp)
            try simp only [Act.put, List.setIfInBounds_toArray, List.set_cons_zero, List.set_cons_succ]
            refine wpAnyH_done (by kernel_rfl) ?_ _
            clear hHeld
            go_wp2
            go_roundw
            case rel => exact ⟨n + 1, by omega, by go_num, HSR, Lib.hid (by rw [HS1.out]; exact HO8.out), HS6, HBQ, HBS⟩
            case measure => simp [intOf]; omega
          · have hq : decide (0 < x) = false := decide_eq_false h0
            have HS1 : Hid (M ++ pmv F p2 ((crossF E E.kinds (p1, p2)).take (n + 1)) = M1) := Lib.hid (by rw [HSTEP.out, if_neg h0, List.append_nil])
            clear HSTEP
            go_wp2_with fail
            go_roundw
            case rel => exact ⟨n + 1, by omega, by go_num, HSR, Lib.hid (by rw [HS1.out]; exact HOQ.out), HS6, HBQ, HBS⟩
            case measure => simp [intOf]; omega
        · have hli : ¬ (n : Int) < (cl : Int) := by omega
          obtain rfl : n = cl := by omega
          have HE : Hid ((crossF E E.kinds (p1, p2)).take n = crossF E E.kinds (p1, p2)) := Lib.hid (by rw [HCL.out]; exact List.take_length)
          go_wp2_with fail
          go_roundw
          case rel => exact ⟨_, cnt', _, HSR, Lib.hid (by rw [HE.out] at HOQ; exact HOQ.out), HST, HBQ, HBS⟩
          case measure => rw [HSR.out.left_eq, HRO.out.left_eq]; exact HLT.out
section
variable (b : Bool) (ao fo : Option Addr) (nl cap fl fc : Nat) (Z : List ArcT) (N i j K : Nat) (F : List Int)
set_option maxRecDepth 100000 in
set_option maxHeartbeats 8000000 in
theorem umoves_big (w : World) (h : Row encA 4 w ao Z) (hl : Z.length = nl) (hF : Lst encI w fo F) (hfl : F.length = fl) (hx : xpE (N : Int) Z (i : Int) (j : Int) (K : Int) = 0) (hi : i < N) (hj : j < N) (hij : i ≠ j) (hW : SpanNet Z N) (hK : K ≤ 1024) (hm1 : (K + 1) * N ≤ 4000) (hm2 : (K + 1) * Z.length ≤ 10000) (hsm : (⟨Z, N, i, j, K, b⟩ : Exp).kinds.length ≤ 20000) :
    Calls Try.prog 24 #[.agg #[.int .i64 (N : Int), .bool b, .slice ao nl cap], .int .i64 (i : Int), .int .i64 (j : Int), .int .i64 (K : Int), .slice fo fl fc] w (MovRes (N : Int) b Z (i : Int) (j : Int) (K : Int) F w) := by
  have hb00 := (Below.refl _ w).alloc (Nat.le_refl _) (.cells #[.int .i64 (N : Int), .bool b, .slice ao nl cap] 24)
  have HB := Lib.hid hb00
  have HN := Lib.hid (heap_alloc_new w (.cells #[.int .i64 (N : Int), .bool b, .slice ao nl cap] 24))
  have x0 := cell_whole HN.out 0
  have x1 := cell_whole HN.out 1
  have x2 := cell_whole HN.out 2
  have HF := Lib.hid (hF.below hb00)
  have HFL := Lib.hid hfl
  have HWW := Lib.hid hW
  have HKK := Lib.hid hK
  have HSM := Lib.hid hsm
  have HCALL := Lib.hid (ugrow_yes b ao nl cap Z N i j K _ (h.below' hb00) hl hx hi hj hij hW hK hm1 hm2)
  have HV : Hid (movV (N : Int) Z (i : Int) (j : Int) (K : Int) b F = (if isfB (⟨Z, N, i, j, K, b⟩ : Exp).net F = true then mvsL (⟨Z, N, i, j, K, b⟩ : Exp).kinds F else []) ∧ movE (N : Int) Z (i : Int) (j : Int) (K : Int) b F = if isfB (⟨Z, N, i, j, K, b⟩ : Exp).net F = true then 0 else 71) := Lib.hid (by
    have e0 : bldA (N : Int) Z (i : Int) (j : Int) (K : Int) b = (⟨Z, N, i, j, K, b⟩ : Exp).net := by unfold bldA; rw [if_pos hx]; rfl
    unfold movV movE
    rw [e0, if_pos hx]
    refine ⟨?_, rfl⟩
    by_cases e : isfB (⟨Z, N, i, j, K, b⟩ : Exp).net F = true
    · rw [if_pos ⟨hx, e⟩, if_pos e, expOf_nat]
    · rw [if_neg (fun q => e q.2), if_neg e])
  obtain ⟨q, hq⟩ : ∃ q, isfB (⟨Z, N, i, j, K, b⟩ : Exp).net F = q := ⟨_, rfl⟩
  have HQ := Lib.hid hq
  rw [hq] at HV
  have HAL0 : Hid ((contK ⟨Z, N, i, j, K, b⟩ (⟨Z, N, i, j, K, b⟩ : Exp).kinds).A.length ≤ 4398046511104) := Lib.hid (by rw [contK_len]; omega)
  clear h hb00 hl hx hi hj hij hW hK hm1 hm2 hF hfl hsm hq
  cases q
  all_goals
    go_enter Try.func24, Try.ntmps24
    go_wp2_with (first
      | (go_at_call 36; refine HCALL.out.mono ?_; rintro e w2 ⟨k, m, av, hd, rfl, hkB, hgx, hb2⟩; obtain ⟨fa, ac, rfl, hrow, _⟩ := own_rowQ encA_len hgx.arcs; unfold grwV; (generalize hal : (contK ⟨Z, N, i, j, K, b⟩ (⟨Z, N, i, j, K, b⟩ : Exp).kinds).A.length = al at *); have HGX := Lib.hid hgx; have HROW := Lib.hid hrow; have HAL := Lib.hid hal; have HF := Lib.hid (HF.out.below hb2); have HB := Lib.hid (HB.out.trans (hb2.mono HB.out.size)); clear hkB hgx hb2 hrow hal x0 x1 x2)
      | (go_at_call 37; have hal0 := (Below.refl _ w2).alloc (Nat.le_refl _) (.cells #[.int .i64 (N : Int), .int .i64 (K : Int), .int .i64 (((K : Int) + 1) * (N : Int) + 2), .bool false, .slice fa al ac, .map (some k.bc), .map (some k.bw), .map (some k.be), .map (some k.bx)] 101); have hnb := heap_alloc_new w2 (.cells #[.int .i64 (N : Int), .int .i64 (K : Int), .int .i64 (((K : Int) + 1) * (N : Int) + 2), .bool false, .slice fa al ac, .map (some k.bc), .map (some k.bw), .map (some k.be), .map (some k.bx)] 101); refine (uisflow_any k (N : Int) (K : Int) (((K : Int) + 1) * (N : Int) + 2) fa fo al ac fl fc (contK ⟨Z, N, i, j, K, b⟩ (⟨Z, N, i, j, K, b⟩ : Exp).kinds).A F _ (HROW.out.below' hal0) HAL.out (HF.out.below hal0) HFL.out HAL0.out).mono ?_; rintro e w4 ⟨rfl, hb4⟩; (rw [show isfB (contK ⟨Z, N, i, j, K, b⟩ (⟨Z, N, i, j, K, b⟩ : Exp).kinds).A F = _ from HQ.out]); have hb := hal0.trans (hb4.mono hal0.size); have hn := kept_box hnb hb4; have g0 := cell_whole hn 0; have g1 := cell_whole hn 1; have g2 := cell_whole hn 2; have g3 := cell_whole hn 3; have g4 := cell_whole hn 4; have g5 := cell_whole hn 5; have g6 := cell_whole hn 6; have g7 := cell_whole hn 7; have g8 := cell_whole hn 8; have HGX := Lib.hid (HGX.out.below hb); have HF := Lib.hid (HF.out.below hb); have HB := Lib.hid (HB.out.trans (hb.mono HB.out.size)); clear hal0 hnb hb4 hb hn)
      | (go_at_call 38; refine (ugmoves_big k ⟨Z, N, i, j, K, b⟩ (((K : Int) + 1) * (N : Int) + 2) m (.slice fa al ac) hd fo fl fc F _ HGX.out HF.out HFL.out (isf_bd HWW.out HQ.out).1 HSM.out (isf_bd HWW.out HQ.out).2 HWW.out HKK.out).mono ?_; rintro e w5 ⟨ma, mc, rfl, hr5, hb5⟩; have HR5 := Lib.hid hr5; have HB := Lib.hid (HB.out.trans (hb5.mono HB.out.size)); clear hr5 hb5))
    go_ret2
    first
      | exact ⟨none, 0, by rw [HV.out.1, HV.out.2]; rfl, by rw [HV.out.1]; exact Row.nil _ _, HB.out⟩
      | exact ⟨ma, mc, by rw [HV.out.1, HV.out.2]; rfl, by rw [HV.out.1]; exact HR5.out, HB.out⟩
end
end Go.Proofs.Ytlkbohpnlbfopaa
