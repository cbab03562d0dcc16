/- What the document's Merge does: one arc for each key, put where it belongs. -/
import Derived.Test.YtieomjkiabfhcaaTRmg
import Derived.Deep.RegionHeld3
namespace Go.Proofs.Ytieomjkiabfhcaa
open Go.RowKit
set_option linter.unusedVariables false

theorem below_drewN {n : Nat} {a b : World} (h : Below n a b) (q : Nat) : Below n a (b.drewN q) := ⟨h.os, h.tape, h.output, h.size, h.block⟩
set_option maxRecDepth 100000 in
set_option maxHeartbeats 8000000 in
theorem rmerge_some (ad : Addr) (cap : Nat) (Z : List ArcT) (w : World) (h : Row encA 4 w (some ad) Z) (hok : OkA Z) (hn : Z.length ≤ 200) :
    Calls Try.prog 20 #[.slice (some ad) Z.length cap] w (MergeRes Z w) := by
  have HR := Lib.hid h
  have HK := Lib.hid hok
  clear h hok
  have K1 := Lib.hid (fun W (hW : Row encA 4 W (some ad) Z) => rgroups_any (some ad) cap Z W hW hn)
  have HGA := Lib.hid (fun i hi => group_at (Z := Z) (i := i) hi)
  have hgl : (grps (keysOf Z)).length ≤ 200 := by rw [grps_len]; have := firsts_len (keysOf Z); simp [keysOf] at this; unfold keysOf; omega
  have HGL : Hid (∀ g ∈ grps (keysOf Z), g.length ≤ 200) := Lib.hid (fun g hg => by have := group_len hg; simp [keysOf] at this; omega)
  have HML := Lib.hid (mrg_len Z)
  have HYES := Lib.hid (mrgS_of (Z := Z))
  have HNOT := Lib.hid (fun i hi => mrgS_not (Z := Z) (i := i) hi)
  generalize hG : grps (keysOf Z) = G at *
  clear hG
  go_enter Try.func20, Try.ntmps20
  go_wp2_with (go_at_call 17; refine (K1.out _ HR.out).mono ?_; rintro e w1 ⟨ga, gc, rfl, hg1, hb1⟩; have HG1 := Lib.hid hg1; have HB1 := Lib.hid hb1; clear hg1 hb1 K1)
  have HR1 := Lib.hid (HR.out.below' HB1.out)
  go_loopw [4, 6] (fun ov si wr => ∃ (i : Nat) (M : List ArcT) (v : Value), v = ov ∧ i ≤ G.length ∧ M.length ≤ i ∧ Hid (Below w1.heap.size w1 wr) ∧ Hid (wr.ownsRow w1.heap.size 52 4 v M.length (M.flatMap encA)) ∧ Hid (M.Perm ((mrg Z).take i)) ∧ Hid (Sorted kOf M) ∧ Hid (∀ j (hj : j < G.length), j < i → in64 ((G[j].map (capAt Z)).sum)) ∧ si = .int .i64 (i : Int)) (fun _ si _ => G.length - (intOf si).toNat)
  case atStart => exact ⟨0, [], _, rfl, by omega, by simp, Lib.hid (Below.refl _ _), Lib.hid (World.ownsRow_nil _ _ _ _), Lib.hid (List.Perm.refl _), Lib.hid List.Pairwise.nil, Lib.hid (fun j _ hj => by omega), rfl⟩
  case round =>
    obtain ⟨i, M, v, rfl, hi, hMi, HB, HO, HP, HSO, HIN, rfl⟩ := hrel
    obtain ⟨wo, hwo⟩ : ∃ wo, wo = wr := ⟨_, rfl⟩
    subst hwo
    by_cases hlt : i < G.length
    · have hli : (i : Int) < (G.length : Int) := by omega
      obtain ⟨kf, hkf, hgi, hkm⟩ := HGA.out i hlt
      have hgl2 := HGL.out _ (List.getElem_mem hlt)
      have HGin : Hid (∀ p ∈ G[i], p < Z.length) := Lib.hid (fun p hp => by rw [hgi] at hp; exact (place_key hp).1)
      have hg0 : 0 < G[i].length := by rw [hgi]; exact places_ne hkm
      have HINI := Lib.hid (fun (h : in64 ((G[i].map (capAt Z)).sum)) => (show ∀ j (hj : j < G.length), j < i + 1 → in64 ((G[j].map (capAt Z)).sum) from fun j hj hji => by
        rcases Nat.eq_or_lt_of_le (Nat.le_of_lt_succ hji) with e | e
        · subst e; exact h
        · exact HIN.out j hj e))
      have HNI := Lib.hid (HNOT.out i hlt)
      obtain ⟨p0, hp0⟩ : ∃ p, G[i][0] = p := ⟨_, rfl⟩
      have hp0m : p0 ∈ places (keysOf Z) kf := by rw [← hgi, ← hp0]; exact List.getElem_mem _
      obtain ⟨hpl, hkey⟩ := place_key hp0m
      have HCS : Hid (((G[i].map (capAt Z)).sum) = capSum Z kf) := Lib.hid (by rw [hgi]; rfl)
      have HMT := Lib.hid (mrg_take hkf)
      have HGo := HG1.out.below' HB.out
      obtain ⟨gb, go, gao, gcap, e, hgb, pc, rr⟩ := HGo i hlt
      subst e
      have HRR := Lib.hid rr
      obtain ⟨eb, eo, e, heb, pe⟩ := rr.num (i := 0) (by rw [natI_len]; exact hg0)
      subst e
      have hpe : (natI G[i])[0]'(by rw [natI_len]; exact hg0) = (p0 : Int) := by simp [natI, hp0]
      rw [hpe, Nat.add_zero] at pe
      obtain ⟨ab, ax, e, hab, d0, d1, d2, d3⟩ := (HR1.out.below' HB.out).arc hpl
      cases e
      obtain ⟨z, hz⟩ : ∃ z, Z[p0] = z := ⟨_, rfl⟩
      rw [hz] at d0 d1 d2 d3 hkey
      obtain ⟨x, y, c, t⟩ := z
      simp only [kOf] at d0 d1 d2 d3 hkey
      have HKEY := Lib.hid hkey
      clear hz hkey hpe hp0m HGo rr hkf hkm hgi hp0
      generalize hGI : G[i] = g at *
      clear hGI
      have hplI : (p0 : Int) < (Z.length : Int) := by omega
      have hg0I : (0 : Int) < (g.length : Int) := by omega
      go_wp2
      have HBA : Hid (Below wo.heap.size wo (wo.alloc (.cells #[.int .i64 x, .int .i64 y, .int .i64 c, .int .i64 t] 52))) := Lib.hid ((Below.refl _ wo).alloc (Nat.le_refl _) _)
      have HNW : Hid ((wo.alloc (.cells #[.int .i64 x, .int .i64 y, .int .i64 c, .int .i64 t] 52)).heap[wo.heap.size]? = some (.cells #[.int .i64 x, .int .i64 y, .int .i64 c, .int .i64 t] 52 (0, 0))) := Lib.hid (heap_alloc_new wo _)
      have hszA : wo.heap.size < (wo.alloc (.cells #[.int .i64 x, .int .i64 y, .int .i64 c, .int .i64 t] 52)).heap.size := by simp
      generalize wo.alloc (.cells #[.int .i64 x, .int .i64 y, .int .i64 c, .int .i64 t] 52) = wa at *
      have HRo := Lib.hid (HR1.out.below' HB.out)
      clear d0 d1 d2 d3 pe
      go_loopw [8, 9] (fun cv sk wi => ∃ (k : Nat) (u : Value), u = cv ∧ k ≤ g.length ∧ Hid (Below wa.heap.size wa wi) ∧ Hid (wi.ownsRow wa.heap.size 3 1 u (capsTo Z g k).length ((capsTo Z g k).flatMap encI)) ∧ sk = .int .i64 (k : Int)) (fun _ sk _ => g.length - (intOf sk).toNat)
      case atStart => exact ⟨0, _, rfl, by omega, Lib.hid (Below.refl _ _), Lib.hid (World.ownsRow_nil _ _ _ _), rfl⟩
      case round =>
        obtain ⟨k, u, rfl, hk, HBi, HOi, rfl⟩ := hrel
        have HBW := Lib.hid (HBA.out.trans (HBi.out.mono HBA.out.size))
        have pcI : wr.cell? ⟨gb, go + i, none⟩ = some (.slice (some ⟨eb, eo, none⟩) g.length gcap) := cell_below HBW.out pc
        by_cases hlk : k < g.length
        · have hlkI : (k : Int) < (g.length : Int) := by omega
          obtain ⟨eb2, eo2, e, _, pe⟩ := (HRR.out.below' HBW.out).num (i := k) (by rw [natI_len]; exact hlk)
          cases e
          obtain ⟨p, hp⟩ : ∃ p, g[k] = p := ⟨_, rfl⟩
          have hpe : (natI g)[k]'(by rw [natI_len]; exact hlk) = (p : Int) := by simp [natI, hp]
          rw [hpe] at pe
          have hpl2 : p < Z.length := HGin.out p (by rw [← hp]; exact List.getElem_mem _)
          have hpl2I : (p : Int) < (Z.length : Int) := by omega
          obtain ⟨ab2, ax2, e, _, d0, d1, d2, d3⟩ := (HRo.out.below' HBW.out).arc hpl2
          cases e
          have hst := capsTo_step (Z := Z) hlk
          rw [hp, capAt_eq hpl2] at hst
          have hroom : (capsTo Z g k).length ≤ 200000 := by have := capsTo_len Z g k; omega
          generalize Z[p].2.2.1 = cc at *
          generalize capsTo Z g k = A at *
          have HST := Lib.hid hst
          clear hst hpe hp d0 d1 d3
          have HO6 := Lib.hid (HOi.out.alloc (.cells #[.int .i64 cc] 3))
          have HB6 := Lib.hid (HBi.out.alloc HBi.out.size (.cells #[.int .i64 cc] 3))
          go_wp2_with (at_builtin; refine wpList_append_row (enc := encI) Try.underlying31 infoInt rfl (by omega) (by omega) encI_len rfl _ _ rfl wa.heap.size _ A cc (encI_one _) rfl HO6.out _ 1 rfl (fun i hi => cell_newL rfl (encI cc) 3 i) hroom HB6.out.size ?_; intro g7 cap7 w7 ho7 hg7 hl7 hb7 hlt7; have HO7 := Lib.hid ho7; have HB7 := Lib.hid (HB6.out.grown hg7 HB6.out.size (fun k hk => (HO6.out.lt k hk).1)); clear ho7 hg7 hl7)
          go_roundw
          case rel => exact ⟨k + 1, _, rfl, by omega, HB7, Lib.hid (by rw [HST.out]; exact HO7.out), by go_num⟩
          case measure => simp [intOf]; omega
        · obtain rfl : k = g.length := by omega
          have hO := HOi.out
          rw [capsTo_all] at hO
          have hsumE := HCS.out
          have HAI := Lib.hid (caps_in HK.out HGin.out g.length)
          rw [capsTo_all] at HAI
          have hal : (g.map (capAt Z)).length ≤ 200 := by rw [List.length_map]; exact hgl2
          generalize g.map (capAt Z) = A at *
          obtain ⟨aa, ac, hau, har, haf⟩ := own_row encI_len hO
          subst hau
          have HAR := Lib.hid (ri_of_row har)
          clear har haf hO HOi HCS
          obtain ⟨s, hs⟩ : ∃ s, A.sum = s := ⟨_, rfl⟩
          rw [hs] at hsumE HINI HNI
          have HSE := Lib.hid hsumE
          have HSA := Lib.hid hs
          clear hs hsumE
          have HBf := Lib.hid (HB.out.trans (HBW.out.mono HB.out.size))
          have HBw := Lib.hid (HB1.out.trans (HBf.out.mono HB1.out.size))
          have hli2 : ¬ (g.length : Int) < (g.length : Int) := by omega
          by_cases hfit : in64 s
          · have HFT : Hid (fitR A.sum = .tuple #[.int .i64 s, .bool true]) := Lib.hid (by rw [HSA.out]; exact fitR_yes hfit)
            have HIN2 := Lib.hid (HINI.out hfit)
            clear hfit HINI HNI HIN
            have hN : wr.heap[wo.heap.size]? = some (.cells #[.int .i64 x, .int .i64 y, .int .i64 c, .int .i64 t] 52 (0, 0)) := (HBi.out.block wo.heap.size hszA).trans HNW.out
            have n0 : wr.cell? ⟨wo.heap.size, 2, none⟩ = some (.int .i64 c) := cell_whole hN 2
            have nf : wr.frozen? ⟨wo.heap.size, 2, none⟩ = false := frozen_whole hN 2
            have hN2 := set_whole hN 2 (.int .i64 s)
            have m0 : (wr.setCell ⟨wo.heap.size, 2, none⟩ (.int .i64 s)).cell? ⟨wo.heap.size, 0, none⟩ = some (.int .i64 x) := cell_whole hN2 0
            have m1 : (wr.setCell ⟨wo.heap.size, 2, none⟩ (.int .i64 s)).cell? ⟨wo.heap.size, 1, none⟩ = some (.int .i64 y) := cell_whole hN2 1
            have m2 : (wr.setCell ⟨wo.heap.size, 2, none⟩ (.int .i64 s)).cell? ⟨wo.heap.size, 2, none⟩ = some (.int .i64 s) := cell_whole hN2 2
            have m3 : (wr.setCell ⟨wo.heap.size, 2, none⟩ (.int .i64 s)).cell? ⟨wo.heap.size, 3, none⟩ = some (.int .i64 t) := cell_whole hN2 3
            have hvne : v.ownBlock ≠ some wo.heap.size := fun e => by have := (HO.out.lt _ e).2; omega
            have HOs := Lib.hid ((own_below HO.out HBW.out).kept (row := some wo.heap.size) (w' := wr.setCell ⟨wo.heap.size, 2, none⟩ (.int .i64 s)) ⟨rfl, rfl, rfl, by simp [World.setCell], fun k _ hk => Below.heap_setCell _ _ _ _ (fun e => hk (by simp [e]))⟩ (Or.inr hvne))
            have HBs := Lib.hid (HBf.out.setCell (p := ⟨wo.heap.size, 2, none⟩) HB.out.size (.int .i64 s))
            have HO6 := Lib.hid (HOs.out.alloc (.cells #[.int .i64 x, .int .i64 y, .int .i64 s, .int .i64 t] 52))
            have HB6 := Lib.hid (HBs.out.alloc HBs.out.size (.cells #[.int .i64 x, .int .i64 y, .int .i64 s, .int .i64 t] 52))
            have HMK : Hid (mkArc Z kf = (x, y, s, t)) := Lib.hid (by unfold mkArc; rw [← HSE.out, ← HKEY.out])
            clear hN hN2 hvne HOs HBs
            go_wp2_with (first
              | (go_at_call 33; refine (sumRef_any aa _ ac A _ rfl HAR.out HAI.out (by omega)).mono ?_; rintro e w3 ⟨rfl, rfl⟩; rw [HFT.out])
              | (at_builtin; refine wpList_append_row (enc := encA) Try.underlying22 infoArc rfl (by omega) (by omega) encA_len rfl _ _ rfl w1.heap.size _ M (x, y, s, t) (encA_one _) rfl HO6.out _ 1 rfl (fun i hi => cell_newL (by simp) (encA (x, y, s, t)) 52 i) (by omega) HB6.out.size ?_; intro g7 cap7 w7 ho7 hg7 hl7 hb7 hlt7; have HO7 := Lib.hid ho7; have HB7 := Lib.hid (HB6.out.grown hg7 HB6.out.size (fun k hk => (HO6.out.lt k hk).1)); clear ho7 hg7 hl7))
            have HI0 : Hid (w7.ownsRow w1.heap.size 52 4 (.slice (some ⟨g7, 0, none⟩) (M.length + 1) cap7) (insAt M (x, y, s, t) M.length).length ((insAt M (x, y, s, t) M.length).flatMap encA)) := Lib.hid (by rw [insAt_end]; exact HO7.out)
            have HFIN : Hid (∀ M' : List ArcT, M'.Perm ((x, y, s, t) :: M) → M'.Perm ((mrg Z).take (i + 1))) := Lib.hid (fun M' hM' => by
              rw [HMT.out, HMK.out]
              exact hM'.trans ((HP.out.cons _).trans (List.perm_append_singleton _ _).symm))
            clear HO7 HO6 HB6 HO HB HBW HBf HBw HBi HAR HAI HFT HSA HSE HMK HMT HP m0 m1 m2 m3 n0 nf pc pcI HBA HNW HRR HRo HR1 HR
            go_loopw [12] (fun sk wi => ∃ (j : Nat), j ≤ M.length ∧ Hid (Below w1.heap.size w1 wi) ∧ Hid (wi.ownsRow w1.heap.size 52 4 (.slice (some ⟨g7, 0, none⟩) (M.length + 1) cap7) (insAt M (x, y, s, t) j).length ((insAt M (x, y, s, t) j).flatMap encA)) ∧ Hid (∀ q (hq : q < M.length), j ≤ q → ltK (kOf (x, y, s, t)) (kOf M[q]) = true) ∧ sk = .int .i64 (j : Int)) (fun sk _ => (intOf sk).toNat)
            case atStart => exact ⟨M.length, by omega, HB7, HI0, Lib.hid (fun q hq h => by omega), rfl⟩
            case round =>
              clear HI0 HB7
              obtain ⟨j, hj, HBk, HOk, HLk, rfl⟩ := hrel
              have hend : ∀ W : World, Below w1.heap.size w1 W → W.ownsRow w1.heap.size 52 4 (.slice (some ⟨g7, 0, none⟩) (M.length + 1) cap7) (insAt M (x, y, s, t) j).length ((insAt M (x, y, s, t) j).flatMap encA) → (∀ (hq : j - 1 < M.length), 0 < j → ltK (kOf (x, y, s, t)) (kOf M[j - 1]) = false) → ∃ (M' : List ArcT), M'.length ≤ i + 1 ∧ Hid (Below w1.heap.size w1 W) ∧ Hid (W.ownsRow w1.heap.size 52 4 (.slice (some ⟨g7, 0, none⟩) (M.length + 1) cap7) M'.length (M'.flatMap encA)) ∧ Hid (M'.Perm ((mrg Z).take (i + 1))) ∧ Hid (Sorted kOf M') := by
                intro W h1 h2 h3
                exact ⟨insAt M (x, y, s, t) j, by rw [insAt_len]; omega, Lib.hid h1, Lib.hid h2, Lib.hid (HFIN.out _ (insAt_perm M (x, y, s, t) j)), Lib.hid (insAt_sorted HSO.out hj HLk.out h3)⟩
              have HEND := Lib.hid hend
              clear hend
              cases j with
              | zero =>
                have hg : decide ((0 : Int) < 0) = false := by decide
                go_wp2_with fail
                go_quiet (fail)
                obtain ⟨M', hl', HE1, HE2, HE3, HE4⟩ := HEND.out (wr.drewN nq) (below_drewN HBk.out nq) HOk.out (fun _ h0 => absurd h0 (by omega))
                clear HEND HBk HOk
                go_wp2
                go_roundw
                case rel => exact ⟨i + 1, M', _, rfl, by omega, hl', HE1, HE2, HE3, HE4, HIN2, by go_num⟩
                case measure => simp [intOf]; omega
              | succ j =>
                have hjl : j < M.length := by omega
                have hy : M[j]? = some M[j] := List.getElem?_eq_getElem hjl
                have HSTP := Lib.hid (insAt_step (x := (x, y, s, t)) hj hy)
                have hAt := insAt_at (x := (x, y, s, t)) hj
                have hAh := (insAt_ahead (x := (x, y, s, t)) (show j < j + 1 by omega) hj).trans hy
                obtain ⟨p0', p1, p2, p3, _⟩ := own_cells4 HOk.out hAt
                obtain ⟨q0, q1, q2, q3, _⟩ := own_cells4 HOk.out hAh
                have HL2 : Hid (ltK (kOf (x, y, s, t)) (kOf M[j]) = true → ∀ q (hq : q < M.length), j ≤ q → ltK (kOf (x, y, s, t)) (kOf M[q]) = true) := Lib.hid (fun h q hq hjq => by
                  rcases Nat.eq_or_lt_of_le hjq with e | e
                  · subst e; exact h
                  · exact HLk.out q hq (by omega))
                have HL3 : Hid (ltK (kOf (x, y, s, t)) (kOf M[j]) = false → ∀ (hq : j + 1 - 1 < M.length), 0 < j + 1 → ltK (kOf (x, y, s, t)) (kOf M[j + 1 - 1]) = false) := Lib.hid (fun h _ _ => h)
                have HAT := Lib.hid hAt
                have HAH := Lib.hid hAh
                generalize hyy : M[j] = z at *
                obtain ⟨zx, zy, zs, zt⟩ := z
                simp only at p0' p1 p2 p3 q0 q1 q2 q3
                clear hy hyy hAt hAh
                have hpos : (0 : Int) < (j : Int) + 1 := by omega
                have hposd : decide ((0 : Int) < (j : Int) + 1) = true := decide_eq_true hpos
                have hb1 : (j : Int) + 1 < (M.length : Int) + 1 := by omega
                have hb2 : (j : Int) < (M.length : Int) + 1 := by omega
                have s1 : IntKind.i64.wrap ((j : Int) + 1 - 1) = (j : Int) := by rw [show (j : Int) + 1 - 1 = (j : Int) by omega]; exact IntWalk.i64_in _ (by omega)
                have s2 : (0 : Int) ≤ (j : Int) + 1 := by omega
                have s3 : ((j : Int) + 1).toNat = j + 1 := by omega
                have s4 : (0 : Int) ≤ (j : Int) := by omega
                have s5 : IntKind.i64.wrap (j : Int) = (j : Int) := IntWalk.i64_in _ (by omega)
                have HBd := Lib.hid (below_drew HBk.out)
                have HOd : Hid (wr.drew.ownsRow w1.heap.size 52 4 (.slice (some ⟨g7, 0, none⟩) (M.length + 1) cap7) (insAt M (x, y, s, t) (j + 1)).length ((insAt M (x, y, s, t) (j + 1)).flatMap encA)) := Lib.hid HOk.out.drew
                have P0 : wr.drew.cell? ⟨g7, (j + 1) * 4, none⟩ = some (.int .i64 x) := p0'
                have P1 : wr.drew.cell? ⟨g7, (j + 1) * 4 + 1, none⟩ = some (.int .i64 y) := p1
                have P2 : wr.drew.cell? ⟨g7, (j + 1) * 4 + 2, none⟩ = some (.int .i64 s) := p2
                have P3 : wr.drew.cell? ⟨g7, (j + 1) * 4 + 3, none⟩ = some (.int .i64 t) := p3
                have Q0 : wr.drew.cell? ⟨g7, j * 4, none⟩ = some (.int .i64 zx) := q0
                have Q1 : wr.drew.cell? ⟨g7, j * 4 + 1, none⟩ = some (.int .i64 zy) := q1
                have Q2 : wr.drew.cell? ⟨g7, j * 4 + 2, none⟩ = some (.int .i64 zs) := q2
                have Q3 : wr.drew.cell? ⟨g7, j * 4 + 3, none⟩ = some (.int .i64 zt) := q3
                rcases hlt3 : ltK (kOf (x, y, s, t)) (kOf (zx, zy, zs, zt)) with _ | _
                · have KB : Hid (∀ W, Calls Try.prog 42 #[.agg #[.int .i64 x, .int .i64 y, .int .i64 t], .agg #[.int .i64 zx, .int .i64 zy, .int .i64 zt]] W fun e w' => e = .returned (.bool false) ∧ Below W.heap.size W w') := Lib.hid (fun W => by
                    have := rbefore_any (x, y, t) (zx, zy, zt) W
                    rw [show ltK (x, y, t) (zx, zy, zt) = false from hlt3] at this
                    exact this)
                  have HL4 := Lib.hid (HL3.out hlt3)
                  clear HL2 HL3 HLk hlt3
                  go_wp2_with fail
                  go_region_held3 (fun W => W.cell? ⟨g7, (j + 1) * 4, none⟩ = some (.int .i64 x) ∧ W.cell? ⟨g7, (j + 1) * 4 + 1, none⟩ = some (.int .i64 y) ∧ W.cell? ⟨g7, (j + 1) * 4 + 2, none⟩ = some (.int .i64 s) ∧ W.cell? ⟨g7, (j + 1) * 4 + 3, none⟩ = some (.int .i64 t) ∧ W.cell? ⟨g7, j * 4, none⟩ = some (.int .i64 zx) ∧ W.cell? ⟨g7, j * 4 + 1, none⟩ = some (.int .i64 zy) ∧ W.cell? ⟨g7, j * 4 + 2, none⟩ = some (.int .i64 zs) ∧ W.cell? ⟨g7, j * 4 + 3, none⟩ = some (.int .i64 zt)) (first | exact ⟨p0', p1, p2, p3, q0, q1, q2, q3⟩ | exact ⟨r50, r51, r52, r53, r54, r55, r56, r57⟩ | exact ⟨r40, r41, r42, r43, r44, r45, r46, r47⟩ | exact ⟨r30, r31, r32, r33, r34, r35, r36, r37⟩ | go_keep)
                    (first
                      | (go_at_call 32; (with_reducible refine (of_any x y s t _).mono ?_); rintro e w3 ⟨rfl, b3⟩; have r30 := cell_below b3 P0; have r31 := cell_below b3 P1; have r32 := cell_below b3 P2; have r33 := cell_below b3 P3; have r34 := cell_below b3 Q0; have r35 := cell_below b3 Q1; have r36 := cell_below b3 Q2; have r37 := cell_below b3 Q3; have HB3 := Lib.hid (HBd.out.trans (b3.mono HBd.out.size)); have HO3 := Lib.hid (own_below HOd.out b3); clear b3)
                      | (go_at_call 32; (with_reducible refine (of_any zx zy zs zt _).mono ?_); rintro e w4 ⟨rfl, b4⟩; have r40 := cell_below b4 r30; have r41 := cell_below b4 r31; have r42 := cell_below b4 r32; have r43 := cell_below b4 r33; have r44 := cell_below b4 r34; have r45 := cell_below b4 r35; have r46 := cell_below b4 r36; have r47 := cell_below b4 r37; have HB4 := Lib.hid (HB3.out.trans (b4.mono HB3.out.size)); have HO4 := Lib.hid (own_below HO3.out b4); clear b4)
                      | (go_at_call 42; refine (KB.out _).mono ?_; rintro e w5 ⟨rfl, b5⟩; have r50 := cell_below b5 r40; have r51 := cell_below b5 r41; have r52 := cell_below b5 r42; have r53 := cell_below b5 r43; have r54 := cell_below b5 r44; have r55 := cell_below b5 r45; have r56 := cell_below b5 r46; have r57 := cell_below b5 r47; have HB5 := Lib.hid (HB4.out.trans (b5.mono HB4.out.size)); have HO5 := Lib.hid (own_below HO4.out b5); clear b5))
                  clear r50 r51 r52 r53 r54 r55 r56 r57 r40 r41 r42 r43 r44 r45 r46 r47 r30 r31 r32 r33 r34 r35 r36 r37 P0 P1 P2 P3 Q0 Q1 Q2 Q3 p0' p1 p2 p3 q0 q1 q2 q3
                  obtain ⟨M', hl', HE1, HE2, HE3, HE4⟩ := HEND.out w5 HB5.out HO5.out HL4.out
                  clear HEND s1 s2 s3 s4 s5
                  go_wp2
                  go_roundw
                  case rel => exact ⟨i + 1, M', _, rfl, by omega, hl', HE1, HE2, HE3, HE4, HIN2, by go_num⟩
                  case measure => simp [intOf]; omega
                · have KB : Hid (∀ W, Calls Try.prog 42 #[.agg #[.int .i64 x, .int .i64 y, .int .i64 t], .agg #[.int .i64 zx, .int .i64 zy, .int .i64 zt]] W fun e w' => e = .returned (.bool true) ∧ Below W.heap.size W w') := Lib.hid (fun W => by
                    have := rbefore_any (x, y, t) (zx, zy, zt) W
                    rw [show ltK (x, y, t) (zx, zy, zt) = true from hlt3] at this
                    exact this)
                  have HL4 := Lib.hid (HL2.out hlt3)
                  clear HL2 HL3 HLk hlt3
                  go_wp2_with fail
                  go_region_held3 (fun W => W.cell? ⟨g7, (j + 1) * 4, none⟩ = some (.int .i64 x) ∧ W.cell? ⟨g7, (j + 1) * 4 + 1, none⟩ = some (.int .i64 y) ∧ W.cell? ⟨g7, (j + 1) * 4 + 2, none⟩ = some (.int .i64 s) ∧ W.cell? ⟨g7, (j + 1) * 4 + 3, none⟩ = some (.int .i64 t) ∧ W.cell? ⟨g7, j * 4, none⟩ = some (.int .i64 zx) ∧ W.cell? ⟨g7, j * 4 + 1, none⟩ = some (.int .i64 zy) ∧ W.cell? ⟨g7, j * 4 + 2, none⟩ = some (.int .i64 zs) ∧ W.cell? ⟨g7, j * 4 + 3, none⟩ = some (.int .i64 zt)) (first | exact ⟨p0', p1, p2, p3, q0, q1, q2, q3⟩ | exact ⟨r50, r51, r52, r53, r54, r55, r56, r57⟩ | exact ⟨r40, r41, r42, r43, r44, r45, r46, r47⟩ | exact ⟨r30, r31, r32, r33, r34, r35, r36, r37⟩ | go_keep)
                    (first
                      | (go_at_call 32; (with_reducible refine (of_any x y s t _).mono ?_); rintro e w3 ⟨rfl, b3⟩; have r30 := cell_below b3 P0; have r31 := cell_below b3 P1; have r32 := cell_below b3 P2; have r33 := cell_below b3 P3; have r34 := cell_below b3 Q0; have r35 := cell_below b3 Q1; have r36 := cell_below b3 Q2; have r37 := cell_below b3 Q3; have HB3 := Lib.hid (HBd.out.trans (b3.mono HBd.out.size)); have HO3 := Lib.hid (own_below HOd.out b3); clear b3)
                      | (go_at_call 32; (with_reducible refine (of_any zx zy zs zt _).mono ?_); rintro e w4 ⟨rfl, b4⟩; have r40 := cell_below b4 r30; have r41 := cell_below b4 r31; have r42 := cell_below b4 r32; have r43 := cell_below b4 r33; have r44 := cell_below b4 r34; have r45 := cell_below b4 r35; have r46 := cell_below b4 r36; have r47 := cell_below b4 r37; have HB4 := Lib.hid (HB3.out.trans (b4.mono HB3.out.size)); have HO4 := Lib.hid (own_below HO3.out b4); clear b4)
                      | (go_at_call 42; refine (KB.out _).mono ?_; rintro e w5 ⟨rfl, b5⟩; have r50 := cell_below b5 r40; have r51 := cell_below b5 r41; have r52 := cell_below b5 r42; have r53 := cell_below b5 r43; have r54 := cell_below b5 r44; have r55 := cell_below b5 r45; have r56 := cell_below b5 r46; have r57 := cell_below b5 r47; have HB5 := Lib.hid (HB4.out.trans (b5.mono HB4.out.size)); have HO5 := Lib.hid (own_below HO4.out b5); clear b5))
                  obtain ⟨_, _, _, _, hfr⟩ := own_cells4 HO5.out HAT.out
                  have FP0 := hfr ((j + 1) * 4)
                  have FP1 := hfr ((j + 1) * 4 + 1)
                  have FP2 := hfr ((j + 1) * 4 + 2)
                  have FP3 := hfr ((j + 1) * 4 + 3)
                  have FQ0 := hfr (j * 4)
                  have FQ1 := hfr (j * 4 + 1)
                  have FQ2 := hfr (j * 4 + 2)
                  have FQ3 := hfr (j * 4 + 3)
                  have hw7 := hb7
                  have hn1 := own_put4 (j := j) (own_put4 (j := j + 1) HO5.out (zx, zy, zs, zt)) (x, y, s, t)
                  rw [HSTP.out] at hn1
                  have HON := Lib.hid hn1
                  have HBN := Lib.hid ((((((((HB5.out.setCell (p := ⟨g7, (j + 1) * 4, none⟩) hw7 (.int .i64 zx)).setCell (p := ⟨g7, (j + 1) * 4 + 1, none⟩) hw7 (.int .i64 zy)).setCell (p := ⟨g7, (j + 1) * 4 + 2, none⟩) hw7 (.int .i64 zs)).setCell (p := ⟨g7, (j + 1) * 4 + 3, none⟩) hw7 (.int .i64 zt)).setCell (p := ⟨g7, j * 4, none⟩) hw7 (.int .i64 x)).setCell (p := ⟨g7, j * 4 + 1, none⟩) hw7 (.int .i64 y)).setCell (p := ⟨g7, j * 4 + 2, none⟩) hw7 (.int .i64 s)).setCell (p := ⟨g7, j * 4 + 3, none⟩) hw7 (.int .i64 t))
                  clear hn1 hfr HO5 HB5 HO4 HB4 HO3 HB3 HOd HBd HOk HBk HEND r40 r41 r42 r43 r44 r45 r46 r47 r30 r31 r32 r33 r34 r35 r36 r37 P0 P1 P2 P3 Q0 Q1 Q2 Q3 p0' p1 p2 p3 q0 q1 q2 q3 s2 s3 s4 s5
                  have n1 : (j + 1) * 4 ≠ j * 4 := by omega
                  have n2 : (j + 1) * 4 ≠ j * 4 + 1 := by omega
                  have n3 : (j + 1) * 4 ≠ j * 4 + 2 := by omega
                  have n3' : (j + 1) * 4 ≠ j * 4 + 3 := by omega
                  have n4 : j * 4 ≠ (j + 1) * 4 := by omega
                  have n5 : j * 4 ≠ (j + 1) * 4 + 1 := by omega
                  have n6 : j * 4 ≠ (j + 1) * 4 + 2 := by omega
                  have n7 : j * 4 ≠ (j + 1) * 4 + 3 := by omega
                  go_wp2_with fail
                  go_region
                  go_wp2
                  go_roundw
                  case rel => exact ⟨j, by omega, Lib.hid (below_drew HBN.out), Lib.hid HON.out.drew, HL4, by go_num⟩
                  case measure => simp [intOf]
          · have HFT : Hid (fitR A.sum = .tuple #[.int .i64 0, .bool false]) := Lib.hid (by rw [HSA.out]; exact fitR_no hfit)
            have HNA := Lib.hid (HNI.out hfit)
            clear hfit
            go_wp2_with (go_at_call 33; refine (sumRef_any aa _ ac A _ rfl HAR.out HAI.out (by omega)).mono ?_; rintro e w3 ⟨rfl, rfl⟩; rw [HFT.out])
            go_ret2
            exact ⟨HBw.out, .inr ⟨HNA.out, rfl⟩⟩
    · obtain rfl : i = G.length := by omega
      have HP2 : Hid (M.Perm (mrg Z)) := Lib.hid (by have := HP.out; rwa [List.take_of_length_le (by rw [HML.out]; omega)] at this)
      have HAL := Lib.hid (HYES.out (fun j hj => HIN.out j hj hj))
      have HBW := Lib.hid (HB1.out.trans (HB.out.mono HB1.out.size))
      obtain ⟨oa, oc, hv, hor, hof⟩ := own_row encA_len HO.out
      subst hv
      have HOR := Lib.hid hor
      clear hor hof
      go_wp2
      go_ret2
      exact ⟨HBW.out, .inl ⟨HAL.out, oa, oc, M, rfl, HOR.out, HP2.out, HSO.out⟩⟩
end Go.Proofs.Ytieomjkiabfhcaa
