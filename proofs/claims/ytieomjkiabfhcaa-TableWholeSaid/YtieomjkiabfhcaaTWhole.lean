/- The walk of statement TableWhole. -/
import Derived.Test.YtieomjkiabfhcaaTWhl
import Derived.Test.YtieomjkiabfhcaaTMerges
namespace Go.Proofs.Ytieomjkiabfhcaa
open Go.RowKit
set_option linter.unusedVariables false

theorem hits_count {G : List (List Nat)} {i : Nat} (hi : i < G.length) (k p : Nat) : ((G.take i).flatten ++ G[i].take k).count p ≤ G.flatten.count p := by
  have h1 : G.flatten = (G.take i).flatten ++ (G[i] ++ (G.drop (i + 1)).flatten) := by
    have e := List.take_append_drop i G
    rw [List.drop_eq_getElem_cons hi] at e
    have e2 := congrArg List.flatten e
    rw [List.flatten_append, List.flatten_cons] at e2
    exact e2.symm
  rw [h1, List.count_append, List.count_append, List.count_append]
  have := (List.take_sublist k G[i]).count_le p
  omega
theorem hits_step {g : List Nat} {k p : Nat} (A : List Nat) (hk : k < g.length) (hp : g[k] = p) : A ++ g.take (k + 1) = (A ++ g.take k) ++ [p] := by
  rw [take_snoc g hk, hp, List.append_assoc]
theorem hits_next {G : List (List Nat)} {i : Nat} (hi : i < G.length) : (G.take (i + 1)).flatten = (G.take i).flatten ++ G[i] := by
  rw [take_snoc G hi, List.flatten_append, List.flatten_cons, List.flatten_nil, List.append_nil]
set_option maxRecDepth 100000 in
set_option maxHeartbeats 8000000 in
theorem whole_law (w : World) (ao : Option Addr) (len cap : Nat) (Z : List ArcT) (hl : Z.length = len) (hm : len ≤ maxLen) (hr : Row encA 4 w ao Z) (hk : OkA Z) :
    Calls Try.prog 10 #[.slice ao len cap] w fun e w' => e = .returned (.bool true) ∧ Below w.heap.size w w' := by
  unfold maxLen at hm
  subst hl
  have HR := Lib.hid hr
  have HK := Lib.hid hk
  clear hr hk
  by_cases h : 200 < Z.length
  · have h' : (200 : Int) < (Z.length : Int) := by omega
    go_enter Try.func10, Try.ntmps10
    go_wp2_with (go_at_call 13; refine (awake_any _).mono ?_; rintro e w1 ⟨rfl, hb1⟩)
    go_ret
    exact ⟨rfl, hb1⟩
  · have hn : Z.length ≤ 200 := by omega
    have h' : ¬ (200 : Int) < (Z.length : Int) := by omega
    have hd200 : decide ((200 : Int) < (Z.length : Int)) = false := decide_eq_false h'
    have K1 := Lib.hid (fun W (hW : Row encA 4 W ao Z) => groups_any ao cap Z W hW HK.out hn)
    have HGA := Lib.hid (fun i hi => group_at (Z := Z) (i := i) hi)
    have hgl : (grps (keysOf Z)).length ≤ 200 := by rw [grps_len]; have := firsts_len (keysOf Z); simp [keysOf] at this; unfold keysOf; omega
    have HGL : Hid (∀ g ∈ grps (keysOf Z), g.length ≤ 200) := Lib.hid (fun g hg => by have := group_len hg; simp [keysOf] at this; omega)
    have HML := Lib.hid (mrg_len Z)
    have HONE : Hid (∀ p, p < Z.length → ((grps (keysOf Z)).flatten).count p = 1) := Lib.hid (fun p hp => grps_once (keysOf Z) (by simpa [keysOf] using hp))
    generalize hG : grps (keysOf Z) = G at *
    clear hG h
    obtain ⟨i0, hi0, hz0, hz1, hz2⟩ := info_parts infoInt
    go_enter Try.func10, Try.ntmps10
    go_wp2_with (first
      | (go_at_call 13; refine (awake_any _).mono ?_; rintro e w1 ⟨rfl, hb1⟩; have HB1 := Lib.hid hb1; clear hb1; have HR1 := Lib.hid (HR.out.below' HB1.out))
      | (go_at_call 16; refine (K1.out _ HR1.out).mono ?_; rintro e w2 ⟨ga, gc, rfl, hg2, hb2⟩; have HG2 := Lib.hid hg2; have HB2 := Lib.hid (HB1.out.trans (hb2.mono HB1.out.size)); have HR2 := Lib.hid (HR1.out.below' hb2); clear hg2 hb2 K1)
      | (at_make; refine wpList_make_full w2 rfl _ _ 31 rfl w2.heap.size 3 i0 (.int .i64 0) 1 Try.underlying31 hi0 hz0 hz1 .i64 .i64 (Z.length : Int) (Z.length : Int) Z.length rfl rfl rfl rfl (by rw [hz2]; omega) (by unfold maxLen; omega) (Nat.le_refl _) ?_; intro w3 ho3 hg3; have HO3 : Hid (w3.ownsRow w2.heap.size 3 1 (.slice (some ⟨w2.heap.size, 0, none⟩) Z.length Z.length) (hadL Z.length []).length ((hadL Z.length []).flatMap encI)) := Lib.hid (by rw [hadL_len, ← made_zero]; exact ho3); have HB3 := Lib.hid ((Below.refl w2.heap.size w2).grown hg3 (Nat.le_refl _) (fun k hk => by cases hk)); clear ho3 hg3))
    clear hi0 hz0 hz1 hz2
    go_loopw [6] (fun si wr => ∃ (i : Nat), i ≤ G.length ∧ Hid (Below w2.heap.size w2 wr) ∧ Hid (wr.ownsRow w2.heap.size 3 1 (.slice (some ⟨w2.heap.size, 0, none⟩) Z.length Z.length) (hadL Z.length (G.take i).flatten).length ((hadL Z.length (G.take i).flatten).flatMap encI)) ∧ si = .int .i64 (i : Int)) (fun si _ => G.length - (intOf si).toNat)
    case atStart => exact ⟨0, by omega, HB3, HO3, rfl⟩
    case round =>
      clear HO3 HB3
      obtain ⟨i, hi, HB, HO, rfl⟩ := hrel
      by_cases hlt : i < G.length
      · have hli : (i : Int) < (G.length : Int) := by omega
        obtain ⟨kf, hkf, hgi, hkm⟩ := HGA.out i hlt
        have hgl2 := HGL.out _ (List.getElem_mem hlt)
        have hg0 : 0 < G[i].length := by rw [hgi]; exact places_ne hkm
        have HKEY : Hid (∀ p ∈ G[i], ∃ hp : p < Z.length, kOf Z[p] = kf) := Lib.hid (fun p hp => by rw [hgi] at hp; exact place_key hp)
        have HFN : Hid (fnd (Z.map kOf) kf = ((G[i][0] : Nat) : Int)) := Lib.hid (fnd_head (by
          have h1 : (places (keysOf Z) kf)[0]? = G[i][0]? := by rw [hgi]
          rw [show Z.map kOf = keysOf Z from rfl, h1, List.getElem?_eq_getElem hg0]))
        have HCT := Lib.hid (fun k p => hits_count hlt k p)
        have HNX := Lib.hid (hits_next hlt)
        obtain ⟨gb, go, gao, gcap, e, hgb, pc0, rr0⟩ := HG2.out i hlt
        subst e
        have HPC := Lib.hid pc0
        have HRR := Lib.hid rr0
        clear pc0 rr0 hkf hkm hgi
        generalize hGI : G[i] = g at *
        clear hGI
        have HO1 : Hid (wr.ownsRow w2.heap.size 3 1 (.slice (some ⟨w2.heap.size, 0, none⟩) Z.length Z.length) (hadL Z.length ((G.take i).flatten ++ g.take 0)).length ((hadL Z.length ((G.take i).flatten ++ g.take 0)).flatMap encI)) := Lib.hid (by rw [List.take_zero, List.append_nil]; exact HO.out)
        have pcA := cell_below HB.out HPC.out
        clear HO
        go_wp2
        go_loopw [7] (fun sk wi => ∃ (k : Nat), k ≤ g.length ∧ Hid (Below w2.heap.size w2 wi) ∧ Hid (wi.ownsRow w2.heap.size 3 1 (.slice (some ⟨w2.heap.size, 0, none⟩) Z.length Z.length) (hadL Z.length ((G.take i).flatten ++ g.take k)).length ((hadL Z.length ((G.take i).flatten ++ g.take k)).flatMap encI)) ∧ sk = .int .i64 (k : Int)) (fun sk _ => g.length - (intOf sk).toNat)
        case atStart => exact ⟨0, by omega, HB, HO1, rfl⟩
        case round =>
          clear HO1 HB pcA
          obtain ⟨k, hk, HBk, HOk, rfl⟩ := hrel
          have pc := cell_below HBk.out HPC.out
          by_cases hlk : k < g.length
          · have hlkI : (k : Int) < (g.length : Int) := by omega
            have hg0I : (0 : Int) < (g.length : Int) := by omega
            obtain ⟨eb, eo, e, heb, pe⟩ := (HRR.out.below' HBk.out).num (i := k) (by rw [natI_len]; exact hlk)
            subst e
            obtain ⟨eb2, eo2, e, _, pe0⟩ := (HRR.out.below' HBk.out).num (i := 0) (by rw [natI_len]; exact hg0)
            cases e
            obtain ⟨p, hp⟩ : ∃ p, g[k] = p := ⟨_, rfl⟩
            obtain ⟨q, hq⟩ : ∃ q, g[0] = q := ⟨_, rfl⟩
            have hpe : (natI g)[k]'(by rw [natI_len]; exact hlk) = (p : Int) := by simp [natI, hp]
            have hpe0 : (natI g)[0]'(by rw [natI_len]; exact hg0) = (q : Int) := by simp [natI, hq]
            rw [hpe] at pe
            rw [hpe0, Nat.add_zero] at pe0
            obtain ⟨hpl, hpk⟩ := HKEY.out p (by rw [← hp]; exact List.getElem_mem _)
            obtain ⟨hql, hqk⟩ := HKEY.out q (by rw [← hq]; exact List.getElem_mem _)
            have hplI : (p : Int) < (Z.length : Int) := by omega
            have hqlI : (q : Int) < (Z.length : Int) := by omega
            obtain ⟨ab, ax, e, _, d0, d1, d2, d3⟩ := (HR2.out.below' HBk.out).arc hpl
            subst e
            obtain ⟨ab2, ax2, e, _, f0, f1, f2, f3⟩ := (HR2.out.below' HBk.out).arc hql
            cases e
            have hfn := HFN.out
            rw [hq] at hfn
            obtain ⟨z, hz⟩ : ∃ z, Z[p] = z := ⟨_, rfl⟩
            obtain ⟨z2, hz2⟩ : ∃ z, Z[q] = z := ⟨_, rfl⟩
            rw [hz] at d0 d1 d2 d3 hpk
            rw [hz2] at f0 f1 f2 f3 hqk
            obtain ⟨x, y, c, t⟩ := z
            obtain ⟨x2, y2, c2, t2⟩ := z2
            simp only [kOf] at d0 d1 d2 d3 f0 f1 f2 f3 hpk hqk
            rw [← hpk] at hqk hfn
            simp only [Prod.mk.injEq] at hqk
            obtain ⟨rfl, rfl, rfl⟩ := hqk
            have KF : Hid (∀ W, Row encA 4 W (some ⟨ab, ax, none⟩) Z → Calls Try.prog 14 #[.slice (some ⟨ab, ax, none⟩) Z.length cap, .agg #[.int .i64 x2, .int .i64 y2, .int .i64 t2]] W fun e w' => e = .returned (.int .i64 (q : Int)) ∧ Below W.heap.size W w') := Lib.hid (fun W hW => by
              have := find_any (some ⟨ab, ax, none⟩) cap Z (x2, y2, t2) W hW hn
              rw [hfn] at this
              exact this)
            have hst := hits_step (G.take i).flatten hlk hp
            have hct := HCT.out k p
            rw [HONE.out p hpl] at hct
            have hat : (hadL Z.length ((G.take i).flatten ++ g.take k))[p]? = some ((((G.take i).flatten ++ g.take k).count p : Nat) : Int) := hadL_at hpl
            have hstp := hadL_step (hits := (G.take i).flatten ++ g.take k) hpl
            rw [← hst] at hstp
            generalize hm0 : ((G.take i).flatten ++ g.take k).count p = m at *
            have HAT := Lib.hid hat
            have HSTP := Lib.hid hstp
            have HRk := Lib.hid (HR2.out.below' HBk.out)
            clear hz hz2 hpe hpe0 hpk hfn hst hat hstp hm0 hp hq
            generalize hadL Z.length ((G.take i).flatten ++ g.take k) = L at *
            have ek := fun W => ne_key x2 y2 t2 x2 y2 t2 W
            have ek2 : (!(x2 == x2 && y2 == y2 && t2 == t2)) = false := by simp
            have g1 : decide ((p : Int) < 0) = false := decide_eq_false (by omega)
            have g2 : decide (Z.length ≤ p) = false := decide_eq_false (by omega)
            have g3 : decide ((Z.length : Int) ≤ (p : Int)) = false := decide_eq_false (by omega)
            go_wp2_with fail
            have r0 : wr.drew.cell? ⟨ab, ax + p * 4, none⟩ = some (.int .i64 x2) := d0
            have r1 : wr.drew.cell? ⟨ab, ax + p * 4 + 1, none⟩ = some (.int .i64 y2) := d1
            have r2 : wr.drew.cell? ⟨ab, ax + p * 4 + 2, none⟩ = some (.int .i64 c) := d2
            have r3 : wr.drew.cell? ⟨ab, ax + p * 4 + 3, none⟩ = some (.int .i64 t2) := d3
            have r4 : wr.drew.cell? ⟨gb, go + i, none⟩ = some (.slice (some ⟨eb, eo, none⟩) g.length gcap) := pc
            have r5 : wr.drew.cell? ⟨eb, eo, none⟩ = some (.int .i64 (q : Int)) := pe0
            have r6 : wr.drew.cell? ⟨ab, ax + q * 4, none⟩ = some (.int .i64 x2) := f0
            have r7 : wr.drew.cell? ⟨ab, ax + q * 4 + 1, none⟩ = some (.int .i64 y2) := f1
            have r8 : wr.drew.cell? ⟨ab, ax + q * 4 + 2, none⟩ = some (.int .i64 c2) := f2
            have r9 : wr.drew.cell? ⟨ab, ax + q * 4 + 3, none⟩ = some (.int .i64 t2) := f3
            have HBx := Lib.hid (below_drew HBk.out)
            have HRx : Hid (Row encA 4 wr.drew (some ⟨ab, ax, none⟩) Z) := Lib.hid (HRk.out.below' (below_drew (Below.refl _ _)))
            have HOx : Hid (wr.drew.ownsRow w2.heap.size 3 1 (.slice (some ⟨w2.heap.size, 0, none⟩) Z.length Z.length) L.length (L.flatMap encI)) := Lib.hid HOk.out.drew
            go_region_held3 (fun W => W.cell? ⟨ab, ax + p * 4, none⟩ = some (.int .i64 x2) ∧ W.cell? ⟨ab, ax + p * 4 + 1, none⟩ = some (.int .i64 y2) ∧ W.cell? ⟨ab, ax + p * 4 + 2, none⟩ = some (.int .i64 c) ∧ W.cell? ⟨ab, ax + p * 4 + 3, none⟩ = some (.int .i64 t2) ∧ W.cell? ⟨gb, go + i, none⟩ = some (.slice (some ⟨eb, eo, none⟩) g.length gcap) ∧ W.cell? ⟨eb, eo, none⟩ = some (.int .i64 (q : Int)) ∧ W.cell? ⟨ab, ax + q * 4, none⟩ = some (.int .i64 x2) ∧ W.cell? ⟨ab, ax + q * 4 + 1, none⟩ = some (.int .i64 y2) ∧ W.cell? ⟨ab, ax + q * 4 + 2, none⟩ = some (.int .i64 c2) ∧ W.cell? ⟨ab, ax + q * 4 + 3, none⟩ = some (.int .i64 t2)) (first | exact ⟨d0, d1, d2, d3, pc, pe0, f0, f1, f2, f3⟩ | exact ⟨r0, r1, r2, r3, r4, r5, r6, r7, r8, r9⟩ | go_keep)
              (first
                | (go_at_call 32; refine (of_any _ _ _ _ _).mono ?_; rintro e w5 ⟨rfl, b5⟩; have r0 := cell_below b5 r0; have r1 := cell_below b5 r1; have r2 := cell_below b5 r2; have r3 := cell_below b5 r3; have r4 := cell_below b5 r4; have r5 := cell_below b5 r5; have r6 := cell_below b5 r6; have r7 := cell_below b5 r7; have r8 := cell_below b5 r8; have r9 := cell_below b5 r9; have HBx := Lib.hid (HBx.out.trans (b5.mono HBx.out.size)); have HRx := Lib.hid (HRx.out.below' b5); have HOx := Lib.hid (own_below HOx.out b5); clear b5)
                | (go_at_call 14; refine (KF.out _ HRx.out).mono ?_; rintro e w6 ⟨rfl, b6⟩; have r0 := cell_below b6 r0; have r1 := cell_below b6 r1; have r2 := cell_below b6 r2; have r3 := cell_below b6 r3; have r4 := cell_below b6 r4; have r5 := cell_below b6 r5; have r6 := cell_below b6 r6; have r7 := cell_below b6 r7; have r8 := cell_below b6 r8; have r9 := cell_below b6 r9; have HBx := Lib.hid (HBx.out.trans (b6.mono HBx.out.size)); have HRx := Lib.hid (HRx.out.below' b6); have HOx := Lib.hid (own_below HOx.out b6); clear b6))
            obtain ⟨hc1, hc2⟩ := own_cell1 HOx.out HAT.out
            have hn1 := own_put1 (j := p) HOx.out ((m : Int) + 1)
            rw [HSTP.out] at hn1
            have HON := Lib.hid hn1
            have HBN := Lib.hid (HBx.out.setCell (p := ⟨w2.heap.size, p, none⟩) (Nat.le_refl _) (.int .i64 ((m : Int) + 1)))
            have hmI : (m : Int) ≤ 1 := by omega
            clear hn1 HOx HBx HRx r0 r1 r2 r3 r4 r5 r6 r7 r8 r9 d0 d1 d2 d3 f0 f1 f2 f3 pc pe pe0 HOk HBk HRk HAT HSTP g1 g2 g3 ek ek2 KF
            go_wp2
            go_roundw
            case rel => exact ⟨k + 1, by omega, HBN, HON, by go_num⟩
            case measure => simp [intOf]; omega
          · obtain rfl : k = g.length := by omega
            have HON : Hid (wr.ownsRow w2.heap.size 3 1 (.slice (some ⟨w2.heap.size, 0, none⟩) Z.length Z.length) (hadL Z.length (G.take (i + 1)).flatten).length ((hadL Z.length (G.take (i + 1)).flatten).flatMap encI)) := Lib.hid (by have := HOk.out; rw [List.take_length] at this; rw [HNX.out]; exact this)
            have hli2 : ¬ (g.length : Int) < (g.length : Int) := by omega
            obtain ⟨eb, eo, e, heb, pe⟩ := (HRR.out.below' HBk.out).num (i := 0) (by rw [natI_len]; exact hg0)
            subst e
            clear HOk pe
            go_wp2
            go_roundw
            case rel => exact ⟨i + 1, by omega, HBk, HON, by go_num⟩
            case measure => simp [intOf]; omega
      · obtain rfl : i = G.length := by omega
        have hO := HO.out
        rw [List.take_length] at hO
        have HC1 : Hid (∀ p, p < Z.length → wr.cell? ⟨w2.heap.size, p, none⟩ = some (.int .i64 1)) := Lib.hid (fun p hp => by
          have h1 := (own_cell1 hO (hadL_at hp)).1
          rw [HONE.out p hp] at h1
          exact h1)
        have HRw := Lib.hid (HR2.out.below' HB.out)
        have HBw := Lib.hid (HB2.out.trans (HB.out.mono HB2.out.size))
        have hli2 : ¬ (G.length : Int) < (G.length : Int) := by omega
        clear hO HO
        go_wp2
        go_loop [9] (fun si => ∃ (j : Nat), j ≤ Z.length ∧ si = .int .i64 (j : Int)) (fun si => Z.length - (intOf si).toNat)
        case atStart => exact ⟨0, by omega, rfl⟩
        case round =>
          obtain ⟨j, hj, rfl⟩ := hrel
          by_cases hlj : j < Z.length
          · have hljI : (j : Int) < (Z.length : Int) := by omega
            have hc1 := HC1.out j hlj
            go_wp2
            go_round
            case rel => exact ⟨j + 1, by omega, by go_num⟩
            case measure => simp [intOf]; omega
          · have hljI : ¬ (j : Int) < (Z.length : Int) := by omega
            go_wp2_with fail
            refine (merge_any ao cap Z _ HRw.out HK.out hn).mono ?_
            rintro e w4 ⟨hb4, ⟨hall, xa, xc, X, rfl, hx, hxp, hxs⟩ | ⟨hall, rfl⟩⟩
            · have HX := Lib.hid hx
              have HXS := Lib.hid hxs
              have HB4 := Lib.hid (HBw.out.trans (hb4.mono HBw.out.size))
              have hxl : X.length = G.length := by rw [hxp.length_eq, HML.out]
              have hxl2 : X.length ≤ 200 := by omega
              have HXK := Lib.hid (mrg_ok hxp HK.out hall)
              have HTW := Lib.hid (mrg_twice hxp hall)
              have HXI : Hid (∀ a ∈ X, ∀ b ∈ X, kOf a = kOf b → a = b) := Lib.hid (fun a ha b hb e => mrg_inj (hxp.mem_iff.1 ha) (hxp.mem_iff.1 hb) e)
              have HXL := Lib.hid hxl
              clear hx hxp hxs hb4 hall hxl
              go_wp2_with fail
              refine (merge_any xa xc X _ HX.out HXK.out hxl2).mono ?_
              rintro e w5 ⟨hb5, ⟨hall2, ya, yc, Y, rfl, hy, hyp, hys⟩ | ⟨hall2, rfl⟩⟩
              · have HYE : Hid (X = Y) := Lib.hid (sorted_unique HXS.out hys (by have := hyp; rw [HTW.out.1] at this; exact this.symm) HXI.out)
                have HX5 := Lib.hid (HX.out.below' hb5)
                have HY5 : Hid (Row encA 4 w5 ya X) := Lib.hid (HYE.out ▸ hy)
                have HYL : Hid (X.length = Y.length) := Lib.hid (by rw [HYE.out])
                have HB5 := Lib.hid (HB4.out.trans (hb5.mono HB4.out.size))
                have hle : (X.length == G.length) = true := by rw [HXL.out]; simp
                have hle2 : ((X.length : Int) == (G.length : Int)) = true := by rw [HXL.out]; simp
                clear hy hyp hys hb5 hall2
                go_wp2_with (go_at_call 21; refine (samearcs_any xa ya _ _ xc yc X _ rfl HYL.out HX5.out HY5.out (by omega)).mono ?_; rintro e w6 ⟨rfl, n6, hw6⟩; have HB6 : Hid (Below w.heap.size w w6) := Lib.hid (by rw [hw6]; exact ⟨HB5.out.os, HB5.out.tape, HB5.out.output, HB5.out.size, HB5.out.block⟩); clear hw6)
                go_ret
                exact ⟨rfl, HB6.out⟩
              · exact absurd HTW.out.2 hall2
            · have HB4 := Lib.hid (HBw.out.trans (hb4.mono HBw.out.size))
              clear hb4 hall
              go_wp2
              go_ret
              exact ⟨rfl, HB4.out⟩
end Go.Proofs.Ytieomjkiabfhcaa
