/- The document's Parse. -/
import Derived.Test.YtbciplfncnangaaDoorNPar
namespace Go.Proofs.YtbciplfncnangaaDoor
open Go.RowKit Go.Shelf
set_option linter.unusedVariables false

set_option maxRecDepth 100000 in
set_option maxHeartbeats 4000000 in
theorem rparse_any (s : ByteArray) (w : World) (hs : s.size ≤ 1099511627776) : Calls Tryd.prog 16 #[.string s] w (ParRes (parseL zeroN 0 (linesL s.data.toList)) w) := by
  have HLS : Hid (∀ x ∈ linesL s.data.toList, x.length ≤ 1099511627776) := Lib.hid (fun x hx => by have := lines_small hx; rw [size_data] at this; omega)
  have hL : (linesL s.data.toList).length ≤ 1099511627776 := by have := pcs_len 10 s.data.toList; rw [size_data] at this; unfold linesL; omega
  have HLI := Lib.hid (fun W => rlines_any s W hs)
  generalize linesL s.data.toList = L at *
  have HB0 := Lib.hid ((Below.refl w.heap.size w).alloc (Nat.le_refl _) (.cells #[.int .i64 0, .bool false, .slice none 0 0] 24))
  have HG0 : Hid ((w.alloc (.cells #[.int .i64 0, .bool false, .slice none 0 0] 24)).heap[w.heap.size]? = some (.cells #[.int .i64 0, .bool false, .slice none 0 0] 24 (0, 0))) := Lib.hid (heap_alloc_new _ _)
  go_enter Tryd.func16, Tryd.ntmps16
  go_wp2_with (go_at_call 19; refine (HLI.out _).mono ?_; rintro e w1 ⟨v1, rfl, o1, b1⟩; obtain ⟨ao1, cap1, rfl, hc1, l1, hlo1⟩ := own_lst2 o1; have HL1 := Lib.hid l1; have HG1 := Lib.hid ((b1.block _ (lt_whole HG0.out)).trans HG0.out); have HB1 := Lib.hid (HB0.out.trans (b1.mono HB0.out.size)); have HS1 := Lib.hid b1.size; clear b1 o1 l1 hlo1)
  have hs1 : w.heap.size + 1 ≤ w1.heap.size := by have := HS1.out; simpa using this
  have HNB : Hid ((w1.alloc (.cells #[.int .i64 0, .bool false, .slice none 0 0] 24)).heap[w1.heap.size]? = some (.cells #[.int .i64 0, .bool false, .slice none 0 0] 24 (0, 0))) := Lib.hid (heap_alloc_new _ _)
  have HBN := Lib.hid ((Below.refl w1.heap.size w1).alloc (Nat.le_refl _) (.cells #[.int .i64 0, .bool false, .slice none 0 0] 24))
  clear HS1 HB0 HG0 HLI
  go_loopw [7, 8] (fun bg i wr => ∃ (k : Nat) (n : NetT) (va : Option Addr) (vc : Nat), k ≤ L.length ∧ i = .int .i64 (k : Int) ∧ bg = .bool (decide (0 < n.1)) ∧ Hid (Sound n) ∧ Hid (wr.heap[w1.heap.size]? = some (.cells #[.int .i64 n.1, .bool n.2.1, .slice va n.2.2.length vc] 24 (0, 0))) ∧ Hid (wr.ownsRow (w1.heap.size + 1) 37 4 (.slice va n.2.2.length vc) n.2.2.length (n.2.2.flatMap encA)) ∧ Hid (Below w1.heap.size w1 wr) ∧ Hid (parseL n k (L.drop k) = parseL zeroN 0 L)) (fun _ i _ => L.length - (intOf i).toNat)
  case atStart => exact ⟨0, zeroN, none, 0, Nat.zero_le _, rfl, rfl, Lib.hid (.inl rfl), HNB, Lib.hid (World.ownsRow_nil _ _ _ _), HBN, Lib.hid rfl⟩
  case round =>
    clear HNB HBN
    obtain ⟨k, n, va, vc, hk, rfl, rfl, HSN, HG, HO, HK, HP⟩ := hrel
    have hsr := lt_whole HG.out
    by_cases hlt : k < L.length
    · have hli : (k : Int) < (L.length : Int) := by omega
      obtain ⟨lb, lo, rfl, hlb, q0⟩ := HL1.out k hlt
      have q1 := cell_below HK.out q0
      have HPD := Lib.hid (parse_drop (n := n) hlt)
      have HXS := Lib.hid (HLS.out _ (List.getElem_mem hlt))
      generalize L[k] = x at *
      unfold strV at q1
      clear q0
      obtain ⟨c0, c1, c2, f0, f1, f2⟩ := netCells HG.out
      have HW : Hid (∀ W, Calls Tryd.prog 35 #[.string ⟨x.toArray⟩] W fun e w' => ∃ v, e = .returned v ∧ w'.ownsRow W.heap.size 9 1 v (wordsL x).length ((wordsL x).map strV) ∧ Below W.heap.size W w') := Lib.hid (fun W => rwords_any ⟨x.toArray⟩ W HXS.out)
      have HID : Hid (∀ W, Calls Tryd.prog 34 #[.string ⟨x.toArray⟩] W fun e w' => e = .returned (.bool (idleB (wordsL x))) ∧ Below W.heap.size W w') := Lib.hid (fun W => ridle_any ⟨x.toArray⟩ W HXS.out)
      have hln := sound_len HSN.out
      have hwl : (wordsL x).length ≤ 1099511627776 := by have := wordsL_len x; have := HXS.out; omega
      have HOK : Hid (OkS (wordsL x)) := Lib.hid (fun y hy => by have := words_small hy; have := HXS.out; unfold maxLen; omega)
      unfold lineL at HPD
      generalize wordsL x = A at *
      have HSD : Hid ((wordsN n A).2 = 0 → Sound (wordsN n A).1) := Lib.hid (words_sound HSN.out _)
      rcases hi : idleB A with _ | _
      · rw [hi] at HID
        by_cases hp : 0 < n.1
        · rw [decide_eq_true hp]
          have HR : Hid (∀ W ao cap, W.ownsRow (w1.heap.size + 1) 37 4 (.slice va n.2.2.length vc) n.2.2.length (n.2.2.flatMap encA) → w1.heap.size + 1 ≤ W.heap.size → Lst strV W ao A → A.length ≤ cap → Calls Tryd.prog 36 #[.agg #[.int .i64 n.1, .bool n.2.1, .slice va n.2.2.length vc], .slice ao A.length cap] W (TailRes (w1.heap.size + 1) (.slice va n.2.2.length vc) (wordsN n A) W)) := Lib.hid (fun W ao cap hOW hBW hlW hcW => by
            unfold wordsN
            rw [hi, if_neg (by decide), if_pos hp]
            exact rtail_any n.1 n.2.1 va vc n.2.2 ao cap _ A W hOW hBW hln hlW hcW hwl HOK.out)
          have HPOS : Hid ((wordsN n A).2 = 0 → 0 < (wordsN n A).1.1) := Lib.hid (fun h => by
            unfold wordsN at h ⊢
            rw [hi, if_neg (by decide), if_pos hp] at h ⊢
            exact right_pos (tailL_sound (sound_begun HSN.out hp) A h))
          generalize hrr : wordsN n A = r at *
          clear hrr hi hp
          obtain ⟨rn, re⟩ := r
          simp only at HPD HSD HR HPOS
          by_cases hre : re = 0
          · subst hre
            have HN := Lib.hid (HSD.out rfl)
            have HPP := Lib.hid (HPOS.out rfl)
            have HPN : Hid (parseL rn (k + 1) (L.drop (k + 1)) = parseL zeroN 0 L) := Lib.hid (by rw [← HP.out, HPD.out, if_pos rfl])
            go_wp2_with (first
              | (go_at_call 34; refine (HID.out _).mono ?_; rintro e w2 ⟨rfl, b2⟩; have z1 := cell_below b2 q1; have HG2 := Lib.hid ((b2.block _ (lt_whole HG.out)).trans HG.out); have HO2 := Lib.hid (own_below HO.out b2); have HK2 := Lib.hid (HK.out.trans (b2.mono HK.out.size)); clear b2)
              | (go_at_call 35; refine (HW.out _).mono ?_; rintro e w3 ⟨v3, rfl, o3, b3⟩; obtain ⟨ao3, cap3, rfl, hc3, l3, _⟩ := own_lst2 o3; have HL3 := Lib.hid l3; have HG3 := Lib.hid ((b3.block _ (lt_whole HG2.out)).trans HG2.out); have HO3 := Lib.hid (own_below HO2.out b3); have HK3 := Lib.hid (HK2.out.trans (b3.mono HK2.out.size)); obtain ⟨e0, e1, e2, _, _, _⟩ := netCells HG3.out; clear b3 l3 o3)
              | (go_at_call 36; refine (HR.out _ _ _ HO3.out (lt_whole HG3.out) HL3.out hc3).mono ?_; rintro e w4 (⟨_, v4, rfl, o4, b4⟩ | ⟨h, _⟩); rotate_left; exact absurd rfl h; obtain ⟨va4, vc4, rfl, _⟩ := own_row encA_len o4; have HG4 := Lib.hid (b4.old HG3.out (own_ne HO3.out HG3.out (by decide))); have HO4 := Lib.hid o4; have HK4 := Lib.hid (HK3.out.trans (b4.below HK3.out.size (fun i hi => by have := own_block HO3.out hi; omega))); obtain ⟨d0, d1, d2, g0, g1, g2⟩ := netCells HG4.out; unfold netV; clear o4 b4))
            have HG5 := Lib.hid (net_set HG4.out (.int .i64 rn.1) (.bool rn.2.1) (.slice va4 rn.2.2.length vc4))
            have HO5 := Lib.hid (own_net HO4.out HG4.out (by decide) (.int .i64 rn.1) (.bool rn.2.1) (.slice va4 rn.2.2.length vc4))
            have HK5 := Lib.hid (netSet HG4.out HK4.out (Nat.le_refl _) (.int .i64 rn.1) (.bool rn.2.1) (.slice va4 rn.2.2.length vc4)).2
            go_roundw
            case rel => exact ⟨k + 1, rn, va4, vc4, by omega, by go_num, by rw [decide_eq_true HPP.out], HN, HG5, HO5, HK5, HPN⟩
            case measure => simp [intOf]; omega
          · have hf2 : (re != 0) = true := by simpa using hre
            have hf1 : (re == 0) = false := by simpa using hre
            have HPN : Hid (parseL zeroN 0 L = (zeroN, k + 1, re)) := Lib.hid (by rw [← HP.out, HPD.out, if_neg hre])
            have HRE := Lib.hid hre
            clear hre
            go_wp2_with (first
              | (go_at_call 34; refine (HID.out _).mono ?_; rintro e w2 ⟨rfl, b2⟩; have z1 := cell_below b2 q1; have HG2 := Lib.hid ((b2.block _ (lt_whole HG.out)).trans HG.out); have HO2 := Lib.hid (own_below HO.out b2); have HK2 := Lib.hid (HK.out.trans (b2.mono HK.out.size)); clear b2)
              | (go_at_call 35; refine (HW.out _).mono ?_; rintro e w3 ⟨v3, rfl, o3, b3⟩; obtain ⟨ao3, cap3, rfl, hc3, l3, _⟩ := own_lst2 o3; have HL3 := Lib.hid l3; have HG3 := Lib.hid ((b3.block _ (lt_whole HG2.out)).trans HG2.out); have HO3 := Lib.hid (own_below HO2.out b3); have HK3 := Lib.hid (HK2.out.trans (b3.mono HK2.out.size)); obtain ⟨e0, e1, e2, _, _, _⟩ := netCells HG3.out; clear b3 l3 o3)
              | (go_at_call 36; refine (HR.out _ _ _ HO3.out (lt_whole HG3.out) HL3.out hc3).mono ?_; rintro e w4 (⟨h, _⟩ | ⟨_, x4, y4, va4, vl4, vc4, rfl, b4⟩); exact absurd h HRE.out; have HG4 := Lib.hid ((b4.block _ (lt_whole HG3.out)).trans HG3.out); have HK4 := Lib.hid (HK3.out.trans (b4.mono HK3.out.size)); obtain ⟨d0, d1, d2, g0, g1, g2⟩ := netCells HG4.out; clear b4; have HQ := Lib.hid (netSet HG4.out HK4.out (Nat.le_refl _) (.int .i64 x4) (.bool y4) (.slice va4 vl4 vc4)); have HZ5 := Lib.hid ((HQ.out.2.block _ (lt_whole HG1.out)).trans HG1.out); have HB5 := Lib.hid (HB1.out.trans (HQ.out.2.mono (by omega))); obtain ⟨i0, i1, i2, j0, j1, j2⟩ := netCells HZ5.out))
            obtain ⟨q, hBq⟩ := netSet HZ5.out HB5.out (Nat.le_refl _) (.int .i64 0) (.bool false) (.slice none 0 0)
            generalize World.setCell (World.setCell (World.setCell _ _ _) _ _) _ _ = W at *
            obtain ⟨k0, k1, k2, _, _, _⟩ := netCells q
            refine bodyPost_ret (v := .tuple #[.agg #[.int .i64 0, .bool false, .slice none 0 0], .int .i64 ((k : Int) + 1), .int .i64 re]) (by simp [results, Tryd.results16, go_sem, k0, k1, k2]) rfl ?_
            rw [HPN.out]
            exact ⟨_, rfl, World.ownsRow_nil _ _ _ _, hBq⟩

        · rw [decide_eq_false hp]
          have HR : Hid (∀ W ao cap, Lst strV W ao A → Calls Tryd.prog 37 #[.slice ao A.length cap] W fun e w' => e = .returned (.tuple #[netV (wordsN n A).1 (.slice none 0 0), .int .i64 (wordsN n A).2]) ∧ Below W.heap.size W w') := Lib.hid (fun W ao cap hlW => by
            unfold wordsN
            rw [hi, if_neg (by decide), if_neg hp]
            exact rhead_any ao cap A W hlW hwl HOK.out)
          have HPOS : Hid ((wordsN n A).2 = 0 → 0 < (wordsN n A).1.1) := Lib.hid (fun h => by
            unfold wordsN at h ⊢
            rw [hi, if_neg (by decide), if_neg hp] at h ⊢
            exact right_pos (headL_sound A h))
          have HNIL : Hid ((wordsN n A).1.2.2 = []) := Lib.hid (by
            unfold wordsN
            rw [hi, if_neg (by decide), if_neg hp]
            exact headL_nil A)
          generalize hrr : wordsN n A = r at *
          clear hrr hi hp
          obtain ⟨rn, re⟩ := r
          simp only at HPD HSD HR HPOS HNIL
          by_cases hre : re = 0
          · subst hre
            have HN := Lib.hid (HSD.out rfl)
            have HPP := Lib.hid (HPOS.out rfl)
            have HPN : Hid (parseL rn (k + 1) (L.drop (k + 1)) = parseL zeroN 0 L) := Lib.hid (by rw [← HP.out, HPD.out, if_pos rfl])
            go_wp2_with (first
              | (go_at_call 34; refine (HID.out _).mono ?_; rintro e w2 ⟨rfl, b2⟩; have z1 := cell_below b2 q1; have HG2 := Lib.hid ((b2.block _ (lt_whole HG.out)).trans HG.out); have HO2 := Lib.hid (own_below HO.out b2); have HK2 := Lib.hid (HK.out.trans (b2.mono HK.out.size)); clear b2)
              | (go_at_call 35; refine (HW.out _).mono ?_; rintro e w3 ⟨v3, rfl, o3, b3⟩; obtain ⟨ao3, cap3, rfl, hc3, l3, _⟩ := own_lst2 o3; have HL3 := Lib.hid l3; have HG3 := Lib.hid ((b3.block _ (lt_whole HG2.out)).trans HG2.out); have HO3 := Lib.hid (own_below HO2.out b3); have HK3 := Lib.hid (HK2.out.trans (b3.mono HK2.out.size)); obtain ⟨e0, e1, e2, _, _, _⟩ := netCells HG3.out; clear b3 l3 o3)
              | (go_at_call 37; refine (HR.out _ _ _ HL3.out).mono ?_; rintro e w4 ⟨rfl, b4⟩; have HG4 := Lib.hid ((b4.block _ (lt_whole HG3.out)).trans HG3.out); have HK4 := Lib.hid (HK3.out.trans (b4.mono HK3.out.size)); obtain ⟨d0, d1, d2, g0, g1, g2⟩ := netCells HG4.out; unfold netV; clear b4))
            have HG5 := Lib.hid (net_set HG4.out (.int .i64 rn.1) (.bool rn.2.1) (.slice none 0 0))
            have HK5 := Lib.hid (netSet HG4.out HK4.out (Nat.le_refl _) (.int .i64 rn.1) (.bool rn.2.1) (.slice none 0 0)).2
            go_roundw
            case rel => exact ⟨k + 1, rn, none, 0, by omega, by go_num, by rw [decide_eq_true HPP.out], HN, Lib.hid (by rw [HNIL.out]; exact HG5.out), Lib.hid (by rw [HNIL.out]; exact World.ownsRow_nil _ _ _ _), HK5, HPN⟩
            case measure => simp [intOf]; omega
          · have hf2 : (re != 0) = true := by simpa using hre
            have hf1 : (re == 0) = false := by simpa using hre
            have HPN : Hid (parseL zeroN 0 L = (zeroN, k + 1, re)) := Lib.hid (by rw [← HP.out, HPD.out, if_neg hre])
            have HRE := Lib.hid hre
            clear hre
            go_wp2_with (first
              | (go_at_call 34; refine (HID.out _).mono ?_; rintro e w2 ⟨rfl, b2⟩; have z1 := cell_below b2 q1; have HG2 := Lib.hid ((b2.block _ (lt_whole HG.out)).trans HG.out); have HO2 := Lib.hid (own_below HO.out b2); have HK2 := Lib.hid (HK.out.trans (b2.mono HK.out.size)); clear b2)
              | (go_at_call 35; refine (HW.out _).mono ?_; rintro e w3 ⟨v3, rfl, o3, b3⟩; obtain ⟨ao3, cap3, rfl, hc3, l3, _⟩ := own_lst2 o3; have HL3 := Lib.hid l3; have HG3 := Lib.hid ((b3.block _ (lt_whole HG2.out)).trans HG2.out); have HO3 := Lib.hid (own_below HO2.out b3); have HK3 := Lib.hid (HK2.out.trans (b3.mono HK2.out.size)); obtain ⟨e0, e1, e2, _, _, _⟩ := netCells HG3.out; clear b3 l3 o3)
              | (go_at_call 37; refine (HR.out _ _ _ HL3.out).mono ?_; rintro e w4 ⟨rfl, b4⟩; have HG4 := Lib.hid ((b4.block _ (lt_whole HG3.out)).trans HG3.out); have HK4 := Lib.hid (HK3.out.trans (b4.mono HK3.out.size)); obtain ⟨d0, d1, d2, g0, g1, g2⟩ := netCells HG4.out; unfold netV; clear b4; have HQ := Lib.hid (netSet HG4.out HK4.out (Nat.le_refl _) (.int .i64 rn.1) (.bool rn.2.1) (.slice none 0 0)); have HZ5 := Lib.hid ((HQ.out.2.block _ (lt_whole HG1.out)).trans HG1.out); have HB5 := Lib.hid (HB1.out.trans (HQ.out.2.mono (by omega))); obtain ⟨i0, i1, i2, j0, j1, j2⟩ := netCells HZ5.out))
            obtain ⟨q, hBq⟩ := netSet HZ5.out HB5.out (Nat.le_refl _) (.int .i64 0) (.bool false) (.slice none 0 0)
            generalize World.setCell (World.setCell (World.setCell _ _ _) _ _) _ _ = W at *
            obtain ⟨k0, k1, k2, _, _, _⟩ := netCells q
            refine bodyPost_ret (v := .tuple #[.agg #[.int .i64 0, .bool false, .slice none 0 0], .int .i64 ((k : Int) + 1), .int .i64 re]) (by simp [results, Tryd.results16, go_sem, k0, k1, k2]) rfl ?_
            rw [HPN.out]
            exact ⟨_, rfl, World.ownsRow_nil _ _ _ _, hBq⟩

      · have HPN : Hid (parseL n (k + 1) (L.drop (k + 1)) = parseL zeroN 0 L) := Lib.hid (by
          have := HPD.out
          unfold wordsN at this
          rw [hi, if_pos rfl] at this
          simp only [if_true] at this
          rw [← HP.out, this])
        rw [hi] at HID
        go_wp2_with (first
          | (go_at_call 34; refine (HID.out _).mono ?_; rintro e w2 ⟨rfl, b2⟩; have z1 := cell_below b2 q1; have HG2 := Lib.hid ((b2.block _ (lt_whole HG.out)).trans HG.out); have HO2 := Lib.hid (own_below HO.out b2); have HK2 := Lib.hid (HK.out.trans (b2.mono HK.out.size)); clear b2))
        go_roundw
        case rel => exact ⟨k + 1, n, va, vc, by omega, by go_num, rfl, HSN, HG2, HO2, HK2, HPN⟩
        case measure => simp [intOf]; omega
    · have hli : ¬ (k : Int) < (L.length : Int) := by omega
      have hpe : parseL zeroN 0 L = if 0 < n.1 then (n, 0, 0) else (zeroN, 0, 50) := by rw [← HP.out, List.drop_eq_nil_of_le (by omega)]; rfl
      obtain ⟨c0, c1, c2, f0, f1, f2⟩ := netCells HG.out
      have HZ := Lib.hid ((HK.out.block _ (lt_whole HG1.out)).trans HG1.out)
      have HKB := Lib.hid (HB1.out.trans (HK.out.mono (by omega)))
      obtain ⟨i0, i1, i2, j0, j1, j2⟩ := netCells HZ.out
      by_cases hp : 0 < n.1
      · rw [if_pos hp] at hpe
        have HPE := Lib.hid hpe
        rw [decide_eq_true hp]
        clear hpe hp
        go_wp2
        obtain ⟨q, hBq⟩ := netSet HZ.out HKB.out (Nat.le_refl _) (.int .i64 n.1) (.bool n.2.1) (.slice va n.2.2.length vc)
        have hO9 := own_net HO.out HZ.out (by decide) (.int .i64 n.1) (.bool n.2.1) (.slice va n.2.2.length vc)
        generalize World.setCell (World.setCell (World.setCell _ _ _) _ _) _ _ = W at *
        obtain ⟨k0, k1, k2, _, _, _⟩ := netCells q
        refine bodyPost_ret (v := .tuple #[.agg #[.int .i64 n.1, .bool n.2.1, .slice va n.2.2.length vc], .int .i64 0, .int .i64 0]) (by simp [results, Tryd.results16, go_sem, k0, k1, k2]) rfl ?_
        rw [HPE.out]
        exact ⟨_, rfl, own_mono hO9 (by omega), hBq⟩
      · rw [if_neg hp] at hpe
        have HPE := Lib.hid hpe
        rw [decide_eq_false hp]
        clear hpe hp
        go_wp2
        obtain ⟨q, hBq⟩ := netSet HZ.out HKB.out (Nat.le_refl _) (.int .i64 0) (.bool false) (.slice none 0 0)
        generalize World.setCell (World.setCell (World.setCell _ _ _) _ _) _ _ = W at *
        obtain ⟨k0, k1, k2, _, _, _⟩ := netCells q
        refine bodyPost_ret (v := .tuple #[.agg #[.int .i64 0, .bool false, .slice none 0 0], .int .i64 0, .int .i64 50]) (by simp [results, Tryd.results16, go_sem, k0, k1, k2]) rfl ?_
        rw [HPE.out]
        exact ⟨_, rfl, World.ownsRow_nil _ _ _ _, hBq⟩
end Go.Proofs.YtbciplfncnangaaDoor
