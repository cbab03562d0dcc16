/- The program's Parse: the network that a text says. -/
import Derived.Test.YtbciplfncnangaaDoorNLin
import Derived.Deep.RegionWith
namespace Go.Proofs.YtbciplfncnangaaDoor
open Go.RowKit Go.Shelf
set_option linter.unusedVariables false

theorem addline_any (n : NetT) (va : Option Addr) (vc : Nat) (ao : Option Addr) (cap B : Nat) (A : List (List UInt8)) (w : World) (hO : w.ownsRow B 37 4 (.slice va n.2.2.length vc) n.2.2.length (n.2.2.flatMap encA)) (hB : B ≤ w.heap.size) (hZ : n.2.2.length ≤ 200)
    (hl : Lst strV w ao A) (hcap : A.length ≤ cap) (hm : A.length ≤ 1099511627776) (hok : OkS A) :
    Calls Tryd.prog 31 #[.agg #[.int .i64 n.1, .bool n.2.1, .slice va n.2.2.length vc], .slice ao A.length cap] w (AddRes B (.slice va n.2.2.length vc) (wordsN n A) w) := by
  obtain ⟨n, h, Z⟩ := n
  unfold wordsN
  rcases hi : idleB A with _ | _
  · rw [if_neg (by decide)]
    simp only
    by_cases hp : 0 < n
    · rw [if_pos hp]
      rcases hy : arcLineB A with _ | _
      · rw [tailL_no hy]; exact addline_noarc n h va vc Z ao cap B A w hO hB hZ hl hcap hm hok hi hp hy
      · exact addline_arc n h va vc Z ao cap B A w hO hB hZ hl hcap hm hok hi hp hy
    · rw [if_neg hp]
      rcases hy : netLineB A with _ | _
      · rw [headL_no hy]; exact addline_nonet n h va vc Z ao cap B A w hO hB hZ hl hcap hm hok hi hp hy
      · exact addline_net n h va vc Z ao cap B A w hO hB hZ hl hcap hm hok hi hp hy
  · rw [if_pos rfl]; exact addline_idle n h va vc Z ao cap B A w hO hB hl hm hi
theorem mem_lens {L : List (List UInt8)} {x : List UInt8} (h : x ∈ L) : x.length ≤ lens L := by
  induction L with
  | nil => cases h
  | cons y r ih =>
    have e : lens (y :: r) = y.length + lens r := by simp [lens]
    rcases List.mem_cons.1 h with rfl | h
    · omega
    · have := ih h; omega
theorem words_small {l x : List UInt8} (h : x ∈ wordsL l) : x.length ≤ l.length := by
  have h1 := mem_lens h
  have h2 := lens_words l
  omega
theorem mem_flat {L : List (List UInt8)} {x : List UInt8} (h : x ∈ L) : x.length + 1 ≤ (flat L).length := by
  induction L with
  | nil => cases h
  | cons y r ih =>
    have e : flat (y :: r) = y ++ [10] ++ flat r := by simp [flat]
    rw [e, List.length_append, List.length_append, List.length_singleton]
    rcases List.mem_cons.1 h with rfl | h
    · omega
    · have := ih h; omega
theorem lines_small {l x : List UInt8} (h : x ∈ linesL l) : x.length ≤ l.length := by
  have h1 := mem_flat h
  have h2 := flat_len l
  omega
theorem sound_len {n : NetT} (h : Sound n) : n.2.2.length ≤ 200 := by
  rcases h with rfl | h
  · simp [zeroN]
  · exact h.2.1
theorem parse_drop {n : NetT} {k : Nat} {L : List (List UInt8)} (hk : k < L.length) : parseL n k (L.drop k) = if (lineL n L[k]).2 = 0 then parseL (lineL n L[k]).1 (k + 1) (L.drop (k + 1)) else (zeroN, k + 1, (lineL n L[k]).2) := by
  rw [List.drop_eq_getElem_cons hk]; rfl
/-- What Parse tells. -/
def ParRes (r : NetT × Nat × Int) (w : World) (en : Ending) (w' : World) : Prop :=
  ∃ v, en = .returned (.tuple #[netV r.1 v, .int .i64 (r.2.1 : Int), .int .i64 r.2.2]) ∧ w'.ownsRow w.heap.size 37 4 v r.1.2.2.length (r.1.2.2.flatMap encA) ∧ Below w.heap.size w w'
def PS (g b i : Nat) : Prop := i = g ∨ b ≤ i
theorem cell_of_block {w w' : World} {b o : Nat} (h : w'.heap[b]? = w.heap[b]?) : w'.cell? ⟨b, o, none⟩ = w.cell? ⟨b, o, none⟩ := by unfold World.cell?; simp only [h]
theorem below_undrew {w w' : World} (h : Below w.drew.heap.size w.drew w') : Below w.heap.size w w' := ⟨h.os, h.tape, h.output, h.size, h.block⟩
theorem kept_drew {S : Nat → Prop} {a b : World} (h : Kept S a b) : Kept S a b.drew := ⟨h.os, h.tape, h.output, h.size, h.block⟩
set_option maxRecDepth 100000 in
set_option maxHeartbeats 4000000 in
theorem parse_any (s : ByteArray) (w : World) (hs : s.size ≤ 1099511627776) : Calls Tryd.prog 15 #[.string s] w (ParRes (parseL zeroN 0 (linesL s.data.toList)) w) := by
  have HLS : Hid (∀ x ∈ linesL s.data.toList, x.length ≤ 1099511627776) := Lib.hid (fun x hx => by have := lines_small hx; rw [size_data] at this; omega)
  have hL : (linesL s.data.toList).length ≤ 1099511627776 := by have := pcs_len 10 s.data.toList; rw [size_data] at this; unfold linesL; omega
  have HLI := Lib.hid (fun W => lines_any s W hs)
  generalize linesL s.data.toList = L at *
  have HB0 := Lib.hid ((Below.refl w.heap.size w).alloc (Nat.le_refl _) (.cells #[.int .i64 0, .bool false, .slice none 0 0] 24))
  have HG0 : Hid ((w.alloc (.cells #[.int .i64 0, .bool false, .slice none 0 0] 24)).heap[w.heap.size]? = some (.cells #[.int .i64 0, .bool false, .slice none 0 0] 24 (0, 0))) := Lib.hid (heap_alloc_new _ _)
  go_enter Tryd.func15, Tryd.ntmps15
  go_wp2_with (go_at_call 30; refine (HLI.out _).mono ?_; rintro e w1 ⟨v1, rfl, o1, b1⟩; obtain ⟨ao1, cap1, rfl, hc1, l1, hlo1⟩ := own_lst2 o1; have HL1 := Lib.hid l1; have HLO := Lib.hid hlo1; have HG1 := Lib.hid ((b1.block _ (lt_whole HG0.out)).trans HG0.out); have HB1 := Lib.hid (HB0.out.trans (b1.mono HB0.out.size)); have HS1 := Lib.hid b1.size; clear b1 o1 l1 hlo1)
  have hs1 : w.heap.size + 1 ≤ w1.heap.size := by have := HS1.out; simpa using this
  have hlo : ∀ ad, ao1 = some ad → w.heap.size < ad.block := fun ad h => by have := HLO.out ad h; simp at this; omega
  have HLO2 := Lib.hid hlo
  clear hlo HLO HS1 HB0 HG0 HLI
  go_loopw [10] (fun i wr => ∃ (k : Nat) (n : NetT) (va : Option Addr) (vc : Nat), k ≤ L.length ∧ i = .int .i64 (k : Int) ∧ Hid (Sound n) ∧ Hid (wr.heap[w.heap.size]? = some (.cells #[.int .i64 n.1, .bool n.2.1, .slice va n.2.2.length vc] 24 (0, 0))) ∧ Hid (wr.ownsRow w1.heap.size 37 4 (.slice va n.2.2.length vc) n.2.2.length (n.2.2.flatMap encA)) ∧ Hid (Kept (PS w.heap.size w1.heap.size) w1 wr) ∧ Hid (parseL n k (L.drop k) = parseL zeroN 0 L)) (fun i _ => L.length - (intOf i).toNat)
  case atStart => exact ⟨0, zeroN, none, 0, Nat.zero_le _, rfl, Lib.hid (.inl rfl), HG1, Lib.hid (World.ownsRow_nil _ _ _ _), Lib.hid (Kept.refl _ _), Lib.hid rfl⟩
  case round =>
    obtain ⟨k, n, va, vc, hk, rfl, HSN, HG, HO, HK, HP⟩ := hrel
    have hsr := HK.out.size
    by_cases hlt : k < L.length
    · have hli : (k : Int) < (L.length : Int) := by omega
      obtain ⟨lb, lo, rfl, hlb, q0⟩ := HL1.out k hlt
      have hlo := HLO2.out _ rfl
      simp only at hlo
      have q1 : wr.cell? ⟨lb, lo + k, none⟩ = some (strV L[k]) := by
        have hb := HK.out.block lb hlb (by unfold PS; omega)
        rw [← q0]
        exact cell_of_block hb
      have HPD := Lib.hid (parse_drop (n := n) hlt)
      have HXS := Lib.hid (HLS.out _ (List.getElem_mem hlt))
      generalize L[k] = x at *
      unfold strV at q1
      clear q0
      obtain ⟨c0, c1, c2, f0, f1, f2⟩ := netCells HG.out
      have HW : Hid (∀ W, Calls Tryd.prog 32 #[.string ⟨x.toArray⟩] W fun e w' => ∃ v, e = .returned v ∧ w'.ownsRow W.heap.size 9 1 v (wordsL x).length ((wordsL x).map strV) ∧ Below W.heap.size W w') := Lib.hid (fun W => words_any ⟨x.toArray⟩ W HXS.out)
      have hln := sound_len HSN.out
      have hwl : (wordsL x).length ≤ 1099511627776 := by have := wordsL_len x; have := HXS.out; omega
      have HOK : Hid (OkS (wordsL x)) := Lib.hid (fun y hy => by have := words_small hy; have := HXS.out; unfold maxLen; omega)
      have HSD : Hid ((wordsN n (wordsL x)).2 = 0 → Sound (wordsN n (wordsL x)).1) := Lib.hid (words_sound HSN.out _)
      go_wp2_with fail
      have HA : Hid (∀ W ao cap, W.ownsRow w1.heap.size 37 4 (.slice va n.2.2.length vc) n.2.2.length (n.2.2.flatMap encA) → w1.heap.size ≤ W.heap.size → Lst strV W ao (wordsL x) → (wordsL x).length ≤ cap → Calls Tryd.prog 31 #[.agg #[.int .i64 n.1, .bool n.2.1, .slice va n.2.2.length vc], .slice ao (wordsL x).length cap] W (AddRes w1.heap.size (.slice va n.2.2.length vc) (wordsN n (wordsL x)) W)) := Lib.hid (fun W ao cap hOW hBW hlW hcW => addline_any n va vc ao cap w1.heap.size (wordsL x) W hOW hBW hln hlW hcW hwl HOK.out)
      unfold lineL at HPD
      generalize hrr : wordsN n (wordsL x) = r at *
      clear hrr
      generalize wordsL x = A at *
      obtain ⟨rn, re⟩ := r
      simp only at HPD HSD HA
      by_cases hre : re = 0
      · subst hre
        have HN := Lib.hid (HSD.out rfl)
        have HPN : Hid (parseL rn (k + 1) (L.drop (k + 1)) = parseL zeroN 0 L) := Lib.hid (by rw [← HP.out, HPD.out, if_pos rfl])
        go_region_with (first
          | (go_at_call 32; refine (HW.out _).mono ?_; rintro e w2 ⟨v2, rfl, o2, b2'⟩; have b2 := below_undrew b2'; clear b2'; obtain ⟨ao2, cap2, rfl, hc2, l2, _⟩ := own_lst2 o2; have HL2 := Lib.hid l2; have HO2 := Lib.hid (own_below (w := wr) HO.out b2); have HG2 := Lib.hid ((b2.block _ (lt_whole HG.out)).trans HG.out); have HK2 := Lib.hid (HK.out.trans (Kept.of_below (S := PS w.heap.size w1.heap.size) b2) (fun _ _ h => h)); obtain ⟨e0, e1, e2, _, _, _⟩ := netCells HG2.out; clear o2 l2 b2)
          | (go_at_call 31; refine (HA.out _ _ _ HO2.out (HK2.out.size) HL2.out hc2).mono ?_; rintro e w3 ⟨v3, rfl, o3, b3⟩; obtain ⟨va3, vc3, rfl, _⟩ := own_row encA_len o3; have HG3 := Lib.hid (b3.old HG2.out (own_ne HO2.out HG2.out (by decide))); have HO3 := Lib.hid o3; have HK3 := Lib.hid (HK2.out.trans b3 (fun i hi h => .inr (own_block HO2.out h))); obtain ⟨d0, d1, d2, g0, g1, g2⟩ := netCells HG3.out; unfold netV; clear o3 b3))
        all_goals
          have HG4 := Lib.hid (net_set HG3.out (.int .i64 rn.1) (.bool rn.2.1) (.slice va3 rn.2.2.length vc3))
          have HO4 := Lib.hid (own_net HO3.out HG3.out (by decide) (.int .i64 rn.1) (.bool rn.2.1) (.slice va3 rn.2.2.length vc3))
          have HK4 := Lib.hid (HK3.out.net (g := w.heap.size) (.inl (.inl rfl)) (.int .i64 rn.1) (.bool rn.2.1) (.slice va3 rn.2.2.length vc3))
          generalize World.setCell (World.setCell (World.setCell _ _ _) _ _) _ _ = w4 at *
          clear HG3 HO3 HK3 d0 d1 d2 g0 g1 g2 c0 c1 c2 f0 f1 f2
          go_wp2
          go_roundw
          case rel => exact ⟨k + 1, rn, va3, vc3, by omega, by go_num, HN, HG4, HO4, HK4, HPN⟩
          case measure => simp [intOf]; omega
      · have hf2 : (re != 0) = true := by simpa using hre
        have hf1 : (re == 0) = false := by simpa using hre
        have HPN : Hid (parseL zeroN 0 L = (zeroN, k + 1, re)) := Lib.hid (by rw [← HP.out, HPD.out, if_neg hre])
        clear hre
        go_region_with (first
          | (go_at_call 32; refine (HW.out _).mono ?_; rintro e w2 ⟨v2, rfl, o2, b2'⟩; have b2 := below_undrew b2'; clear b2'; obtain ⟨ao2, cap2, rfl, hc2, l2, _⟩ := own_lst2 o2; have HL2 := Lib.hid l2; have HO2 := Lib.hid (own_below (w := wr) HO.out b2); have HG2 := Lib.hid ((b2.block _ (lt_whole HG.out)).trans HG.out); have HK2 := Lib.hid (HK.out.trans (Kept.of_below (S := PS w.heap.size w1.heap.size) b2) (fun _ _ h => h)); obtain ⟨e0, e1, e2, _, _, _⟩ := netCells HG2.out; clear o2 l2 b2)
          | (go_at_call 31; refine (HA.out _ _ _ HO2.out (HK2.out.size) HL2.out hc2).mono ?_; rintro e w3 ⟨v3, rfl, o3, b3⟩; obtain ⟨va3, vc3, rfl, _⟩ := own_row encA_len o3; have HG3 := Lib.hid (b3.old HG2.out (own_ne HO2.out HG2.out (by decide))); have HO3 := Lib.hid o3; have HK3 := Lib.hid (HK2.out.trans b3 (fun i hi h => .inr (own_block HO2.out h))); obtain ⟨d0, d1, d2, g0, g1, g2⟩ := netCells HG3.out; unfold netV; clear o3 b3))
        all_goals
          have HG4 := Lib.hid (net_set HG3.out (.int .i64 rn.1) (.bool rn.2.1) (.slice va3 rn.2.2.length vc3))
          have HO4 := Lib.hid (own_net HO3.out HG3.out (by decide) (.int .i64 rn.1) (.bool rn.2.1) (.slice va3 rn.2.2.length vc3))
          have HK4 := Lib.hid (HK3.out.net (g := w.heap.size) (.inl (.inl rfl)) (.int .i64 rn.1) (.bool rn.2.1) (.slice va3 rn.2.2.length vc3))
          generalize World.setCell (World.setCell (World.setCell _ _ _) _ _) _ _ = w4 at *
          clear HG3 HO3 HK3 d0 d1 d2 g0 g1 g2 c0 c1 c2 f0 f1 f2
          obtain ⟨d0, d1, d2, g0, g1, g2⟩ := netCells HG4.out
          have q := net_set HG4.out (.int .i64 0) (.bool false) (.slice none 0 0)
          have HB5 := HK4.out.net (g := w.heap.size) (.inl (.inl rfl)) (.int .i64 0) (.bool false) (.slice none 0 0)
          go_wp2
          generalize World.setCell (World.setCell (World.setCell _ _ _) _ _) _ _ = w5 at *
          obtain ⟨k0, k1, k2, _, _, _⟩ := netCells q
          refine bodyPost_ret (v := .tuple #[.agg #[.int .i64 0, .bool false, .slice none 0 0], .int .i64 ((k : Int) + 1), .int .i64 re]) (by simp [results, Tryd.results15, go_sem, k0, k1, k2]) rfl ?_
          rw [HPN.out]
          exact ⟨_, rfl, World.ownsRow_nil _ _ _ _, HB1.out.trans (HB5.below (by omega) (fun i hi => by unfold PS at hi; omega))⟩
    · have hli : ¬ (k : Int) < (L.length : Int) := by omega
      have hpe : parseL zeroN 0 L = if 0 < n.1 then (n, 0, 0) else (zeroN, 0, 50) := by rw [← HP.out, List.drop_eq_nil_of_le (by omega)]; rfl
      obtain ⟨c0, c1, c2, f0, f1, f2⟩ := netCells HG.out
      have HKB := Lib.hid (HB1.out.trans (HK.out.below (by omega) (fun i hi => by unfold PS at hi; omega)))
      by_cases hp : 0 < n.1
      · rw [if_pos hp] at hpe
        have HPE := Lib.hid hpe
        have HPB : Hid (decide (0 < n.1) = true) := Lib.hid (decide_eq_true hp)
        clear hpe hp
        go_wp2_with (go_at_call 33; refine (isbegun_is n.1 _ _ _ _ true _ HPB.out).mono ?_; rintro e wb ⟨rfl, b2⟩; have HG2 := Lib.hid ((b2.block _ (lt_whole HG.out)).trans HG.out); have HO2 := Lib.hid (own_below HO.out b2); have HB2 := Lib.hid (HKB.out.trans (b2.mono HKB.out.size)); clear b2; obtain ⟨d0, d1, d2, g0, g1, g2⟩ := netCells HG2.out)
        obtain ⟨q, hBq⟩ := netSet HG2.out HB2.out (Nat.le_refl _) (.int .i64 n.1) (.bool n.2.1) (.slice va n.2.2.length vc)
        have hO9 := own_net HO2.out HG2.out (by decide) (.int .i64 n.1) (.bool n.2.1) (.slice va n.2.2.length vc)
        generalize World.setCell (World.setCell (World.setCell _ _ _) _ _) _ _ = W at *
        obtain ⟨k0, k1, k2, _, _, _⟩ := netCells q
        refine bodyPost_ret (v := .tuple #[.agg #[.int .i64 n.1, .bool n.2.1, .slice va n.2.2.length vc], .int .i64 0, .int .i64 0]) (by simp [results, Tryd.results15, go_sem, k0, k1, k2]) rfl ?_
        rw [HPE.out]
        exact ⟨_, rfl, own_mono hO9 (by omega), hBq⟩
      · rw [if_neg hp] at hpe
        have HPE := Lib.hid hpe
        have HPB : Hid (decide (0 < n.1) = false) := Lib.hid (decide_eq_false hp)
        clear hpe hp
        go_wp2_with (go_at_call 33; refine (isbegun_is n.1 _ _ _ _ false _ HPB.out).mono ?_; rintro e wb ⟨rfl, b2⟩; have HG2 := Lib.hid ((b2.block _ (lt_whole HG.out)).trans HG.out); have HB2 := Lib.hid (HKB.out.trans (b2.mono HKB.out.size)); clear b2; obtain ⟨d0, d1, d2, g0, g1, g2⟩ := netCells HG2.out)
        obtain ⟨q, hBq⟩ := netSet HG2.out HB2.out (Nat.le_refl _) (.int .i64 0) (.bool false) (.slice none 0 0)
        generalize World.setCell (World.setCell (World.setCell _ _ _) _ _) _ _ = W at *
        obtain ⟨k0, k1, k2, _, _, _⟩ := netCells q
        refine bodyPost_ret (v := .tuple #[.agg #[.int .i64 0, .bool false, .slice none 0 0], .int .i64 0, .int .i64 50]) (by simp [results, Tryd.results15, go_sem, k0, k1, k2]) rfl ?_
        rw [HPE.out]
        exact ⟨_, rfl, World.ownsRow_nil _ _ _ _, hBq⟩
end Go.Proofs.YtbciplfncnangaaDoor
