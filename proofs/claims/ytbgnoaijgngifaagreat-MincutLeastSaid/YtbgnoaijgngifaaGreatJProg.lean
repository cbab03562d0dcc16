/- Package mincut's own functions: the side that has a level, and what leaves a side. -/
import Derived.Test.YtbgnoaijgngifaaGreatJCap
import Derived.Test.YtbgnoaijgngifaaGreatJSide
import Derived.Test.YtbgnoaijgngifaaGreatBB
namespace Go.Proofs.YtbgnoaijgngifaaGreat
open Go.RowKit
set_option linter.unusedVariables false

/-- The first t nodes are looked at. -/
def sideD (D : List Int) (t : Nat) : List Bool := (D.take t).map (fun d => decide (0 ≤ d)) ++ List.replicate (D.length - t) false
theorem sideD_zero (D : List Int) : sideD D 0 = List.replicate D.length false := by simp [sideD]
theorem sideD_full (D : List Int) : sideD D D.length = D.map fun d => decide (0 ≤ d) := by simp [sideD]
theorem sideD_len {D : List Int} {t : Nat} (h : t ≤ D.length) : (sideD D t).length = D.length := by simp [sideD]; omega
theorem sideD_at {D : List Int} {t : Nat} (h : t < D.length) : (sideD D t)[t]? = some false := by
  unfold sideD
  rw [List.getElem?_append_right (by simp; omega), List.length_map, List.length_take, List.getElem?_replicate, if_pos (by omega)]
theorem sideD_set {D : List Int} {t : Nat} (h : t < D.length) : (sideD D t).set t (decide (0 ≤ D[t])) = sideD D (t + 1) := by
  unfold sideD
  rw [List.set_append_right _ _ (by simp; omega), List.length_map, List.length_take, show t - min t D.length = 0 by omega, show D.length - t = (D.length - (t + 1)) + 1 by omega, List.replicate_succ, List.set_cons_zero, List.take_succ_eq_append_getElem h, List.map_append, List.append_assoc]
  rfl
set_option maxRecDepth 100000 in
set_option maxHeartbeats 2000000 in
theorem sideof_at (D : List Int) (da : Option Addr) (dc : Nat) (w : World) (hd : Lst encI w da D) (h0 : 0 < D.length) (hl : D.length ≤ 50) (hn : ∀ d ∈ D, -1 ≤ d) :
    Calls Tryz.prog 22 #[.slice da D.length dc] w fun e w' => ∃ a c, e = .returned (.slice a D.length c) ∧ Lst encB w' a (D.map fun d => decide (0 ≤ d)) ∧ Below w.heap.size w w' := by
  have HD := Lib.hid hd
  have HNN := Lib.hid hn
  clear hd hn
  go_enter Tryz.func22, Tryz.ntmps22
  go_wp2_with (first
    | (at_make; refine wpList_make_L (enc := encB) false Tryz.underlying26 infoBool rfl (by omega) rfl _ _ rfl D.length rfl rfl (by omega) ?_; intro w2 ho2 hb2; have HO2 := Lib.hid ho2; have HB2 := Lib.hid hb2; clear ho2 hb2))
  go_loopw [10] (fun i wr => ∃ t : Nat, t ≤ D.length ∧ i = .int .i64 (t : Int) ∧ Hid (Below w.heap.size w wr) ∧ Hid (OwnL encB wr w.heap.size 4 (.slice (some ⟨w.heap.size, 0, none⟩) D.length D.length) (sideD D t))) (fun i _ => D.length - (intOf i).toNat)
  case atStart => exact ⟨0, Nat.zero_le _, rfl, HB2, Lib.hid (by rw [sideD_zero]; exact HO2.out)⟩
  case round =>
    obtain ⟨t, ht, rfl, HB, HO⟩ := hrel
    by_cases hlt : t < D.length
    · have hli : (t : Int) < (D.length : Int) := by omega
      obtain ⟨hc3, hf3⟩ := HO.out.cell (sideD_at hlt)
      obtain ⟨db, dx, e, hdb, d0⟩ := (HD.out.below HB.out) t hlt
      cases e
      have hnn := HNN.out _ (List.getElem_mem hlt)
      have HST := Lib.hid (sideD_set hlt)
      unfold encB at hc3
      unfold encI at d0
      generalize D[t] = x at *
      have hx : (x != -1) = decide (0 ≤ x) := by
        by_cases h : x = -1
        · subst h; rfl
        · rw [decide_eq_true (by omega)]; simpa using h
      have HX := Lib.hid hx
      clear hx
      go_wp2
      go_roundw
      case rel => exact ⟨t + 1, by omega, by go_num, Lib.hid (below_set HB.out (Nat.le_refl _) _), Lib.hid (by rw [HX.out, ← HST.out]; exact HO.out.put t (decide (0 ≤ x)))⟩
      case measure => simp [intOf]; omega
    · have hli : ¬ (t : Int) < (D.length : Int) := by omega
      obtain rfl : t = D.length := by omega
      have HLS := HO.out.lstK
      rw [sideD_full] at HLS
      have HL := Lib.hid HLS
      clear HLS
      go_wp2
      go_ret
      exact ⟨_, ⟨_, rfl⟩, HL.out, HB.out⟩
section
variable (n : Int) (b : Bool) (ao so : Option Addr) (cap sc : Nat) (Z : List ArcT) (S : List Bool)
set_option maxRecDepth 100000 in
set_option maxHeartbeats 4000000 in
theorem leaving_at (v : Nat) (w : World) (h : Row encA 4 w ao Z) (hs : Lst encB w so S) (hW : WideNet Z S.length) :
    Calls Tryz.prog 23 #[.agg #[.int .i64 n, .bool b, .slice ao Z.length cap], .int .i64 (v : Int), .slice so S.length sc] w fun e w' => e = .returned (.int .i64 (leaveK Z (sideB S) v Z.length)) ∧ Below w.heap.size w w' := by
  have hb00 := (Below.refl _ w).alloc (Nat.le_refl _) (.cells #[.int .i64 n, .bool b, .slice ao Z.length cap] 24)
  have HB0 := Lib.hid hb00
  have HN0 := Lib.hid (heap_alloc_new w (.cells #[.int .i64 n, .bool b, .slice ao Z.length cap] 24))
  have HR0 := Lib.hid (h.below' hb00)
  have HS0 := Lib.hid (hs.below hb00)
  have HWN := Lib.hid hW
  have hzl := hW.len
  have x2 := cell_whole HN0.out 2
  clear h hs hW hb00
  obtain ⟨W, hW⟩ : ∃ W, w.alloc (.cells #[.int .i64 n, .bool b, .slice ao Z.length cap] 24) = W := ⟨_, rfl⟩
  rw [hW] at HB0 HN0 HR0 HS0
  have HW := Lib.hid hW
  clear hW
  go_enter Tryz.func23, Tryz.ntmps23
  go_wp2
  rw [HW.out]
  have HWS : Hid (w.heap.size ≤ W.heap.size) := Lib.hid HB0.out.size
  clear HW x2
  go_loopw [7, 13] (fun k x wr => ∃ m : Nat, m ≤ Z.length ∧ x = .int .i64 (m : Int) ∧ k = .int .i64 (leaveK Z (sideB S) v m) ∧ Hid (Below W.heap.size W wr)) (fun _ x _ => Z.length - (intOf x).toNat)
  case atStart => exact ⟨0, Nat.zero_le _, rfl, rfl, Lib.hid (Below.refl _ _)⟩
  case round =>
    obtain ⟨m, hm, rfl, rfl, HB⟩ := hrel
    have hk1 := leaveK_bd (S := sideB S) (v := v) HWN.out.caps m
    have hkb : 0 ≤ leaveK Z (sideB S) v m ∧ leaveK Z (sideB S) v m ≤ 219902325555200000 := by omega
    clear hk1
    by_cases hlt : m < Z.length
    · have hli : (m : Int) < (Z.length : Int) := by omega
      have ha : Z[m]? = some Z[m] := List.getElem?_eq_getElem hlt
      have hmem := List.mem_of_getElem? ha
      obtain ⟨h1, h2⟩ := HWN.out.ends _ hmem
      obtain ⟨hf, ht⟩ := HWN.out.lt _ hmem
      have hcb := HWN.out.caps _ hmem
      unfold capN at hcb
      have HST := Lib.hid (leaveK_succ (S := sideB S) (v := v) ha)
      obtain ⟨ab, ax, e, hab, d0, d1, d2, d3⟩ := arc_at (HR0.out.below' HB.out) ha
      cases e
      rw [h1] at d0
      rw [h2] at d1
      obtain ⟨sb, sx, e, hsb, s1⟩ := (HS0.out.below HB.out) _ ht
      cases e
      unfold encB at s1
      have hsd : sideB S (toN Z[m]) = S[toN Z[m]] := sideB_at ht
      rw [hsd] at HST
      unfold capN at HST
      clear h1 h2 ha hmem hsd
      generalize S[toN Z[m]] = q at *
      generalize Z[m] = a at *
      generalize frN a = x at *
      generalize toN a = y at *
      generalize a.2.2.1 = c at *
      generalize a.2.2.2 = u at *
      have hyi : (y : Int) < (S.length : Int) := by omega
      have hBN : Hid (Below W.heap.size W (wr.alloc (.cells #[.int .i64 (x : Int), .int .i64 (y : Int), .int .i64 c, .int .i64 u] 42))) := Lib.hid (HB.out.alloc HB.out.size _)
      by_cases hx : x = v
      · subst hx
        cases q
        · have HS2 : Hid (leaveK Z (sideB S) x (m + 1) = leaveK Z (sideB S) x m + c) := Lib.hid (by rw [HST.out, if_pos ⟨rfl, rfl⟩])
          clear HST
          generalize leaveK Z (sideB S) x m = k at *
          go_wp2
          go_roundw
          case rel => exact ⟨m + 1, by omega, by go_num, by rw [HS2.out], hBN⟩
          case measure => simp [intOf]; omega
        · have HS2 : Hid (leaveK Z (sideB S) x (m + 1) = leaveK Z (sideB S) x m) := Lib.hid (by rw [HST.out, if_neg (fun h => by cases h.2)]; omega)
          clear HST
          generalize leaveK Z (sideB S) x m = k at *
          go_wp2
          go_roundw
          case rel => exact ⟨m + 1, by omega, by go_num, by rw [HS2.out], hBN⟩
          case measure => simp [intOf]; omega
      · have HS2 : Hid (leaveK Z (sideB S) v (m + 1) = leaveK Z (sideB S) v m) := Lib.hid (by rw [HST.out, if_neg (fun h => hx h.1)]; omega)
        have hf1 : ((x : Int) == (v : Int)) = false := by simp; omega
        have hf3 : (x == v) = false := by simp; omega
        clear HST hx
        generalize leaveK Z (sideB S) v m = k at *
        go_wp2
        go_roundw
        case rel => exact ⟨m + 1, by omega, by go_num, by rw [HS2.out], hBN⟩
        case measure => simp [intOf]; omega
    · have hli : ¬ (m : Int) < (Z.length : Int) := by omega
      obtain rfl : m = Z.length := by omega
      obtain ⟨k, hk⟩ : ∃ k, leaveK Z (sideB S) v Z.length = k := ⟨_, rfl⟩
      have HC := Lib.hid hk
      rw [hk] at hkb ⊢
      clear hk
      go_wp2
      go_ret
      exact ⟨by rw [HC.out]; rfl, HB0.out.trans (HB.out.mono HWS.out)⟩
set_option maxRecDepth 100000 in
set_option maxHeartbeats 4000000 in
theorem capof_at (w : World) (h : Row encA 4 w ao Z) (hs : Lst encB w so S) (hW : WideNet Z S.length) :
    Calls Tryz.prog 11 #[.agg #[.int .i64 n, .bool b, .slice ao Z.length cap], .slice so S.length sc] w fun e w' => e = .returned (.int .i64 (capS Z (sideB S))) ∧ Below w.heap.size w w' := by
  have hb00 := (Below.refl _ w).alloc (Nat.le_refl _) (.cells #[.int .i64 n, .bool b, .slice ao Z.length cap] 24)
  have HB0 := Lib.hid hb00
  have HN0 := Lib.hid (heap_alloc_new w (.cells #[.int .i64 n, .bool b, .slice ao Z.length cap] 24))
  have HR0 := Lib.hid (h.below' hb00)
  have HS0 := Lib.hid (hs.below hb00)
  have HWN := Lib.hid hW
  have hnl := hW.nodes
  have HND := Lib.hid (node_cap (S := sideB S) (m := S.length) (fun a ha => (hW.lt a ha).1) Z.length)
  have HLE := Lib.hid (fun m => node_le (S := sideB S) (m := m) (fun a ha => (hW.caps a ha).1) Z.length)
  have HCB := Lib.hid (capK_bd (S := sideB S) hW.caps Z.length)
  have hzl := hW.len
  clear h hs hW hb00
  obtain ⟨W, hW⟩ : ∃ W, w.alloc (.cells #[.int .i64 n, .bool b, .slice ao Z.length cap] 24) = W := ⟨_, rfl⟩
  rw [hW] at HB0 HN0 HR0 HS0
  have HW := Lib.hid hW
  clear hW
  go_enter Tryz.func11, Tryz.ntmps11
  go_wp2
  rw [HW.out]
  have HWS : Hid (w.heap.size ≤ W.heap.size) := Lib.hid HB0.out.size
  clear HW
  go_loopw [5, 10] (fun k x wr => ∃ m : Nat, m ≤ S.length ∧ x = .int .i64 (m : Int) ∧ k = .int .i64 (nodeK Z (sideB S) Z.length m) ∧ Hid (Below W.heap.size W wr)) (fun _ x _ => S.length - (intOf x).toNat)
  case atStart => exact ⟨0, Nat.zero_le _, rfl, rfl, Lib.hid (Below.refl _ _)⟩
  case round =>
    obtain ⟨m, hm, rfl, rfl, HB⟩ := hrel
    by_cases hlt : m < S.length
    · have hli : (m : Int) < (S.length : Int) := by omega
      have hk0 := HLE.out m
      have hk1 := HLE.out (m + 1)
      have hcb := HCB.out
      have hn2 := kept_box HN0.out HB.out
      have x0 := cell_whole hn2 0
      have x1 := cell_whole hn2 1
      have x2 := cell_whole hn2 2
      obtain ⟨sb, sx, e, hsb, s0⟩ := (HS0.out.below HB.out) m hlt
      cases e
      unfold encB at s0
      have hst : nodeK Z (sideB S) Z.length (m + 1) = nodeK Z (sideB S) Z.length m + if S[m] = true then leaveK Z (sideB S) m Z.length else 0 := by
        show nodeK Z (sideB S) Z.length m + (if sideB S m = true then _ else 0) = _
        rw [sideB_at hlt]
      rw [hst] at hk1
      have HST := Lib.hid hst
      have hkb : 0 ≤ nodeK Z (sideB S) Z.length m ∧ nodeK Z (sideB S) Z.length m ≤ 219902325555200000 := by omega
      have HRr := Lib.hid (HR0.out.below' HB.out)
      have HSr := Lib.hid (HS0.out.below HB.out)
      clear hst hn2 hk0
      generalize S[m] = q at *
      cases q
      · have HS2 : Hid (nodeK Z (sideB S) Z.length (m + 1) = nodeK Z (sideB S) Z.length m) := Lib.hid (by rw [HST.out]; simp)
        clear HST hk1 hcb
        generalize nodeK Z (sideB S) Z.length m = k at *
        go_wp2
        go_roundw
        case rel => exact ⟨m + 1, by omega, by go_num, by rw [HS2.out], HB⟩
        case measure => simp [intOf]; omega
      · have HS2 : Hid (nodeK Z (sideB S) Z.length (m + 1) = nodeK Z (sideB S) Z.length m + leaveK Z (sideB S) m Z.length) := Lib.hid (by rw [HST.out]; simp)
        rw [if_pos rfl] at hk1
        have hkb2 : 0 ≤ nodeK Z (sideB S) Z.length m + leaveK Z (sideB S) m Z.length ∧ nodeK Z (sideB S) Z.length m + leaveK Z (sideB S) m Z.length ≤ 219902325555200000 := by omega
        clear HST hk1 hcb
        obtain ⟨l, hl⟩ : ∃ l, leaveK Z (sideB S) m Z.length = l := ⟨_, rfl⟩
        rw [hl] at hkb2 HS2
        have HL := Lib.hid hl
        clear hl
        generalize nodeK Z (sideB S) Z.length m = k at *
        go_wp2_with (first
          | (go_at_call 23; refine (leaving_at n b ao (some ⟨sb, sx, none⟩) cap sc Z S m _ HRr.out HSr.out HWN.out).mono ?_; rintro e w5 ⟨rfl, hb5⟩; rw [HL.out]; have HB5 := Lib.hid (HB.out.trans (hb5.mono HB.out.size)); clear hb5))
        go_roundw
        case rel => exact ⟨m + 1, by omega, by go_num, by rw [HS2.out], HB5⟩
        case measure => simp [intOf]; omega
    · have hli : ¬ (m : Int) < (S.length : Int) := by omega
      obtain rfl : m = S.length := by omega
      have HC : Hid (capS Z (sideB S) = nodeK Z (sideB S) Z.length S.length) := Lib.hid (by rw [HND.out]; rfl)
      generalize nodeK Z (sideB S) Z.length S.length = k at *
      go_wp2
      go_ret
      exact ⟨by rw [HC.out]; rfl, HB0.out.trans (HB.out.mono HWS.out)⟩
end
end Go.Proofs.YtbgnoaijgngifaaGreat
