/- The walk of statement PileOrders: for any pairs it returns true, and only new memory is made. -/
import Derived.Test.YtfcpdknonhgnoaaPSorts
namespace Go.Proofs.Ytfcpdknonhgnoaa
open Go.RowKit
set_option linter.unusedVariables false

theorem own_kept {S : Nat → Prop} {w w' : World} {base : Nat} {v : Value} {n : Nat} {xs : List Value} (h : w.ownsRow base 34 2 v n xs) (k : Kept S w w') (hs : ∀ i, S i → i < base) : w'.ownsRow base 34 2 v n xs := by
  refine ⟨h.1, ?_⟩
  rcases h.2 with hn | ⟨g, cap, cur, rfl, hb, hgg, rest⟩
  · exact .inl hn
  · exact .inr ⟨g, cap, cur, rfl, hb, k.old hgg (fun hS => by have := hs g hS; omega), rest⟩
theorem eqp_yes (x : Int × Int) (W : World) : (binOp .eql 34 (.agg #[.int .i64 x.1, .int .i64 x.2]) (.agg #[.int .i64 x.1, .int .i64 x.2])).run Try.prog W = .ok (.bool true) W := by
  rw [eq_pair]; simp
theorem eqp_no {x y : Int × Int} (h : y ≠ x) (W : World) : (binOp .eql 34 (.agg #[.int .i64 y.1, .int .i64 y.2]) (.agg #[.int .i64 x.1, .int .i64 x.2])).run Try.prog W = .ok (.bool false) W := by
  rw [eq_pair]
  have : (y.1 == x.1 && y.2 == x.2) = false := by
    rw [Bool.eq_false_iff]
    intro e
    simp at e
    exact h (Prod.ext e.1 e.2)
  rw [this]
theorem one_pair1 {w : World} {o : Obj} {y : Int × Int} : ∀ j, j < [y].length → ((w.alloc o).alloc (.cells #[.int .i64 y.1, .int .i64 y.2] 34)).cell? ⟨w.heap.size + 1, 0 + j * 2, none⟩ = some (.int .i64 ([y].getD j (0, 0)).1) ∧ ((w.alloc o).alloc (.cells #[.int .i64 y.1, .int .i64 y.2] 34)).cell? ⟨w.heap.size + 1, 0 + j * 2 + 1, none⟩ = some (.int .i64 ([y].getD j (0, 0)).2) := by
  have h := one_pair (w := w.alloc o) (y := y)
  rw [show (w.alloc o).heap.size = w.heap.size + 1 by simp] at h
  exact h
theorem rp_cell' {w : World} {ab ax : Nat} {Z : List (Int × Int)} (h : RP w (some ⟨ab, ax, none⟩) Z) {i : Nat} {x : Int × Int} (hi : i < Z.length) (hx : Z.getD i (0, 0) = x) : w.cell? ⟨ab, ax + i * 2, none⟩ = some (.int .i64 x.1) ∧ w.cell? ⟨ab, ax + i * 2 + 1, none⟩ = some (.int .i64 x.2) := by
  obtain ⟨b', o', e, _, c0, c1⟩ := h i hi
  cases e
  rw [hx] at c0 c1
  exact ⟨c0, c1⟩
theorem rp_cell {w : World} {g : Nat} {Z : List (Int × Int)} (h : RP w (some ⟨g, 0, none⟩) Z) {i : Nat} {x : Int × Int} (hi : i < Z.length) (hx : Z.getD i (0, 0) = x) : w.cell? ⟨g, i * 2, none⟩ = some (.int .i64 x.1) ∧ w.cell? ⟨g, i * 2 + 1, none⟩ = some (.int .i64 x.2) := by
  have := rp_cell' h hi hx
  rwa [Nat.zero_add] at this
/-- How often a pair stands ahead of place k. -/
def cnt (x : Int × Int) (L : List (Int × Int)) (k : Nat) : Nat := (L.take k).count x
theorem cnt_zero (x : Int × Int) (L : List (Int × Int)) : cnt x L 0 = 0 := by simp [cnt]
theorem cnt_le (x : Int × Int) (L : List (Int × Int)) (k : Nat) : cnt x L k ≤ k := Nat.le_trans List.count_le_length (by simp; omega)
theorem cnt_yes {x : Int × Int} {L : List (Int × Int)} {k : Nat} (h : k < L.length) (e : L.getD k (0, 0) = x) : cnt x L (k + 1) = cnt x L k + 1 := by
  unfold cnt; rw [← take_snocP h, e, List.count_append]; simp
theorem cnt_no {x : Int × Int} {L : List (Int × Int)} {k : Nat} (h : k < L.length) (e : L.getD k (0, 0) ≠ x) : cnt x L (k + 1) = cnt x L k := by
  unfold cnt; rw [← take_snocP h, List.count_append, List.count_singleton]
  rw [if_neg (by simpa using e)]; omega
theorem orders_long (ao : Option Addr) (len cap : Nat) (w : World) (h : 200 < len) (hm : len ≤ maxLen) :
    Calls Try.prog 6 #[.slice ao len cap] w fun e w' => e = .returned (.bool true) ∧ Below w.heap.size w w' := by
  unfold maxLen at hm
  go_enter Try.func6, Try.ntmps6
  go_wp2_with (go_at_call 8; refine (awake_any _).mono ?_; rintro e w1 ⟨rfl, hb1⟩)
  go_ret
  exact ⟨rfl, hb1⟩
/-- The pile, made behind w0, and the list. -/
def OInv (w0 w : World) (ab ax : Nat) (Z : List (Int × Int)) (b : Nat) (G : Option Nat) (L : List (Int × Int)) : Prop :=
  Pl w b G 200 L ∧ RP w (some ⟨ab, ax, none⟩) Z ∧ Below w0.heap.size w0 w ∧ w0.heap.size ≤ b ∧ (∀ g, G = some g → w0.heap.size ≤ g) ∧ ab < w0.heap.size
section
variable {w0 w w' : World} {ab ax : Nat} {Z : List (Int × Int)} {b : Nat} {G G' : Option Nat} {L L' : List (Int × Int)}
theorem OInv.next {S : Nat → Prop} (h : OInv w0 w ab ax Z b G L) (k : Kept S w w') (hs : ∀ i, S i → w0.heap.size ≤ i) (hq : Pl w' b G' 200 L') (hG : G' = G ∨ ∃ k, G' = some k ∧ w.heap.size ≤ k) : OInv w0 w' ab ax Z b G' L' := by
  obtain ⟨h1, h2, h3, h4, h5, h6⟩ := h
  have hb : Below w0.heap.size w w' := k.below h3.size hs
  refine ⟨hq, h2.below' hb (fun ad e _ => by cases e; exact h6), h3.trans hb, h4, ?_, h6⟩
  intro g hg
  rcases hG with rfl | ⟨k, rfl, hk⟩
  · exact h5 g hg
  · cases hg; exact Nat.le_trans h3.size hk
theorem OInv.below (h : OInv w0 w ab ax Z b G L) (k : Below w.heap.size w w') : OInv w0 w' ab ax Z b G L := by
  have k' := Kept.of_below (S := fun _ => False) k
  exact h.next k' (fun _ h => h.elim) (h.1.kept k' (fun h => h) (fun _ _ h => h)) (.inl rfl)
theorem OInv.cell (h : OInv w0 w ab ax Z b G L) {i : Nat} {x : Int × Int} (hi : i < Z.length) (hx : Z.getD i (0, 0) = x) : w.cell? ⟨ab, ax + i * 2, none⟩ = some (.int .i64 x.1) ∧ w.cell? ⟨ab, ax + i * 2 + 1, none⟩ = some (.int .i64 x.2) := by
  obtain ⟨b', o', e, _, c0, c1⟩ := h.2.1 i hi
  cases e
  rw [hx] at c0 c1
  exact ⟨c0, c1⟩
end
set_option maxRecDepth 100000 in
set_option maxHeartbeats 8000000 in
theorem orders_some (ab ax cap : Nat) (Z : List (Int × Int)) (w : World) (h200 : Z.length ≤ 200) (h0 : 0 < Z.length) (hr : RP w (some ⟨ab, ax, none⟩) Z) (hab : ab < w.heap.size) :
    Calls Try.prog 6 #[.slice (some ⟨ab, ax, none⟩) Z.length cap] w fun e w' => e = .returned (.bool true) ∧ Below w.heap.size w w' := by
  have HR := Lib.hid hr
  clear hr
  have hd : decide ((200 : Int) < (Z.length : Int)) = false := decide_eq_false (by omega)
  go_enter Try.func6, Try.ntmps6
  go_wp2_with (first
    | (go_at_call 8; refine (awake_any _).mono ?_; rintro e w1 ⟨rfl, hb1⟩; have HB1 := Lib.hid hb1; clear hb1)
    | (go_at_call 9; refine (new_yes 200 _ (by omega)).mono ?_; rintro e w2 ⟨b, hb, rfl, hq2, hk2⟩; have HI : Hid (OInv w w2 ab ax Z b none []) := Lib.hid (by have hbb := HB1.out.trans (hk2.mono HB1.out.size); exact ⟨hq2, HR.out.below' hbb (fun ad e _ => by cases e; exact hab), hbb, Nat.le_trans HB1.out.size hb, (fun g h => by cases h), hab⟩); clear hq2 hk2 HB1 hb))
  clear hd
  go_loopw [6] (fun si wr => ∃ (i : Nat) (L : List (Int × Int)) (G : Option Nat), i ≤ Z.length ∧ Hid (OInv w wr ab ax Z b G L) ∧ Hid (L.Perm (Z.take i)) ∧ si = .int .i64 (i : Int)) (fun si _ => Z.length - (intOf si).toNat)
  case atStart => exact ⟨0, [], none, by omega, HI, Lib.hid (List.Perm.refl _), rfl⟩
  case round =>
    clear HI HR
    obtain ⟨i, L, G, hi, HI, HPM, rfl⟩ := hrel
    by_cases hlt : i < Z.length
    · have hli : (i : Int) < (Z.length : Int) := by omega
      obtain ⟨x, hx⟩ : ∃ x, Z.getD i (0, 0) = x := ⟨_, rfl⟩
      obtain ⟨c0, c1⟩ := HI.out.cell hlt hx
      have HX := Lib.hid hx
      have hLl : L.length < 200 := by have := HPM.out.length_eq; simp at this; omega
      clear hx
      go_wp2_with (go_at_call 16; refine (push_yes b G 200 L x _ HI.out.1 hLl).mono ?_; rintro e w5 ⟨G5, rfl, q5, k5, g5⟩; have HI5 := Lib.hid (HI.out.next k5 (fun i h => by rcases h with e | e; exact e ▸ HI.out.2.2.2.1; exact HI.out.2.2.2.2.1 i e.symm) q5 g5); clear q5 k5 g5)
      go_roundw
      case rel => exact ⟨i + 1, insP x L, G5, by omega, HI5, Lib.hid (by
        rw [← take_snocP hlt, HX.out]
        exact (insP_perm x L).trans ((HPM.out.cons x).trans (List.perm_append_singleton x _).symm)), by go_num⟩
      case measure => simp [intOf]; omega
    · obtain rfl : i = Z.length := by omega
      have HPZ : Hid (L.Perm Z) := Lib.hid (by have := HPM.out; rwa [List.take_length] at this)
      have hLl : L.length = Z.length := HPZ.out.length_eq
      have HLL := Lib.hid hLl
      have HSO : Hid (SortedP L) := Lib.hid (by obtain ⟨d, _, _, _, h, _⟩ := HI.out.1; exact h)
      clear HPM hlt hi hLl
      go_wp2
      obtain ⟨B, hB⟩ : ∃ B, wr.heap.size = B := ⟨_, rfl⟩
      have hlB : b < B ∧ ∀ g, G = some g → g < B := by have := HI.out.1.lt; rw [hB] at this; exact ⟨this.1, this.2.1⟩
      have HLB := Lib.hid hlB
      have hwB : w.heap.size ≤ B := by rw [← hB]; exact HI.out.2.2.1.size
      go_loopw [7, 8] (fun u si wq => ∃ (k : Nat), k ≤ Z.length ∧ B ≤ wq.heap.size ∧ Hid (OInv w wq ab ax Z b G (L.drop k)) ∧ Hid (wq.ownsRow B 34 2 u k (flatP (L.take k))) ∧ si = .int .i64 (k : Int)) (fun _ si _ => Z.length - (intOf si).toNat)
      case atStart => exact ⟨0, by omega, by omega, HI, Lib.hid (World.ownsRow_nil _ _ _ _), rfl⟩
      case round =>
        clear HI hB hlB
        obtain ⟨k, hk, hBw, HI, HO, rfl⟩ := hrel
        by_cases hlt : k < Z.length
        · have hli : (k : Int) < (Z.length : Int) := by omega
          obtain ⟨y, hy⟩ : ∃ y, L.getD k (0, 0) = y := ⟨_, rfl⟩
          have HD : Hid (L.drop k = y :: L.drop (k + 1)) := Lib.hid (by
            rw [List.drop_eq_getElem_cons (by rw [HLL.out]; exact hlt), ← hy, List.getD_eq_getElem?_getD, List.getElem?_eq_getElem (by rw [HLL.out]; exact hlt)]; rfl)
          have HY := Lib.hid hy
          clear hy
          go_wp2_with (first
            | (go_at_call 11; refine (pop_yes b G 200 y (L.drop (k + 1)) _ (by rw [← HD.out]; exact HI.out.1)).mono ?_; rintro e w5 ⟨rfl, q5, k5⟩; have hs5 : ∀ i, (i = b ∨ some i = G) → i < B := (fun i h => by rcases h with e | e; exact e ▸ HLB.out.1; exact HLB.out.2 i e.symm); have HI5 := Lib.hid (HI.out.next k5 (fun i h => by rcases h with e | e; exact e ▸ HI.out.2.2.2.1; exact HI.out.2.2.2.2.1 i e.symm) q5 (.inl rfl)); have HO5 := Lib.hid (own_kept HO.out k5 hs5); have hB5 := Nat.le_trans hBw k5.size; clear q5 k5 hs5)
            | (at_builtin; refine wpList_append_pairs rfl (.tmp 61) (.tmp 63) rfl B u7 k (L.take k) rfl ((HO5.out.alloc _).alloc _) (w5.heap.size + 1) 0 1 1 [y] rfl rfl one_pair1 (by omega) (by omega) (by simp; omega) ?_; intro g6 cap6 w6 hown6 hgrow6 hat6 hge6 hlt6; have hk6 : Kept (fun i => B ≤ i) w5 w6 := ((((Kept.refl (fun i => B ≤ i) w5).alloc _).alloc _).trans' (Kept.of_grown hgrow6 (fun k hk => (HO5.out.lt k hk).1))); have HI6 := Lib.hid (HI5.out.next hk6 (fun i h => Nat.le_trans hwB h) (HI5.out.1.kept hk6 (fun h => by have := HLB.out.1; omega) (fun g hg h => by have := HLB.out.2 g hg; omega)) (.inl rfl)); have HO6 := Lib.hid hown6; have hB6 := Nat.le_trans hB5 hk6.size; clear hown6 hgrow6 hat6 hk6))
          go_roundw
          case rel => exact ⟨k + 1, by omega, hB6, HI6, Lib.hid (by rw [← take_snocP (by rw [HLL.out]; exact hlt), HY.out]; exact HO6.out), by go_num⟩
          case measure => simp [intOf]; omega
        · obtain rfl : k = Z.length := by omega
          obtain ⟨gO, capO, rfl, hgB, hgl⟩ := HO.out.form h0
          have HRO : Hid (RP wr (some ⟨gO, 0, none⟩) L) := Lib.hid (by
            have h := HO.out
            rw [List.take_of_length_le (by rw [HLL.out]; exact Nat.le_refl _)] at h
            obtain ⟨ao, c, e, hrp, _⟩ := (row_of_own' h).rp
            injection e with e1 _ _
            subst e1
            exact hrp)
          have HE : Hid (Pl wr b G 200 []) := Lib.hid (by have := HI.out.1; rwa [List.drop_of_length_le (by rw [HLL.out]; exact Nat.le_refl _)] at this)
          have HBZ := Lib.hid HI.out.2.2.1
          have HRZ := Lib.hid HI.out.2.1
          clear HI HO hlt hk
          go_wp2_with (first
            | (go_at_call 11; refine (pop_no b G 200 _ HE.out).mono ?_; rintro e w6 ⟨rfl, hb6⟩; have hb6' := hb6.trans (((Below.refl w6.heap.size w6).alloc (Nat.le_refl _) (.cells #[.int .i64 0, .int .i64 0] 34)).mono hb6.size); have HRO6 := Lib.hid (HRO.out.below hb6' (fun ad e => by cases e; exact hgl)); have hbz6 := HBZ.out.trans (hb6'.mono HBZ.out.size); have HBZ6 := Lib.hid hbz6; have HRZ6 := Lib.hid (HRZ.out.below hb6' (fun ad e => by cases e; exact Nat.lt_of_lt_of_le hab HBZ.out.size)); have hgl6 := Nat.lt_of_lt_of_le hgl hb6'.size; have habl6 := Nat.lt_of_lt_of_le hab hbz6.size; clear hb6 hb6' hbz6)
            | (go_at_call 26; refine (sorted_any (some ⟨ab, ax, none⟩) Z.length cap Z _ rfl HRZ6.out (by omega)).mono ?_; rintro e w7 ⟨ao7, cap7, S7, rfl, hp7, hso7, hr7, hb7, hf7⟩; obtain rfl : S7 = L := sorted_eq hso7 HSO.out (hp7.trans HPZ.out.symm); have HRS7 := Lib.hid hr7; have HRO7 := Lib.hid (HRO6.out.below hb7 (fun ad e => by cases e; exact hgl6)); have HRZ7 := Lib.hid (HRZ6.out.below hb7 (fun ad e => by cases e; exact habl6)); have HBZ7 := Lib.hid (HBZ6.out.trans (hb7.mono HBZ6.out.size)); clear hp7 hso7 hr7 hb7 hf7)
            | (go_at_call 25; refine (same_any (some ⟨gO, 0, none⟩) ao7 Z.length capO cap7 S7 _ HLL.out HRO7.out HRS7.out (by omega)).mono ?_; rintro e w8 ⟨rfl, n8, h8⟩; have HRO8 : Hid (RP w8 (some ⟨gO, 0, none⟩) S7) := Lib.hid (by subst h8; exact HRO7.out); have HRZ8 : Hid (RP w8 (some ⟨ab, ax, none⟩) Z) := Lib.hid (by subst h8; exact HRZ7.out); have HBZ8 : Hid (Below w.heap.size w w8) := Lib.hid (by subst h8; exact ⟨HBZ7.out.os, HBZ7.out.tape, HBZ7.out.output, HBZ7.out.size, HBZ7.out.block⟩); clear h8))
          clear HE HRO HBZ HRZ HLB hgl hgB HRO6 HBZ6 HRZ6 hgl6 habl6 HRS7 HRO7 HRZ7 HBZ7 hBw hwB
          go_loopw [14] (fun si wr => ∃ (i n : Nat), i ≤ Z.length ∧ Hid (wr = w8.drewN n) ∧ si = .int .i64 (i : Int)) (fun si _ => Z.length - (intOf si).toNat)
          case atStart => exact ⟨0, 0, by omega, Lib.hid rfl, rfl⟩
          case round =>
            obtain ⟨i, n, hi, HW, rfl⟩ := hrel
            by_cases hlt : i < Z.length
            · have hli : (i : Int) < (Z.length : Int) := by omega
              obtain ⟨x, hx⟩ : ∃ x, S7.getD i (0, 0) = x := ⟨_, rfl⟩
              have x0 : w8.cell? ⟨gO, i * 2, none⟩ = some (.int .i64 x.1) := (rp_cell HRO8.out (by rw [HLL.out]; exact hlt) hx).1
              have x1 : w8.cell? ⟨gO, i * 2 + 1, none⟩ = some (.int .i64 x.2) := (rp_cell HRO8.out (by rw [HLL.out]; exact hlt) hx).2
              have HXE := Lib.hid hx
              clear hx
              go_wp2
              go_loopw [15, 16, 17] (fun sn sm sk wr => ∃ (k n : Nat), k ≤ Z.length ∧ Hid (wr = w8.drewN n) ∧ sn = .int .i64 ((cnt x S7 k : Nat) : Int) ∧ sm = .int .i64 ((cnt x Z k : Nat) : Int) ∧ sk = .int .i64 (k : Int)) (fun _ _ sk _ => Z.length - (intOf sk).toNat)
              case atStart => exact ⟨0, n, by omega, HW, by rw [cnt_zero]; rfl, by rw [cnt_zero]; rfl, rfl⟩
              case round =>
                clear HW n
                obtain ⟨k, n, hk, HV, rfl, rfl, rfl⟩ := hrel
                have hc1 := cnt_le x S7 k
                have hc2 := cnt_le x Z k
                by_cases hkl : k < Z.length
                · have hki : (k : Int) < (Z.length : Int) := by omega
                  obtain ⟨y, hy⟩ : ∃ y, S7.getD k (0, 0) = y := ⟨_, rfl⟩
                  obtain ⟨z, hz⟩ : ∃ z, Z.getD k (0, 0) = z := ⟨_, rfl⟩
                  have y0 := cell_drew HV.out (rp_cell HRO8.out (by rw [HLL.out]; exact hkl) hy).1
                  have y1 := cell_drew HV.out (rp_cell HRO8.out (by rw [HLL.out]; exact hkl) hy).2
                  have z0 := cell_drew HV.out (rp_cell' HRZ8.out hkl hz).1
                  have z1 := cell_drew HV.out (rp_cell' HRZ8.out hkl hz).2
                  have xx0 := cell_drew HV.out x0
                  have xx1 := cell_drew HV.out x1
                  by_cases hy1 : y = x
                  · subst hy1
                    have HYE := Lib.hid hy
                    clear hy
                    by_cases hz1 : z = y
                    · subst hz1
                      have HZE := Lib.hid hz
                      clear hz
                      have e1 := fun W => eqp_yes z W
                      go_wp2
                      go_quiet (fail)
                      go_wp2
                      go_quiet (fail)
                      go_wp2
                      go_roundw
                      case rel => exact ⟨k + 1, _, by omega, Lib.hid (by rw [HV.out, World.drewN_drewN]), by rw [cnt_yes (by rw [HLL.out]; exact hkl) HYE.out]; go_num, by rw [cnt_yes hkl HZE.out]; go_num, by go_num⟩
                      case measure => simp [intOf]; omega
                    · have HZE := Lib.hid hz
                      clear hz
                      have e1 := fun W => eqp_yes y W
                      have e2 := fun W => eqp_no hz1 W
                      have HZN := Lib.hid hz1
                      clear hz1
                      go_wp2
                      go_quiet (fail)
                      go_wp2
                      go_quiet (fail)
                      go_wp2
                      go_roundw
                      case rel => exact ⟨k + 1, _, by omega, Lib.hid (by rw [HV.out, World.drewN_drewN]), by rw [cnt_yes (by rw [HLL.out]; exact hkl) HYE.out]; go_num, by rw [cnt_no hkl (fun e => HZN.out (HZE.out.symm.trans e))], by go_num⟩
                      case measure => simp [intOf]; omega
                  · have HYE := Lib.hid hy
                    clear hy
                    by_cases hz1 : z = x
                    · subst hz1
                      have HZE := Lib.hid hz
                      clear hz
                      have e1 := fun W => eqp_no hy1 W
                      have e2 := fun W => eqp_yes z W
                      have HYN := Lib.hid hy1
                      clear hy1
                      go_wp2
                      go_quiet (fail)
                      go_wp2
                      go_quiet (fail)
                      go_wp2
                      go_roundw
                      case rel => exact ⟨k + 1, _, by omega, Lib.hid (by rw [HV.out, World.drewN_drewN]), by rw [cnt_no (by rw [HLL.out]; exact hkl) (fun e => HYN.out (HYE.out.symm.trans e))], by rw [cnt_yes hkl HZE.out]; go_num, by go_num⟩
                      case measure => simp [intOf]; omega
                    · have HZE := Lib.hid hz
                      clear hz
                      have e1 := fun W => eqp_no hy1 W
                      have e2 := fun W => eqp_no hz1 W
                      have HYN := Lib.hid hy1
                      clear hy1
                      have HZN := Lib.hid hz1
                      clear hz1
                      go_wp2
                      go_quiet (fail)
                      go_wp2
                      go_quiet (fail)
                      go_wp2
                      go_roundw
                      case rel => exact ⟨k + 1, _, by omega, Lib.hid (by rw [HV.out, World.drewN_drewN]), by rw [cnt_no (by rw [HLL.out]; exact hkl) (fun e => HYN.out (HYE.out.symm.trans e))], by rw [cnt_no hkl (fun e => HZN.out (HZE.out.symm.trans e))], by go_num⟩
                      case measure => simp [intOf]; omega
                · obtain rfl : k = Z.length := by omega
                  have HCE : Hid (cnt x S7 Z.length = cnt x Z Z.length) := Lib.hid (by
                    unfold cnt
                    rw [List.take_length, List.take_of_length_le (by rw [HLL.out]; exact Nat.le_refl _)]
                    exact HPZ.out.count_eq x)
                  rw [HCE.out]
                  have xx0 := cell_drew HV.out x0
                  have xx1 := cell_drew HV.out x1
                  by_cases hi0 : i = 0
                  · subst hi0
                    go_wp2
                    go_quiet (fail)
                    go_wp2
                    go_roundw
                    case rel => exact ⟨0 + 1, _, by omega, Lib.hid (by rw [HV.out, World.drewN_drewN]), rfl⟩
                    case measure => simp [intOf]; omega
                  · obtain ⟨j, hj⟩ : ∃ j, i = j + 1 := ⟨i - 1, by omega⟩
                    obtain ⟨y, hy⟩ : ∃ y, S7.getD j (0, 0) = y := ⟨_, rfl⟩
                    have y0 := cell_drew HV.out (rp_cell HRO8.out (show j < S7.length by rw [HLL.out]; omega) hy).1
                    have y1 := cell_drew HV.out (rp_cell HRO8.out (show j < S7.length by rw [HLL.out]; omega) hy).2
                    have hlt2 : ltP x y = false := by
                      have h := List.pairwise_iff_getElem.1 HSO.out j i (by rw [HLL.out]; omega) (by rw [HLL.out]; omega) (by omega)
                      have hx := HXE.out
                      rw [List.getD_eq_getElem?_getD, List.getElem?_eq_getElem (by rw [HLL.out]; omega)] at hx hy
                      simp at hx hy
                      rw [hx, hy] at h
                      exact h
                    have hcs : ¬ (x.1 < y.1 ∨ x.1 = y.1 ∧ x.2 < y.2) := by simpa [ltP] using hlt2
                    have hA : decide (x.1 < y.1) = false := decide_eq_false (fun h => hcs (.inl h))
                    have hpos : (0 : Int) < (i : Int) := by omega
                    have hposN : 0 < i := by omega
                    have hposD : decide (0 < i) = true := decide_eq_true hposN
                    have hone : 1 ≤ i := by omega
                    have hw1 : IntKind.i64.wrap ((i : Int) - 1) = (i : Int) - 1 := IntWalk.i64_in _ (by omega)
                    have hn1 : (0 : Int) ≤ (i : Int) - 1 := by omega
                    have hn2 : (1 : Int) ≤ (i : Int) := by omega
                    have hn3 : (i : Int) - 1 < (Z.length : Int) := by omega
                    have ht1 : ((i : Int) - 1).toNat = j := by omega
                    by_cases hq : x.1 = y.1
                    · have hB : (x.1 == y.1) = true := by simpa using hq
                      have hC : decide (x.2 < y.2) = false := decide_eq_false (fun h => hcs (.inr ⟨hq, h⟩))
                      clear hcs hlt2 hq hj hy
                      go_wp2
                      go_quiet (fail)
                      go_wp2
                      go_roundw
                      case rel => exact ⟨i + 1, _, by omega, Lib.hid (by rw [HV.out, World.drewN_drewN]), by go_num⟩
                      case measure => simp [intOf]; omega
                    · have hB : (x.1 == y.1) = false := by simpa using hq
                      clear hcs hlt2 hq hj hy
                      go_wp2
                      go_quiet (fail)
                      go_wp2
                      go_roundw
                      case rel => exact ⟨i + 1, _, by omega, Lib.hid (by rw [HV.out, World.drewN_drewN]), by go_num⟩
                      case measure => simp [intOf]; omega
            · obtain rfl : i = Z.length := by omega
              go_wp2
              go_ret
              have hw := HW.out
              subst hw
              have hb := HBZ8.out
              exact ⟨rfl, ⟨hb.os, hb.tape, hb.output, hb.size, hb.block⟩⟩
set_option maxRecDepth 100000 in
set_option maxHeartbeats 4000000 in
theorem orders_none (ao : Option Addr) (cap : Nat) (w : World) :
    Calls Try.prog 6 #[.slice ao 0 cap] w fun e w' => e = .returned (.bool true) ∧ Below w.heap.size w w' := by
  go_enter Try.func6, Try.ntmps6
  go_wp2_with (first
    | (go_at_call 8; refine (awake_any _).mono ?_; rintro e w1 ⟨rfl, hb1⟩; have HB1 := Lib.hid hb1; clear hb1)
    | (go_at_call 9; refine (new_yes 200 _ (by omega)).mono ?_; rintro e w2 ⟨b, hb, rfl, hq2, hk2⟩; have HQ := Lib.hid hq2; have HB2 := Lib.hid (HB1.out.trans (hk2.mono HB1.out.size)); clear hq2 hk2 HB1))
  refine wp_loop_rounds 1 ?_
  rw [rounds_succ]
  go_wp2
  refine wp_loop_rounds 1 ?_
  rw [rounds_succ]
  go_wp2_with (first
    | (go_at_call 11; refine (pop_no b none 200 _ HQ.out).mono ?_; rintro e w6 ⟨rfl, hb6⟩; have HB6 := Lib.hid ((HB2.out.trans (hb6.mono HB2.out.size)).alloc (Nat.le_trans HB2.out.size hb6.size) (.cells #[.int .i64 0, .int .i64 0] 34)); clear hb6)
    | (go_at_call 26; refine (sorted_any ao 0 cap [] _ rfl (fun i hi => absurd hi (by simp)) (by omega)).mono ?_; rintro e w7 ⟨ao7, cap7, S7, rfl, hp7, hso7, hr7, hb7, hf7⟩; have HB7 := Lib.hid (HB6.out.trans (hb7.mono HB6.out.size)); clear hp7 hso7 hr7 hb7 hf7)
    | (go_at_call 25; refine (same_nil none ao7 0 cap7 _).mono ?_; rintro e w8 ⟨rfl, n8, h8⟩; have HB8 : Hid (Below w.heap.size w w8) := Lib.hid (by subst h8; exact ⟨HB7.out.os, HB7.out.tape, HB7.out.output, HB7.out.size, HB7.out.block⟩); clear h8))
  refine wp_loop_rounds 1 ?_
  rw [rounds_succ]
  go_wp2
  go_ret
  exact ⟨rfl, HB8.out⟩
theorem orders_law (w : World) (ao : Option Addr) (len cap : Nat) (Z : List (Int × Int)) (hl : Z.length = len) (hm : len ≤ maxLen) (hr : RP w ao Z) :
    Calls Try.prog 6 #[.slice ao len cap] w fun e w' => e = .returned (.bool true) ∧ Below w.heap.size w w' := by
  by_cases h : 200 < len
  · exact orders_long ao len cap w h hm
  · subst hl
    cases Z with
    | nil => exact orders_none ao cap w
    | cons z Z =>
      obtain ⟨b, o, rfl, hb, _⟩ := hr 0 (by simp)
      exact orders_some b o cap _ w (by omega) (by simp) hr hb
end Go.Proofs.Ytfcpdknonhgnoaa
