/- Stocks at each point of time: package plan's stocks (the course's own). -/
import Derived.Test.YtbkmfjegbmjknaaHChg
namespace Go.Proofs.Ytbkmfjegbmjknaa
open Go.RowKit
set_option linter.unusedVariables false

/-- Stocks up to a point of time and some nodes of the next one; changes from there on. -/
def preG (C : Nat → Nat → Int) (m k : Nat) : Nat → Nat → Int := fun a v => if a ≤ m ∨ (a = m + 1 ∧ v < k) then sumTo (fun b => C b v) (a + 1) else C a v
theorem preG_zero (C : Nat → Nat → Int) (a v : Nat) : preG C 0 0 a v = C a v := by
  unfold preG
  split
  · next h =>
    obtain rfl : a = 0 := by omega
    simp [sumTo]
  · rfl
theorem preG_old (C : Nat → Nat → Int) (m k : Nat) {a : Nat} (v : Nat) (h : a ≤ m) : preG C m k a v = sumTo (fun b => C b v) (a + 1) := by unfold preG; rw [if_pos (.inl h)]
theorem preG_new (C : Nat → Nat → Int) (m k : Nat) : preG C m k (m + 1) k = C (m + 1) k := by unfold preG; rw [if_neg (by omega)]
theorem preG_upd (C : Nat → Nat → Int) (m k : Nat) {x : Int} (hx : x = preG C m k (m + 1) k + preG C m k m k) (a v : Nat) : updG (preG C m k) (m + 1) k x a v = preG C m (k + 1) a v := by
  rw [updG_at]
  subst hx
  rw [preG_new, preG_old C m k k (Nat.le_refl m)]
  unfold preG
  by_cases c1 : a = m + 1 ∧ v = k
  · rw [if_pos c1, if_pos (by omega), c1.1, c1.2]
    simp only [sumTo]
    omega
  · rw [if_neg c1]
    by_cases c2 : a ≤ m ∨ (a = m + 1 ∧ v < k)
    · rw [if_pos c2, if_pos (by omega)]
    · rw [if_neg c2, if_neg (by omega)]
theorem preG_next (C : Nat → Nat → Int) (m : Nat) {a v : Nat} (hv : v < 50) : preG C m 50 a v = preG C (m + 1) 0 a v := by
  unfold preG
  by_cases c2 : a ≤ m ∨ (a = m + 1 ∧ v < 50)
  · rw [if_pos c2, if_pos (by omega)]
  · rw [if_neg c2, if_neg (by omega)]
theorem preG_bd {C : Nat → Nat → Int} (hC : ∀ a v, -216032870400 ≤ C a v ∧ C a v ≤ 216032870400) (m k : Nat) {a : Nat} (v : Nat) (ha : a ≤ 1024) : -221433692160000 ≤ preG C m k a v ∧ preG C m k a v ≤ 221433692160000 := by
  have h1 := hC a v
  have h2 := smT_bd (g := fun b => C b v) (c := 216032870400) (n := a + 1) (fun b _ => hC b v)
  unfold preG
  split <;> omega
section
variable (n : Int) (b : Bool) (ao : Option Addr) (nl cap : Nat) (Z : List ArcT) (s t : Int) (bm : Nat)
set_option maxRecDepth 100000 in
set_option maxHeartbeats 8000000 in
theorem ncstocks_any (N H m : Nat) (f : Int × Int → Int) (w : World) (h : Row encA 4 w ao Z) (hl : Z.length = nl) (hW : SpanNet Z N) (hH : H ≤ 1024) (hA : AmtIs w bm m f) (hf : ∀ p, 0 ≤ f p ∧ f p ≤ 1048576) :
    Calls Try.prog 79 #[crsV n b ao nl cap s t (H : Int) bm] w fun e w' => ∃ g, e = .returned (.slice (some ⟨g, 0, none⟩) (H + 1) (H + 1)) ∧ w.heap.size ≤ g ∧ GridW w' g (H + 1) (fun a v => sumTo (fun b => chgK Z f H nl 0 b v) (a + 1)) ∧ Below w.heap.size w w' := by
  have hnl : nl ≤ 200 := by rw [← hl]; exact hW.len
  have hb00 := ((Below.refl _ w).alloc (Nat.le_refl _) (.cells #[.int .i64 n, .bool b, .slice ao nl cap, .int .i64 s, .int .i64 t, .int .i64 (H : Int), .map (some bm)] 134))
  have hx00 := heap_alloc_new w (.cells #[.int .i64 n, .bool b, .slice ao nl cap, .int .i64 s, .int .i64 t, .int .i64 (H : Int), .map (some bm)] 134)
  have HB := Lib.hid hb00
  have HX := Lib.hid hx00
  have HCALL := Lib.hid (nchanges_any n b ao nl cap Z s t bm N H m f _ (h.below' hb00) hl hW hH (hA.below hb00) hf)
  have HC : Hid (∀ a v, -216032870400 ≤ chgK Z f H nl 0 a v ∧ chgK Z f H nl 0 a v ≤ 216032870400) := Lib.hid (fun a v => chgK_bd hf a v hnl (by omega) hH)
  unfold crsV at HCALL ⊢
  obtain ⟨n1, hn1⟩ : ∃ n1, n1 = H + 1 := ⟨_, rfl⟩
  have HN1 := Lib.hid hn1
  rw [← hn1] at HCALL ⊢
  generalize chgK Z f H nl 0 = C at *
  have c0 := cell_whole hx00 0
  have c1 := cell_whole hx00 1
  have c2 := cell_whole hx00 2
  have c3 := cell_whole hx00 3
  have c4 := cell_whole hx00 4
  have c5 := cell_whole hx00 5
  have c6 := cell_whole hx00 6
  clear h hA hf hW hb00 hx00 hl hn1
  go_enter Try.func79, Try.ntmps79
  go_wp2_with (go_at_call 101; refine HCALL.out.mono ?_; rintro e w2 ⟨g, rfl, hgw, hg2, hb2⟩; have HG2 := Lib.hid hg2; have HB2 := Lib.hid hb2; have hx2 := kept_box HX.out hb2; have c5 := cell_whole hx2 5; clear hg2 hb2 hx2)
  have HB1 := Lib.hid (HB.out.trans (HB2.out.mono HB.out.size))
  have HGW : Hid (w.heap.size < g) := Lib.hid (by rw [show (w.alloc (.cells #[.int .i64 n, .bool b, .slice ao nl cap, .int .i64 s, .int .i64 t, .int .i64 (H : Int), .map (some bm)] 134)).heap.size = w.heap.size + 1 by simp] at hgw; omega)
  clear HB HB2 HCALL HX hgw c5 c0 c1 c2 c3 c4 c6
  go_loopw [11] (fun iv wr => ∃ u : Nat, u ≤ H ∧ iv = .int .i64 (u : Int) ∧ Hid (GridW wr g n1 (preG C u 0)) ∧ Hid (Kept (fun j => j = g) w2 wr)) (fun iv _ => H - (intOf iv).toNat)
  case atStart => exact ⟨0, Nat.zero_le _, rfl, Lib.hid (HG2.out.congr (fun a v _ _ => (preG_zero C a v).symm)), Lib.hid (Kept.refl _ _)⟩
  case round =>
    obtain ⟨u, hu, rfl, HG, HK⟩ := hrel
    clear HG2
    by_cases hlt : u < H
    · have hli : (u : Int) < (H : Int) := by omega
      have hun : u < n1 := by have := HN1.out; omega
      have hun2 : u + 1 < n1 := by have := HN1.out; omega
      have hui : (u : Int) < (n1 : Int) := by omega
      have hui2 : (u : Int) + 1 < (n1 : Int) := by omega
      have HRG := Lib.hid (HG.out.range hun)
      have hgc : ∀ k, k < 50 → (cellsG (preG C u 0) u).toArray[k]? = some (.int .i64 (sumTo (fun b => C b k) (u + 1))) := fun k hk => by rw [cellsG_get _ _ hk, preG_old C u 0 k (Nat.le_refl u)]
      have HGC := Lib.hid hgc
      have hsz : (cellsG (preG C u 0) u).toArray.size = 50 := by rw [List.size_toArray, cellsG_len]
      have HSZ : Hid ((Try.prog.info? 140).map (·.size) = some (cellsG (preG C u 0) u).length) := Lib.hid (by rw [cellsG_len]; exact sizeCounts)
      clear hgc
      go_wp2_with ((with_reducible show wpList _ _ _ (Oper.mk (some 17) (Op.load 140 _) _ _ _ _ :: _) _ _); refine wpList_load_mid rfl 140 _ rfl g (u * 50) rfl (cellsG (preG C u 0) u) _ HRG.out Try.underlying140 rfl HSZ.out ?_)
      generalize (cellsG (preG C u 0) u).toArray = A at *
      clear HRG HSZ
      have HRZ := HG
      go_loopw [18] (fun iv wz => ∃ k : Nat, k ≤ 50 ∧ iv = .int .i64 (k : Int) ∧ Hid (GridW wz g n1 (preG C u k)) ∧ Hid (Kept (fun j => j = g) w2 wz)) (fun iv _ => 50 - (intOf iv).toNat)
      case atStart => exact ⟨0, Nat.zero_le _, rfl, HG, HK⟩
      case round =>
        clear HG HRZ HK
        obtain ⟨k, hk, rfl, HGZ, HKZ⟩ := hrel
        by_cases hlk : k < 50
        · have hlk2 : (k : Int) < 50 := by omega
          have hak := HGC.out k hlk
          obtain ⟨e0, e1⟩ := HGZ.out.cell hun2 (v := k) hlk
          have hb1 := preG_bd HC.out u k (a := u + 1) k (by omega)
          have hb2 := preG_bd HC.out u k (a := u) k (by omega)
          have HOLD := Lib.hid (preG_old C u k k (Nat.le_refl u))
          rw [HOLD.out] at hb2
          obtain ⟨x, hx⟩ : ∃ x, preG C u k (u + 1) k = x := ⟨_, rfl⟩
          obtain ⟨y, hy⟩ : ∃ y, sumTo (fun b => C b k) (u + 1) = y := ⟨_, rfl⟩
          have HX := Lib.hid hx
          have HY := Lib.hid hy
          rw [hx] at e0 hb1
          rw [hy] at hak hb2
          have hw4 : IntKind.i64.wrap (x + y) = x + y := IntWalk.i64_in _ (by omega)
          have hw5 : IntKind.i64.wrap ((u : Int) + 1) = (u : Int) + 1 := IntWalk.i64_in _ (by omega)
          have HP2 := Lib.hid (HGZ.out.put (u + 1) (v := k) hlk (x + y))
          have HK2 := Lib.hid (HKZ.out.set (j := (u + 1) * 50 + k) (.inl rfl) (.int .i64 (x + y))).drew
          have HQ : Hid (GridW (wr.setCell ⟨g, (u + 1) * 50 + k, none⟩ (.int .i64 (x + y))).drew g n1 (preG C u (k + 1))) := Lib.hid (HP2.out.congr (fun a v _ _ => preG_upd C u k (by rw [HX.out, HOLD.out, HY.out]) a v))
          clear hx hy hb1 hb2 HP2
          have hix := run_index_counts A k y hlk hak
          go_wp2_with fail
          go_region
          go_wp2
          go_roundw
          case rel => exact ⟨k + 1, by omega, by go_num, HQ, HK2⟩
          case measure => simp [intOf]; omega
        · have hlk2 : ¬ (k : Int) < 50 := by omega
          obtain rfl : k = 50 := by omega
          have HGQ : Hid (GridW wr g n1 (preG C (u + 1) 0)) := Lib.hid (HGZ.out.congr (fun a v _ hv => preG_next C u hv))
          go_wp2
          go_roundw
          case rel => exact ⟨u + 1, by omega, by go_num, HGQ, HKZ⟩
          case measure => simp [intOf]; omega
    · have hli : ¬ (u : Int) < (H : Int) := by omega
      obtain rfl : H = u := by omega
      have HGF : Hid (GridW wr g n1 (fun a v => sumTo (fun b => C b v) (a + 1))) := Lib.hid (HG.out.congr (fun a v ha _ => preG_old C H 0 v (by have := HN1.out; omega)))
      go_wp2
      go_ret
      exact ⟨g, rfl, by have := HGW.out; omega, HGF.out, HB1.out.trans (HK.out.below HB1.out.size (fun j e => by have e2 : j = g := e; have := HGW.out; omega))⟩
end
end Go.Proofs.Ytbkmfjegbmjknaa
