/- By how much stocks change at each point of time: package plan's changes. -/
import Derived.Test.YtbkmfjegbmjknaaHAlw
import Derived.Test.YtbkmfjegbmjknaaGBds
import Derived.BigQuiet
namespace Go.Proofs.Ytbkmfjegbmjknaa
open Go.RowKit
set_option linter.unusedVariables false

def tmJ (Z : List ArcT) (j : Nat) : Nat := (arcI Z j).2.2.2.toNat
def toJ (Z : List ArcT) (j : Nat) : Nat := (arcI Z j).2.1.toNat
def frJ (Z : List ArcT) (j : Nat) : Nat := (arcI Z j).1.toNat
/-- How many points of time there are at which an arc may be entered. -/
def cntT (Z : List ArcT) (H j : Nat) : Nat := H + 1 - tmJ Z j
/-- What one arc, entered at one point of time, changes at a point of time. -/
def chgF (Z : List ArcT) (f : Int × Int → Int) (j b a v : Nat) : Int := (if a = b + tmJ Z j ∧ v = toJ Z j then f ((b : Int), (j : Int)) else 0) - (if a = b ∧ v = frJ Z j then f ((b : Int), (j : Int)) else 0)
/-- What the first arcs change, and the next one entered at the first points of time. -/
def chgK (Z : List ArcT) (f : Int × Int → Int) (H i k a v : Nat) : Int := sumTo (fun j => sumTo (fun b => chgF Z f j b a v) (cntT Z H j)) i + sumTo (fun b => chgF Z f i b a v) k
section
variable {Z : List ArcT} {f : Int × Int → Int} {H : Nat}
theorem chgK_zero (a v : Nat) : chgK Z f H 0 0 a v = 0 := rfl
theorem chgK_step (i k a v : Nat) : chgK Z f H i (k + 1) a v = chgK Z f H i k a v + chgF Z f i k a v := by
  unfold chgK
  simp only [sumTo]
  omega
theorem chgK_next (i a v : Nat) : chgK Z f H i (cntT Z H i) a v = chgK Z f H (i + 1) 0 a v := by
  unfold chgK
  simp only [sumTo]
  omega
theorem chgF_bd (hf : ∀ p, 0 ≤ f p ∧ f p ≤ 1048576) (j b a v : Nat) : -1048576 ≤ chgF Z f j b a v ∧ chgF Z f j b a v ≤ 1048576 := by
  have h := hf ((b : Int), (j : Int))
  unfold chgF
  split <;> split <;> omega
theorem cntT_le (j : Nat) : cntT Z H j ≤ H + 1 := by unfold cntT; omega
theorem chgK_bd (hf : ∀ p, 0 ≤ f p ∧ f p ≤ 1048576) {i k : Nat} (a v : Nat) (hi : i ≤ 200) (hk : k ≤ 1025) (hH : H ≤ 1024) : -216032870400 ≤ chgK Z f H i k a v ∧ chgK Z f H i k a v ≤ 216032870400 := by
  have h1 : ∀ j m, m ≤ 1025 → -1074790400 ≤ sumTo (fun b => chgF Z f j b a v) m ∧ sumTo (fun b => chgF Z f j b a v) m ≤ 1074790400 := fun j m hm => by
    have := smT_bd (g := fun b => chgF Z f j b a v) (c := 1048576) (n := m) (fun b _ => chgF_bd hf j b a v)
    omega
  have h2 := smT_bd (g := fun j => sumTo (fun b => chgF Z f j b a v) (cntT Z H j)) (c := 1074790400) (n := i) (fun j _ => h1 j _ (by have := cntT_le (Z := Z) (H := H) j; omega))
  have h3 := h1 i k hk
  unfold chgK
  omega
theorem updG_at (G : Nat → Nat → Int) (a v : Nat) (x : Int) (b u : Nat) : updG G a v x b u = if b = a ∧ u = v then x else G b u := rfl
/-- The two stores together. -/
theorem chgK_upd (i k : Nat) {y x1 x2 : Int} (hy : f ((k : Int), (i : Int)) = y) (h1 : x1 = chgK Z f H i k k (frJ Z i) - y)
    (h2 : x2 = updG (chgK Z f H i k) k (frJ Z i) x1 (k + tmJ Z i) (toJ Z i) + y) (a v : Nat) :
    updG (updG (chgK Z f H i k) k (frJ Z i) x1) (k + tmJ Z i) (toJ Z i) x2 a v = chgK Z f H i (k + 1) a v := by
  rw [chgK_step]
  unfold chgF
  rw [hy, updG_at, updG_at, h2, updG_at]
  generalize hG : chgK Z f H i k = G at *
  subst h1
  by_cases c1 : a = k + tmJ Z i ∧ v = toJ Z i
  · rw [if_pos c1, if_pos c1]
    by_cases c2 : k + tmJ Z i = k ∧ toJ Z i = frJ Z i
    · have c3 : a = k ∧ v = frJ Z i := ⟨by omega, by omega⟩
      rw [if_pos c2, if_pos c3, c3.1, c3.2]; omega
    · have c3 : ¬ (a = k ∧ v = frJ Z i) := fun c => c2 ⟨by omega, by omega⟩
      rw [if_neg c2, if_neg c3, ← c1.1, ← c1.2]; omega
  · rw [if_neg c1, if_neg c1]
    by_cases c3 : a = k ∧ v = frJ Z i
    · rw [if_pos c3, if_pos c3, c3.1, c3.2]; omega
    · rw [if_neg c3, if_neg c3]; omega
end
section
variable (n : Int) (b : Bool) (ao : Option Addr) (nl cap : Nat) (Z : List ArcT) (s t : Int) (bm : Nat)
set_option maxRecDepth 100000 in
set_option maxHeartbeats 8000000 in
theorem nchanges_any (N H m : Nat) (f : Int × Int → Int) (w : World) (h : Row encA 4 w ao Z) (hl : Z.length = nl) (hW : SpanNet Z N) (hH : H ≤ 1024) (hA : AmtIs w bm m f) (hf : ∀ p, 0 ≤ f p ∧ f p ≤ 1048576) :
    Calls Try.prog 101 #[crsV n b ao nl cap s t (H : Int) bm] w fun e w' => ∃ g, e = .returned (.slice (some ⟨g, 0, none⟩) (H + 1) (H + 1)) ∧ w.heap.size ≤ g ∧ GridW w' g (H + 1) (chgK Z f H nl 0) ∧ Below w.heap.size w w' := by
  unfold crsV
  have hnl : nl ≤ 200 := by rw [← hl]; exact hW.len
  have hb00 := ((Below.refl _ w).alloc (Nat.le_refl _) (.cells #[.int .i64 n, .bool b, .slice ao nl cap, .int .i64 s, .int .i64 t, .int .i64 (H : Int), .map (some bm)] 134))
  have hx00 := heap_alloc_new w (.cells #[.int .i64 n, .bool b, .slice ao nl cap, .int .i64 s, .int .i64 t, .int .i64 (H : Int), .map (some bm)] 134)
  have HB := Lib.hid hb00
  have HR0 := Lib.hid h
  have HA0 := Lib.hid hA
  have HR := Lib.hid (h.below' hb00)
  have HAM := Lib.hid (hA.below hb00)
  have HX := Lib.hid hx00
  have HF := Lib.hid hf
  have HW := Lib.hid hW
  have HLN := Lib.hid hl
  obtain ⟨n1, hn1⟩ : ∃ n1, n1 = H + 1 := ⟨_, rfl⟩
  have HN1 := Lib.hid hn1
  rw [← hn1]
  have c5 := cell_whole hx00 5
  have c2 := cell_whole hx00 2
  have hn1b : n1 ≤ 1025 := by omega
  clear h hA hf hW hb00 hx00 hl hn1
  go_enter Try.func101, Try.ntmps101
  go_wp2_with (at_make; refine wpList_make_grid rfl _ _ rfl n1 _ rfl rfl (by have := HN1.out; omega) (by omega) ?_; intro w2 hg2 hb2; have HG2 := Lib.hid hg2; have HB2 := Lib.hid hb2; have hx2 := kept_box HX.out hb2; have c5 := cell_whole hx2 5; have c2 := cell_whole hx2 2; clear hg2 hb2 hx2)
  have HB1 := Lib.hid (HB.out.trans (HB2.out.mono HB.out.size))
  have HR2 := Lib.hid (HR.out.below' HB2.out)
  have HA2 := Lib.hid (HAM.out.below HB2.out)
  have HX2 := Lib.hid (kept_box HX.out HB2.out)
  obtain ⟨g0, hg0⟩ : ∃ g0, w.heap.size = g0 := ⟨_, rfl⟩
  have HZ0 := Lib.hid hg0
  rw [show (w.alloc (.cells #[.int .i64 n, .bool b, .slice ao nl cap, .int .i64 s, .int .i64 t, .int .i64 (H : Int), .map (some bm)] 134)).heap.size = w.heap.size + 1 by simp] at HG2
  rw [hg0] at HG2 HX2 ⊢
  have HAL : Hid (∀ ad, ao = some ad → 0 < Z.length → ad.block < g0) := Lib.hid (by rw [← hg0]; exact HR0.out.lt)
  have HML : Hid (bm < g0) := Lib.hid (by rw [← hg0]; exact HA0.out.lt)
  clear HR HAM HX HB HB2 hg0 c5 c2
  go_loopw [16] (fun iv wr => ∃ i : Nat, i ≤ nl ∧ iv = .int .i64 (i : Int) ∧ Hid (GridW wr (g0 + 1) n1 (chgK Z f H i 0)) ∧ Hid (Kept (fun j => j = g0 + 1) w2 wr)) (fun iv _ => nl - (intOf iv).toNat)
  case atStart => exact ⟨0, Nat.zero_le _, rfl, Lib.hid (HG2.out.congr (fun a v _ _ => (chgK_zero a v).symm)), Lib.hid (Kept.refl _ _)⟩
  case round =>
    obtain ⟨i, hi, rfl, HG, HK⟩ := hrel
    clear HG2
    have hbx := HK.out.old HX2.out (show ¬ g0 = g0 + 1 by omega)
    by_cases hlt : i < nl
    · have hli : (i : Int) < (nl : Int) := by omega
      have hiz : i < Z.length := by rw [HLN.out]; exact hlt
      obtain ⟨ab, ax, e, hab, d0, d1, d2, d3⟩ := arc_at HR2.out (List.getElem?_eq_getElem hiz)
      have hab0 := HAL.out _ e (by omega)
      cases e
      have D0 := Lib.hid ((cell_of_block (HK.out.block ab hab (by simp only at hab0 ⊢; omega))).trans d0)
      have D1 := Lib.hid ((cell_of_block (HK.out.block ab hab (by simp only at hab0 ⊢; omega))).trans d1)
      have D2 := Lib.hid ((cell_of_block (HK.out.block ab hab (by simp only at hab0 ⊢; omega))).trans d2)
      have D3 := Lib.hid ((cell_of_block (HK.out.block ab hab (by simp only at hab0 ⊢; omega))).trans d3)
      have hmz := List.getElem_mem hiz
      obtain ⟨z1, z2⟩ := HW.out.ends _ hmz
      obtain ⟨z3, z4⟩ := HW.out.lt _ hmz
      obtain ⟨z5, z6⟩ := HW.out.times _ hmz
      have z7 := HW.out.nodes
      have HAI := Lib.hid (arcI_at hiz)
      have HFJ : Hid (frJ Z i = frN Z[i] ∧ toJ Z i = toN Z[i] ∧ tmJ Z i = Z[i].2.2.2.toNat) := Lib.hid (by unfold frJ toJ tmJ frN toN; rw [HAI.out]; exact ⟨rfl, rfl, rfl⟩)
      rw [z1] at D0
      rw [z2] at D1
      obtain ⟨tt, htt⟩ : ∃ tt : Nat, Z[i].2.2.2 = (tt : Int) := ⟨Z[i].2.2.2.toNat, by unfold tm at z5; omega⟩
      have htt2 : tt ≤ 1048576 := by unfold tm at z6; omega
      rw [htt] at D3 HFJ
      rw [Int.toNat_natCast] at HFJ
      generalize Z[i].2.2.1 = c at *
      generalize frN Z[i] = fr at *
      generalize toN Z[i] = tq at *
      clear htt z1 z2 z5 z6 hmz HAI d0 d1 d2 d3
      have d0 := D0.out
      have d1 := D1.out
      have d2 := D2.out
      have d3 := D3.out
      have hw1 : IntKind.i64.wrap ((H : Int) - (tt : Int)) = (H : Int) - (tt : Int) := IntWalk.i64_in _ (by omega)
      have hw2 : IntKind.i64.wrap ((H : Int) - (tt : Int) + 1) = (H : Int) - (tt : Int) + 1 := IntWalk.i64_in _ (by omega)
      have c2 := cell_whole hbx 2
      have hbq := alloc_whole hbx (.cells #[.int .i64 (fr : Int), .int .i64 (tq : Int), .int .i64 c, .int .i64 (tt : Int)] 64)
      have hnx := heap_alloc_new wr (.cells #[.int .i64 (fr : Int), .int .i64 (tq : Int), .int .i64 c, .int .i64 (tt : Int)] 64)
      have c5 := cell_whole hbq 5
      have c4 := cell_whole hbq 4
      have n0 := cell_whole hnx 0
      have n1c := cell_whole hnx 1
      have n3 := cell_whole hnx 3
      have HBX := Lib.hid hbq
      have HNX := Lib.hid hnx
      have HGX := Lib.hid (HG.out.below ((Below.refl _ wr).alloc (Nat.le_refl _) (.cells #[.int .i64 (fr : Int), .int .i64 (tq : Int), .int .i64 c, .int .i64 (tt : Int)] 64)))
      have HKX := Lib.hid (HK.out.alloc (.cells #[.int .i64 (fr : Int), .int .i64 (tq : Int), .int .i64 c, .int .i64 (tt : Int)] 64))
      clear hbx hbq hnx
      go_wp2_with fail
      obtain ⟨gr, hgr⟩ : ∃ gr, wr.heap.size = gr := ⟨_, rfl⟩
      have hgr2 : g0 + 1 < gr := by rw [← hgr]; exact HG.out.lt
      rw [hgr] at HNX n0 n1c n3 ⊢
      generalize wr.alloc (.cells #[.int .i64 (fr : Int), .int .i64 (tq : Int), .int .i64 c, .int .i64 (tt : Int)] 64) = wx at *
      clear c2 c5 c4 n0 n1c n3 d0 d1 d2 d3 D0 D1 D2 D3
      go_loopw [27] (fun iv wz => ∃ k : Nat, k ≤ cntT Z H i ∧ iv = .int .i64 (k : Int) ∧ Hid (GridW wz (g0 + 1) n1 (chgK Z f H i k)) ∧ Hid (Kept (fun j => j = g0 + 1) wx wz)) (fun iv _ => cntT Z H i - (intOf iv).toNat)
      case atStart => exact ⟨0, Nat.zero_le _, rfl, HGX, Lib.hid (Kept.refl _ _)⟩
      case round =>
        obtain ⟨k, hk, rfl, HGZ, HKZ⟩ := hrel
        clear HGX
        have hcn : cntT Z H i = H + 1 - tt := by unfold cntT; rw [HFJ.out.2.2]
        by_cases hlk : k < cntT Z H i
        · have hlk2 : (k : Int) < (H : Int) - (tt : Int) + 1 := by omega
          have hkn : (k : Int) < (n1 : Int) := by have := HN1.out; omega
          have hkn2 : k < n1 := by omega
          have hktn : (k : Int) + (tt : Int) < (n1 : Int) := by have := HN1.out; omega
          have hktn2 : k + tt < n1 := by omega
          have hfr : (fr : Int) < 50 := by omega
          have htq : (tq : Int) < 50 := by omega
          have hbz := HKZ.out.old HBX.out (show ¬ g0 = g0 + 1 by omega)
          have hnz := HKZ.out.old HNX.out (show ¬ gr = g0 + 1 by omega)
          have HAZ := Lib.hid ((HA2.out.keptS HKX.out (show ¬ bm = g0 + 1 by have := HML.out; omega)).keptS HKZ.out (show ¬ bm = g0 + 1 by have := HML.out; omega))
          have c4 := cell_whole hbz 4
          have c6 := cell_whole hbz 6
          have n0 := cell_whole hnz 0
          have n1c := cell_whole hnz 1
          have n3 := cell_whole hnz 3
          obtain ⟨e0, e1⟩ := HGZ.out.cell hkn2 (v := fr) (by omega)
          have hbd := chgK_bd (Z := Z) (f := f) (H := H) HF.out (i := i) (k := k) k fr (by omega) (by omega) hH
          have hfb := HF.out ((k : Int), (i : Int))
          have h64i : in64 (i : Int) := by unfold in64; omega
          have h64k : in64 (k : Int) := by unfold in64; omega
          obtain ⟨y, hy⟩ : ∃ y, f ((k : Int), (i : Int)) = y := ⟨_, rfl⟩
          have HY := Lib.hid hy
          rw [hy] at hfb
          obtain ⟨G, hG⟩ : ∃ G, chgK Z f H i k = G := ⟨_, rfl⟩
          have HGE := Lib.hid hG
          rw [hG] at HGZ e0 hbd
          clear hbz hnz hy hG hcn
          go_wp2_with (at_lookup; refine wpList_look_amt rfl _ _ rfl HAZ.out _ _ h64i h64k rfl rfl ?_; rw [HY.out])
          have hw3 : IntKind.i64.wrap (G k fr - y) = G k fr - y := IntWalk.i64_in _ (by omega)
          have HP1 : Hid (GridW (wr.setCell ⟨g0 + 1, k * 50 + fr, none⟩ (.int .i64 (G k fr - y))).drew (g0 + 1) n1 (updG G k fr (G k fr - y))) := Lib.hid (HGZ.out.put k (v := fr) (by omega) (G k fr - y))
          have HK1 := Lib.hid (HKZ.out.set (j := k * 50 + fr) (.inl rfl) (.int .i64 (G k fr - y))).drew
          go_region
          generalize (wr.setCell ⟨g0 + 1, k * 50 + fr, none⟩ (.int .i64 (G k fr - y))).drew = wa at *
          clear c4 c6 n0 n1c n3 e0 e1 HGZ hw3 HAZ HKZ
          obtain ⟨x1, hx1⟩ : ∃ x1, G k fr - y = x1 := ⟨_, rfl⟩
          have HX1 := Lib.hid hx1
          rw [hx1] at HP1 ⊢
          have hx1b : -216033918976 ≤ x1 ∧ x1 ≤ 216033918976 := by omega
          have hbd2 := chgK_bd (Z := Z) (f := f) (H := H) HF.out (i := i) (k := k) (k + tt) tq (by omega) (by omega) hH
          rw [HGE.out] at hbd2
          have hnz := HK1.out.old HNX.out (show ¬ gr = g0 + 1 by omega)
          have n1c := cell_whole hnz 1
          have n3 := cell_whole hnz 3
          obtain ⟨e0, e1⟩ := HP1.out.cell hktn2 (v := tq) (by omega)
          obtain ⟨g2, hg2⟩ : ∃ g2, updG G k fr x1 (k + tt) tq = g2 := ⟨_, rfl⟩
          have HG2 := Lib.hid hg2
          have hg2b : -216033918976 ≤ g2 ∧ g2 ≤ 216033918976 := by
            rw [← hg2, updG_at]
            split
            · exact hx1b
            · omega
          rw [hg2] at e0
          have hw4 : IntKind.i64.wrap (g2 + y) = g2 + y := IntWalk.i64_in _ (by omega)
          have hw5 : IntKind.i64.wrap ((k : Int) + (tt : Int)) = (k : Int) + (tt : Int) := IntWalk.i64_in _ (by omega)
          have hk0 : (0 : Int) ≤ (k : Int) + (tt : Int) := by omega
          have HP2 : Hid (GridW (wa.setCell ⟨g0 + 1, (k + tt) * 50 + tq, none⟩ (.int .i64 (g2 + y))).drew (g0 + 1) n1 (updG (updG G k fr x1) (k + tt) tq (g2 + y))) := Lib.hid (HP1.out.put (k + tt) (v := tq) (by omega) (g2 + y))
          have HK2 := Lib.hid (HK1.out.set (j := (k + tt) * 50 + tq) (.inl rfl) (.int .i64 (g2 + y))).drew
          have HQ : Hid (GridW (wa.setCell ⟨g0 + 1, (k + tt) * 50 + tq, none⟩ (.int .i64 (g2 + y))).drew (g0 + 1) n1 (chgK Z f H i (k + 1))) := Lib.hid (HP2.out.congr (fun a v _ _ => by
            have h1 := chgK_upd (Z := Z) (f := f) (H := H) i k (y := y) (x1 := x1) (x2 := g2 + y) HY.out (by rw [HGE.out, HFJ.out.1, HX1.out]) (by rw [HGE.out, HFJ.out.1, HFJ.out.2.1, HFJ.out.2.2, HG2.out]) a v
            rwa [HGE.out, HFJ.out.1, HFJ.out.2.1, HFJ.out.2.2] at h1))
          clear hnz hx1 hg2 hbd hbd2 HP2 HP1
          go_wp2_with fail
          go_region
          go_wp2
          go_roundw
          case rel => exact ⟨k + 1, by omega, by go_num, HQ, HK2⟩
          case measure => simp [intOf]; omega
        · have hlk2 : ¬ (k : Int) < (H : Int) - (tt : Int) + 1 := by omega
          have HGQ : Hid (GridW wr (g0 + 1) n1 (chgK Z f H (i + 1) 0)) := Lib.hid (HGZ.out.congr (fun a v _ _ => by rw [← chgK_next, ← show k = cntT Z H i by omega]))
          have HKQ : Hid (Kept (fun j => j = g0 + 1) w2 wr) := Lib.hid (HKX.out.trans HKZ.out (fun _ _ e => e))
          clear hcn
          go_wp2
          go_roundw
          case rel => exact ⟨i + 1, by omega, by go_num, HGQ, HKQ⟩
          case measure => simp [intOf]; omega
    · have hli : ¬ (i : Int) < (nl : Int) := by omega
      obtain rfl : nl = i := by omega
      go_wp2
      go_ret
      exact ⟨g0 + 1, rfl, by have := HZ0.out; omega, HG.out, HB1.out.trans (HK.out.below HB1.out.size (fun j e => by have e2 : j = g0 + 1 := e; have := HZ0.out; omega))⟩
end
end Go.Proofs.Ytbkmfjegbmjknaa
