/- What Busy of package table does: the pair of ends that most arcs have, the least one of several, and how many. -/
import Derived.Test.YtieomjkiabfhcaaTSums
import Derived.Test.YtieomjkiabfhcaaTGatP
import Derived.Test.YtieomjkiabfhcaaTFind
import Derived.Shelf.Abstract
namespace Go.Proofs.Ytieomjkiabfhcaa
open Go.RowKit Go.Sort Go.Shelf
set_option linter.unusedVariables false

/-- The ends of arcs. -/
def endsOf (Z : List (Int × Int × Int × Int)) : List (Int × Int) := Z.map fun a => (a.1, a.2.1)
def cnt (l : List (Int × Int)) (p : Int × Int) : Nat := (places l p).length
def better (p : Int × Int) (c : Int) (s : (Int × Int) × Int) : Bool := decide (s.2 < c) || (decide (c = s.2) && ltK (kP p) (kP s.1))
def bstep (l : List (Int × Int)) (s : (Int × Int) × Int) (p : Int × Int) : (Int × Int) × Int := if better p (cnt l p) s = true then (p, (cnt l p : Int)) else s
def busyR (l : List (Int × Int)) : (Int × Int) × Int := (firsts l).foldl (bstep l) ((0, 0), 0)
theorem bstep_no {l : List (Int × Int)} {s : (Int × Int) × Int} {p : Int × Int} (h : better p (cnt l p) s = false) : bstep l s p = s := by unfold bstep; rw [if_neg (by simp [h])]
theorem bstep_yes {l : List (Int × Int)} {s : (Int × Int) × Int} {p : Int × Int} (h : better p (cnt l p) s = true) : bstep l s p = (p, (cnt l p : Int)) := by unfold bstep; rw [if_pos h]
theorem better_iff {p : Int × Int} {c : Int} {s : (Int × Int) × Int} : better p c s = true ↔ (s.2 < c ∨ (c = s.2 ∧ ltK (kP p) (kP s.1) = true)) := by simp [better]
theorem better_self (l : List (Int × Int)) (s : (Int × Int) × Int) (p : Int × Int) : better p (cnt l p) (bstep l s p) = false := by
  unfold bstep
  split
  · rw [Bool.eq_false_iff, ne_eq, better_iff]; simp [ltK_irrefl]
  · rename_i h; simpa using h
theorem better_keeps {l : List (Int × Int)} {s : (Int × Int) × Int} {p q : Int × Int} (h : better q (cnt l q) s = false) : better q (cnt l q) (bstep l s p) = false := by
  unfold bstep
  split
  · rename_i hb
    rw [better_iff] at hb
    rw [Bool.eq_false_iff, ne_eq, better_iff] at h ⊢
    rintro (h1 | ⟨h1, h2⟩)
    · simp only at h1
      apply h; left; rcases hb with hb | hb <;> omega
    · simp only at h1 h2
      apply h
      rcases hb with hb | ⟨hb, hb2⟩
      · left; omega
      · right; exact ⟨by omega, ltK_trans h2 hb2⟩
  · exact h
/-- Folding over all ends is folding over each once. -/
theorem fold_firsts (l : List (Int × Int)) (m : List (Int × Int)) : m.foldl (bstep l) ((0, 0), 0) = (firsts m).foldl (bstep l) ((0, 0), 0) ∧ ∀ q ∈ m, better q (cnt l q) (m.foldl (bstep l) ((0, 0), 0)) = false := by
  induction m using snoc_induct with
  | h0 => exact ⟨rfl, fun q hq => by simp at hq⟩
  | h1 m x ih =>
    obtain ⟨i1, i2⟩ := ih
    rw [List.foldl_append]
    simp only [List.foldl_cons, List.foldl_nil]
    constructor
    · by_cases hx : x ∈ m
      · rw [firsts_old hx, ← i1]
        exact bstep_no (i2 x hx)
      · rw [firsts_new hx, List.foldl_append, ← i1]; rfl
    · intro q hq
      rcases List.mem_append.1 hq with hq | hq
      · exact better_keeps (i2 q hq)
      · simp at hq; subst hq; exact better_self l _ _
theorem Row.kept {α : Type} {enc : α → List Value} {k : Nat} {S : Nat → Prop} {w w' : World} {ao : Option Addr} {A : List α} (h : Row enc k w ao A) (hk : Kept S w w') (hn : ∀ ad, ao = some ad → ¬ S ad.block) : Row enc k w' ao A := by
  intro i hi
  obtain ⟨b, o, h1, h2, h3⟩ := h i hi
  have hb := hk.block b h2 (hn _ h1)
  exact ⟨b, o, h1, Nat.lt_of_lt_of_le h2 hk.size, fun j hj => by rw [World.cell?_of_block (a := ⟨b, o + i * k + j, none⟩) hb]; exact h3 j hj⟩
def busyE (r : (Int × Int) × Int) : Ending := .returned (.tuple #[.agg #[.int .i64 r.1.1, .int .i64 r.1.2], .int .i64 r.2])
theorem cnt_le (l : List (Int × Int)) (p : Int × Int) : cnt l p ≤ l.length := places_len l p
set_option maxRecDepth 100000 in
set_option maxHeartbeats 2000000 in
theorem busy_any (ao : Option Addr) (cap : Nat) (Z : List (Int × Int × Int × Int)) (w : World) (h : Row encA 4 w ao Z) (hok : ∀ x ∈ Z, okA x) (hn : Z.length ≤ 200) :
    Calls Try.prog 22 #[.slice ao Z.length cap] w fun e w' => e = busyE (busyR (endsOf Z)) ∧ Below w.heap.size w w' := by
  obtain ⟨R, hR⟩ : ∃ R, busyR (endsOf Z) = R := ⟨_, rfl⟩
  rw [hR]
  have HR1 := Lib.hid hR
  have HR := Lib.hid h
  clear hR
  have HK : Hid (∀ x ∈ endsOf Z, okP x) := Lib.hid (fun x hx => by
    obtain ⟨a, ha, rfl⟩ := List.mem_map.1 hx
    exact ⟨(hok a ha).1, (hok a ha).2.1⟩)
  clear h hok
  have hmf : ∀ (fn : Fn) (first cap : Array Value) (w : World), (Instr.makeFunc fn first cap).run Try.prog w = .ok (.func fn first cap) w := fun _ _ _ _ => rfl
  have hkl : (endsOf Z).length = Z.length := by simp [endsOf]
  have HKL := Lib.hid hkl
  have e1 : ∀ args w, (callFunc 44 args).run Try.prog w = .ok (.enter 44 args) w := enters_of Try.func44 (by kernel_rfl) rfl
  have E1 := Lib.hid e1
  clear hkl e1
  go_enter Try.func22, Try.ntmps22
  go_wp2_with fail
  have hb0 := ((Below.refl _ w).alloc (Nat.le_refl _) (.cells #[.slice ao Z.length cap] 22)).alloc (by simp) (.cells #[.int .i64 0, .int .i64 0] 37)
  have hc0 : ((w.alloc (.cells #[.slice ao Z.length cap] 22)).alloc (.cells #[.int .i64 0, .int .i64 0] 37)).cell? ⟨w.heap.size, 0, none⟩ = some (.slice ao Z.length cap) := box0 w _ _ _ _ 0
  have hc1 := new_whole1 w (.cells #[.slice ao Z.length cap] 22) (.cells #[.int .i64 0, .int .i64 0] 37)
  have hr0 := row_alloc (row_alloc HR.out (.cells #[.slice ao Z.length cap] 22)) (.cells #[.int .i64 0, .int .i64 0] 37)
  have hsz0 : ((w.alloc (.cells #[.slice ao Z.length cap] 22)).alloc (.cells #[.int .i64 0, .int .i64 0] 37)).heap.size = w.heap.size + 2 := by simp
  generalize (w.alloc (.cells #[.slice ao Z.length cap] 22)).alloc (.cells #[.int .i64 0, .int .i64 0] 37) = w1 at *
  have HB0 := Lib.hid hb0
  have HC0 := Lib.hid hc0
  have HC1 := Lib.hid hc1
  have HR0 := Lib.hid hr0
  have HS0 := Lib.hid hsz0
  clear hb0 hc0 hr0 hsz0 hc1
  have hgat := gatherp_any 44 #[.pointer (some ⟨w.heap.size, 0, none⟩)] (endsOf Z) w1 HK.out (by rw [HKL.out]; exact hn) E1.out (fun i hi W hW => by
    have hi' : i < Z.length := by rw [← HKL.out]; exact hi
    have := busy1_any i w.heap.size ao cap Z W (by rw [hW.cell (p := ⟨w.heap.size, 0, none⟩) (by rw [HS0.out]; show w.heap.size < _; omega)]; exact HC0.out) (HR0.out.below' hW) hi' hn
    have e : (endsOf Z)[i] = (Z[i].1, Z[i].2.1) := by simp [endsOf]
    rw [e]; exact this)
  rw [HKL.out] at hgat
  refine hgat.mono ?_
  rintro e w2 ⟨ks, gs, vs, own, B, rfl, hG⟩
  clear hgat
  obtain ⟨ga, gcap, rfl, hgr, hga⟩ := own_row encV_len hG.gr
  obtain ⟨ka, kcap, rfl, hkr, hka⟩ := own_row encP_len hG.kr
  have hvs : ∀ i (hi : i < vs.length) p, (firsts (endsOf Z))[i]? = some p → ∃ ao cap, vs[i] = .slice ao (cnt (endsOf Z) p) cap := by
    intro i hi p hp
    obtain ⟨ao, c, e2, _, _⟩ := own_row encI_len (hG.inn i (by rw [← hG.len]; exact hi))
    rw [grps_getD hp, natI_len, getD_of_lt hi] at e2
    exact ⟨ao, c, e2⟩
  have hvl : vs.length = (firsts (endsOf Z)).length := by rw [hG.len, grps_len]
  have HVS := Lib.hid hvs
  have HVL := Lib.hid hvl
  have HGR := Lib.hid hgr
  have HGA : Hid (∀ ad, ga = some ad → ¬ ad.block = w.heap.size + 1) := Lib.hid (fun ad e => by have := (hga ad e).2.1; rw [HS0.out] at this; omega)
  have HKA : Hid (∀ ad, ka = some ad → ¬ ad.block = w.heap.size + 1) := Lib.hid (fun ad e => by have := (hka ad e).2.1; rw [HS0.out] at this; omega)
  have HKR := Lib.hid hkr
  have HB2 := Lib.hid (HB0.out.trans (hG.below.mono HB0.out.size))
  have HE2 : Hid (w2.heap[w.heap.size + 1]? = some (.cells #[.int .i64 0, .int .i64 0] 37)) := Lib.hid ((hG.below.block _ (by rw [HS0.out]; omega)).trans HC1.out)
  have hfl : (firsts (endsOf Z)).length ≤ 200 := by have := firsts_len (endsOf Z); rw [HKL.out] at this; omega
  have HCL : Hid (∀ p, cnt (endsOf Z) p ≤ 200) := Lib.hid (fun p => by have := cnt_le (endsOf Z) p; rw [HKL.out] at this; omega)
  have HRE : Hid (R = (firsts (endsOf Z)).foldl (bstep (endsOf Z)) ((0, 0), 0)) := Lib.hid HR1.out.symm
  clear HR1
  clear hgr hkr hvs hvl hga hka hG HR HK HB0 HC0 HC1 HR0
  generalize endsOf Z = EZ at *
  generalize firsts EZ = KL at *
  rw [HVL.out]
  go_wp2_with fail
  go_loopw [3, 18] (fun sn si wr => ∃ (i : Nat) (x y c : Int), i ≤ KL.length ∧ 0 ≤ c ∧ c ≤ 200 ∧ Hid (((x, y), c) = (KL.take i).foldl (bstep EZ) ((0, 0), 0)) ∧ Hid (Kept (fun i => i = w.heap.size + 1) w2 wr) ∧ Hid (wr.heap[w.heap.size + 1]? = some (.cells #[.int .i64 x, .int .i64 y] 37)) ∧ sn = .int .i64 c ∧ si = .int .i64 (i : Int)) (fun _ si _ => KL.length - (intOf si).toNat)
  case atStart => exact ⟨0, 0, 0, 0, by omega, by omega, by omega, Lib.hid rfl, Lib.hid (Kept.refl _ _), HE2, rfl, rfl⟩
  case round =>
    clear HE2
    obtain ⟨i, x, y, c, hi, hc0, hc1, HF, HKP, HEB, rfl, rfl⟩ := hrel
    by_cases hlt : i < KL.length
    · have hli : (i : Int) < (KL.length : Int) := by omega
      obtain ⟨kb, ko, e, hkb, k0, k1⟩ := (HKR.out.kept HKP.out HKA.out).pair hlt
      cases e
      obtain ⟨gb, go, e, hgb, g0⟩ := (HGR.out.kept HKP.out HGA.out) i (by rw [HVL.out]; exact hlt)
      cases e
      have g1 := g0 0 (by omega)
      obtain ⟨iao, icap, hvi⟩ := HVS.out i (by rw [HVL.out]; exact hlt) KL[i] (List.getElem?_eq_getElem hlt)
      rw [hvi, Nat.mul_one, Nat.add_zero] at g1
      have g2 : wr.cell? ⟨gb, go + i, none⟩ = some (.slice iao (cnt EZ KL[i]) icap) := g1
      have hfs : (KL.take (i + 1)).foldl (bstep EZ) ((0, 0), 0) = bstep EZ ((x, y), c) KL[i] := by
        rw [take_snoc KL hlt, List.foldl_append, ← HF.out]; rfl
      have hcl := HCL.out KL[i]
      clear g0 g1 hvi
      generalize KL[i] = pp at *
      obtain ⟨a, b⟩ := pp
      simp only at k0 k1
      have HFS := Lib.hid hfs
      obtain ⟨m, hm⟩ : ∃ m, cnt EZ (a, b) = m := ⟨_, rfl⟩
      rw [hm] at g2 hcl
      have HM := Lib.hid hm
      clear hfs hm
      have hebl := lt_whole HEB.out
      have m0 : wr.cell? ⟨w.heap.size + 1, 0, none⟩ = some (.int .i64 x) := cell_whole HEB.out 0
      have m1 : wr.cell? ⟨w.heap.size + 1, 1, none⟩ = some (.int .i64 y) := cell_whole HEB.out 1
      have f0 := frozen_whole HEB.out 0
      have f1 := frozen_whole HEB.out 1
      have hne1 : gb ≠ wr.heap.size := by omega
      have hne2 : w.heap.size + 1 ≠ wr.heap.size := by omega
      by_cases hA : c < (m : Int)
      · have HB' : Hid (bstep EZ ((x, y), c) (a, b) = ((a, b), (m : Int))) := Lib.hid (by rw [bstep_yes (by rw [better_iff, HM.out]; exact .inl hA), HM.out])
        go_wp2
        have HE3 := Lib.hid (alloc_whole (set_whole (set_whole HEB.out 0 (.int .i64 a)) 1 (.int .i64 b)) (.cells #[.int .i64 a, .int .i64 b] 37))
        have HK3 := Lib.hid (((HKP.out.set (g := w.heap.size + 1) (j := 0) (.inl rfl) (.int .i64 a)).set (g := w.heap.size + 1) (j := 1) (.inl rfl) (.int .i64 b)).alloc (.cells #[.int .i64 a, .int .i64 b] 37))
        go_roundw
        case rel => exact ⟨i + 1, a, b, (m : Int), by omega, by omega, by omega, Lib.hid (by rw [HFS.out, HB'.out]), HK3, HE3, rfl, by go_num⟩
        case measure => simp [intOf]; omega
      · by_cases hD : (m : Int) < c
        · have HB' : Hid (bstep EZ ((x, y), c) (a, b) = ((x, y), c)) := Lib.hid (bstep_no (by rw [Bool.eq_false_iff, ne_eq, better_iff, HM.out]; rintro (h | ⟨h, _⟩) <;> simp only at h <;> omega))
          have q1 : ((m : Int) == c) = false := by simp; omega
          have q2 : decide (c < (m : Int)) = false := decide_eq_false hA
          go_wp2
          have HE3 := Lib.hid (alloc_whole HEB.out (.cells #[.int .i64 a, .int .i64 b] 37))
          have HK3 := Lib.hid (HKP.out.alloc (.cells #[.int .i64 a, .int .i64 b] 37))
          go_roundw
          case rel => exact ⟨i + 1, x, y, c, by omega, by omega, by omega, Lib.hid (by rw [HFS.out, HB'.out]), HK3, HE3, rfl, by go_num⟩
          case measure => simp [intOf]; omega
        · obtain rfl : c = (m : Int) := by omega
          clear hA hD
          have HC := Lib.hid (cmpP_lt (a, b) (x, y))
          by_cases hB : cmpP (a, b) (x, y) < 0
          · have hl : ltK (kP (a, b)) (kP (x, y)) = true := by rw [← HC.out]; exact decide_eq_true hB
            have HB' : Hid (bstep EZ ((x, y), (m : Int)) (a, b) = ((a, b), (m : Int))) := Lib.hid (by rw [bstep_yes (by rw [better_iff, HM.out]; exact .inr ⟨rfl, hl⟩), HM.out])
            clear hl
            go_wp2_with (go_at_call 45; refine (cmpp_any (a, b) (x, y) _).mono ?_; rintro e w4 ⟨rfl, q, os, hw4⟩; have hb4 := below_grow (wr.alloc (.cells #[.int .i64 a, .int .i64 b] 37)) q os; rw [← hw4] at hb4; clear hw4; have he4 := (hb4.block _ (by simp; omega)).trans (alloc_whole HEB.out (.cells #[.int .i64 a, .int .i64 b] 37)); have p0 : w4.cell? ⟨wr.heap.size, 0, none⟩ = some (.int .i64 a) := (cell_below hb4 (cell_new _ _ _ 0)); have p1 : w4.cell? ⟨wr.heap.size, 1, none⟩ = some (.int .i64 b) := (cell_below hb4 (cell_new _ _ _ 1)); have u0 := cell_whole he4 0; have u1 := cell_whole he4 1; simp at u0 u1; have v0 := frozen_whole he4 0; have v1 := frozen_whole he4 1; have HE4 := Lib.hid he4; have HK4 := Lib.hid ((HKP.out.alloc (.cells #[.int .i64 a, .int .i64 b] 37)).trans' (Kept.of_below hb4)); clear hb4 he4)
            have HE3 := Lib.hid (set_whole (set_whole HE4.out 0 (.int .i64 a)) 1 (.int .i64 b))
            have HK3 := Lib.hid ((HK4.out.set (g := w.heap.size + 1) (j := 0) (.inl rfl) (.int .i64 a)).set (g := w.heap.size + 1) (j := 1) (.inl rfl) (.int .i64 b))
            go_roundw
            case rel => exact ⟨i + 1, a, b, (m : Int), by omega, by omega, by omega, Lib.hid (by rw [HFS.out, HB'.out]), HK3, HE3, rfl, by go_num⟩
            case measure => simp [intOf]; omega
          · have hl : ltK (kP (a, b)) (kP (x, y)) = false := by rw [← HC.out]; exact decide_eq_false hB
            have HB' : Hid (bstep EZ ((x, y), (m : Int)) (a, b) = ((x, y), (m : Int))) := Lib.hid (bstep_no (by rw [Bool.eq_false_iff, ne_eq, better_iff, HM.out]; rintro (h | ⟨_, h⟩); exact absurd h (by simp); rw [hl] at h; cases h))
            have hB' : 0 ≤ cmpP (a, b) (x, y) := by omega
            clear hl hB
            go_wp2_with (go_at_call 45; refine (cmpp_any (a, b) (x, y) _).mono ?_; rintro e w4 ⟨rfl, q, os, hw4⟩; have hb4 := below_grow (wr.alloc (.cells #[.int .i64 a, .int .i64 b] 37)) q os; rw [← hw4] at hb4; clear hw4; have he4 := (hb4.block _ (by simp; omega)).trans (alloc_whole HEB.out (.cells #[.int .i64 a, .int .i64 b] 37)); have HE4 := Lib.hid he4; have HK4 := Lib.hid ((HKP.out.alloc (.cells #[.int .i64 a, .int .i64 b] 37)).trans' (Kept.of_below hb4)); clear hb4 he4)
            go_roundw
            case rel => exact ⟨i + 1, x, y, (m : Int), by omega, by omega, by omega, Lib.hid (by rw [HFS.out, HB'.out]), HK4, HE4, rfl, by go_num⟩
            case measure => simp [intOf]; omega
    · obtain rfl : i = KL.length := by omega
      have hf := HF.out
      rw [List.take_length, ← HRE.out] at hf
      subst hf
      have m0 : wr.cell? ⟨w.heap.size + 1, 0, none⟩ = some (.int .i64 x) := cell_whole HEB.out 0
      have m1 : wr.cell? ⟨w.heap.size + 1, 1, none⟩ = some (.int .i64 y) := cell_whole HEB.out 1
      have f0 := frozen_whole HEB.out 0
      have f1 := frozen_whole HEB.out 1
      go_wp2
      have q := set_whole (set_whole HEB.out 0 (.int .i64 x)) 1 (.int .i64 y)
      have q0 := cell_whole q 0
      have q1 := cell_whole q 1
      simp only [setArr20, setArr21] at q0 q1
      have hb3 := (((HKP.out.set (g := w.heap.size + 1) (j := 0) (.inl rfl) (.int .i64 x)).set (g := w.heap.size + 1) (j := 1) (.inl rfl) (.int .i64 y))).below HB2.out.size (fun i hi => by omega)
      have hb4 := HB2.out.trans hb3
      clear q hb3 m0 m1 f0 f1
      generalize (wr.setCell ⟨w.heap.size + 1, 0, none⟩ (.int .i64 x)).setCell ⟨w.heap.size + 1, 1, none⟩ (.int .i64 y) = w3 at *
      exact bodyPost_ret (v := .tuple #[.agg #[.int .i64 x, .int .i64 y], .int .i64 c]) (by simp [results, Try.results22, go_sem, q0, q1]) rfl ⟨rfl, hb4⟩
end Go.Proofs.Ytieomjkiabfhcaa
