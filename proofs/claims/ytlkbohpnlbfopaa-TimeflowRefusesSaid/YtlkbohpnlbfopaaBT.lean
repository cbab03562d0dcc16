/- Lemmas of the layers below, several texts in one. -/
import Derived.Test.YtlkbohpnlbfopaaBR
import Derived.Test.YtlkbohpnlbfopaaBS
import Derived.BigRegion
import Derived.RegionTactic
import Derived.IntWalk
import Derived.Deep.RegionLaw
import Derived.Deep.AppendLies
namespace Go.Proofs.Ytlkbohpnlbfopaa
open Go.RowKit
set_option linter.unusedVariables false
section
variable {α : Type}
def insAt (M : List α) (x : α) (k : Nat) : List α := M.take k ++ x :: M.drop k
theorem insAt_len (M : List α) (x : α) (k : Nat) : (insAt M x k).length = M.length + 1 := by unfold insAt; simp; omega
theorem insAt_end (M : List α) (x : α) : insAt M x M.length = M ++ [x] := by unfold insAt; rw [List.take_length, List.drop_length]
theorem insAt_perm (M : List α) (x : α) (k : Nat) : (insAt M x k).Perm (x :: M) := by
  unfold insAt
  refine (List.perm_middle).trans (List.Perm.cons x ?_)
  rw [List.take_append_drop]
theorem insAt_at {M : List α} {x : α} {k : Nat} (hk : k ≤ M.length) : (insAt M x k)[k]? = some x := by
  unfold insAt; rw [List.getElem?_append_right (by simp; omega)]; simp [Nat.min_eq_left hk]
theorem insAt_ahead {M : List α} {x : α} {k j : Nat} (hj : j < k) (hk : k ≤ M.length) : (insAt M x k)[j]? = M[j]? := by
  unfold insAt; rw [List.getElem?_append_left (by simp; omega), List.getElem?_take_of_lt hj]
theorem insAt_step {M : List α} {x : α} {k : Nat} (hk : k + 1 ≤ M.length) {y : α} (hy : M[k]? = some y) : ((insAt M x (k + 1)).set (k + 1) y).set k x = insAt M x k := by
  obtain ⟨hl, rfl⟩ := List.getElem?_eq_some_iff.1 hy
  apply List.ext_getElem?
  intro i
  have hlen := insAt_len M x (k + 1)
  rw [List.getElem?_set, List.getElem?_set]
  by_cases h1 : k = i
  · subst h1
    rw [if_pos rfl, insAt_at (by omega)]
    simp [hlen]; omega
  · rw [if_neg h1]
    by_cases h2 : k + 1 = i
    · subst h2
      rw [if_pos rfl]
      have : (insAt M x k)[k + 1]? = some M[k] := by
        unfold insAt
        rw [List.getElem?_append_right (by simp; omega)]
        simp [Nat.min_eq_left (show k ≤ M.length by omega)]
      rw [this]
      simp [hlen]; omega
    · rw [if_neg h2]
      rcases Nat.lt_or_ge i k with h3 | h3
      · rw [insAt_ahead (by omega) hk, insAt_ahead h3 (by omega)]
      · unfold insAt
        rw [List.getElem?_append_right (by simp; omega), List.getElem?_append_right (by simp; omega)]
        simp only [List.length_take, Nat.min_eq_left (show k ≤ M.length by omega), Nat.min_eq_left (show k + 1 ≤ M.length by omega)]
        rw [show i - k = (i - (k + 1)) + 1 by omega, List.getElem?_cons_succ]
        obtain ⟨d, hd⟩ : ∃ d, i - (k + 1) = d + 1 := ⟨i - (k + 1) - 1, by omega⟩
        rw [hd, List.getElem?_cons_succ, List.getElem?_drop, List.getElem?_drop]
        congr 1; omega
theorem insAt_sorted {key : α → Int × Int × Int} {M : List α} {x : α} {k : Nat} (hs : Sorted key M) (hk : k ≤ M.length) (hb : ∀ j (hj : j < M.length), k ≤ j → ltK (key x) (key M[j]) = true) (ha : ∀ (hj : k - 1 < M.length), 0 < k → ltK (key x) (key M[k - 1]) = false) : Sorted key (insAt M x k) := by
  unfold insAt Sorted
  have hs' := hs
  unfold Sorted at hs'
  rw [← List.take_append_drop k M, List.pairwise_append] at hs'
  obtain ⟨p1, p2, p3⟩ := hs'
  refine List.pairwise_append.2 ⟨p1, List.pairwise_cons.2 ⟨fun y hy => ?_, p2⟩, fun a ha' b hb' => ?_⟩
  · obtain ⟨i, hi, rfl⟩ := List.getElem_of_mem hy
    rw [List.getElem_drop]
    exact ltK_asymm (hb (k + i) (by simp at hi; omega) (by omega))
  · rcases List.mem_cons.1 hb' with rfl | hb'
    · obtain ⟨i, hi, rfl⟩ := List.getElem_of_mem ha'
      have hik : i < k := by simp at hi; omega
      have hM : i < M.length := by omega
      rw [List.getElem_take]
      have h1 := ha (by omega) (by omega)
      rcases Nat.lt_or_ge i (k - 1) with h2 | h2
      · have h3 := (List.pairwise_iff_getElem.1 hs) i (k - 1) hM (by omega) h2
        exact ltK_ntrans h1 h3
      · have : i = k - 1 := by omega
        subst this; exact h1
    · exact p3 a ha' b hb'
end
end Go.Proofs.Ytlkbohpnlbfopaa
namespace Go.Proofs.Ytlkbohpnlbfopaa
open Go.RowKit
set_option linter.unusedVariables false
theorem flat_set3 : ∀ (L : List (Int × Int × Int)) (j : Nat) (y : Int × Int × Int), (((L.flatMap encK).set (j * 3) (.int .i64 y.1)).set (j * 3 + 1) (.int .i64 y.2.1)).set (j * 3 + 2) (.int .i64 y.2.2) = (L.set j y).flatMap encK
  | [], j, y => by simp
  | z :: L, 0, y => by simp [encK]
  | z :: L, j + 1, y => by
    have ih := flat_set3 L j y
    rw [List.set_cons_succ, List.flatMap_cons, List.flatMap_cons, ← ih]
    simp only [encK, List.cons_append, List.nil_append]
    rw [show (j + 1) * 3 = j * 3 + 1 + 1 + 1 by omega]
    rfl
theorem own_put3 {w : World} {base g n cap j : Nat} {e : TypeId} {L : List (Int × Int × Int)} (h : w.ownsRow base e 3 (.slice (some ⟨g, 0, none⟩) n cap) L.length (L.flatMap encK)) (y : Int × Int × Int) :
    (((w.setCell ⟨g, j * 3, none⟩ (.int .i64 y.1)).setCell ⟨g, j * 3 + 1, none⟩ (.int .i64 y.2.1)).setCell ⟨g, j * 3 + 2, none⟩ (.int .i64 y.2.2)).ownsRow base e 3 (.slice (some ⟨g, 0, none⟩) n cap) (L.set j y).length ((L.set j y).flatMap encK) := by
  refine ⟨by rw [flat_len encK_len], ?_⟩
  rcases h.2 with ⟨h0, _⟩ | ⟨g', cap', cur, e1, hb, hg, h1, h2, h3, h4⟩
  · cases h0
  · have hg' : g' = g := by cases e1; rfl
    have hcap : cap' = cap := by cases e1; rfl
    have hn : n = L.length := by cases e1; rfl
    subst hg'; subst hcap
    refine .inr ⟨g', cap', _, by rw [List.length_set, ← hn], hb, set_whole (set_whole (set_whole hg _ _) _ _) _ _, by rw [List.length_set]; exact h1, h2, by simpa using h3, ?_⟩
    rw [Array.toList_setIfInBounds, Array.toList_setIfInBounds, Array.toList_setIfInBounds, List.length_set, List.take_set, List.take_set, List.take_set, h4]
    exact flat_set3 L j y
theorem own_cells3 {w : World} {base g n cap : Nat} {e : TypeId} {L : List (Int × Int × Int)} (h : w.ownsRow base e 3 (.slice (some ⟨g, 0, none⟩) n cap) L.length (L.flatMap encK)) {j : Nat} {x : Int × Int × Int} (hj : L[j]? = some x) :
    w.cell? ⟨g, j * 3, none⟩ = some (.int .i64 x.1) ∧ w.cell? ⟨g, j * 3 + 1, none⟩ = some (.int .i64 x.2.1) ∧ w.cell? ⟨g, j * 3 + 2, none⟩ = some (.int .i64 x.2.2) ∧ (∀ q, w.frozen? ⟨g, q, none⟩ = false) := by
  obtain ⟨hl, rfl⟩ := List.getElem?_eq_some_iff.1 hj
  rcases h.2 with ⟨h0, _⟩ | ⟨g', cap', cur, e1, hb, hg, h1, h2, h3, h4⟩
  · cases h0
  · have hg' : g' = g := by cases e1; rfl
    subst hg'
    obtain ⟨ao, cp, e2, hr, _⟩ := own_rowQ encK_len h
    have hao : ao = some ⟨g', 0, none⟩ := by cases e2; rfl
    obtain ⟨b, o, e3, _, c0, c1, c2⟩ := Row.tri hr hl
    rw [hao] at e3
    cases e3
    rw [Nat.zero_add] at c0 c1 c2
    exact ⟨c0, c1, c2, fun q => frozen_whole hg q⟩
def mvAt (Z : List MoveT) (i : Nat) : List MoveT := ((firsts ((pairsOf Z).take i)).map (mkMove Z)).filter notNil
theorem mvAt_all (Z : List MoveT) : mvAt Z Z.length = mvs Z := by
  unfold mvAt mvs; rw [List.take_of_length_le (by simp [pairsOf])]
theorem mvAt_old {Z : List MoveT} {i : Nat} {p : Int × Int} (hi : (pairsOf Z)[i]? = some p) (h : p ∈ (pairsOf Z).take i) : mvAt Z (i + 1) = mvAt Z i ∧ firsts ((pairsOf Z).take (i + 1)) = firsts ((pairsOf Z).take i) := by
  have e : firsts ((pairsOf Z).take (i + 1)) = firsts ((pairsOf Z).take i) := by rw [take_snoc' hi, firsts_old h]
  exact ⟨by unfold mvAt; rw [e], e⟩
theorem mvAt_new {Z : List MoveT} {i : Nat} {p : Int × Int} (hi : (pairsOf Z)[i]? = some p) (h : p ∉ (pairsOf Z).take i) : (nSum Z p = 0 → mvAt Z (i + 1) = mvAt Z i) ∧ (nSum Z p ≠ 0 → mvAt Z (i + 1) = mvAt Z i ++ [(p.2, p.1, nSum Z p)]) ∧ firsts ((pairsOf Z).take (i + 1)) = firsts ((pairsOf Z).take i) ++ [p] := by
  have e : firsts ((pairsOf Z).take (i + 1)) = firsts ((pairsOf Z).take i) ++ [p] := by rw [take_snoc' hi, firsts_new h]
  refine ⟨fun h0 => ?_, fun h0 => ?_, e⟩
  · unfold mvAt; rw [e, List.map_append, List.filter_append]; simp [mkMove, notNil, h0]
  · unfold mvAt; rw [e, List.map_append, List.filter_append]; simp [mkMove, notNil, h0]
def allN (Z : List MoveT) (p : Int × Int) (k : Nat) : List Int := (placesQ ((pairsOf Z).take k) p).map (nAt Z)
theorem allN_two {Z : List MoveT} {p : Int × Int} {k : Nat} (hk : k < Z.length) : ((Z[k].2.1, Z[k].1) = p → allN Z p (k + 1) = allN Z p k ++ [Z[k].2.2]) ∧ ((Z[k].2.1, Z[k].1) ≠ p → allN Z p (k + 1) = allN Z p k) := by
  have hp : (pairsOf Z)[k]? = some (Z[k].2.1, Z[k].1) := by unfold pairsOf; rw [List.getElem?_map, List.getElem?_eq_getElem hk]; rfl
  have hl : ((pairsOf Z).take k).length = k := by simp [pairsOf]; omega
  unfold allN
  rw [take_snoc' hp, places_snocQ, hl, List.map_append]
  refine ⟨fun h => by rw [if_pos h]; simp [nAt_eq hk], fun h => by rw [if_neg h]; simp⟩
theorem allN_start {Z : List MoveT} {p : Int × Int} {i : Nat} (h : p ∉ (pairsOf Z).take i) : allN Z p i = [] := by unfold allN; rw [places_none h]; rfl
theorem allN_all (Z : List MoveT) (p : Int × Int) : (allN Z p Z.length).sum = nSum Z p := by unfold allN nSum; rw [List.take_of_length_le (by simp [pairsOf])]
theorem allN_len (Z : List MoveT) (p : Int × Int) (k : Nat) : (allN Z p k).length ≤ Z.length := by
  unfold allN; rw [List.length_map]; have h1 := places_lenQ ((pairsOf Z).take k) p; rw [List.length_take] at h1
  have h2 : (pairsOf Z).length = Z.length := by simp [pairsOf]
  omega
theorem allN_in {Z : List MoveT} (hk : ∀ x ∈ Z, okK x) (p : Int × Int) (k : Nat) : In64Q (allN Z p k) := by
  intro z hz
  obtain ⟨j, hj, rfl⟩ := List.mem_map.1 hz
  have hjl : j < Z.length := by
    have := (List.getElem?_eq_some_iff.1 (mem_places.1 hj)).1
    simp [pairsOf] at this; omega
  rw [nAt_eq hjl]
  exact (hk _ (List.getElem_mem hjl)).2.2
end Go.Proofs.Ytlkbohpnlbfopaa
namespace Go.Proofs.Ytlkbohpnlbfopaa
open Go.RowKit
set_option linter.unusedVariables false
def memM (x : Int × Int) (l : List (Int × Int)) : Bool := decide (x ∈ l)
theorem memM_yes {x : Int × Int} {l : List (Int × Int)} : memM x l = true ↔ x ∈ l := by unfold memM; exact decide_eq_true_iff
theorem memM_no {x : Int × Int} {l : List (Int × Int)} : memM x l = false ↔ x ∉ l := by unfold memM; exact decide_eq_false_iff_not
theorem memM_step {l : List (Int × Int)} {k : Nat} {y x : Int × Int} (h : l[k]? = some y) : (y = x → memM x (l.take (k + 1)) = true) ∧ (y ≠ x → memM x (l.take (k + 1)) = memM x (l.take k)) ∧ (memM x (l.take k) = true → memM x (l.take (k + 1)) = true) := by
  rw [take_snoc' h]
  refine ⟨fun e => memM_yes.2 (by simp [e]), fun e => ?_, fun e => memM_yes.2 (List.mem_append_left _ (memM_yes.1 e))⟩
  rw [Bool.eq_iff_iff, memM_yes, memM_yes]
  simp [Ne.symm e]
theorem ltM_iff (a b n x y m : Int) : ltK (kM (a, b, n)) (kM (x, y, m)) = true ↔ (b < y ∨ b = y ∧ a < x) := by rw [ltK_iff]; simp [kM]
theorem with_k {α β γ : Type} {H : α → β → γ → Prop} {G : Prop} {P : α → β → γ → Prop} (main : (∀ a b c, H a b c → P a b c) → G) (k : ∀ a b c, H a b c → P a b c) : G := main k
set_option maxRecDepth 100000 in
set_option maxHeartbeats 8000000 in
theorem rmoves_some (ad : Addr) (cap : Nat) (Z : List MoveT) (w : World) (h : Row encK 3 w (some ad) Z) (hok : ∀ x ∈ Z, okK x) (hn : Z.length ≤ 200) :
    Calls Try.prog 14 #[.slice (some ad) Z.length cap] w (MovesRes Z w) := by
  have HR := Lib.hid h
  have HK := Lib.hid hok
  clear h hok
  have HEI : Hid (∀ i (hi : i < Z.length), (pairsOf Z)[i]? = some (Z[i].2.1, Z[i].1)) := Lib.hid (fun i hi => by unfold pairsOf; rw [List.getElem?_map, List.getElem?_eq_getElem hi]; rfl)
  go_enter Try.func14, Try.ntmps14
  go_wp2
  go_loopw [4, 5] (fun ov si wr => ∃ (i : Nat) (M : List MoveT), i ≤ Z.length ∧ M.length ≤ i ∧ Hid (Below w.heap.size w wr) ∧ Hid (wr.ownsRow w.heap.size 78 3 ov M.length (M.flatMap encK)) ∧ Hid (M.Perm (mvAt Z i)) ∧ Hid (Sorted kM M) ∧ Hid (∀ p ∈ firsts ((pairsOf Z).take i), in64 (nSum Z p)) ∧ si = .int .i64 (i : Int)) (fun _ si _ => Z.length - (intOf si).toNat)
  case atStart => exact ⟨0, [], by omega, by simp, Lib.hid (Below.refl _ _), Lib.hid (World.ownsRow_nil _ _ _ _), Lib.hid (List.Perm.refl _), Lib.hid List.Pairwise.nil, Lib.hid (fun p hp => by simp [firsts_nil] at hp), rfl⟩
  case round =>
    obtain ⟨i, M, hi, hMi, HB, HO, HP, HSO, HIN, rfl⟩ := hrel
    obtain ⟨wo, hwo⟩ : ∃ wo, wo = wr := ⟨_, rfl⟩
    subst hwo
    by_cases hlt : i < Z.length
    · have hli : (i : Int) < (Z.length : Int) := by omega
      obtain ⟨ab, ax, e, hab, d0, d1, d2⟩ := (HR.out.below' HB.out).tri hlt
      cases e
      have hep := HEI.out i hlt
      obtain ⟨z, hz⟩ : ∃ z, Z[i] = z := ⟨_, rfl⟩
      rw [hz] at d0 d1 d2 hep
      obtain ⟨xr, xt, xn⟩ := z
      simp only at d0 d1 d2 hep
      have HEP := Lib.hid hep
      clear hz hep d2
      go_wp2
      go_loopw [6, 7] (fun hv sk wi => ∃ (k q : Nat) (hd : Bool), k ≤ i ∧ Hid (hd = !memM (xt, xr) ((pairsOf Z).take k)) ∧ Hid (wi = wo.drewN q) ∧ hv = .bool hd ∧ sk = .int .i64 (k : Int)) (fun _ sk _ => i - (intOf sk).toNat)
      case atStart => exact ⟨0, 0, true, by omega, Lib.hid (by rw [memM_no.2 (by simp)]; rfl), Lib.hid rfl, rfl, rfl⟩
      case round =>
        obtain ⟨k, q, hd, hk, HD, HQ, rfl, rfl⟩ := hrel
        by_cases hlk : k < i
        · have hlkI : (k : Int) < (i : Int) := by omega
          have hlkZ : (k : Int) < (Z.length : Int) := by omega
          have hkz : k < Z.length := by omega
          obtain ⟨b2, x2, e, _, c0, c1, c2⟩ := (HR.out.below' HB.out).tri hkz
          cases e
          have hek := HEI.out k hkz
          obtain ⟨z, hz⟩ : ∃ z, Z[k] = z := ⟨_, rfl⟩
          rw [hz] at c0 c1 hek
          obtain ⟨yr, yt, yn⟩ := z
          simp only at c0 c1 hek
          have HMS := Lib.hid (memM_step (x := (xt, xr)) hek)
          clear hz hek c2
          have c0' := cell_drew HQ.out c0
          have c1' := cell_drew HQ.out c1
          have d0' := cell_drew HQ.out d0
          have d1' := cell_drew HQ.out d1
          cases hd
          · have hmm : memM (xt, xr) ((pairsOf Z).take k) = true := by have := HD.out; simpa using this.symm
            have HD2 : Hid (false = !memM (xt, xr) ((pairsOf Z).take (k + 1))) := Lib.hid (by rw [HMS.out.2.2 hmm]; rfl)
            clear HMS hmm
            go_wp2
            go_quiet (fail)
            go_wp2
            go_roundw
            case rel => exact ⟨k + 1, q + nq, false, by omega, HD2, Lib.hid (by rw [HQ.out, World.drewN_drewN]), rfl, by go_num⟩
            case measure => simp [intOf]; omega
          · have hmm : memM (xt, xr) ((pairsOf Z).take k) = false := by have := HD.out; simpa using this.symm
            by_cases h1 : yr = xr
            · by_cases h2 : yt = xt
              · subst h1; subst h2
                have HD2 : Hid (false = !memM (yt, yr) ((pairsOf Z).take (k + 1))) := Lib.hid (by rw [HMS.out.1 rfl]; rfl)
                have g1 : (yr == yr) = true := by simp
                have g2 : (yt == yt) = true := by simp
                have g3 : (yr != yr) = false := by simp
                have g4 : (yt != yt) = false := by simp
                clear HMS hmm
                go_wp2
                go_quiet (fail)
                go_wp2
                go_roundw
                case rel => exact ⟨k + 1, q + nq, false, by omega, HD2, Lib.hid (by rw [HQ.out, World.drewN_drewN]), rfl, by go_num⟩
                case measure => simp [intOf]; omega
              · subst h1
                have HD2 : Hid (true = !memM (xt, yr) ((pairsOf Z).take (k + 1))) := Lib.hid (by rw [HMS.out.2.1 (fun e => h2 (Prod.mk.inj e).1), hmm]; rfl)
                have g1 : (yr == yr) = true := by simp
                have g3 : (yr != yr) = false := by simp
                have g2 : (yt == xt) = false := by simpa using h2
                have g4 : (yt != xt) = true := by simpa using h2
                clear HMS hmm h2
                go_wp2
                go_quiet (fail)
                go_wp2
                go_roundw
                case rel => exact ⟨k + 1, q + nq, true, by omega, HD2, Lib.hid (by rw [HQ.out, World.drewN_drewN]), rfl, by go_num⟩
                case measure => simp [intOf]; omega
            · have HD2 : Hid (true = !memM (xt, xr) ((pairsOf Z).take (k + 1))) := Lib.hid (by rw [HMS.out.2.1 (fun e => h1 (Prod.mk.inj e).2), hmm]; rfl)
              have g1 : (yr == xr) = false := by simpa using h1
              have g3 : (yr != xr) = true := by simpa using h1
              clear HMS hmm h1
              go_wp2
              go_quiet (fail)
              go_wp2
              go_roundw
              case rel => exact ⟨k + 1, q + nq, true, by omega, HD2, Lib.hid (by rw [HQ.out, World.drewN_drewN]), rfl, by go_num⟩
              case measure => simp [intOf]; omega
        · obtain rfl : k = i := by omega
          have HB2 : Hid (Below w.heap.size w wr) := Lib.hid (by rw [HQ.out]; exact ⟨HB.out.os, HB.out.tape, HB.out.output, HB.out.size, HB.out.block⟩)
          have HO2 : Hid (wr.ownsRow w.heap.size 78 3 u4 M.length (M.flatMap encK)) := Lib.hid (by rw [HQ.out]; exact HO.out)
          have hdm := HD.out
          clear HD HQ HB HO d0 d1
          cases hd
          · have hmm : (xt, xr) ∈ (pairsOf Z).take k := memM_yes.1 (by simpa using hdm.symm)
            have HOL := Lib.hid (mvAt_old HEP.out hmm)
            clear hdm hmm
            go_wp2
            go_roundw
            case rel => exact ⟨k + 1, M, by omega, by omega, HB2, HO2, Lib.hid (by rw [HOL.out.1]; exact HP.out), HSO, Lib.hid (by rw [HOL.out.2]; exact HIN.out), by go_num⟩
            case measure => simp [intOf]; omega
          · have hnm : (xt, xr) ∉ (pairsOf Z).take k := memM_no.1 (by simpa using hdm.symm)
            have HNW := Lib.hid (mvAt_new HEP.out hnm)
            have HST := Lib.hid (allN_start hnm)
            clear hdm hnm
            obtain ⟨wp, hwp⟩ : ∃ wp, wp = wr := ⟨_, rfl⟩
            subst hwp
            have HRp := Lib.hid (HR.out.below' HB2.out)
            go_wp2
            go_loopw [8, 9] (fun av sk wi => ∃ (q : Nat), k ≤ q ∧ q ≤ Z.length ∧ Hid (Below wp.heap.size wp wi) ∧ Hid (wi.ownsRow wp.heap.size 3 1 av (allN Z (xt, xr) q).length ((allN Z (xt, xr) q).flatMap encIQ)) ∧ sk = .int .i64 (q : Int)) (fun _ sk _ => Z.length - (intOf sk).toNat)
            case atStart => exact ⟨k, by omega, by omega, Lib.hid (Below.refl _ _), Lib.hid (by rw [HST.out]; exact World.ownsRow_nil _ _ _ _), rfl⟩
            case round =>
              obtain ⟨q, hkq, hq, HBq, HOq, rfl⟩ := hrel
              by_cases hlq : q < Z.length
              · have hlqI : (q : Int) < (Z.length : Int) := by omega
                obtain ⟨b2, x2, e, _, c0, c1, c2⟩ := (HRp.out.below' HBq.out).tri hlq
                cases e
                obtain ⟨b3, x3, e, _, d0, d1, d2⟩ := (HRp.out.below' HBq.out).tri hlt
                cases e
                have hei := HEI.out k hlt
                rw [HEP.out] at hei
                have htw := allN_two (p := (xt, xr)) hlq
                have hroom : (allN Z (xt, xr) q).length ≤ 200000 := by have := allN_len Z (xt, xr) q; omega
                obtain ⟨z, hz⟩ : ∃ z, Z[q] = z := ⟨_, rfl⟩
                obtain ⟨z2, hz2⟩ : ∃ z, Z[k] = z := ⟨_, rfl⟩
                rw [hz] at c0 c1 c2 htw
                rw [hz2] at d0 d1 hei
                obtain ⟨yr, yt, yn⟩ := z
                obtain ⟨xr', xt', xn'⟩ := z2
                simp only at c0 c1 c2 d0 d1 hei htw
                simp only [Option.some.injEq, Prod.mk.injEq] at hei
                obtain ⟨rfl, rfl⟩ := hei
                generalize allN Z (xt, xr) q = A at *
                have HTW := Lib.hid htw
                clear hz hz2 htw d2
                by_cases h1 : yr = xr
                · by_cases h2 : yt = xt
                  · subst h1; subst h2
                    have HT2 : Hid (allN Z (yt, yr) (q + 1) = A ++ [yn]) := Lib.hid (HTW.out.1 rfl)
                    have g1 : (yr == yr) = true := by simp
                    have g2 : (yt == yt) = true := by simp
                    clear HTW
                    go_wp2
                    go_quiet (fail)
                    have C2 : (wr.drewN nq).cell? ⟨ab, ax + q * 3 + 2, none⟩ = some (.int .i64 yn) := c2
                    have HBz : Hid (Below wp.heap.size wp (wr.drewN nq)) := Lib.hid ⟨HBq.out.os, HBq.out.tape, HBq.out.output, HBq.out.size, HBq.out.block⟩
                    have HOz : Hid ((wr.drewN nq).ownsRow wp.heap.size 3 1 u8 A.length (A.flatMap encIQ)) := Lib.hid HOq.out
                    clear c0 c1 c2 d0 d1 HBq HOq
                    generalize wr.drewN nq = wz at *
                    have HO6 := Lib.hid (HOz.out.alloc (.cells #[.int .i64 yn] 3))
                    have HB6 := Lib.hid (HBz.out.alloc HBz.out.size (.cells #[.int .i64 yn] 3))
                    go_wp2_with (at_builtin; refine wpList_append_row (enc := encIQ) Try.underlying65 infoInt rfl (by omega) (by omega) encI_len rfl _ _ rfl wp.heap.size _ A yn (encI_one _) rfl HO6.out _ 1 rfl (fun i hi => cell_newL rfl (encIQ yn) 3 i) hroom HB6.out.size ?_; intro g7 cap7 w7 ho7 hg7 hl7 hb7 hlt7; have HO7 := Lib.hid ho7; have HB7 := Lib.hid (HB6.out.grown hg7 HB6.out.size (fun k hk => (HO6.out.lt k hk).1)); clear ho7 hg7 hl7)
                    go_roundw
                    case rel => exact ⟨q + 1, by omega, by omega, HB7, Lib.hid (by rw [HT2.out]; exact HO7.out), by go_num⟩
                    case measure => simp [intOf]; omega
                  · subst h1
                    have HT2 : Hid (allN Z (xt, yr) (q + 1) = A) := Lib.hid (HTW.out.2 (fun e => h2 (Prod.mk.inj e).1))
                    have g1 : (yr == yr) = true := by simp
                    have g2 : (yt == xt) = false := by simpa using h2
                    clear HTW h2
                    go_wp2
                    go_quiet (fail)
                    go_wp2
                    go_roundw
                    case rel => exact ⟨q + 1, by omega, by omega, Lib.hid ⟨HBq.out.os, HBq.out.tape, HBq.out.output, HBq.out.size, HBq.out.block⟩, Lib.hid (by rw [HT2.out]; exact HOq.out), by go_num⟩
                    case measure => simp [intOf]; omega
                · have HT2 : Hid (allN Z (xt, xr) (q + 1) = A) := Lib.hid (HTW.out.2 (fun e => h1 (Prod.mk.inj e).2))
                  have g1 : (yr == xr) = false := by simpa using h1
                  clear HTW h1
                  go_wp2
                  go_quiet (fail)
                  go_wp2
                  go_roundw
                  case rel => exact ⟨q + 1, by omega, by omega, Lib.hid ⟨HBq.out.os, HBq.out.tape, HBq.out.output, HBq.out.size, HBq.out.block⟩, Lib.hid (by rw [HT2.out]; exact HOq.out), by go_num⟩
                  case measure => simp [intOf]; omega
              · obtain rfl : q = Z.length := by omega
                have HSM := Lib.hid (allN_all Z (xt, xr))
                have HAI := Lib.hid (allN_in HK.out (xt, xr) Z.length)
                have hal := allN_len Z (xt, xr) Z.length
                generalize allN Z (xt, xr) Z.length = A at *
                obtain ⟨aa, ac, rfl, har, haf⟩ := own_rowQ encI_len HOq.out
                have HAR := Lib.hid (ri_of_row har)
                have HB5 := Lib.hid (HB2.out.trans (HBq.out.mono HB2.out.size))
                have HO5 := Lib.hid (own_belowQ HO2.out HBq.out)
                obtain ⟨b3, x3, e, _, d0, d1, d2⟩ := (HRp.out.below' HBq.out).tri hlt
                cases e
                have hei := HEI.out k hlt
                rw [HEP.out] at hei
                obtain ⟨z2, hz2⟩ : ∃ z, Z[k] = z := ⟨_, rfl⟩
                rw [hz2] at d0 d1 hei
                obtain ⟨xr', xt', xn'⟩ := z2
                simp only at d0 d1 hei
                simp only [Option.some.injEq, Prod.mk.injEq] at hei
                obtain ⟨rfl, rfl⟩ := hei
                have hpm : (xt, xr) ∈ pairsOf Z := List.mem_of_getElem? HEP.out
                have HPM := Lib.hid hpm
                obtain ⟨s, hsE⟩ : ∃ s, nSum Z (xt, xr) = s := ⟨_, rfl⟩
                have HSE := Lib.hid hsE
                have HSA : Hid (A.sum = s) := Lib.hid (by rw [HSM.out, hsE])
                clear har haf HOq HBq hz2 d2 hpm hsE HSM
                by_cases hfit : in64 s
                · have HFT : Hid (fitR A.sum = .tuple #[.int .i64 s, .bool true]) := Lib.hid (by rw [HSA.out]; exact fitR_yes hfit)
                  have HIN2 : Hid (∀ p ∈ firsts ((pairsOf Z).take (k + 1)), in64 (nSum Z p)) := Lib.hid (fun p hp => by
                    rw [HNW.out.2.2] at hp
                    rcases List.mem_append.1 hp with hp | hp
                    · exact HIN.out p hp
                    · simp at hp; rw [hp, HSE.out]; exact hfit)
                  clear hfit HIN
                  by_cases hs0 : s = 0
                  · subst hs0
                    have g0 : ((0 : Int) == 0) = true := by simp
                    have HZ2 := Lib.hid (HNW.out.1 HSE.out)
                    go_wp2_with (go_at_call 28; refine (sumRef_any aa _ ac A _ rfl HAR.out HAI.out (by omega)).mono ?_; rintro e w3 ⟨rfl, rfl⟩; rw [HFT.out])
                    go_roundw
                    case rel => exact ⟨k + 1, M, by omega, by omega, HB5, HO5, Lib.hid (by rw [HZ2.out]; exact HP.out), HSO, HIN2, by go_num⟩
                    case measure => simp [intOf]; omega
                  · have g0 : (s == 0) = false := by simpa using hs0
                    have HZ2 : Hid (mvAt Z (k + 1) = mvAt Z k ++ [(xr, xt, s)]) := Lib.hid (by rw [HNW.out.2.1 (by rw [HSE.out]; exact hs0), HSE.out])
                    clear hs0
                    have hs5 := HB5.out.size
                    obtain ⟨i0, hi0, hz0, hz1, hz2⟩ := info_parts infoMove
                    have HI := Lib.hid (And.intro hi0 (And.intro hz0 (And.intro hz1 hz2)))
                    clear hi0 hz0 hz1 hz2
                    go_wp2_with (go_at_call 28; refine (sumRef_any aa _ ac A _ rfl HAR.out HAI.out (by omega)).mono ?_; rintro e w3 ⟨rfl, rfl⟩; rw [HFT.out])
                    clear g0 HAR HAI HFT HSA hal
                    apply with_k (H := fun (g7 : Nat) (cap7 : Nat) (w7 : World) => w7.ownsRow w.heap.size 78 3 (.slice (some ⟨g7, 0, none⟩) (M.length + 1) cap7) (M ++ [(xr, xt, s)]).length ((M ++ [(xr, xt, s)]).flatMap encK) ∧ Below w.heap.size w w7 ∧ w.heap.size ≤ g7)
                    case main =>
                      intro K
                      have HKK := Lib.hid K
                      clear K
                      go_region_law ((refine step_append_lies _ (by rfl) _ _ _ (by rfl) w.heap.size 78 i0 _ 3 24 Try.underlying30 HI.out.1 HI.out.2.1 HI.out.2.2.1 HI.out.2.2.2 rfl (by omega) u4 M.length (M.flatMap encK) (by rfl) ((HO5.out.alloc _).drew) ⟨wr.heap.size, 0, none⟩ 1 1 (encK (xr, xt, s)) (by rfl) (by rfl) (World.news_of_block (cs := #[.int .i64 xr, .int .i64 xt, .int .i64 s]) (t := 78) (fr := (0, 0)) (heap_alloc_new wr _)) (encK_one _) (by omega) (by unfold maxLen; omega) (by omega) (by simp; omega) (wr.heap.size + 1) (by simp) ?_; intro g7 cap7 w7 ho7 hg7 hl7 hlt7; have ho7' : w7.ownsRow w.heap.size 78 3 (.slice (some ⟨g7, 0, none⟩) (M.length + 1) cap7) (M ++ [(xr, xt, s)]).length ((M ++ [(xr, xt, s)]).flatMap encK) := (by rw [List.length_append, List.flatMap_append]; simpa using ho7); have hw7 : w.heap.size ≤ g7 := (ho7'.lt g7 rfl).1; have HO7 := Lib.hid ho7'; have hb6 := HB5.out.alloc HB5.out.size (.cells #[.int .i64 xr, .int .i64 xt, .int .i64 s] 78); have hb6' : Below w.heap.size w (wr.alloc (.cells #[.int .i64 xr, .int .i64 xt, .int .i64 s] 78)).drew := ⟨hb6.os, hb6.tape, hb6.output, hb6.size, hb6.block⟩; have HB7 := Lib.hid (hb6'.grown hg7 hb6'.size (fun k hk => (HO5.out.lt k hk).1)); clear ho7 ho7' hg7 hl7 hb6 hb6'))
                      all_goals exact HKK.out g7 cap7 w7 ⟨HO7.out, HB7.out, hw7⟩
                    case k =>
                      intro g7 cap7 w7 hk7
                      have HO7 := Lib.hid hk7.1
                      have HB7 := Lib.hid hk7.2.1
                      have hw7 := hk7.2.2
                      clear hk7
                      have HI0 : Hid (w7.ownsRow w.heap.size 78 3 (.slice (some ⟨g7, 0, none⟩) (M.length + 1) cap7) (insAt M (xr, xt, s) M.length).length ((insAt M (xr, xt, s) M.length).flatMap encK)) := Lib.hid (by rw [insAt_end]; exact HO7.out)
                      clear HO7 HO5 HB5 d0 d1
                      go_wp2
                      go_loopw [12] (fun sk wi => ∃ (j : Nat), j ≤ M.length ∧ Hid (Below w.heap.size w wi) ∧ Hid (wi.ownsRow w.heap.size 78 3 (.slice (some ⟨g7, 0, none⟩) (M.length + 1) cap7) (insAt M (xr, xt, s) j).length ((insAt M (xr, xt, s) j).flatMap encK)) ∧ Hid (∀ t (ht : t < M.length), j ≤ t → ltK (kM (xr, xt, s)) (kM M[t]) = true) ∧ sk = .int .i64 (j : Int)) (fun sk _ => (intOf sk).toNat)
                      case atStart => exact ⟨M.length, by omega, HB7, HI0, Lib.hid (fun t ht h => by omega), rfl⟩
                      case round =>
                        clear HI0 HB7
                        obtain ⟨j, hj, HBk, HOk, HLk, rfl⟩ := hrel
                        have hend : ∀ W : World, Below w.heap.size w W → W.ownsRow w.heap.size 78 3 (.slice (some ⟨g7, 0, none⟩) (M.length + 1) cap7) (insAt M (xr, xt, s) j).length ((insAt M (xr, xt, s) j).flatMap encK) → (∀ (ht : j - 1 < M.length), 0 < j → ltK (kM (xr, xt, s)) (kM M[j - 1]) = false) → ∃ (M' : List MoveT), M'.length ≤ k + 1 ∧ Hid (Below w.heap.size w W) ∧ Hid (W.ownsRow w.heap.size 78 3 (.slice (some ⟨g7, 0, none⟩) (M.length + 1) cap7) M'.length (M'.flatMap encK)) ∧ Hid (M'.Perm (mvAt Z (k + 1))) ∧ Hid (Sorted kM M') := by
                          intro W h1 h2 h3
                          refine ⟨insAt M (xr, xt, s) j, by rw [insAt_len]; omega, Lib.hid h1, Lib.hid h2, Lib.hid ?_, Lib.hid (insAt_sorted HSO.out hj HLk.out h3)⟩
                          rw [HZ2.out]
                          exact (insAt_perm M (xr, xt, s) j).trans ((HP.out.cons _).trans (List.perm_append_singleton _ _).symm)
                        have HEND := Lib.hid hend
                        clear hend
                        cases j with
                        | zero =>
                          have hg : decide ((0 : Int) < 0) = false := by decide
                          go_wp2_with fail
                          go_quiet (fail)
                          obtain ⟨M', hl', HE1, HE2, HE3, HE4⟩ := HEND.out (wr.drewN nq) ⟨HBk.out.os, HBk.out.tape, HBk.out.output, HBk.out.size, HBk.out.block⟩ HOk.out (fun _ h0 => absurd h0 (by omega))
                          clear HEND HBk HOk
                          go_wp2
                          go_roundw
                          case rel => exact ⟨k + 1, M', by omega, hl', HE1, HE2, HE3, HE4, HIN2, by go_num⟩
                          case measure => simp [intOf]; omega
                        | succ j =>
                          have hjl : j < M.length := by omega
                          have hy : M[j]? = some M[j] := List.getElem?_eq_getElem hjl
                          have HSTP := Lib.hid (insAt_step (x := (xr, xt, s)) hj hy)
                          obtain ⟨p0, p1, p2, hfr⟩ := own_cells3 HOk.out (insAt_at (x := (xr, xt, s)) hj)
                          obtain ⟨q0, q1, q2, _⟩ := own_cells3 HOk.out ((insAt_ahead (x := (xr, xt, s)) (show j < j + 1 by omega) hj).trans hy)
                          have HFR : Hid (∀ q, wr.frozen? ⟨g7, q, none⟩ = false) := Lib.hid hfr
                          have f10 := hfr ((j + 1) * 3)
                          clear hfr f10
                          have HL2 : Hid (ltK (kM (xr, xt, s)) (kM M[j]) = true → ∀ t (ht : t < M.length), j ≤ t → ltK (kM (xr, xt, s)) (kM M[t]) = true) := Lib.hid (fun h t ht hjt => by
                            rcases Nat.eq_or_lt_of_le hjt with e | e
                            · subst e; exact h
                            · exact HLk.out t ht (by omega))
                          have HL3 : Hid (ltK (kM (xr, xt, s)) (kM M[j]) = false → ∀ (ht : j + 1 - 1 < M.length), 0 < j + 1 → ltK (kM (xr, xt, s)) (kM M[j + 1 - 1]) = false) := Lib.hid (fun h _ _ => h)
                          have HLT := Lib.hid (ltM_iff xr xt s)
                          generalize hyy : M[j] = y at *
                          obtain ⟨yr, yt, yn⟩ := y
                          simp only at p0 p1 p2 q0 q1 q2
                          clear hy hyy
                          have hpos : (0 : Int) < (j : Int) + 1 := by omega
                          have hposd : decide ((0 : Int) < (j : Int) + 1) = true := decide_eq_true hpos
                          have hb1 : (j : Int) + 1 < (M.length : Int) + 1 := by omega
                          have hb2 : (j : Int) < (M.length : Int) + 1 := by omega
                          have s1 : IntKind.i64.wrap ((j : Int) + 1 - 1) = (j : Int) := by rw [show (j : Int) + 1 - 1 = (j : Int) by omega]; exact IntWalk.i64_in _ (by omega)
                          have n1 : (j + 1) * 3 ≠ j * 3 := by omega
                          have n2 : (j + 1) * 3 ≠ j * 3 + 1 := by omega
                          have n3 : (j + 1) * 3 ≠ j * 3 + 2 := by omega
                          have n4 : j * 3 ≠ (j + 1) * 3 := by omega
                          have n5 : j * 3 ≠ (j + 1) * 3 + 1 := by omega
                          have n6 : j * 3 ≠ (j + 1) * 3 + 2 := by omega
                          by_cases h1 : xt < yt
                          · have HL4 := Lib.hid (HL2.out ((HLT.out yr yt yn).2 (.inl h1)))
                            clear HL2 HL3 HLk HLT
                            go_wp2_with fail
                            go_quiet (fail)
                            have P0 : (wr.drewN nq).cell? ⟨g7, (j + 1) * 3, none⟩ = some (.int .i64 xr) := p0
                            have P1 : (wr.drewN nq).cell? ⟨g7, (j + 1) * 3 + 1, none⟩ = some (.int .i64 xt) := p1
                            have P2 : (wr.drewN nq).cell? ⟨g7, (j + 1) * 3 + 2, none⟩ = some (.int .i64 s) := p2
                            have Q0 : (wr.drewN nq).cell? ⟨g7, j * 3, none⟩ = some (.int .i64 yr) := q0
                            have Q1 : (wr.drewN nq).cell? ⟨g7, j * 3 + 1, none⟩ = some (.int .i64 yt) := q1
                            have Q2 : (wr.drewN nq).cell? ⟨g7, j * 3 + 2, none⟩ = some (.int .i64 yn) := q2
                            have FP0 : (wr.drewN nq).frozen? ⟨g7, (j + 1) * 3, none⟩ = false := HFR.out _
                            have FP1 : (wr.drewN nq).frozen? ⟨g7, (j + 1) * 3 + 1, none⟩ = false := HFR.out _
                            have FP2 : (wr.drewN nq).frozen? ⟨g7, (j + 1) * 3 + 2, none⟩ = false := HFR.out _
                            have FQ0 : (wr.drewN nq).frozen? ⟨g7, j * 3, none⟩ = false := HFR.out _
                            have FQ1 : (wr.drewN nq).frozen? ⟨g7, j * 3 + 1, none⟩ = false := HFR.out _
                            have FQ2 : (wr.drewN nq).frozen? ⟨g7, j * 3 + 2, none⟩ = false := HFR.out _
                            have HBq : Hid (Below w.heap.size w (wr.drewN nq)) := Lib.hid ⟨HBk.out.os, HBk.out.tape, HBk.out.output, HBk.out.size, HBk.out.block⟩
                            have HOq : Hid ((wr.drewN nq).ownsRow w.heap.size 78 3 (.slice (some ⟨g7, 0, none⟩) (M.length + 1) cap7) (insAt M (xr, xt, s) (j + 1)).length ((insAt M (xr, xt, s) (j + 1)).flatMap encK)) := Lib.hid HOk.out
                            clear p0 p1 p2 q0 q1 q2 HFR HBk HOk HEND
                            generalize wr.drewN nq = wq at *
                            go_wp2_with fail
                            have hn1 := own_put3 (j := j) (own_put3 (j := j + 1) HOq.out (yr, yt, yn)) (xr, xt, s)
                            rw [HSTP.out] at hn1
                            have HON := Lib.hid hn1
                            have HBN := Lib.hid ((((((HBq.out.setCell (p := ⟨g7, (j + 1) * 3, none⟩) hw7 (.int .i64 yr)).setCell (p := ⟨g7, (j + 1) * 3 + 1, none⟩) hw7 (.int .i64 yt)).setCell (p := ⟨g7, (j + 1) * 3 + 2, none⟩) hw7 (.int .i64 yn)).setCell (p := ⟨g7, j * 3, none⟩) hw7 (.int .i64 xr)).setCell (p := ⟨g7, j * 3 + 1, none⟩) hw7 (.int .i64 xt)).setCell (p := ⟨g7, j * 3 + 2, none⟩) hw7 (.int .i64 s))
                            clear hn1 HOq HBq
                            go_region
                            go_wp2
                            go_roundw
                            case rel => exact ⟨j, by omega, Lib.hid (below_drew HBN.out), Lib.hid HON.out.drew, HL4, by go_num⟩
                            case measure => simp [intOf]
                          · have hd1 : decide (xt < yt) = false := decide_eq_false h1
                            by_cases h2 : xt = yt
                            · subst h2
                              have he1 : (xt == xt) = true := by simp
                              by_cases h3 : xr < yr
                              · have HL4 := Lib.hid (HL2.out ((HLT.out yr xt yn).2 (.inr ⟨rfl, h3⟩)))
                                clear HL2 HL3 HLk HLT h1
                                go_wp2_with fail
                                go_quiet (fail)
                                have P0 : (wr.drewN nq).cell? ⟨g7, (j + 1) * 3, none⟩ = some (.int .i64 xr) := p0
                                have P1 : (wr.drewN nq).cell? ⟨g7, (j + 1) * 3 + 1, none⟩ = some (.int .i64 xt) := p1
                                have P2 : (wr.drewN nq).cell? ⟨g7, (j + 1) * 3 + 2, none⟩ = some (.int .i64 s) := p2
                                have Q0 : (wr.drewN nq).cell? ⟨g7, j * 3, none⟩ = some (.int .i64 yr) := q0
                                have Q1 : (wr.drewN nq).cell? ⟨g7, j * 3 + 1, none⟩ = some (.int .i64 xt) := q1
                                have Q2 : (wr.drewN nq).cell? ⟨g7, j * 3 + 2, none⟩ = some (.int .i64 yn) := q2
                                have FP0 : (wr.drewN nq).frozen? ⟨g7, (j + 1) * 3, none⟩ = false := HFR.out _
                                have FP1 : (wr.drewN nq).frozen? ⟨g7, (j + 1) * 3 + 1, none⟩ = false := HFR.out _
                                have FP2 : (wr.drewN nq).frozen? ⟨g7, (j + 1) * 3 + 2, none⟩ = false := HFR.out _
                                have FQ0 : (wr.drewN nq).frozen? ⟨g7, j * 3, none⟩ = false := HFR.out _
                                have FQ1 : (wr.drewN nq).frozen? ⟨g7, j * 3 + 1, none⟩ = false := HFR.out _
                                have FQ2 : (wr.drewN nq).frozen? ⟨g7, j * 3 + 2, none⟩ = false := HFR.out _
                                have HBq : Hid (Below w.heap.size w (wr.drewN nq)) := Lib.hid ⟨HBk.out.os, HBk.out.tape, HBk.out.output, HBk.out.size, HBk.out.block⟩
                                have HOq : Hid ((wr.drewN nq).ownsRow w.heap.size 78 3 (.slice (some ⟨g7, 0, none⟩) (M.length + 1) cap7) (insAt M (xr, xt, s) (j + 1)).length ((insAt M (xr, xt, s) (j + 1)).flatMap encK)) := Lib.hid HOk.out
                                clear p0 p1 p2 q0 q1 q2 HFR HBk HOk HEND
                                generalize wr.drewN nq = wq at *
                                go_wp2_with fail
                                have hn1 := own_put3 (j := j) (own_put3 (j := j + 1) HOq.out (yr, xt, yn)) (xr, xt, s)
                                rw [HSTP.out] at hn1
                                have HON := Lib.hid hn1
                                have HBN := Lib.hid ((((((HBq.out.setCell (p := ⟨g7, (j + 1) * 3, none⟩) hw7 (.int .i64 yr)).setCell (p := ⟨g7, (j + 1) * 3 + 1, none⟩) hw7 (.int .i64 xt)).setCell (p := ⟨g7, (j + 1) * 3 + 2, none⟩) hw7 (.int .i64 yn)).setCell (p := ⟨g7, j * 3, none⟩) hw7 (.int .i64 xr)).setCell (p := ⟨g7, j * 3 + 1, none⟩) hw7 (.int .i64 xt)).setCell (p := ⟨g7, j * 3 + 2, none⟩) hw7 (.int .i64 s))
                                clear hn1 HOq HBq
                                go_region
                                go_wp2
                                go_roundw
                                case rel => exact ⟨j, by omega, Lib.hid (below_drew HBN.out), Lib.hid HON.out.drew, HL4, by go_num⟩
                                case measure => simp [intOf]
                              · have hd3 : decide (xr < yr) = false := decide_eq_false h3
                                have HL4 := Lib.hid (HL3.out (Bool.eq_false_iff.2 (fun h => by rcases (HLT.out yr xt yn).1 h with h | h <;> omega)))
                                clear HL2 HL3 HLk HLT h1
                                go_wp2_with fail
                                go_quiet (fail)
                                obtain ⟨M', hl', HE1, HE2, HE3, HE4⟩ := HEND.out (wr.drewN nq) ⟨HBk.out.os, HBk.out.tape, HBk.out.output, HBk.out.size, HBk.out.block⟩ HOk.out (HL4.out)
                                clear HEND HBk HOk
                                go_wp2
                                go_roundw
                                case rel => exact ⟨k + 1, M', by omega, hl', HE1, HE2, HE3, HE4, HIN2, by go_num⟩
                                case measure => simp [intOf]; omega
                            · have he1 : (xt == yt) = false := by simpa using h2
                              have HL4 := Lib.hid (HL3.out (Bool.eq_false_iff.2 (fun h => by rcases (HLT.out yr yt yn).1 h with h | h <;> omega)))
                              clear HL2 HL3 HLk HLT h1 h2
                              go_wp2_with fail
                              go_quiet (fail)
                              obtain ⟨M', hl', HE1, HE2, HE3, HE4⟩ := HEND.out (wr.drewN nq) ⟨HBk.out.os, HBk.out.tape, HBk.out.output, HBk.out.size, HBk.out.block⟩ HOk.out (HL4.out)
                              clear HEND HBk HOk
                              go_wp2
                              go_roundw
                              case rel => exact ⟨k + 1, M', by omega, hl', HE1, HE2, HE3, HE4, HIN2, by go_num⟩
                              case measure => simp [intOf]; omega
                · have HFT : Hid (fitR A.sum = .tuple #[.int .i64 0, .bool false]) := Lib.hid (by rw [HSA.out]; exact fitR_no hfit)
                  have HNA : Hid (¬ AllIn (mvS Z)) := Lib.hid (fun h => hfit (by
                    rw [mvS_eq] at h
                    rw [← HSE.out]
                    exact h _ (List.mem_map.2 ⟨_, mem_firsts.2 HPM.out, rfl⟩)))
                  clear hfit
                  go_wp2_with (go_at_call 28; refine (sumRef_any aa _ ac A _ rfl HAR.out HAI.out (by omega)).mono ?_; rintro e w3 ⟨rfl, rfl⟩; rw [HFT.out])
                  go_ret2
                  exact ⟨HB5.out, .inr ⟨HNA.out, rfl⟩⟩
    · obtain rfl : i = Z.length := by omega
      rw [mvAt_all] at HP
      have HAL : Hid (AllIn (mvS Z)) := Lib.hid (by
        rw [mvS_eq]; intro s hs
        obtain ⟨p, hp, rfl⟩ := List.mem_map.1 hs
        exact HIN.out p (by rw [List.take_of_length_le (by simp [pairsOf])]; exact hp))
      obtain ⟨oa, oc, rfl, hor, hof⟩ := own_rowQ encK_len HO.out
      have HOR := Lib.hid hor
      clear hor hof
      go_wp2
      go_ret2
      exact ⟨HB.out, .inl ⟨HAL.out, oa, oc, M, rfl, HOR.out, HP.out, HSO.out⟩⟩
end Go.Proofs.Ytlkbohpnlbfopaa
namespace Go.Proofs.Ytlkbohpnlbfopaa
open Go.RowKit
set_option linter.unusedVariables false
set_option maxRecDepth 100000 in
set_option maxHeartbeats 1000000 in
theorem rmoves_nil (ao : Option Addr) (cap : Nat) (w : World) : Calls Try.prog 14 #[.slice ao 0 cap] w (MovesRes [] w) := by
  go_enter Try.func14, Try.ntmps14
  go_wp2
  refine wp_loop_rounds 1 ?_
  rw [rounds_succ]
  go_wp2
  go_ret2
  exact ⟨Below.refl _ _, .inl ⟨fun s hs => by simp [mvS, tots, grps, pairsOf, firsts] at hs, none, 0, [], rfl, Row.nil _ _, List.Perm.refl _, List.Pairwise.nil⟩⟩
theorem rmoves_from (hsome : ∀ (ad : Addr) (cap : Nat) (Z : List MoveT) (w : World), Row encK 3 w (some ad) Z → (∀ x ∈ Z, okK x) → Z.length ≤ 200 → Calls Try.prog 14 #[.slice (some ad) Z.length cap] w (MovesRes Z w))
    (ao : Option Addr) (cap : Nat) (Z : List MoveT) (w : World) (h : Row encK 3 w ao Z) (hk : ∀ x ∈ Z, okK x) (hn : Z.length ≤ 200) : Calls Try.prog 14 #[.slice ao Z.length cap] w (MovesRes Z w) := by
  cases Z with
  | nil => exact rmoves_nil ao cap w
  | cons z Z =>
    obtain ⟨b, o, rfl, _⟩ := h 0 (by simp)
    exact hsome _ cap _ w h hk hn
end Go.Proofs.Ytlkbohpnlbfopaa
