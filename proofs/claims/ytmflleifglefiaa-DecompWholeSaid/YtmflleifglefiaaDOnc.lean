/- Arcs one behind the other, coming to no node twice: the statements' once. -/
import Derived.Test.YtmflleifglefiaaDOne
namespace Go.Proofs.Ytmflleifglefiaa
open Go.RowKit
set_option linter.unusedVariables false

/-- Where steps lead. -/
def nodeK (Z : List ArcT) (u : Nat) : List StepT → Nat
  | [] => u
  | x :: r => nodeK Z (toS Z x) r
theorem nodeK_snoc (Z : List ArcT) (x : StepT) : ∀ (l : List StepT) (u : Nat), nodeK Z u (l ++ [x]) = toS Z x
  | [], u => rfl
  | y :: r, u => nodeK_snoc Z x r _
theorem trail_nodeK {Z : List ArcT} {v : Nat} : ∀ {l : List StepT} {u : Nat}, Trail Z u l v → nodeK Z u l = v
  | [], u, h => h
  | x :: r, u, h => trail_nodeK (l := r) (u := toS Z x) h.2.2
theorem trail_at {Z : List ArcT} {v : Nat} : ∀ {l : List StepT} {u k : Nat}, Trail Z u l v → (hk : k < l.length) → fromS Z l[k] = nodeK Z u (l.take k) ∧ isArc Z l[k]
  | [], u, k, h, hk => by simp at hk
  | x :: r, u, 0, h, hk => ⟨h.1, h.2.1⟩
  | x :: r, u, k + 1, h, hk => by
    obtain ⟨h1, h2⟩ := trail_at (k := k) h.2.2 (by simpa using hk)
    exact ⟨h1, h2⟩
/-- How often each node was come to. -/
def hadK (Z : List ArcT) (N : Nat) (l : List StepT) : List Int := l.foldl (fun h x => h.set (toS Z x) (atI h (toS Z x) + 1)) (List.replicate N 0)
theorem hadK_snoc (Z : List ArcT) (N : Nat) (l : List StepT) (x : StepT) : hadK Z N (l ++ [x]) = (hadK Z N l).set (toS Z x) (atI (hadK Z N l) (toS Z x) + 1) := by unfold hadK; rw [List.foldl_append]; rfl
theorem hadK_len (Z : List ArcT) (N : Nat) (l : List StepT) : (hadK Z N l).length = N := by
  unfold hadK
  suffices h : ∀ (l : List StepT) (f : List Int), (l.foldl (fun h x => h.set (toS Z x) (atI h (toS Z x) + 1)) f).length = f.length by rw [h]; simp
  intro l
  induction l with
  | nil => intro f; rfl
  | cons x r ih => intro f; rw [List.foldl_cons, ih]; simp
theorem hadK_not {Z : List ArcT} {N v : Nat} {l : List StepT} (h : v ∉ l.map (toS Z)) : atI (hadK Z N l) v = 0 := by
  unfold hadK
  suffices q : ∀ (l : List StepT) (f : List Int), v ∉ l.map (toS Z) → atI (l.foldl (fun h x => h.set (toS Z x) (atI h (toS Z x) + 1)) f) v = atI f v by
    rw [q l _ h]
    exact zerosK_at N v
  intro l
  induction l with
  | nil => intro f _; rfl
  | cons x r ih =>
    intro f hf
    rw [List.map_cons, List.mem_cons] at hf
    rw [List.foldl_cons, ih _ (fun q => hf (.inr q))]
    generalize atI f (toS Z x) + 1 = y
    have hs : (f.set (toS Z x) y)[v]? = f[v]? := List.getElem?_set_ne (fun e => hf (.inl e.symm))
    unfold atI
    rw [List.getD_eq_getElem?_getD, hs, ← List.getD_eq_getElem?_getD]
/-- What is known at each arc of a part. -/
theorem part_at {Z : List ArcT} {u v N : Nat} {l : List StepT} {q : Int} (h : PartIs Z u v (l, q)) {k : Nat} (hk : k < l.length) : atI (hadK Z N (l.take k)) (toS Z l[k]) = 0 ∧ (k + 1 < l.length → toS Z l[k] ≠ u) ∧ (∃ p : Nat, l[k] = ((p : Int), false) ∧ p < Z.length) := by
  obtain ⟨h1, h2, h3, h4, h5, h6⟩ := h
  simp only at h1 h2 h3 h4 h5
  have hn := List.nodup_iff_pairwise_ne.1 h3
  rw [List.pairwise_iff_getElem] at hn
  refine ⟨hadK_not (fun hm => ?_), fun hk1 he => ?_, ?_⟩
  · obtain ⟨x, hx, e⟩ := List.mem_map.1 hm
    obtain ⟨j, hj, ej⟩ := List.getElem_of_mem hx
    rw [List.length_take] at hj
    rw [List.getElem_take] at ej
    have h7 := hn j k (by rw [List.length_map]; omega) (by rw [List.length_map]; omega) (by omega)
    rw [List.getElem_map, List.getElem_map, ej] at h7
    exact h7 e
  · by_cases huv : u = v
    · have h7 := hn k (l.length - 1) (by rw [List.length_map]; omega) (by rw [List.length_map]; omega) (by omega)
      rw [List.getElem_map, List.getElem_map] at h7
      have h8 := trail_nodeK h1
      have h9 : l = l.take (l.length - 1) ++ [l[l.length - 1]] := by
        rw [← List.take_succ_eq_append_getElem (by omega), List.take_of_length_le (by omega)]
      rw [h9, nodeK_snoc] at h8
      exact h7 (he.trans (huv.trans h8.symm))
    · exact h4 huv (List.mem_map.2 ⟨_, List.getElem_mem hk, he⟩)
  · obtain ⟨p, hp, hpl⟩ := isArc_nat (trail_at h1 hk).2
    have hq := h5 _ (List.getElem_mem hk)
    exact ⟨p, Prod.ext hp hq, hpl⟩
section
variable (N : Nat) (b : Bool) (ao lo : Option Addr) (cap lc ln nz : Nat) (Z : List ArcT)
set_option maxRecDepth 100000 in
set_option maxHeartbeats 8000000 in
theorem once_at (l : List StepT) (q : Int) (u v : Nat) (w : World) (h : Row encA 4 w ao Z) (hL : Lst encI w lo (arcsL l)) (hln : l.length = ln) (hnz : Z.length = nz) (hz : nz ≤ 200) (hN : 1 ≤ N ∧ N ≤ 50) (hE : ∀ a ∈ Z, a.1 = (frN a : Int) ∧ a.2.1 = (toN a : Int)) (hZ : ∀ a ∈ Z, frN a < N ∧ toN a < N) (hp : PartIs Z u v (l, q)) :
    Calls Try.prog 22 #[.agg #[.int .i64 (N : Int), .bool b, .slice ao nz cap], .slice lo ln lc, .int .i64 (u : Int), .int .i64 (v : Int)] w fun e w' => e = .returned (.bool true) ∧ Below w.heap.size w w' := by
  have hb00 := (Below.refl _ w).alloc (Nat.le_refl _) (.cells #[.int .i64 (N : Int), .bool b, .slice ao nz cap] 24)
  have HB0 := Lib.hid hb00
  have HN0 := Lib.hid (heap_alloc_new w (.cells #[.int .i64 (N : Int), .bool b, .slice ao nz cap] 24))
  have HR := Lib.hid (h.below' hb00)
  have HL := Lib.hid (hL.below hb00)
  have HE := Lib.hid hE
  have HZ := Lib.hid hZ
  have HP := Lib.hid hp
  have HLN := Lib.hid hln
  have HNZ := Lib.hid hnz
  have HTR : Hid (Trail Z u l v) := Lib.hid hp.1
  have hl0 : 0 < ln := by rw [← hln]; exact List.length_pos_iff.2 hp.2.1
  have hl2 : ln ≤ 200 := by have := part_short hp; simp only at this; omega
  have c0 := cell_whole HN0.out 0
  have hmk := fun W => run_make_row' (P := Try.prog) 25 3 (.int .i64 0) 8 Try.underlying25 infoInt rfl .i64 .i64 N (by omega) (by omega) W
  clear h hL hE hZ hp hb00 hln hnz
  go_enter Try.func22, Try.ntmps22
  go_wp2
  clear c0 hmk
  have hmo := madeC (w.alloc (.cells #[.int .i64 (N : Int), .bool b, .slice ao nz cap] 24)) (w.heap.size + 1) N (by simp) (by omega)
  rw [show (w.alloc (.cells #[.int .i64 (N : Int), .bool b, .slice ao nz cap] 24)).heap.size = w.heap.size + 1 by simp] at hmo
  obtain ⟨g0, hg0⟩ : ∃ g0, w.heap.size = g0 := ⟨_, rfl⟩
  have HG0 := Lib.hid hg0
  have hgl : (w.alloc (.cells #[.int .i64 (N : Int), .bool b, .slice ao nz cap] 24)).heap.size = g0 + 1 := by simp [hg0]
  rw [hg0] at HN0 hmo
  try rw [hg0]
  generalize w.alloc (.cells #[.int .i64 (N : Int), .bool b, .slice ao nz cap] 24) = w1 at *
  have HMO : Hid (OwnL encI (w1.alloc (.cells (madeCells #[.int .i64 0] N) 3)) (g0 + 1) 3 (.slice (some ⟨g0 + 1, 0, none⟩) N N) (hadK Z N (l.take 0))) := Lib.hid hmo
  have HMB := Lib.hid ((Below.refl w1.heap.size w1).alloc (Nat.le_refl _) (.cells (madeCells #[.int .i64 0] N) 3))
  try rw [hgl]
  clear hmo hg0
  go_loopw [10, 11] (fun av iv wr => ∃ k : Nat, k ≤ ln ∧ iv = .int .i64 (k : Int) ∧ av = .int .i64 ((nodeK Z u (l.take k) : Nat) : Int) ∧ Hid (OwnL encI wr (g0 + 1) 3 (.slice (some ⟨g0 + 1, 0, none⟩) N N) (hadK Z N (l.take k))) ∧ Hid (Below w1.heap.size w1 wr)) (fun _ iv _ => ln - (intOf iv).toNat)
  case atStart => exact ⟨0, Nat.zero_le _, rfl, rfl, HMO, HMB⟩
  case round =>
    clear HMO HMB
    obtain ⟨k, hk, rfl, rfl, HO, HB⟩ := hrel
    have hnb := kept_box HN0.out HB.out
    by_cases hlt : k < ln
    · have hli : (k : Int) < (ln : Int) := by omega
      have hkl : k < l.length := by rw [HLN.out]; exact hlt
      obtain ⟨h0, hne, p, hlp, hpz⟩ := part_at (N := N) HP.out hkl
      have hfr := (trail_at HTR.out hkl).1
      have HTK : Hid (l.take (k + 1) = l.take k ++ [l[k]]) := Lib.hid (List.take_succ_eq_append_getElem hkl)
      have hpi : (p : Int) < (nz : Int) := by rw [← HNZ.out]; omega
      obtain ⟨lb, lx, e, _, a0⟩ := lst_cell (HL.out.below HB.out) (arcsL_at hkl)
      subst e
      obtain ⟨ab, ax, e, hab, d0, d1, d2, d3⟩ := (HR.out.below' HB.out).arc hpz
      subst e
      have hmem : Z[p] ∈ Z := List.getElem_mem hpz
      obtain ⟨a1, a2⟩ := HE.out _ hmem
      obtain ⟨a3, a4⟩ := HZ.out _ hmem
      have hao : arcOf Z l[k] = Z[p] := by rw [hlp]; exact arcOf_nat false (List.getElem?_eq_getElem hpz)
      have hfe : fromS Z l[k] = frN Z[p] := by unfold fromS; rw [hao, hlp]; rfl
      have hte : toS Z l[k] = toN Z[p] := by unfold toS; rw [hao, hlp]; rfl
      have HNS : Hid (nodeK Z u (l.take (k + 1)) = toN Z[p]) := Lib.hid (by rw [HTK.out, nodeK_snoc, hte])
      have HHS : Hid (hadK Z N (l.take (k + 1)) = (hadK Z N (l.take k)).set (toN Z[p]) 1) := Lib.hid (by rw [HTK.out, hadK_snoc, h0, hte]; rfl)
      rw [hte] at h0 hne
      rw [hfe] at hfr
      have hX := atI_get (d := hadK Z N (l.take k)) (v := toN Z[p]) (by rw [hadK_len]; exact a4)
      rw [h0] at hX
      obtain ⟨cy, fy⟩ := HO.out.cell hX
      rw [hlp] at a0
      simp only at a0
      unfold encI at cy a0
      rw [a1, hfr] at d0
      rw [a2] at d1
      have hgb : w1.heap.size ≤ g0 + 1 := by rw [hgl]; exact Nat.le_refl _
      have c2 := cell_whole hnb 2
      have HPUT := Lib.hid (HO.out.put (toN Z[p]) (1 : Int))
      rw [← HHS.out] at HPUT
      obtain ⟨y, hy⟩ : ∃ y, toN Z[p] = y := ⟨_, rfl⟩
      rw [hy] at HNS HPUT cy fy d1 a4 hne
      have HNE := Lib.hid hne
      obtain ⟨at0, hat⟩ : ∃ at0, nodeK Z u (l.take k) = at0 := ⟨_, rfl⟩
      rw [hat] at d0 ⊢
      clear hao hfe hte h0 hfr hX hmem a1 a2 a3 hy hat hlp HTK HHS d2 d3 hab hne hpz hkl
      have hyi : (y : Int) < (N : Int) := by omega
      have t1 : decide ((p : Int) < 0) = false := decide_eq_false (by omega)
      have t2 : decide (nz ≤ p) = false := decide_eq_false (by omega)
      go_wp2_with fail
      go_quiet (fail)
      go_wp2_with fail
      go_quiet (fail)
      by_cases hlast : k + 1 < ln
      · have t3 : ((y : Int) == (u : Int)) = false := by have := HNE.out (by rw [HLN.out]; exact hlast); simp; omega
        have t4 : (k : Int) + 1 < (ln : Int) := by omega
        go_wp2
        go_roundw
        case rel => exact ⟨k + 1, by omega, by go_num, by rw [HNS.out], HPUT, Lib.hid (below_set (below_drewN HB.out _) hgb _)⟩
        case measure => simp [intOf]; omega
      · have t4 : ¬ ((k : Int) + 1 < (ln : Int)) := by omega
        obtain ⟨B, hB⟩ : ∃ B : Bool, ((y : Int) == (u : Int)) = B := ⟨_, rfl⟩
        cases B with
        | true =>
          have t5 : (y : Int) = (u : Int) := by simpa using hB
          obtain rfl : y = u := by omega
          clear t5
          go_wp2
          go_roundw
          case rel => exact ⟨k + 1, by omega, by go_num, by rw [HNS.out], HPUT, Lib.hid (below_set (below_drewN HB.out _) hgb _)⟩
          case measure => simp [intOf]; omega
        | false =>
          have t5 : ¬ (y : Int) = (u : Int) := by simpa using hB
          go_wp2
          go_roundw
          case rel => exact ⟨k + 1, by omega, by go_num, by rw [HNS.out], HPUT, Lib.hid (below_set (below_drewN HB.out _) hgb _)⟩
          case measure => simp [intOf]; omega
    · have hli : ¬ (k : Int) < (ln : Int) := by omega
      have HE2 : Hid (nodeK Z u (l.take k) = v) := Lib.hid (by rw [List.take_of_length_le (by rw [HLN.out]; omega)]; exact trail_nodeK HTR.out)
      rw [HE2.out]
      have hpos : (ln : Int) > 0 := by omega
      go_wp2
      go_ret
      exact ⟨by simp, HB0.out.trans (HB.out.mono HB0.out.size)⟩
end
end Go.Proofs.Ytmflleifglefiaa
