/- A cycle with an arc: package decomp's cycle. -/
import Derived.Test.YtmflleifglefiaaDPth
namespace Go.Proofs.Ytmflleifglefiaa
open Go.RowKit
set_option linter.unusedVariables false

/-- A row of one number, just built. -/
theorem own_built {w : World} {g : Nat} (hg : w.heap.size = g) (B : Nat) (x : Int) (hb : B ≤ w.heap.size) : OwnL encI (w.alloc (.cells #[.int .i64 x] 3)) B 3 (.slice (some ⟨g, 0, none⟩) 1 1) [x] := by
  subst hg
  exact ⟨by simp, .inr ⟨w.heap.size, 1, #[.int .i64 x], rfl, hb, heap_alloc_new w _, Nat.le_refl _, by unfold maxLen; omega, rfl, rfl⟩⟩
/-- What cycle tells. -/
def DCycRes (o : Option (List StepT)) (w : World) (e : Ending) (w' : World) : Prop :=
  (o = none ∧ (∃ v, e = .returned (.tuple #[v, .bool false])) ∧ Below w.heap.size w w') ∨
  (∃ l v, o = some l ∧ e = .returned (.tuple #[v, .bool true]) ∧ OwnL encI w' w.heap.size 3 v (arcsL l) ∧ Below w.heap.size w w')
section
variable (N : Nat) (b : Bool) (B : Nat) (ao : Option Addr) (cap : Nat) (zo : Option Addr) (zc nl : Nat) (Z : List ArcT) (f : List Int)
set_option maxRecDepth 100000 in
set_option maxHeartbeats 8000000 in
theorem dcycle_at (k : Nat) (w : World) (h : RstW w B ao cap zo nl Z f) (hc : checkE (N : Int) Z = 0) (hnl : nl ≤ 200) (hN : N ≤ 50) (hk : k < nl) :
    Calls Try.prog 47 #[.agg #[.int .i64 (N : Int), .bool b, .slice ao nl cap, .slice zo nl zc], .int .i64 (k : Int)] w (DCycRes (cycAt Z N f k) w) := by
  have hb00 := (Below.refl _ w).alloc (Nat.le_refl _) (.cells #[.int .i64 (N : Int), .bool b, .slice ao nl cap, .slice zo nl zc] 57)
  have hn0 := heap_alloc_new w (.cells #[.int .i64 (N : Int), .bool b, .slice ao nl cap, .slice zo nl zc] 57)
  have HB0 := Lib.hid hb00
  have HR0 := Lib.hid (h.below hb00)
  have HC := Lib.hid hc
  obtain ⟨hE1, hZ1, _⟩ := netD (b := true) (right_iff.1 hc)
  rw [Int.toNat_natCast] at hZ1
  have hkz : k < Z.length := by rw [h.len]; exact hk
  have hkf : k < f.length := by rw [h.flow.1]; exact hkz
  have hmem : Z[k] ∈ Z := List.getElem_mem hkz
  obtain ⟨a1, a2⟩ := hE1 _ hmem
  obtain ⟨a3, a4⟩ := hZ1 _ hmem
  have hao : arcOf Z ((k : Int), false) = Z[k] := arcOf_nat false (List.getElem?_eq_getElem hkz)
  have hff : f[k] = atI f k := by unfold atI; rw [List.getD_eq_getElem?_getD, List.getElem?_eq_getElem hkf]; rfl
  have hpos := (h.flow.2 k _ (List.getElem?_eq_getElem hkz)).1
  have hg := restZ_get (List.getElem?_eq_getElem hkz) (List.getElem?_eq_getElem hkf)
  rw [hff] at hg
  have hkr : k < (restZ Z f).length := by rw [h.lens.1]; exact hk
  rw [List.getElem?_eq_getElem hkr, Option.some.injEq] at hg
  have HZB : Hid (∀ x ∈ alongL f, toS Z x < N ∧ fromS Z x < N) := Lib.hid (along_to hZ1 h.flow.1)
  obtain ⟨uf, huf⟩ : ∃ uf, frN Z[k] = uf := ⟨_, rfl⟩
  obtain ⟨ut, hut⟩ : ∃ ut, toN Z[k] = ut := ⟨_, rfl⟩
  have HAT : Hid (cycAt Z N f k = if 0 < atI f k then (if ut = uf then some [((k : Int), false)] else (wayK (fromS Z) (toS Z) (alongL f) N ut uf).map (fun l => ((k : Int), false) :: l)) else none) := Lib.hid (by
    unfold cycAt toS fromS
    rw [hao, hut.symm, huf.symm]
    simp)
  rw [huf] at a1 a3
  rw [hut] at a2 a4
  obtain ⟨ab, ax, e1, hab, c0, c1, c2, c3⟩ := HR0.out.row.arc hkr
  rw [hg] at c0 c1 c2 c3
  simp only at c0 c1 c2 c3
  rw [a1] at c0
  rw [a2] at c1
  subst e1
  have n0 := cell_whole hn0 0
  have n1 := cell_whole hn0 1
  have n2 := cell_whole hn0 2
  have n3 := cell_whole hn0 3
  have hki : (k : Int) < (nl : Int) := by omega
  obtain ⟨xt, hxt⟩ : ∃ xt, Z[k].2.2.2 = xt := ⟨_, rfl⟩
  rw [hxt] at c3
  generalize atI f k = u at *
  clear h hc hb00 hn0 hE1 hZ1 hkz hkf hmem a1 a2 hao hff hg hkr huf hut hxt
  by_cases h0 : u = 0
  · subst h0
    rw [HAT.out, if_neg (by omega)]
    go_enter Try.func47, Try.ntmps47
    go_wp2
    go_ret2
    exact .inl ⟨rfl, ⟨_, rfl⟩, HB0.out.alloc HB0.out.size _⟩
  · have h0b : (u == 0) = false := by simpa using h0
    have hup : 0 < u := by omega
    by_cases hc : uf = ut
    · have hcc : ((uf : Int) == (ut : Int)) = true := by simp [hc]
      rw [HAT.out, if_pos hup, if_pos hc.symm]
      go_enter Try.func47, Try.ntmps47
      go_wp2
      go_ret2
      exact .inr ⟨_, _, rfl, rfl, own_built (by simp) _ _ (HB0.out.alloc HB0.out.size _).size, (HB0.out.alloc HB0.out.size _).alloc (HB0.out.alloc HB0.out.size _).size _⟩
    · have hcc : ((uf : Int) == (ut : Int)) = false := by simp; omega
      rw [HAT.out, if_pos hup, if_neg (fun e => hc e.symm)]
      have HCALL := Lib.hid (dpath_at N b B (some ⟨ab, ax, none⟩) cap zo zc nl Z f ut uf _ (HR0.out.below ((Below.refl _ _).alloc (Nat.le_refl _) (.cells #[.int .i64 (uf : Int), .int .i64 (ut : Int), .int .i64 u, .int .i64 xt] 44))) HC.out hnl hN a4 a3 (fun e => hc e.symm))
      have HBX := Lib.hid (HB0.out.alloc HB0.out.size (.cells #[.int .i64 (uf : Int), .int .i64 (ut : Int), .int .i64 u, .int .i64 xt] 44))
      have HWN : Hid (∀ l, wayK (fromS Z) (toS Z) (alongL f) N ut uf = some l → l.length ≤ 50000) := Lib.hid (fun l hw => by
        obtain ⟨w1', w2, w3, w4'⟩ := way_props a4 (fun y hy => (HZB.out y hy).1) hw
        have h1 : l.length = (l.map (toS Z)).length := by simp
        rw [h1]
        have h2 := nodup_le (N := N) w3 (fun v hv => by
          obtain ⟨y, hy, rfl⟩ := List.mem_map.1 hv
          exact (HZB.out y (w2 y hy)).1)
        omega)
      obtain ⟨W, hW⟩ : ∃ W, wayK (fromS Z) (toS Z) (alongL f) N ut uf = W := ⟨_, rfl⟩
      rw [hW] at HCALL HWN ⊢
      clear hW HAT
      go_enter Try.func47, Try.ntmps47
      go_wp2_with fail
      refine HCALL.out.mono ?_
      clear HCALL
      rintro e w4 (⟨hw0, rfl, hb4⟩ | ⟨l, v, hw0, rfl, ho4, hb4⟩)
      · subst hw0
        have HB4 := Lib.hid (HBX.out.trans (hb4.mono HBX.out.size))
        clear hb4 c0 c1 c2 c3 n0 n1 n2 n3
        have hx1 := (Below.refl w4.heap.size w4).alloc (Nat.le_refl _) (.cells #[.int .i64 (k : Int)] 3)
        have hx2 := hx1.alloc hx1.size (.cells #[.slice (some ⟨w4.heap.size, 0, none⟩) 1 1, .slice none 0 0] 25)
        go_wp2_with (first
          | (go_at_call 62; refine (concat_any _ (some ⟨w4.heap.size, 0, none⟩) none 1 1 0 0 [(k : Int)] [] _ rfl rfl (cell_whole (new_whole1 _ _ _) 0) (cell_whole (new_whole1 _ _ _) 1) (OwnL.lstK ((own_built rfl w4.heap.size (k : Int) (Nat.le_refl _)).alloc _)) (Lst.nil _ _) (fun e => by cases e) (fun _ => rfl) (by omega) (by omega)).mono ?_; rintro e w5 ⟨v5, rfl, ho5, hb5⟩; have HB5 := Lib.hid (HB4.out.trans ((hx2.trans (hb5.mono hx2.size)).mono HB4.out.size)); clear ho5 hb5))
        go_ret2
        exact .inl ⟨rfl, ⟨_, rfl⟩, HB5.out⟩
      · subst hw0
        obtain ⟨va, vc, rfl, hv4⟩ := ho4.lst
        have hlen := HWN.out l rfl
        have HVN := Lib.hid (own_nilD ho4)
        have HV4 := Lib.hid hv4
        have HB4 := Lib.hid (HBX.out.trans (hb4.mono HBX.out.size))
        have HAL := Lib.hid (arcsL_len l)
        obtain ⟨ln, hln⟩ : ∃ ln, (arcsL l).length = ln := ⟨_, rfl⟩
        have hln2 : ln ≤ 50000 := by rw [← hln, HAL.out]; exact hlen
        rw [hln]
        have HLN := Lib.hid hln
        clear hb4 ho4 hv4 hln c0 c1 c2 c3 n0 n1 n2 n3
        have hx1 := (Below.refl w4.heap.size w4).alloc (Nat.le_refl _) (.cells #[.int .i64 (k : Int)] 3)
        have hx2 := hx1.alloc hx1.size (.cells #[.slice (some ⟨w4.heap.size, 0, none⟩) 1 1, .slice va ln vc] 25)
        go_wp2_with (first
          | (go_at_call 62; refine (concat_any _ (some ⟨w4.heap.size, 0, none⟩) va 1 1 ln vc [(k : Int)] (arcsL l) _ rfl HLN.out (cell_whole (new_whole1 _ _ _) 0) (cell_whole (new_whole1 _ _ _) 1) (OwnL.lstK ((own_built rfl w4.heap.size (k : Int) (Nat.le_refl _)).alloc _)) (HV4.out.below hx2) (fun e => by cases e) HVN.out (by omega) (by omega)).mono ?_; rintro e w5 ⟨v5, rfl, ho5, hb5⟩; have HO5 := Lib.hid ho5; have HB5 := Lib.hid (HB4.out.trans ((hx2.trans (hb5.mono hx2.size)).mono HB4.out.size)); have HSZ := Lib.hid (Nat.le_trans HB4.out.size hx2.size); clear ho5 hb5))
        go_ret2
        exact .inr ⟨_, _, rfl, rfl, HO5.out.mono HSZ.out, HB5.out⟩
end
end Go.Proofs.Ytmflleifglefiaa
