/- MincutSums. -/
import Derived.Test.YtbgnoaijgngifaaJAny
namespace Go.Proofs.Ytbgnoaijgngifaa
open Go.RowKit
set_option linter.unusedVariables false

/-- Two lists of a call's own, apart from each other. -/
structure TwoB (w : World) (B : Nat) (u v : Value) (A C : List Bool) : Prop where
  a : OwnL encB w B 4 u A
  b : OwnL encB w B 4 v C
  ne : ∀ g, u.ownBlock = some g → v.ownBlock ≠ some g
theorem TwoB.swap {w : World} {B : Nat} {u v : Value} {A C : List Bool} (h : TwoB w B u v A C) : TwoB w B v u C A := ⟨h.b, h.a, fun g h1 h2 => h.ne g h2 h1⟩
theorem TwoB.below {w w' : World} {B : Nat} {u v : Value} {A C : List Bool} (h : TwoB w B u v A C) (hb : Below w.heap.size w w') : TwoB w' B u v A C := ⟨h.a.below hb, h.b.below hb, h.ne⟩
theorem TwoB.add {w w' : World} {B g n cap : Nat} {u v : Value} {A A' C : List Bool} (h : TwoB w B u v A C) (ho : OwnL encB w' B 4 (.slice (some ⟨g, 0, none⟩) n cap) A') (hg : w.grownBy w' u.ownBlock) (hl : u.ownBlock = some g ∨ g = w.heap.size) :
    TwoB w' B (.slice (some ⟨g, 0, none⟩) n cap) v A' C := by
  refine ⟨ho, h.b.grown hg ?_, fun k hk => ?_⟩
  · cases hv : v.ownBlock with
    | none => exact .inl rfl
    | some k => right; intro e; exact h.ne k e.symm hv
  · have e : g = k := by simpa [Value.ownBlock] using hk
    subst e
    rcases hl with hl | hl
    · exact h.ne g hl
    · intro hv
      have := (own_lt2 h.b hv).2
      omega
def bothL (S T : List Bool) : List Bool := List.zipWith (fun x y => x && y) S T
def anyL (S T : List Bool) : List Bool := List.zipWith (fun x y => x || y) S T
theorem bothL_len {S T : List Bool} (h : T.length = S.length) : (bothL S T).length = S.length ∧ (anyL S T).length = S.length := by simp [bothL, anyL, h]
theorem bothL_at {S T : List Bool} {v : Nat} (hs : v < S.length) (ht : v < T.length) : (bothL S T)[v]? = some (S[v] && T[v]) ∧ (anyL S T)[v]? = some (S[v] || T[v]) := by
  unfold bothL anyL
  rw [List.getElem?_zipWith, List.getElem?_zipWith, List.getElem?_eq_getElem hs, List.getElem?_eq_getElem ht]
  exact ⟨rfl, rfl⟩
theorem sideB_out {S : List Bool} {v : Nat} (h : S.length ≤ v) : sideB S v = false := by
  unfold sideB
  rw [List.getD_eq_getElem?_getD, List.getElem?_eq_none h]
  rfl
theorem both_side {S T : List Bool} (h : T.length = S.length) : sideB (bothL S T) = bothS (sideB S) (sideB T) ∧ sideB (anyL S T) = allS (sideB S) (sideB T) := by
  constructor
  · funext v
    by_cases hv : v < S.length
    · have hv2 : v < T.length := by omega
      unfold bothS
      rw [sideB_at hv, sideB_at hv2]
      unfold sideB
      rw [List.getD_eq_getElem?_getD, (bothL_at hv hv2).1]
      rfl
    · unfold bothS
      rw [sideB_out (by rw [(bothL_len h).1]; omega), sideB_out (by omega : S.length ≤ v)]
      rfl
  · funext v
    by_cases hv : v < S.length
    · have hv2 : v < T.length := by omega
      unfold allS
      rw [sideB_at hv, sideB_at hv2]
      unfold sideB
      rw [List.getD_eq_getElem?_getD, (bothL_at hv hv2).2]
      rfl
    · unfold allS
      rw [sideB_out (by rw [(bothL_len h).2]; omega), sideB_out (by omega : S.length ≤ v), sideB_out (by omega : T.length ≤ v)]
      rfl
theorem take_snoc {l : List Bool} {v : Nat} {x : Bool} (h : l[v]? = some x) : l.take (v + 1) = l.take v ++ [x] := by
  obtain ⟨hv, e⟩ := List.getElem?_eq_some_iff.1 h
  rw [List.take_succ_eq_append_getElem hv, e]
theorem cap_top {n : Int} {Z : List ArcT} {S : List Bool} (h : checkE n Z = 0) : 0 ≤ capS Z (sideB S) ∧ capS Z (sideB S) ≤ 219902325555200000 := by
  have hw := wide_of h
  have := capK_bd (S := sideB S) hw.caps Z.length
  have hl := hw.len
  unfold capS
  omega
section
variable (n : Int) (b : Bool) (ao : Option Addr) (len cap : Nat) (Z : List ArcT)
set_option maxRecDepth 100000 in
set_option maxHeartbeats 8000000 in
theorem sums_law (so ta : Option Addr) (sl sc tl tc : Nat) (S T : List Bool) (w : World) (hl : Z.length = len) (hm : len ≤ maxLen) (hr : Row encA 4 w ao Z) (hl1 : S.length = sl) (hm1 : sl ≤ maxLen) (hs : Lst encB w so S) (hl3 : T.length = tl) (hm3 : tl ≤ maxLen) (ht : Lst encB w ta T) :
    Calls Try.prog 7 #[.agg #[.int .i64 n, .bool b, .slice ao len cap], .slice so sl sc, .slice ta tl tc] w fun e w' => e = .returned (.bool true) ∧ Below w.heap.size w w' := by
  subst hl
  subst hl1
  subst hl3
  have hb00 := (Below.refl _ w).alloc (Nat.le_refl _) (.cells #[.int .i64 n, .bool b, .slice ao Z.length cap] 24)
  have HB := Lib.hid hb00
  have HN := Lib.hid (heap_alloc_new w (.cells #[.int .i64 n, .bool b, .slice ao Z.length cap] 24))
  have HR := Lib.hid (hr.below' hb00)
  have HM := Lib.hid hm
  have x0 := cell_whole HN.out 0
  have x1 := cell_whole HN.out 1
  have x2 := cell_whole HN.out 2
  have HS := Lib.hid (hs.below hb00)
  have HMS := Lib.hid hm1
  have HT := Lib.hid (ht.below hb00)
  have HMT := Lib.hid hm3
  clear hr hm hb00 hs hm1 ht hm3
  obtain ⟨c0, hc0⟩ : ∃ c0, capE n Z S = c0 := ⟨_, rfl⟩
  obtain ⟨d0, hd0⟩ : ∃ d0, capE n Z T = d0 := ⟨_, rfl⟩
  obtain ⟨x, hx⟩ : ∃ x, capV n Z S = x := ⟨_, rfl⟩
  obtain ⟨y, hy⟩ : ∃ y, capV n Z T = y := ⟨_, rfl⟩
  have HC := Lib.hid hc0
  have HD := Lib.hid hd0
  have HX := Lib.hid hx
  have HY := Lib.hid hy
  by_cases h0 : c0 = 0
  · subst h0
    by_cases h1 : d0 = 0
    · subst h1
      obtain ⟨hck, hsl⟩ := capE_ok hc0
      have htl := (capE_ok hd0).2
      have hn := nodesE_ok (right_iff.1 hck : Right (n, b, Z)).1
      simp only at hn
      have hlt2 : T.length = S.length := by omega
      have hx2 := hx
      have hy2 := hy
      rw [capV_yes hc0] at hx2
      rw [capV_yes hd0] at hy2
      have hcs := cap_sides (S := sideB S) (T := sideB T) (fun a ha => ((wide_of hck).caps a ha).1) Z.length
      obtain ⟨P, hP⟩ : ∃ P, bothL S T = P := ⟨_, rfl⟩
      obtain ⟨Q, hQ⟩ : ∃ Q, anyL S T = Q := ⟨_, rfl⟩
      have hpl : P.length = S.length := by rw [← hP]; exact (bothL_len hlt2).1
      have hql : Q.length = S.length := by rw [← hQ]; exact (bothL_len hlt2).2
      obtain ⟨h3, h4⟩ := both_side hlt2
      rw [hP] at h3
      rw [hQ] at h4
      subst hsl
      have hep : capE (S.length : Int) Z P = 0 := capE_yes hck hpl
      have heq : capE (S.length : Int) Z Q = 0 := capE_yes hck hql
      obtain ⟨z, hz⟩ : ∃ z, capS Z (sideB P) = z := ⟨_, rfl⟩
      obtain ⟨u, hu⟩ : ∃ u, capS Z (sideB Q) = u := ⟨_, rfl⟩
      have hzb := cap_top (S := P) hck
      have hub := cap_top (S := Q) hck
      have hxb := cap_top (S := S) hck
      have hyb := cap_top (S := T) hck
      rw [hz] at hzb
      rw [hu] at hub
      rw [hx2] at hxb
      rw [hy2] at hyb
      have hle : z + u ≤ x + y := by
        rw [← hz, ← hu, ← hx2, ← hy2, h3, h4]
        exact hcs
      have HVP : Hid (capV (S.length : Int) Z P = z) := Lib.hid (by rw [capV_yes hep]; exact hz)
      have HVQ : Hid (capV (S.length : Int) Z Q = u) := Lib.hid (by rw [capV_yes heq]; exact hu)
      have HEP := Lib.hid hep
      have HEQ := Lib.hid heq
      have HLT := Lib.hid hlt2
      have HPL := Lib.hid hpl
      have HQL := Lib.hid hql
      have HPM : Hid (P.length ≤ maxLen) := Lib.hid (by rw [hpl]; exact HMS.out)
      have HQM : Hid (Q.length ≤ maxLen) := Lib.hid (by rw [hql]; exact HMS.out)
      have HAT : Hid (∀ v (h : v < S.length) (h2 : v < T.length), P[v]? = some (S[v] && T[v]) ∧ Q[v]? = some (S[v] || T[v])) := Lib.hid (fun v h h2 => by rw [← hP, ← hQ]; exact bothL_at h h2)
      have hs50 : S.length ≤ 50 := by omega
      have hs0 : 0 < S.length := by omega
      obtain ⟨sb, sx, e⟩ : ∃ sb sx, so = some ⟨sb, sx, none⟩ := by
        obtain ⟨g, x, e, _⟩ := HS.out 0 (by omega)
        exact ⟨g, x, e⟩
      subst e
      obtain ⟨tb, tx, e⟩ : ∃ tb tx, ta = some ⟨tb, tx, none⟩ := by
        obtain ⟨g, x, e, _⟩ := HT.out 0 (by omega)
        exact ⟨g, x, e⟩
      subst e
      clear hc0 hd0 hx hy hck htl hn hlt2 hx2 hy2 hcs hP hQ hpl hql h3 h4 hep heq hz hu
      go_enter Try.func7, Try.ntmps7
      go_wp2_with (first
        | (go_at_call 12; refine (jawake_any _).mono ?_; rintro e wn ⟨rfl, hb⟩; have HR := Lib.hid (HR.out.below' hb); have hn := kept_box HN.out hb; have HN := Lib.hid hn; have x0 := cell_whole hn 0; have x1 := cell_whole hn 1; have x2 := cell_whole hn 2; have HS := Lib.hid (HS.out.below hb); have HT := Lib.hid (HT.out.below hb); have HB := Lib.hid (HB.out.trans (hb.mono HB.out.size)); clear hb hn)
        | (have h := HCAP1.out; go_at_call 10; refine (jcapacity_any (S.length : Int) b ao (some ⟨tb, tx, none⟩) cap tc Z T _ HR.out HT.out HM.out HMT.out).mono ?_; rw [HD.out, HY.out]; rintro e wn ⟨rfl, hb⟩; have HR := Lib.hid (HR.out.below' hb); have hn := kept_box HN.out hb; have HN := Lib.hid hn; have x0 := cell_whole hn 0; have x1 := cell_whole hn 1; have x2 := cell_whole hn 2; have HS := Lib.hid (HS.out.below hb); have HT := Lib.hid (HT.out.below hb); have HB := Lib.hid (HB.out.trans (hb.mono HB.out.size)); clear hb hn)
        | (go_at_call 10; refine (jcapacity_any (S.length : Int) b ao (some ⟨sb, sx, none⟩) cap sc Z S _ HR.out HS.out HM.out HMS.out).mono ?_; rw [HC.out, HX.out]; rintro e wn ⟨rfl, hb⟩; have HR := Lib.hid (HR.out.below' hb); have hn := kept_box HN.out hb; have HN := Lib.hid hn; have x0 := cell_whole hn 0; have x1 := cell_whole hn 1; have x2 := cell_whole hn 2; have HS := Lib.hid (HS.out.below hb); have HT := Lib.hid (HT.out.below hb); have HB := Lib.hid (HB.out.trans (hb.mono HB.out.size)); have HCAP1 := Lib.hid True.intro; clear hb hn))
      obtain ⟨wb, hwb⟩ : ∃ wb, wn = wb := ⟨_, rfl⟩
      subst hwb
      go_loopw [12, 13, 14] (fun ov pv iv wr => ∃ m : Nat, m ≤ S.length ∧ iv = .int .i64 (m : Int) ∧ Hid (TwoB wr wn.heap.size ov pv (P.take m) (Q.take m)) ∧ Hid (Below wn.heap.size wn wr)) (fun _ _ iv _ => S.length - (intOf iv).toNat)
      case atStart => exact ⟨0, Nat.zero_le _, rfl, Lib.hid ⟨OwnL.nil _ _ _, OwnL.nil _ _ _, fun g h => by simp [Value.ownBlock] at h⟩, Lib.hid (Below.refl _ _)⟩
      case round =>
        obtain ⟨m, hm, rfl, HO, HBr⟩ := hrel
        have HPK : Hid ((P.take m).length = m) := Lib.hid (by rw [List.length_take, HPL.out]; omega)
        have HQK : Hid ((Q.take m).length = m) := Lib.hid (by rw [List.length_take, HQL.out]; omega)
        obtain ⟨oa, oc, hov, hol⟩ := HO.out.a.lst
        obtain ⟨pa, pc, hpv, hplst⟩ := HO.out.b.lst
        by_cases hlt : m < S.length
        · have hli : (m : Int) < (S.length : Int) := by omega
          have hlt2 : m < T.length := by rw [HLT.out]; exact hlt
          have hli2 : (m : Int) < (T.length : Int) := by omega
          rw [HPK.out] at hov
          rw [HQK.out] at hpv
          subst hov
          subst hpv
          obtain ⟨hp1, hq1⟩ := HAT.out m hlt hlt2
          have s0 := cellB (HS.out.below HBr.out) hlt
          have t0 := cellB (HT.out.below HBr.out) hlt2
          have hsz := HBr.out.size
          clear hol hplst
          have HS0 := Lib.hid (show ∀ W, Below wn.heap.size wn W → W.cell? ⟨sb, sx + m, none⟩ = some (.bool S[m]) from fun W h => cellB (HS.out.below h) hlt)
          have HT0 := Lib.hid (show ∀ W, Below wn.heap.size wn W → W.cell? ⟨tb, tx + m, none⟩ = some (.bool T[m]) from fun W h => cellB (HT.out.below h) hlt2)
          generalize S[m] = p at *
          generalize T[m] = q at *
          have HTP := Lib.hid (take_snoc hp1)
          have HTQ := Lib.hid (take_snoc hq1)
          clear hp1 hq1
          cases p <;> cases q
          · have HOA := Lib.hid (HO.out.below ((Below.refl _ wr).alloc (Nat.le_refl _) (.cells #[.bool false] 4)))
            have HBA := Lib.hid (HBr.out.alloc HBr.out.size (.cells #[.bool false] 4))
            go_wp2_with (first
              | (have h := HOC.out; at_builtin; refine wpList_append_one (enc := encB) Try.underlying26 infoBool rfl (by omega) rfl _ _ rfl wn.heap.size _ (Q.take m) false rfl rfl HOC.out.b _ 1 rfl (cell_new' (by simp) _ _ 0) (by rw [HQK.out]; omega) (by simp; omega) ?_; rw [HQK.out]; intro g6 cap6 w6 ho6 hg6 hl6 hb6 hlt6; have HO6 := Lib.hid (HOC.out.swap.add ho6 hg6 hl6).swap; have HB6 := Lib.hid (below_grown HBC.out (by simp; omega) hg6 (fun g e => own_block HOC.out.b e)); clear ho6 hg6 hl6)
              | (at_builtin; refine wpList_append_one (enc := encB) Try.underlying26 infoBool rfl (by omega) rfl _ _ rfl wn.heap.size _ (P.take m) false rfl rfl HOA.out.a _ 1 rfl (cell_new' (by simp) _ _ 0) (by rw [HPK.out]; omega) (by simp; omega) ?_; rw [HPK.out]; intro g4 cap4 w4 ho4 hg4 hl4 hb4 hlt4; have HO4 := Lib.hid (HOA.out.add ho4 hg4 hl4); have HB4 := Lib.hid (below_grown HBA.out (by simp; omega) hg4 (fun g e => own_block HOA.out.a e)); have s1 := HS0.out _ HB4.out; have t1 := HT0.out _ HB4.out; have HOC := Lib.hid (HO4.out.below ((Below.refl _ w4).alloc (Nat.le_refl _) (.cells #[.bool false] 4))); have HBC := Lib.hid (HB4.out.alloc HB4.out.size (.cells #[.bool false] 4)); have hsz4 := HB4.out.size; clear ho4 hg4 hl4))
            go_roundw
            case rel => exact ⟨m + 1, by omega, by go_num, Lib.hid (by rw [HTP.out, HTQ.out]; exact HO6.out), HB6⟩
            case measure => simp [intOf]; omega
          · have HOA := Lib.hid (HO.out.below ((Below.refl _ wr).alloc (Nat.le_refl _) (.cells #[.bool false] 4)))
            have HBA := Lib.hid (HBr.out.alloc HBr.out.size (.cells #[.bool false] 4))
            go_wp2_with (first
              | (have h := HOC.out; at_builtin; refine wpList_append_one (enc := encB) Try.underlying26 infoBool rfl (by omega) rfl _ _ rfl wn.heap.size _ (Q.take m) true rfl rfl HOC.out.b _ 1 rfl (cell_new' (by simp) _ _ 0) (by rw [HQK.out]; omega) (by simp; omega) ?_; rw [HQK.out]; intro g6 cap6 w6 ho6 hg6 hl6 hb6 hlt6; have HO6 := Lib.hid (HOC.out.swap.add ho6 hg6 hl6).swap; have HB6 := Lib.hid (below_grown HBC.out (by simp; omega) hg6 (fun g e => own_block HOC.out.b e)); clear ho6 hg6 hl6)
              | (at_builtin; refine wpList_append_one (enc := encB) Try.underlying26 infoBool rfl (by omega) rfl _ _ rfl wn.heap.size _ (P.take m) false rfl rfl HOA.out.a _ 1 rfl (cell_new' (by simp) _ _ 0) (by rw [HPK.out]; omega) (by simp; omega) ?_; rw [HPK.out]; intro g4 cap4 w4 ho4 hg4 hl4 hb4 hlt4; have HO4 := Lib.hid (HOA.out.add ho4 hg4 hl4); have HB4 := Lib.hid (below_grown HBA.out (by simp; omega) hg4 (fun g e => own_block HOA.out.a e)); have s1 := HS0.out _ HB4.out; have t1 := HT0.out _ HB4.out; have HOC := Lib.hid (HO4.out.below ((Below.refl _ w4).alloc (Nat.le_refl _) (.cells #[.bool true] 4))); have HBC := Lib.hid (HB4.out.alloc HB4.out.size (.cells #[.bool true] 4)); have hsz4 := HB4.out.size; clear ho4 hg4 hl4))
            go_roundw
            case rel => exact ⟨m + 1, by omega, by go_num, Lib.hid (by rw [HTP.out, HTQ.out]; exact HO6.out), HB6⟩
            case measure => simp [intOf]; omega
          · have HOA := Lib.hid (HO.out.below ((Below.refl _ wr).alloc (Nat.le_refl _) (.cells #[.bool false] 4)))
            have HBA := Lib.hid (HBr.out.alloc HBr.out.size (.cells #[.bool false] 4))
            go_wp2_with (first
              | (have h := HOC.out; at_builtin; refine wpList_append_one (enc := encB) Try.underlying26 infoBool rfl (by omega) rfl _ _ rfl wn.heap.size _ (Q.take m) true rfl rfl HOC.out.b _ 1 rfl (cell_new' (by simp) _ _ 0) (by rw [HQK.out]; omega) (by simp; omega) ?_; rw [HQK.out]; intro g6 cap6 w6 ho6 hg6 hl6 hb6 hlt6; have HO6 := Lib.hid (HOC.out.swap.add ho6 hg6 hl6).swap; have HB6 := Lib.hid (below_grown HBC.out (by simp; omega) hg6 (fun g e => own_block HOC.out.b e)); clear ho6 hg6 hl6)
              | (at_builtin; refine wpList_append_one (enc := encB) Try.underlying26 infoBool rfl (by omega) rfl _ _ rfl wn.heap.size _ (P.take m) false rfl rfl HOA.out.a _ 1 rfl (cell_new' (by simp) _ _ 0) (by rw [HPK.out]; omega) (by simp; omega) ?_; rw [HPK.out]; intro g4 cap4 w4 ho4 hg4 hl4 hb4 hlt4; have HO4 := Lib.hid (HOA.out.add ho4 hg4 hl4); have HB4 := Lib.hid (below_grown HBA.out (by simp; omega) hg4 (fun g e => own_block HOA.out.a e)); have s1 := HS0.out _ HB4.out; have t1 := HT0.out _ HB4.out; have HOC := Lib.hid (HO4.out.below ((Below.refl _ w4).alloc (Nat.le_refl _) (.cells #[.bool true] 4))); have HBC := Lib.hid (HB4.out.alloc HB4.out.size (.cells #[.bool true] 4)); have hsz4 := HB4.out.size; clear ho4 hg4 hl4))
            go_roundw
            case rel => exact ⟨m + 1, by omega, by go_num, Lib.hid (by rw [HTP.out, HTQ.out]; exact HO6.out), HB6⟩
            case measure => simp [intOf]; omega
          · have HOA := Lib.hid (HO.out.below ((Below.refl _ wr).alloc (Nat.le_refl _) (.cells #[.bool true] 4)))
            have HBA := Lib.hid (HBr.out.alloc HBr.out.size (.cells #[.bool true] 4))
            go_wp2_with (first
              | (have h := HOC.out; at_builtin; refine wpList_append_one (enc := encB) Try.underlying26 infoBool rfl (by omega) rfl _ _ rfl wn.heap.size _ (Q.take m) true rfl rfl HOC.out.b _ 1 rfl (cell_new' (by simp) _ _ 0) (by rw [HQK.out]; omega) (by simp; omega) ?_; rw [HQK.out]; intro g6 cap6 w6 ho6 hg6 hl6 hb6 hlt6; have HO6 := Lib.hid (HOC.out.swap.add ho6 hg6 hl6).swap; have HB6 := Lib.hid (below_grown HBC.out (by simp; omega) hg6 (fun g e => own_block HOC.out.b e)); clear ho6 hg6 hl6)
              | (at_builtin; refine wpList_append_one (enc := encB) Try.underlying26 infoBool rfl (by omega) rfl _ _ rfl wn.heap.size _ (P.take m) true rfl rfl HOA.out.a _ 1 rfl (cell_new' (by simp) _ _ 0) (by rw [HPK.out]; omega) (by simp; omega) ?_; rw [HPK.out]; intro g4 cap4 w4 ho4 hg4 hl4 hb4 hlt4; have HO4 := Lib.hid (HOA.out.add ho4 hg4 hl4); have HB4 := Lib.hid (below_grown HBA.out (by simp; omega) hg4 (fun g e => own_block HOA.out.a e)); have s1 := HS0.out _ HB4.out; have t1 := HT0.out _ HB4.out; have HOC := Lib.hid (HO4.out.below ((Below.refl _ w4).alloc (Nat.le_refl _) (.cells #[.bool true] 4))); have HBC := Lib.hid (HB4.out.alloc HB4.out.size (.cells #[.bool true] 4)); have hsz4 := HB4.out.size; clear ho4 hg4 hl4))
            go_roundw
            case rel => exact ⟨m + 1, by omega, by go_num, Lib.hid (by rw [HTP.out, HTQ.out]; exact HO6.out), HB6⟩
            case measure => simp [intOf]; omega
        · have hli : ¬ (m : Int) < (S.length : Int) := by omega
          obtain rfl : m = S.length := by omega
          rw [List.take_of_length_le (by rw [HPL.out]; exact Nat.le_refl _)] at hov hol
          rw [List.take_of_length_le (by rw [HQL.out]; exact Nat.le_refl _)] at hpv hplst
          subst hov
          subst hpv
          have HP := Lib.hid hol
          have HQ := Lib.hid hplst
          have hn := kept_box HN.out HBr.out
          have HR := Lib.hid (HR.out.below' HBr.out)
          have HN := Lib.hid hn
          have x0 := cell_whole hn 0
          have x1 := cell_whole hn 1
          have x2 := cell_whole hn 2
          have HB := Lib.hid (HB.out.trans (HBr.out.mono HB.out.size))
          clear hol hplst hn
          go_wp2_with (first
            | (have h := HCAP2.out; go_at_call 10; refine (jcapacity_any (S.length : Int) b ao pa cap pc Z Q _ HR.out HQ.out HM.out HQM.out).mono ?_; rw [HVQ.out, HEQ.out]; rintro e wn ⟨rfl, hb⟩; have HR := Lib.hid (HR.out.below' hb); have hn := kept_box HN.out hb; have HN := Lib.hid hn; have x0 := cell_whole hn 0; have x1 := cell_whole hn 1; have x2 := cell_whole hn 2; have HB := Lib.hid (HB.out.trans (hb.mono HB.out.size)); clear hb hn)
            | (go_at_call 10; refine (jcapacity_any (S.length : Int) b ao oa cap oc Z P _ HR.out HP.out HM.out HPM.out).mono ?_; rw [HVP.out, HEP.out]; rintro e wn ⟨rfl, hb⟩; have HR := Lib.hid (HR.out.below' hb); have hn := kept_box HN.out hb; have HN := Lib.hid hn; have x0 := cell_whole hn 0; have x1 := cell_whole hn 1; have x2 := cell_whole hn 2; have HQ := Lib.hid (HQ.out.below hb); have HB := Lib.hid (HB.out.trans (hb.mono HB.out.size)); have HCAP2 := Lib.hid True.intro; clear hb hn))
          go_ret
          exact ⟨by simp, HB.out⟩
    · have hf1 : (d0 != 0) = true := by simpa using h1
      have hf2 : (d0 == 0) = false := by simpa using h1
      clear hc0 hd0 hx hy h1
      go_enter Try.func7, Try.ntmps7
      go_wp2_with (first
        | (go_at_call 12; refine (jawake_any _).mono ?_; rintro e wn ⟨rfl, hb⟩; have HR := Lib.hid (HR.out.below' hb); have hn := kept_box HN.out hb; have HN := Lib.hid hn; have x0 := cell_whole hn 0; have x1 := cell_whole hn 1; have x2 := cell_whole hn 2; have HS := Lib.hid (HS.out.below hb); have HT := Lib.hid (HT.out.below hb); have HB := Lib.hid (HB.out.trans (hb.mono HB.out.size)); clear hb hn)
        | (have h := HCAP1.out; go_at_call 10; refine (jcapacity_any n b ao ta cap tc Z T _ HR.out HT.out HM.out HMT.out).mono ?_; rw [HD.out, HY.out]; rintro e wn ⟨rfl, hb⟩; have HR := Lib.hid (HR.out.below' hb); have hn := kept_box HN.out hb; have HN := Lib.hid hn; have x0 := cell_whole hn 0; have x1 := cell_whole hn 1; have x2 := cell_whole hn 2; have HS := Lib.hid (HS.out.below hb); have HT := Lib.hid (HT.out.below hb); have HB := Lib.hid (HB.out.trans (hb.mono HB.out.size)); clear hb hn)
        | (go_at_call 10; refine (jcapacity_any n b ao so cap sc Z S _ HR.out HS.out HM.out HMS.out).mono ?_; rw [HC.out, HX.out]; rintro e wn ⟨rfl, hb⟩; have HR := Lib.hid (HR.out.below' hb); have hn := kept_box HN.out hb; have HN := Lib.hid hn; have x0 := cell_whole hn 0; have x1 := cell_whole hn 1; have x2 := cell_whole hn 2; have HS := Lib.hid (HS.out.below hb); have HT := Lib.hid (HT.out.below hb); have HB := Lib.hid (HB.out.trans (hb.mono HB.out.size)); have HCAP1 := Lib.hid True.intro; clear hb hn))
      go_ret
      exact ⟨by simp, HB.out⟩
  · have hf1 : (c0 != 0) = true := by simpa using h0
    have hf2 : (c0 == 0) = false := by simpa using h0
    clear hc0 hd0 hx hy h0
    go_enter Try.func7, Try.ntmps7
    go_wp2_with (first
      | (go_at_call 12; refine (jawake_any _).mono ?_; rintro e wn ⟨rfl, hb⟩; have HR := Lib.hid (HR.out.below' hb); have hn := kept_box HN.out hb; have HN := Lib.hid hn; have x0 := cell_whole hn 0; have x1 := cell_whole hn 1; have x2 := cell_whole hn 2; have HS := Lib.hid (HS.out.below hb); have HT := Lib.hid (HT.out.below hb); have HB := Lib.hid (HB.out.trans (hb.mono HB.out.size)); clear hb hn)
      | (have h := HCAP1.out; go_at_call 10; refine (jcapacity_any n b ao ta cap tc Z T _ HR.out HT.out HM.out HMT.out).mono ?_; rw [HD.out, HY.out]; rintro e wn ⟨rfl, hb⟩; have HR := Lib.hid (HR.out.below' hb); have hn := kept_box HN.out hb; have HN := Lib.hid hn; have x0 := cell_whole hn 0; have x1 := cell_whole hn 1; have x2 := cell_whole hn 2; have HS := Lib.hid (HS.out.below hb); have HT := Lib.hid (HT.out.below hb); have HB := Lib.hid (HB.out.trans (hb.mono HB.out.size)); clear hb hn)
      | (go_at_call 10; refine (jcapacity_any n b ao so cap sc Z S _ HR.out HS.out HM.out HMS.out).mono ?_; rw [HC.out, HX.out]; rintro e wn ⟨rfl, hb⟩; have HR := Lib.hid (HR.out.below' hb); have hn := kept_box HN.out hb; have HN := Lib.hid hn; have x0 := cell_whole hn 0; have x1 := cell_whole hn 1; have x2 := cell_whole hn 2; have HS := Lib.hid (HS.out.below hb); have HT := Lib.hid (HT.out.below hb); have HB := Lib.hid (HB.out.trans (hb.mono HB.out.size)); have HCAP1 := Lib.hid True.intro; clear hb hn))
    go_ret
    exact ⟨by simp, HB.out⟩
end
end Go.Proofs.Ytbgnoaijgngifaa
