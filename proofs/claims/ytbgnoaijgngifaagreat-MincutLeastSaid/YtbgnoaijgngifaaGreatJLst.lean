/- The document's Capacity and Least. -/
import Derived.Test.YtbgnoaijgngifaaGreatJTak
import Derived.Test.YtbgnoaijgngifaaGreatJSide
namespace Go.Proofs.YtbgnoaijgngifaaGreat
open Go.RowKit
set_option linter.unusedVariables false

theorem far_pos {fr tt : StepT → Nat} {l : List StepT} {x : List Ent} {s0 i : Nat} {P : List StepT} (h : SK fr tt l s0 x i P) {v : Nat} : 0 ≤ farX x v ↔ v ∈ keysX x := by
  constructor
  · intro h0
    rw [far_mem h]
    omega
  · intro hm
    obtain ⟨b, q, hb, rfl⟩ := keysX_mem.1 hm
    rw [farX_some h hb]
    omega
/-- What is wrong with a side of a network. -/
def capE (n : Int) (Z : List ArcT) (S : List Bool) : Int := if checkE n Z = 0 then (if (S.length : Int) = n then 0 else 1) else checkE n Z
def capV (n : Int) (Z : List ArcT) (S : List Bool) : Int := if capE n Z S = 0 then capS Z (sideB S) else 0
section
variable (n : Int) (b : Bool) (ao so : Option Addr) (cap sc : Nat) (Z : List ArcT) (S : List Bool)
end
theorem lev_zero {N i : Nat} {Z : List ArcT} {F : List Int} (hf : flowE (N : Int) Z F = 0) (hi : i < N) : levE (N : Int) Z F (i : Int) = 0 := by
  unfold levE
  rw [if_pos hf, if_pos (by unfold nodeB; simp; omega)]
theorem side_found {N i : Nat} {Z : List ArcT} {F : List Int} (hl : levE (N : Int) Z F (i : Int) = 0) (hW : WideNet Z N) (hF : Flow Z F) (hi : i < N) : (sideL (N : Int) Z F (i : Int)).length = N ∧ sideB (sideL (N : Int) Z F (i : Int)) = foundB (seekN Z F N i) := by
  have hsk := seek_facts hW hF hi
  have e : levL (N : Int) Z F (i : Int) = farsL (seekN Z F N i) N := by
    unfold levL seekF seekN
    rw [if_pos hl, Int.toNat_natCast, Int.toNat_natCast]
  have hlen : (sideL (N : Int) Z F (i : Int)).length = N := by
    unfold sideL
    rw [e, List.length_map, farsL_len]
  refine ⟨hlen, funext fun v => ?_⟩
  unfold sideB
  by_cases hv : v < N
  · have h1 : (farsL (seekN Z F N i) N)[v]? = some (farX (seekN Z F N i) v) := by unfold farsL; simp [hv]
    unfold sideL foundB
    rw [e, List.getD_eq_getElem?_getD, List.getElem?_map, h1]
    show decide (0 ≤ farX (seekN Z F N i) v) = decide (v ∈ keysX (seekN Z F N i))
    exact decide_eq_decide.2 (far_pos hsk)
  · rw [List.getD_eq_getElem?_getD, List.getElem?_eq_none (by omega)]
    have hn : v ∉ keysX (seekN Z F N i) := fun hm => hv (keys_lt hsk hi (fun y hy => (wide_step hW hF hy).1.1) v hm)
    unfold foundB
    rw [decide_eq_false hn]
    rfl
/-- The least side of the least capacity. -/
structure LeastS (Z : List ArcT) (N s t : Nat) (S : List Bool) (k : Int) : Prop where
  len : S.length = N
  ends : SideST (sideB S) s t
  takes : capS Z (sideB S) = k
  most : IsMost Z N s t k
  least : ∀ T, SideST T s t → capS Z T = k → ∀ v, sideB S v = true → T v = true
theorem least_of {N i j : Nat} {Z : List ArcT} {F : List Int} {k : Int} (hl : levE (N : Int) Z F (i : Int) = 0) (hW : WideNet Z N) (hi : i < N) (hv : FlowST Z N i j F k) (hn : j ∉ keysX (seekN Z F N i)) : LeastS Z N i j (sideL (N : Int) Z F (i : Int)) k := by
  obtain ⟨h1, h2⟩ := side_found hl hW hv.1 hi
  obtain ⟨a1, a2, a3, a4⟩ := best_side hW.lt hi (fun y => by
    rw [stepsK_mem (Nat.le_refl _)]
    constructor
    · rintro ⟨h1, _, h3⟩; exact ⟨h1, h3⟩
    · rintro ⟨h1, h3⟩; exact ⟨h1, h1.2, h3⟩) hv (seek_facts hW hv.1 hi) hn
  exact ⟨h1, by rw [h2]; exact a1, by rw [h2]; exact a2, a3, by rw [h2]; exact a4⟩
theorem LeastS.same {N s t : Nat} {Z : List ArcT} {S T : List Bool} {k m : Int} (hZ : ∀ a ∈ Z, frN a < N ∧ toN a < N) (hs : s < N) (h : LeastS Z N s t S k) (g : LeastS Z N s t T m) : S = T ∧ k = m := by
  have e := isMost_unique hZ hs h.most g.most
  subst e
  refine ⟨List.ext_getElem (by rw [h.len, g.len]) fun v h1 h2 => ?_, rfl⟩
  have x1 := h.least _ g.ends g.takes v
  have x2 := g.least _ h.ends h.takes v
  unfold sideB at x1 x2
  rw [List.getD_eq_getElem?_getD, List.getD_eq_getElem?_getD, List.getElem?_eq_getElem h1, List.getElem?_eq_getElem h2] at x1 x2
  simp only [Option.getD_some] at x1 x2
  cases hS : S[v] <;> cases hT : T[v] <;> simp_all
/-- What Least answers. -/
def LeastRes (n : Int) (Z : List ArcT) (s t : Int) (w : World) (e : Ending) (w' : World) : Prop :=
  (endsE n Z s t = 0 ∧ ∃ a c S k N i j, n = ((N : Nat) : Int) ∧ s = ((i : Nat) : Int) ∧ t = ((j : Nat) : Int) ∧ (i < N ∧ j < N ∧ i ≠ j) ∧ e = .returned (.tuple #[.slice a S.length c, .int .i64 k, .int .i64 0]) ∧ Lst encB w' a S ∧ LeastS Z N i j S k ∧ Below w.heap.size w w') ∨
  (endsE n Z s t ≠ 0 ∧ e = .returned (.tuple #[.slice none 0 0, .int .i64 0, .int .i64 (endsE n Z s t)]) ∧ Below w.heap.size w w')
section
variable (n : Int) (b : Bool) (ao : Option Addr) (cap : Nat) (Z : List ArcT)
set_option maxRecDepth 100000 in
set_option maxHeartbeats 4000000 in
theorem rleast_any (s t : Int) (w : World) (h : Row encA 4 w ao Z) (hz : Z.length ≤ maxLen) :
    Calls Tryz.prog 6 #[.agg #[.int .i64 n, .bool b, .slice ao Z.length cap], .int .i64 s, .int .i64 t] w (LeastRes n Z s t w) := by
  have hb00 := (Below.refl _ w).alloc (Nat.le_refl _) (.cells #[.int .i64 n, .bool b, .slice ao Z.length cap] 24)
  have HB0 := Lib.hid hb00
  have HN0 := Lib.hid (heap_alloc_new w (.cells #[.int .i64 n, .bool b, .slice ao Z.length cap] 24))
  have HR := Lib.hid (h.below' hb00)
  have HZ := Lib.hid hz
  clear h hz hb00
  obtain ⟨e0, he⟩ : ∃ e0, endsE n Z s t = e0 := ⟨_, rfl⟩
  have HE := Lib.hid he
  by_cases h0 : e0 = 0
  · subst h0
    obtain ⟨hc, i, j, rfl, rfl, hi, hj, hij⟩ := endsE_ok he
    have HWN := Lib.hid (wide_of hc)
    have hn := nodesE_ok (right_iff.1 hc : Right (n, b, Z)).1
    simp only at hn
    obtain ⟨N, rfl⟩ : ∃ N : Nat, n = (N : Int) := ⟨n.toNat, by omega⟩
    rw [Int.toNat_natCast] at hi hj HWN
    clear he hc
    go_enter Tryz.func6, Tryz.ntmps6
    go_wp2_with (first
      | (go_at_call 12; refine (rends_is (N : Int) b ao cap Z (i : Int) (j : Int) 0 _ HR.out HZ.out HE.out).mono ?_; rintro e w1 ⟨rfl, hb1⟩; have HB1 := Lib.hid (HB0.out.trans (hb1.mono HB0.out.size)); have HR1 := Lib.hid (HR.out.below' hb1); have hn1 := kept_box HN0.out hb1; have c0 := cell_whole hn1 0; have c1 := cell_whole hn1 1; have c2 := cell_whole hn1 2; clear hb1 hn1))
    go_region_held3 (fun W => W.cell? ⟨w.heap.size, 0, none⟩ = some (.int .i64 (N : Int)) ∧ W.cell? ⟨w.heap.size, 1, none⟩ = some (.bool b) ∧ W.cell? ⟨w.heap.size, 2, none⟩ = some (.slice ao Z.length cap)) (first | exact ⟨c0, c1, c2⟩ | exact ⟨z0, z1, z2⟩ | go_keep)
      (first
        | (go_at_call 14; refine (rbest_any (N : Int) b ao cap Z N i j w1.drew (HR1.out.below' (below_drew (Below.refl w1.heap.size w1))) HWN.out hi hj hij).mono ?_; rintro e w3 ⟨fo, fc, F, k, rfl, hf3, _, hv3, hm3, hn3, hb3⟩; have HB3 := Lib.hid ((below_drew HB1.out).trans (hb3.mono HB1.out.size)); have HR3 := Lib.hid ((HR1.out.below' (below_drew (Below.refl w1.heap.size w1))).below' hb3); have HF3 := Lib.hid hf3; have HLE : Hid (levE (N : Int) Z F (i : Int) = 0) := Lib.hid (lev_zero (flowE_of HE.out hv3) hi); have HLS := Lib.hid (least_of HLE.out HWN.out hi hv3 hn3); have HFL : Hid (F.length ≤ maxLen) := Lib.hid (by rw [hv3.1.1]; exact HZ.out); have z0 := cell_below (w := w1.drew) hb3 c0; have z1 := cell_below (w := w1.drew) hb3 c1; have z2 := cell_below (w := w1.drew) hb3 c2; clear hb3 hf3 hv3 hm3 hn3)
        | (go_at_call 13; refine (rside_any (N : Int) b ao fo cap fc Z F (i : Int) _ HR3.out HF3.out HZ.out HFL.out).mono ?_; rintro e w5 ⟨sa, sc, rfl, hs5, hb5⟩; rw [HLE.out]; have HB5 := Lib.hid (HB3.out.trans (hb5.mono HB3.out.size)); have HR5 := Lib.hid (HR3.out.below' hb5); have HS5 := Lib.hid hs5; have z0 := cell_below hb5 z0; have z1 := cell_below hb5 z1; have z2 := cell_below hb5 z2; clear hb5 hs5))
    all_goals
      have HLE2 := Lib.hid HLS.out.len
      generalize sideL (N : Int) Z F (i : Int) = S at *
      have HWS : Hid (WideNet Z S.length) := Lib.hid (by rw [HLE2.out]; exact HWN.out)
      have HTK : Hid (capS Z (sideB S) = k) := Lib.hid HLS.out.takes
      have c0 := z0
      have c1 := z1
      have c2 := z2
      go_wp2_with (first
        | (go_at_call 15; refine (rtakes_any (N : Int) b ao sa cap sc Z S _ HR5.out HS5.out HWS.out).mono ?_; rintro e w7 ⟨rfl, hb7⟩; rw [HTK.out]; have HB7 := Lib.hid (HB5.out.trans (hb7.mono HB5.out.size)); have HS7 := Lib.hid (HS5.out.below hb7); clear hb7))
      go_ret3
      exact .inl ⟨HE.out, sa, sc, S, k, N, i, j, rfl, rfl, rfl, ⟨hi, hj, hij⟩, rfl, HS7.out, HLS.out, HB7.out⟩
  · have H0 := Lib.hid h0
    have hf1 : (e0 != 0) = true := by simpa using h0
    have hf2 : (e0 == 0) = false := by simpa using h0
    clear h0 he
    go_enter Tryz.func6, Tryz.ntmps6
    go_wp2_with (first
      | (go_at_call 12; refine (rends_is n b ao cap Z s t e0 _ HR.out HZ.out HE.out).mono ?_; rintro e w1 ⟨rfl, hb1⟩; have HB1 := Lib.hid (HB0.out.trans (hb1.mono HB0.out.size)); clear hb1))
    go_ret3
    exact .inr ⟨by rw [HE.out]; exact H0.out, by rw [HE.out]; rfl, HB1.out⟩
end
end Go.Proofs.YtbgnoaijgngifaaGreat
