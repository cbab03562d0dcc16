/- The document's Capacity and Least. -/
import Derived.Test.YtbgnoaijgngifaaJTak
import Derived.Test.YtbgnoaijgngifaaJSide
namespace Go.Proofs.Ytbgnoaijgngifaa
open Go.RowKit
set_option linter.unusedVariables false

theorem far_pos {fr tt : StepT → Nat} {l : List StepT} {x : List Ent} {s0 i : Nat} {P : List StepT} (h : SK fr tt l s0 x i P) {v : Nat} : 0 ≤ farX x v ↔ v ∈ keysX x := by
  constructor
  · intro h0
    rw [far_mem h]
    omega
  · intro hm
    obtain ⟨b, q, hb, rfl⟩ := keysX_mem.1 hm
    rw [farX_some h hb]
    omega
/-- What is wrong with a side of a network. -/
def capE (n : Int) (Z : List ArcT) (S : List Bool) : Int := if checkE n Z = 0 then (if (S.length : Int) = n then 0 else 1) else checkE n Z
def capV (n : Int) (Z : List ArcT) (S : List Bool) : Int := if capE n Z S = 0 then capS Z (sideB S) else 0
section
variable (n : Int) (b : Bool) (ao so : Option Addr) (cap sc : Nat) (Z : List ArcT) (S : List Bool)
set_option maxRecDepth 100000 in
set_option maxHeartbeats 4000000 in
theorem rcapacity_any (w : World) (h : Row encA 4 w ao Z) (hs : Lst encB w so S) (hz : Z.length ≤ maxLen) (hsl : S.length ≤ maxLen) :
    Calls Try.prog 11 #[.agg #[.int .i64 n, .bool b, .slice ao Z.length cap], .slice so S.length sc] w fun e w' => e = .returned (.tuple #[.int .i64 (capV n Z S), .int .i64 (capE n Z S)]) ∧ Below w.heap.size w w' := by
  have hb00 := (Below.refl _ w).alloc (Nat.le_refl _) (.cells #[.int .i64 n, .bool b, .slice ao Z.length cap] 24)
  have HB0 := Lib.hid hb00
  have x0 := cell_new w #[.int .i64 n, .bool b, .slice ao Z.length cap] 24 0
  have x1 := cell_new w #[.int .i64 n, .bool b, .slice ao Z.length cap] 24 1
  have x2 := cell_new w #[.int .i64 n, .bool b, .slice ao Z.length cap] 24 2
  have HN0 := Lib.hid (heap_alloc_new w (.cells #[.int .i64 n, .bool b, .slice ao Z.length cap] 24))
  have HR := Lib.hid (h.below' hb00)
  have HS := Lib.hid (hs.below hb00)
  have HZ := Lib.hid hz
  clear h hs hz hb00
  obtain ⟨c0, hc⟩ : ∃ c0, checkE n Z = c0 := ⟨_, rfl⟩
  have HC := Lib.hid hc
  by_cases h0 : c0 = 0
  · subst h0
    by_cases hl : (S.length : Int) = n
    · have HE : Hid (capE n Z S = 0) := Lib.hid (by unfold capE; rw [if_pos hc, if_pos hl])
      have HV : Hid (capV n Z S = capS Z (sideB S)) := Lib.hid (by unfold capV; rw [if_pos HE.out])
      have hw := wide_of hc
      subst hl
      rw [Int.toNat_natCast] at hw
      have HWN := Lib.hid hw
      clear hc hw
      go_enter Try.func11, Try.ntmps11
      go_wp2_with (first
        | (go_at_call 23; refine (rcheck_is (S.length : Int) b ao cap Z 0 _ HR.out HZ.out HC.out).mono ?_; rintro e w1 ⟨rfl, hb1⟩; have HB1 := Lib.hid (HB0.out.trans (hb1.mono HB0.out.size)); have HR1 := Lib.hid (HR.out.below' hb1); have HS1 := Lib.hid (HS.out.below hb1); have hn1 := kept_box HN0.out hb1; have x0 := cell_whole hn1 0; have x1 := cell_whole hn1 1; have x2 := cell_whole hn1 2; clear hb1 hn1)
        | (go_at_call 24; refine (rtakes_any (S.length : Int) b ao so cap sc Z S _ HR1.out HS1.out HWN.out).mono ?_; rintro e w2 ⟨rfl, hb2⟩; have HB2 := Lib.hid (HB1.out.trans (hb2.mono HB1.out.size)); clear hb2))
      go_ret2
      exact ⟨by rw [HV.out, HE.out]; rfl, HB2.out⟩
    · have HE : Hid (capE n Z S = 1) := Lib.hid (by unfold capE; rw [if_pos hc, if_neg hl])
      have HV : Hid (capV n Z S = 0) := Lib.hid (by unfold capV; rw [if_neg (by rw [HE.out]; decide)])
      have hf1 : ((S.length : Int) != n) = true := by simpa using hl
      have hf2 : ((S.length : Int) == n) = false := by simpa using hl
      clear hc hl
      go_enter Try.func11, Try.ntmps11
      go_wp2_with (first
        | (go_at_call 23; refine (rcheck_is n b ao cap Z 0 _ HR.out HZ.out HC.out).mono ?_; rintro e w1 ⟨rfl, hb1⟩; have HB1 := Lib.hid (HB0.out.trans (hb1.mono HB0.out.size)); have hn1 := kept_box HN0.out hb1; have x0 := cell_whole hn1 0; have x1 := cell_whole hn1 1; have x2 := cell_whole hn1 2; clear hb1 hn1))
      go_ret2
      exact ⟨by rw [HV.out, HE.out]; rfl, HB1.out⟩
  · have HE : Hid (capE n Z S = c0) := Lib.hid (by unfold capE; rw [if_neg (by rw [hc]; exact h0)]; exact hc)
    have HV : Hid (capV n Z S = 0) := Lib.hid (by unfold capV; rw [if_neg (by rw [HE.out]; exact h0)])
    have hf1 : (c0 != 0) = true := by simpa using h0
    have hf2 : (c0 == 0) = false := by simpa using h0
    clear hc h0
    go_enter Try.func11, Try.ntmps11
    go_wp2_with (first
      | (go_at_call 23; refine (rcheck_is n b ao cap Z c0 _ HR.out HZ.out HC.out).mono ?_; rintro e w1 ⟨rfl, hb1⟩; have HB1 := Lib.hid (HB0.out.trans (hb1.mono HB0.out.size)); clear hb1))
    go_ret2
    exact ⟨by rw [HV.out, HE.out]; rfl, HB1.out⟩
end
theorem lev_zero {N i : Nat} {Z : List ArcT} {F : List Int} (hf : flowE (N : Int) Z F = 0) (hi : i < N) : levE (N : Int) Z F (i : Int) = 0 := by
  unfold levE
  rw [if_pos hf, if_pos (by unfold nodeB; simp; omega)]
theorem side_found {N i : Nat} {Z : List ArcT} {F : List Int} (hl : levE (N : Int) Z F (i : Int) = 0) (hW : WideNet Z N) (hF : Flow Z F) (hi : i < N) : (sideL (N : Int) Z F (i : Int)).length = N ∧ sideB (sideL (N : Int) Z F (i : Int)) = foundB (seekN Z F N i) := by
  have hsk := seek_facts hW hF hi
  have e : levL (N : Int) Z F (i : Int) = farsL (seekN Z F N i) N := by
    unfold levL seekF seekN
    rw [if_pos hl, Int.toNat_natCast, Int.toNat_natCast]
  have hlen : (sideL (N : Int) Z F (i : Int)).length = N := by
    unfold sideL
    rw [e, List.length_map, farsL_len]
  refine ⟨hlen, funext fun v => ?_⟩
  unfold sideB
  by_cases hv : v < N
  · have h1 : (farsL (seekN Z F N i) N)[v]? = some (farX (seekN Z F N i) v) := by unfold farsL; simp [hv]
    unfold sideL foundB
    rw [e, List.getD_eq_getElem?_getD, List.getElem?_map, h1]
    show decide (0 ≤ farX (seekN Z F N i) v) = decide (v ∈ keysX (seekN Z F N i))
    exact decide_eq_decide.2 (far_pos hsk)
  · rw [List.getD_eq_getElem?_getD, List.getElem?_eq_none (by omega)]
    have hn : v ∉ keysX (seekN Z F N i) := fun hm => hv (keys_lt hsk hi (fun y hy => (wide_step hW hF hy).1.1) v hm)
    unfold foundB
    rw [decide_eq_false hn]
    rfl
/-- The least side of the least capacity. -/
structure LeastS (Z : List ArcT) (N s t : Nat) (S : List Bool) (k : Int) : Prop where
  len : S.length = N
  ends : SideST (sideB S) s t
  takes : capS Z (sideB S) = k
  most : IsMost Z N s t k
  least : ∀ T, SideST T s t → capS Z T = k → ∀ v, sideB S v = true → T v = true
theorem least_of {N i j : Nat} {Z : List ArcT} {F : List Int} {k : Int} (hl : levE (N : Int) Z F (i : Int) = 0) (hW : WideNet Z N) (hi : i < N) (hv : FlowST Z N i j F k) (hn : j ∉ keysX (seekN Z F N i)) : LeastS Z N i j (sideL (N : Int) Z F (i : Int)) k := by
  obtain ⟨h1, h2⟩ := side_found hl hW hv.1 hi
  obtain ⟨a1, a2, a3, a4⟩ := best_side hW.lt hi (fun y => by
    rw [stepsK_mem (Nat.le_refl _)]
    constructor
    · rintro ⟨h1, _, h3⟩; exact ⟨h1, h3⟩
    · rintro ⟨h1, h3⟩; exact ⟨h1, h1.2, h3⟩) hv (seek_facts hW hv.1 hi) hn
  exact ⟨h1, by rw [h2]; exact a1, by rw [h2]; exact a2, a3, by rw [h2]; exact a4⟩
theorem LeastS.same {N s t : Nat} {Z : List ArcT} {S T : List Bool} {k m : Int} (hZ : ∀ a ∈ Z, frN a < N ∧ toN a < N) (hs : s < N) (h : LeastS Z N s t S k) (g : LeastS Z N s t T m) : S = T ∧ k = m := by
  have e := isMost_unique hZ hs h.most g.most
  subst e
  refine ⟨List.ext_getElem (by rw [h.len, g.len]) fun v h1 h2 => ?_, rfl⟩
  have x1 := h.least _ g.ends g.takes v
  have x2 := g.least _ h.ends h.takes v
  unfold sideB at x1 x2
  rw [List.getD_eq_getElem?_getD, List.getD_eq_getElem?_getD, List.getElem?_eq_getElem h1, List.getElem?_eq_getElem h2] at x1 x2
  simp only [Option.getD_some] at x1 x2
  cases hS : S[v] <;> cases hT : T[v] <;> simp_all
/-- What Least answers. -/
def LeastRes (n : Int) (Z : List ArcT) (s t : Int) (w : World) (e : Ending) (w' : World) : Prop :=
  (endsE n Z s t = 0 ∧ ∃ a c S k N i j, n = ((N : Nat) : Int) ∧ s = ((i : Nat) : Int) ∧ t = ((j : Nat) : Int) ∧ (i < N ∧ j < N ∧ i ≠ j) ∧ e = .returned (.tuple #[.slice a S.length c, .int .i64 k, .int .i64 0]) ∧ Lst encB w' a S ∧ LeastS Z N i j S k ∧ Below w.heap.size w w') ∨
  (endsE n Z s t ≠ 0 ∧ e = .returned (.tuple #[.slice none 0 0, .int .i64 0, .int .i64 (endsE n Z s t)]) ∧ Below w.heap.size w w')
section
variable (n : Int) (b : Bool) (ao : Option Addr) (cap : Nat) (Z : List ArcT)
end
end Go.Proofs.Ytbgnoaijgngifaa
