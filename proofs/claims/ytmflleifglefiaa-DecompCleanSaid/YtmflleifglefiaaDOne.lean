/- What Split and Clean tell, in one form: what is refused has no chains. -/
import Derived.Test.YtmflleifglefiaaDAwk
namespace Go.Proofs.Ytmflleifglefiaa
open Go.RowKit
set_option linter.unusedVariables false

def chainsE (n : Int) (Z : List ArcT) (s t : Int) (F : List Int) : List Part := if splitE n Z s t F = 0 then chainsF Z n.toNat s.toNat t.toNat F else []
def cycsE (n : Int) (Z : List ArcT) (s t : Int) (F : List Int) : List Part := if splitE n Z s t F = 0 then cycsF Z n.toNat F else []
def cleanE (n : Int) (Z : List ArcT) (s t : Int) (F : List Int) : List Int := if splitE n Z s t F = 0 then sumP Z.length (chainsE n Z s t F) else []
theorem splitE_val {n : Int} {Z : List ArcT} {s t : Int} {F : List Int} (h : splitE n Z s t F = 0) : valE n Z s t F = 0 ∧ 0 ≤ valK n Z s t F := by
  unfold splitE at h
  split at h
  · next h1 =>
    refine ⟨h1, ?_⟩
    by_cases hk : valK n Z s t F < 0
    · rw [if_pos hk] at h; cases h
    · omega
  · next h1 => exact absurd h h1
/-- What is known of a flow that is split. -/
structure SplitIs (N i j : Nat) (Z : List ArcT) (F : List Int) (k : Int) : Prop where
  ends : i < N ∧ j < N ∧ i ≠ j
  right : checkE (N : Int) Z = 0
  st : FlowST Z N i j F k
  pos : 0 ≤ k
  rest : FlowST Z N i j (restF Z N F) k
  free : NoCyc Z N (restF Z N F)
  sum : ∀ v, atI F v = atI (restF Z N F) v + partAt v (cycsF Z N F)
  cyc : ∀ p ∈ cycsF Z N F, ∃ u, PartIs Z u u p
  chn : ∀ p ∈ chainsF Z N i j F, PartIs Z i j p
  at_ : ∀ v, atI (restF Z N F) v = partAt v (chainsF Z N i j F)
  val : partSum (chainsF Z N i j F) = k
  few : (cycsF Z N F).length + (chainsF Z N i j F).length ≤ Z.length
theorem split_is {n : Int} {Z : List ArcT} {s t : Int} {F : List Int} (h : splitE n Z s t F = 0) : ∃ N i j : Nat, n = (N : Int) ∧ s = (i : Int) ∧ t = (j : Int) ∧ SplitIs N i j Z F (valK n Z s t F) := by
  obtain ⟨hv, hk⟩ := splitE_val h
  obtain ⟨N, i, j, rfl, rfl, rfl, hi, hj, hij, hst⟩ := st_of hv
  have hck := (endsE_ok (valE_ok hv).1).1
  obtain ⟨hE1, hZ1, hC1, hzl, hN50⟩ := netD (b := true) (right_iff.1 hck)
  rw [Int.toNat_natCast] at hZ1 hN50
  have hpl : posK F F.length ≤ Z.length := by have := posK_le F F.length; rw [← hst.1.1]; exact this
  obtain ⟨i1, i2, i3, i4, i5, i6, i7⟩ := cycs_props hZ1 Z.length F hst.1 hpl
  have hg : FlowST Z N i j (restF Z N F) (valK (N : Int) Z (i : Int) (j : Int) F) := ⟨i1, fun v hv h1 h2 => by show bal Z (cycsK Z N Z.length F).2 v = 0; rw [i2]; exact hst.2.1 v hv h1 h2, by show bal Z (cycsK Z N Z.length F).2 i = _; rw [i2]; exact hst.2.2⟩
  have hpr : posK (restF Z N F) (restF Z N F).length ≤ Z.length := by have := posK_le (restF Z N F) (restF Z N F).length; rw [hg.1.1] at this ⊢; exact this
  obtain ⟨j1, j2, j3, j4, j5⟩ := chains_props hZ1 hi hj hij Z.length _ _ hg i3 hk hpr
  refine ⟨N, i, j, rfl, rfl, rfl, ⟨hi, hj, hij⟩, hck, hst, hk, hg, i3, i6, i7, j5, j4, ?_, ?_⟩
  · exact j2
  · have h1 : (cycsF Z N F).length + posK (restF Z N F) F.length ≤ posK F F.length := i5
    have h2 : (chainsF Z N i j F).length ≤ posK (restF Z N F) (restF Z N F).length := j3
    rw [hg.1.1] at h2
    rw [hst.1.1] at h1
    have h3 := posK_le F Z.length
    omega
theorem part_short {Z : List ArcT} {u v : Nat} {p : Part} (h : PartIs Z u v p) : p.1.length ≤ Z.length := by
  have h1 := nodup_le (N := Z.length) (toNat_nodup (trail_isArc h.1) (part_once h)) (fun v hv => by
    obtain ⟨x, hx, rfl⟩ := List.mem_map.1 hv
    obtain ⟨p, hp, hpl⟩ := isArc_nat (trail_isArc h.1 x hx)
    rw [hp, Int.toNat_natCast]
    exact hpl)
  rwa [List.length_map] at h1
/-- Rows of parts that are few and short. -/
def ShortP (P : List Part) : Prop := P.length ≤ 200 ∧ ∀ p ∈ P, p.1.length ≤ 200
theorem shortP_nil : ShortP [] := ⟨by simp, fun p hp => by cases hp⟩
theorem split_short (n : Int) (Z : List ArcT) (s t : Int) (F : List Int) : ShortP (chainsE n Z s t F) ∧ ShortP (cycsE n Z s t F) := by
  unfold chainsE cycsE
  by_cases h : splitE n Z s t F = 0
  · rw [if_pos h, if_pos h]
    obtain ⟨N, i, j, rfl, rfl, rfl, hS⟩ := split_is h
    have hz : Z.length ≤ 200 := (right_iff (b := true)).1 hS.right |>.2.1
    have hf := hS.few
    rw [Int.toNat_natCast, Int.toNat_natCast, Int.toNat_natCast]
    exact ⟨⟨by omega, fun p hp => Nat.le_trans (part_short (hS.chn p hp)) hz⟩, ⟨by omega, fun p hp => by obtain ⟨u, hu⟩ := hS.cyc p hp; exact Nat.le_trans (part_short hu) hz⟩⟩
  · rw [if_neg h, if_neg h]
    exact ⟨shortP_nil, shortP_nil⟩
theorem cleanE_len {n : Int} {Z : List ArcT} {s t : Int} {F : List Int} (h : splitE n Z s t F = 0) : (cleanE n Z s t F).length = Z.length := by unfold cleanE; rw [if_pos h, sumP_len]
theorem cleanE_bd (n : Int) (Z : List ArcT) (s t : Int) (F : List Int) : (cleanE n Z s t F).length ≤ 200 := by
  by_cases h : splitE n Z s t F = 0
  · rw [cleanE_len h]
    obtain ⟨N, i, j, rfl, rfl, rfl, hS⟩ := split_is h
    exact (right_iff (b := true)).1 hS.right |>.2.1
  · unfold cleanE; rw [if_neg h]; simp
theorem chR_nil (w : World) (ca : Option Addr) : ChR w ca [] [] := ⟨Row.nil _ _, fun x hx => (by cases hx), rfl⟩
section
variable (n : Int) (b : Bool) (ao fo : Option Addr) (cap fc zl fl : Nat) (Z : List ArcT) (F : List Int)
theorem dsplit_one (s t : Int) (w : World) (hzl : Z.length = zl) (hfl : F.length = fl) (h : Row encA 4 w ao Z) (hf : Lst encI w fo F) (hz : zl ≤ maxLen) (hfm : fl ≤ maxLen) :
    Calls Try.prog 9 #[.agg #[.int .i64 n, .bool b, .slice ao zl cap], .int .i64 s, .int .i64 t, .slice fo fl fc] w fun e w' =>
      ∃ (ca ya : Option Addr) (cc yc : Nat) (X Y : List ChT), e = .returned (.tuple #[.slice ca X.length cc, .slice ya Y.length yc, .int .i64 (splitE n Z s t F)]) ∧ ChR w' ca X (chainsE n Z s t F) ∧ ChR w' ya Y (cycsE n Z s t F) ∧ Below w.heap.size w w' := by
  subst hzl
  subst hfl
  refine (dsplit_any n b ao fo cap fc Z F s t w h hf hz hfm).mono ?_
  rintro e w' (⟨h0, N, i, j, ca, ya, cc, yc, X, Y, rfl, rfl, rfl, hij, rfl, hcr, hcy, hb⟩ | ⟨h0, rfl, hb⟩)
  · refine ⟨ca, ya, cc, yc, X, Y, by rw [h0], ?_, ?_, hb⟩
    · unfold chainsE; rw [if_pos h0]; exact hcr
    · unfold cycsE; rw [if_pos h0]; exact hcy
  · refine ⟨none, none, 0, 0, [], [], rfl, ?_, ?_, hb⟩
    · unfold chainsE; rw [if_neg h0]; exact chR_nil _ _
    · unfold cycsE; rw [if_neg h0]; exact chR_nil _ _
theorem rsplit13_one (s t : Int) (w : World) (hzl : Z.length = zl) (hfl : F.length = fl) (h : Row encA 4 w ao Z) (hf : Lst encI w fo F) (hnil : fo = none → fc = 0) (hz : zl ≤ maxLen) (hfm : fl ≤ maxLen) :
    Calls Try.prog 10 #[.agg #[.int .i64 n, .bool b, .slice ao zl cap], .int .i64 s, .int .i64 t, .slice fo fl fc] w fun e w' =>
      ∃ (ca ya : Option Addr) (cc yc : Nat) (X Y : List ChT), e = .returned (.tuple #[.agg #[.slice ca X.length cc, .slice ya Y.length yc], .int .i64 (splitE n Z s t F)]) ∧ ChR w' ca X (chainsE n Z s t F) ∧ ChR w' ya Y (cycsE n Z s t F) ∧ Below w.heap.size w w' := by
  subst hzl
  subst hfl
  refine (rsplit13_any n b ao fo cap fc Z F s t w h hf hnil hz hfm).mono ?_
  rintro e w' (⟨h0, N, i, j, ca, ya, cc, yc, X, Y, rfl, rfl, rfl, hij, rfl, hcr, hcy, hb⟩ | ⟨h0, rfl, hb⟩)
  · refine ⟨ca, ya, cc, yc, X, Y, by rw [h0], ?_, ?_, hb⟩
    · unfold chainsE; rw [if_pos h0]; exact hcr
    · unfold cycsE; rw [if_pos h0]; exact hcy
  · refine ⟨none, none, 0, 0, [], [], rfl, ?_, ?_, hb⟩
    · unfold chainsE; rw [if_neg h0]; exact chR_nil _ _
    · unfold cycsE; rw [if_neg h0]; exact chR_nil _ _
theorem clean_one {s t : Int} {w w' : World} {e : Ending} (h : CleanRes n Z s t F w e w') : ∃ a c, e = .returned (.tuple #[.slice a (cleanE n Z s t F).length c, .int .i64 (splitE n Z s t F)]) ∧ Lst encI w' a (cleanE n Z s t F) ∧ (a = none → c = 0) ∧ Below w.heap.size w w' := by
  rcases h with ⟨h0, N, i, j, v, rfl, rfl, rfl, rfl, ho, hb⟩ | ⟨h0, rfl, hb⟩
  · have e1 : cleanE (N : Int) Z (i : Int) (j : Int) F = sumP Z.length (chainsF Z N i j F) := by unfold cleanE chainsE; rw [if_pos h0, if_pos h0]; rfl
    obtain ⟨a, c, rfl, hl⟩ := ho.lst
    refine ⟨a, c, by rw [h0, e1], by rw [e1]; exact hl, own_nilD ho, hb⟩
  · have e1 : cleanE n Z s t F = [] := by unfold cleanE; rw [if_neg h0]
    exact ⟨none, 0, by rw [e1]; rfl, by rw [e1]; exact Lst.nil _ _, fun _ => rfl, hb⟩
theorem dclean_one (s t : Int) (w : World) (hzl : Z.length = zl) (hfl : F.length = fl) (h : Row encA 4 w ao Z) (hf : Lst encI w fo F) (hz : zl ≤ maxLen) (hfm : fl ≤ maxLen) :
    Calls Try.prog 11 #[.agg #[.int .i64 n, .bool b, .slice ao zl cap], .int .i64 s, .int .i64 t, .slice fo fl fc] w fun e w' => ∃ a c, e = .returned (.tuple #[.slice a (cleanE n Z s t F).length c, .int .i64 (splitE n Z s t F)]) ∧ Lst encI w' a (cleanE n Z s t F) ∧ (a = none → c = 0) ∧ Below w.heap.size w w' := by
  subst hzl
  subst hfl
  exact (dclean_any n b ao fo cap fc Z F s t w h hf hz hfm).mono fun e w' q => clean_one n Z F q
theorem rclean13_one (s t : Int) (w : World) (hzl : Z.length = zl) (hfl : F.length = fl) (h : Row encA 4 w ao Z) (hf : Lst encI w fo F) (hnil : fo = none → fc = 0) (hz : zl ≤ maxLen) (hfm : fl ≤ maxLen) :
    Calls Try.prog 12 #[.agg #[.int .i64 n, .bool b, .slice ao zl cap], .int .i64 s, .int .i64 t, .slice fo fl fc] w fun e w' => ∃ a c, e = .returned (.tuple #[.slice a (cleanE n Z s t F).length c, .int .i64 (splitE n Z s t F)]) ∧ Lst encI w' a (cleanE n Z s t F) ∧ (a = none → c = 0) ∧ Below w.heap.size w w' := by
  subst hzl
  subst hfl
  exact (rclean13_any n b ao fo cap fc Z F s t w h hf hnil hz hfm).mono fun e w' q => clean_one n Z F q
end
/-- Two rows of the same parts are the same. -/
theorem rsame_parts (X Y : List ChT) (xl yl : Nat) (ca cb : Option Addr) (cc cd : Nat) (P : List Part) (w : World) (hxl : X.length = xl) (hyl : Y.length = yl) (hX : ChR w ca X P) (hY : ChR w cb Y P) (hP : ShortP P) :
    Calls Try.prog 14 #[.slice ca xl cc, .slice cb yl cd] w fun e w' => e = .returned (.bool true) ∧ Below w.heap.size w w' := by
  subst hxl
  subst hyl
  have e1 : X.length = P.length := by have := congrArg List.length hX.2.2; rwa [List.length_map, List.length_map] at this
  have e2 : Y.length = P.length := by have := congrArg List.length hY.2.2; rwa [List.length_map, List.length_map] at this
  have hc := rsame13_any X Y ca cb cc cd w hX.1 hY.1 (hX.short (M := 200000) (fun p hp => Nat.le_trans (hP.2 p hp) (by decide))) (hY.short (M := 200000) (fun p hp => Nat.le_trans (hP.2 p hp) (by decide))) (by have := hP.1; omega) (by have := hP.1; omega)
  rw [decide_eq_true (show sayL X = sayL Y from hX.2.2.trans hY.2.2.symm)] at hc
  exact hc
end Go.Proofs.Ytmflleifglefiaa
