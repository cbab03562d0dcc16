/- What Hops, Fastest and Order of package adj tell of what they refuse. -/
import Derived.Test.YtfnafdjcncgcnaaAOrd
namespace Go.Proofs.Ytfnafdjcncgcnaa
open Go.RowKit
set_option linter.unusedVariables false

/-- What is wrong with a network, or with a node of it. -/
def hopE (n : Int) (Z : List ArcT) (s : Int) : Int := if checkE n Z = 0 then (if 0 ≤ s ∧ s < n then 0 else 1) else checkE n Z
theorem hopE_ok {n : Int} {Z : List ArcT} {s : Int} (h : hopE n Z s = 0) : checkE n Z = 0 ∧ ∃ k : Nat, s = (k : Int) ∧ k < n.toNat := by
  unfold hopE at h
  split at h
  · next h1 =>
    split at h
    · next h2 => exact ⟨h1, s.toNat, by omega, by omega⟩
    · cases h
  · next h1 => exact absurd h h1
theorem start_bad (n : Int) (b : Bool) (ao : Option Addr) (cap : Nat) (Z : List ArcT) (s : Int) (w : World) (e0 : Int) (h : Row encA 4 w ao Z) (hm : Z.length ≤ maxLen) (he : hopE n Z s = e0) (h0 : e0 ≠ 0) :
    Calls Try.prog 28 #[.agg #[.int .i64 n, .bool b, .slice ao Z.length cap], .int .i64 s] w fun e w' => e = .returned (.tuple #[.slice none 0 0, .slice none 0 0, .int .i64 e0]) ∧ Below w.heap.size w w' := by
  unfold hopE at he
  split at he
  · next h1 =>
    split at he
    · exact absurd he.symm h0
    · next h2 => subst he; exact start_arg n b ao cap Z s w h h1 (by omega)
  · exact start_no n b ao cap Z s w e0 h hm he h0
theorem hops_bad (n : Int) (b : Bool) (ao : Option Addr) (cap : Nat) (Z : List ArcT) (s : Int) (w : World) (e0 : Int) (h : Row encA 4 w ao Z) (hm : Z.length ≤ maxLen) (he : hopE n Z s = e0) (h0 : e0 ≠ 0) :
    Calls Try.prog 16 #[.agg #[.int .i64 n, .bool b, .slice ao Z.length cap], .int .i64 s] w fun e w' => e = .returned (.tuple #[.slice none 0 0, .int .i64 e0]) ∧ Below w.heap.size w w' := by
  have HE := Lib.hid he
  have H0 := Lib.hid h0
  have HM := Lib.hid hm
  have HR := Lib.hid (row_alloc h (.cells #[.int .i64 n, .bool b, .slice ao Z.length cap] 24))
  have hf2 : (e0 != 0) = true := by simpa using h0
  have hf1 : (e0 == 0) = false := by simpa using h0
  clear h he h0 hm
  have HB0 : Hid (Below w.heap.size w (w.alloc (.cells #[.int .i64 n, .bool b, .slice ao Z.length cap] 24))) := Lib.hid ((Below.refl _ w).alloc (Nat.le_refl _) _)
  go_enter Try.func16, Try.ntmps16
  go_wp2_with (go_at_call 28; refine (start_bad n b ao cap Z s _ e0 HR.out HM.out HE.out H0.out).mono ?_; rintro e w1 ⟨rfl, hb1⟩; have HB1 := Lib.hid (HB0.out.trans (hb1.mono (by simp))); clear hb1)
  go_ret2
  exact ⟨rfl, HB1.out⟩
theorem fastest_bad (n : Int) (b : Bool) (ao : Option Addr) (cap : Nat) (Z : List ArcT) (s : Int) (w : World) (e0 : Int) (h : Row encA 4 w ao Z) (hm : Z.length ≤ maxLen) (he : hopE n Z s = e0) (h0 : e0 ≠ 0) :
    Calls Try.prog 22 #[.agg #[.int .i64 n, .bool b, .slice ao Z.length cap], .int .i64 s] w fun e w' => e = .returned (.tuple #[.slice none 0 0, .int .i64 e0]) ∧ Below w.heap.size w w' := by
  have HE := Lib.hid he
  have H0 := Lib.hid h0
  have HM := Lib.hid hm
  have HR := Lib.hid (row_alloc h (.cells #[.int .i64 n, .bool b, .slice ao Z.length cap] 24))
  have hf2 : (e0 != 0) = true := by simpa using h0
  have hf1 : (e0 == 0) = false := by simpa using h0
  clear h he h0 hm
  have HB0 : Hid (Below w.heap.size w (w.alloc (.cells #[.int .i64 n, .bool b, .slice ao Z.length cap] 24))) := Lib.hid ((Below.refl _ w).alloc (Nat.le_refl _) _)
  go_enter Try.func22, Try.ntmps22
  go_wp2_with (go_at_call 28; refine (start_bad n b ao cap Z s _ e0 HR.out HM.out HE.out H0.out).mono ?_; rintro e w1 ⟨rfl, hb1⟩; have HB1 := Lib.hid (HB0.out.trans (hb1.mono (by simp))); clear hb1)
  go_ret2
  exact ⟨rfl, HB1.out⟩
theorem order_no (n : Int) (b : Bool) (ao : Option Addr) (cap : Nat) (Z : List ArcT) (w : World) (e0 : Int) (h : Row encA 4 w ao Z) (hm : Z.length ≤ maxLen) (he : checkE n Z = e0) (h0 : e0 ≠ 0) :
    Calls Try.prog 20 #[.agg #[.int .i64 n, .bool b, .slice ao Z.length cap]] w fun e w' => e = .returned (.tuple #[.slice none 0 0, .bool false, .int .i64 e0]) ∧ Below w.heap.size w w' := by
  have HE := Lib.hid he
  have H0 := Lib.hid h0
  have HM := Lib.hid hm
  have HR := Lib.hid (row_alloc h (.cells #[.int .i64 n, .bool b, .slice ao Z.length cap] 24))
  have hf2 : (e0 != 0) = true := by simpa using h0
  have hf1 : (e0 == 0) = false := by simpa using h0
  clear h he h0 hm
  have HB0 : Hid (Below w.heap.size w (w.alloc (.cells #[.int .i64 n, .bool b, .slice ao Z.length cap] 24))) := Lib.hid ((Below.refl _ w).alloc (Nat.le_refl _) _)
  go_enter Try.func20, Try.ntmps20
  go_wp2_with (go_at_call 10; refine (out_no n b ao cap Z _ e0 HR.out HM.out HE.out H0.out).mono ?_; rintro e w1 ⟨rfl, hb1⟩; have HB1 := Lib.hid (HB0.out.trans (hb1.mono (by simp))); clear hb1)
  exact bodyPost_ret (v := .tuple #[.slice none 0 0, .bool false, .int .i64 e0]) (by simp [results, Try.results20, go_sem]) rfl ⟨rfl, HB1.out⟩
/-- What a call tells that tells numbers: those, or what is wrong. -/
def ListsV (d : List Int) (e0 : Int) (w : World) (e : Ending) (w' : World) : Prop :=
  ∃ a c, e = .returned (.tuple #[.slice a d.length c, .int .i64 e0]) ∧ Lst encI w' a d ∧ Below w.heap.size w w'
def hopsL (n : Int) (Z : List ArcT) (s : Int) : List Int := if hopE n Z s = 0 then hopK Z n.toNat s.toNat n.toNat else []
def fastL (n : Int) (Z : List ArcT) (s : Int) : List Int := if hopE n Z s = 0 then fastK tm Z n.toNat s.toNat n.toNat else []
theorem hops_any (n : Int) (b : Bool) (ao : Option Addr) (cap : Nat) (Z : List ArcT) (s : Int) (w : World) (h : Row encA 4 w ao Z) (hm : Z.length ≤ maxLen) :
    Calls Try.prog 16 #[.agg #[.int .i64 n, .bool b, .slice ao Z.length cap], .int .i64 s] w (ListsV (hopsL n Z s) (hopE n Z s) w) := by
  by_cases h0 : hopE n Z s = 0
  · unfold hopsL
    rw [if_pos h0, h0]
    obtain ⟨hc, k, rfl, hk⟩ := hopE_ok h0
    rw [Int.toNat_natCast]
    exact hops_ok n b ao cap Z k w h hc hk
  · unfold hopsL
    rw [if_neg h0]
    refine (hops_bad n b ao cap Z s w _ h hm rfl h0).mono ?_
    rintro e w' ⟨rfl, hb⟩
    exact ⟨none, 0, rfl, Lst.nil _ _, hb⟩
theorem fastest_any (n : Int) (b : Bool) (ao : Option Addr) (cap : Nat) (Z : List ArcT) (s : Int) (w : World) (h : Row encA 4 w ao Z) (hm : Z.length ≤ maxLen) :
    Calls Try.prog 22 #[.agg #[.int .i64 n, .bool b, .slice ao Z.length cap], .int .i64 s] w (ListsV (fastL n Z s) (hopE n Z s) w) := by
  by_cases h0 : hopE n Z s = 0
  · unfold fastL
    rw [if_pos h0, h0]
    obtain ⟨hc, k, rfl, hk⟩ := hopE_ok h0
    rw [Int.toNat_natCast]
    exact fastest_ok n b ao cap Z k w h hc hk
  · unfold fastL
    rw [if_neg h0]
    refine (fastest_bad n b ao cap Z s w _ h hm rfl h0).mono ?_
    rintro e w' ⟨rfl, hb⟩
    exact ⟨none, 0, rfl, Lst.nil _ _, hb⟩
/-- What Order tells. -/
def OrdV (o : Option (List Nat)) (e0 : Int) (w : World) (e : Ending) (w' : World) : Prop :=
  ∃ a c, e = .returned (.tuple #[.slice a (o.getD []).length c, .bool o.isSome, .int .i64 e0]) ∧ Lst encI w' a (natI (o.getD [])) ∧ Below w.heap.size w w'
def orderL (n : Int) (Z : List ArcT) : Option (List Nat) := if checkE n Z = 0 then orderK Z n.toNat n.toNat else none
theorem order_any (n : Int) (b : Bool) (ao : Option Addr) (cap : Nat) (Z : List ArcT) (w : World) (h : Row encA 4 w ao Z) (hm : Z.length ≤ maxLen) :
    Calls Try.prog 20 #[.agg #[.int .i64 n, .bool b, .slice ao Z.length cap]] w (OrdV (orderL n Z) (checkE n Z) w) := by
  by_cases h0 : checkE n Z = 0
  · unfold orderL
    rw [if_pos h0, h0]
    exact order_ok n b ao cap Z w h h0
  · unfold orderL
    rw [if_neg h0]
    refine (order_no n b ao cap Z w _ h hm rfl h0).mono ?_
    rintro e w' ⟨rfl, hb⟩
    exact ⟨none, 0, rfl, Lst.nil _ _, hb⟩
/-- What Out and In tell. -/
def GroupsV (G : List (List Nat)) (e0 : Int) (w : World) (e : Ending) (w' : World) : Prop :=
  ∃ a c, e = .returned (.tuple #[.slice a G.length c, .int .i64 e0]) ∧ GRow w' a G ∧ Below w.heap.size w w'
def listsL (f : ArcT → Nat) (n : Int) (Z : List ArcT) : List (List Nat) := if checkE n Z = 0 then lists f Z n.toNat else []
theorem out_any (n : Int) (b : Bool) (ao : Option Addr) (cap : Nat) (Z : List ArcT) (w : World) (h : Row encA 4 w ao Z) (hm : Z.length ≤ maxLen) :
    Calls Try.prog 10 #[.agg #[.int .i64 n, .bool b, .slice ao Z.length cap]] w (GroupsV (listsL frN n Z) (checkE n Z) w) := by
  by_cases h0 : checkE n Z = 0
  · unfold listsL
    rw [if_pos h0, h0]
    refine (out_ok n b ao cap Z w h h0).mono ?_
    rintro e w' ⟨g, c, rfl, hg, hb⟩
    exact ⟨_, c, by rw [lists_len], hg, hb⟩
  · unfold listsL
    rw [if_neg h0]
    refine (out_no n b ao cap Z w _ h hm rfl h0).mono ?_
    rintro e w' ⟨rfl, hb⟩
    exact ⟨none, 0, rfl, GRow.nil _ _, hb⟩
theorem intol_any (n : Int) (b : Bool) (ao : Option Addr) (cap : Nat) (Z : List ArcT) (w : World) (h : Row encA 4 w ao Z) (hm : Z.length ≤ maxLen) :
    Calls Try.prog 12 #[.agg #[.int .i64 n, .bool b, .slice ao Z.length cap]] w (GroupsV (listsL toN n Z) (checkE n Z) w) := by
  by_cases h0 : checkE n Z = 0
  · unfold listsL
    rw [if_pos h0, h0]
    refine (into_ok n b ao cap Z w h h0).mono ?_
    rintro e w' ⟨g, c, rfl, hg, hb⟩
    exact ⟨_, c, by rw [lists_len], hg, hb⟩
  · unfold listsL
    rw [if_neg h0]
    refine (into_no n b ao cap Z w _ h hm rfl h0).mono ?_
    rintro e w' ⟨rfl, hb⟩
    exact ⟨none, 0, rfl, GRow.nil _ _, hb⟩
end Go.Proofs.Ytfnafdjcncgcnaa
