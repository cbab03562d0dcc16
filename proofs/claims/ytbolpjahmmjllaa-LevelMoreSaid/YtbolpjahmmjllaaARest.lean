/- What Hops, Fastest and Order of package adj tell of what they refuse. -/
import Derived.Test.YtbolpjahmmjllaaAOrd
namespace Go.Proofs.Ytbolpjahmmjllaa
open Go.RowKit
set_option linter.unusedVariables false

/-- What is wrong with a network, or with a node of it. -/
def hopE (n : Int) (Z : List ArcT) (s : Int) : Int := if checkE n Z = 0 then (if 0 ≤ s ∧ s < n then 0 else 1) else checkE n Z
theorem hopE_ok {n : Int} {Z : List ArcT} {s : Int} (h : hopE n Z s = 0) : checkE n Z = 0 ∧ ∃ k : Nat, s = (k : Int) ∧ k < n.toNat := by
  unfold hopE at h
  split at h
  · next h1 =>
    split at h
    · next h2 => exact ⟨h1, s.toNat, by omega, by omega⟩
    · cases h
  · next h1 => exact absurd h h1
/-- What a call tells that tells numbers: those, or what is wrong. -/
def ListsV (d : List Int) (e0 : Int) (w : World) (e : Ending) (w' : World) : Prop :=
  ∃ a c, e = .returned (.tuple #[.slice a d.length c, .int .i64 e0]) ∧ Lst encI w' a d ∧ Below w.heap.size w w'
def hopsL (n : Int) (Z : List ArcT) (s : Int) : List Int := if hopE n Z s = 0 then hopK Z n.toNat s.toNat n.toNat else []
def fastL (n : Int) (Z : List ArcT) (s : Int) : List Int := if hopE n Z s = 0 then fastK tm Z n.toNat s.toNat n.toNat else []
/-- What Order tells. -/
def OrdV (o : Option (List Nat)) (e0 : Int) (w : World) (e : Ending) (w' : World) : Prop :=
  ∃ a c, e = .returned (.tuple #[.slice a (o.getD []).length c, .bool o.isSome, .int .i64 e0]) ∧ Lst encI w' a (natI (o.getD [])) ∧ Below w.heap.size w w'
def orderL (n : Int) (Z : List ArcT) : Option (List Nat) := if checkE n Z = 0 then orderK Z n.toNat n.toNat else none
/-- What Out and In tell. -/
def GroupsV (G : List (List Nat)) (e0 : Int) (w : World) (e : Ending) (w' : World) : Prop :=
  ∃ a c, e = .returned (.tuple #[.slice a G.length c, .int .i64 e0]) ∧ GRow w' a G ∧ Below w.heap.size w w'
def listsL (f : ArcT → Nat) (n : Int) (Z : List ArcT) : List (List Nat) := if checkE n Z = 0 then lists f Z n.toNat else []
theorem out_any (n : Int) (b : Bool) (ao : Option Addr) (cap : Nat) (Z : List ArcT) (w : World) (h : Row encA 4 w ao Z) (hm : Z.length ≤ maxLen) :
    Calls Try.prog 35 #[.agg #[.int .i64 n, .bool b, .slice ao Z.length cap]] w (GroupsV (listsL frN n Z) (checkE n Z) w) := by
  by_cases h0 : checkE n Z = 0
  · unfold listsL
    rw [if_pos h0, h0]
    refine (out_ok n b ao cap Z w h h0).mono ?_
    rintro e w' ⟨g, c, rfl, hg, hb⟩
    exact ⟨_, c, by rw [lists_len], hg, hb⟩
  · unfold listsL
    rw [if_neg h0]
    refine (out_no n b ao cap Z w _ h hm rfl h0).mono ?_
    rintro e w' ⟨rfl, hb⟩
    exact ⟨none, 0, rfl, GRow.nil _ _, hb⟩
theorem intol_any (n : Int) (b : Bool) (ao : Option Addr) (cap : Nat) (Z : List ArcT) (w : World) (h : Row encA 4 w ao Z) (hm : Z.length ≤ maxLen) :
    Calls Try.prog 36 #[.agg #[.int .i64 n, .bool b, .slice ao Z.length cap]] w (GroupsV (listsL toN n Z) (checkE n Z) w) := by
  by_cases h0 : checkE n Z = 0
  · unfold listsL
    rw [if_pos h0, h0]
    refine (into_ok n b ao cap Z w h h0).mono ?_
    rintro e w' ⟨g, c, rfl, hg, hb⟩
    exact ⟨_, c, by rw [lists_len], hg, hb⟩
  · unfold listsL
    rw [if_neg h0]
    refine (into_no n b ao cap Z w _ h hm rfl h0).mono ?_
    rintro e w' ⟨rfl, hb⟩
    exact ⟨none, 0, rfl, GRow.nil _ _, hb⟩
end Go.Proofs.Ytbolpjahmmjllaa
