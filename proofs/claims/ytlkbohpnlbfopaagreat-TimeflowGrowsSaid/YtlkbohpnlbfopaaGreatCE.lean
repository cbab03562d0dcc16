/- Lemmas of the layers below, several texts in one. -/
import Derived.Test.YtlkbohpnlbfopaaGreatBX
import Derived.BigQuiet
import Derived.Deep.QuietTactic
import Derived.Test.YtlkbohpnlbfopaaGreatBY
import Derived.Test.YtlkbohpnlbfopaaGreatCD
import Derived.Deep.RegionLaw
import Derived.Deep.AppendLies
import Derived.Test.YtlkbohpnlbfopaaGreatCJ
import Derived.Maps.RangeWalk
namespace Go.Proofs.YtlkbohpnlbfopaaGreat
open Go.RowKit
set_option linter.unusedVariables false
end Go.Proofs.YtlkbohpnlbfopaaGreat
namespace Go.Proofs.YtlkbohpnlbfopaaGreat
open Go.RowKit
set_option linter.unusedVariables false
def OwnMu (w : World) (base : Nat) (v : Value) (L : List MoveT) : Prop := w.ownsRow base 134 3 v L.length (L.flatMap encK)
theorem OwnMu.below {w w' : World} {base : Nat} {v : Value} {L : List MoveT} (h : OwnMu w base v L) (hb : Below w.heap.size w w') : OwnMu w' base v L := own_below h hb
section
variable (n : Int) (b : Bool) (ao fo : Option Addr) (nl cap fl fc : Nat) (Z : List ArcT) (s t H : Int) (F : List Int)
end
end Go.Proofs.YtlkbohpnlbfopaaGreat
namespace Go.Proofs.YtlkbohpnlbfopaaGreat
open Go.RowKit
set_option linter.unusedVariables false
def HeldK (kb ka ku fb fo : Nat) (ki kt x : Int) (W : World) : Prop := W.cell? ⟨kb, ka, none⟩ = some (.int .i64 ki) ∧ W.cell? ⟨kb, ku, none⟩ = some (.int .i64 kt) ∧ W.cell? ⟨fb, fo, none⟩ = some (.int .i64 x)
theorem HeldK.below {kb ka ku fb fo : Nat} {ki kt x : Int} {W W' : World} (h : HeldK kb ka ku fb fo ki kt x W) (hb : Below W.heap.size W W') : HeldK kb ka ku fb fo ki kt x W' := ⟨cell_below hb h.1, cell_below hb h.2.1, cell_below hb h.2.2⟩
section
variable (n : Int) (b : Bool) (ao fo : Option Addr) (nl cap fl fc : Nat) (Z : List ArcT) (s t H : Int) (F : List Int)
end
end Go.Proofs.YtlkbohpnlbfopaaGreat
namespace Go.Proofs.YtlkbohpnlbfopaaGreat
open Go.RowKit Go.Maps
set_option linter.unusedVariables false
section
variable {β : Type} {mk : β → Value} {w w' : World} {b r m cnt : Nat} {f : Int × Int → Option β} {left : Int × Int → Bool}
end
end Go.Proofs.YtlkbohpnlbfopaaGreat
namespace Go.Proofs.YtlkbohpnlbfopaaGreat
open Go.RowKit Go.Maps
set_option linter.unusedVariables false
section
variable (n : Int) (b : Bool) (ao fo : Option Addr) (nl cap fl fc : Nat) (Z : List ArcT) (s t H : Int) (F : List Int)
end
section
variable (b : Bool) (ao fo : Option Addr) (nl cap fl fc : Nat) (Z : List ArcT) (N i j K : Nat) (F : List Int)
end
end Go.Proofs.YtlkbohpnlbfopaaGreat
