/- Networks that came in: which they are, and where they lie. -/
import Derived.Test.YtlkbohpnlbfopaaGreatBA
import Derived.Test.YtlkbohpnlbfopaaGreatRows
import Derived.OpenShut
import Derived.ChangeSame
import Derived.ProofKit
import Derived.ChangeMaps5
import Derived.Carry
import Derived.Deep.Slices
import Derived.Deep.Fields
import Derived.Lib.SmallJoins
namespace Go.Proofs.YtlkbohpnlbfopaaGreat
open Go.ChangeShapes Go.WideShapes Go.ChangeAt Go.RowKit Go.ChangeMaps
set_option linter.unusedVariables false
theorem own : ownKnob Tryz.prog.godebug = none := by kernel_rfl
theorem laidOut : laidOutB Tryz.prog = true := by kernel_rfl
theorem add_blockQ (a : Addr) (n : Nat) : (a.add n).block = a.block := by unfold Addr.add; split <;> rfl
theorem plain_addrQ {w : World} {a : Addr} {v : Value} (h : w.cell? (a.add 0) = some v) : a.spot = none := World.cell?_spot (a := a) (by simpa [Addr.add] using h)
theorem cell_litQ {w : World} {b o n : Nat} {v : Option Value} (h : w.cell? ((⟨b, o, none⟩ : Addr).add n) = v) : w.cell? ⟨b, o + n, none⟩ = v := by rwa [Addr.add_lit] at h
def in64 (x : Int) : Prop := -9223372036854775808 ≤ x ∧ x ≤ 9223372036854775807
section
open Go.Deep
variable {H : Type} {enc : TypeId × Value → H} {P : Program} {w : World} {base : Nat} {spare : Nat → Bool} {held : Bool}
end
end Go.Proofs.YtlkbohpnlbfopaaGreat
