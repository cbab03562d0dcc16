/- Networks that came in: which they are, and where they lie. -/
import Derived.Test.YtbkmfjegbmjknaaBA
import Derived.Test.YtbkmfjegbmjknaaRows
import Derived.OpenShut
import Derived.ChangeSame
import Derived.ProofKit
import Derived.ChangeMaps5
import Derived.Carry
import Derived.Deep.Slices
import Derived.Deep.Fields
import Derived.Lib.SmallJoins
namespace Go.Proofs.Ytbkmfjegbmjknaa
open Go.ChangeShapes Go.WideShapes Go.ChangeAt Go.RowKit Go.ChangeMaps
set_option linter.unusedVariables false
theorem own : ownKnob Try.prog.godebug = none := by kernel_rfl
theorem laidOut : laidOutB Try.prog = true := by kernel_rfl
theorem cellsIntQ : Try.prog.cellsOf 3 = 1 := by kernel_rfl
theorem add_blockQ (a : Addr) (n : Nat) : (a.add n).block = a.block := by unfold Addr.add; split <;> rfl
theorem plain_addrQ {w : World} {a : Addr} {v : Value} (h : w.cell? (a.add 0) = some v) : a.spot = none := World.cell?_spot (a := a) (by simpa [Addr.add] using h)
theorem cell_litQ {w : World} {b o n : Nat} {v : Option Value} (h : w.cell? ((⟨b, o, none⟩ : Addr).add n) = v) : w.cell? ⟨b, o + n, none⟩ = v := by rwa [Addr.add_lit] at h
theorem wf_i64Q {a : Int} (h : (Lit.int .i64 a).wf = true) : -9223372036854775808 ≤ a ∧ a ≤ 9223372036854775807 := by
  simp only [Lit.wf, IntKind.min, IntKind.max, IntKind.signed, IntKind.bits, Bool.and_eq_true, decide_eq_true_eq, if_true] at h
  omega
def in64 (x : Int) : Prop := -9223372036854775808 ≤ x ∧ x ≤ 9223372036854775807
section
open Go.Deep
variable {H : Type} {enc : TypeId × Value → H} {P : Program} {w : World} {base : Nat} {spare : Nat → Bool} {held : Bool}
end
theorem rows_of {α : Type} {enc : α → List Value} {k : Nat} (hk0 : 0 < k) (mk : (Nat → Int) → α) (hmk : ∀ f j, j < k → (enc (mk f))[j]? = some (.int .i64 (f j))) {W : World} {a : Addr} {len : Nat}
    (hc : ∀ i j : Nat, ∃ z : Int, i < len → j < k → W.cell? (a.add (i * k + j)) = some (.int .i64 z) ∧ in64 z) :
    ∃ Z : List α, Z.length = len ∧ Row enc k W (some a) Z ∧ ∀ x ∈ Z, ∃ f : Nat → Int, x = mk f ∧ ∀ j, j < k → in64 (f j) := by
  refine ⟨(List.range len).map fun i => mk (fun j => Classical.choose (hc i j)), by simp, fun i hi => ?_, fun x hx => ?_⟩
  · have hi' : i < len := by simpa using hi
    have h0 := (Classical.choose_spec (hc i 0) hi' hk0).1
    have hb := block_lt_of_cell h0
    rw [add_blockQ] at hb
    have h00 := (Classical.choose_spec (hc 0 0) (by omega) hk0).1
    have hsp := plain_addrQ (a := a) (by simpa using h00)
    obtain ⟨ab, ax, sp⟩ := a
    simp only at hsp
    subst hsp
    refine ⟨ab, ax, rfl, hb, fun j hj => ?_⟩
    have h1 := (Classical.choose_spec (hc i j) hi' hj).1
    have h2 := cell_litQ h1
    rw [Nat.add_assoc, h2, List.getElem_map, List.getElem_range, hmk _ j hj]
  · obtain ⟨i, hi, rfl⟩ := List.mem_map.1 hx
    refine ⟨_, rfl, fun j hj => ?_⟩
    rw [List.mem_range] at hi
    exact (Classical.choose_spec (hc i j) hi hj).2
end Go.Proofs.Ytbkmfjegbmjknaa
