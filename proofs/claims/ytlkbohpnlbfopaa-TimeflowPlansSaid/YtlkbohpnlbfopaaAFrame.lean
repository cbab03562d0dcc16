/- Networks that came in: which they are, and where they lie. -/
import Derived.Test.YtlkbohpnlbfopaaBA
import Derived.Test.YtlkbohpnlbfopaaRows
import Derived.OpenShut
import Derived.ChangeSame
import Derived.ProofKit
import Derived.ChangeMaps5
import Derived.Carry
import Derived.Deep.Slices
import Derived.Deep.Fields
import Derived.Lib.SmallJoins
namespace Go.Proofs.Ytlkbohpnlbfopaa
open Go.ChangeShapes Go.WideShapes Go.ChangeAt Go.RowKit Go.ChangeMaps
set_option linter.unusedVariables false
theorem own : ownKnob Try.prog.godebug = none := by kernel_rfl
theorem laidOut : laidOutB Try.prog = true := by kernel_rfl
theorem cellsIntQ : Try.prog.cellsOf 3 = 1 := by kernel_rfl
theorem add_blockQ (a : Addr) (n : Nat) : (a.add n).block = a.block := by unfold Addr.add; split <;> rfl
theorem plain_addrQ {w : World} {a : Addr} {v : Value} (h : w.cell? (a.add 0) = some v) : a.spot = none := World.cell?_spot (a := a) (by simpa [Addr.add] using h)
theorem cell_litQ {w : World} {b o n : Nat} {v : Option Value} (h : w.cell? ((⟨b, o, none⟩ : Addr).add n) = v) : w.cell? ⟨b, o + n, none⟩ = v := by rwa [Addr.add_lit] at h
theorem wf_i64Q {a : Int} (h : (Lit.int .i64 a).wf = true) : -9223372036854775808 ≤ a ∧ a ≤ 9223372036854775807 := by
  simp only [Lit.wf, IntKind.min, IntKind.max, IntKind.signed, IntKind.bits, Bool.and_eq_true, decide_eq_true_eq, if_true] at h
  omega
def in64 (x : Int) : Prop := -9223372036854775808 ≤ x ∧ x ≤ 9223372036854775807
theorem cellsArc : Try.prog.cellsOf 73 = 4 := by kernel_rfl
theorem cellsNet : Try.prog.cellsOf 24 = 3 := by kernel_rfl
section
open Go.Deep
variable {H : Type} {enc : TypeId × Value → H} {P : Program} {w : World} {base : Nat} {spare : Nat → Bool} {held : Bool}
theorem open_int_structsQ {t e : TypeId} {fs : Array Field} {fuel : Nat} {cs : List Value} {x : DataW H × List MemPlace} (ht : P.underlying t = some (.slice e)) (he : P.underlying e = some (.struct fs))
    (hf : ∀ (j : Nat) (f : Field), fs[j]? = some f → f.offset = j ∧ P.cellsOf f.type = 1 ∧ P.underlying f.type = some (.int .i64)) {k : Nat} (hC : P.cellsOf e = k) (hfk : fs.size = k) (h : DataW.trod enc P w base spare held fuel t cs = some x) :
    cs = [.slice none 0 0] ∨ ∃ (a : Addr) (len cap : Nat), cs = [.slice (some a) len cap] ∧ len ≤ cap ∧ len ≤ maxLen ∧
      ∀ i j : Nat, ∃ z : Int, i < len → j < k → w.cell? (a.add (i * k + j)) = some (.int .i64 z) ∧ in64 z := by
  subst hfk
  rcases open_slice ht h with ⟨h0, _⟩ | ⟨a, len, cap, m, n, D, Pl, hcs, hb, hl, hm, hmm, hx, hi⟩
  · exact .inl h0
  · refine .inr ⟨a, len, cap, hcs, by omega, by omega, fun i j => ?_⟩
    by_cases hij : i < len ∧ j < fs.size
    · have him : i < m := by rw [hmm]; split <;> omega
      obtain ⟨cs', hc, ht'⟩ := hi i him
      rw [hC] at hc
      obtain ⟨ys, n', _, _, hlen, hyl, hg⟩ := DataW.trod_struct he ht'
      obtain ⟨_, hcl, hat⟩ := World.cells?_some hc
      have hfj : fs[j]? = some fs[j] := Array.getElem?_eq_getElem hij.2
      obtain ⟨ho, hk, hu⟩ := hf j _ hfj
      have h1 := hg j _ hfj
      rw [ho, hk] at h1
      have hyj : ys[j]? = some (ys[j]'(by omega)) := List.getElem?_eq_getElem (by omega)
      rw [hyj] at h1
      obtain ⟨z, hz, _, hwf⟩ := DataW.trod_int hu h1
      refine ⟨z, fun _ _ => ⟨?_, wf_i64Q hwf⟩⟩
      rw [← Go.Deep.add_add, hat j hij.2]
      have hd : (cs'.drop j).take 1 = [cs'[j]'(by omega)] := by rw [List.drop_eq_getElem_cons (by omega)]; rfl
      rw [hd] at hz
      rw [List.getElem?_eq_getElem (by omega), List.cons.inj hz |>.1]
    · exact ⟨0, fun h1 h2 => absurd ⟨h1, h2⟩ hij⟩
end
theorem rows_of {α : Type} {enc : α → List Value} {k : Nat} (hk0 : 0 < k) (mk : (Nat → Int) → α) (hmk : ∀ f j, j < k → (enc (mk f))[j]? = some (.int .i64 (f j))) {W : World} {a : Addr} {len : Nat}
    (hc : ∀ i j : Nat, ∃ z : Int, i < len → j < k → W.cell? (a.add (i * k + j)) = some (.int .i64 z) ∧ in64 z) :
    ∃ Z : List α, Z.length = len ∧ Row enc k W (some a) Z ∧ ∀ x ∈ Z, ∃ f : Nat → Int, x = mk f ∧ ∀ j, j < k → in64 (f j) := by
  refine ⟨(List.range len).map fun i => mk (fun j => Classical.choose (hc i j)), by simp, fun i hi => ?_, fun x hx => ?_⟩
  · have hi' : i < len := by simpa using hi
    have h0 := (Classical.choose_spec (hc i 0) hi' hk0).1
    have hb := block_lt_of_cell h0
    rw [add_blockQ] at hb
    have h00 := (Classical.choose_spec (hc 0 0) (by omega) hk0).1
    have hsp := plain_addrQ (a := a) (by simpa using h00)
    obtain ⟨ab, ax, sp⟩ := a
    simp only at hsp
    subst hsp
    refine ⟨ab, ax, rfl, hb, fun j hj => ?_⟩
    have h1 := (Classical.choose_spec (hc i j) hi' hj).1
    have h2 := cell_litQ h1
    rw [Nat.add_assoc, h2, List.getElem_map, List.getElem_range, hmk _ j hj]
  · obtain ⟨i, hi, rfl⟩ := List.mem_map.1 hx
    refine ⟨_, rfl, fun j hj => ?_⟩
    rw [List.mem_range] at hi
    exact (Classical.choose_spec (hc i j) hi hj).2
theorem viewArcs {H : Type} {enc : TypeId × Value → H} {W : World} {fuel : Nat} {v : Value} {x : DataW H × List MemPlace}
    (hf : DataW.trod enc Try.prog W 0 (fun _ => true) true fuel 22 [v] = some x) :
    ∃ (ao : Option Addr) (len cap : Nat) (Z : List ArcT), v = .slice ao len cap ∧ Z.length = len ∧ len ≤ cap ∧ len ≤ maxLen ∧ Row encA 4 W ao Z := by
  rcases open_int_structsQ Try.underlying22 Try.underlying73 (fun j f hj => by
      match j, hj with
      | 0, hj => simp at hj; subst hj; exact ⟨rfl, cellsIntQ, Try.underlying3⟩
      | 1, hj => simp at hj; subst hj; exact ⟨rfl, cellsIntQ, Try.underlying3⟩
      | 2, hj => simp at hj; subst hj; exact ⟨rfl, cellsIntQ, Try.underlying3⟩
      | 3, hj => simp at hj; subst hj; exact ⟨rfl, cellsIntQ, Try.underlying3⟩
      | j + 4, hj => simp at hj) cellsArc rfl hf with hcs | ⟨a, len', cap', hcs, hcp, hm, hc⟩
  · cases hcs
    exact ⟨_, _, _, [], rfl, rfl, Nat.le_refl _, Nat.zero_le _, Row.nil _ _⟩
  · cases hcs
    obtain ⟨Z, h1, h2, h3⟩ := rows_of (enc := encA) (by omega) (fun f => (f 0, f 1, f 2, f 3)) (fun f j hj => by
      match j, hj with
      | 0, _ => rfl
      | 1, _ => rfl
      | 2, _ => rfl
      | 3, _ => rfl) hc
    exact ⟨_, _, _, Z, rfl, h1, hcp, hm, h2⟩
set_option maxRecDepth 100000 in
theorem viewInt {H : Type} {enc : TypeId × Value → H} {W : World} {base : Nat} {v : Value} {d : DataW H} {p : List MemPlace} (hv : Value.okWide Try.prog W .any base 3 v)
    (h : DataW.Trod enc Try.prog W 0 (fun _ => true) true 3 v d p) : ∃ z : Int, v = .int .i64 z ∧ in64 z := by
  obtain ⟨z, rfl, _, _, hw⟩ := open_int Try.underlying3 hv h
  exact ⟨z, rfl, wf_i64Q hw⟩
end Go.Proofs.Ytlkbohpnlbfopaa
