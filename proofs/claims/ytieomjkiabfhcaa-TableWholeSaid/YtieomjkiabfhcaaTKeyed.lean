/- Structs and arrays of whole numbers as keys of maps: which keys are alike, and that each is one. -/
import Derived.Test.YtieomjkiabfhcaaTKept
import Derived.Test.YtieomjkiabfhcaaRows
import Derived.Maps.OwnSet
import Derived.DeepKeys4
import Derived.WideKeyPair
namespace Go.Proofs.Ytieomjkiabfhcaa
open Go.RowKit Go.Maps
set_option linter.unusedVariables false

def in64 (x : Int) : Prop := -9223372036854775808 ≤ x ∧ x ≤ 9223372036854775807
theorem wf_of_in64 {x : Int} (h : in64 x) : (Lit.int .i64 x).wf = true := by
  unfold in64 at h
  simp only [Lit.wf, IntKind.min, IntKind.max, IntKind.signed, IntKind.bits, Bool.and_eq_true, decide_eq_true_eq, if_true]
  omega
theorem in64_of_wf {x : Int} (h : (Lit.int .i64 x).wf = true) : in64 x := wf_i64 h
theorem laidOut0 : laidOutB Try.prog = true := by kernel_rfl
theorem lawKey : Keyed Try.prog 24 := Keyed.of_law (deep_law_laid laidOut0 (m := 3) (by omega) (of_decide_eq_true (by kernel_rfl)) (by kernel_rfl) (by kernel_rfl))
theorem lawArr : Keyed Try.prog 37 := Keyed.of_law (deep_law_laid laidOut0 (m := 3) (by omega) (of_decide_eq_true (by kernel_rfl)) (by kernel_rfl) (by kernel_rfl))
theorem lawSlot : Keyed Try.prog 74 := Keyed.of_law (deep_law_laid laidOut0 (m := 3) (by omega) (of_decide_eq_true (by kernel_rfl)) (by kernel_rfl) (by kernel_rfl))
theorem cellsInt : Try.prog.cellsOf 3 = 1 := by kernel_rfl
theorem cellsKey : Try.prog.cellsOf 24 = 3 := by kernel_rfl
theorem cellsArr : Try.prog.cellsOf 37 = 2 := by kernel_rfl
theorem cellsSlot : Try.prog.cellsOf 74 = 2 := by kernel_rfl
theorem cellsArc : Try.prog.cellsOf 52 = 4 := by kernel_rfl
theorem cellsMove : Try.prog.cellsOf 56 = 3 := by kernel_rfl
theorem ktKey : Try.prog.keyType 24 = true := by kernel_rfl
theorem ktArr : Try.prog.keyType 37 = true := by kernel_rfl
theorem ktSlot : Try.prog.keyType 74 = true := by kernel_rfl
theorem tySize : ∃ m, Try.prog.types.size = m + 1 := Nat.exists_eq_add_one_of_ne_zero (of_decide_eq_true (by kernel_rfl))
def encK (x : Int × Int × Int) : List Value := [.int .i64 x.1, .int .i64 x.2.1, .int .i64 x.2.2]
def encP (x : Int × Int) : List Value := [.int .i64 x.1, .int .i64 x.2]
def encA (x : Int × Int × Int × Int) : List Value := [.int .i64 x.1, .int .i64 x.2.1, .int .i64 x.2.2.1, .int .i64 x.2.2.2]
def okP (x : Int × Int) : Prop := in64 x.1 ∧ in64 x.2
def okK (x : Int × Int × Int) : Prop := in64 x.1 ∧ in64 x.2.1 ∧ in64 x.2.2
def okA (x : Int × Int × Int × Int) : Prop := in64 x.1 ∧ in64 x.2.1 ∧ in64 x.2.2.1 ∧ in64 x.2.2.2
theorem keyOf_key {x : Int × Int × Int} (h : okK x) : ∃ kl, keyOf Try.prog 24 (.agg (encK x).toArray) = some kl := by
  obtain ⟨a, b, c⟩ := x
  obtain ⟨ha, hb, hc⟩ := h
  have wa := wf_of_in64 ha
  have wb := wf_of_in64 hb
  have wc := wf_of_in64 hc
  obtain ⟨m, hm⟩ := tySize
  refine ⟨.string (keyBytes [.int .i64 a, .int .i64 b, .int .i64 c]), ?_⟩
  unfold keyOf
  simp only [Try.underlying24]
  rw [if_pos (by simp [ktKey, Value.formed, Try.underlying24, cellsKey, encK]), hm]
  unfold Program.keyLits
  simp only [Try.underlying24, Value.cells]
  rw [if_pos (by rw [cellsKey]; exact ⟨rfl, by simp⟩)]
  simp [encK, cellsInt, Program.keyLits, Try.underlying3, wa, wb, wc]
theorem keyOf_arr {x : Int × Int} (h : okP x) : ∃ kl, keyOf Try.prog 37 (.agg (encP x).toArray) = some kl := by
  obtain ⟨a, b⟩ := x
  obtain ⟨ha, hb⟩ := h
  have wa := wf_of_in64 ha
  have wb := wf_of_in64 hb
  obtain ⟨m, hm⟩ := tySize
  refine ⟨.string (keyBytes [.int .i64 a, .int .i64 b]), ?_⟩
  unfold keyOf
  simp only [Try.underlying37]
  rw [if_pos (by simp [ktArr, Value.formed, Try.underlying37, cellsArr, encP]), hm]
  unfold Program.keyLits
  simp only [Try.underlying37, Value.cells]
  rw [if_pos (by rw [cellsArr]; rfl), show List.range 2 = [0, 1] from rfl, List.mapM_cons, List.mapM_cons, List.mapM_nil]
  simp [encP, cellsInt, Program.keyLits, Try.underlying3, wa, wb]
theorem keyOf_slot {x : Int × Int} (h : okP x) : ∃ kl, keyOf Try.prog 74 (.agg (encP x).toArray) = some kl := by
  obtain ⟨a, b⟩ := x
  obtain ⟨ha, hb⟩ := h
  have wa := wf_of_in64 ha
  have wb := wf_of_in64 hb
  obtain ⟨m, hm⟩ := tySize
  refine ⟨.string (keyBytes [.int .i64 a, .int .i64 b]), ?_⟩
  unfold keyOf
  simp only [Try.underlying74]
  rw [if_pos (by simp [ktSlot, Value.formed, Try.underlying74, cellsSlot, encP]), hm]
  unfold Program.keyLits
  simp only [Try.underlying74, Value.cells]
  rw [if_pos (by rw [cellsSlot]; exact ⟨rfl, by simp⟩)]
  simp [encP, cellsInt, Program.keyLits, Try.underlying3, wa, wb]
end Go.Proofs.Ytieomjkiabfhcaa
