/- Lemmas of the layers below, several texts in one. -/
import Derived.Test.YtlkbohpnlbfopaaBM
import Derived.Deep.LoopGhost
import Derived.Test.YtlkbohpnlbfopaaBN
import Derived.Lib.SliceRun
namespace Go.Proofs.Ytlkbohpnlbfopaa
open Go.RowKit
set_option linter.unusedVariables false
theorem wpList_clear_ints {w : World} {ops : Array Oper} {rest : List Oper} {o : Oper} {a : Act} {Q : Exit → Act → World → Prop} (hgd : o.guard = none) (y : Operand) (ho : o.op = .call { callee := .builtin .clear, args := #[y], argTypes := #[65] }) (hd : o.dst = none)
    (B g n cap : Nat) (T : List Int) (hy : a.eval y = .slice (some ⟨g, 0, none⟩) n cap) (hn : 0 < n) (hT : T.length = n) (hown : OwnL encI w B 3 (.slice (some ⟨g, 0, none⟩) n cap) T)
    (hK : wpList Try.prog ops Q rest a (w.setCells g 0 (List.replicate n (.int .i64 0)))) : wpList Try.prog ops Q (o :: rest) a w := by
  refine wpList_plain hgd fun K hK2 => ?_
  have hat : ∀ j, j < n → w.cell? ⟨g, 0 + j, none⟩ = some (.int .i64 (T.getD j 0)) ∧ w.frozen? ⟨g, 0 + j, none⟩ = false := fun j hj => by
    rw [Nat.zero_add]
    exact hown.cell (atI_get (d := T) (v := j) (by omega))
  have hr := Lib.run_clear_slice (P := Try.prog) w 65 3 o.type (.int .i64 0) Try.underlying65 (fun w => by kernel_rfl) rfl rfl g 0 n cap hn (fun j hj => by rw [(hat j hj).1]; rfl) (fun j hj => (hat j hj).2)
  unfold Oper.wp execOp
  simp only [ho, resolve, invoke, builtin, Sem.run_bind, Sem.run_pure, Result.andThen_ok, List.map_toArray, List.map_cons, List.map_nil, hy, hr]
  have e : a.put o.dst (.tuple #[]) = a := by rw [hd]; rfl
  show K (a.put o.dst (.tuple #[])) _
  rw [e]
  exact hK2 _ _ hK
def mostV (Z : List ArcT) (s : Nat) : Int := capS Z (fun v => decide (v = s))
theorem le_mostV {Z : List ArcT} {N s t : Nat} {f : List Int} {k : Int} (hZ : ∀ a ∈ Z, frN a < N ∧ toN a < N) (hs : s < N) (hne : s ≠ t) (h : FlowST Z N s t f k) : k ≤ mostV Z s := weak hZ hs h ⟨by simp, by simpa using fun e => hne e.symm⟩
end Go.Proofs.Ytlkbohpnlbfopaa
namespace Go.Proofs.Ytlkbohpnlbfopaa
open Go.RowKit
set_option linter.unusedVariables false
section
variable (n : Int) (b : Bool) (ao : Option Addr) (cap : Nat) (Z : List ArcT)
end
end Go.Proofs.Ytlkbohpnlbfopaa
