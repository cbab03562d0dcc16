/- Package expand's Moves of a small network's flow; what its movements are. -/
import Derived.Test.YtlkbohpnlbfopaaCO
import Derived.Test.YtlkbohpnlbfopaaFUmv
import Derived.Test.YtlkbohpnlbfopaaCC
namespace Go.Proofs.Ytlkbohpnlbfopaa
open Go.RowKit
set_option linter.unusedVariables false
section
variable {A N i j H : Nat} {Z : List ArcT}
theorem SmF.umv16 (h : SmF A N i j H Z) (hA : A ≤ 10) (b : Bool) (ao : Option Addr) (nl cap : Nat) (hl : Z.length = nl) : ∀ (fo : Option Addr) (fc : Nat) (F : List Int) (W : World), Row encA 4 W ao Z → Lst encI W fo F → F.length = (⟨Z, N, i, j, H, b⟩ : Exp).net.length → Calls Try.prog 24 #[.agg #[.int .i64 (N : Int), .bool b, .slice ao nl cap], .int .i64 (i : Int), .int .i64 (j : Int), .int .i64 (H : Int), .slice fo (⟨Z, N, i, j, H, b⟩ : Exp).net.length fc] W (MovRes (N : Int) b Z (i : Int) (j : Int) (H : Int) F W) := by
  intro fo fc F W h1 h2 h3
  have hh := h.hor
  obtain ⟨hX, hW⟩ := h.net16 hA (K := H) (by omega) b
  obtain ⟨N', i', j', K', e1, e2, e3, e4, hi, hj, hij, _, hK, hq, hm1, hm2, _⟩ := hX.exp
  obtain rfl : N = N' := by omega
  obtain rfl : i = i' := by omega
  obtain rfl : j = j' := by omega
  obtain rfl : H = K' := by omega
  exact umoves_big b ao fo nl cap _ fc Z N i j H F W h1 hl h2 h3 hX.err hi hj hij hW hK hm1 hm2 (Nat.le_trans (h.kinds16 hA b) (by omega))
theorem SmF.run16x (h : SmF A N i j H Z) (hA : A ≤ 10) {b : Bool} {F : List Int} {k : Int} (hF : FlowST (⟨Z, N, i, j, H, b⟩ : Exp).net ((H + 1) * N + 2) ((H + 1) * N) ((H + 1) * N + 1) F k) :
    ∃ V, movV (N : Int) Z (i : Int) (j : Int) (H : Int) b F = V ∧ ∃ ll, V.length = ll ∧ (plnE (N : Int) Z (i : Int) (j : Int) (H : Int) b V = 0 ∧ plnV (N : Int) Z (i : Int) (j : Int) (H : Int) b V = k ∧ (∀ m ∈ V, okK m) ∧ V.length ≤ 200 ∧ AllIn (mvS V) ∧ ∀ R, R.Perm (mvs V) → Sorted kM R → R = V) :=
  ⟨_, rfl, _, rfl, h.run16 hA hF⟩
end
theorem rmoves_sz (lo : Option Addr) (cap ll : Nat) (Z : List MoveT) (w : World) (h : Row encK 3 w lo Z) (hk : ∀ x ∈ Z, okK x) (hn : Z.length ≤ 200) (hll : Z.length = ll) : Calls Try.prog 14 #[.slice lo ll cap] w (MovesRes Z w) := by
  subst hll
  exact rmoves_any lo cap Z w h hk hn
end Go.Proofs.Ytlkbohpnlbfopaa
