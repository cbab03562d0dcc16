/- Plans of small cases: package expand's Flow and the document's. -/
import Derived.Test.YtbkmfjegbmjknaaUSmf
import Derived.Test.YtbkmfjegbmjknaaURfl
import Derived.Test.YtbkmfjegbmjknaaHLsc
namespace Go.Proofs.Ytbkmfjegbmjknaa
open Go.RowKit
set_option linter.unusedVariables false
theorem CaseF.sm {N i j H : Nat} {Z : List ArcT} {L : List MoveT} (h : CaseF N i j H Z L) : SmF 8 N i j H Z := ⟨h.nodes, h.src, h.snk, h.ne, h.hor, h.arcs, h.small⟩
section
variable (b : Bool) (ao lo : Option Addr) (nl cap ll lc : Nat) (Z : List ArcT) (N i j H : Nat) (L : List MoveT)
theorem uflow_case (w : World) (h : Row encA 4 w ao Z) (hL : Row encK 3 w lo L) (hok : ∀ x ∈ L, okK x) (hn : L.length ≤ 200) (hF : CaseF N i j H Z L) :
    Calls Try.prog 26 #[.agg #[.int .i64 (N : Int), .bool b, .slice ao Z.length cap], .int .i64 (i : Int), .int .i64 (j : Int), .int .i64 (H : Int), .slice lo L.length lc] w (FloRes (N : Int) b Z (i : Int) (j : Int) (H : Int) L w) := by
  obtain ⟨N', i', j', K', e1, e2, e3, e4, hi, hj, hij, hW, hK, hm1, hm2⟩ := xpE_nat (hF.sm.xpe (by omega))
  obtain rfl : N = N' := by omega
  obtain rfl : i = i' := by omega
  obtain rfl : j = j' := by omega
  obtain rfl : H = K' := by omega
  exact uflow_yes b ao lo Z.length cap L.length lc Z N i j H L w h rfl hL hok hn rfl (hF.sm.xpe (by omega)) hi hj hij hW hK hm1 hm2
theorem rflow_case (w : World) (h : Row encA 4 w ao Z) (hL : Row encK 3 w lo L) (hok : ∀ x ∈ L, okK x) (hn : L.length ≤ 200) (hF : CaseF N i j H Z L) :
    Calls Try.prog 27 #[.agg #[.int .i64 (N : Int), .bool b, .slice ao Z.length cap], .int .i64 (i : Int), .int .i64 (j : Int), .int .i64 (H : Int), .slice lo L.length lc] w (FloRes (N : Int) b Z (i : Int) (j : Int) (H : Int) L w) := by
  obtain ⟨N', i', j', K', e1, e2, e3, e4, hi, hj, hij, hW, hK, hm1, hm2⟩ := xpE_nat (hF.sm.xpe (by omega))
  obtain rfl : N = N' := by omega
  obtain rfl : i = i' := by omega
  obtain rfl : j = j' := by omega
  obtain rfl : H = K' := by omega
  exact rflow15_yes b ao lo Z.length cap L.length lc Z N i j H L w h rfl hL hok hn rfl (hF.sm.xpe (by omega)) hi hj hij hW hK hm1 hm2
end
theorem floV_len {N i j H : Nat} {Z : List ArcT} {L M : List MoveT} (b : Bool) (hF : SmF 8 N i j H Z) : (floV (N : Int) Z (i : Int) (j : Int) (H : Int) b M).length ≤ 200 := by
  unfold floV
  by_cases e : floE (N : Int) Z (i : Int) (j : Int) (H : Int) b M = 0
  · rw [if_pos e, List.length_map, expOf_nat]; exact hF.kinds (by omega) b
  · rw [if_neg e]; exact Nat.zero_le _
end Go.Proofs.Ytbkmfjegbmjknaa
