/- Small networks fit; package expand's Moves and the document's of a small network. -/
import Derived.Test.YtbkmfjegbmjknaaCE
import Derived.Test.YtbkmfjegbmjknaaCG
namespace Go.Proofs.Ytbkmfjegbmjknaa
open Go.RowKit
set_option linter.unusedVariables false
structure SmF (A N i j H : Nat) (Z : List ArcT) : Prop where
  nodes : 2 ≤ N ∧ N ≤ 5
  src : i < N
  snk : j < N
  ne : i ≠ j
  hor : H ≤ 7
  arcs : Z.length ≤ A
  small : ∀ a ∈ Z, SmallA N a
theorem sm_facts (A : Nat) (nn s t sp : Int) (B : List BitT) : ∃ N i j H Z, nodeN nn = N ∧ srcN nn s = i ∧ snkN nn s t = j ∧ horN sp = H ∧ readZ (nodeN nn) A B = Z ∧ SmF A N i j H Z :=
  ⟨_, _, _, _, _, rfl, rfl, rfl, rfl, rfl, node_bd nn, src_lt nn s, (snk_lt nn s t).1, (snk_lt nn s t).2, hor_bd sp, by rw [readZ_len]; omega, read_arcs (node_bd nn).1⟩
section
variable {A N i j H : Nat} {Z : List ArcT}
theorem SmF.ask (h : SmF A N i j H Z) (hA : A ≤ 8) : askE (N : Int) Z (i : Int) (j : Int) (H : Int) = 0 :=
  small_ask (small_ends (small_check h.nodes (by have := h.arcs; omega) h.small) h.src h.snk h.ne) (by omega) (by have := h.hor; omega)
theorem SmF.xpe (h : SmF A N i j H Z) (hA : A ≤ 8) : xpE (N : Int) Z (i : Int) (j : Int) (H : Int) = 0 := by
  refine xpE_ok.2 ⟨h.ask hA, fitN_is.2 ⟨small_check h.nodes (by have := h.arcs; omega) h.small, by omega, by have := h.hor; omega, ?_, ?_⟩⟩
  · have h1 : ((H : Int) + 1) * (N : Int) ≤ 8 * 5 := Int.mul_le_mul (by have := h.hor; omega) (by have := h.nodes; omega) (by omega) (by omega)
    omega
  · have h1 : ((H : Int) + 1) * (Z.length : Int) ≤ 8 * 8 := Int.mul_le_mul (by have := h.hor; omega) (by have := h.arcs; omega) (by omega) (by omega)
    omega
theorem SmF.kinds (h : SmF A N i j H Z) (hA : A ≤ 8) (b : Bool) : (⟨Z, N, i, j, H, b⟩ : Exp).kinds.length ≤ 200 := by
  have h1 := kinds_len (⟨Z, N, i, j, H, b⟩ : Exp)
  simp only at h1
  have h2 : (H + 1) * Z.length ≤ 8 * 8 := Nat.mul_le_mul (by have := h.hor; omega) (by have := h.arcs; omega)
  have h3 : (H + 1) * N ≤ 8 * 5 := Nat.mul_le_mul (by have := h.hor; omega) (by have := h.nodes; omega)
  have := h.hor
  omega
end
section
variable (b : Bool) (ao fo : Option Addr) (nl cap fl fc : Nat) (Z : List ArcT) (N i j H : Nat) (F : List Int)
theorem umoves_sm {A : Nat} (w : World) (h : Row encA 4 w ao Z) (hl : Z.length = nl) (hF : Lst encI w fo F) (hfl : F.length = fl) (hs : SmF A N i j H Z) (hA : A ≤ 8) :
    Calls Try.prog 21 #[.agg #[.int .i64 (N : Int), .bool b, .slice ao nl cap], .int .i64 (i : Int), .int .i64 (j : Int), .int .i64 (H : Int), .slice fo fl fc] w (MovRes (N : Int) b Z (i : Int) (j : Int) (H : Int) F w) := by
  obtain ⟨N', i', j', K', e1, e2, e3, e4, hi, hj, hij, hW, hK, hm1, hm2⟩ := xpE_nat (hs.xpe hA)
  obtain rfl : N = N' := by omega
  obtain rfl : i = i' := by omega
  obtain rfl : j = j' := by omega
  obtain rfl : H = K' := by omega
  exact umoves_yes b ao fo nl cap fl fc Z N i j H F w h hl hF hfl (hs.xpe hA) hi hj hij hW hK hm1 hm2 (hs.kinds hA b)
theorem rmoves_sm {A : Nat} (w : World) (h : Row encA 4 w ao Z) (hl : Z.length = nl) (hF : Lst encI w fo F) (hfl : F.length = fl) (hs : SmF A N i j H Z) (hA : A ≤ 8) :
    Calls Try.prog 22 #[.agg #[.int .i64 (N : Int), .bool b, .slice ao nl cap], .int .i64 (i : Int), .int .i64 (j : Int), .int .i64 (H : Int), .slice fo fl fc] w (MovRes (N : Int) b Z (i : Int) (j : Int) (H : Int) F w) :=
  rmoves15_any (N : Int) b ao fo nl cap fl fc Z (i : Int) (j : Int) (H : Int) F w h hl (by have := hs.arcs; unfold maxLen; omega) hF hfl
theorem rarcs_sm {A : Nat} (w : World) (h : Row encA 4 w ao Z) (hl : Z.length = nl) (hs : SmF A N i j H Z) (hA : A ≤ 8) :
    Calls Try.prog 24 #[.agg #[.int .i64 (N : Int), .bool b, .slice ao nl cap], .int .i64 (i : Int), .int .i64 (j : Int), .int .i64 (H : Int)] w fun e w' => ∃ oa oc kv al, e = .returned (.tuple #[.slice oa al oc, kv]) ∧ al ≤ 200 ∧ Below w.heap.size w w' := by
  obtain ⟨N', i', j', K', e1, e2, e3, e4, hi, hj, hij, hW, hK, hm1, hm2⟩ := xpE_nat (hs.xpe hA)
  obtain rfl : N = N' := by omega
  obtain rfl : i = i' := by omega
  obtain rfl : j = j' := by omega
  obtain rfl : H = K' := by omega
  refine (rarcs15_any ⟨Z, N, i, j, H, b⟩ ao nl cap w h hl hW hK hi hj hm1 (by rw [← hl]; exact hm2)).mono ?_
  rintro e w' ⟨ov, kv, rfl, hak⟩
  obtain ⟨oa, oc, rfl, _, _⟩ := own_rowQ encA_len hak.ro
  refine ⟨oa, oc, kv, _, rfl, ?_, hak.low⟩
  rw [arcsK_len]
  exact hs.kinds hA b
end
theorem movV_len (n : Int) (Z : List ArcT) (s t H : Int) (b : Bool) (F : List Int) (h : xpE n Z s t H = 0 → (expOf n Z s t H b).kinds.length ≤ 200) : (movV n Z s t H b F).length ≤ 200 := by
  unfold movV
  by_cases e : xpE n Z s t H = 0 ∧ isfB (bldA n Z s t H b) F = true
  · rw [if_pos e]; exact Nat.le_trans (mvsL_len _ _) (h e.1)
  · rw [if_neg e]; exact Nat.zero_le _
end Go.Proofs.Ytbkmfjegbmjknaa
