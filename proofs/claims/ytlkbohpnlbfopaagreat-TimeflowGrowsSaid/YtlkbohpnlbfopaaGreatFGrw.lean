/- With a greater horizon the most that arrives is no smaller, and grows by no less; the document's Most of layer 12. -/
import Derived.Test.YtlkbohpnlbfopaaGreatCO
import Derived.Test.YtlkbohpnlbfopaaGreatCR
import Derived.Test.YtlkbohpnlbfopaaGreatBF
namespace Go.Proofs.YtlkbohpnlbfopaaGreat
open Go.RowKit
set_option linter.unusedVariables false
section
variable {A N i j H : Nat} {Z : List ArcT}
theorem SmF.grows16 (h : SmF A N i j H Z) (hA : A ≤ 10) {b : Bool} {k0 k1 k2 : Int} (h0 : IsMost (⟨Z, N, i, j, H, b⟩ : Exp).net ((H + 1) * N + 2) ((H + 1) * N) ((H + 1) * N + 1) k0) (h1 : IsMost (⟨Z, N, i, j, H + 1, b⟩ : Exp).net ((H + 1 + 1) * N + 2) ((H + 1 + 1) * N) ((H + 1 + 1) * N + 1) k1) (h2 : IsMost (⟨Z, N, i, j, H + 2, b⟩ : Exp).net ((H + 2 + 1) * N + 2) ((H + 2 + 1) * N) ((H + 2 + 1) * N + 1) k2) : k0 ≤ k1 ∧ k1 - k0 ≤ k2 - k1 := by
  have hh := h.hor
  obtain ⟨_, hW⟩ := h.net16 hA (K := H) (by omega) b
  have hc : ∀ a ∈ Z, 0 ≤ tm a := fun a ha => (hW.times a ha).1
  have hcap : ∀ a ∈ Z, 0 ≤ capN a := fun a ha => (hW.caps a ha).1
  obtain ⟨m0, b0⟩ := best_exists hW.lt hcap hc h.src h.snk h.ne H
  obtain ⟨m1, b1⟩ := best_exists hW.lt hcap hc h.src h.snk h.ne (H + 1)
  obtain ⟨m2, b2⟩ := best_exists hW.lt hcap hc h.src h.snk h.ne (H + 2)
  obtain rfl := h.best16 hA (K := H) (by omega) b0 h0
  obtain rfl := h.best16 hA (K := H + 1) (by omega) b1 h1
  obtain rfl := h.best16 hA (K := H + 2) (by omega) b2 h2
  obtain ⟨top, ht⟩ := most_exists hW.lt hcap h.src h.ne
  have := best_grows hc hcap hW.lt h.src (H := (H : Int)) (by omega) b0 (by simpa using b1) (by rw [show (H : Int) + 1 + 1 = ((H + 2 : Nat) : Int) by omega]; exact b2) ht
  exact ⟨this.1, this.2.1⟩
theorem SmF.most_bd16 (h : SmF A N i j H Z) (hA : A ≤ 10) {K : Nat} (hK : K ≤ 9) {b : Bool} {k : Int} (hm : IsMost (⟨Z, N, i, j, K, b⟩ : Exp).net ((K + 1) * N + 2) ((K + 1) * N) ((K + 1) * N + 1) k) : 0 ≤ k ∧ k ≤ 879609302220800 := by
  obtain ⟨hX, hW⟩ := h.net16 hA hK b
  refine ⟨isMost_nonneg hX.wide.lt (fun a ha => (hX.wide.caps a ha).1) (by omega) hm, ?_⟩
  obtain ⟨⟨F, hF⟩, _⟩ := hm
  have hl : (⟨Z, N, i, j, K, b⟩ : Exp).net.length ≤ 200 := by
    have h1 := kinds_len (⟨Z, N, i, j, K, b⟩ : Exp)
    simp only at h1
    have h2 : (K + 1) * Z.length ≤ 10 * 10 := Nat.mul_le_mul (by omega) (by have := h.arcs; omega)
    have h3 : (K + 1) * N ≤ 10 * 5 := Nat.mul_le_mul (by omega) (by have := h.nodes; omega)
    unfold Exp.net
    rw [List.length_map]
    omega
  have h4 := (flow_in hX.wide hF hl (⟨Z, N, i, j, K, b⟩ : Exp).net.length).2
  have h5 : balK (⟨Z, N, i, j, K, b⟩ : Exp).net F ((K + 1) * N) (⟨Z, N, i, j, K, b⟩ : Exp).net.length = k := hF.2.2
  omega
end
theorem best_isG {N i j : Nat} {Z : List ArcT} {H m : Int} (h : MostIs (N : Int) Z (i : Int) (j : Int) H m) : IsBest Z N i j H m := by
  obtain ⟨N', i', j', e1, e2, e3, _, _, _, _, hb⟩ := h
  obtain rfl : N = N' := by omega
  obtain rfl : i = i' := by omega
  obtain rfl : j = j' := by omega
  exact hb
section
variable (b : Bool) (ao : Option Addr) (cap nl : Nat) (Z : List ArcT)
theorem rmost12_G (N i j : Nat) (H : Int) (w : World) (h : Row encA 4 w ao Z) (hl : Z.length = nl) (hz : Z.length ≤ maxLen) (hE : askE (N : Int) Z (i : Int) (j : Int) H = 0) :
    Calls Tryz.prog 13 #[.agg #[.int .i64 (N : Int), .bool b, .slice ao nl cap], .int .i64 (i : Int), .int .i64 (j : Int), .int .i64 H] w fun e w' => ∃ m, e = .returned (.tuple #[.int .i64 m, .int .i64 0]) ∧ IsBest Z N i j H m ∧ Below w.heap.size w w' := by
  subst hl
  refine (rmost12_any (N : Int) b ao cap Z (i : Int) (j : Int) H w h hz).mono ?_
  rintro e w' ⟨m, rfl, h1, _, hb⟩
  rw [hE]
  exact ⟨m, rfl, best_isG (h1 hE), hb⟩
end
end Go.Proofs.YtlkbohpnlbfopaaGreat
