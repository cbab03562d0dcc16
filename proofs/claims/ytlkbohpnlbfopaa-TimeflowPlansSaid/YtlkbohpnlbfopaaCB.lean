/- Lemmas of the layers below, several texts in one. -/
import Derived.Test.YtlkbohpnlbfopaaCA
import Derived.Deep.RegionHeld3
import Derived.Test.YtlkbohpnlbfopaaBC
namespace Go.Proofs.Ytlkbohpnlbfopaa
open Go.RowKit
set_option linter.unusedVariables false
theorem wor_zero {n : Int} {Z : List ArcT} {s t H : Int} : worE n Z s t (List.replicate Z.length 0) H = askE n Z s t H := by
  by_cases h : askE n Z s t H = 0
  · obtain ⟨N, i, j, rfl, rfl, rfl, _, _, _, hW, _, _⟩ := ask_net h
    rw [(wor_st h (zero_flow Z (fun a ha => (hW.caps a ha).1) N i j)).1, h]
  · unfold worE
    rw [if_neg h]
theorem made_zeros (W : World) (g n : Nat) (hg : W.heap.size = g) : Lst encI (W.alloc (.cells (madeCells #[.int .i64 0] n) 3)) (some ⟨g, 0, none⟩) (List.replicate n 0) := by
  subst hg
  intro i hi
  rw [List.length_replicate] at hi
  refine ⟨W.heap.size, 0, rfl, by simp, ?_⟩
  rw [Nat.zero_add, cell_new, List.getElem_replicate]
  show ((Array.range n).map (fun j => (#[Value.int .i64 0] : Array Value)[j % 1]!))[i]? = _
  rw [Array.getElem?_map, Array.getElem?_range, if_pos hi, Option.map_some, Nat.mod_one]
  rfl
section
variable (n : Int) (b : Bool) (ao : Option Addr) (cap : Nat) (Z : List ArcT) (s t H : Int)
theorem pworth_zero (fo : Option Addr) (fc : Nat) (e0 : Int) (w : World) (h : Row encA 4 w ao Z) (hf : Lst encI w fo (List.replicate Z.length 0)) (hz : Z.length ≤ maxLen) (he : askE n Z s t H = e0) :
    Calls Try.prog 52 #[.agg #[.int .i64 n, .bool b, .slice ao Z.length cap], .int .i64 s, .int .i64 t, .slice fo Z.length fc, .int .i64 H] w fun e w' => ∃ v, e = .returned (.tuple #[.int .i64 v, .int .i64 e0]) ∧ Below w.heap.size w w' := by
  have h1 := pworth_any n b ao fo cap fc Z (List.replicate Z.length 0) s t H w h hf hz (by rw [List.length_replicate]; exact hz)
  rw [List.length_replicate, wor_zero, he] at h1
  exact h1.mono (fun e w' h2 => ⟨_, h2.1, h2.2⟩)
end
end Go.Proofs.Ytlkbohpnlbfopaa
namespace Go.Proofs.Ytlkbohpnlbfopaa
open Go.RowKit
set_option linter.unusedVariables false
theorem nOf_none {M : List MoveT} {p : Int × Int} (h : p ∉ M.map fun m => (m.2.1, m.1)) : nOf M p = 0 := by
  unfold nOf
  rw [List.filter_eq_nil_iff.2]
  · rfl
  · intro m hm e
    exact h (List.mem_map.2 ⟨m, hm, of_decide_eq_true e⟩)
section
variable (n : Int) (b : Bool) (ao : Option Addr) (cap : Nat) (Z : List ArcT) (s t H : Int)
end
end Go.Proofs.Ytlkbohpnlbfopaa
namespace Go.Proofs.Ytlkbohpnlbfopaa
set_option linter.unusedVariables false
section
variable {Z : List ArcT}
end
end Go.Proofs.Ytlkbohpnlbfopaa
namespace Go.Proofs.Ytlkbohpnlbfopaa
open Go.RowKit
set_option linter.unusedVariables false
def IRow (w : World) (ga : Option Addr) (G : List (List Int)) : Prop := ∀ i (hi : i < G.length), ∃ b o ao cap, ga = some ⟨b, o, none⟩ ∧ b < w.heap.size ∧ w.cell? ⟨b, o + i, none⟩ = some (.slice ao G[i].length cap) ∧ Lst encI w ao G[i]
theorem IRow.below {w w' : World} {ga : Option Addr} {G : List (List Int)} (h : IRow w ga G) (hb : Below w.heap.size w w') : IRow w' ga G := by
  intro i hi
  obtain ⟨b, o, ao, cap, e, h1, h2, h3⟩ := h i hi
  exact ⟨b, o, ao, cap, e, Nat.lt_of_lt_of_le h1 hb.size, by rw [hb.cell h1]; exact h2, h3.below hb⟩
def RIw (w0 w : World) (ov : Value) (G : List (List Int)) : Prop := ∃ vs : List Value, OwnL encV w w0.heap.size 65 ov vs ∧ vs.length = G.length ∧
  ∀ i (hi : i < G.length), ∃ ao cap, vs[i]? = some (.slice ao G[i].length cap) ∧ Lst encI w ao G[i] ∧ ∀ ad, ao = some ad → 0 < G[i].length → some ad.block ≠ ov.ownBlock
theorem RIw.start (w : World) : RIw w w (.slice none 0 0) [] := ⟨[], OwnL.nil _ _ _, rfl, fun i hi => absurd hi (by simp)⟩
theorem RIw.below {w0 w w' : World} {ov : Value} {G : List (List Int)} (h : RIw w0 w ov G) (hb : Below w.heap.size w w') : RIw w0 w' ov G := by
  obtain ⟨vs, h1, h2, h3⟩ := h
  refine ⟨vs, h1.below hb, h2, fun i hi => ?_⟩
  obtain ⟨ao, cap, e1, e2, e3⟩ := h3 i hi
  exact ⟨ao, cap, e1, e2.below hb, e3⟩
theorem RIw.push {w0 w w' : World} {ov : Value} {G : List (List Int)} {vs : List Value} (h2 : vs.length = G.length)
    (h3 : ∀ i (hi : i < G.length), ∃ ao cap, vs[i]? = some (.slice ao G[i].length cap) ∧ Lst encI w ao G[i] ∧ ∀ ad, ao = some ad → 0 < G[i].length → some ad.block ≠ ov.ownBlock)
    {a : Option Addr} {g : List Int} {c : Nat} (hr : Lst encI w a g) (hn : ∀ ad, a = some ad → 0 < g.length → some ad.block ≠ ov.ownBlock) {gg n cap : Nat}
    (ho : OwnL encV w' w0.heap.size 65 (.slice (some ⟨gg, 0, none⟩) n cap) (vs ++ [Value.slice a g.length c])) (hg : w.grownBy w' ov.ownBlock) (hl : ov.ownBlock = some gg ∨ gg = w.heap.size) :
    RIw w0 w' (.slice (some ⟨gg, 0, none⟩) n cap) (G ++ [g]) := by
  have fresh : ∀ (ao : Option Addr) (l : List Int), Lst encI w ao l → (∀ ad, ao = some ad → 0 < l.length → some ad.block ≠ ov.ownBlock) → ∀ ad, ao = some ad → 0 < l.length → some ad.block ≠ (Value.slice (some ⟨gg, 0, none⟩) n cap).ownBlock := by
    intro ao l hrow hne ad e h0 e2
    have e3 : ad.block = gg := by simpa [Value.ownBlock] using e2
    rcases hl with hl | hl
    · exact hne ad e h0 (by rw [hl, e3])
    · have := hrow.lt ad e h0
      omega
  refine ⟨_, ho, by simp [h2], fun i hi => ?_⟩
  by_cases hi' : i < G.length
  · obtain ⟨ao, cp, e1, e2, e3⟩ := h3 i hi'
    have eG : (G ++ [g])[i] = G[i] := List.getElem_append_left hi'
    rw [eG]
    exact ⟨ao, cp, by rw [List.getElem?_append_left (by omega)]; exact e1, e2.grown hg (fun ad e h0 => e3 ad e h0), fresh ao _ e2 e3⟩
  · have hie : i = G.length := by simp at hi; omega
    subst hie
    have eG : (G ++ [g])[G.length] = g := by simp
    rw [eG]
    exact ⟨a, c, by rw [← h2]; simp, hr.grown hg (fun ad e h0 => hn ad e h0), fresh a _ hr hn⟩
theorem RIw.row {w0 w : World} {ov : Value} {G : List (List Int)} (h : RIw w0 w ov G) : ∃ ga cap, ov = .slice ga G.length cap ∧ IRow w ga G := by
  obtain ⟨vs, h1, h2, h3⟩ := h
  obtain ⟨ga, cap, e, hr⟩ := h1.lst
  refine ⟨ga, cap, by rw [e, h2], fun i hi => ?_⟩
  obtain ⟨b, o, e1, hb, hc⟩ := hr i (by omega)
  obtain ⟨ao, cp, e2, e3, _⟩ := h3 i hi
  refine ⟨b, o, ao, cp, e1, hb, ?_, e3⟩
  rw [hc]
  have : vs[i] = .slice ao G[i].length cp := (List.getElem?_eq_some_iff.1 e2).2
  rw [this]; rfl
theorem RIw.lt {w0 w : World} {ov : Value} {G : List (List Int)} (h : RIw w0 w ov G) : ∀ g, ov.ownBlock = some g → g < w.heap.size := by
  obtain ⟨vs, h1, _⟩ := h
  exact fun g e => own_lt h1 e
theorem irow_at {w : World} {ga : Option Addr} {G : List (List Int)} (h : IRow w ga G) {i : Nat} {g : List Int} (hg : G[i]? = some g) : ∃ b o ao cap, ga = some ⟨b, o, none⟩ ∧ b < w.heap.size ∧ w.cell? ⟨b, o + i, none⟩ = some (.slice ao g.length cap) ∧ Lst encI w ao g := by
  obtain ⟨hi, e⟩ := List.getElem?_eq_some_iff.1 hg
  subst e
  exact h i hi
end Go.Proofs.Ytlkbohpnlbfopaa
namespace Go.Proofs.Ytlkbohpnlbfopaa
open Go.RowKit
set_option linter.unusedVariables false
theorem plnE_bad {n : Int} {Z : List ArcT} {s t H : Int} {hold : Bool} {L : List MoveT} (h : mvE n Z s t H L ≠ 0) : plnE n Z s t H hold L = mvE n Z s t H L := by unfold plnE; rw [if_neg h]
theorem plnE_good {N i j hh : Nat} {Z : List ArcT} {hold : Bool} {L : List MoveT} (h : mvE (N : Int) Z (i : Int) (j : Int) (hh : Int) L = 0) : plnE (N : Int) Z (i : Int) (j : Int) (hh : Int) hold L = if planB Z L N i j hh hold = true then 0 else 141 := by
  unfold plnE
  rw [if_pos h]
  rfl
section
variable (n : Int) (b : Bool) (ao : Option Addr) (cap nl : Nat) (Z : List ArcT) (s t H : Int) (lo : Option Addr) (lc ll : Nat) (L : List MoveT)
end
section
variable (b : Bool) (ao : Option Addr) (cap nl : Nat) (Z : List ArcT) (N i j hh : Nat) (L : List MoveT)
theorem good_net (h : mvE (N : Int) Z (i : Int) (j : Int) (hh : Int) L = 0) : (i < N ∧ j < N ∧ i ≠ j) ∧ SpanNet Z N ∧ hh ≤ 1024 ∧ ∀ x ∈ mvs L, okM Z (i : Int) (j : Int) (hh : Int) x = true := by
  obtain ⟨h1, _, h3⟩ := mvE_ok.1 h
  obtain ⟨N', i', j', e1, e2, e3, g1, g2, g3, hW, _, g4⟩ := ask_net h1
  obtain rfl : N = N' := by omega
  obtain rfl : i = i' := by omega
  obtain rfl : j = j' := by omega
  exact ⟨⟨g1, g2, g3⟩, hW, by omega, h3⟩
end
section
variable (n : Int) (b : Bool) (ao : Option Addr) (cap nl : Nat) (Z : List ArcT) (s t H : Int) (lo : Option Addr) (lc ll : Nat) (L : List MoveT)
end
end Go.Proofs.Ytlkbohpnlbfopaa
namespace Go.Proofs.Ytlkbohpnlbfopaa
open Go.RowKit
set_option linter.unusedVariables false
theorem range_step {α : Type} (f : Nat → α) (u : Nat) : (List.range (u + 1)).map f = (List.range u).map f ++ [f u] := by rw [List.range_succ, List.map_append]; rfl
theorem range_lenM {α : Type} (f : Nat → α) (u : Nat) : ((List.range u).map f).length = u := by simp
section
variable (b : Bool) (ao : Option Addr) (cap nl : Nat) (Z : List ArcT) (N i j hh : Nat) (lo : Option Addr) (lc ll : Nat) (L : List MoveT)
end
end Go.Proofs.Ytlkbohpnlbfopaa
namespace Go.Proofs.Ytlkbohpnlbfopaa
open Go.RowKit
set_option linter.unusedVariables false
theorem plnV_is {n : Int} {Z : List ArcT} {s t H : Int} {hold : Bool} {L : List MoveT} (h : plnE n Z s t H hold L ≠ 0) : plnV n Z s t H hold L = 0 := by unfold plnV; rw [if_neg h]
theorem good_nat {n : Int} {Z : List ArcT} {s t H : Int} {L : List MoveT} (h : mvE n Z s t H L = 0) : ∃ N i j hh : Nat, n = (N : Int) ∧ s = (i : Int) ∧ t = (j : Int) ∧ H = (hh : Int) := by
  obtain ⟨h1, _, _⟩ := mvE_ok.1 h
  obtain ⟨N, i, j, e1, e2, e3, _, _, _, _, h4, _⟩ := ask_net h1
  exact ⟨N, i, j, H.toNat, e1, e2, e3, by omega⟩
section
variable (n : Int) (b : Bool) (ao : Option Addr) (cap nl : Nat) (Z : List ArcT) (s t H : Int) (lo : Option Addr) (lc ll : Nat) (L : List MoveT)
end
end Go.Proofs.Ytlkbohpnlbfopaa
