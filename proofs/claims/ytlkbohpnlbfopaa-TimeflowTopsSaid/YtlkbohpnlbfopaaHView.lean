/- Movements that came in; a case that came in: its numbers are bytes. -/
import Derived.Test.YtlkbohpnlbfopaaGView
import Derived.Test.YtlkbohpnlbfopaaCP
namespace Go.Proofs.Ytlkbohpnlbfopaa
open Go.ChangeShapes Go.WideShapes Go.ChangeAt Go.RowKit Go.ChangeMaps
set_option linter.unusedVariables false
theorem cellsBit14 : Try.prog.cellsOf 82 = 3 := by kernel_rfl
theorem cellsBits14 : Try.prog.cellsOf 47 = 1 := by kernel_rfl
theorem cellsCase14 : Try.prog.cellsOf 49 = 7 := by kernel_rfl
theorem cellsBits8 : Try.prog.cellsOf 37 = 1 := by kernel_rfl
theorem cellsBoolH : Try.prog.cellsOf 4 = 1 := by kernel_rfl
theorem viewBy {H : Type} {enc : TypeId × Value → H} {W : World} {fuel : Nat} {v : Value} {x : DataW H × List MemPlace}
    (hf : DataW.trod enc Try.prog W 0 (fun _ => true) true fuel 47 [v] = some x) :
    ∃ (ao : Option Addr) (cap : Nat) (B : List ByT), v = .slice ao B.length cap ∧ B.length ≤ maxLen ∧ Row encBy 3 W ao B ∧ ∀ x ∈ B, ByOk x := by
  rcases open_u8_structs Try.underlying47 Try.underlying82 (fun j f hj => by
      match j, hj with
      | 0, hj => simp at hj; subst hj; exact ⟨rfl, cellsU8, Try.underlying5⟩
      | 1, hj => simp at hj; subst hj; exact ⟨rfl, cellsU8, Try.underlying5⟩
      | 2, hj => simp at hj; subst hj; exact ⟨rfl, cellsU8, Try.underlying5⟩
      | j + 3, hj => simp at hj) cellsBit14 rfl hf with hcs | ⟨a, len', cap', hcs, hcp, hm, hc⟩
  · cases hcs
    exact ⟨_, _, [], rfl, Nat.zero_le _, Row.nil _ _, fun x hx => by cases hx⟩
  · cases hcs
    obtain ⟨Z, h1, h2, h3⟩ := rows_u8 (enc := encBy) (by omega) (fun f => (f 0, f 1, f 2)) (fun f j hj => by
      match j, hj with
      | 0, _ => rfl
      | 1, _ => rfl
      | 2, _ => rfl) hc
    subst h1
    refine ⟨_, _, Z, rfl, hm, h2, fun x hx => ?_⟩
    obtain ⟨f, rfl, hb⟩ := h3 x hx
    exact ⟨hb 0 (by omega), hb 1 (by omega), hb 2 (by omega)⟩
theorem list7 {α : Type} {l : List α} (h : l.length = 7) : ∃ a b c d e f g, l = [a, b, c, d, e, f, g] := by
  match l, h with
  | [a, b, c, d, e, f, g], _ => exact ⟨a, b, c, d, e, f, g, rfl⟩
set_option maxRecDepth 100000 in
theorem viewCase {H : Type} {enc : TypeId × Value → H} {W : World} {base : Nat} {v : Value} {d : DataW H} {p : List MemPlace} (hv : Value.okWide Try.prog W .any base 49 v)
    (h : DataW.Trod enc Try.prog W 0 (fun _ => true) true 49 v d p) : ∃ (nn s t sp : Int) (hold : Bool) (ba : Option Addr) (bc : Nat) (B : List BitT) (la : Option Addr) (lc : Nat) (K : List ByT), v = .agg #[.int .u8 nn, .bool hold, .slice ba B.length bc, .int .u8 s, .int .u8 t, .int .u8 sp, .slice la K.length lc] ∧ B.length ≤ maxLen ∧ Row encBit 4 W ba B ∧ (∀ x ∈ B, BitOk x) ∧ ByteB nn ∧ ByteB s ∧ ByteB t ∧ ByteB sp ∧ K.length ≤ maxLen ∧ Row encBy 3 W la K ∧ ∀ x ∈ K, ByOk x := by
  obtain ⟨cs, rfl, hsz⟩ := okWide_struct Try.underlying49 hv
  rw [cellsCase14] at hsz
  obtain ⟨fuel, hf⟩ := h
  obtain ⟨ys, n', _, _, hlen, hyl, hg⟩ := DataW.trod_struct Try.underlying49 hf
  obtain ⟨c0, c1, c2, c3, c4, c5, c6, hcs⟩ := list7 (l := cs.toList) (by rw [Array.length_toList]; exact hsz)
  obtain rfl : cs = #[c0, c1, c2, c3, c4, c5, c6] := Array.toList_inj.1 hcs
  have h0 : DataW.trod enc Try.prog W 0 (fun _ => true) true n' 39 (List.take (Try.prog.cellsOf 39) [c0, c1, c2, c3, c4, c5, c6]) = ys[0]? := hg 0 _ rfl
  have h1 : DataW.trod enc Try.prog W 0 (fun _ => true) true n' 47 (List.take (Try.prog.cellsOf 47) [c6]) = ys[1]? := hg 1 _ rfl
  have hy2 : ys.length = 2 := hyl
  rw [cellsSmall, List.getElem?_eq_getElem (by omega)] at h0
  rw [cellsBits14, List.getElem?_eq_getElem (by omega)] at h1
  obtain ⟨zs, n2, _, _, _, hzl, hk⟩ := DataW.trod_struct Try.underlying39 h0
  have hz6 : zs.length = 6 := hzl
  have t0 : DataW.trod enc Try.prog W 0 (fun _ => true) true n2 5 (List.take (Try.prog.cellsOf 5) [c0, c1, c2, c3, c4, c5]) = zs[0]? := hk 0 _ rfl
  have t1 : DataW.trod enc Try.prog W 0 (fun _ => true) true n2 4 (List.take (Try.prog.cellsOf 4) [c1, c2, c3, c4, c5]) = zs[1]? := hk 1 _ rfl
  have t2 : DataW.trod enc Try.prog W 0 (fun _ => true) true n2 37 (List.take (Try.prog.cellsOf 37) [c2, c3, c4, c5]) = zs[2]? := hk 2 _ rfl
  have t3 : DataW.trod enc Try.prog W 0 (fun _ => true) true n2 5 (List.take (Try.prog.cellsOf 5) [c3, c4, c5]) = zs[3]? := hk 3 _ rfl
  have t4 : DataW.trod enc Try.prog W 0 (fun _ => true) true n2 5 (List.take (Try.prog.cellsOf 5) [c4, c5]) = zs[4]? := hk 4 _ rfl
  have t5 : DataW.trod enc Try.prog W 0 (fun _ => true) true n2 5 (List.take (Try.prog.cellsOf 5) [c5]) = zs[5]? := hk 5 _ rfl
  rw [cellsU8, List.getElem?_eq_getElem (by omega)] at t0 t3 t4 t5
  rw [cellsBoolH, List.getElem?_eq_getElem (by omega)] at t1
  rw [cellsBits8, List.getElem?_eq_getElem (by omega)] at t2
  obtain ⟨a0, e0, _, w0⟩ := DataW.trod_int Try.underlying5 t0
  obtain ⟨b1, e1, _⟩ := DataW.trod_bool Try.underlying4 t1
  obtain ⟨ba, bc, B, e2, g1, g2, g3⟩ := viewBits t2
  obtain ⟨a3, e3, _, w3⟩ := DataW.trod_int Try.underlying5 t3
  obtain ⟨a4, e4, _, w4⟩ := DataW.trod_int Try.underlying5 t4
  obtain ⟨a5, e5, _, w5⟩ := DataW.trod_int Try.underlying5 t5
  obtain ⟨la, lc, K, e6, k1, k2, k3⟩ := viewBy h1
  refine ⟨a0, a3, a4, a5, b1, ba, bc, B, la, lc, K, ?_, g1, g2, g3, wf_u8 w0, wf_u8 w3, wf_u8 w4, wf_u8 w5, k1, k2, k3⟩
  rw [(List.cons.inj e0).1, (List.cons.inj e1).1, e2, (List.cons.inj e3).1, (List.cons.inj e4).1, (List.cons.inj e5).1, e6]
end Go.Proofs.Ytlkbohpnlbfopaa
