/- A network that came in, and how far its arcs may reach; an arc that came in. -/
import Derived.Test.YtlkbohpnlbfopaaSFrame
import Derived.SizedLaws
namespace Go.Proofs.Ytlkbohpnlbfopaa
open Go.ChangeShapes Go.WideShapes Go.ChangeAt Go.RowKit Go.ChangeMaps
set_option linter.unusedVariables false
theorem bytesArc : Try.prog.bytesOf 73 = 32 := by kernel_rfl
theorem arcs_weigh {H : Type} {enc : TypeId × Value → H} {W : World} {fuel : Nat} {v : Value} {x : DataW H × List MemPlace}
    (hf : DataW.trod enc Try.prog W 0 (fun _ => true) true fuel 22 [v] = some x) :
    ∀ (ao : Option Addr) (len cap : Nat), v = .slice ao len cap → (ao = none → cap = 0) ∧ (len = 0 ∨ ∃ E S : List (DataW H), x.1 = .slice E S ∧ E.length = len) := by
  intro ao len cap e
  subst e
  rcases Go.Deep.open_slice Try.underlying22 hf with ⟨hcs, _⟩ | ⟨a, len', cap', m, n, D, Pl, hcs, _, _, _, _, hx, _⟩
  · cases hcs
    exact ⟨fun _ => rfl, .inl rfl⟩
  · cases hcs
    exact ⟨fun h => (by cases h), .inr ⟨_, _, by rw [hx], by simp⟩⟩
set_option maxRecDepth 100000 in
theorem viewNetW {H : Type} {enc : TypeId × Value → H} {W : World} {base : Nat} {v : Value} {d : DataW H} {p : List MemPlace} (hv : Value.okWide Try.prog W .any base 24 v)
    (h : DataW.Trod enc Try.prog W 0 (fun _ => true) true 24 v d p) {ts : List TypeId} {ds : List (DataW H)} (hw : (DataW.weightsEach Try.prog (24 :: ts) (d :: ds)).all (· ≤ reachBytes) = true) :
    ∃ (n : Int) (b : Bool) (ao : Option Addr) (len cap : Nat) (Z : List ArcT), v = .agg #[.int .i64 n, .bool b, .slice ao len cap] ∧ Z.length = len ∧ (ao = none → cap = 0) ∧ len ≤ maxLen ∧ Row encA 4 W ao Z ∧ len * 32 ≤ 140737488351232 := by
  obtain ⟨v0, v1, v2, y0, y1, y2, n, rfl, hd, _, t0, t1, t2⟩ := Joins.open_agg3 Try.underlying24 (by kernel_rfl) cellsNet hv h
  obtain ⟨a, ha, _, wa⟩ := DataW.trod_int Try.underlying3 t0
  obtain ⟨b, hb, _⟩ := DataW.trod_bool Try.underlying4 t1
  obtain ⟨ao, len, cap, Z, hs, h1, hcp, h2, h3⟩ := viewArcs t2
  obtain ⟨hn, hE⟩ := arcs_weigh t2 ao len cap hs
  subst hs
  cases ha; cases hb
  refine ⟨a, b, ao, len, cap, Z, rfl, h1, hn, h2, h3, ?_⟩
  rcases hE with h0 | ⟨E, S, hx, hl⟩
  · omega
  · have hm : (E.length + S.length) * Try.prog.bytesOf 73 ∈ DataW.weightsEach Try.prog (24 :: ts) (d :: ds) := by
      simp only [DataW.weightsEach, hd, DataW.weights, Try.underlying24, hx, Try.underlying22, List.map, List.mem_append, List.mem_cons]
      simp
    have h4 := List.all_eq_true.1 hw _ hm
    rw [bytesArc, hl] at h4
    have h5 : (len + S.length) * 32 ≤ reachBytes := by simpa using h4
    unfold reachBytes at h5
    omega
end Go.Proofs.Ytlkbohpnlbfopaa
