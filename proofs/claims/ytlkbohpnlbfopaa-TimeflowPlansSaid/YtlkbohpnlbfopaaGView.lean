/- A small network that came in: its numbers are bytes. -/
import Derived.Test.YtlkbohpnlbfopaaSFrame
import Derived.Test.YtlkbohpnlbfopaaCG
namespace Go.Proofs.Ytlkbohpnlbfopaa
open Go.ChangeShapes Go.WideShapes Go.ChangeAt Go.RowKit Go.ChangeMaps
set_option linter.unusedVariables false
theorem wf_u8 {a : Int} (h : (Lit.int .u8 a).wf = true) : ByteB a := by
  simp only [Lit.wf, IntKind.min, IntKind.max, IntKind.signed, IntKind.bits, Bool.and_eq_true, decide_eq_true_eq, Bool.false_eq_true, if_false] at h
  unfold ByteB
  omega
theorem cellsU8 : Try.prog.cellsOf 5 = 1 := by kernel_rfl
theorem cellsBit : Try.prog.cellsOf 71 = 4 := by kernel_rfl
theorem cellsSmall : Try.prog.cellsOf 39 = 6 := by kernel_rfl
section
open Go.Deep
variable {H : Type} {enc : TypeId × Value → H} {P : Program} {w : World} {base : Nat} {spare : Nat → Bool} {held : Bool}
theorem open_u8_structs {t e : TypeId} {fs : Array Field} {fuel : Nat} {cs : List Value} {x : DataW H × List MemPlace} (ht : P.underlying t = some (.slice e)) (he : P.underlying e = some (.struct fs))
    (hf : ∀ (j : Nat) (f : Field), fs[j]? = some f → f.offset = j ∧ P.cellsOf f.type = 1 ∧ P.underlying f.type = some (.int .u8)) {k : Nat} (hC : P.cellsOf e = k) (hfk : fs.size = k) (h : DataW.trod enc P w base spare held fuel t cs = some x) :
    cs = [.slice none 0 0] ∨ ∃ (a : Addr) (len cap : Nat), cs = [.slice (some a) len cap] ∧ len ≤ cap ∧ len ≤ maxLen ∧
      ∀ i j : Nat, ∃ z : Int, i < len → j < k → w.cell? (a.add (i * k + j)) = some (.int .u8 z) ∧ ByteB z := by
  subst hfk
  rcases open_slice ht h with ⟨h0, _⟩ | ⟨a, len, cap, m, n, D, Pl, hcs, hb, hl, hm, hmm, hx, hi⟩
  · exact .inl h0
  · refine .inr ⟨a, len, cap, hcs, by omega, by omega, fun i j => ?_⟩
    by_cases hij : i < len ∧ j < fs.size
    · have him : i < m := by rw [hmm]; split <;> omega
      obtain ⟨cs', hc, ht'⟩ := hi i him
      rw [hC] at hc
      obtain ⟨ys, n', _, _, hlen, hyl, hg⟩ := DataW.trod_struct he ht'
      obtain ⟨_, hcl, hat⟩ := World.cells?_some hc
      have hfj : fs[j]? = some fs[j] := Array.getElem?_eq_getElem hij.2
      obtain ⟨ho, hk, hu⟩ := hf j _ hfj
      have h1 := hg j _ hfj
      rw [ho, hk] at h1
      have hyj : ys[j]? = some (ys[j]'(by omega)) := List.getElem?_eq_getElem (by omega)
      rw [hyj] at h1
      obtain ⟨z, hz, _, hwf⟩ := DataW.trod_int hu h1
      refine ⟨z, fun _ _ => ⟨?_, wf_u8 hwf⟩⟩
      rw [← Go.Deep.add_add, hat j hij.2]
      have hd : (cs'.drop j).take 1 = [cs'[j]'(by omega)] := by rw [List.drop_eq_getElem_cons (by omega)]; rfl
      rw [hd] at hz
      rw [List.getElem?_eq_getElem (by omega), List.cons.inj hz |>.1]
    · exact ⟨0, fun h1 h2 => absurd ⟨h1, h2⟩ hij⟩
theorem open_agg6 {r : Go.Reach} {b0 : Nat} {t : TypeId} {fs : Array Field} {v : Value} {d : DataW H} {p : List MemPlace} (hs : P.underlying t = some (.struct fs)) (hn : fs.size = 6) (hone : ∀ (j : Nat) (f : Field), fs[j]? = some f → f.offset = j ∧ P.cellsOf f.type = 1) (hC : P.cellsOf t = 6)
    (hv : Value.okWide P w r b0 t v) (h : DataW.Trod enc P w base spare held t v d p) :
    ∃ (c : Nat → Value) (n : Nat), v = .agg #[c 0, c 1, c 2, c 3, c 4, c 5] ∧ ∀ (j : Nat) (f : Field), fs[j]? = some f → ∃ y, DataW.trod enc P w base spare held n f.type [c j] = some y := by
  obtain ⟨cs, rfl, hsz⟩ := okWide_struct hs hv
  rw [hC] at hsz
  obtain ⟨fuel, hf⟩ := h
  obtain ⟨ys, n', _, _, hlen, hyl, hg⟩ := DataW.trod_struct hs hf
  have hl : cs.toList.length = 6 := by rw [Array.length_toList]; exact hsz
  refine ⟨fun j => cs.toList.getD j undef, n', ?_, fun j f hj => ?_⟩
  · congr 1
    apply Array.toList_inj.1
    match h : cs.toList, hl with
    | [a, b, c, d, e, f], _ => rfl
  · have hj6 : j < 6 := by rw [← hn]; exact (Array.getElem?_eq_some_iff.1 hj).1
    obtain ⟨ho, hk⟩ := hone j f hj
    have h1 := hg j f hj
    rw [ho, hk] at h1
    have hyj : ys[j]? = some (ys[j]'(by omega)) := List.getElem?_eq_getElem (by omega)
    rw [hyj] at h1
    have hd : List.take 1 (List.drop j (Value.agg cs).cells.toList) = [cs.toList.getD j undef] := by
      have e1 : (Value.agg cs).cells = cs := rfl
      rw [e1, List.drop_eq_getElem_cons (by omega), List.getD_eq_getElem?_getD, List.getElem?_eq_getElem (by omega)]
      rfl
    rw [hd] at h1
    exact ⟨_, h1⟩
end
theorem rows_u8 {α : Type} {enc : α → List Value} {k : Nat} (hk0 : 0 < k) (mk : (Nat → Int) → α) (hmk : ∀ f j, j < k → (enc (mk f))[j]? = some (.int .u8 (f j))) {W : World} {a : Addr} {len : Nat}
    (hc : ∀ i j : Nat, ∃ z : Int, i < len → j < k → W.cell? (a.add (i * k + j)) = some (.int .u8 z) ∧ ByteB z) :
    ∃ Z : List α, Z.length = len ∧ Row enc k W (some a) Z ∧ ∀ x ∈ Z, ∃ f : Nat → Int, x = mk f ∧ ∀ j, j < k → ByteB (f j) := by
  refine ⟨(List.range len).map fun i => mk (fun j => Classical.choose (hc i j)), by simp, fun i hi => ?_, fun x hx => ?_⟩
  · have hi' : i < len := by simpa using hi
    have h0 := (Classical.choose_spec (hc i 0) hi' hk0).1
    have hb := block_lt_of_cell h0
    rw [add_blockQ] at hb
    have h00 := (Classical.choose_spec (hc 0 0) (by omega) hk0).1
    have hsp := plain_addrQ (a := a) (by simpa using h00)
    obtain ⟨ab, ax, sp⟩ := a
    simp only at hsp
    subst hsp
    refine ⟨ab, ax, rfl, hb, fun j hj => ?_⟩
    have h1 := (Classical.choose_spec (hc i j) hi' hj).1
    have h2 := cell_litQ h1
    rw [Nat.add_assoc, h2, List.getElem_map, List.getElem_range, hmk _ j hj]
  · obtain ⟨i, hi, rfl⟩ := List.mem_map.1 hx
    refine ⟨_, rfl, fun j hj => ?_⟩
    rw [List.mem_range] at hi
    exact (Classical.choose_spec (hc i j) hi hj).2
theorem viewBits {H : Type} {enc : TypeId × Value → H} {W : World} {fuel : Nat} {v : Value} {x : DataW H × List MemPlace}
    (hf : DataW.trod enc Try.prog W 0 (fun _ => true) true fuel 37 [v] = some x) :
    ∃ (ao : Option Addr) (cap : Nat) (B : List BitT), v = .slice ao B.length cap ∧ B.length ≤ maxLen ∧ Row encBit 4 W ao B ∧ ∀ x ∈ B, BitOk x := by
  rcases open_u8_structs Try.underlying37 Try.underlying71 (fun j f hj => by
      match j, hj with
      | 0, hj => simp at hj; subst hj; exact ⟨rfl, cellsU8, Try.underlying5⟩
      | 1, hj => simp at hj; subst hj; exact ⟨rfl, cellsU8, Try.underlying5⟩
      | 2, hj => simp at hj; subst hj; exact ⟨rfl, cellsU8, Try.underlying5⟩
      | 3, hj => simp at hj; subst hj; exact ⟨rfl, cellsU8, Try.underlying5⟩
      | j + 4, hj => simp at hj) cellsBit rfl hf with hcs | ⟨a, len', cap', hcs, hcp, hm, hc⟩
  · cases hcs
    exact ⟨_, _, [], rfl, Nat.zero_le _, Row.nil _ _, fun x hx => by cases hx⟩
  · cases hcs
    obtain ⟨Z, h1, h2, h3⟩ := rows_u8 (enc := encBit) (by omega) (fun f => (f 0, f 1, f 2, f 3)) (fun f j hj => by
      match j, hj with
      | 0, _ => rfl
      | 1, _ => rfl
      | 2, _ => rfl
      | 3, _ => rfl) hc
    subst h1
    refine ⟨_, _, Z, rfl, hm, h2, fun x hx => ?_⟩
    obtain ⟨f, rfl, hb⟩ := h3 x hx
    exact ⟨hb 0 (by omega), hb 1 (by omega), hb 2 (by omega), hb 3 (by omega)⟩
set_option maxRecDepth 100000 in
theorem viewSmall {H : Type} {enc : TypeId × Value → H} {W : World} {base : Nat} {v : Value} {d : DataW H} {p : List MemPlace} (hv : Value.okWide Try.prog W .any base 39 v)
    (h : DataW.Trod enc Try.prog W 0 (fun _ => true) true 39 v d p) : ∃ (nn s t sp : Int) (hold : Bool) (ba : Option Addr) (bc : Nat) (B : List BitT), v = .agg #[.int .u8 nn, .bool hold, .slice ba B.length bc, .int .u8 s, .int .u8 t, .int .u8 sp] ∧ B.length ≤ maxLen ∧ Row encBit 4 W ba B ∧ (∀ x ∈ B, BitOk x) ∧ ByteB nn ∧ ByteB s ∧ ByteB t ∧ ByteB sp := by
  obtain ⟨c, n, rfl, hg⟩ := open_agg6 Try.underlying39 rfl (fun j f hj => by
    match j, hj with
    | 0, hj => simp at hj; subst hj; exact ⟨rfl, by kernel_rfl⟩
    | 1, hj => simp at hj; subst hj; exact ⟨rfl, by kernel_rfl⟩
    | 2, hj => simp at hj; subst hj; exact ⟨rfl, by kernel_rfl⟩
    | 3, hj => simp at hj; subst hj; exact ⟨rfl, by kernel_rfl⟩
    | 4, hj => simp at hj; subst hj; exact ⟨rfl, by kernel_rfl⟩
    | 5, hj => simp at hj; subst hj; exact ⟨rfl, by kernel_rfl⟩
    | j + 6, hj => simp at hj) cellsSmall hv h
  obtain ⟨y0, t0⟩ := hg 0 _ rfl
  obtain ⟨y1, t1⟩ := hg 1 _ rfl
  obtain ⟨y2, t2⟩ := hg 2 _ rfl
  obtain ⟨y3, t3⟩ := hg 3 _ rfl
  obtain ⟨y4, t4⟩ := hg 4 _ rfl
  obtain ⟨y5, t5⟩ := hg 5 _ rfl
  obtain ⟨a0, e0, _, w0⟩ := DataW.trod_int Try.underlying5 t0
  obtain ⟨b1, e1, _⟩ := DataW.trod_bool Try.underlying4 t1
  obtain ⟨ba, bc, B, e2, h1, h2, h3⟩ := viewBits t2
  obtain ⟨a3, e3, _, w3⟩ := DataW.trod_int Try.underlying5 t3
  obtain ⟨a4, e4, _, w4⟩ := DataW.trod_int Try.underlying5 t4
  obtain ⟨a5, e5, _, w5⟩ := DataW.trod_int Try.underlying5 t5
  refine ⟨a0, a3, a4, a5, b1, ba, bc, B, ?_, h1, h2, h3, wf_u8 w0, wf_u8 w3, wf_u8 w4, wf_u8 w5⟩
  rw [(List.cons.inj e0).1, (List.cons.inj e1).1, e2, (List.cons.inj e3).1, (List.cons.inj e4).1, (List.cons.inj e5).1]
end Go.Proofs.Ytlkbohpnlbfopaa
