/- Lemmas of the layers below, several texts in one. -/
import Derived.Test.YtlkbohpnlbfopaaBF
import Derived.Test.YtlkbohpnlbfopaaBU
import Derived.Test.YtlkbohpnlbfopaaUMap
import Derived.WideKeyEntry
import Derived.Deep.AppendLies
namespace Go.Proofs.Ytlkbohpnlbfopaa
set_option linter.unusedVariables false
def crsP (E : Exp) (p : Int × Int) (x : Kd × Nat) : Option (Int × Int) :=
  match x.1 with
  | (0, i, u) => if ((E.frA i : Nat) : Int) = p.1 ∧ ((u : Nat) : Int) = p.2 then some ((i : Int), (x.2 : Int)) else none
  | _ => none
def crossF (E : Exp) (K : List Kd) (p : Int × Int) : List (Int × Int) := K.zipIdx.filterMap (crsP E p)
def qW : Kd → Option (Int × Int)
  | (1, v, u) => some ((v : Int), (u : Int))
  | _ => none
def qE (s : Nat) : Kd → Option (Int × Int)
  | (2, _, u) => some ((s : Int), (u : Int))
  | _ => none
def qX (t : Nat) : Kd → Option (Int × Int)
  | (3, _, u) => some ((t : Int), (u : Int))
  | _ => none
def plF (q : Kd → Option (Int × Int)) (K : List Kd) (p : Int × Int) : Option Int := (K.zipIdx.reverse.find? (fun x => q x.1 == some p)).map fun x => (x.2 : Int)
theorem zip_snoc (K : List Kd) (k : Kd) : (K ++ [k]).zipIdx = K.zipIdx ++ [(k, K.length)] := by rw [List.zipIdx_append]; simp
theorem crossF_snoc (E : Exp) (K : List Kd) (k : Kd) (p : Int × Int) : crossF E (K ++ [k]) p = crossF E K p ++ ((crsP E p (k, K.length)).toList) := by
  unfold crossF
  rw [zip_snoc, List.filterMap_append]
  cases h : crsP E p (k, K.length) <;> simp [h]
theorem crossF_mv (E : Exp) (K : List Kd) (i u : Nat) (p : Int × Int) : crossF E (K ++ [Kd.mv i u]) p = if p = (((E.frA i : Nat) : Int), (u : Int)) then crossF E K p ++ [((i : Int), (K.length : Int))] else crossF E K p := by
  rw [crossF_snoc]
  by_cases h : p = (((E.frA i : Nat) : Int), (u : Int))
  · rw [if_pos h]
    subst h
    simp [crsP]
  · rw [if_neg h]
    have : crsP E p (Kd.mv i u, K.length) = none := by
      show (if ((E.frA i : Nat) : Int) = p.1 ∧ (u : Int) = p.2 then some ((i : Int), ((K.length : Nat) : Int)) else none) = none
      rw [if_neg]
      rintro ⟨h1, h2⟩
      exact h (Prod.ext h1.symm h2.symm)
    rw [this]; simp
theorem crossF_other (E : Exp) (K : List Kd) (k : Kd) (h : k.1 ≠ 0) (p : Int × Int) : crossF E (K ++ [k]) p = crossF E K p := by
  rw [crossF_snoc]
  have : crsP E p (k, K.length) = none := by
    obtain ⟨a, b, c⟩ := k
    unfold crsP
    split
    · next e => simp only at e; cases e; exact absurd rfl h
    · rfl
  rw [this]; simp
theorem plF_snoc (q : Kd → Option (Int × Int)) (K : List Kd) (k : Kd) (p : Int × Int) : plF q (K ++ [k]) p = if q k = some p then some (K.length : Int) else plF q K p := by
  unfold plF
  rw [zip_snoc, List.reverse_append, List.reverse_singleton, List.singleton_append, List.find?_cons]
  by_cases h : q k = some p
  · rw [if_pos h, h]; simp
  · rw [if_neg h]
    have : (q k == some p) = false := by rw [beq_eq_false_iff_ne]; exact h
    simp only [this]
theorem plF_one (q : Kd → Option (Int × Int)) (K : List Kd) (k : Kd) (r : Int × Int) (h : q k = some r) (p : Int × Int) : plF q (K ++ [k]) p = if p = r then some (K.length : Int) else plF q K p := by
  rw [plF_snoc, h]
  by_cases e : p = r
  · subst e; rw [if_pos rfl, if_pos rfl]
  · rw [if_neg e, if_neg (fun e2 => e (Option.some.inj e2).symm)]
theorem plF_none (q : Kd → Option (Int × Int)) (K : List Kd) (k : Kd) (h : q k = none) (p : Int × Int) : plF q (K ++ [k]) p = plF q K p := by
  rw [plF_snoc, h, if_neg (by simp)]
theorem zip_at {K : List Kd} {k : Kd} {j : Nat} (h : (k, j) ∈ K.zipIdx) : K[j]? = some k := by
  have := List.mk_mem_zipIdx_iff_getElem?.1 h
  simpa using this
theorem at_zip {K : List Kd} {k : Kd} {j : Nat} (h : K[j]? = some k) : (k, j) ∈ K.zipIdx := List.mk_mem_zipIdx_iff_getElem?.2 h
theorem cross_at {E : Exp} {K : List Kd} {p : Int × Int} {x : Int × Int} (h : x ∈ crossF E K p) : ∃ (i u j : Nat), x = ((i : Int), (j : Int)) ∧ K[j]? = some (Kd.mv i u) ∧ p = (((E.frA i : Nat) : Int), (u : Int)) := by
  unfold crossF at h
  obtain ⟨⟨k, j⟩, h1, h2⟩ := List.mem_filterMap.1 h
  obtain ⟨a, i, u⟩ := k
  match a, h1, h2 with
  | 0, h1, h2 =>
    have h3 : (if ((E.frA i : Nat) : Int) = p.1 ∧ ((u : Nat) : Int) = p.2 then some ((i : Int), (j : Int)) else none) = some x := h2
    split at h3
    · next hc => cases h3; exact ⟨i, u, j, rfl, zip_at h1, Prod.ext hc.1.symm hc.2.symm⟩
    · cases h3
  | a + 1, h1, h2 => cases h2
theorem at_cross {E : Exp} {K : List Kd} {i u j : Nat} (h : K[j]? = some (Kd.mv i u)) : ((i : Int), (j : Int)) ∈ crossF E K (((E.frA i : Nat) : Int), (u : Int)) := by
  unfold crossF
  refine List.mem_filterMap.2 ⟨(Kd.mv i u, j), at_zip h, ?_⟩
  show (if ((E.frA i : Nat) : Int) = ((E.frA i : Nat) : Int) ∧ (u : Int) = (u : Int) then some ((i : Int), (j : Int)) else none) = _
  rw [if_pos ⟨rfl, rfl⟩]
end Go.Proofs.Ytlkbohpnlbfopaa
namespace Go.Proofs.Ytlkbohpnlbfopaa
open Go.RowKit Go.Maps Go.ChangeMaps Go.MapKept
set_option linter.unusedVariables false
theorem klawSlot : WideMaps.KeyLaw Try.prog 56 := deep_law_laid laidOut0 (m := 3) (by omega) (of_decide_eq_true (by kernel_rfl)) (by kernel_rfl) (by kernel_rfl)
def atV {β : Type} (mk : β → Value) (z : Value) : Option β → Value
  | some c => mk c
  | none => z
section
variable {β : Type} {mk : β → Value} {w w' : World} {b m : Nat} {f : Int × Int → Option β}
theorem slot_entry {t e : TypeId} (ht : Try.prog.underlying t = some (.map 56 e)) {z : Value} (hz : ∀ u : World, (zeroValue e).run Try.prog u = .ok z u) (h : SlotM mk w b m f) (hl : m < 200000) (p : Int × Int) (hp : okP p) :
    ∃ (hv : Value) (st : Nat) (w1 : World), hv = atV mk z (f p) ∧ (Instr.mapEntry t (.map (some b)) (slotV p)).run Try.prog w = .ok (.tuple #[hv, goInt st]) w1 ∧ w.grownBy w1 (some b) ∧ w1.heap.size = w.heap.size ∧
      ∀ (w2 : World) (c : β), w2.heap[b]? = w1.heap[b]? → ∃ w3, (Instr.entryStore t (.map (some b)) (goInt st) (mk c)).run Try.prog w2 = .ok () w3 ∧ SlotM mk w3 b (m + 1) (fun q => if q = p then some c else f q) ∧ w2.grownBy w3 (some b) := by
  obtain ⟨n, D, hn, hown, hD⟩ := h
  obtain ⟨kl, hkey⟩ := slot_key hp
  obtain ⟨es, clock, hb, F, hs, hDe⟩ := hown
  have hown : w.ownsMap Try.prog 56 rawV b n D := ⟨es, clock, hb, F, hs, hDe⟩
  obtain ⟨v0, st, es1, clock1, hrun, hv0, hback⟩ := WideElems.entry_then_store klawSlot ht hz hb F hkey
  obtain ⟨v, ps, hlook, hv⟩ := hown.lookup lawSlot ht (hz w) (zd := .held z) (zp := []) rfl hkey
  have e1 : v = atV mk z (f p) := by
    have h1 : DataW.held v = D.atKey kl (.held z) := by
      have := congrArg (fun o => o.map Prod.fst) hv
      simpa [rawV] using this
    cases hf : f p with
    | none =>
      rw [atKey_of_not_has ((hD.1 p kl hkey).2 hf)] at h1
      cases h1
      rfl
    | some c =>
      rw [((hD.1 p kl hkey).1 c hf).2] at h1
      cases h1
      rfl
  have e2 : v0 = v := by
    rcases Maps.fit_look false lawSlot ht (hz w) hb F hkey with ⟨hr, hno, _⟩ | ⟨e0, y, hm0, h3, hr, _⟩
    · rw [hr] at hlook
      cases hlook
      rcases hv0 with ⟨e0, h0, h1, h2⟩ | ⟨_, h2⟩
      · exact absurd h1 (hno e0 h0)
      · exact h2
    · rw [hr] at hlook
      cases hlook
      rcases hv0 with ⟨e0', h0, h1, h2⟩ | ⟨h0, _⟩
      · rw [h2, entry_eq_of_key ((stamped_iff es clock).1 F.stamped).2.2 h0 hm0 (h1.trans h3.symm)]; simp
      · exact absurd h3 (h0 e0 hm0)
  refine ⟨v, st, setBlock w b (.map es1 clock1), e1, by rw [hrun, e2], ⟨rfl, rfl, rfl, by simp [setBlock], fun i _ hi => heap_setBlock_other hb _ (fun e => hi (by rw [e]))⟩, by simp [setBlock], ?_⟩
  intro w2 c hw2
  rw [heap_setBlock_same hb] at hw2
  obtain ⟨es', clock', hst, hup⟩ := hback w2 (mk c) hw2
  refine ⟨_, hst, ?_, ⟨rfl, rfl, rfl, by simp [setBlock], fun i _ hi => heap_setBlock_other hw2 _ (fun e => hi (by rw [e]))⟩⟩
  obtain ⟨w', hrun', hown', hgr'⟩ := hown.update lawSlot ht (by unfold maxLen; omega) hkey (d := .held (mk c)) (ps := []) (val := mk c) rfl
  rw [hup] at hrun'
  cases hrun'
  obtain ⟨es2, clock2, hb2, hrest⟩ := hown'
  rw [heap_setBlock_same hb] at hb2
  cases hb2
  refine ⟨n + 1, _, by omega, ⟨_, _, heap_setBlock_same hw2 _, hrest⟩, ?_, ?_⟩
  · intro q yl hy
    have hM := hown.isMap
    by_cases hyz : q = p
    · subst hyz
      rw [hkey] at hy
      cases hy
      refine ⟨fun c' e => ?_, fun e => (by simp at e)⟩
      simp only [if_true] at e
      obtain rfl : c = c' := by simpa using e
      exact ⟨has_put_same hM (lawSlot.key hkey) _, fun z => atKey_put_same hM (lawSlot.key hkey) _ _⟩
    · have hne : yl ≠ kl := by
        rintro rfl
        exact hyz (slotV_inj (lawSlot.inj hy hkey))
      rw [has_put_other hne]
      simp only [if_neg hyz, atKey_put_other hne]
      exact hD.1 q yl hy
  · intro kl' hkl
    by_cases e : kl' = kl
    · subst e; exact ⟨p, hkey⟩
    · rw [has_put_other e] at hkl
      exact hD.2 kl' hkl
end
end Go.Proofs.Ytlkbohpnlbfopaa
namespace Go.Proofs.Ytlkbohpnlbfopaa
open Go.RowKit
set_option linter.unusedVariables false
theorem infoCrossing : (Try.prog.info? 124).map (fun i => (i.zero, i.size, i.bytes)) = some (some (.agg #[.int .i64 0, .int .i64 0]), 2, 16) := by kernel_rfl
theorem infoArc15 : (Try.prog.info? 73).map (fun i => (i.zero, i.size, i.bytes)) = some (some (.agg #[.int .i64 0, .int .i64 0, .int .i64 0, .int .i64 0]), 4, 32) := by kernel_rfl
def numV (x : Int) : Value := .int .i64 x
def hdV (c : Nat × Nat × Nat) : Value := .slice (some ⟨c.1, 0, none⟩) c.2.1 c.2.2
structure GBk where
  B : Nat
  gb : Nat
  bc : Nat
  bw : Nat
  be : Nat
  bx : Nat
structure GBk.Ok (b : GBk) : Prop where
  b0 : b.B ≤ b.gb ∧ b.B ≤ b.bc ∧ b.B ≤ b.bw ∧ b.B ≤ b.be ∧ b.B ≤ b.bx
  c1 : b.bc ≠ b.bw ∧ b.bc ≠ b.be ∧ b.bc ≠ b.bx
  c2 : b.bw ≠ b.be ∧ b.bw ≠ b.bx ∧ b.be ≠ b.bx
structure Cont where
  A : List ArcT
  C : Int × Int → List (Int × Int)
  W : Int × Int → Option Int
  E : Int × Int → Option Int
  X : Int × Int → Option Int
def grwL (b : GBk) (N H bn : Int) (av : Value) : List Value := [.int .i64 N, .int .i64 H, .int .i64 bn, .bool false, av, .map (some b.bc), .map (some b.bw), .map (some b.be), .map (some b.bx)]
structure GX (b : GBk) (N H bn : Int) (w : World) (c : Cont) (m : Nat) (av : Value) (hd : Int × Int → Option (Nat × Nat × Nat)) : Prop where
  ok : b.Ok
  box : w.heap[b.gb]? = some (.cells (grwL b N H bn av).toArray 101 (0, 0))
  arcs : w.ownsRow b.B 73 4 av c.A.length (c.A.flatMap encA)
  cm : SlotM hdV w b.bc m hd
  cn : ∀ p, hd p = none → c.C p = []
  cr : ∀ p x, hd p = some x → x.2.1 = (c.C p).length ∧ w.ownsRow b.B 124 2 (hdV x) (c.C p).length ((c.C p).flatMap encPQ)
  ap : ∀ p q x y, p ≠ q → hd p = some x → hd q = some y → x.1 ≠ y.1
  wm : SlotM numV w b.bw m c.W
  em : SlotM numV w b.be m c.E
  xm : SlotM numV w b.bx m c.X
def GS (b : GBk) (av : Value) (hd : Int × Int → Option (Nat × Nat × Nat)) (i : Nat) : Prop := i = b.gb ∨ i = b.bc ∨ i = b.bw ∨ i = b.be ∨ i = b.bx ∨ av.ownBlock = some i ∨ ∃ p x, hd p = some x ∧ x.1 = i
theorem own_old {w w' : World} {B : Nat} {e : TypeId} {k : Nat} {v : Value} {n : Nat} {xs : List Value} (h : w.ownsRow B e k v n xs) (hg : ∀ g, v.ownBlock = some g → w'.heap[g]? = w.heap[g]?) : w'.ownsRow B e k v n xs := by
  refine ⟨h.1, ?_⟩
  rcases h.2 with h1 | ⟨g', cap, cur, rfl, h2, h3, h4⟩
  · exact .inl h1
  · exact .inr ⟨g', cap, cur, rfl, h2, (hg g' rfl).trans h3, h4⟩
theorem hd_block (x : Nat × Nat × Nat) : (hdV x).ownBlock = some x.1 := rfl
theorem own_apart {w : World} {B B' g : Nat} {e e' : TypeId} {k k' : Nat} {v v' : Value} {n n' : Nat} {xs xs' : List Value} (h : w.ownsRow B e k v n xs) (h' : w.ownsRow B' e' k' v' n' xs') (hne : e ≠ e') (hg : v.ownBlock = some g) : v'.ownBlock ≠ some g := by
  intro hg'
  rcases h.2 with ⟨rfl, _⟩ | ⟨a, cap, cur, rfl, h2, h3, _⟩
  · cases hg
  · rcases h'.2 with ⟨rfl, _⟩ | ⟨a', cap', cur', rfl, h2', h3', _⟩
    · cases hg'
    · simp only [Value.ownBlock, Option.some.injEq] at hg hg'
      subst hg; subst hg'
      rw [h3] at h3'
      cases h3'
      exact hne rfl
theorem own_map {β : Type} {mk : β → Value} {w : World} {B g m : Nat} {e : TypeId} {k : Nat} {v : Value} {n : Nat} {xs : List Value} {f : Int × Int → Option β} (h : w.ownsRow B e k v n xs) (hm : SlotM mk w g m f) : v.ownBlock ≠ some g := by
  intro hg
  rcases h.2 with ⟨rfl, _⟩ | ⟨a, cap, cur, rfl, h2, h3, _⟩
  · cases hg
  · simp only [Value.ownBlock, Option.some.injEq] at hg
    subst hg
    exact hm.ne_box h3 rfl
section
variable {b : GBk} {N H bn : Int} {w w' : World} {c : Cont} {m : Nat} {av : Value} {hd : Int × Int → Option (Nat × Nat × Nat)}
theorem GX.mem (h : GX b N H bn w c m av hd) {i : Nat} (hi : GS b av hd i) : b.B ≤ i ∧ i < w.heap.size := by
  rcases hi with rfl | rfl | rfl | rfl | rfl | e | ⟨p, x, e, rfl⟩
  · exact ⟨h.ok.b0.1, lt_whole h.box⟩
  · exact ⟨h.ok.b0.2.1, h.cm.lt⟩
  · exact ⟨h.ok.b0.2.2.1, h.wm.lt⟩
  · exact ⟨h.ok.b0.2.2.2.1, h.em.lt⟩
  · exact ⟨h.ok.b0.2.2.2.2, h.xm.lt⟩
  · exact ⟨own_block h.arcs e, own_lt h.arcs e⟩
  · exact ⟨own_block (h.cr p x e).2 (hd_block x), own_lt (h.cr p x e).2 (hd_block x)⟩
theorem GX.off (h : GX b N H bn w c m av hd) {g : Nat} {cs : Array Value} {t : TypeId} (hg : w.heap[g]? = some (.cells cs t (0, 0))) (h1 : t ≠ 101) (h2 : t ≠ 73) (h3 : t ≠ 124) : ¬ GS b av hd g := by
  rintro (rfl | rfl | rfl | rfl | rfl | e | ⟨p, x, e, rfl⟩)
  · rw [h.box] at hg; cases hg; exact h1 rfl
  · exact h.cm.ne_box hg rfl
  · exact h.wm.ne_box hg rfl
  · exact h.em.ne_box hg rfl
  · exact h.xm.ne_box hg rfl
  · exact own_ne h.arcs hg h2 e
  · exact own_ne (h.cr p x e).2 hg h3 (hd_block x)
theorem GX.old (h : GX b N H bn w c m av hd) (he : ∀ i, GS b av hd i → w'.heap[i]? = w.heap[i]?) : GX b N H bn w' c m av hd where
  ok := h.ok
  box := (he _ (.inl rfl)).trans h.box
  arcs := own_old h.arcs (fun g e => he g (.inr (.inr (.inr (.inr (.inr (.inl e)))))))
  cm := h.cm.old (he _ (.inr (.inl rfl)))
  cn := h.cn
  cr := fun p x e => ⟨(h.cr p x e).1, own_old (h.cr p x e).2 (fun g eg => he g (.inr (.inr (.inr (.inr (.inr (.inr ⟨p, x, e, by rw [hd_block] at eg; exact Option.some.inj eg⟩)))))))⟩
  ap := h.ap
  wm := h.wm.old (he _ (.inr (.inr (.inl rfl))))
  em := h.em.old (he _ (.inr (.inr (.inr (.inl rfl)))))
  xm := h.xm.old (he _ (.inr (.inr (.inr (.inr (.inl rfl))))))
theorem GX.below (h : GX b N H bn w c m av hd) (hb : Below w.heap.size w w') : GX b N H bn w' c m av hd := h.old (fun i hi => hb.block i (h.mem hi).2)
theorem GX.keptS {S : Nat → Prop} (h : GX b N H bn w c m av hd) (hk : Kept S w w') (hn : ∀ i, GS b av hd i → ¬ S i) : GX b N H bn w' c m av hd := h.old (fun i hi => hk.block i (h.mem hi).2 (hn i hi))
theorem GX.mono (h : GX b N H bn w c m av hd) {k : Nat} (hk : m ≤ k) : GX b N H bn w c k av hd := { h with cm := h.cm.mono hk, wm := h.wm.mono hk, em := h.em.mono hk, xm := h.xm.mono hk }
theorem GX.eqv (h : GX b N H bn w c m av hd) {c' : Cont} (h0 : c.A = c'.A) (h1 : ∀ p, c.C p = c'.C p) (h2 : ∀ p, c.W p = c'.W p) (h3 : ∀ p, c.E p = c'.E p) (h4 : ∀ p, c.X p = c'.X p) : GX b N H bn w c' m av hd := by
  have : c = c' := by
    obtain ⟨a1, a2, a3, a4, a5⟩ := c
    obtain ⟨b1, b2, b3, b4, b5⟩ := c'
    simp only at h0 h1 h2 h3 h4
    rw [h0, funext h1, funext h2, funext h3, funext h4]
  rw [← this]; exact h
theorem GX.arc (h : GX b N H bn w c m av hd) {x : ArcT} {g cap : Nat} (ho : w'.ownsRow b.B 73 4 (.slice (some ⟨g, 0, none⟩) (c.A.length + 1) cap) (c.A ++ [x]).length ((c.A ++ [x]).flatMap encA)) (hg : w.grownBy w' av.ownBlock) :
    GX b N H bn (w'.setCell ⟨b.gb, 4, none⟩ (.slice (some ⟨g, 0, none⟩) (c.A.length + 1) cap)) { c with A := c.A ++ [x] } m (.slice (some ⟨g, 0, none⟩) (c.A.length + 1) cap) hd := by
  have hgb : av.ownBlock ≠ some b.gb := own_ne h.arcs h.box (by decide)
  have hbox : w'.heap[b.gb]? = some (.cells (grwL b N H bn av).toArray 101 (0, 0)) := (hg.block _ (lt_whole h.box) (fun e => hgb e.symm)).trans h.box
  have hcm := h.cm.kept hg (fun e => own_map h.arcs h.cm e.symm)
  have hwm := h.wm.kept hg (fun e => own_map h.arcs h.wm e.symm)
  have hem := h.em.kept hg (fun e => own_map h.arcs h.em e.symm)
  have hxm := h.xm.kept hg (fun e => own_map h.arcs h.xm e.symm)
  have oth : ∀ i, i ≠ b.gb → (w'.setCell ⟨b.gb, 4, none⟩ (.slice (some ⟨g, 0, none⟩) (c.A.length + 1) cap)).heap[i]? = w'.heap[i]? := fun i hi => Below.heap_setCell w' _ _ i hi
  refine ⟨h.ok, ?_, own_set ho hbox (by decide) 4 _, hcm.old (oth _ (hcm.ne_box hbox).symm), h.cn, fun p y e => ?_, h.ap, hwm.old (oth _ (hwm.ne_box hbox).symm), hem.old (oth _ (hem.ne_box hbox).symm), hxm.old (oth _ (hxm.ne_box hbox).symm)⟩
  · rw [set_whole hbox 4]
    rfl
  · refine ⟨(h.cr p y e).1, own_set ((h.cr p y e).2.kept hg ?_) hbox (by decide) 4 _⟩
    by_cases e2 : (hdV y).ownBlock = none
    · exact .inl e2
    · exact .inr (fun e3 => own_apart (h.cr p y e).2 h.arcs (by decide) (hd_block y) (by rw [← e3, hd_block]))
theorem GX.waits (h : GX b N H bn w c m av hd) {f : Int × Int → Option Int} (hm : SlotM numV w' b.bw (m + 1) f) (hg : w.grownBy w' (some b.bw)) : GX b N H bn w' { c with W := f } (m + 1) av hd := by
  have hb : ∀ i, i < w.heap.size → i ≠ b.bw → w'.heap[i]? = w.heap[i]? := fun i hi hne => hg.block i hi (fun e => hne (Option.some.inj e))
  refine ⟨h.ok, (hb _ (lt_whole h.box) (h.wm.ne_box h.box)).trans h.box, own_old h.arcs (fun g e => hb g (own_lt h.arcs e) (fun e2 => own_map h.arcs h.wm (e2 ▸ e))), (h.cm.old (hb _ h.cm.lt h.ok.c1.1)).mono (by omega), h.cn, fun p x e => ⟨(h.cr p x e).1, own_old (h.cr p x e).2 (fun g eg => hb g (own_lt (h.cr p x e).2 eg) (fun e2 => own_map (h.cr p x e).2 h.wm (e2 ▸ eg)))⟩, h.ap, hm, (h.em.old (hb _ h.em.lt h.ok.c2.1.symm)).mono (by omega), (h.xm.old (hb _ h.xm.lt h.ok.c2.2.1.symm)).mono (by omega)⟩
theorem GX.entries (h : GX b N H bn w c m av hd) {f : Int × Int → Option Int} (hm : SlotM numV w' b.be (m + 1) f) (hg : w.grownBy w' (some b.be)) : GX b N H bn w' { c with E := f } (m + 1) av hd := by
  have hb : ∀ i, i < w.heap.size → i ≠ b.be → w'.heap[i]? = w.heap[i]? := fun i hi hne => hg.block i hi (fun e => hne (Option.some.inj e))
  refine ⟨h.ok, (hb _ (lt_whole h.box) (h.em.ne_box h.box)).trans h.box, own_old h.arcs (fun g e => hb g (own_lt h.arcs e) (fun e2 => own_map h.arcs h.em (e2 ▸ e))), (h.cm.old (hb _ h.cm.lt h.ok.c1.2.1)).mono (by omega), h.cn, fun p x e => ⟨(h.cr p x e).1, own_old (h.cr p x e).2 (fun g eg => hb g (own_lt (h.cr p x e).2 eg) (fun e2 => own_map (h.cr p x e).2 h.em (e2 ▸ eg)))⟩, h.ap, (h.wm.old (hb _ h.wm.lt h.ok.c2.1)).mono (by omega), hm, (h.xm.old (hb _ h.xm.lt h.ok.c2.2.2.symm)).mono (by omega)⟩
theorem GX.exits (h : GX b N H bn w c m av hd) {f : Int × Int → Option Int} (hm : SlotM numV w' b.bx (m + 1) f) (hg : w.grownBy w' (some b.bx)) : GX b N H bn w' { c with X := f } (m + 1) av hd := by
  have hb : ∀ i, i < w.heap.size → i ≠ b.bx → w'.heap[i]? = w.heap[i]? := fun i hi hne => hg.block i hi (fun e => hne (Option.some.inj e))
  refine ⟨h.ok, (hb _ (lt_whole h.box) (h.xm.ne_box h.box)).trans h.box, own_old h.arcs (fun g e => hb g (own_lt h.arcs e) (fun e2 => own_map h.arcs h.xm (e2 ▸ e))), (h.cm.old (hb _ h.cm.lt h.ok.c1.2.2)).mono (by omega), h.cn, fun p x e => ⟨(h.cr p x e).1, own_old (h.cr p x e).2 (fun g eg => hb g (own_lt (h.cr p x e).2 eg) (fun e2 => own_map (h.cr p x e).2 h.xm (e2 ▸ eg)))⟩, h.ap, (h.wm.old (hb _ h.wm.lt h.ok.c2.2.1)).mono (by omega), (h.em.old (hb _ h.em.lt h.ok.c2.2.2)).mono (by omega), hm⟩
theorem GX.cross (h : GX b N H bn w c m av hd) (p x : Int × Int) {w1 w2 w3 : World} {g cap : Nat}
    (hg1 : w.grownBy w1 (some b.bc)) (hg2 : w1.grownBy w2 (match hd p with | some y => some y.1 | none => none)) (hl : (∃ y, hd p = some y ∧ y.1 = g) ∨ w.heap.size ≤ g) (ho : w2.ownsRow b.B 124 2 (hdV (g, (c.C p).length + 1, cap)) (c.C p ++ [x]).length ((c.C p ++ [x]).flatMap encPQ))
    (hm : SlotM hdV w3 b.bc (m + 1) (fun q => if q = p then some (g, (c.C p).length + 1, cap) else hd q)) (hg3 : w2.grownBy w3 (some b.bc)) :
    GX b N H bn w3 { c with C := fun q => if q = p then c.C p ++ [x] else c.C q } (m + 1) av (fun q => if q = p then some (g, (c.C p).length + 1, cap) else hd q) := by
  have hs1 := hg1.size
  have hs2 := hg2.size
  have hb : ∀ i, i < w.heap.size → i ≠ b.bc → (∀ y, hd p = some y → y.1 ≠ i) → w3.heap[i]? = w.heap[i]? := by
    intro i hi h1 h2
    rw [hg3.block i (by omega) (fun e => h1 (Option.some.inj e)), hg2.block i (by omega) (fun e => ?_), hg1.block i hi (fun e => h1 (Option.some.inj e))]
    cases hp : hd p with
    | none => rw [hp] at e; cases e
    | some y => rw [hp] at e; exact h2 y hp (Option.some.inj e).symm
  have hpt : ∀ y, hd p = some y → ∀ {g' : Nat} {cs : Array Value} {t : TypeId}, w.heap[g']? = some (.cells cs t (0, 0)) → t ≠ 124 → y.1 ≠ g' := fun y hy g' cs t hg' ht e => own_ne (h.cr p y hy).2 hg' ht (by rw [hd_block, e])
  have hpm : ∀ y, hd p = some y → ∀ {β : Type} {mk : β → Value} {g' n : Nat} {f : Int × Int → Option β}, SlotM mk w g' n f → y.1 ≠ g' := fun y hy β mk g' n f hg' e => own_map (h.cr p y hy).2 hg' (by rw [hd_block, e])
  refine ⟨h.ok, (hb _ (lt_whole h.box) (h.cm.ne_box h.box) (fun y hy => hpt y hy h.box (by decide))).trans h.box, own_old h.arcs (fun g' e => hb g' (own_lt h.arcs e) (fun e2 => own_map h.arcs h.cm (e2 ▸ e)) (fun y hy e2 => own_apart (h.cr p y hy).2 h.arcs (by decide) (hd_block y) (by rw [e2]; exact e))), hm, ?_, ?_, ?_, (h.wm.old (hb _ h.wm.lt h.ok.c1.1.symm (fun y hy => hpm y hy h.wm))).mono (by omega), (h.em.old (hb _ h.em.lt h.ok.c1.2.1.symm (fun y hy => hpm y hy h.em))).mono (by omega), (h.xm.old (hb _ h.xm.lt h.ok.c1.2.2.symm (fun y hy => hpm y hy h.xm))).mono (by omega)⟩
  · intro q hq
    by_cases e : q = p
    · subst e; simp at hq
    · simp only [if_neg e] at hq ⊢
      exact h.cn q hq
  · intro q y hq
    by_cases e : q = p
    · subst e
      simp only [if_true, Option.some.injEq] at hq ⊢
      subst hq
      refine ⟨by simp, own_old ho (fun g' eg => hg3.block g' (own_lt ho eg) (fun e2 => ?_))⟩
      have hbc : SlotM hdV w2 b.bc m hd := by
        refine (h.cm.old ?_)
        have := hg1.block b.bc h.cm.lt
        exact absurd e2 (by
          intro e3
          have hlt := h.cm.lt
          have e4 : g' = b.bc := Option.some.inj e3
          rw [hd_block] at eg
          have e5 : g = g' := Option.some.inj eg
          rcases hl with ⟨z, hz, hz1⟩ | hl
          · exact hpm z hz h.cm (by rw [hz1, e5, e4])
          · omega)
      exact own_map ho hbc (by rw [eg]; exact e2)
    · simp only [if_neg e] at hq ⊢
      refine ⟨(h.cr q y hq).1, own_old (h.cr q y hq).2 (fun g' eg => ?_)⟩
      refine hb g' (own_lt (h.cr q y hq).2 eg) (fun e2 => own_map (h.cr q y hq).2 h.cm (e2 ▸ eg)) (fun z hz e2 => ?_)
      rw [hd_block] at eg
      exact h.ap q p y z e hq hz (by rw [e2]; exact Option.some.inj eg)
  · have hgn : ∀ q y, q ≠ p → hd q = some y → y.1 ≠ g := by
      intro q y e hy e2
      rcases hl with ⟨z, hz, hz1⟩ | hl
      · exact h.ap q p y z e hy hz (by rw [hz1]; exact e2)
      · have := own_lt (h.cr q y hy).2 (hd_block y); omega
    intro q r y z hne hq hr
    by_cases e1 : q = p
    · by_cases e2 : r = p
      · exact absurd (e1.trans e2.symm) hne
      · simp only [if_pos e1, Option.some.injEq] at hq
        simp only [if_neg e2] at hr
        subst hq
        exact (hgn r z e2 hr).symm
    · by_cases e2 : r = p
      · simp only [if_neg e1] at hq
        simp only [if_pos e2, Option.some.injEq] at hr
        subst hr
        exact hgn q y e1 hq
      · simp only [if_neg e1] at hq
        simp only [if_neg e2] at hr
        exact h.ap q r y z hne hq hr
end
end Go.Proofs.Ytlkbohpnlbfopaa
