/- Rows of rows of numbers; such rows that are the same are told to be; a row of numbers cloned. -/
import Derived.Test.YtbkmfjegbmjknaaBC
import Derived.Test.YtbkmfjegbmjknaaHFin
namespace Go.Proofs.Ytbkmfjegbmjknaa
open Go.RowKit
set_option linter.unusedVariables false

/-- The places of a slice of slices hold these rows of places. -/
def IRow (w : World) (ga : Option Addr) (G : List (List Int)) : Prop := ∀ i (hi : i < G.length), ∃ b o ao cap, ga = some ⟨b, o, none⟩ ∧ b < w.heap.size ∧ w.cell? ⟨b, o + i, none⟩ = some (.slice ao G[i].length cap) ∧ Lst encI w ao G[i]
theorem IRow.below {w w' : World} {ga : Option Addr} {G : List (List Int)} (h : IRow w ga G) (hb : Below w.heap.size w w') : IRow w' ga G := by
  intro i hi
  obtain ⟨b, o, ao, cap, e, h1, h2, h3⟩ := h i hi
  exact ⟨b, o, ao, cap, e, Nat.lt_of_lt_of_le h1 hb.size, by rw [hb.cell h1]; exact h2, h3.below hb⟩
/-- Rows of places, each written once, in a row of the call's own. -/
def RIw (w0 w : World) (ov : Value) (G : List (List Int)) : Prop := ∃ vs : List Value, OwnL encV w w0.heap.size 42 ov vs ∧ vs.length = G.length ∧
  ∀ i (hi : i < G.length), ∃ ao cap, vs[i]? = some (.slice ao G[i].length cap) ∧ Lst encI w ao G[i] ∧ ∀ ad, ao = some ad → 0 < G[i].length → some ad.block ≠ ov.ownBlock
theorem RIw.start (w : World) : RIw w w (.slice none 0 0) [] := ⟨[], OwnL.nil _ _ _, rfl, fun i hi => absurd hi (by simp)⟩
theorem RIw.below {w0 w w' : World} {ov : Value} {G : List (List Int)} (h : RIw w0 w ov G) (hb : Below w.heap.size w w') : RIw w0 w' ov G := by
  obtain ⟨vs, h1, h2, h3⟩ := h
  refine ⟨vs, h1.below hb, h2, fun i hi => ?_⟩
  obtain ⟨ao, cap, e1, e2, e3⟩ := h3 i hi
  exact ⟨ao, cap, e1, e2.below hb, e3⟩
theorem RIw.push {w0 w w' : World} {ov : Value} {G : List (List Int)} {vs : List Value} (h2 : vs.length = G.length)
    (h3 : ∀ i (hi : i < G.length), ∃ ao cap, vs[i]? = some (.slice ao G[i].length cap) ∧ Lst encI w ao G[i] ∧ ∀ ad, ao = some ad → 0 < G[i].length → some ad.block ≠ ov.ownBlock)
    {a : Option Addr} {g : List Int} {c : Nat} (hr : Lst encI w a g) (hn : ∀ ad, a = some ad → 0 < g.length → some ad.block ≠ ov.ownBlock) {gg n cap : Nat}
    (ho : OwnL encV w' w0.heap.size 42 (.slice (some ⟨gg, 0, none⟩) n cap) (vs ++ [Value.slice a g.length c])) (hg : w.grownBy w' ov.ownBlock) (hl : ov.ownBlock = some gg ∨ gg = w.heap.size) :
    RIw w0 w' (.slice (some ⟨gg, 0, none⟩) n cap) (G ++ [g]) := by
  have fresh : ∀ (ao : Option Addr) (l : List Int), Lst encI w ao l → (∀ ad, ao = some ad → 0 < l.length → some ad.block ≠ ov.ownBlock) → ∀ ad, ao = some ad → 0 < l.length → some ad.block ≠ (Value.slice (some ⟨gg, 0, none⟩) n cap).ownBlock := by
    intro ao l hrow hne ad e h0 e2
    have e3 : ad.block = gg := by simpa [Value.ownBlock] using e2
    rcases hl with hl | hl
    · exact hne ad e h0 (by rw [hl, e3])
    · have := hrow.lt ad e h0
      omega
  refine ⟨_, ho, by simp [h2], fun i hi => ?_⟩
  by_cases hi' : i < G.length
  · obtain ⟨ao, cp, e1, e2, e3⟩ := h3 i hi'
    have eG : (G ++ [g])[i] = G[i] := List.getElem_append_left hi'
    rw [eG]
    exact ⟨ao, cp, by rw [List.getElem?_append_left (by omega)]; exact e1, e2.grown hg (fun ad e h0 => e3 ad e h0), fresh ao _ e2 e3⟩
  · have hie : i = G.length := by simp at hi; omega
    subst hie
    have eG : (G ++ [g])[G.length] = g := by simp
    rw [eG]
    exact ⟨a, c, by rw [← h2]; simp, hr.grown hg (fun ad e h0 => hn ad e h0), fresh a _ hr hn⟩
theorem RIw.row {w0 w : World} {ov : Value} {G : List (List Int)} (h : RIw w0 w ov G) : ∃ ga cap, ov = .slice ga G.length cap ∧ IRow w ga G := by
  obtain ⟨vs, h1, h2, h3⟩ := h
  obtain ⟨ga, cap, e, hr⟩ := h1.lst
  refine ⟨ga, cap, by rw [e, h2], fun i hi => ?_⟩
  obtain ⟨b, o, e1, hb, hc⟩ := hr i (by omega)
  obtain ⟨ao, cp, e2, e3, _⟩ := h3 i hi
  refine ⟨b, o, ao, cp, e1, hb, ?_, e3⟩
  rw [hc]
  have : vs[i] = .slice ao G[i].length cp := (List.getElem?_eq_some_iff.1 e2).2
  rw [this]; rfl
theorem RIw.lt {w0 w : World} {ov : Value} {G : List (List Int)} (h : RIw w0 w ov G) : ∀ g, ov.ownBlock = some g → g < w.heap.size := by
  obtain ⟨vs, h1, _⟩ := h
  exact fun g e => own_lt h1 e
theorem irow_at {w : World} {ga : Option Addr} {G : List (List Int)} (h : IRow w ga G) {i : Nat} {g : List Int} (hg : G[i]? = some g) : ∃ b o ao cap, ga = some ⟨b, o, none⟩ ∧ b < w.heap.size ∧ w.cell? ⟨b, o + i, none⟩ = some (.slice ao g.length cap) ∧ Lst encI w ao g := by
  obtain ⟨hi, e⟩ := List.getElem?_eq_some_iff.1 hg
  subst e
  exact h i hi
theorem cellsN_at {w : World} {ad : Addr} {Z : List Int} (h : Lst encI w (some ad) Z) : ∀ j u, (Z.map encI)[j]? = some u → w.cell? (ad.add j) = some u := by
  intro j u hj
  have hjl := (List.getElem?_eq_some_iff.1 hj).1
  rw [List.length_map] at hjl
  obtain ⟨b', o', e, hb, hc⟩ := h j hjl
  cases e
  rw [Addr.add_lit, hc]
  rw [List.getElem?_map, List.getElem?_eq_getElem hjl] at hj
  exact hj
theorem lenN (Z : List Int) : (Z.map encI).length = Z.length * 1 := by simp
theorem oneN (Z : List Int) : ∀ u ∈ Z.map encI, u.oneCell' = true := by
  intro u hu
  obtain ⟨a, _, rfl⟩ := List.mem_map.1 hu
  rfl
set_option maxHeartbeats 2000000 in
theorem nclone_some (ad : Addr) (cap : Nat) (Z : List Int) (w : World) (h : Lst encI w (some ad) Z) (hs : Z.length ≤ 200) :
    Calls Try.prog 80 #[.slice (some ad) Z.length cap] w fun e w' => ∃ v, e = .returned v ∧ OwnL encI w' w.heap.size 3 v Z ∧ Below w.heap.size w w' := by
  have HC := Lib.hid (cellsN_at h)
  have hbl : ∀ j u, (Z.map encI)[j]? = some u → ad.block < w.heap.size := fun j u hj => by
    have := block_lt_of_cell (HC.out j u hj); rwa [add_block] at this
  have HBL := Lib.hid hbl
  clear h hbl
  obtain ⟨i0, hi0, hz0, hz1, hz2⟩ := info_parts infoInt
  have HI := Lib.hid (And.intro hi0 (And.intro hz0 (And.intro hz1 hz2)))
  clear hi0 hz0 hz1 hz2
  have q : ∀ (w : World) (a : Option Addr) (n c n' c' : Nat), (binOp .eql 42 (.slice a n c) (.slice none n' c')).run Try.prog w = .ok (.bool a.isNone) w := fun w a n c n' c' => Lib.run_eql_slice_nil w _ _ a n c n' c' Try.underlying42
  go_enter Try.func80, Try.ntmps80
  go_wp2_with (at_builtin; refine wpList_append_own_at _ rfl (.tmp 5) (.tmp 6) 42 rfl w.heap.size 3 i0 _ 1 8 Try.underlying42 HI.out.1 HI.out.2.1 HI.out.2.2.1 HI.out.2.2.2 rfl (by omega) (.slice (some ⟨w.heap.size, 0, none⟩) 0 0) 0 [] rfl (World.ownsRow_made w #[] 0 (Nat.le_refl _) (Nat.zero_le _) (by simp)) ad Z.length cap (Z.map encI) rfl (lenN Z) (fun j u hj => by rw [((Below.refl _ w).alloc (Nat.le_refl _) _).cell (by rw [add_block]; exact HBL.out j u hj)]; exact HC.out j u hj) (oneN Z) (by unfold maxLen; omega) (by omega) (by simp) ?_; intro v' w' hown hgrow hnil hx4; have HO := Lib.hid hown; have HG := Lib.hid hgrow; clear hown hgrow hnil hx4)
  go_ret
  have hown := HO.out
  rw [List.nil_append, Nat.zero_add] at hown
  exact ⟨v', rfl, hown, ((Below.refl _ w).alloc (Nat.le_refl _) _).grown HG.out (by simp) (fun k hk => by simp [Value.ownBlock] at hk; omega)⟩
theorem nclone_nil (n cap : Nat) (w : World) : Calls Try.prog 80 #[.slice none n cap] w fun e w' => e = .returned (.slice none 0 0) ∧ w' = w := by
  have q : ∀ (w : World) (a : Option Addr) (n c n' c' : Nat), (binOp .eql 42 (.slice a n c) (.slice none n' c')).run Try.prog w = .ok (.bool a.isNone) w := fun w a n c n' c' => Lib.run_eql_slice_nil w _ _ a n c n' c' Try.underlying42
  go_enter Try.func80, Try.ntmps80
  go_wp2
  go_ret
  exact ⟨rfl, rfl⟩
theorem nclone_any (ao : Option Addr) (cap : Nat) (Z : List Int) (w : World) (h : Lst encI w ao Z) (hs : Z.length ≤ 200) :
    Calls Try.prog 80 #[.slice ao Z.length cap] w fun e w' => ∃ v, e = .returned v ∧ OwnL encI w' w.heap.size 3 v Z ∧ Below w.heap.size w w' := by
  cases ao with
  | some ad => exact nclone_some ad cap Z w h hs
  | none =>
    have h0 : Z = [] := by
      cases Z with
      | nil => rfl
      | cons x r => obtain ⟨_, _, e, _⟩ := h 0 (by simp); cases e
    subst h0
    refine (nclone_nil _ cap w).mono ?_
    rintro e w' ⟨rfl, rfl⟩
    exact ⟨_, rfl, World.ownsRow_nil _ _ _ _, Below.refl _ _⟩
end Go.Proofs.Ytbkmfjegbmjknaa
