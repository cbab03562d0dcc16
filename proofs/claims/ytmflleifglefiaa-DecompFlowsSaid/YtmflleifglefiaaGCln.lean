/- A copy of arcs that a call owns (slices.Clone), and an arc of it that takes nothing any more. -/
import Derived.Test.YtmflleifglefiaaBH
import Derived.BigQuiet
import Derived.Deep.QuietTactic
import Derived.Deep.RegionHeld3
import Derived.Laws.OwnMore
import Derived.Maps.AppendAt
namespace Go.Proofs.Ytmflleifglefiaa
open Go.RowKit
set_option linter.unusedVariables false

theorem infoArcC : (Try.prog.info? 44).map (fun i => (i.zero, i.size, i.bytes)) = some (some (.agg #[.int .i64 0, .int .i64 0, .int .i64 0, .int .i64 0]), 4, 32) := by kernel_rfl
theorem flatC_len : ∀ Z : List ArcT, (Z.flatMap encA).length = Z.length * 4
  | [] => rfl
  | a :: r => by rw [List.flatMap_cons, List.length_append, flatC_len r, encA_len, List.length_cons]; omega
theorem flatC_one (Z : List ArcT) : ∀ u ∈ Z.flatMap encA, u.oneCell' = true := by
  intro u hu
  obtain ⟨a, _, h⟩ := List.mem_flatMap.1 hu
  exact encA_one a u h
theorem flatC_cells {w : World} {ad : Addr} {Z : List ArcT} (hf : Row encA 4 w (some ad) Z) : ∀ j u, (Z.flatMap encA)[j]? = some u → w.cell? (ad.add j) = some u := by
  intro j u hj
  have hjl := (List.getElem?_eq_some_iff.1 hj).1
  rw [flatC_len] at hjl
  have hi4 : j / 4 < Z.length := by omega
  obtain ⟨b', o', e, hb, hc⟩ := hf (j / 4) hi4
  cases e
  rw [Addr.add_lit, show o' + j = o' + j / 4 * 4 + j % 4 by omega, hc (j % 4) (by omega)]
  have h := flat_get encA_len Z (j / 4) (j % 4) (by omega)
  rw [show j / 4 * 4 + j % 4 = j by omega, hj, List.getElem?_eq_getElem hi4] at h
  exact h.symm
/-- An arc's Cap is turned. -/
theorem flatC_set : ∀ (L : List ArcT) (j : Nat) (a : ArcT) (c : Int), L[j]? = some a → (L.flatMap encA).set (j * 4 + 2) (.int .i64 c) = (L.set j (a.1, a.2.1, c, a.2.2.2)).flatMap encA
  | [], j, a, c, h => by simp at h
  | x :: r, 0, a, c, h => by
    simp only [List.getElem?_cons_zero, Option.some.injEq] at h
    subst h
    rfl
  | x :: r, j + 1, a, c, h => by
    simp only [List.getElem?_cons_succ] at h
    have ih := flatC_set r j a c h
    rw [List.flatMap_cons, List.set_append_right _ _ (by rw [encA_len]; omega), encA_len, show (j + 1) * 4 + 2 - 4 = j * 4 + 2 by omega, ih, List.set_cons_succ, List.flatMap_cons]
/-- A row of arcs of a call's own. -/
def OwnC (w : World) (base : Nat) (v : Value) (L : List ArcT) : Prop := w.ownsRow base 44 4 v L.length (L.flatMap encA)
section
variable {w w' : World} {base : Nat} {v : Value} {L : List ArcT}
theorem OwnC.below (h : OwnC w base v L) (hb : Below w.heap.size w w') : OwnC w' base v L := own_below h hb
theorem OwnC.row (h : OwnC w base v L) : ∃ xo xc, v = .slice xo L.length xc ∧ Row encA 4 w xo L := own_row encA_len h
theorem own_someC (h : OwnC w base v L) (h0 : 0 < L.length) : ∃ g cap, v = .slice (some ⟨g, 0, none⟩) L.length cap ∧ base ≤ g ∧ g < w.heap.size := by
  rcases h.2 with ⟨_, h1⟩ | ⟨g, cap, cur, rfl, hb, hg, _⟩
  · omega
  · exact ⟨g, cap, rfl, hb, lt_whole hg⟩
theorem OwnC.cap {g cap : Nat} (h : OwnC w base (.slice (some ⟨g, 0, none⟩) L.length cap) L) {j : Nat} {a : ArcT} (ha : L[j]? = some a) : w.cell? ⟨g, j * 4 + 2, none⟩ = some (.int .i64 a.2.2.1) ∧ w.frozen? ⟨g, j * 4 + 2, none⟩ = false := by
  have hj := (List.getElem?_eq_some_iff.1 ha).1
  refine ⟨?_, World.ownsRow.frozenAt h _⟩
  rw [World.ownsRow.cellAt h _ (by omega), flat_get encA_len L j 2 (by omega), ha]
  rfl
theorem OwnC.cut {g cap : Nat} (h : OwnC w base (.slice (some ⟨g, 0, none⟩) L.length cap) L) {j : Nat} {a : ArcT} (ha : L[j]? = some a) (c : Int) : OwnC (w.setCell ⟨g, j * 4 + 2, none⟩ (.int .i64 c)) base (.slice (some ⟨g, 0, none⟩) L.length cap) (L.set j (a.1, a.2.1, c, a.2.2.2)) := by
  have h1 := (World.ownsRow.stored h (j * 4 + 2) (.int .i64 c)).1
  rw [flatC_set L j a c ha] at h1
  unfold OwnC
  rw [List.length_set]
  exact h1
end
set_option maxHeartbeats 2000000 in
theorem pclone_some (ad : Addr) (cap : Nat) (Z : List ArcT) (w : World) (h : Row encA 4 w (some ad) Z) (hs : Z.length ≤ 200) :
    Calls Try.prog 46 #[.slice (some ad) Z.length cap] w fun e w' => ∃ v, e = .returned v ∧ OwnC w' w.heap.size v Z ∧ Below w.heap.size w w' := by
  have HC := Lib.hid (flatC_cells h)
  have hbl : ∀ j u, (Z.flatMap encA)[j]? = some u → ad.block < w.heap.size := fun j u hj => by
    have := block_lt_of_cell (HC.out j u hj); rwa [add_block] at this
  have HBL := Lib.hid hbl
  clear h hbl
  obtain ⟨i0, hi0, hz0, hz1, hz2⟩ := info_parts infoArcC
  have HI := Lib.hid (And.intro hi0 (And.intro hz0 (And.intro hz1 hz2)))
  clear hi0 hz0 hz1 hz2
  have q : ∀ (w : World) (a : Option Addr) (n c n' c' : Nat), (binOp .eql 22 (.slice a n c) (.slice none n' c')).run Try.prog w = .ok (.bool a.isNone) w := fun w a n c n' c' => Lib.run_eql_slice_nil w _ _ a n c n' c' Try.underlying22
  go_enter Try.func46, Try.ntmps46
  go_wp2_with (at_builtin; refine wpList_append_own_at _ rfl (.tmp 5) (.tmp 6) 22 rfl w.heap.size 44 i0 _ 4 32 Try.underlying22 HI.out.1 HI.out.2.1 HI.out.2.2.1 HI.out.2.2.2 rfl (by omega) (.slice (some ⟨w.heap.size, 0, none⟩) 0 0) 0 [] rfl (World.ownsRow_made w #[] 0 (Nat.le_refl _) (Nat.zero_le _) (by simp)) ad Z.length cap (Z.flatMap encA) rfl (flatC_len Z) (fun j u hj => by rw [((Below.refl _ w).alloc (Nat.le_refl _) _).cell (by rw [add_block]; exact HBL.out j u hj)]; exact HC.out j u hj) (flatC_one Z) (by unfold maxLen; omega) (by omega) (by simp) ?_; intro v' w' hown hgrow hnil hx4; have HO := Lib.hid hown; have HG := Lib.hid hgrow; clear hown hgrow hnil hx4)
  go_ret
  have hown := HO.out
  rw [List.nil_append, Nat.zero_add] at hown
  exact ⟨v', rfl, hown, ((Below.refl _ w).alloc (Nat.le_refl _) _).grown HG.out (by simp) (fun k hk => by simp [Value.ownBlock] at hk; omega)⟩
theorem pclone_nil (n cap : Nat) (w : World) : Calls Try.prog 46 #[.slice none n cap] w fun e w' => e = .returned (.slice none 0 0) ∧ w' = w := by
  have q : ∀ (w : World) (a : Option Addr) (n c n' c' : Nat), (binOp .eql 22 (.slice a n c) (.slice none n' c')).run Try.prog w = .ok (.bool a.isNone) w := fun w a n c n' c' => Lib.run_eql_slice_nil w _ _ a n c n' c' Try.underlying22
  go_enter Try.func46, Try.ntmps46
  go_wp2
  go_ret
  exact ⟨rfl, rfl⟩
theorem pclone_any (ao : Option Addr) (cap : Nat) (Z : List ArcT) (w : World) (h : Row encA 4 w ao Z) (hs : Z.length ≤ 200) :
    Calls Try.prog 46 #[.slice ao Z.length cap] w fun e w' => ∃ v, e = .returned v ∧ OwnC w' w.heap.size v Z ∧ Below w.heap.size w w' := by
  cases ao with
  | some ad => exact pclone_some ad cap Z w h hs
  | none =>
    have h0 : Z = [] := by
      cases Z with
      | nil => rfl
      | cons x r => obtain ⟨_, _, e, _⟩ := h 0 (by simp); cases e
    subst h0
    refine (pclone_nil _ cap w).mono ?_
    rintro e w' ⟨rfl, rfl⟩
    exact ⟨_, rfl, World.ownsRow_nil _ _ _ _, Below.refl _ _⟩
end Go.Proofs.Ytmflleifglefiaa
