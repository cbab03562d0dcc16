/- What Sorted of package pile does, for any pairs: it tells the pairs in their order, in new memory. -/
import Derived.Test.YtmflleifglefiaaPLaid
import Derived.Test.YtmflleifglefiaaBE
import Derived.Shelf.SlSortFuncK.ComposeK
namespace Go.Proofs.Ytmflleifglefiaa
open Go.RowKit Go.Sort Go.Shelf
set_option linter.unusedVariables false

/-- A pair's two cells. -/
def encP (x : Int × Int) : List Value := [.int .i64 x.1, .int .i64 x.2]
theorem swoP : SWO (ltOf cmpP) where
  irrefl x := by show decide (cmpP x x < 0) = false; rw [cmpP_lt]; exact ltP_irrefl x
  trans x y z h1 h2 := by
    have a : ltP x y = true := by rw [← cmpP_lt]; exact h1
    have b : ltP y z = true := by rw [← cmpP_lt]; exact h2
    show decide (cmpP x z < 0) = true; rw [cmpP_lt]; exact ltP_trans a b
  ntrans x y z h1 h2 := by
    have a : ltP x y = false := by rw [← cmpP_lt]; exact h1
    have b : ltP y z = false := by rw [← cmpP_lt]; exact h2
    show decide (cmpP x z < 0) = false; rw [cmpP_lt]; exact ltP_ntrans a b
theorem kept_sort {w : World} {blk off n : Nat} {d : Array (Int × Int)} {os : Array Obj} : Kept (fun i => i = blk) w (sortWorldK encP 2 w blk off n d os) := by
  refine ⟨rfl, rfl, rfl, ?_, fun i hi hn => ?_⟩
  · simp [sortWorldK, grow, putRowK, putRow, mapBlock]
  · have hi' : i < (w.heap.modify blk (onCells (putCells id off (flatK encP 2 d)))).size := by simpa using hi
    show ((w.heap.modify blk (onCells (putCells id off (flatK encP 2 d)))) ++ os)[i]? = w.heap[i]?
    rw [Array.getElem?_append_left hi', Array.getElem?_modify, if_neg (fun e => hn e.symm)]
theorem holds_of_row {w : World} {base g n cap : Nat} {l : List (Int × Int)} (h : w.ownsRow base 137 2 (.slice (some ⟨g, 0, none⟩) n cap) n (flatP l)) (d : Array (Int × Int)) (hd : d.toList = l) : HoldsK encP 2 w g 0 d := by
  obtain ⟨hr, hn⟩ := row_of_own h d hd
  rcases hr with ⟨h0, _⟩ | ⟨g', cap', cur, e, hv, hg, h1, h2, h3, h4⟩
  · cases h0
  · cases e
    intro t ht
    rw [size_flatK] at ht
    have hj : t / 2 < d.size := by omega
    obtain ⟨a, b⟩ := h4 (t / 2) hj
    refine ⟨?_, frozen_whole hg _⟩
    rw [get_flatK _ _ _ _ ht, cell_whole hg, Nat.zero_add]
    have em : t = t / 2 * 2 ∨ t = t / 2 * 2 + 1 := by omega
    rcases em with em | em
    · have e0 : t % 2 = 0 := by omega
      rw [e0]; rw [← em] at a; rw [a]; rfl
    · have e0 : t % 2 = 1 := by omega
      rw [e0]; rw [← em] at b; rw [b]; rfl
theorem rp_of_holds {w : World} {g : Nat} {d : Array (Int × Int)} (h : HoldsK encP 2 w g 0 d) (hg : g < w.heap.size) : RP w (some ⟨g, 0, none⟩) d.toList := by
  intro i hi
  have hi' : i < d.size := by simpa using hi
  have h0 := (h.cell hi' (show (0 : Nat) < 2 by omega)).1
  have h1 := (h.cell hi' (show (1 : Nat) < 2 by omega)).1
  have e : d.toList.getD i (0, 0) = d[i]! := by rw [getElem!_pos d i hi', List.getD_eq_getElem?_getD, List.getElem?_eq_getElem hi]; simp
  refine ⟨g, 0, rfl, hg, ?_, ?_⟩
  · rw [e]; exact h0
  · rw [e]; exact h1
def Cloned (Z : List (Int × Int)) (w : World) (e : Ending) (w' : World) : Prop :=
  ∃ g cap, e = .returned (.slice (some ⟨g, 0, none⟩) Z.length cap) ∧ w'.ownsRow w.heap.size 137 2 (.slice (some ⟨g, 0, none⟩) Z.length cap) Z.length (flatP Z) ∧ w.heap.size ≤ g ∧ Below w.heap.size w w'
theorem flat_cells {w : World} {ad : Addr} {Z : List (Int × Int)} (h : RP w (some ad) Z) : ∀ j u, (flatP Z)[j]? = some u → w.cell? (ad.add j) = some u := by
  intro j u hj
  have hjl : j < Z.length * 2 := by
    rcases Nat.lt_or_ge j (Z.length * 2) with h | h
    · exact h
    · rw [List.getElem?_eq_none (by rw [flatP_length]; exact h)] at hj; cases hj
  have hj2 : j / 2 < Z.length := by omega
  obtain ⟨b, o, e, _, c0, c1⟩ := h (j / 2) hj2
  cases e
  rw [Addr.add_lit]
  obtain ⟨e0, e1⟩ := flatP_get Z (j / 2) hj2
  have hg : Z.getD (j / 2) (0, 0) = Z[j / 2] := by rw [List.getD_eq_getElem?_getD, List.getElem?_eq_getElem hj2]; rfl
  rw [hg] at c0 c1
  have em : j = j / 2 * 2 ∨ j = j / 2 * 2 + 1 := by omega
  rcases em with em | em
  · rw [← em] at c0 e0; rw [c0, ← hj, e0]
  · rw [Nat.add_assoc, ← em] at c1; rw [← em] at e1; rw [c1, ← hj, e1]
set_option maxHeartbeats 1000000 in
theorem clone_some (ad : Addr) (cap : Nat) (Z : List (Int × Int)) (w : World) (h : RP w (some ad) Z) (hs : Z.length ≤ 65536) :
    Calls Try.prog 89 #[.slice (some ad) Z.length cap] w (Cloned Z w) := by
  have HC := Lib.hid (flat_cells h)
  have hbl : ∀ j u, (flatP Z)[j]? = some u → ad.block < w.heap.size := fun j u hj => by
    have := block_lt_of_cell (HC.out j u hj); rwa [add_block] at this
  have HBL := Lib.hid hbl
  clear h hbl
  obtain ⟨i0, hi0, hz0, hz1, hz2⟩ := info_parts Try.infoPair
  have HI := Lib.hid (And.intro hi0 (And.intro hz0 (And.intro hz1 hz2)))
  clear hi0 hz0 hz1 hz2
  have q : ∀ (w : World) (a : Option Addr) (n c n' c' : Nat), (binOp .eql 135 (.slice a n c) (.slice none n' c')).run Try.prog w = .ok (.bool a.isNone) w := fun w a n c n' c' => Lib.run_eql_slice_nil w _ _ a n c n' c' Try.underlying135
  go_enter Try.func89, Try.ntmps89
  go_wp2_with (at_builtin; refine wpList_append_own _ rfl (.tmp 5) (.tmp 6) 135 rfl w.heap.size 137 i0 _ 2 16 Try.underlying135 HI.out.1 HI.out.2.1 HI.out.2.2.1 HI.out.2.2.2 rfl (by omega) (.slice (some ⟨w.heap.size, 0, none⟩) 0 0) 0 [] rfl (World.ownsRow_made w #[] 0 (Nat.le_refl _) (Nat.zero_le _) (by simp)) ad Z.length cap (flatP Z) rfl (flatP_length Z) (fun j u hj => by rw [((Below.refl _ w).alloc (Nat.le_refl _) _).cell (by rw [add_block]; exact HBL.out j u hj)]; exact HC.out j u hj) (flatP_one Z) (by unfold maxLen; omega) (by omega) (by simp) ?_; intro v' w' hown hgrow hnil; have HO := Lib.hid hown; have HG := Lib.hid hgrow; have HN := Lib.hid hnil; clear hown hgrow hnil)
  go_ret
  have hown := HO.out
  simp only [Nat.zero_add, List.nil_append] at hown
  rcases hown.2 with ⟨h0, _⟩ | ⟨g, cap', cur, rfl, hb, _⟩
  · have := HN.out.1 h0; exact absurd this.1 (by simp)
  · exact ⟨g, cap', rfl, hown, hb, ((Below.refl _ w).alloc (Nat.le_refl _) _).grown HG.out (by simp) (fun k hk => by simp [Value.ownBlock] at hk; omega)⟩
theorem clone_nil (n cap : Nat) (w : World) : Calls Try.prog 89 #[.slice none n cap] w fun e w' => e = .returned (.slice none 0 0) ∧ w' = w := by
  have q : ∀ (w : World) (a : Option Addr) (n c n' c' : Nat), (binOp .eql 135 (.slice a n c) (.slice none n' c')).run Try.prog w = .ok (.bool a.isNone) w := fun w a n c n' c' => Lib.run_eql_slice_nil w _ _ a n c n' c' Try.underlying135
  go_enter Try.func89, Try.ntmps89
  go_wp2
  go_ret
  exact ⟨rfl, rfl⟩
theorem cmpLays (blk off size : Nat) (w : World) : CmpLays Try.prog 91 #[] encP 2 cmpP blk off size w :=
  fun m os dk _ x y => (cmpp_any x y _).mono fun _ _ ⟨he, os', hw⟩ => ⟨he, 0, os', hw⟩
theorem sorted_of {d : Array (Int × Int)} (h : SortedIn (ltOf cmpP) 0 d.size d) : SortedP d.toList := by
  refine List.pairwise_iff_getElem.2 fun i j hi hj hij => ?_
  have := h i j (Nat.zero_le _) hij (by simpa using hj)
  rw [getElem!_pos d j (by simpa using hj), getElem!_pos d i (by simpa using hi)] at this
  have e : decide (cmpP d[j] d[i] < 0) = false := this
  rw [cmpP_lt] at e
  simpa using e
theorem perm_of {d d' : Array (Int × Int)} (h : PermIn 0 d.size d d') : d'.toList.Perm d.toList := by
  obtain ⟨h1, _, h3⟩ := h
  rw [Array.extract_size, show d'.extract 0 d.size = d' by rw [← h1]; exact Array.extract_size] at h3
  exact h3
/-- The library's sort, at a row of the call's own. -/
theorem sort_row (g cap base : Nat) (Z : List (Int × Int)) (w : World) (h : w.ownsRow base 137 2 (.slice (some ⟨g, 0, none⟩) Z.length cap) Z.length (flatP Z)) (hs : Z.length ≤ 65536) :
    Calls Try.prog 90 #[.slice (some ⟨g, 0, none⟩) Z.length cap, .func (.func 91) #[] #[]] w fun e w' => e = .returned (.tuple #[]) ∧ ∃ S, S.Perm Z ∧ SortedP S ∧ RP w' (some ⟨g, 0, none⟩) S ∧ Kept (fun i => i = g) w w' := by
  have eg : ∀ args w, (callFunc 91 args).run Try.prog w = .ok (.enter 91 args) w := enters_of Try.func91 (by kernel_rfl) rfl
  have hH := holds_of_row h Z.toArray rfl
  have hblk : g < w.heap.size := (h.lt g rfl).2
  have hS := AnyQ.slices_SortFunc Try.sortP 2 Try.isAgg137 Try.sizeOf137 encP (fun _ => rfl) (fun x v hv => by simp [encP] at hv; rcases hv with rfl | rfl <;> rfl) cmpP swoP 91 #[] g 0 cap Z.toArray w eg (cmpLays g 0 _ w) hH hblk (by simp; omega)
  change Calls Try.prog 90 #[.slice (some ⟨g, 0, none⟩) Z.length cap, .func (.func 91) #[] #[]] w _ at hS
  refine hS.mono ?_
  rintro e w' ⟨rfl, d', n, os, hp, hso, rfl⟩
  have hsz : d'.size = Z.toArray.size := hp.1
  refine ⟨rfl, d'.toList, perm_of hp, sorted_of (by rw [hsz]; exact hso), ?_, kept_sort⟩
  exact rp_of_holds (holdsK_sortWorldK encP 2 w g 0 n Z.toArray d' os hblk hH hsz) (lt_sortWorldK encP 2 w g 0 n d' os hblk)
def SortedRes (Z : List (Int × Int)) (w : World) (e : Ending) (w' : World) : Prop :=
  ∃ ao cap S, e = .returned (.slice ao Z.length cap) ∧ S.Perm Z ∧ SortedP S ∧ RP w' ao S ∧ Below w.heap.size w w' ∧ ∀ ad, ao = some ad → w.heap.size ≤ ad.block ∧ ad.block < w'.heap.size
theorem sorted_some (ad : Addr) (cap : Nat) (Z : List (Int × Int)) (w : World) (h : RP w (some ad) Z) (hs : Z.length ≤ 65536) :
    Calls Try.prog 88 #[.slice (some ad) Z.length cap] w (SortedRes Z w) := by
  have H := Lib.hid h
  clear h
  go_enter Try.func88, Try.ntmps88
  go_wp2_with (first
    | (go_at_call 89; refine (clone_some ad cap Z _ H.out hs).mono ?_; rintro e w2 ⟨g, cap2, rfl, ho2, hg2, hb2⟩; have HO2 := Lib.hid ho2; have HB2 := Lib.hid hb2; have hgl := (ho2.lt g rfl).2; clear ho2 hb2)
    | (go_at_call 90; refine (sort_row g cap2 _ Z _ HO2.out hs).mono ?_; rintro e w3 ⟨rfl, S, hp, hso, hrp, hk⟩; have HP := Lib.hid hp; have HSO := Lib.hid hso; have HRP := Lib.hid hrp; have HK := Lib.hid hk; clear hp hso hrp hk))
  go_ret
  exact ⟨_, cap2, S, rfl, HP.out, HSO.out, HRP.out, HB2.out.trans (HK.out.below HB2.out.size (fun i hi => by omega)), fun ad e => by cases e; exact ⟨hg2, Nat.lt_of_lt_of_le hgl HK.out.size⟩⟩
theorem sorted_nil (w : World) (cap : Nat) : Calls Try.prog 88 #[.slice none 0 cap] w (SortedRes [] w) := by
  have hS := fun W => AnyF.slices_SortFunc_none Try.sortP none 0 (.func (.func 91) #[] #[]) W
  change ∀ W, Calls Try.prog 90 _ _ _ at hS
  go_enter Try.func88, Try.ntmps88
  go_wp2_with (first
    | (go_at_call 89; refine (clone_nil _ _ _).mono ?_; rintro e w2 ⟨rfl, rfl⟩)
    | (go_at_call 90; refine (hS _).mono ?_; rintro e w3 ⟨rfl, rfl⟩))
  go_ret
  exact ⟨none, 0, [], rfl, List.Perm.refl _, List.Pairwise.nil, fun i hi => absurd hi (by simp), Below.refl _ _, fun ad e => by cases e⟩
theorem sorted_any (ao : Option Addr) (len cap : Nat) (Z : List (Int × Int)) (w : World) (hl : Z.length = len) (h : RP w ao Z) (hs : len ≤ 65536) : Calls Try.prog 88 #[.slice ao len cap] w (SortedRes Z w) := by
  subst hl
  cases ao with
  | some ad => exact sorted_some ad cap Z w h hs
  | none =>
    cases Z with
    | nil => exact sorted_nil w cap
    | cons z Z => obtain ⟨b, o, e, _⟩ := h 0 (by simp); cases e
end Go.Proofs.Ytmflleifglefiaa
