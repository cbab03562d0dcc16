/- The library's sort, at rows of a call's own: arcs, slots and movements in the order that package table asks for. -/
import Derived.Test.YtieomjkiabfhcaaTLaid
import Derived.Test.YtieomjkiabfhcaaTCmp
import Derived.Shelf.SlSortFuncK.ComposeK
namespace Go.Proofs.Ytieomjkiabfhcaa
open Go.RowKit Go.Sort Go.Shelf
set_option linter.unusedVariables false

theorem swo_of {α : Type} {cf : α → α → Int} {key : α → Int × Int × Int} (hc : ∀ a b, decide (cf a b < 0) = ltK (key a) (key b)) : SWO (ltOf cf) where
  irrefl x := by show decide (cf x x < 0) = false; rw [hc]; exact ltK_irrefl _
  trans x y z h1 h2 := by
    have a : ltK (key x) (key y) = true := by rw [← hc]; exact h1
    have b : ltK (key y) (key z) = true := by rw [← hc]; exact h2
    show decide (cf x z < 0) = true; rw [hc]; exact ltK_trans a b
  ntrans x y z h1 h2 := by
    have a : ltK (key x) (key y) = false := by rw [← hc]; exact h1
    have b : ltK (key y) (key z) = false := by rw [← hc]; exact h2
    show decide (cf x z < 0) = false; rw [hc]; exact ltK_ntrans a b
section
variable {α : Type} [Inhabited α] {enc : α → List Value} {k : Nat}
theorem kept_sort {w : World} {blk off n : Nat} {d : Array α} {os : Array Obj} : Kept (fun i => i = blk) w (sortWorldK enc k w blk off n d os) := by
  refine ⟨rfl, rfl, rfl, ?_, fun i hi hn => ?_⟩
  · simp [sortWorldK, grow, putRowK, putRow, mapBlock]
  · have hi' : i < (w.heap.modify blk (onCells (putCells id off (flatK enc k d)))).size := by simpa using hi
    show ((w.heap.modify blk (onCells (putCells id off (flatK enc k d)))) ++ os)[i]? = w.heap[i]?
    rw [Array.getElem?_append_left hi', Array.getElem?_modify, if_neg (fun e => hn e.symm)]
theorem holds_of_own (hk : ∀ x, (enc x).length = k) (hk0 : 0 < k) {w : World} {base g n cap : Nat} {e : TypeId} {Z : List α} (h : w.ownsRow base e k (.slice (some ⟨g, 0, none⟩) n cap) Z.length (Z.flatMap enc)) : HoldsK enc k w g 0 Z.toArray := by
  rcases h.2 with ⟨h0, _⟩ | ⟨g', cap', cur, e1, hb, hg, h1, h2, h3, h4⟩
  · cases h0
  · cases e1
    intro t ht
    rw [size_flatK] at ht
    refine ⟨?_, frozen_whole hg _⟩
    have ht' : t < Z.length * k := by simpa using ht
    obtain ⟨i, j, rfl, hj, hi⟩ := flat_split hk Z ht'
    have e1 : (i * k + j) / k = i := by rw [Nat.mul_comm, Nat.mul_add_div hk0, Nat.div_eq_of_lt hj]; omega
    have e2 : (i * k + j) % k = j := by rw [Nat.mul_comm, Nat.mul_add_mod, Nat.mod_eq_of_lt hj]
    rw [get_flatK _ _ _ _ ht, cell_whole hg, Nat.zero_add, ← Array.getElem?_toList]
    have e3 : (cur.toList.take (Z.length * k))[i * k + j]? = cur.toList[i * k + j]? := List.getElem?_take_of_lt ht'
    rw [← e3, h4, flat_get hk Z i j hj, List.getElem?_eq_getElem hi, e1, e2]
    rw [getElem!_pos Z.toArray i (by simpa using hi)]
    simp only [List.getElem_toArray, Option.bind_some, id]
    rw [List.getElem?_eq_getElem (by rw [hk]; exact hj), getElem!_pos _ j (by rw [hk]; exact hj)]
theorem row_of_holds (hk : ∀ x, (enc x).length = k) {w : World} {g : Nat} {d : Array α} (h : HoldsK enc k w g 0 d) (hg : g < w.heap.size) : Row enc k w (some ⟨g, 0, none⟩) d.toList := by
  intro i hi
  have hi' : i < d.size := by simpa using hi
  refine ⟨g, 0, rfl, hg, fun j hj => ?_⟩
  rw [(h.cell hi' hj).1, getElem!_pos d i hi']
  rw [Array.getElem_toList, List.getElem?_eq_getElem (by rw [hk]; exact hj), getElem!_pos _ j (by rw [hk]; exact hj)]
def Sorted (key : α → Int × Int × Int) (l : List α) : Prop := l.Pairwise fun x y => ltK (key y) (key x) = false
theorem sorted_of {cf : α → α → Int} {key : α → Int × Int × Int} (hc : ∀ a b, decide (cf a b < 0) = ltK (key a) (key b)) {d : Array α} (h : SortedIn (ltOf cf) 0 d.size d) : Sorted key d.toList := by
  refine List.pairwise_iff_getElem.2 fun i j hi hj hij => ?_
  have := h i j (Nat.zero_le _) hij (by simpa using hj)
  rw [getElem!_pos d j (by simpa using hj), getElem!_pos d i (by simpa using hi)] at this
  have e : decide (cf d[j] d[i] < 0) = false := this
  rw [hc] at e
  simpa using e
theorem perm_of {d d' : Array α} (h : PermIn 0 d.size d d') : d'.toList.Perm d.toList := by
  obtain ⟨h1, _, h3⟩ := h
  rw [Array.extract_size, show d'.extract 0 d.size = d' by rw [← h1]; exact Array.extract_size] at h3
  exact h3
end
/-- What the sort leaves. -/
def SortEnd {α : Type} (enc : α → List Value) (k : Nat) (key : α → Int × Int × Int) (g : Nat) (Z : List α) (w : World) (e : Ending) (w' : World) : Prop :=
  e = .returned (.tuple #[]) ∧ ∃ S, S.Perm Z ∧ Sorted key S ∧ Row enc k w' (some ⟨g, 0, none⟩) S ∧ Kept (fun i => i = g) w w'
theorem sorta_row (g cap base : Nat) (Z : List (Int × Int × Int × Int)) (w : World) (h : w.ownsRow base 52 4 (.slice (some ⟨g, 0, none⟩) Z.length cap) Z.length (Z.flatMap encA)) (hs : Z.length ≤ 65536) :
    Calls Try.prog 40 #[.slice (some ⟨g, 0, none⟩) Z.length cap, .func (.func 41) #[] #[]] w (SortEnd encA 4 kOf g Z w) := by
  have eg : ∀ args w, (callFunc 41 args).run Try.prog w = .ok (.enter 41 args) w := enters_of Try.func41 (by kernel_rfl) rfl
  have hH := holds_of_own encA_len (by omega) h
  have hblk : g < w.heap.size := (h.lt g rfl).2
  have hL : CmpLays Try.prog 41 #[] encA 4 cmpA g 0 Z.toArray.size w := fun m os dk _ x y => (cmpa_any x y _).mono fun _ _ ⟨he, q, os', hw⟩ => ⟨he, q, os', hw⟩
  have hS := AnyQ.slices_SortFunc Try.sortA 4 Try.isAgg52 Try.sizeOf52 encA (fun _ => rfl) (fun x v hv => by have := encA_one x v hv; simpa using this) cmpA (swo_of cmpA_lt) 41 #[] g 0 cap Z.toArray w eg hL hH hblk (by simp; omega)
  change Calls Try.prog 40 #[.slice (some ⟨g, 0, none⟩) Z.length cap, .func (.func 41) #[] #[]] w _ at hS
  refine hS.mono ?_
  rintro e w' ⟨rfl, d', n, os, hp, hso, rfl⟩
  have hsz : d'.size = Z.toArray.size := hp.1
  refine ⟨rfl, d'.toList, perm_of hp, sorted_of cmpA_lt (by rw [hsz]; exact hso), ?_, kept_sort⟩
  exact row_of_holds encA_len (holdsK_sortWorldK encA 4 w g 0 n Z.toArray d' os hblk hH hsz) (lt_sortWorldK encA 4 w g 0 n d' os hblk)
theorem sorta_nil (w : World) : Calls Try.prog 40 #[.slice none 0 0, .func (.func 41) #[] #[]] w fun e w' => e = .returned (.tuple #[]) ∧ w' = w := by
  have hS := AnyF.slices_SortFunc_none Try.sortA none 0 (.func (.func 41) #[] #[]) w
  change Calls Try.prog 40 _ _ _ at hS
  refine hS.mono ?_
  rintro e w' ⟨rfl, rfl⟩
  exact ⟨rfl, rfl⟩
theorem sorts_row (g cap base : Nat) (Z : List (Int × Int)) (w : World) (h : w.ownsRow base 74 2 (.slice (some ⟨g, 0, none⟩) Z.length cap) Z.length (Z.flatMap encP)) (hs : Z.length ≤ 65536) :
    Calls Try.prog 48 #[.slice (some ⟨g, 0, none⟩) Z.length cap, .func (.func 49) #[] #[]] w (SortEnd encP 2 kS g Z w) := by
  have eg : ∀ args w, (callFunc 49 args).run Try.prog w = .ok (.enter 49 args) w := enters_of Try.func49 (by kernel_rfl) rfl
  have hH := holds_of_own encP_len (by omega) h
  have hblk : g < w.heap.size := (h.lt g rfl).2
  have hL : CmpLays Try.prog 49 #[] encP 2 cmpS g 0 Z.toArray.size w := fun m os dk _ x y => (cmps_any x y _).mono fun _ _ ⟨he, q, os', hw⟩ => ⟨he, q, os', hw⟩
  have hS := AnyQ.slices_SortFunc Try.sortS 2 Try.isAgg74 Try.sizeOf74 encP (fun _ => rfl) (fun x v hv => by have := encP_one x v hv; simpa using this) cmpS (swo_of cmpS_lt) 49 #[] g 0 cap Z.toArray w eg hL hH hblk (by simp; omega)
  change Calls Try.prog 48 #[.slice (some ⟨g, 0, none⟩) Z.length cap, .func (.func 49) #[] #[]] w _ at hS
  refine hS.mono ?_
  rintro e w' ⟨rfl, d', n, os, hp, hso, rfl⟩
  have hsz : d'.size = Z.toArray.size := hp.1
  refine ⟨rfl, d'.toList, perm_of hp, sorted_of cmpS_lt (by rw [hsz]; exact hso), ?_, kept_sort⟩
  exact row_of_holds encP_len (holdsK_sortWorldK encP 2 w g 0 n Z.toArray d' os hblk hH hsz) (lt_sortWorldK encP 2 w g 0 n d' os hblk)
theorem sorts_nil (w : World) : Calls Try.prog 48 #[.slice none 0 0, .func (.func 49) #[] #[]] w fun e w' => e = .returned (.tuple #[]) ∧ w' = w := by
  have hS := AnyF.slices_SortFunc_none Try.sortS none 0 (.func (.func 49) #[] #[]) w
  change Calls Try.prog 48 _ _ _ at hS
  refine hS.mono ?_
  rintro e w' ⟨rfl, rfl⟩
  exact ⟨rfl, rfl⟩
theorem sortm_row (g cap base : Nat) (Z : List (Int × Int × Int)) (w : World) (h : w.ownsRow base 56 3 (.slice (some ⟨g, 0, none⟩) Z.length cap) Z.length (Z.flatMap encK)) (hs : Z.length ≤ 65536) :
    Calls Try.prog 52 #[.slice (some ⟨g, 0, none⟩) Z.length cap, .func (.func 53) #[] #[]] w (SortEnd encK 3 kM g Z w) := by
  have eg : ∀ args w, (callFunc 53 args).run Try.prog w = .ok (.enter 53 args) w := enters_of Try.func53 (by kernel_rfl) rfl
  have hH := holds_of_own encK_len (by omega) h
  have hblk : g < w.heap.size := (h.lt g rfl).2
  have hL : CmpLays Try.prog 53 #[] encK 3 cmpM g 0 Z.toArray.size w := fun m os dk _ x y => (cmpm_any x y _).mono fun _ _ ⟨he, q, os', hw⟩ => ⟨he, q, os', hw⟩
  have hS := AnyQ.slices_SortFunc Try.sortM 3 Try.isAgg56 Try.sizeOf56 encK (fun _ => rfl) (fun x v hv => by have := encK_one x v hv; simpa using this) cmpM (swo_of cmpM_lt) 53 #[] g 0 cap Z.toArray w eg hL hH hblk (by simp; omega)
  change Calls Try.prog 52 #[.slice (some ⟨g, 0, none⟩) Z.length cap, .func (.func 53) #[] #[]] w _ at hS
  refine hS.mono ?_
  rintro e w' ⟨rfl, d', n, os, hp, hso, rfl⟩
  have hsz : d'.size = Z.toArray.size := hp.1
  refine ⟨rfl, d'.toList, perm_of hp, sorted_of cmpM_lt (by rw [hsz]; exact hso), ?_, kept_sort⟩
  exact row_of_holds encK_len (holdsK_sortWorldK encK 3 w g 0 n Z.toArray d' os hblk hH hsz) (lt_sortWorldK encK 3 w g 0 n d' os hblk)
theorem sortm_nil (w : World) : Calls Try.prog 52 #[.slice none 0 0, .func (.func 53) #[] #[]] w fun e w' => e = .returned (.tuple #[]) ∧ w' = w := by
  have hS := AnyF.slices_SortFunc_none Try.sortM none 0 (.func (.func 53) #[] #[]) w
  change Calls Try.prog 52 _ _ _ at hS
  refine hS.mono ?_
  rintro e w' ⟨rfl, rfl⟩
  exact ⟨rfl, rfl⟩
end Go.Proofs.Ytieomjkiabfhcaa
