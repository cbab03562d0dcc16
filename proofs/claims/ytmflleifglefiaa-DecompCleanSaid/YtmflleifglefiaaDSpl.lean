/- The document's Split of layer 13. -/
import Derived.Test.YtmflleifglefiaaDRow
import Derived.Test.YtmflleifglefiaaBD
namespace Go.Proofs.Ytmflleifglefiaa
open Go.RowKit
set_option linter.unusedVariables false

def splitE (n : Int) (Z : List ArcT) (s t : Int) (F : List Int) : Int := if valE n Z s t F = 0 then (if valK n Z s t F < 0 then 71 else 0) else valE n Z s t F
def partI (p : Part) : List Int × Int := (arcsL p.1, p.2)
/-- What is found: cycles, then chains. -/
def cycsF (Z : List ArcT) (N : Nat) (F : List Int) : List Part := (cycsK Z N Z.length F).1
def restF (Z : List ArcT) (N : Nat) (F : List Int) : List Int := (cycsK Z N Z.length F).2
def chainsF (Z : List ArcT) (N s t : Nat) (F : List Int) : List Part := (chainsK Z N s t Z.length (restF Z N F)).1
theorem cycsK_some {Z : List ArcT} {N n : Nat} {f : List Int} {l : List StepT} (h : cycK Z N f = some l) : cycsK Z N (n + 1) f = ((l, leastK f l) :: (cycsK Z N n (takeK (leastK f l) f l)).1, (cycsK Z N n (takeK (leastK f l) f l)).2) := by
  show (match cycK Z N f with | none => ([], f) | some l => ((l, leastK f l) :: (cycsK Z N n (takeK (leastK f l) f l)).1, (cycsK Z N n (takeK (leastK f l) f l)).2)) = _
  rw [h]
theorem cycsK_none {Z : List ArcT} {N n : Nat} {f : List Int} (h : cycK Z N f = none) : cycsK Z N n f = ([], f) := by
  cases n with
  | zero => rfl
  | succ n =>
    show (match cycK Z N f with | none => ([], f) | some l => ((l, leastK f l) :: (cycsK Z N n (takeK (leastK f l) f l)).1, (cycsK Z N n (takeK (leastK f l) f l)).2)) = _
    rw [h]
theorem chainsK_some {Z : List ArcT} {N s t n : Nat} {f : List Int} {l : List StepT} (h : wayK (fromS Z) (toS Z) (alongL f) N s t = some l) : chainsK Z N s t (n + 1) f = ((l, leastK f l) :: (chainsK Z N s t n (takeK (leastK f l) f l)).1, (chainsK Z N s t n (takeK (leastK f l) f l)).2) := by
  show (match wayK (fromS Z) (toS Z) (alongL f) N s t with | none => ([], f) | some l => ((l, leastK f l) :: (chainsK Z N s t n (takeK (leastK f l) f l)).1, (chainsK Z N s t n (takeK (leastK f l) f l)).2)) = _
  rw [h]
theorem chainsK_none {Z : List ArcT} {N s t n : Nat} {f : List Int} (h : wayK (fromS Z) (toS Z) (alongL f) N s t = none) : chainsK Z N s t n f = ([], f) := by
  cases n with
  | zero => rfl
  | succ n =>
    show (match wayK (fromS Z) (toS Z) (alongL f) N s t with | none => ([], f) | some l => ((l, leastK f l) :: (chainsK Z N s t n (takeK (leastK f l) f l)).1, (chainsK Z N s t n (takeK (leastK f l) f l)).2)) = _
    rw [h]
/-- A round of cycles: what was found so far, and what is left. -/
structure CycI (Z : List ArcT) (N : Nat) (F f : List Int) (m : Nat) (X : List ChT) : Prop where
  flow : Flow Z f
  pos : posK f f.length ≤ m
  len : X.length + m ≤ Z.length
  eq : ∃ D : List Part, X.map (fun x => x.2) = D.map partI ∧ cycsK Z N Z.length F = (D ++ (cycsK Z N m f).1, (cycsK Z N m f).2)
theorem CycI.start {Z : List ArcT} {N : Nat} {F : List Int} (h : Flow Z F) : CycI Z N F F Z.length [] := ⟨h, by have := posK_le F F.length; rw [h.1] at this ⊢; exact this, by simp, [], rfl, by simp⟩
theorem CycI.next {Z : List ArcT} {N : Nat} {F f : List Int} {m : Nat} {X : List ChT} {l : List StepT} (hZ : ∀ a ∈ Z, frN a < N ∧ toN a < N) (h : CycI Z N F f m X) (hc : cycK Z N f = some l) (x : ChT) (hx : x.2 = (arcsL l, leastK f l)) :
    (∃ u, Takes Z f u u l) ∧ ∃ m', m = m' + 1 ∧ CycI Z N F (takeK (leastK f l) f l) m' (X ++ [x]) := by
  obtain ⟨u, hT⟩ := cycK_takes hZ h.flow.1 hc
  obtain ⟨p1, p2, p3, p4, p5⟩ := hT.props h.flow
  have hp := h.pos
  obtain ⟨m', rfl⟩ : ∃ m', m = m' + 1 := ⟨m - 1, by omega⟩
  refine ⟨⟨u, hT⟩, m', rfl, p2, by rw [takeK_len]; omega, by have := h.len; simp; omega, ?_⟩
  obtain ⟨D, e1, e2⟩ := h.eq
  refine ⟨D ++ [(l, leastK f l)], by rw [List.map_append, List.map_append, e1]; simp [hx, partI], ?_⟩
  rw [e2, cycsK_some hc]
  simp
theorem CycI.done {Z : List ArcT} {N : Nat} {F f : List Int} {m : Nat} {X : List ChT} (h : CycI Z N F f m X) (hc : cycK Z N f = none) : X.map (fun x => x.2) = (cycsF Z N F).map partI ∧ f = restF Z N F := by
  obtain ⟨D, e1, e2⟩ := h.eq
  rw [cycsK_none hc] at e2
  unfold cycsF restF
  rw [e2]
  exact ⟨by rw [e1]; simp, rfl⟩
structure ChnI (Z : List ArcT) (N s t : Nat) (G f : List Int) (m : Nat) (X : List ChT) : Prop where
  flow : Flow Z f
  pos : posK f f.length ≤ m
  len : X.length + m ≤ Z.length
  eq : ∃ D : List Part, X.map (fun x => x.2) = D.map partI ∧ (chainsK Z N s t Z.length G).1 = D ++ (chainsK Z N s t m f).1
theorem ChnI.start {Z : List ArcT} {N s t : Nat} {G : List Int} (h : Flow Z G) : ChnI Z N s t G G Z.length [] := ⟨h, by have := posK_le G G.length; rw [h.1] at this ⊢; exact this, by simp, [], rfl, by simp⟩
theorem ChnI.next {Z : List ArcT} {N s t : Nat} {G f : List Int} {m : Nat} {X : List ChT} {l : List StepT} (hZ : ∀ a ∈ Z, frN a < N ∧ toN a < N) (hs : s < N) (hne : s ≠ t) (h : ChnI Z N s t G f m X) (hc : wayK (fromS Z) (toS Z) (alongL f) N s t = some l) (x : ChT) (hx : x.2 = (arcsL l, leastK f l)) :
    Takes Z f s t l ∧ ∃ m', m = m' + 1 ∧ ChnI Z N s t G (takeK (leastK f l) f l) m' (X ++ [x]) := by
  have hT := way_takes hZ h.flow.1 hs hne hc
  obtain ⟨p1, p2, p3, p4, p5⟩ := hT.props h.flow
  have hp := h.pos
  obtain ⟨m', rfl⟩ : ∃ m', m = m' + 1 := ⟨m - 1, by omega⟩
  refine ⟨hT, m', rfl, p2, by rw [takeK_len]; omega, by have := h.len; simp; omega, ?_⟩
  obtain ⟨D, e1, e2⟩ := h.eq
  refine ⟨D ++ [(l, leastK f l)], by rw [List.map_append, List.map_append, e1]; simp [hx, partI], ?_⟩
  rw [e2, chainsK_some hc]
  simp
theorem ChnI.done {Z : List ArcT} {N s t : Nat} {G f : List Int} {m : Nat} {X : List ChT} (h : ChnI Z N s t G f m X) (hc : wayK (fromS Z) (toS Z) (alongL f) N s t = none) : X.map (fun x => x.2) = ((chainsK Z N s t Z.length G).1).map partI := by
  obtain ⟨D, e1, e2⟩ := h.eq
  rw [chainsK_none hc] at e2
  rw [e1, e2]
  simp
/-- Chains in memory. -/
def ChR (w : World) (ao : Option Addr) (X : List ChT) (L : List Part) : Prop := Row encC 2 w ao X ∧ (∀ x ∈ X, Lst encI w x.1.1 x.2.1) ∧ X.map (fun x => x.2) = L.map partI
/-- What Split tells. -/
def SplitRes (n : Int) (Z : List ArcT) (s t : Int) (F : List Int) (w : World) (e : Ending) (w' : World) : Prop :=
  (splitE n Z s t F = 0 ∧ ∃ (N i j : Nat) (ca ya : Option Addr) (cc yc : Nat) (X Y : List ChT), n = (N : Int) ∧ s = (i : Int) ∧ t = (j : Int) ∧ (i < N ∧ j < N ∧ i ≠ j) ∧ e = .returned (.tuple #[.agg #[.slice ca X.length cc, .slice ya Y.length yc], .int .i64 0]) ∧ ChR w' ca X (chainsF Z N i j F) ∧ ChR w' ya Y (cycsF Z N F) ∧ Below w.heap.size w w') ∨
  (splitE n Z s t F ≠ 0 ∧ e = .returned (.tuple #[.agg #[.slice none 0 0, .slice none 0 0], .int .i64 (splitE n Z s t F)]) ∧ Below w.heap.size w w')
end Go.Proofs.Ytmflleifglefiaa
