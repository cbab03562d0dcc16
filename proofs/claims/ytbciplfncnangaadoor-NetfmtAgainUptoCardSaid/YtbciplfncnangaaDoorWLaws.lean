/- Lists of texts and of numbers of a call's own, as the next call meets them. -/
import Derived.Test.YtbciplfncnangaaDoorWNum
import Derived.Test.YtbciplfncnangaaDoorWRow
import Derived.Test.YtbciplfncnangaaDoorWRefw
import Derived.Test.YtbciplfncnangaaDoorWNums
import Derived.Test.YtbciplfncnangaaDoorWNat
namespace Go.Proofs.YtbciplfncnangaaDoor
open Go.RowKit Go.Shelf
set_option linter.unusedVariables false

/-- A list of texts of a call's own, as the next call meets it. -/
def ListAt (w : World) (v : Value) (A : List (List UInt8)) : Prop := ∃ ao n cap, v = .slice ao n cap ∧ A.length = n ∧ Lst strV w ao A
theorem listAt_of {w : World} {base : Nat} {v : Value} {A : List (List UInt8)} (h : w.ownsRow base 9 1 v A.length (A.map strV)) : ListAt w v A := by
  obtain ⟨ao, cap, rfl, hl⟩ := own_lst h
  exact ⟨ao, _, cap, rfl, rfl, hl⟩
theorem NumsRes.ok {A : List (List UInt8)} {w w' : World} {e : Ending} (h : NumsRes A w e w') (he : errOf A = 0) : Below w.heap.size w w' ∧ ∃ v, e = .returned (.tuple #[v, .int .i64 0]) ∧ w'.ownsRow w.heap.size 3 1 v (valsOf A).length ((valsOf A).map encI) := by
  rcases h with ⟨hb, ⟨_, h⟩ | ⟨h, _⟩⟩
  · exact ⟨hb, h⟩
  · exact absurd he h
theorem NumsRes.bad {A : List (List UInt8)} {w w' : World} {e : Ending} (h : NumsRes A w e w') (he : errOf A ≠ 0) : Below w.heap.size w w' ∧ e = .returned (.tuple #[.slice none 0 0, .int .i64 (errOf A)]) := by
  rcases h with ⟨hb, ⟨h, _⟩ | ⟨_, h⟩⟩
  · exact absurd h he
  · exact ⟨hb, h⟩
theorem below_drewN {B : Nat} {w w' : World} (h : Below B w w') (n : Nat) : Below B w (w'.drewN n) := h.trans ⟨rfl, rfl, rfl, Nat.le_refl _, fun _ _ => rfl⟩

end Go.Proofs.YtbciplfncnangaaDoor
