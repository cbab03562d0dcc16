/- plant of package level: what a search begins with. -/
import Derived.Test.YtbkmfjegbmjknaaVLoad
import Derived.Test.YtbkmfjegbmjknaaBB
import Derived.Deep.DeepCutAuto
import Derived.Deep.RegionHeld3
namespace Go.Proofs.Ytbkmfjegbmjknaa
open Go.RowKit
set_option linter.unusedVariables false
structure TR (w1 wr : World) (gd gb N : Nat) (d : List Int) (B : List StepT) : Prop where
  below : Below w1.heap.size w1 wr
  lev : OwnL encI wr w1.heap.size 3 (.slice (some ⟨gd, 0, none⟩) N N) d
  byy : OwnS wr w1.heap.size (.slice (some ⟨gb, 0, none⟩) N N) B
  ne : gd ≠ gb
section
variable {w0 w1 wr w2 : World} {gd gb N : Nat} {d : List Int} {B : List StepT}
theorem TR.lt (h : TR w1 wr gd gb N d B) : (w1.heap.size ≤ gd ∧ gd < wr.heap.size) ∧ w1.heap.size ≤ gb ∧ gb < wr.heap.size := ⟨own_lt2 h.lev rfl, h.byy.lt⟩
theorem TR.next (h : TR w1 wr gd gb N d B) (hb : Below wr.heap.size wr w2) : TR w1 w2 gd gb N d B := ⟨h.below.trans (hb.mono h.below.size), h.lev.below hb, h.byy.below hb, h.ne⟩
theorem TR.drewN (h : TR w1 wr gd gb N d B) (n : Nat) : TR w1 (wr.drewN n) gd gb N d B := h.next (below_drewN (Below.refl _ _) n)
theorem TR.kept {S : Nat → Prop} (h : TR w1 wr gd gb N d B) (hk : Kept S wr w2) (hd : ¬ S gd) (hb : ¬ S gb) (hl : ∀ i, S i → w1.heap.size ≤ i) : TR w1 w2 gd gb N d B := by
  refine ⟨h.below.trans (hk.below h.below.size hl), ownL_kept h.lev hk (fun g e => ?_), h.byy.kept hk hb, h.ne⟩
  simp [Value.ownBlock] at e
  subst e
  exact hd
end
section
variable (b : Bool) (ao fo : Option Addr) (cap fc : Nat) (Z : List ArcT) (F : List Int) (g1 c1 g2 c2 N : Nat)
end
end Go.Proofs.Ytbkmfjegbmjknaa
