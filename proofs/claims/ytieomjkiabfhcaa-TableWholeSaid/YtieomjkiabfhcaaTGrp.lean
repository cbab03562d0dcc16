/- What Groups of package table does: for each key the places of its arcs. -/
import Derived.Test.YtieomjkiabfhcaaTAwake
namespace Go.Proofs.Ytieomjkiabfhcaa
open Go.RowKit Go.Shelf
set_option linter.unusedVariables false

def GroupsRes (G : List (List Nat)) (w : World) (e : Ending) (w' : World) : Prop := ∃ ga cap, e = .returned (.slice ga G.length cap) ∧ GRow w' ga G ∧ Below w.heap.size w w'
set_option maxRecDepth 100000 in
set_option maxHeartbeats 2000000 in
theorem groups_any (ao : Option Addr) (cap : Nat) (Z : List ArcT) (w : World) (h : Row encA 4 w ao Z) (hok : OkA Z) (hn : Z.length ≤ 200) :
    Calls Try.prog 16 #[.slice ao Z.length cap] w (GroupsRes (grps (keysOf Z)) w) := by
  have HR := Lib.hid h
  have HK := Lib.hid hok
  clear h hok
  have hmf : ∀ (fn : Fn) (first cap : Array Value) (w : World), (Instr.makeFunc fn first cap).run Try.prog w = .ok (.func fn first cap) w := fun _ _ _ _ => rfl
  have hkl : (keysOf Z).length = Z.length := by simp [keysOf]
  have HKL := Lib.hid hkl
  have e1 : ∀ args w, (callFunc 36 args).run Try.prog w = .ok (.enter 36 args) w := enters_of Try.func36 (by kernel_rfl) rfl
  have E1 := Lib.hid e1
  clear hkl e1
  go_enter Try.func16, Try.ntmps16
  go_wp2_with fail
  have hb0 := (Below.refl _ w).alloc (Nat.le_refl _) (.cells #[.slice ao Z.length cap] 22)
  have hc0 : (w.alloc (.cells #[.slice ao Z.length cap] 22)).cell? ⟨w.heap.size, 0, none⟩ = some (.slice ao Z.length cap) := cell_new _ _ _ 0
  have hr0 := row_alloc HR.out (.cells #[.slice ao Z.length cap] 22)
  have hsz0 : (w.alloc (.cells #[.slice ao Z.length cap] 22)).heap.size = w.heap.size + 1 := by simp
  generalize w.alloc (.cells #[.slice ao Z.length cap] 22) = w1 at *
  have hgat := gatherk_any 36 #[.pointer (some ⟨w.heap.size, 0, none⟩)] (keysOf Z) w1 (ok_keys HK.out) (by rw [HKL.out]; exact hn) E1.out (fun i hi W hW => by
    have hi' : i < Z.length := by rw [← HKL.out]; exact hi
    have := groups1_any i w.heap.size ao cap Z W (by rw [hW.cell (p := ⟨w.heap.size, 0, none⟩) (by rw [hsz0]; exact Nat.lt_succ_self _)]; exact hc0) (hr0.below' hW) hi' hn
    have e : (keysOf Z)[i] = kOf Z[i] := by simp [keysOf]
    rw [e]; exact this)
  rw [HKL.out] at hgat
  refine hgat.mono ?_
  rintro e w2 ⟨ks, gs, vs, own, B, rfl, hG⟩
  clear hgat
  obtain ⟨ga, gcap, rfl, hgr⟩ := GRow.of hG
  have HG := Lib.hid hgr
  have HB2 := Lib.hid (hb0.trans (hG.below.mono hb0.size))
  clear hgr hG hb0 hc0 hr0 hsz0
  go_wp2
  go_ret
  exact ⟨ga, gcap, rfl, HG.out, HB2.out⟩
end Go.Proofs.Ytieomjkiabfhcaa
