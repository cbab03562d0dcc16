/- What Slots of package table does: each slot once, in their order. -/
import Derived.Test.YtieomjkiabfhcaaTAwake
import Derived.Test.YtieomjkiabfhcaaTGatS
namespace Go.Proofs.Ytieomjkiabfhcaa
open Go.RowKit Go.Sort Go.Shelf
set_option linter.unusedVariables false

def SlotsRes (Z : List (Int × Int)) (w : World) (e : Ending) (w' : World) : Prop := ∃ ao cap M, e = .returned (.slice ao M.length cap) ∧ Row encP 2 w' ao M ∧ M.Perm (firsts Z) ∧ Sorted kS M ∧ Below w.heap.size w w'
set_option maxRecDepth 100000 in
set_option maxHeartbeats 2000000 in
theorem slots_any (ao : Option Addr) (cap : Nat) (Z : List (Int × Int)) (w : World) (h : Row encP 2 w ao Z) (hok : ∀ x ∈ Z, okP x) (hn : Z.length ≤ 200) :
    Calls Try.prog 27 #[.slice ao Z.length cap] w (SlotsRes Z w) := by
  have HR := Lib.hid h
  have HK := Lib.hid hok
  clear h hok
  have hmf : ∀ (fn : Fn) (first cap : Array Value) (w : World), (Instr.makeFunc fn first cap).run Try.prog w = .ok (.func fn first cap) w := fun _ _ _ _ => rfl
  have e1 : ∀ args w, (callFunc 47 args).run Try.prog w = .ok (.enter 47 args) w := enters_of Try.func47 (by kernel_rfl) rfl
  have E1 := Lib.hid e1
  clear e1
  go_enter Try.func27, Try.ntmps27
  go_wp2_with fail
  have hb0 := (Below.refl _ w).alloc (Nat.le_refl _) (.cells #[.slice ao Z.length cap] 41)
  have hc0 : (w.alloc (.cells #[.slice ao Z.length cap] 41)).cell? ⟨w.heap.size, 0, none⟩ = some (.slice ao Z.length cap) := cell_new _ _ _ 0
  have hr0 := row_alloc HR.out (.cells #[.slice ao Z.length cap] 41)
  have hsz0 : (w.alloc (.cells #[.slice ao Z.length cap] 41)).heap.size = w.heap.size + 1 := by simp
  generalize w.alloc (.cells #[.slice ao Z.length cap] 41) = w1 at *
  have hgat := gathers_any 47 #[.pointer (some ⟨w.heap.size, 0, none⟩)] Z w1 HK.out hn E1.out (fun i hi W hW => by
    exact slots1_any i w.heap.size ao cap Z W (by rw [hW.cell (p := ⟨w.heap.size, 0, none⟩) (by rw [hsz0]; exact Nat.lt_succ_self _)]; exact hc0) (hr0.below' hW) hi hn)
  refine hgat.mono ?_
  rintro e w2 ⟨ks, gs, vs, own, B, rfl, hG⟩
  clear hgat
  obtain ⟨ga, gcap, rfl, hgr⟩ := GRow.of hG
  have HB2 := Lib.hid (hb0.trans (hG.below.mono hb0.size))
  have HKR := Lib.hid hG.kr
  have HB0 := Lib.hid hb0
  have hfl : (firsts Z).length ≤ 200 := by have := firsts_len Z; omega
  clear hgr hG hb0 hc0 hr0 hsz0
  rcases HKR.out.2 with ⟨rfl, hz⟩ | ⟨g, cp, cur, rfl, hbg, _⟩
  · have hz0 : firsts Z = [] := List.eq_nil_of_length_eq_zero hz
    have HZ0 := Lib.hid hz0
    clear hz hz0
    go_wp2_with (go_at_call 48; refine (sorts_nil _).mono ?_; rintro e w5 ⟨rfl, rfl⟩)
    go_ret
    exact ⟨none, 0, [], rfl, Row.nil _ _, by rw [HZ0.out], List.Pairwise.nil, HB2.out⟩
  · have HBG := Lib.hid hbg
    clear hbg
    go_wp2_with (go_at_call 48; refine (sorts_row g cp w1.heap.size (firsts Z) _ HKR.out (by omega)).mono ?_; rintro e w5 ⟨rfl, M, hpm, hso, hrw, hkp⟩; have HPM := Lib.hid hpm; have HSO := Lib.hid hso; have HRW := Lib.hid hrw; have HKP := Lib.hid (HB2.out.trans (hkp.below HB2.out.size (fun i hi => by rw [hi]; exact Nat.le_trans HB0.out.size HBG.out))); clear hpm hso hrw hkp)
    go_ret
    exact ⟨_, cp, M, by rw [HPM.out.length_eq]; rfl, HRW.out, HPM.out, HSO.out, HKP.out⟩
end Go.Proofs.Ytieomjkiabfhcaa
