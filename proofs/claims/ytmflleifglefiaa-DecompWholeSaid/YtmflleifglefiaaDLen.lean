/- The document's Length of layer 13: what arcs take, together. -/
import Derived.Test.YtmflleifglefiaaDAlg
import Derived.BigQuiet
import Derived.Deep.QuietTactic
namespace Go.Proofs.Ytmflleifglefiaa
open Go.RowKit
set_option linter.unusedVariables false

def lenI (Z : List ArcT) (A : List Int) : Int := (A.map fun x => tm (Z.getD x.toNat (0, 0, 0, 0))).sum
theorem lenI_take {Z : List ArcT} {A : List Int} {k : Nat} (h : k < A.length) : lenI Z (A.take (k + 1)) = lenI Z (A.take k) + tm (Z.getD A[k].toNat (0, 0, 0, 0)) := by
  unfold lenI
  rw [List.take_succ_eq_append_getElem h, List.map_append, List.sum_append]
  simp
theorem lenI_bd {Z : List ArcT} {A : List Int} (ht : ∀ a ∈ Z, 0 ≤ tm a ∧ tm a ≤ 1048576) (hA : ∀ x ∈ A, ∃ p : Nat, x = (p : Int) ∧ p < Z.length) : 0 ≤ lenI Z A ∧ lenI Z A ≤ 1048576 * A.length := by
  induction A with
  | nil => exact ⟨Int.le_refl _, by simp [lenI]⟩
  | cons x r ih =>
    obtain ⟨i1, i2⟩ := ih (fun y hy => hA y (by simp [hy]))
    obtain ⟨p, rfl, hp⟩ := hA x (by simp)
    have h1 := ht _ (List.getElem_mem hp)
    have h2 : lenI Z ((p : Int) :: r) = tm Z[p] + lenI Z r := by
      unfold lenI
      rw [List.map_cons, List.sum_cons, Int.toNat_natCast, List.getD_eq_getElem?_getD, List.getElem?_eq_getElem hp]
      rfl
    rw [h2, List.length_cons]
    omega
section
variable (n : Int) (b : Bool) (ao lo : Option Addr) (cap lc : Nat) (Z : List ArcT) (A : List Int)
set_option maxRecDepth 100000 in
set_option maxHeartbeats 4000000 in
theorem rlength13_any (w : World) (h : Row encA 4 w ao Z) (hl : Lst encI w lo A) (hz : Z.length ≤ 200000) (hll : A.length ≤ 200000) (ht : ∀ a ∈ Z, 0 ≤ tm a ∧ tm a ≤ 1048576) (hA : ∀ x ∈ A, ∃ p : Nat, x = (p : Int) ∧ p < Z.length) :
    Calls Try.prog 20 #[.agg #[.int .i64 n, .bool b, .slice ao Z.length cap], .slice lo A.length lc] w fun e w' => e = .returned (.int .i64 (lenI Z A)) ∧ Below w.heap.size w w' := by
  have hb00 := (Below.refl _ w).alloc (Nat.le_refl _) (.cells #[.int .i64 n, .bool b, .slice ao Z.length cap] 24)
  have HB0 := Lib.hid hb00
  have HN0 := Lib.hid (heap_alloc_new w (.cells #[.int .i64 n, .bool b, .slice ao Z.length cap] 24))
  have HR := Lib.hid (h.below' hb00)
  have HL := Lib.hid (hl.below hb00)
  have HT := Lib.hid ht
  have HA := Lib.hid hA
  obtain ⟨g0, hg0⟩ : ∃ g0, w.heap.size = g0 := ⟨_, rfl⟩
  clear h hl hb00 ht hA
  go_enter Try.func20, Try.ntmps20
  go_wp2
  rw [hg0] at HN0
  generalize w.alloc (.cells #[.int .i64 n, .bool b, .slice ao Z.length cap] 24) = w1 at *
  clear hg0
  go_loopw [5, 6] (fun kv iv wr => ∃ k : Nat, k ≤ A.length ∧ iv = .int .i64 (k : Int) ∧ kv = .int .i64 (lenI Z (A.take k)) ∧ Hid (Below w1.heap.size w1 wr)) (fun _ iv _ => A.length - (intOf iv).toNat)
  case atStart => exact ⟨0, Nat.zero_le _, rfl, rfl, Lib.hid (Below.refl _ _)⟩
  case round =>
    obtain ⟨k, hk, rfl, rfl, HB⟩ := hrel
    have hnb := kept_box HN0.out HB.out
    have c2 := cell_whole hnb 2
    by_cases hlt : k < A.length
    · have hli : (k : Int) < (A.length : Int) := by omega
      obtain ⟨p, hp, hpl⟩ := HA.out _ (List.getElem_mem hlt)
      have hpi : (p : Int) < (Z.length : Int) := by omega
      obtain ⟨lb, lx, e, _, a0⟩ := lst_cell (HL.out.below HB.out) (List.getElem?_eq_getElem hlt)
      cases e
      obtain ⟨ab, ax, e, hab, d0, d1, d2, d3⟩ := (HR.out.below' HB.out).arc hpl
      cases e
      have hst := lenI_take (Z := Z) hlt
      have hgd : Z.getD p (0, 0, 0, 0) = Z[p] := by rw [List.getD_eq_getElem?_getD, List.getElem?_eq_getElem hpl]; rfl
      rw [hp, Int.toNat_natCast, hgd] at hst
      have HST := Lib.hid hst
      have hb1 := lenI_bd (Z := Z) (A := A.take k) HT.out (fun x hx => HA.out x (List.mem_of_mem_take hx))
      have htm := HT.out _ (List.getElem_mem hpl)
      have hlk : (A.take k).length ≤ 200000 := by rw [List.length_take]; omega
      rw [hp] at a0
      unfold encI at a0
      unfold tm at htm HST
      generalize Z[p] = a at *
      generalize lenI Z (A.take k) = s at *
      obtain ⟨x1, x2, x3, x4⟩ := a
      simp only at d3 htm HST
      have hwr : IntKind.i64.wrap (s + x4) = s + x4 := IntWalk.i64_in _ (by omega)
      clear hp d0 d1 d2 hgd hst
      go_wp2_with fail
      go_quiet (fail)
      go_wp2
      go_roundw
      case rel => exact ⟨k + 1, by omega, by go_num, by rw [HST.out], Lib.hid (below_drewN HB.out _)⟩
      case measure => simp [intOf]; omega
    · have hli : ¬ (k : Int) < (A.length : Int) := by omega
      have HTE : Hid (A.take k = A) := Lib.hid (List.take_of_length_le (by omega))
      rw [HTE.out]
      go_wp2
      go_ret
      exact ⟨rfl, HB0.out.trans (HB.out.mono HB0.out.size)⟩
end
end Go.Proofs.Ytmflleifglefiaa
