/- Package ebbtideref08: where a node stands among those that are found; are two lists of steps the same. -/
import Derived.Test.YtbgnoaijgngifaaGreatVLevs
import Derived.Laws.StructEq
import Derived.BigQuiet
import Derived.Deep.QuietTactic
namespace Go.Proofs.YtbgnoaijgngifaaGreat
open Go.RowKit
set_option linter.unusedVariables false

def hasI (K : List Nat) (v : Nat) : Int := match K.findIdx? (· == v) with | some j => (j : Int) | none => -1
theorem hasI_some {K : List Nat} {v j : Nat} (hj : j < K.length) (h : K[j] = v) (hn : ∀ m (hm : m < j), K[m]'(by omega) ≠ v) : hasI K v = (j : Int) := by
  unfold hasI
  have : K.findIdx? (· == v) = some j := by
    rw [List.findIdx?_eq_some_iff_getElem]
    refine ⟨hj, by simp [h], fun m hm => by simpa using hn m hm⟩
  rw [this]
theorem hasI_none {K : List Nat} {v : Nat} (hn : ∀ m (hm : m < K.length), K[m] ≠ v) : hasI K v = -1 := by
  unfold hasI
  have : K.findIdx? (· == v) = none := by
    rw [List.findIdx?_eq_none_iff]
    intro y hy
    obtain ⟨m, hm, rfl⟩ := List.getElem_of_mem hy
    simpa using hn m hm
  rw [this]
theorem hasI_neg {K : List Nat} {v : Nat} : hasI K v < 0 ↔ v ∉ K := by
  unfold hasI
  cases h : K.findIdx? (· == v) with
  | some j =>
    rw [List.findIdx?_eq_some_iff_getElem] at h
    obtain ⟨h1, h2, _⟩ := h
    simp only
    have e : K[j] = v := by simpa using h2
    have hm : v ∈ K := by rw [← e]; exact List.getElem_mem h1
    constructor
    · intro h3; omega
    · intro h3; exact absurd hm h3
  | none =>
    rw [List.findIdx?_eq_none_iff] at h
    simp only
    constructor
    · intro _ hm; have := h v hm; simp at this
    · intro _; decide
theorem hasI_bd (K : List Nat) (v : Nat) : -1 ≤ hasI K v ∧ hasI K v < (K.length : Int) := by
  unfold hasI
  cases h : K.findIdx? (· == v) with
  | some j =>
    rw [List.findIdx?_eq_some_iff_getElem] at h
    obtain ⟨h1, _⟩ := h
    simp only; omega
  | none => simp only; omega
set_option maxRecDepth 100000 in
set_option maxHeartbeats 2000000 in
theorem rhas_any (no bo : Option Addr) (nc bl bc : Nat) (K : List Nat) (v : Nat) (w : World) (h : Lst encI w no (natI K)) (hK : K.length ≤ 200000) :
    Calls Tryz.prog 45 #[.agg #[.slice no K.length nc, .slice bo bl bc], .int .i64 (v : Int)] w fun e w' => e = .returned (.int .i64 (hasI K v)) ∧ Below w.heap.size w w' := by
  have hb00 := (Below.refl _ w).alloc (Nat.le_refl _) (.cells #[.slice no K.length nc, .slice bo bl bc] 86)
  have HB0 := Lib.hid hb00
  have c0 := cell_new w #[.slice no K.length nc, .slice bo bl bc] 86 0
  have HL := Lib.hid (h.below hb00)
  clear h hb00
  go_enter Tryz.func45, Tryz.ntmps45
  go_wp2
  generalize w.alloc (.cells #[.slice no K.length nc, .slice bo bl bc] 86) = w1 at *
  go_loopw [5] (fun iv wr => ∃ j : Nat, j ≤ K.length ∧ iv = .int .i64 (j : Int) ∧ Hid (∀ m (hm : m < K.length), m < j → K[m] ≠ v) ∧ Hid (Below w1.heap.size w1 wr)) (fun iv _ => K.length - (intOf iv).toNat)
  case atStart => exact ⟨0, Nat.zero_le _, rfl, Lib.hid (fun m hm h => absurd h (by omega)), Lib.hid (Below.refl _ _)⟩
  case round =>
    obtain ⟨j, hj, rfl, HN, HB⟩ := hrel
    have e0 := cell_below' HB.out c0 (block_lt_of_cell c0)
    by_cases hlt : j < K.length
    · have hli : (j : Int) < (K.length : Int) := by omega
      obtain ⟨bb, oo, e, hbb, hcp⟩ := lst_cell HL.out (i := j) (x := ((K[j] : Nat) : Int)) (natI_at hlt)
      cases e
      have hcp' := cell_below' HB.out hcp hbb
      unfold encI at hcp'
      clear hcp
      by_cases hv : K[j] = v
      · have hf1 : ((K[j] : Nat) : Int) == (v : Int) := by simp [hv]
        have HH := Lib.hid (hasI_some hlt hv (fun m hm => HN.out m (by omega) hm))
        clear hv
        generalize K[j] = y at *
        go_wp2
        go_ret
        exact ⟨by rw [HH.out]; rfl, HB0.out.trans (HB.out.mono HB0.out.size)⟩
      · have hf1 : (((K[j] : Nat) : Int) == (v : Int)) = false := by simp; omega
        have HN2 : Hid (∀ m (hm : m < K.length), m < j + 1 → K[m] ≠ v) := Lib.hid (fun m hm h => by
          by_cases e : m = j
          · subst e; exact hv
          · exact HN.out m hm (by omega))
        clear hv
        generalize K[j] = y at *
        go_wp2
        go_roundw
        case rel => exact ⟨j + 1, by omega, by go_num, HN2, HB⟩
        case measure => simp [intOf]; omega
    · have hli : ¬ (j : Int) < (K.length : Int) := by omega
      obtain rfl : j = K.length := by omega
      have HH := Lib.hid (hasI_none (K := K) (v := v) (fun m hm => HN.out m hm hm))
      go_wp2
      go_ret
      exact ⟨by rw [HH.out]; rfl, HB0.out.trans (HB.out.mono HB0.out.size)⟩
theorem rhas_len (no bo : Option Addr) (nc bl bc len : Nat) (K : List Nat) (v : Nat) (hI : Int) (w : World) (h : Lst encI w no (natI K)) (hl : K.length = len) (hK : len ≤ 200000) (hh : hasI K v = hI) :
    Calls Tryz.prog 45 #[.agg #[.slice no len nc, .slice bo bl bc], .int .i64 (v : Int)] w fun e w' => e = .returned (.int .i64 hI) ∧ Below w.heap.size w w' := by
  subst hl; subst hh; exact rhas_any no bo nc bl bc K v w h hK
end Go.Proofs.YtbgnoaijgngifaaGreat
