/- What the arcs of a side take, as the document counts them. -/
import Derived.Test.YtbgnoaijgngifaaGreatXBest
import Derived.Test.YtbgnoaijgngifaaGreatARord
namespace Go.Proofs.YtbgnoaijgngifaaGreat
open Go.RowKit
set_option linter.unusedVariables false

/-- A side, as a function. -/
def sideB (S : List Bool) (v : Nat) : Bool := S.getD v false
theorem capK_bd {Z : List ArcT} {S : Nat → Bool} (h : ∀ a ∈ Z, 0 ≤ capN a ∧ capN a ≤ 4398046511104) : ∀ i : Nat, 0 ≤ capK Z S i ∧ capK Z S i ≤ i * 4398046511104
  | 0 => by simp [capK]
  | i + 1 => by
    have ih := capK_bd (S := S) h i
    cases hz : Z[i]? with
    | none =>
      have e : capK Z S (i + 1) = capK Z S i := by show capK Z S i + _ = _; rw [hz]; simp
      rw [e]
      omega
    | some a =>
      have hc := h a (List.mem_of_getElem? hz)
      rw [capK_succ hz]
      split <;> omega
theorem cap_step {Z : List ArcT} {S : List Bool} {i : Nat} {a : ArcT} (h : Z[i]? = some a) (hf : frN a < S.length) (ht : toN a < S.length) : capK Z (sideB S) (i + 1) = capK Z (sideB S) i + if S[frN a] && !S[toN a] then a.2.2.1 else 0 := by
  rw [capK_succ h]
  unfold outS sideB capN
  rw [List.getD_eq_getElem?_getD, List.getD_eq_getElem?_getD, List.getElem?_eq_getElem hf, List.getElem?_eq_getElem ht]
  rfl
section
variable (n : Int) (b : Bool) (ao so : Option Addr) (cap sc : Nat) (Z : List ArcT) (S : List Bool)
set_option maxRecDepth 100000 in
set_option maxHeartbeats 4000000 in
theorem rtakes_any (w : World) (h : Row encA 4 w ao Z) (hs : Lst encB w so S) (hW : WideNet Z S.length) :
    Calls Tryz.prog 15 #[.agg #[.int .i64 n, .bool b, .slice ao Z.length cap], .slice so S.length sc] w fun e w' => e = .returned (.int .i64 (capS Z (sideB S))) ∧ Below w.heap.size w w' := by
  have hb00 := (Below.refl _ w).alloc (Nat.le_refl _) (.cells #[.int .i64 n, .bool b, .slice ao Z.length cap] 24)
  have HB0 := Lib.hid hb00
  have HN0 := Lib.hid (heap_alloc_new w (.cells #[.int .i64 n, .bool b, .slice ao Z.length cap] 24))
  have HR0 := Lib.hid (h.below' hb00)
  have HS0 := Lib.hid (hs.below hb00)
  have HWN := Lib.hid hW
  have hzl := hW.len
  have x0 := cell_whole HN0.out 0
  have x1 := cell_whole HN0.out 1
  have x2 := cell_whole HN0.out 2
  clear h hs hW hb00
  go_enter Tryz.func15, Tryz.ntmps15
  go_wp2
  go_loop [5, 6] (fun k x => ∃ m : Nat, m ≤ Z.length ∧ x = .int .i64 (m : Int) ∧ k = .int .i64 (capK Z (sideB S) m)) (fun _ x => Z.length - (intOf x).toNat)
  case atStart => exact ⟨0, Nat.zero_le _, rfl, rfl⟩
  case round =>
    obtain ⟨m, hm, rfl, rfl⟩ := hrel
    have hk1 := capK_bd (S := sideB S) HWN.out.caps m
    have hkb : 0 ≤ capK Z (sideB S) m ∧ capK Z (sideB S) m ≤ 219902325555200000 := by omega
    clear hk1
    by_cases hlt : m < Z.length
    · have hli : (m : Int) < (Z.length : Int) := by omega
      have ha : Z[m]? = some Z[m] := List.getElem?_eq_getElem hlt
      have hmem := List.mem_of_getElem? ha
      obtain ⟨h1, h2⟩ := HWN.out.ends _ hmem
      obtain ⟨hf, ht⟩ := HWN.out.lt _ hmem
      have hcb := HWN.out.caps _ hmem
      unfold capN at hcb
      have HST := Lib.hid (cap_step ha hf ht)
      obtain ⟨ab, ax, e, hab, d0, d1, d2, d3⟩ := arc_at HR0.out ha
      cases e
      rw [h1] at d0
      rw [h2] at d1
      obtain ⟨sb, sx, e, hsb, s0⟩ := HS0.out _ hf
      cases e
      obtain ⟨sb2, sx2, e, hsb2, s1⟩ := HS0.out _ ht
      cases e
      unfold encB at s0 s1
      clear h1 h2 d3 ha hmem
      generalize Z[m] = a at *
      generalize S[frN a] = p at *
      generalize S[toN a] = q at *
      generalize frN a = x at *
      generalize toN a = y at *
      generalize a.2.2.1 = c at *
      have hxi : (x : Int) < (S.length : Int) := by omega
      have hyi : (y : Int) < (S.length : Int) := by omega
      cases p
      · have HS2 : Hid (capK Z (sideB S) (m + 1) = capK Z (sideB S) m) := Lib.hid (by rw [HST.out]; simp)
        clear HST
        generalize capK Z (sideB S) m = k at *
        go_wp2
        go_round
        case rel => exact ⟨m + 1, by omega, by go_num, by rw [HS2.out]⟩
        case measure => simp [intOf]; omega
      · cases q
        · have HS2 : Hid (capK Z (sideB S) (m + 1) = capK Z (sideB S) m + c) := Lib.hid (by rw [HST.out]; simp)
          clear HST
          generalize capK Z (sideB S) m = k at *
          go_wp2
          go_round
          case rel => exact ⟨m + 1, by omega, by go_num, by rw [HS2.out]⟩
          case measure => simp [intOf]; omega
        · have HS2 : Hid (capK Z (sideB S) (m + 1) = capK Z (sideB S) m) := Lib.hid (by rw [HST.out]; simp)
          clear HST
          generalize capK Z (sideB S) m = k at *
          go_wp2
          go_round
          case rel => exact ⟨m + 1, by omega, by go_num, by rw [HS2.out]⟩
          case measure => simp [intOf]; omega
    · have hli : ¬ (m : Int) < (Z.length : Int) := by omega
      obtain rfl : m = Z.length := by omega
      have HC : Hid (capS Z (sideB S) = capK Z (sideB S) Z.length) := Lib.hid rfl
      generalize capK Z (sideB S) Z.length = k at *
      go_wp2
      go_ret
      exact ⟨by rw [HC.out]; rfl, HB0.out⟩
end
end Go.Proofs.YtbgnoaijgngifaaGreat
