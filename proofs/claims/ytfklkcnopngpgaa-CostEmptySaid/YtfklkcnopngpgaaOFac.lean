/- What layer 11's calls tell together: tight numbers, free flows, costs; and the first forms of equal rows. -/
import Derived.Test.YtfklkcnopngpgaaOAwk
import Derived.Test.YtfklkcnopngpgaaSRoom
namespace Go.Proofs.Ytfklkcnopngpgaa
open Go.RowKit
set_option linter.unusedVariables false

theorem sameints_eqL (zl : Nat) (A : List Int) (hz : A.length = zl) (aa ab : Option Addr) (ca cb : Nat) (w : World) (ha : Lst encI w aa A) (hb : Lst encI w ab A) (hl : zl ≤ 200000) :
    Calls Try.prog 12 #[.slice aa zl ca, .slice ab zl cb] w fun e w' => e = .returned (.bool true) ∧ Below w.heap.size w w' := by
  subst hz; exact sameints_eq A aa ab ca cb w ha hb hl
theorem sameints_no (A B : List Int) (hne : A ≠ B) (aa ab : Option Addr) (ca cb : Nat) (w : World) (ha : Lst encI w aa A) (hb : Lst encI w ab B) (hl : A.length ≤ 200000) (hl2 : B.length ≤ 200000) :
    Calls Try.prog 12 #[.slice aa A.length ca, .slice ab B.length cb] w fun e w' => e = .returned (.bool false) ∧ Below w.heap.size w w' := by
  refine (sameints_is A B aa ab ca cb w ha hb hl hl2).mono ?_
  rw [decide_eq_false hne]
  exact fun e w' h => h
theorem rsameb_eqL (zl : Nat) (S : List Bool) (hz : S.length = zl) (aa ab : Option Addr) (ca cb : Nat) (w : World) (ha : Lst encB w aa S) (hb : Lst encB w ab S) (hl : zl ≤ maxLen) :
    Calls Try.prog 13 #[.slice aa zl ca, .slice ab zl cb] w fun e w' => e = .returned (.bool true) ∧ Below w.heap.size w w' := by
  subst hz; exact rsameb_eq S aa ab ca cb w ha hb hl
theorem farO_few {n : Int} {Z : List ArcT} {F : List Int} {s : Int} : (farO n Z F s).length ≤ 50 := by
  unfold farO
  split
  · next h =>
    unfold dN
    rw [bellK_len]
    unfold farE at h
    split at h
    · next hf =>
      obtain ⟨_, _, _, _, h1, h2⟩ := flow_facts (b := true) hf
      omega
    · next hf => exact absurd h hf
  · simp
theorem calm_all {n : Int} {Z : List ArcT} {F : List Int} (h : flowE n Z F = 0) : (freeB n Z F = true ↔ ∀ v, v < n.toNat → NoGain (rowsR Z F) tm v) ∧ ∀ a ∈ Z, frN a < n.toNat ∧ toN a < n.toNat := by
  obtain ⟨hR, _⟩ := flow_facts (b := true) h
  have hZ := right_ends hR
  refine ⟨?_, hZ⟩
  rw [free_iff h]
  exact ⟨fun hc v hv => (calmN_iff hZ hv).1 (hc v hv), fun hc v hv => (calmN_iff hZ hv).2 (hc v hv)⟩
/-- Tight numbers: no cycle gains. -/
theorem tight_free {n : Int} {Z : List ArcT} {F P : List Int} (h : tightE n Z F P = 0) (hb : tightB n Z F P = true) : flowE n Z F = 0 ∧ freeB n Z F = true := by
  have hf := (tightE_ok h).1
  refine ⟨hf, (calm_all hf).1.2 (fun v hv => ?_)⟩
  refine tight_noGain (p := fun v => atI P v) ?_ v
  intro a ha
  obtain ⟨x, ⟨h1, h2⟩, rfl⟩ := rowsR_mem.1 ha
  have := (tightB_iff h).1 hb x h1 h2
  rw [rowS_fr, rowS_to, rowS_tm]
  exact this
theorem zerosF_at (k i : Nat) : atI (List.replicate k 0) i = 0 := zeros_at k i
/-- A flow without anything: no cycle gains. -/
theorem zeros_free {n : Int} {Z : List ArcT} (h : flowE n Z (List.replicate Z.length 0) = 0) : freeB n Z (List.replicate Z.length 0) = true := by
  refine (calm_all h).1.2 (fun v hv => tight_noGain (p := fun _ => 0) ?_ v)
  intro a ha
  obtain ⟨x, ⟨h1, h2⟩, rfl⟩ := rowsR_mem.1 ha
  obtain ⟨hR, _⟩ := flow_facts (b := true) h
  obtain ⟨_, _, _, _, h5, _⟩ := right_arc hR (List.mem_of_getElem? (arcOf_at h1))
  show (0 : Int) ≤ 0 + tm (rowS Z x)
  rw [rowS_tm]
  unfold tmS
  unfold leftS at h2
  rw [zeros_at] at h2
  split
  · next hx => rw [if_pos hx] at h2; omega
  · omega
/-- A free flow has no cheaper one with the same balances. -/
theorem free_cheap {n : Int} {Z : List ArcT} {F G : List Int} (h : flowE n Z F = 0) (hb : freeB n Z F = true) (hg : flowE n Z G = 0) (he : balsL n Z F = balsL n Z G) : costV n Z F ≤ costV n Z G := by
  obtain ⟨hR, hF, _⟩ := flow_facts (b := true) h
  obtain ⟨_, hG, _⟩ := flow_facts (b := true) hg
  obtain ⟨hc, hZ⟩ := calm_all h
  obtain ⟨p, hp⟩ := tight_exists (c := tm) (rowsR_to (F := F) hZ) (hc.1 hb)
  unfold costV
  rw [if_pos h, if_pos hg]
  refine cheapest (p := p) hZ hF hG ?_ ?_
  · intro x h1 h2
    have := hp (rowS Z x) (rowsR_mem.2 ⟨x, ⟨h1, h2⟩, rfl⟩)
    rwa [rowS_fr, rowS_to, rowS_tm] at this
  · intro v hv
    unfold balsL at he
    rw [if_pos h, if_pos hg] at he
    have h1 := balL_at Z F Z.length hv
    have h2 := balL_at Z G Z.length hv
    rw [he] at h1
    unfold bal
    rw [← h1, ← h2]
theorem balsL_few (n : Int) (Z : List ArcT) (F : List Int) : (balsL n Z F).length ≤ 50 := by
  unfold balsL
  split
  · next h =>
    obtain ⟨_, _, _, _, h1, h2⟩ := flow_facts (b := true) h
    rw [balL_len]
    omega
  · simp
theorem BdO.relaxAll : ∀ (Y : List ArcT) (d : List (Option Int)) (u : Nat), BdO d u → (∀ a ∈ Y, (-1073741824 ≤ tm a ∧ tm a ≤ 1073741824) ∧ toN a < d.length) → BdO (relaxAllO tm Y d) (u + Y.length) := by
  intro Y
  induction Y with
  | nil => intro d u h _; exact h
  | cons a r ih =>
    intro d u h hY
    obtain ⟨h1, h2⟩ := hY a (by simp)
    have := ih (relaxO tm d a) (u + 1) (h.relax (c := tm) h1 h2) (fun b hb => by rw [relaxO_len]; exact hY b (by simp [hb]))
    rw [List.length_cons, show u + (r.length + 1) = u + 1 + r.length by omega]
    exact this
theorem BdO.bell {R : List ArcT} {N s : Nat} (hR : ∀ a ∈ R, (-1073741824 ≤ tm a ∧ tm a ≤ 1073741824) ∧ toN a < N) : ∀ k, BdO (bellK tm R N s k) (k * R.length)
  | 0 => by rw [Nat.zero_mul]; exact BdO.start N s
  | k + 1 => by
    have := BdO.relaxAll R _ _ (BdO.bell (s := s) hR k) (fun a ha => by rw [bellK_len]; exact hR a ha)
    rw [Nat.succ_mul]
    exact this
/-! What times tell, by steps -/
/-- The times that are told, the steps that are looked at. -/
structure FarT (Z : List ArcT) (F : List Int) (N s : Nat) (d : List (Option Int)) : Prop where
  len : d.length = N
  start : getO d s = some 0
  closed : ∀ a ∈ rowsR Z F, ∀ x, getO d (frN a) = some x → ∃ y, getO d (toN a) = some y ∧ y ≤ x + tm a
  by_ : ∀ v y, v < N → v ≠ s → getO d v = some y → ∃ a ∈ rowsR Z F, toN a = v ∧ ∃ x, getO d (frN a) = some x ∧ y = x + tm a
  bd : BdO d 1000000
theorem far_facts {N s : Nat} {Z : List ArcT} {F : List Int} (h : farE (N : Int) Z F (s : Int) = 0) (hs : s < N) : farO (N : Int) Z F (s : Int) = dN Z F N s N ∧ FarT Z F N s (dN Z F N s N) := by
  have e : farO (N : Int) Z F (s : Int) = dN Z F N s N := by
    unfold farO
    rw [if_pos h, Int.toNat_natCast, Int.toNat_natCast]
  refine ⟨e, ?_⟩
  have hf : flowE (N : Int) Z F = 0 := by
    unfold farE at h
    split at h
    · assumption
    · next hn => exact absurd h hn
  have hc : calmN Z F N s = true := by
    unfold farE at h
    rw [if_pos hf] at h
    split at h
    · rw [Int.toNat_natCast, Int.toNat_natCast] at h
      split at h
      · assumption
      · cases h
    · cases h
  have hZ := (calm_all hf).2
  rw [Int.toNat_natCast] at hZ
  have hR := rowsR_to (F := F) hZ
  obtain ⟨hR0, _, hz, _⟩ := flow_facts (b := true) hf
  have hfar := (calmN_far hZ hs hc).2
  have hcl : ClosedO (rowsR Z F) tm (dN Z F N s N) := by
    rw [closed_iff]
    exact (okO_iff tm _ _).1 hc
  have hst : getO (dN Z F N s N) s = some 0 := by
    rcases hfar.at_ s hs with ⟨_, h2⟩ | ⟨x, g1, ⟨p, p1, p2, p3⟩, g3⟩
    · exact absurd (reach_self _ _ _) (h2 0)
    · have h1 := g3 0 (reach_self _ _ _)
      have h2 := (calmN_iff hZ hs).1 hc [] p s (by simp) rfl p1 p2
      rw [g1]
      congr 1
      omega
  refine ⟨hfar.len, hst, hcl, ?_, ?_⟩
  · intro v y hv hne hy
    rcases hfar.at_ v hv with ⟨g1, _⟩ | ⟨x, g1, ⟨p, p1, p2, p3⟩, g3⟩
    · rw [g1] at hy; cases hy
    · rw [g1] at hy
      cases hy
      have hp : p ≠ [] := by
        rintro rfl
        simp only [Chain] at p2
        exact hne p2.symm
      obtain ⟨q, a, rfl, c1, c2⟩ := chain_last p2 hp
      have ha := p1 a (by simp)
      refine ⟨a, ha, c2, ?_⟩
      rcases hfar.at_ (frN a) (hR a ha).1 with ⟨g4, g5⟩ | ⟨z, g4, ⟨r, r1, r2, r3⟩, g5⟩
      · exact absurd ⟨q, fun b hb => p1 b (by simp [hb]), c1, rfl⟩ (g5 (costP tm q))
      · refine ⟨z, g4, ?_⟩
        have h1 := g5 (costP tm q) ⟨q, fun b hb => p1 b (by simp [hb]), c1, rfl⟩
        have h2 := g3 (z + tm a) (by
          have := reach_step (c := tm) (s := s) (t := z) ⟨r, r1, r2, r3⟩ ha
          rwa [c2] at this)
        rw [cost_app, show costP tm [a] = tm a by simp [costP]] at p3
        omega
  · have hrow := rows_ok (F := F) (time_of hR0)
    have hb := BdO.bell (R := rowsR Z F) (N := N) (s := s) (fun a ha => ⟨(hrow a ha).2.2, (hR a ha).2⟩) N
    have hl := rows_few (Z := Z) (F := F)
    have hm : N * (rowsR Z F).length ≤ 50 * 400 := Nat.mul_le_mul (by omega) (by omega)
    intro v x hx
    have := hb v x hx
    omega
end Go.Proofs.Ytfklkcnopngpgaa
