/- What any right program answers: awake of layer 13. -/
import Derived.Test.YtmflleifglefiaaDLgs
import Derived.Test.YtmflleifglefiaaDSam
import Derived.Test.YtmflleifglefiaaBN
namespace Go.Proofs.Ytmflleifglefiaa
open Go.RowKit
set_option linter.unusedVariables false

def ZD : List ArcT := [(0, 1, 3, 1), (1, 2, 3, 1), (2, 1, 3, 1)]
theorem rowD13 (w : World) (g : Nat) (hg : w.heap.size = g) (t : TypeId) : Row encA 4 (w.alloc (.cells #[.int .i64 0, .int .i64 1, .int .i64 3, .int .i64 1, .int .i64 1, .int .i64 2, .int .i64 3, .int .i64 1, .int .i64 2, .int .i64 1, .int .i64 3, .int .i64 1] t)) (some ⟨g, 0, none⟩) ZD := by
  intro i hi
  refine ⟨g, 0, rfl, by simp; omega, fun j hj => ?_⟩
  rw [Nat.zero_add, cell_new' hg]
  match i, hi, j, hj with
  | 0, _, 0, _ => rfl
  | 0, _, 1, _ => rfl
  | 0, _, 2, _ => rfl
  | 0, _, 3, _ => rfl
  | 1, _, 0, _ => rfl
  | 1, _, 1, _ => rfl
  | 1, _, 2, _ => rfl
  | 1, _, 3, _ => rfl
  | 2, _, 0, _ => rfl
  | 2, _, 1, _ => rfl
  | 2, _, 2, _ => rfl
  | 2, _, 3, _ => rfl
theorem lst1D (w : World) (t : TypeId) (g : Nat) (hg : w.heap.size = g) (x : Int) : Lst encI (w.alloc (.cells #[.int .i64 x] t)) (some ⟨g, 0, none⟩) [x] := by
  intro i hi
  refine ⟨g, 0, rfl, by simp; omega, ?_⟩
  rw [Nat.zero_add, cell_new' hg]
  match i, hi with
  | 0, _ => rfl
/-- A row of one chain of two arcs, just built. -/
theorem rowC13 (w : World) (t t2 : TypeId) (g : Nat) (hg : w.heap.size = g) (x y k : Int) : Row encC 2 ((w.alloc (.cells #[.int .i64 x, .int .i64 y] t)).alloc (.cells #[.slice (some ⟨g, 0, none⟩) 2 2, .int .i64 k] t2)) (some ⟨g + 1, 0, none⟩) [((some ⟨g, 0, none⟩, 2), ([x, y], k))] ∧ (∀ z ∈ [(((some ⟨g, 0, none⟩, 2), ([x, y], k)) : ChT)], Lst encI ((w.alloc (.cells #[.int .i64 x, .int .i64 y] t)).alloc (.cells #[.slice (some ⟨g, 0, none⟩) 2 2, .int .i64 k] t2)) z.1.1 z.2.1 ∧ z.2.1.length ≤ 200000) := by
  subst hg
  constructor
  · intro i hi
    refine ⟨w.heap.size + 1, 0, rfl, by simp, fun j hj => ?_⟩
    rw [Nat.zero_add]
    have hc := cell_whole (new_whole1 w (.cells #[.int .i64 x, .int .i64 y] t) (.cells #[.slice (some ⟨w.heap.size, 0, none⟩) 2 2, .int .i64 k] t2))
    match i, hi, j, hj with
    | 0, _, 0, _ => exact hc 0
    | 0, _, 1, _ => exact hc 1
  · intro z hz
    rw [List.mem_singleton.1 hz]
    exact ⟨(lst28 w t _ rfl x y).below ((Below.refl _ _).alloc (Nat.le_refl _) _), by simp⟩
theorem zd_s : splitE 3 ZD 0 2 [1, 2, 1] = 0 ∧ (chainsF ZD 3 0 2 [1, 2, 1]).map partI = [([0, 1], 1)] ∧ (cycsF ZD 3 [1, 2, 1]).map partI = [([1, 2], 1)] := ⟨by kernel_rfl, by kernel_rfl, by kernel_rfl⟩
theorem zd_l : checkE 3 ZD = 0 ∧ inB 3 [0, 1] = true ∧ lenI ZD [0, 1] = 2 := ⟨by kernel_rfl, by kernel_rfl, by kernel_rfl⟩
theorem ChR.below {w w' : World} {ca : Option Addr} {X : List ChT} {L : List Part} (h : ChR w ca X L) (hb : Below w.heap.size w w') : ChR w' ca X L := ⟨h.1.below' hb, fun x hx => (h.2.1 x hx).below hb, h.2.2⟩
/-- Chains whose arcs are few. -/
theorem ChR.short {w : World} {ca : Option Addr} {X : List ChT} {L : List Part} (h : ChR w ca X L) {M : Nat} (hM : ∀ p ∈ L, p.1.length ≤ M) : ∀ x ∈ X, Lst encI w x.1.1 x.2.1 ∧ x.2.1.length ≤ M := by
  intro x hx
  refine ⟨h.2.1 x hx, ?_⟩
  have h1 : x.2 ∈ X.map (fun x => x.2) := List.mem_map.2 ⟨x, hx, rfl⟩
  rw [h.2.2] at h1
  obtain ⟨p, hp, e⟩ := List.mem_map.1 h1
  have h2 := hM p hp
  rw [← e]
  show (arcsL p.1).length ≤ M
  rw [arcsL_len]
  exact h2
def LoopD (w : World) (e : Ending) (w' : World) : Prop := ∃ g, e = .returned (.agg #[.int .i64 3, .bool false, .slice (some ⟨g, 0, none⟩) 3 3]) ∧ Row encA 4 w' (some ⟨g, 0, none⟩) ZD ∧ Below w.heap.size w w'
theorem dloop_any (w : World) : Calls Try.prog 33 #[] w (LoopD w) := by
  go_enter Try.func33, Try.ntmps33
  go_wp2
  have h0 := cell_alloc (cell_new w #[.int .i64 3, .bool false, .slice (some ⟨w.heap.size + 1, 0, none⟩) 3 3] 24 0) (.cells #[.int .i64 0, .int .i64 1, .int .i64 3, .int .i64 1, .int .i64 1, .int .i64 2, .int .i64 3, .int .i64 1, .int .i64 2, .int .i64 1, .int .i64 3, .int .i64 1] 44)
  have h1 := cell_alloc (cell_new w #[.int .i64 3, .bool false, .slice (some ⟨w.heap.size + 1, 0, none⟩) 3 3] 24 1) (.cells #[.int .i64 0, .int .i64 1, .int .i64 3, .int .i64 1, .int .i64 1, .int .i64 2, .int .i64 3, .int .i64 1, .int .i64 2, .int .i64 1, .int .i64 3, .int .i64 1] 44)
  have h2 := cell_alloc (cell_new w #[.int .i64 3, .bool false, .slice (some ⟨w.heap.size + 1, 0, none⟩) 3 3] 24 2) (.cells #[.int .i64 0, .int .i64 1, .int .i64 3, .int .i64 1, .int .i64 1, .int .i64 2, .int .i64 3, .int .i64 1, .int .i64 2, .int .i64 1, .int .i64 3, .int .i64 1] 44)
  refine bodyPost_ret (v := .agg #[.int .i64 3, .bool false, .slice (some ⟨w.heap.size + 1, 0, none⟩) 3 3]) (by simp [results, Try.results33, go_sem, h0, h1, h2]) rfl ⟨_, rfl, rowD13 _ _ (by simp) _, ((Below.refl _ w).alloc (Nat.le_refl _) _).alloc (by simp) _⟩
theorem len_zd : ZD.length ≤ maxLen ∧ ([1, 2, 1] : List Int).length ≤ maxLen := by unfold maxLen; decide
theorem chainsD_short : (∀ p ∈ chainsF ZD 3 0 2 [1, 2, 1], p.1.length ≤ 200000) ∧ (∀ p ∈ cycsF ZD 3 [1, 2, 1], p.1.length ≤ 200000) := by
  have h1 := zd_s.2.1
  have h2 := zd_s.2.2
  constructor <;> intro p hp
  · have h3 : partI p ∈ (chainsF ZD 3 0 2 [1, 2, 1]).map partI := List.mem_map.2 ⟨p, hp, rfl⟩
    rw [h1] at h3
    have h4 : arcsL p.1 = [0, 1] := congrArg Prod.fst (List.mem_singleton.1 h3)
    have h5 := arcsL_len p.1
    rw [h4] at h5
    simp at h5
    omega
  · have h3 : partI p ∈ (cycsF ZD 3 [1, 2, 1]).map partI := List.mem_map.2 ⟨p, hp, rfl⟩
    rw [h2] at h3
    have h4 : arcsL p.1 = [1, 2] := congrArg Prod.fst (List.mem_singleton.1 h3)
    have h5 := arcsL_len p.1
    rw [h4] at h5
    simp at h5
    omega
/-- What Split tells of the loop. -/
theorem dsplit_zd (fo : Option Addr) (fc : Nat) (ao : Option Addr) (cap : Nat) (w : World) (h : Row encA 4 w ao ZD) (hf : Lst encI w fo [1, 2, 1]) :
    Calls Try.prog 9 #[.agg #[.int .i64 3, .bool false, .slice ao 3 cap], .int .i64 0, .int .i64 2, .slice fo 3 fc] w fun e w' =>
      ∃ (ca ya : Option Addr) (cc yc : Nat) (X Y : List ChT) (P Q : List Part), e = .returned (.tuple #[.slice ca X.length cc, .slice ya Y.length yc, .int .i64 0]) ∧ (ChR w' ca X P ∧ ∀ p ∈ P, p.1.length ≤ 200000) ∧ (ChR w' ya Y Q ∧ ∀ p ∈ Q, p.1.length ≤ 200000) ∧ sayL X = [([0, 1], 1)] ∧ sayL Y = [([1, 2], 1)] ∧ Below w.heap.size w w' := by
  refine (dsplit_any 3 false ao fo cap fc ZD [1, 2, 1] 0 2 w h hf len_zd.1 len_zd.2).mono ?_
  intro e w' hres
  obtain ⟨_, N, i, j, ca, ya, cc, yc, X, Y, hn, hs, ht, hij, rfl, hcr, hcy, hb⟩ := hres.resolve_right (fun q => q.1 zd_s.1)
  obtain rfl : N = 3 := by omega
  obtain rfl : i = 0 := by omega
  obtain rfl : j = 2 := by omega
  exact ⟨ca, ya, cc, yc, X, Y, _, _, rfl, ⟨hcr, chainsD_short.1⟩, ⟨hcy, chainsD_short.2⟩, by rw [← zd_s.2.1]; exact hcr.2.2, by rw [← zd_s.2.2]; exact hcy.2.2, hb⟩
theorem len_say {X : List ChT} {L : List (List Int × Int)} (h : sayL X = L) : X.length = L.length := by rw [← h]; unfold sayL; rw [List.length_map]
theorem dlengths_zd (ca : Option Addr) (cc : Nat) (X : List ChT) (L : List Part) (ao : Option Addr) (cap : Nat) (w : World) (h : Row encA 4 w ao ZD) (hX : ChR w ca X L) (hs : sayL X = [([0, 1], 1)]) :
    Calls Try.prog 18 #[.agg #[.int .i64 3, .bool false, .slice ao 3 cap], .slice ca X.length cc] w fun e w' => ∃ la lc, e = .returned (.tuple #[.slice la 1 lc, .int .i64 0]) ∧ Lst encI w' la [2] ∧ Below w.heap.size w w' := by
  have hl := len_say hs
  have hm : ∀ x ∈ X, x.2 = ([0, 1], 1) := fun x hx => by
    have h1 : x.2 ∈ sayL X := List.mem_map.2 ⟨x, hx, rfl⟩
    rw [hs] at h1
    exact List.mem_singleton.1 h1
  refine (dlengths_any 3 false ao ca cap X.length cc ZD X w h len_zd.1 hX.1 (fun x hx => ⟨hX.2.1 x hx, by rw [hm x hx]; unfold maxLen; decide⟩) rfl (by rw [hl]; decide)).mono ?_
  intro e w' hres
  rcases hres with ⟨h1, _⟩ | ⟨_, ⟨x, hx, h2⟩, _⟩ | ⟨_, _, v, M, rfl, ho, hM, hat, hb⟩
  · exact absurd zd_l.1 h1
  · rw [hm x hx] at h2
    exact absurd (zd_l.2.1.symm.trans h2) (by decide)
  · rw [hl] at hM
    obtain ⟨x, hx⟩ : ∃ x, X[0]? = some x := ⟨X[0]'(by rw [hl]; decide), List.getElem?_eq_getElem _⟩
    have h3 := hat 0 x hx (by rw [hm x (List.mem_of_getElem? hx)]; decide)
    rw [hm x (List.mem_of_getElem? hx), zd_l.2.2] at h3
    have h4 : M = [2] := by
      match M, hM, h3 with
      | [y], _, h3 => rw [show y = 2 from h3]
    subst h4
    obtain ⟨la, lc, rfl, hl2⟩ := ho.lst
    exact ⟨la, lc, rfl, hl2, hb⟩
theorem bstep13 {w w1 w2 : World} (h : Below w.heap.size w w1) (o p : Obj) (h2 : Below ((w1.alloc o).alloc p).heap.size ((w1.alloc o).alloc p) w2) : Below w.heap.size w w2 ∧ Below w1.heap.size w1 w2 := by
  have h3 : Below w1.heap.size w1 w2 := (((Below.refl w1.heap.size w1).alloc (Nat.le_refl _) o).alloc (by simp) p).trans (h2.mono (by simp; omega))
  exact ⟨h.trans (h3.mono h.size), h3⟩
/-- A row of chains beside one that was just built. -/
theorem rsameD (X : List ChT) (ca : Option Addr) (cc : Nat) (L : List Part) (x y k : Int) (w : World) (t t2 : TypeId) (hX : ChR w ca X L) (hsh : ∀ p ∈ L, p.1.length ≤ 200000) (hs : sayL X = [([x, y], k)]) :
    Calls Try.prog 14 #[.slice ca X.length cc, .slice (some ⟨w.heap.size + 1, 0, none⟩) 1 1] ((w.alloc (.cells #[.int .i64 x, .int .i64 y] t)).alloc (.cells #[.slice (some ⟨w.heap.size, 0, none⟩) 2 2, .int .i64 k] t2)) fun e w' => e = .returned (.bool true) ∧ Below ((w.alloc (.cells #[.int .i64 x, .int .i64 y] t)).alloc (.cells #[.slice (some ⟨w.heap.size, 0, none⟩) 2 2, .int .i64 k] t2)).heap.size ((w.alloc (.cells #[.int .i64 x, .int .i64 y] t)).alloc (.cells #[.slice (some ⟨w.heap.size, 0, none⟩) 2 2, .int .i64 k] t2)) w' := by
  have hb := ((Below.refl w.heap.size w).alloc (Nat.le_refl _) (.cells #[.int .i64 x, .int .i64 y] t)).alloc (by simp) (.cells #[.slice (some ⟨w.heap.size, 0, none⟩) 2 2, .int .i64 k] t2)
  have hX2 := hX.below hb
  obtain ⟨h1, h2⟩ := rowC13 w t t2 _ rfl x y k
  have hc := rsame13_any X [((some ⟨w.heap.size, 0, none⟩, 2), ([x, y], k))] ca (some ⟨w.heap.size + 1, 0, none⟩) cc 1 _ hX2.1 h1 (hX2.short hsh) h2 (by rw [len_say hs]; simp) (by simp)
  rw [decide_eq_true (show sayL X = sayL [((some ⟨w.heap.size, 0, none⟩, 2), ([x, y], k))] from hs)] at hc
  exact hc
set_option maxRecDepth 100000 in
set_option maxHeartbeats 4000000 in
theorem dawake_any (w : World) : Calls Try.prog 13 #[] w fun e w' => e = .returned (.bool true) ∧ Below w.heap.size w w' := by
  have HB := Lib.hid (Below.refl w.heap.size w)
  go_enter Try.func13, Try.ntmps13
  go_wp2_with (first
    | (go_at_call 33; refine (dloop_any _).mono ?_; rintro e w1 ⟨g1, rfl, hr1, hb1⟩; have HR1 := Lib.hid hr1; have HQ1 := Lib.hid hb1; have HB := Lib.hid (HB.out.trans (hb1.mono HB.out.size)); clear hr1 hb1)
    | (go_at_call 9; refine (dsplit_zd (some ⟨w1.heap.size, 0, none⟩) 3 (some ⟨g1, 0, none⟩) 3 _ (row_alloc HR1.out _) (lst38 _ _ _ rfl 1 2 1)).mono ?_; rintro e w2 ⟨ca, ya, cc, yc, X, Y, P, Q, rfl, ⟨hcx, hpx⟩, ⟨hcy, hpy⟩, hsx, hsy, hb2⟩; have HCX := Lib.hid hcx; have HCY := Lib.hid hcy; have HPX := Lib.hid hpx; have HPY := Lib.hid hpy; have HSX := Lib.hid hsx; have HSY := Lib.hid hsy; have HB := Lib.hid (bstep8 HB.out _ hb2); clear hcx hcy hpx hpy hsx hsy hb2)
    | (go_at_call 18; refine (dlengths_zd ca cc X _ (some ⟨g1, 0, none⟩) 3 _ HR1.out (HCX.out.below HQ1.out) HSX.out).mono ?_; rintro e w3 ⟨la, lc, rfl, hl3, hb3⟩; have HL3 := Lib.hid hl3; have HCX := Lib.hid ((HCX.out.below HQ1.out).below hb3); have HCY := Lib.hid ((HCY.out.below HQ1.out).below hb3); have HB := Lib.hid (HB.out.trans (hb3.mono HB.out.size)); clear hl3 hb3))
  refine (rsameD X ca cc P 0 1 1 w3 _ _ HCX.out HPX.out HSX.out).mono ?_
  rintro e w4 ⟨rfl, hb4⟩
  obtain ⟨hb5, hb6⟩ := bstep13 HB.out _ _ hb4
  have HCY := Lib.hid (HCY.out.below hb6)
  have HL3 := Lib.hid (HL3.out.below hb6)
  have HB := Lib.hid hb5
  clear hb4 hb5 hb6
  go_wp2_with fail
  refine (rsameD Y ya yc Q 1 2 1 w4 _ _ HCY.out HPY.out HSY.out).mono ?_
  rintro e w5 ⟨rfl, hb4⟩
  obtain ⟨hb5, hb6⟩ := bstep13 HB.out _ _ hb4
  have HL3 := Lib.hid (HL3.out.below hb6)
  have HB := Lib.hid hb5
  clear hb4 hb5 hb6
  go_wp2_with (first
    | (go_at_call 15; refine (sameints_eq [2] la (some ⟨w5.heap.size, 0, none⟩) lc 1 _ (HL3.out.below ((Below.refl _ _).alloc (Nat.le_refl _) _)) (lst1D _ _ _ rfl 2) (by decide)).mono ?_; rintro e w6 ⟨rfl, hb6⟩; have HB := Lib.hid (bstep8 HB.out _ hb6); clear hb6))
  go_ret
  exact ⟨rfl, HB.out⟩
end Go.Proofs.Ytmflleifglefiaa
