/- Fastest of package adj, of any network. -/
import Derived.Test.YtfnafdjcncgcnaaAHops
import Derived.Test.YtfnafdjcncgcnaaPPop
namespace Go.Proofs.Ytfnafdjcncgcnaa
open Go.RowKit
set_option linter.unusedVariables false

theorem Pl.sorted {w : World} {b : Nat} {G : Option Nat} {most : Nat} {L : List (Int × Int)} (h : Pl w b G most L) : SortedP L := by
  obtain ⟨d, h1, h2, h3, h4, h5⟩ := h; exact h4
theorem new_at (n : Int) (most : Nat) (w : World) (hn : n = (most : Int)) (h1 : most ≤ 65536) : Calls Try.prog 39 #[.int .i64 n] w (NewP most w) := by subst hn; exact new_yes most w h1
theorem push_at (b : Nat) (G : Option Nat) (most : Nat) (L : List (Int × Int)) (k v : Int) (w : World) (h : Pl w b G most L) (hm : L.length < most) :
    Calls Try.prog 37 #[.pointer (some ⟨b, 0, none⟩), .agg #[.int .i64 k, .int .i64 v]] w (Pushed b most G (insP (k, v) L) w) := push_yes b G most L (k, v) w h hm
theorem pop_at (b : Nat) (G : Option Nat) (most : Nat) (k v : Int) (L : List (Int × Int)) (w : World) (h : Pl w b G most ((k, v) :: L)) :
    Calls Try.prog 36 #[.pointer (some ⟨b, 0, none⟩)] w (Popped b most G (k, v) L w) := pop_yes b G most (k, v) L w h
theorem DI.ul {Z : List ArcT} {N s : Nat} {d : List Int} {L : List (Int × Int)} {D used T : List Nat} {K : Int} (h : DI Z N s d L D used K T) : used.length ≤ Z.length :=
  nodup_le h.und (fun p hp => by obtain ⟨a, h1, _⟩ := h.us p hp; exact (List.getElem?_eq_some_iff.1 h1).1)
/-- A row of numbers of the call's own, and a pile. -/
structure FW (w1 wr : World) (gd pb : Nat) (G : Option Nat) (most N : Nat) (d : List Int) (L : List (Int × Int)) : Prop where
  below : Below w1.heap.size w1 wr
  dist : OwnL encI wr w1.heap.size 3 (.slice (some ⟨gd, 0, none⟩) N N) d
  pile : Pl wr pb G most L
  lb : w1.heap.size ≤ gd ∧ w1.heap.size ≤ pb ∧ ∀ g, G = some g → w1.heap.size ≤ g
  ne : gd ≠ pb ∧ G ≠ some gd
section
variable {w1 wr w2 : World} {gd pb most N : Nat} {G G' : Option Nat} {d : List Int} {L L' : List (Int × Int)}
theorem FW.step (h : FW w1 wr gd pb G most N d L) (hb : Below wr.heap.size wr w2) : FW w1 w2 gd pb G most N d L :=
  ⟨h.below.trans (hb.mono h.below.size), h.dist.below hb, h.pile.kept (Kept.of_below (S := fun _ => False) hb) (fun h => h) (fun _ _ h => h), h.lb, h.ne⟩
theorem FW.gone (h : FW w1 wr gd pb G most N d L) (hp : Pl w2 pb G most L') (hk : Kept (fun i => i = pb ∨ some i = G) wr w2) : FW w1 w2 gd pb G most N d L' := by
  have hs := h.below.size
  obtain ⟨l1, l2, l3⟩ := h.lb
  refine ⟨h.below.trans (hk.below (by omega) (fun i hi => ?_)), ownL_kept h.dist hk (fun g e => ?_), hp, h.lb, h.ne⟩
  · rcases hi with rfl | hi
    · exact l2
    · exact l3 i hi.symm
  · simp [Value.ownBlock] at e
    subst e
    rintro (e | e)
    · exact h.ne.1 e
    · exact h.ne.2 e.symm
theorem FW.pushed (h : FW w1 wr gd pb G most N d L) (hp : Pl w2 pb G' most L') (hk : Kept (fun i => i = pb ∨ some i = G) wr w2) (hg : G' = G ∨ ∃ k, G' = some k ∧ wr.heap.size ≤ k) : FW w1 w2 gd pb G' most N d L' := by
  have hs := h.below.size
  obtain ⟨l1, l2, l3⟩ := h.lb
  have hd := (own_lt2 h.dist rfl).2
  refine ⟨h.below.trans (hk.below (by omega) (fun i hi => ?_)), ownL_kept h.dist hk (fun g e => ?_), hp, ⟨l1, l2, ?_⟩, h.ne.1, ?_⟩
  · rcases hi with rfl | hi
    · exact l2
    · exact l3 i hi.symm
  · simp [Value.ownBlock] at e
    subst e
    rintro (e | e)
    · exact h.ne.1 e
    · exact h.ne.2 e.symm
  · intro g e
    rcases hg with hg | ⟨k, hg, hk⟩
    · exact l3 g (by rw [← hg]; exact e)
    · rw [hg] at e; cases e; omega
  · rcases hg with hg | ⟨k, hg, hk⟩
    · rw [hg]; exact h.ne.2
    · rw [hg]
      intro e
      have e2 := Option.some.inj e
      have : gd < wr.heap.size := hd
      omega
theorem FW.set (h : FW w1 wr gd pb G most N d L) (j : Nat) (y : Int) : FW w1 (wr.setCell ⟨gd, j, none⟩ (.int .i64 y)) gd pb G most N (d.set j y) L :=
  ⟨below_set h.below h.lb.1 _, h.dist.put j y, h.pile.kept ((Kept.refl (fun i => i = gd) wr).set (.inl rfl) _) (fun e => h.ne.1 e.symm) (fun g hg e => h.ne.2 (by rw [hg, e])), h.lb, h.ne⟩
/-- A block beside them stays what it is. -/
structure Aside2 (wr : World) (gd pb nb : Nat) (G : Option Nat) (o : Obj) : Prop where
  at_ : wr.heap[nb]? = some o
  ne : nb ≠ gd ∧ nb ≠ pb ∧ G ≠ some nb
theorem Aside2.step {nb : Nat} {o : Obj} (h : Aside2 wr gd pb nb G o) (hb : Below wr.heap.size wr w2) : Aside2 w2 gd pb nb G o := ⟨(hb.block nb (lt_whole h.at_)).trans h.at_, h.ne⟩
theorem Aside2.set {nb : Nat} {o : Obj} (h : Aside2 wr gd pb nb G o) (j : Nat) (u : Value) : Aside2 (wr.setCell ⟨gd, j, none⟩ u) gd pb nb G o := ⟨set_other h.at_ h.ne.1 _ _, h.ne⟩
theorem Aside2.pushed {nb : Nat} {o : Obj} (h : Aside2 wr gd pb nb G o) (hk : Kept (fun i => i = pb ∨ some i = G) wr w2) (hg : G' = G ∨ ∃ k, G' = some k ∧ wr.heap.size ≤ k) : Aside2 w2 gd pb nb G' o := by
  have hl := lt_whole h.at_
  refine ⟨hk.old h.at_ ?_, h.ne.1, h.ne.2.1, ?_⟩
  · rintro (e | e)
    · exact h.ne.2.1 e
    · exact h.ne.2.2 e.symm
  · rcases hg with hg | ⟨k, hg, hk⟩
    · rw [hg]; exact h.ne.2.2
    · rw [hg]; intro e; have := Option.some.inj e; omega
end
set_option maxRecDepth 100000 in
set_option maxHeartbeats 4000000 in
theorem fastest_ok (n : Int) (b : Bool) (ao : Option Addr) (cap : Nat) (Z : List ArcT) (s : Nat) (w : World) (h : Row encA 4 w ao Z) (hc : checkE n Z = 0) (hs : s < n.toNat) :
    Calls Try.prog 22 #[.agg #[.int .i64 n, .bool b, .slice ao Z.length cap], .int .i64 (s : Int)] w (NumRes (fastK tm Z n.toNat s n.toNat) w) := by
  have hR : Right (n, b, Z) := right_iff.1 hc
  have hn := nodesE_ok hR.1
  have hzl : Z.length ≤ 200 := hR.2.1
  simp only at hn
  obtain ⟨N, rfl⟩ : ∃ N : Nat, n = (N : Int) := ⟨n.toNat, by omega⟩
  have hsN : s < N := by simpa using hs
  have HS := Lib.hid hs
  have HC := Lib.hid hc
  have HRT := Lib.hid hR
  have HR := Lib.hid (row_alloc h (.cells #[.int .i64 (N : Int), .bool b, .slice ao Z.length cap] 24))
  clear h hc hR hs
  go_enter Try.func22, Try.ntmps22
  have c0 := cell_new w #[.int .i64 (N : Int), .bool b, .slice ao Z.length cap] 24 0
  have c2 := cell_new w #[.int .i64 (N : Int), .bool b, .slice ao Z.length cap] 24 2
  have HB0 : Hid (Below w.heap.size w (w.alloc (.cells #[.int .i64 (N : Int), .bool b, .slice ao Z.length cap] 24))) := Lib.hid ((Below.refl _ w).alloc (Nat.le_refl _) _)
  go_wp2_with (first
    | (go_at_call 28; refine (start_ok (N : Int) b ao cap Z s _ HR.out HC.out HS.out).mono ?_; rintro e w2 ⟨w1, g1, cg1, gd, rfl, hb1, hg1, hgd, ho2, hb2⟩; rw [Int.toNat_natCast] at hg1 ho2 ⊢; have d2 := cell_below hb1 c2; have k2 := cell_below hb2 d2; have HR1 := Lib.hid (HR.out.below' hb1); have HG1 := Lib.hid hg1; have HO2 := Lib.hid ho2; have HB1 := Lib.hid (HB0.out.trans (hb1.mono (by simp))); have HB2 := Lib.hid hb2; clear hb1 hg1 ho2 hb2 c0 c2)
    | (go_at_call 39; refine (new_at _ (Z.length + 1) _ (by push_cast; rfl) (by omega)).mono ?_; rintro e w3 ⟨pb, hpb, rfl, hp3, hb3⟩; have hgd2 : gd < w2.heap.size := (own_lt2 HO2.out rfl).2; have hs2 := HB2.out.size; have HW3 : Hid (FW w1 w3 gd pb none (Z.length + 1) N (startD N s) []) := Lib.hid ⟨HB2.out.trans (hb3.mono HB2.out.size), HO2.out.below hb3, hp3, ⟨hgd, by omega, fun g e => by cases e⟩, by omega, by simp⟩; clear hp3 hb3 k2)
    | (go_at_call 37; refine (push_at pb none (Z.length + 1) [] 0 (s : Int) _ HW3.out.pile (by simp)).mono ?_; rintro e w4 ⟨G4, rfl, hp4, hk4, hg4⟩; have HW4 : Hid (FW w1 w4 gd pb G4 (Z.length + 1) N (startD N s) [(0, (s : Int))]) := Lib.hid (HW3.out.pushed hp4 hk4 hg4); clear hp4 hk4 hg4))
  go_loopg [] (Z.length + 2) (fun k wr => ∃ d L D used K G, Z.length + L.length + 1 ≤ k + used.length ∧ Hid (FW w1 wr gd pb G (Z.length + 1) N d L) ∧ Hid (DI Z N s d L D used K []))
  case atStart => exact ⟨startD N s, [(0, (s : Int))], [], [], 0, G4, by simp, HW4, Lib.hid (DI.start hsN)⟩
  case round =>
    clear HW4 HW3
    obtain ⟨d, L, D, used, K, G, hk, HWO, HI⟩ := hrel
    obtain ⟨wo, hwo⟩ : ∃ wo, wo = wr := ⟨_, rfl⟩
    subst hwo
    have hul := HI.out.ul
    cases L with
    | nil =>
      go_wp2_with (first
        | (go_at_call 35; refine (plen_any pb G (Z.length + 1) [] _ HWO.out.pile).mono ?_; rintro e w5 ⟨rfl, rfl⟩))
      go_ret2
      have hD := isDist_unique (HI.out.done hsN (by have := right_ends HRT.out; simpa using this)) (fast_isDist (c := tm) hsN (fun a ha => by have := right_arc HRT.out ha; rw [Int.toNat_natCast] at this; exact ⟨this.2.2.1, this.2.2.2.1, this.2.2.2.2.1⟩))
      obtain ⟨a, c, e, hl⟩ := HWO.out.dist.lst
      refine ⟨a, c, ?_, ?_, HB1.out.trans (HWO.out.below.mono HB1.out.size)⟩
      · rw [Int.toNat_natCast, ← hD, ← e]; rfl
      · rw [Int.toNat_natCast, ← hD]; exact hl
    | cons x L =>
      obtain ⟨u, hu, hu2, hu3, hu4, hu5, hu6⟩ := HI.out.pr x (by simp)
      obtain ⟨key, it⟩ := x
      simp only at hu2 hu4 hu5 hu6
      subst hu2
      have hkb := HI.out.kb
      have hka : 0 ≤ key := by omega
      have hkc : key ≤ 209715200 := by omega
      have hun : (u : Int) < (N : Int) := by omega
      have HQ : Hid ((((key, (u : Int)) :: L).length : Int) = (L.length : Int) + 1) := Lib.hid (by simp)
      have hdl := HI.out.len
      obtain ⟨dv, hdv⟩ : ∃ dv, atI d u = dv := ⟨_, rfl⟩
      rw [hdv] at hu3 hu4
      have HDV := Lib.hid hdv
      have HSO := Lib.hid HWO.out.pile.sorted
      have hkk : Z.length + L.length + 2 ≤ gk + used.length := by simp at hk; omega
      have hck : d[u]? = some dv := by rw [atI_get (by omega), hdv]
      clear hdv hkb hu5 hu6 hdl
      by_cases hst : dv < key
      · have HI2 := Lib.hid (HI.out.stale (u := u) rfl (by rw [HDV.out]; exact hst))
        go_wp2_with (first
          | (go_at_call 35; refine (plen_any pb G (Z.length + 1) _ _ HWO.out.pile).mono ?_; rintro e w5 ⟨rfl, rfl⟩; rw [HQ.out])
          | (go_at_call 36; refine (pop_at pb G (Z.length + 1) key (u : Int) L _ HWO.out.pile).mono ?_; rintro e w6 ⟨rfl, hp6, hk6⟩; have HW6 : Hid (FW w1 w6 gd pb G (Z.length + 1) N d L) := Lib.hid (HWO.out.gone hp6 hk6); clear hp6 hk6; obtain ⟨hcu, hfu⟩ := HW6.out.dist.cell hck; unfold encI at hcu; have hcu2 := cell_alloc hcu (.cells #[.int .i64 key, .int .i64 (u : Int)] 57); have n0 := cell_new w6 #[.int .i64 key, .int .i64 (u : Int)] 57 0; have n1 := cell_new w6 #[.int .i64 key, .int .i64 (u : Int)] 57 1; have n2 := heap_alloc_new w6 (.cells #[.int .i64 key, .int .i64 (u : Int)] 57); have HW7 := Lib.hid (HW6.out.step ((Below.refl _ w6).alloc (Nat.le_refl _) (.cells #[.int .i64 key, .int .i64 (u : Int)] 57))); have N2 := Lib.hid n2; clear n2 hcu hfu))
        have hd : decide (dv < key) = true := decide_eq_true hst
        go_quiet (fail)
        go_wp2
        go_roundg (gk - 1)
        case measure => omega
        case rel => exact ⟨d, L, D, used, K, G, by omega, Lib.hid (HW7.out.step ⟨rfl, rfl, rfl, Nat.le_refl _, fun _ _ => rfl⟩), HI2⟩
      · obtain ⟨hI2, _, hKe⟩ := HI.out.fresh HSO.out (u := u) rfl (by rw [HDV.out]; simp only; omega)
        simp only at hI2 hKe
        obtain rfl : dv = key := by have := HDV.out; omega
        have HI2 := Lib.hid hI2
        obtain ⟨ao2, cap2, hg1lt, hcl, hlst⟩ := HG1.out.at hu
        have HL := Lib.hid hlst
        have hpl := places_len frN Z u
        obtain ⟨P, hP⟩ : ∃ P, places frN Z u = P := ⟨_, rfl⟩
        rw [hP] at hcl hpl
        have HP := Lib.hid hP
        clear hI2 hP hlst hKe
        have hd : decide (dv < dv) = false := decide_eq_false hst
        go_wp2_with (first
          | (go_at_call 35; refine (plen_any pb G (Z.length + 1) _ _ HWO.out.pile).mono ?_; rintro e w5 ⟨rfl, rfl⟩; rw [HQ.out])
          | (go_at_call 36; refine (pop_at pb G (Z.length + 1) dv (u : Int) L _ HWO.out.pile).mono ?_; rintro e w6 ⟨rfl, hp6, hk6⟩; have HW6 : Hid (FW w1 w6 gd pb G (Z.length + 1) N d L) := Lib.hid (HWO.out.gone hp6 hk6); clear hp6 hk6; obtain ⟨hcu, hfu⟩ := HW6.out.dist.cell hck; unfold encI at hcu; have hcu2 := cell_alloc hcu (.cells #[.int .i64 dv, .int .i64 (u : Int)] 57); have n0 := cell_new w6 #[.int .i64 dv, .int .i64 (u : Int)] 57 0; have n1 := cell_new w6 #[.int .i64 dv, .int .i64 (u : Int)] 57 1; have n2 := heap_alloc_new w6 (.cells #[.int .i64 dv, .int .i64 (u : Int)] 57); have HW7 := Lib.hid (HW6.out.step ((Below.refl _ w6).alloc (Nat.le_refl _) (.cells #[.int .i64 dv, .int .i64 (u : Int)] 57))); have N2 := Lib.hid n2; clear n2 hcu hfu))
        go_quiet (fail)
        have HAS : Hid (Aside2 ((w6.alloc (.cells #[.int .i64 dv, .int .i64 (u : Int)] 57)).drewN nq) gd pb w6.heap.size G (.cells #[.int .i64 dv, .int .i64 (u : Int)] 57 (0, 0))) := Lib.hid ⟨N2.out, by
          have h1 : gd < w6.heap.size := (own_lt2 HW6.out.dist rfl).2
          have h2 := HW6.out.pile.lt
          refine ⟨by omega, by omega, fun e => ?_⟩
          have := h2.2.1 _ e
          omega⟩
        have HW8 : Hid (FW w1 ((w6.alloc (.cells #[.int .i64 dv, .int .i64 (u : Int)] 57)).drewN nq) gd pb G (Z.length + 1) N d L) := Lib.hid (HW7.out.step ⟨rfl, rfl, rfl, Nat.le_refl _, fun _ _ => rfl⟩)
        clear HW6 HW7 N2 n0 n1 hcu2
        obtain ⟨nb, hnb⟩ : ∃ nb, w6.heap.size = nb := ⟨_, rfl⟩
        rw [hnb] at HAS ⊢
        generalize (w6.alloc (.cells #[.int .i64 dv, .int .i64 (u : Int)] 57)).drewN nq = w8 at *
        have m1 := cell_whole HAS.out.at_ 1
        have f1 := cell_below' HW8.out.below hcl hg1lt
        go_wp2
        go_loopw [61] (fun i wi => ∃ (j : Nat) (d' : List Int) (L' : List (Int × Int)) (used' : List Nat) (G' : Option Nat), j ≤ P.length ∧ i = .int .i64 (j : Int) ∧ Z.length + L'.length + 2 ≤ gk + used'.length ∧ Hid (FW w1 wi gd pb G' (Z.length + 1) N d' L') ∧ Hid (Aside2 wi gd pb nb G' (.cells #[.int .i64 dv, .int .i64 (u : Int)] 57 (0, 0))) ∧ Hid (DI Z N s d' L' (u :: D) used' dv (P.drop j)) ∧ Hid (atI d' u = dv)) (fun i _ => P.length - (intOf i).toNat)
        case atStart => exact ⟨0, d, L, used, G, Nat.zero_le _, rfl, hkk, HW8, HAS, Lib.hid (by rw [List.drop_zero, ← HP.out]; exact HI2.out), HDV⟩
        case round =>
          clear HW8 HAS HI2 f1 m1
          obtain ⟨j, d', L', used', G', hj, rfl, hkk', HWI, HASI, HJ, HKU⟩ := hrel
          have dd2 := cell_below' HWI.out.below d2 (block_lt_of_cell d2)
          have hul' := HJ.out.ul
          by_cases hlt : j < P.length
          · have hli : (j : Int) < (P.length : Int) := by omega
            have hpm : P[j] ∈ places frN Z u := by rw [HP.out]; exact List.getElem_mem hlt
            obtain ⟨bb, oo, e, hbb, hcp⟩ := lst_cell HL.out (i := j) (x := ((P[j] : Nat) : Int)) (by rw [HP.out]; exact natI_at hlt)
            cases e
            have hcp' := cell_below' HWI.out.below hcp hbb
            unfold encI at hcp'
            have hDr : P.drop j = P[j] :: P.drop (j + 1) := List.drop_eq_getElem_cons hlt
            have hJ := HJ.out
            rw [hDr] at hJ
            generalize P[j] = p at *
            obtain ⟨a, hpa, hfa⟩ := places_mem.1 hpm
            obtain ⟨h1, h2, h3, h4, h5, h6⟩ := right_arc HRT.out (List.mem_of_getElem? hpa)
            rw [Int.toNat_natCast] at h3 h4
            obtain ⟨ab, ax, e, hab, a0, a1, a2, a3⟩ := arc_at (HR1.out.below' HWI.out.below) hpa
            cases e
            rw [h2] at a1
            have hpz : p < Z.length := (List.getElem?_eq_some_iff.1 hpa).1
            have hpi : (p : Int) < (Z.length : Int) := by omega
            have hdl := HJ.out.len
            have hrl := fun hb => hJ.relax hpa (by rw [hfa]; exact HKU.out) h4 ⟨h5, h6⟩ hb
            have hsk := fun g0 g1 => hJ.skip hpa g0 (by rw [hfa, HKU.out]; exact g1)
            have hnn := fun h => (HJ.out.sound (toN a) (by omega)).resolve_left h
            rw [hfa] at hrl
            have hat := atI_get (d := d') (v := toN a) (by omega)
            obtain ⟨x, hx⟩ : ∃ x, toN a = x := ⟨_, rfl⟩
            obtain ⟨et, het⟩ : ∃ et, tm a = et := ⟨_, rfl⟩
            have het2 : a.2.2.2 = et := het
            obtain ⟨cv, hcv⟩ : ∃ cv, atI d' x = cv := ⟨_, rfl⟩
            rw [het2] at a3
            rw [hx] at a1 h4 hrl hsk hnn hat
            rw [het] at hrl hsk h5 h6
            rw [hcv] at hrl hsk hnn hat
            obtain ⟨ea, hea⟩ : ∃ ea, a.1 = ea := ⟨_, rfl⟩
            obtain ⟨ec, hec⟩ : ∃ ec, a.2.2.1 = ec := ⟨_, rfl⟩
            rw [hea] at a0
            rw [hec] at a2
            have HWA := Lib.hid (HWI.out.step ((Below.refl _ wr).alloc (Nat.le_refl _) (.cells #[.int .i64 ea, .int .i64 (x : Int), .int .i64 ec, .int .i64 et] 42)))
            have HASA := Lib.hid (HASI.out.step ((Below.refl _ wr).alloc (Nat.le_refl _) (.cells #[.int .i64 ea, .int .i64 (x : Int), .int .i64 ec, .int .i64 et] 42)))
            obtain ⟨hcx, hfx⟩ := HWA.out.dist.cell hat
            unfold encI at hcx
            have m0 := cell_whole HASA.out.at_ 0
            have r1 := cell_new wr #[.int .i64 ea, .int .i64 (x : Int), .int .i64 ec, .int .i64 et] 42 1
            have r3 := cell_new wr #[.int .i64 ea, .int .i64 (x : Int), .int .i64 ec, .int .i64 et] 42 3
            have hgl : gd < wr.heap.size := (own_lt2 HWI.out.dist rfl).2
            have hne1 : gd ≠ wr.heap.size := by omega
            have hne2 : wr.heap.size ≠ gd := by omega
            have hxi : (x : Int) < (N : Int) := by omega
            clear hpm hcp hDr hJ hpa hfa h1 h2 h3 hdl hat hx het het2 hcv hea hec HJ
            by_cases h0 : cv = -1
            · subst h0
              obtain ⟨hI3, hK3, hLl⟩ := hrl (.inl rfl)
              clear hrl hsk hnn
              have HI3 := Lib.hid hI3
              have HK3 := Lib.hid hK3
              have HWS := Lib.hid ((HWI.out.set x (dv + et)).step ((Below.refl _ _).alloc (Nat.le_refl _) (.cells #[.int .i64 ea, .int .i64 (x : Int), .int .i64 ec, .int .i64 et] 42)))
              have HAS3 := Lib.hid ((HASI.out.set x (.int .i64 (dv + et))).step ((Below.refl _ _).alloc (Nat.le_refl _) (.cells #[.int .i64 ea, .int .i64 (x : Int), .int .i64 ec, .int .i64 et] 42)))
              clear hI3 hK3
              go_wp2_with (first
                | (go_at_call 37; refine (push_at pb G' (Z.length + 1) L' (dv + et) (x : Int) _ HWS.out.pile (by omega)).mono ?_; rintro e w9 ⟨G9, rfl, hp9, hk9, hg9⟩; have HW9 : Hid (FW w1 w9 gd pb G9 (Z.length + 1) N (d'.set x (dv + et)) (insP (dv + et, (x : Int)) L')) := Lib.hid (HWS.out.pushed hp9 hk9 hg9); have HAS9 := Lib.hid (HAS3.out.pushed hk9 hg9); clear hp9 hk9 hg9))
              go_roundw
              case rel => exact ⟨j + 1, _, _, used' ++ [p], G9, by omega, by go_num, by rw [insP_length, List.length_append]; simp; omega, HW9, HAS9, HI3, HK3⟩
              case measure => simp [intOf]; omega
            · have hf1 : (cv == -1) = false := by simpa using h0
              have hcv0 := (hnn h0).1
              by_cases hlt2 : dv + et < cv
              · obtain ⟨hI3, hK3, hLl⟩ := hrl (.inr hlt2)
                clear hrl hsk hnn
                have HI3 := Lib.hid hI3
                have HK3 := Lib.hid hK3
                have HWS := Lib.hid ((HWI.out.set x (dv + et)).step ((Below.refl _ _).alloc (Nat.le_refl _) (.cells #[.int .i64 ea, .int .i64 (x : Int), .int .i64 ec, .int .i64 et] 42)))
                have HAS3 := Lib.hid ((HASI.out.set x (.int .i64 (dv + et))).step ((Below.refl _ _).alloc (Nat.le_refl _) (.cells #[.int .i64 ea, .int .i64 (x : Int), .int .i64 ec, .int .i64 et] 42)))
                clear hI3 hK3
                go_wp2_with (first
                  | (go_at_call 37; refine (push_at pb G' (Z.length + 1) L' (dv + et) (x : Int) _ HWS.out.pile (by omega)).mono ?_; rintro e w9 ⟨G9, rfl, hp9, hk9, hg9⟩; have HW9 : Hid (FW w1 w9 gd pb G9 (Z.length + 1) N (d'.set x (dv + et)) (insP (dv + et, (x : Int)) L')) := Lib.hid (HWS.out.pushed hp9 hk9 hg9); have HAS9 := Lib.hid (HAS3.out.pushed hk9 hg9); clear hp9 hk9 hg9))
                go_roundw
                case rel => exact ⟨j + 1, _, _, used' ++ [p], G9, by omega, by go_num, by rw [insP_length, List.length_append]; simp; omega, HW9, HAS9, HI3, HK3⟩
                case measure => simp [intOf]; omega
              · have HI3 := Lib.hid (hsk hcv0 (by omega))
                clear hrl hsk hnn
                go_wp2
                go_roundw
                case rel => exact ⟨j + 1, d', L', used' ++ [p], G', by omega, by go_num, by rw [List.length_append]; simp; omega, HWA, HASA, HI3, HKU⟩
                case measure => simp [intOf]; omega
          · have hli : ¬ (j : Int) < (P.length : Int) := by omega
            obtain rfl : j = P.length := by omega
            have hJ := HJ.out
            rw [List.drop_length] at hJ
            have HJ2 := Lib.hid hJ
            clear hJ
            go_wp2
            go_roundg (gk - 1)
            case measure => omega
            case rel => exact ⟨d', L', u :: D, used', dv, G', by omega, HWI, HJ2⟩
end Go.Proofs.Ytfnafdjcncgcnaa
