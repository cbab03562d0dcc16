/- Order of package adj, of any network. -/
import Derived.Test.YtfnafdjcncgcnaaAFast
namespace Go.Proofs.Ytfnafdjcncgcnaa
open Go.RowKit
set_option linter.unusedVariables false

theorem prl_len {L : List (Int × Int)} {t : Nat} (hnd : L.Nodup) (h : ∀ x ∈ L, ∃ v, v < t ∧ x = prN v) : L.length ≤ t := by
  have hn : (L.map fun x => x.1.toNat).Nodup := by
    rw [List.nodup_iff_pairwise_ne, List.pairwise_map]
    refine (List.nodup_iff_pairwise_ne.1 hnd).imp_of_mem ?_
    intro x y hx hy hne e
    obtain ⟨u, _, rfl⟩ := h x hx
    obtain ⟨v, _, rfl⟩ := h y hy
    simp only [prN, Int.toNat_natCast] at e
    exact hne (by rw [e])
  have := nodup_le (N := t) hn (by
    intro x hx
    obtain ⟨y, hy, rfl⟩ := List.mem_map.1 hx
    obtain ⟨v, hv, rfl⟩ := h y hy
    simpa [prN] using hv)
  simpa using this
theorem bynum_any (v : Int) (w : World) : Calls Try.prog 38 #[.int .i64 v] w fun e w' => e = .returned (.agg #[.int .i64 v, .int .i64 v]) ∧ Below w.heap.size w w' := by
  go_enter Try.func38, Try.ntmps38
  go_wp2
  exact bodyPost_ret (v := .agg #[.int .i64 v, .int .i64 v]) (by simp [results, Try.results38, go_sem]) rfl ⟨rfl, (Below.refl _ w).alloc (Nat.le_refl _) _⟩
/-- The ready ones among the first t nodes. -/
def Ready (pend : List Int) (t : Nat) (L : List (Int × Int)) : Prop := (∀ x, x ∈ L ↔ ∃ v, v < t ∧ x = prN v ∧ atI pend v = 0) ∧ L.Nodup
theorem Ready.len {pend : List Int} {t : Nat} {L : List (Int × Int)} (h : Ready pend t L) : L.length ≤ t := prl_len h.2 (fun x hx => by obtain ⟨v, h1, h2, _⟩ := (h.1 x).1 hx; exact ⟨v, h1, h2⟩)
theorem Ready.skip {pend : List Int} {t : Nat} {L : List (Int × Int)} (h : Ready pend t L) (h0 : atI pend t ≠ 0) : Ready pend (t + 1) L := by
  refine ⟨fun x => ?_, h.2⟩
  rw [h.1]
  constructor
  · rintro ⟨v, h1, h2, h3⟩; exact ⟨v, by omega, h2, h3⟩
  · rintro ⟨v, h1, h2, h3⟩
    have : v ≠ t := by rintro rfl; exact h0 h3
    exact ⟨v, by omega, h2, h3⟩
theorem Ready.push {pend : List Int} {t : Nat} {L : List (Int × Int)} (h : Ready pend t L) (h0 : atI pend t = 0) : Ready pend (t + 1) (insP ((t : Int), (t : Int)) L) := by
  have hnew : prN t ∉ L := fun hm => by
    obtain ⟨v, h1, h2, _⟩ := (h.1 _).1 hm
    have := prN_inj h2
    omega
  refine ⟨fun x => ?_, ((insP_perm _ L).nodup_iff).2 (List.nodup_cons.2 ⟨hnew, h.2⟩)⟩
  rw [(insP_perm _ L).mem_iff, List.mem_cons, h.1]
  constructor
  · rintro (rfl | ⟨v, h1, h2, h3⟩)
    · exact ⟨t, by omega, rfl, h0⟩
    · exact ⟨v, by omega, h2, h3⟩
  · rintro ⟨v, h1, h2, h3⟩
    by_cases e : v = t
    · subst e; exact .inl h2
    · exact .inr ⟨v, by omega, h2, h3⟩
def WithRes (N : Nat) (pend : List Int) (w : World) (e : Ending) (w' : World) : Prop :=
  ∃ pb G L, e = .returned (.pointer (some ⟨pb, 0, none⟩)) ∧ w.heap.size ≤ pb ∧ (∀ g, G = some g → w.heap.size ≤ g) ∧ Pl w' pb G N L ∧ Ready pend N L ∧ Below w.heap.size w w'
set_option maxRecDepth 100000 in
set_option maxHeartbeats 2000000 in
theorem without_any (N B gd : Nat) (pend : List Int) (w : World) (h : OwnL encI w B 3 (.slice (some ⟨gd, 0, none⟩) N N) pend) (hl : pend.length = N) (hN : N ≤ 50) :
    Calls Try.prog 34 #[.slice (some ⟨gd, 0, none⟩) N N] w (WithRes N pend w) := by
  have HO := Lib.hid h
  clear h
  have HL := Lib.hid hl
  clear hl
  go_enter Try.func34, Try.ntmps34
  go_wp2_with (first
    | (go_at_call 39; refine (new_at _ N _ rfl (by omega)).mono ?_; rintro e w1 ⟨pb, hpb, rfl, hp1, hb1⟩; have HP1 := Lib.hid hp1; have HB1 := Lib.hid hb1; clear hp1 hb1))
  go_loopw [15] (fun i wr => ∃ (t : Nat) (G : Option Nat) (L : List (Int × Int)), t ≤ N ∧ i = .int .i64 (t : Int) ∧ Hid (Pl wr pb G N L) ∧ Hid (Below w.heap.size w wr) ∧ Hid (Ready pend t L) ∧ Hid (∀ g, G = some g → w.heap.size ≤ g)) (fun i _ => N - (intOf i).toNat)
  case atStart => exact ⟨0, none, [], Nat.zero_le _, rfl, HP1, HB1, Lib.hid ⟨by simp, by simp⟩, Lib.hid (by simp)⟩
  case round =>
    obtain ⟨t, G, L, ht, rfl, HP, HB, HR, HG⟩ := hrel
    by_cases hlt : t < N
    · have hli : (t : Int) < (N : Int) := by omega
      obtain ⟨hc, hf⟩ := (HO.out.below HB.out).cell (atI_get (d := pend) (v := t) (by rw [HL.out]; exact hlt))
      unfold encI at hc
      have hll := HR.out.len
      by_cases h0 : atI pend t = 0
      · have HR2 := Lib.hid (HR.out.push h0)
        rw [h0] at hc
        clear h0
        go_wp2_with (first
          | (go_at_call 38; refine (bynum_any _ _).mono ?_; rintro e w2 ⟨rfl, hb2⟩; have HP2 := Lib.hid (HP.out.kept (Kept.of_below (S := fun _ => False) hb2) (fun h => h) (fun _ _ h => h)); have HB2 := Lib.hid (HB.out.trans (hb2.mono HB.out.size)); clear hb2)
          | (go_at_call 37; refine (push_at pb G N L (t : Int) (t : Int) _ HP2.out (by omega)).mono ?_; rintro e w3 ⟨G3, rfl, hp3, hk3, hg3⟩; have HP3 := Lib.hid hp3; have hs2 := HB2.out.size; have HB3 := Lib.hid (HB2.out.trans (hk3.below hs2 (fun i hi => by rcases hi with rfl | hi; exact hpb; exact HG.out i hi.symm))); have HG3 : Hid (∀ g, G3 = some g → w.heap.size ≤ g) := Lib.hid (fun g e => by rcases hg3 with hg | ⟨k, hg, hk⟩; exact HG.out g (by rw [← hg]; exact e); rw [hg] at e; cases e; omega); clear hp3 hk3 hg3))
        go_roundw
        case rel => exact ⟨t + 1, G3, _, by omega, by go_num, HP3, HB3, HR2, HG3⟩
        case measure => simp [intOf]; omega
      · have HR2 := Lib.hid (HR.out.skip h0)
        obtain ⟨cv, hcv⟩ : ∃ cv, atI pend t = cv := ⟨_, rfl⟩
        rw [hcv] at hc h0
        have hf1 : (cv == 0) = false := by simpa using h0
        clear hcv
        go_wp2
        go_roundw
        case rel => exact ⟨t + 1, G, L, by omega, by go_num, HP, HB, HR2, HG⟩
        case measure => simp [intOf]; omega
    · have hli : ¬ (t : Int) < (N : Int) := by omega
      obtain rfl : t = N := by omega
      go_wp2
      go_ret
      exact ⟨pb, G, L, rfl, hpb, HG.out, HP.out, HR.out, HB.out⟩
/-- How many arcs of the first k come to each node. -/
def pendK (Z : List ArcT) (N k : Nat) : List Int := (List.range N).map fun v => (cntP Z (List.range k) v : Int)
theorem pendK_len (Z : List ArcT) (N k : Nat) : (pendK Z N k).length = N := by simp [pendK]
theorem pendK_at (Z : List ArcT) {N v : Nat} (k : Nat) (h : v < N) : atI (pendK Z N k) v = (cntP Z (List.range k) v : Int) := by
  unfold atI; rw [List.getD_eq_getElem?_getD, List.getElem?_eq_getElem (by rw [pendK_len]; exact h)]; simp [pendK]
theorem pendK_zero (Z : List ArcT) (N : Nat) : pendK Z N 0 = List.replicate N 0 := by
  apply List.ext_getElem
  · simp [pendK]
  · intro i h1 h2; simp [pendK, cntP]
theorem pendK_succ {Z : List ArcT} {N k : Nat} {a : ArcT} (ha : Z[k]? = some a) (ht : toN a < N) : pendK Z N (k + 1) = (pendK Z N k).set (toN a) (atI (pendK Z N k) (toN a) + 1) := by
  rw [pendK_at Z k ht]
  apply List.ext_getElem
  · simp [pendK]
  · intro i h1 h2
    rw [List.getElem_set]
    simp only [pendK, List.getElem_map, List.getElem_range]
    rw [cntP_range_succ Z k i ha]
    by_cases e : toN a = i
    · subst e; simp
    · simp [e]
theorem cntP_range_le (Z : List ArcT) (k v : Nat) : cntP Z (List.range k) v ≤ k := by have := cntP_le Z (List.range k) v; simpa using this
structure KW (w1 wr : World) (gd pb : Nat) (G : Option Nat) (N : Nat) (d : List Int) (L : List (Int × Int)) (lv : Value) (l : List Nat) : Prop where
  fw : FW w1 wr gd pb G N N d L
  res : OwnL encI wr w1.heap.size 3 lv (natI l)
  rn : ∀ g, lv.ownBlock = some g → g ≠ gd ∧ g ≠ pb ∧ G ≠ some g
section
variable {w1 wr w2 : World} {gd pb N : Nat} {G G' : Option Nat} {d : List Int} {L L' : List (Int × Int)} {lv : Value} {l : List Nat}
theorem KW.step (h : KW w1 wr gd pb G N d L lv l) (hb : Below wr.heap.size wr w2) : KW w1 w2 gd pb G N d L lv l := ⟨h.fw.step hb, h.res.below hb, h.rn⟩
theorem KW.gone (h : KW w1 wr gd pb G N d L lv l) (hp : Pl w2 pb G N L') (hk : Kept (fun i => i = pb ∨ some i = G) wr w2) : KW w1 w2 gd pb G N d L' lv l :=
  ⟨h.fw.gone hp hk, ownL_kept h.res hk (fun g e => by
    obtain ⟨h1, h2, h3⟩ := h.rn g e
    rintro (e | e)
    · exact h2 e
    · exact h3 e.symm), h.rn⟩
theorem KW.pushed (h : KW w1 wr gd pb G N d L lv l) (hp : Pl w2 pb G' N L') (hk : Kept (fun i => i = pb ∨ some i = G) wr w2) (hg : G' = G ∨ ∃ k, G' = some k ∧ wr.heap.size ≤ k) : KW w1 w2 gd pb G' N d L' lv l :=
  ⟨h.fw.pushed hp hk hg, ownL_kept h.res hk (fun g e => by
    obtain ⟨h1, h2, h3⟩ := h.rn g e
    rintro (e | e)
    · exact h2 e
    · exact h3 e.symm), fun g e => by
    obtain ⟨h1, h2, h3⟩ := h.rn g e
    refine ⟨h1, h2, ?_⟩
    rcases hg with hg | ⟨k, hg, hk⟩
    · rw [hg]; exact h3
    · rw [hg]
      intro e2
      have := Option.some.inj e2
      have := (own_lt2 h.res e).2
      omega⟩
theorem KW.set (h : KW w1 wr gd pb G N d L lv l) (j : Nat) (y : Int) : KW w1 (wr.setCell ⟨gd, j, none⟩ (.int .i64 y)) gd pb G N (d.set j y) L lv l :=
  ⟨h.fw.set j y, ownL_kept h.res ((Kept.refl (fun i => i = gd) wr).set (.inl rfl) _) (fun g e e2 => (h.rn g e).1 e2), h.rn⟩
theorem KW.app (h : KW w1 wr gd pb G N d L lv l) {g n c x : Nat} (ho : OwnL encI w2 w1.heap.size 3 (.slice (some ⟨g, 0, none⟩) n c) (natI (l ++ [x]))) (hg : wr.grownBy w2 lv.ownBlock) (hl : lv.ownBlock = some g ∨ g = wr.heap.size) : KW w1 w2 gd pb G N d L (.slice (some ⟨g, 0, none⟩) n c) (l ++ [x]) := by
  have hs := h.fw.below.size
  have hpl := h.fw.pile.lt
  have hdl : gd < wr.heap.size := (own_lt2 h.fw.dist rfl).2
  have hk : Kept (fun i => lv.ownBlock = some i) wr w2 := Kept.of_grown hg (fun k e => e)
  refine ⟨⟨below_grown h.fw.below hs hg (fun g e => (own_lt2 h.res e).1), ownL_kept h.fw.dist hk (fun g' e e2 => ?_), h.fw.pile.kept hk (fun e => (h.rn _ e).2.1 rfl) (fun g' e e2 => (h.rn _ e2).2.2 e), h.fw.lb, h.fw.ne⟩, ho, fun g' e => ?_⟩
  · simp [Value.ownBlock] at e
    subst e
    exact (h.rn _ e2).1 rfl
  · simp [Value.ownBlock] at e
    subst e
    rcases hl with hl | rfl
    · exact h.rn _ hl
    · refine ⟨by omega, by omega, fun e => ?_⟩
      have := hpl.2.1 _ e
      omega
end
/-- An order that a call tells, or that there is none. -/
def OrdRes (o : Option (List Nat)) (w : World) (e : Ending) (w' : World) : Prop :=
  ∃ a c, e = .returned (.tuple #[.slice a (o.getD []).length c, .bool o.isSome, .int .i64 0]) ∧ Lst encI w' a (natI (o.getD [])) ∧ Below w.heap.size w w'
set_option maxRecDepth 100000 in
set_option maxHeartbeats 4000000 in
theorem order_ok (n : Int) (b : Bool) (ao : Option Addr) (cap : Nat) (Z : List ArcT) (w : World) (h : Row encA 4 w ao Z) (hc : checkE n Z = 0) :
    Calls Try.prog 20 #[.agg #[.int .i64 n, .bool b, .slice ao Z.length cap]] w (OrdRes (orderK Z n.toNat n.toNat) w) := by
  have hR : Right (n, b, Z) := right_iff.1 hc
  have hn := nodesE_ok hR.1
  have hzl : Z.length ≤ 200 := hR.2.1
  simp only at hn
  obtain ⟨N, rfl⟩ : ∃ N : Nat, n = (N : Int) := ⟨n.toNat, by omega⟩
  have HC := Lib.hid hc
  have HRT := Lib.hid hR
  have HR := Lib.hid (row_alloc h (.cells #[.int .i64 (N : Int), .bool b, .slice ao Z.length cap] 24))
  clear h hc hR
  go_enter Try.func20, Try.ntmps20
  have c0 := cell_new w #[.int .i64 (N : Int), .bool b, .slice ao Z.length cap] 24 0
  have c2 := cell_new w #[.int .i64 (N : Int), .bool b, .slice ao Z.length cap] 24 2
  have HB0 : Hid (Below w.heap.size w (w.alloc (.cells #[.int .i64 (N : Int), .bool b, .slice ao Z.length cap] 24))) := Lib.hid ((Below.refl _ w).alloc (Nat.le_refl _) _)
  go_wp2_with (first
    | (go_at_call 10; refine (out_ok (N : Int) b ao cap Z _ HR.out HC.out).mono ?_; rintro e w1 ⟨g1, cg1, rfl, hg1, hb1⟩; rw [Int.toNat_natCast] at hg1 ⊢; have d0 := cell_below hb1 c0; have d2 := cell_below hb1 c2; have HR1 := Lib.hid (HR.out.below' hb1); have HG1 := Lib.hid hg1; have HB1 := Lib.hid (HB0.out.trans (hb1.mono (by simp))); clear hb1 hg1 c0 c2)
    | (at_make; refine wpList_make_L (enc := encI) 0 Try.underlying32 infoInt rfl (by omega) rfl _ _ rfl N rfl rfl (by omega) ?_; intro w2 ho2 hb2; have k0 := cell_below hb2 d0; have k2 := cell_below hb2 d2; have HO2 := Lib.hid ho2; have HB2 := Lib.hid hb2; clear ho2 hb2))
  clear k0 k2
  go_loopw [30] (fun i wr => ∃ t : Nat, t ≤ Z.length ∧ i = .int .i64 (t : Int) ∧ Hid (Below w1.heap.size w1 wr) ∧ Hid (OwnL encI wr w1.heap.size 3 (.slice (some ⟨w1.heap.size, 0, none⟩) N N) (pendK Z N t))) (fun i _ => Z.length - (intOf i).toNat)
  case atStart => exact ⟨0, Nat.zero_le _, rfl, HB2, Lib.hid (by rw [pendK_zero]; exact HO2.out)⟩
  case round =>
    obtain ⟨t, ht, rfl, HB, HO⟩ := hrel
    by_cases hlt : t < Z.length
    · have hli : (t : Int) < (Z.length : Int) := by omega
      have hpa : Z[t]? = some Z[t] := List.getElem?_eq_getElem hlt
      obtain ⟨h1, h2, h3, h4, h5, h6⟩ := right_arc HRT.out (List.mem_of_getElem? hpa)
      rw [Int.toNat_natCast] at h3 h4
      obtain ⟨ab, ax, e, hab, a0, a1, a2, a3⟩ := arc_at (HR1.out.below' HB.out) hpa
      cases e
      rw [h2] at a1
      have hsu := pendK_succ hpa h4
      have hat := atI_get (d := pendK Z N t) (v := toN Z[t]) (by rw [pendK_len]; exact h4)
      have hbd := pendK_at Z t h4
      have hle := cntP_range_le Z t (toN Z[t])
      clear hpa h1 h2 h3 h5 h6
      generalize Z[t] = a at *
      generalize toN a = x at *
      obtain ⟨cv, hcv⟩ : ∃ cv, atI (pendK Z N t) x = cv := ⟨_, rfl⟩
      rw [hcv] at hsu hat hbd
      obtain ⟨e0, e1, e2, e3⟩ := a
      simp only at a0 a2 a3
      obtain ⟨hcx, hfx⟩ := (HO.out.alloc (.cells #[.int .i64 e0, .int .i64 (x : Int), .int .i64 e2, .int .i64 e3] 42)).cell hat
      unfold encI at hcx
      have hca : 0 ≤ cv := by omega
      have hcb : cv ≤ 200 := by omega
      have HSU := Lib.hid hsu
      have hxi : (x : Int) < (N : Int) := by omega
      clear hcv hsu hat hbd
      have HO3 := Lib.hid ((HO.out.put x (cv + 1)).alloc (.cells #[.int .i64 e0, .int .i64 (x : Int), .int .i64 e2, .int .i64 e3] 42))
      have HB3 := Lib.hid ((below_set (g := w1.heap.size) (j := x) HB.out (Nat.le_refl _) (.int .i64 (cv + 1))).alloc (by have := HB.out.size; simpa [World.setCell] using this) (.cells #[.int .i64 e0, .int .i64 (x : Int), .int .i64 e2, .int .i64 e3] 42))
      have hgl : w1.heap.size < wr.heap.size := (own_lt2 HO.out rfl).2
      have hne1 : w1.heap.size ≠ wr.heap.size := by omega
      have hne2 : wr.heap.size ≠ w1.heap.size := by omega
      go_wp2
      go_roundw
      case rel => exact ⟨t + 1, by omega, by go_num, HB3, Lib.hid (by rw [HSU.out]; exact HO3.out)⟩
      case measure => simp [intOf]; omega
    · have hli : ¬ (t : Int) < (Z.length : Int) := by omega
      obtain rfl : t = Z.length := by omega
      go_wp2_with (first
        | (go_at_call 34; refine (without_any N w1.heap.size w1.heap.size (pendK Z N Z.length) _ HO.out (pendK_len _ _ _) (by omega)).mono ?_; rintro e w3 ⟨pb, G3, L3, rfl, hpb, hG3, hp3, hr3, hb3⟩; have hgl : w1.heap.size < wr.heap.size := (own_lt2 HO.out rfl).2; have HW3 : Hid (KW w1 w3 w1.heap.size pb G3 N (pendK Z N Z.length) L3 (.slice none 0 0) []) := Lib.hid ⟨⟨HB.out.trans (hb3.mono HB.out.size), HO.out.below hb3, hp3, ⟨Nat.le_refl _, by omega, fun g e => by have := hG3 g e; omega⟩, by omega, fun e => by have := hG3 _ e; omega⟩, OwnL.nil _ _ _, fun g e => by cases e⟩; have HI3 := Lib.hid (OI.start (Z := Z) (pendK_len Z N Z.length) (fun v hv => pendK_at Z _ hv) hr3.1 hr3.2); clear hp3 hr3 hb3 hG3))
      have HB1s := HB1.out.size
      clear HB2 HO2 HB HO
      go_loopg [2] (N + 1) (fun k lv wr => ∃ pend P L l G, k + l.length = N + 1 ∧ Hid (KW w1 wr w1.heap.size pb G N pend L lv l) ∧ Hid (OI Z N pend P L l []))
      case atStart => exact ⟨_, _, L3, [], G3, by simp, HW3, HI3⟩
      case round =>
        clear HW3 HI3
        obtain ⟨pend, P, L, l, G, hk, HWO, HI⟩ := hrel
        obtain ⟨wo, hwo⟩ : ∃ wo, wo = wr := ⟨_, rfl⟩
        subst hwo
        have hll := HI.out.len_le
        obtain ⟨la, lc, hlv, hlst⟩ := HWO.out.res.lst
        subst hlv
        cases L with
        | nil =>
          have kk0 := cell_below' HWO.out.fw.below d0 (block_lt_of_cell d0)
          have HL := Lib.hid hlst
          have HLN := Lib.hid (natI_len l)
          clear hlst
          by_cases hlt : l.length < N
          · have hli : (l.length : Int) < (N : Int) := by omega
            have HN := Lib.hid (HI.out.none hlt)
            rw [HLN.out]
            go_wp2_with (first
              | (go_at_call 35; refine (plen_any pb G N [] _ HWO.out.fw.pile).mono ?_; rintro e w5 ⟨rfl, rfl⟩))
            refine bodyPost_ret (v := .tuple #[.slice none 0 0, .bool false, .int .i64 0]) (by simp [results, Try.results20, go_sem]) rfl ?_
            rw [Int.toNat_natCast, HN.out]
            exact ⟨none, 0, rfl, Lst.nil _ _, HB1.out.trans (HWO.out.fw.below.mono HB1.out.size)⟩
          · have hli : ¬ (l.length : Int) < (N : Int) := by omega
            have HN := Lib.hid (HI.out.some hlt)
            rw [HLN.out]
            go_wp2_with (first
              | (go_at_call 35; refine (plen_any pb G N [] _ HWO.out.fw.pile).mono ?_; rintro e w5 ⟨rfl, rfl⟩))
            refine bodyPost_ret (v := .tuple #[.slice la l.length lc, .bool true, .int .i64 0]) (by simp [results, Try.results20, go_sem]) rfl ?_
            rw [Int.toNat_natCast, HN.out]
            exact ⟨la, lc, rfl, HL.out, HB1.out.trans (HWO.out.fw.below.mono HB1.out.size)⟩
        | cons x L =>
          obtain ⟨u, e, hu, hu2, hu3⟩ := HI.out.next HWO.out.fw.pile.sorted
          subst e
          obtain ⟨hI2, _, hlN⟩ := HI.out.pop HWO.out.fw.pile.sorted
          have HI2 := Lib.hid hI2
          have HQ : Hid (((prN u :: L).length : Int) = (L.length : Int) + 1) := Lib.hid (by simp)
          obtain ⟨ao2, cap2, hg1lt, hcl, hlst2⟩ := HG1.out.at hu
          have hun : (u : Int) < (N : Int) := by omega
          have HL := Lib.hid hlst2
          have hpl := places_len frN Z u
          obtain ⟨P2, hP⟩ : ∃ P2, places frN Z u = P2 := ⟨_, rfl⟩
          rw [hP] at hcl hpl
          have HP := Lib.hid hP
          have HLN := Lib.hid (natI_len l)
          clear hI2 hP hlst2 hlst hu3
          go_wp2_with (first
            | (go_at_call 35; refine (plen_any pb G N _ _ HWO.out.fw.pile).mono ?_; rintro e w5 ⟨rfl, rfl⟩; rw [HQ.out])
            | (go_at_call 36; refine (pop_at pb G N (u : Int) (u : Int) L _ HWO.out.fw.pile).mono ?_; rintro e w6 ⟨rfl, hp6, hk6⟩; have HW6 : Hid (KW w1 w6 w1.heap.size pb G N pend L (.slice la (natI l).length lc) l) := Lib.hid (HWO.out.gone hp6 hk6); have HW7 := Lib.hid (HW6.out.step ((Below.refl _ w6).alloc (Nat.le_refl _) (.cells #[.int .i64 (u : Int), .int .i64 (u : Int)] 57))); have n1 := cell_new w6 #[.int .i64 (u : Int), .int .i64 (u : Int)] 57 1; have HN := Lib.hid (heap_alloc_new w6 (.cells #[.int .i64 (u : Int), .int .i64 (u : Int)] 57)); have HW8 := Lib.hid (HW7.out.step ((Below.refl _ _).alloc (Nat.le_refl _) (.cells #[.int .i64 (u : Int)] 3))); clear hp6 hk6 HWO)
            | (at_builtin; refine wpList_append_one (enc := encI) Try.underlying32 infoInt rfl (by omega) rfl _ _ rfl w1.heap.size (.slice la (natI l).length lc) (natI l) (u : Int) rfl rfl HW8.out.res _ 1 rfl (cell_new' (by simp) _ _ 0) (by rw [HLN.out]; omega) HW8.out.fw.below.size ?_; intro g9 cap9 w9 ho9 hg9 hl9 hb9 hlt9; have HW9 := Lib.hid (HW8.out.app (x := u) (by rw [natI_snoc]; exact ho9) hg9 hl9); have nn := (Kept.of_grown (S := fun i => (Value.slice la (natI l).length lc).ownBlock = some i) hg9 (fun k e => e)).old (alloc_whole HN.out (.cells #[.int .i64 (u : Int)] 3)) (fun e => by have := (own_lt2 HW6.out.res e).2; omega); have m1 := cell_whole nn 1; have f1 := cell_below' HW9.out.fw.below hcl hg1lt; clear ho9 hg9 hl9 nn n1 hcl HN))
          obtain ⟨lv, hlv⟩ : ∃ lv, Value.slice (some ⟨g9, 0, none⟩) ((natI l).length + 1) cap9 = lv := ⟨_, rfl⟩
          rw [hlv] at HW9
          rw [hlv]
          go_loopw [63] (fun i wi => ∃ (j : Nat) (pend' : List Int) (P' : List Nat) (L' : List (Int × Int)) (G' : Option Nat), j ≤ P2.length ∧ i = .int .i64 (j : Int) ∧ Hid (KW w1 wi w1.heap.size pb G' N pend' L' lv (l ++ [u])) ∧ Hid (OI Z N pend' P' L' (l ++ [u]) (P2.drop j))) (fun i _ => P2.length - (intOf i).toNat)
          case atStart => exact ⟨0, pend, P, L, G, Nat.zero_le _, rfl, HW9, Lib.hid (by rw [List.drop_zero, ← HP.out]; exact HI2.out)⟩
          case round =>
            clear HW9 HI2 f1 m1
            obtain ⟨j, pend', P', L', G', hj, rfl, HWI, HJ⟩ := hrel
            have dd2 := cell_below' HWI.out.fw.below d2 (block_lt_of_cell d2)
            by_cases hlt : j < P2.length
            · have hli : (j : Int) < (P2.length : Int) := by omega
              have hpm : P2[j] ∈ places frN Z u := by rw [HP.out]; exact List.getElem_mem hlt
              obtain ⟨bb, oo, e, hbb, hcp⟩ := lst_cell HL.out (i := j) (x := ((P2[j] : Nat) : Int)) (by rw [HP.out]; exact natI_at hlt)
              cases e
              have hcp' := cell_below' HWI.out.fw.below hcp hbb
              unfold encI at hcp'
              have hDr : P2.drop j = P2[j] :: P2.drop (j + 1) := List.drop_eq_getElem_cons hlt
              have hJ := HJ.out
              rw [hDr] at hJ
              generalize P2[j] = p at *
              obtain ⟨a, hpa, hfa⟩ := places_mem.1 hpm
              obtain ⟨h1, h2, h3, h4, h5, h6⟩ := right_arc HRT.out (List.mem_of_getElem? hpa)
              rw [Int.toNat_natCast] at h3 h4
              obtain ⟨ab, ax, e, hab, _, a1, _, _⟩ := arc_at (HR1.out.below' HWI.out.fw.below) hpa
              cases e
              rw [h2] at a1
              have hpz : p < Z.length := (List.getElem?_eq_some_iff.1 hpa).1
              have hpi : (p : Int) < (Z.length : Int) := by omega
              have hdl := HJ.out.len
              have hkeep := fun g0 => hJ.keep hpa h4 g0
              have hpush := fun g0 => hJ.push hpa h4 g0
              have hmid := (hJ.mid hpa h4).2.2.1
              have hcb := cntP_le Z (P'.erase p) (toN a)
              have hPl : P'.length ≤ Z.length := nodup_le HJ.out.pn (fun q hq => by obtain ⟨c, hc, _⟩ := (HJ.out.pm q).1 hq; exact (List.getElem?_eq_some_iff.1 hc).1)
              have hel := List.length_erase_le (a := p) (l := P')
              obtain ⟨hcx, hfx⟩ := HWI.out.fw.dist.cell (atI_get (v := toN a) (by omega))
              unfold encI at hcx
              have hca : 1 ≤ atI pend' (toN a) := by omega
              have hcc : atI pend' (toN a) ≤ 201 := by omega
              clear hmid hcb hpm hcp hDr hJ hpa hfa h1 h2 h3 h5 h6 hdl hel hPl
              generalize toN a = x at *
              have hxi : (x : Int) < (N : Int) := by omega
              obtain ⟨cv, hcv⟩ : ∃ cv, atI pend' x = cv := ⟨_, rfl⟩
              rw [hcv] at hcx hca hcc hkeep hpush
              have HWS := Lib.hid (HWI.out.set x (cv - 1))
              clear hcv
              by_cases h0 : cv = 1
              · subst h0
                obtain ⟨hI3, hLl⟩ := hpush rfl
                have HI3 := Lib.hid hI3
                clear hI3 hpush hkeep
                go_wp2_with (first
                  | (go_at_call 38; refine (bynum_any _ _).mono ?_; rintro e w10 ⟨rfl, hb10⟩; have HW10 := Lib.hid (HWS.out.step hb10); clear hb10)
                  | (go_at_call 37; refine (push_at pb G' N L' (x : Int) (x : Int) _ HW10.out.fw.pile (by omega)).mono ?_; rintro e w11 ⟨G11, rfl, hp11, hk11, hg11⟩; have HW11 := Lib.hid (HW10.out.pushed hp11 hk11 hg11); clear hp11 hk11 hg11))
                go_roundw
                case rel => exact ⟨j + 1, _, _, _, G11, by omega, by go_num, HW11, HI3⟩
                case measure => simp [intOf]; omega
              · have HI3 := Lib.hid (hkeep h0)
                have hf1 : (cv - 1 == 0) = false := by simp; omega
                have hf2 : ¬ cv - 1 = 0 := by omega
                clear hpush hkeep
                go_wp2
                go_roundw
                case rel => exact ⟨j + 1, _, _, L', G', by omega, by go_num, HWS, HI3⟩
                case measure => simp [intOf]; omega
            · have hli : ¬ (j : Int) < (P2.length : Int) := by omega
              obtain rfl : j = P2.length := by omega
              have hJ := HJ.out
              rw [List.drop_length] at hJ
              have HJ2 := Lib.hid hJ
              clear hJ
              go_wp2
              go_roundg (gk - 1)
              case measure => omega
              case rel => exact ⟨pend', P', L', l ++ [u], G', by rw [List.length_append]; simp; omega, HWI, HJ2⟩
end Go.Proofs.Ytfnafdjcncgcnaa
