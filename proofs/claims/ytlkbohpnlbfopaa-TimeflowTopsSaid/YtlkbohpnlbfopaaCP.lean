/- Lemmas of the layers below, several texts in one. -/
import Derived.Test.YtlkbohpnlbfopaaCG
import Derived.Test.YtlkbohpnlbfopaaCC
import Derived.StillTailTactics
import Derived.Test.YtlkbohpnlbfopaaHAwk
namespace Go.Proofs.Ytlkbohpnlbfopaa
open Go.RowKit
set_option linter.unusedVariables false
abbrev ByT := Int × Int × Int
def encBy (x : ByT) : List Value := [.int .u8 x.1, .int .u8 x.2.1, .int .u8 x.2.2]
def ByOk (x : ByT) : Prop := ByteB x.1 ∧ ByteB x.2.1 ∧ ByteB x.2.2
def readM (m H : Nat) (x : ByT) : MoveT := (x.1 % (m : Int), x.2.1 % ((H : Int) + 1), x.2.2 % 4)
def readK (m H : Nat) (K : List ByT) : List MoveT := if m = 0 then [] else (K.take 30).map (readM m H)
theorem by_at {w : World} {ba : Option Addr} {B : List ByT} (h : Row encBy 3 w ba B) {i : Nat} {x : ByT} (hx : B[i]? = some x) :
    ∃ b o, ba = some ⟨b, o, none⟩ ∧ b < w.heap.size ∧ w.cell? ⟨b, o + i * 3, none⟩ = some (.int .u8 x.1) ∧ w.cell? ⟨b, o + i * 3 + 1, none⟩ = some (.int .u8 x.2.1) ∧ w.cell? ⟨b, o + i * 3 + 2, none⟩ = some (.int .u8 x.2.2) := by
  obtain ⟨hi, rfl⟩ := List.getElem?_eq_some_iff.1 hx
  obtain ⟨b, o, e, hb, hc⟩ := h i hi
  exact ⟨b, o, e, hb, hc 0 (by decide), hc 1 (by decide), hc 2 (by decide)⟩
def OwnMv (w : World) (base : Nat) (v : Value) (L : List MoveT) : Prop := w.ownsRow base 78 3 v L.length (L.flatMap encK)
theorem OwnMv.below {w w' : World} {base : Nat} {v : Value} {L : List MoveT} (h : OwnMv w base v L) (hb : Below w.heap.size w w') : OwnMv w' base v L := own_below h hb
theorem OwnMv.row {w : World} {base : Nat} {v : Value} {L : List MoveT} (h : OwnMv w base v L) : ∃ ao cap, v = .slice ao L.length cap ∧ Row encK 3 w ao L := own_row encK_len h
theorem rdK_succ {m H k : Nat} {K : List ByT} {x : ByT} (hx : K[k]? = some x) : (K.take (k + 1)).map (readM m H) = (K.take k).map (readM m H) ++ [readM m H x] := by
  obtain ⟨hk, rfl⟩ := List.getElem?_eq_some_iff.1 hx
  rw [List.take_succ_eq_append_getElem hk, List.map_append]
  rfl
theorem rdK_len (m H : Nat) (K : List ByT) (k : Nat) : ((K.take k).map (readM m H)).length = min k K.length := by simp
theorem rdK_stop {m H k : Nat} {K : List ByT} (hk : k ≤ K.length) (h30 : k ≤ 30) (h0 : m = 0 → k = 0) (h : ¬ (k < K.length ∧ k < 30 ∧ 0 < m)) : (K.take k).map (readM m H) = readK m H K := by
  unfold readK
  by_cases hm : m = 0
  · rw [if_pos hm, h0 hm]; rfl
  · rw [if_neg hm]
    congr 1
    by_cases h1 : k = 30
    · rw [h1]
    · rw [List.take_of_length_le (by omega), List.take_of_length_le (by omega)]
theorem readK_len (m H : Nat) (K : List ByT) : (readK m H K).length ≤ 30 := by
  unfold readK
  split
  · simp
  · rw [rdK_len]; omega
theorem readK_mem {m H : Nat} {K : List ByT} : ∀ x ∈ readK m H K, (0 ≤ x.1 ∧ x.1 < (m : Int)) ∧ (0 ≤ x.2.1 ∧ x.2.1 ≤ (H : Int)) ∧ 0 ≤ x.2.2 ∧ x.2.2 ≤ 3 := by
  intro x hx
  unfold readK at hx
  split at hx
  · cases hx
  · next hm =>
    obtain ⟨y, _, rfl⟩ := List.mem_map.1 hx
    unfold readM
    have h1 := Int.emod_nonneg y.1 (show (m : Int) ≠ 0 by omega)
    have h2 := Int.emod_lt_of_pos y.1 (show (0 : Int) < (m : Int) by omega)
    have h3 := Int.emod_nonneg y.2.1 (show (H : Int) + 1 ≠ 0 by omega)
    have h4 := Int.emod_lt_of_pos y.2.1 (show (0 : Int) < (H : Int) + 1 by omega)
    simp only
    omega
theorem read12_8 (nn s t sp : Int) (hold : Bool) (ba : Option Addr) (bc : Nat) (B : List BitT) (w : World) (h : Row encBit 4 w ba B) (hB : ∀ x ∈ B, BitOk x) (hbl : B.length ≤ maxLen)
    (hn : ByteB nn) (hs : ByteB s) (ht : ByteB t) (hp : ByteB sp) :
    Calls Try.prog 12 #[.agg #[.int .u8 nn, .bool hold, .slice ba B.length bc, .int .u8 s, .int .u8 t, .int .u8 sp], .int .i64 8] w (ReadRes hold (nodeN nn) (srcN nn s) (snkN nn s t) (horN sp) (readZ (nodeN nn) 8 B) w) := read12_any 8 nn s t sp hold ba bc B w h hB hbl (by omega) hn hs ht hp
theorem cell_eqB {w w' : World} {b o : Nat} (h : w'.heap[b]? = w.heap[b]?) : w'.cell? ⟨b, o, none⟩ = w.cell? ⟨b, o, none⟩ := by
  unfold World.cell?
  rw [h]
theorem rowA_set {w : World} {g : Nat} {za : Option Addr} {Z : List ArcT} {a : Int} {b : Bool} {v : Value} {t : TypeId} (h : Row encA 4 w za Z) (hg : w.heap[g]? = some (.cells #[.int .i64 a, .bool b, v] t (0, 0))) (hv : ∀ z, v ≠ .int .i64 z) (j : Nat) (u : Value) : Row encA 4 (w.setCell ⟨g, j, none⟩ u) za Z := by
  intro i hi
  obtain ⟨bb, o, e, hlt, hc⟩ := h i hi
  have hne : bb ≠ g := by
    rintro rfl
    have c0 := hc 0 (by decide)
    have c1 := hc 1 (by decide)
    rw [cell_whole hg] at c0 c1
    generalize o + i * 4 = p at *
    match p with
    | 0 => simp [encA] at c1
    | 1 => simp [encA] at c1; exact hv _ c1
    | p + 2 => simp [encA] at c1
  obtain ⟨ob, hob⟩ : ∃ ob, w.heap[bb]? = some ob := ⟨_, Array.getElem?_eq_getElem hlt⟩
  have h2 := set_other (b := g) hob (by omega) j u
  exact ⟨bb, o, e, by simpa [World.setCell] using hlt, fun j' hj => by rw [cell_eqB (h2.trans hob.symm)]; exact hc j' hj⟩
def HeldR (gx gn lb lx k : Nat) (la za : Option Addr) (kl lc zl zc : Nat) (xa xt xn : Int) (W : World) : Prop := W.cell? ⟨gx, 6, none⟩ = some (.slice la kl lc) ∧ W.cell? ⟨gn, 2, none⟩ = some (.slice za zl zc) ∧ W.cell? ⟨lb, lx + k * 3, none⟩ = some (.int .u8 xa) ∧ W.cell? ⟨lb, lx + k * 3 + 1, none⟩ = some (.int .u8 xt) ∧ W.cell? ⟨lb, lx + k * 3 + 2, none⟩ = some (.int .u8 xn)
theorem HeldR.below {gx gn lb lx k : Nat} {la za : Option Addr} {kl lc zl zc : Nat} {xa xt xn : Int} {W W' : World} (h : HeldR gx gn lb lx k la za kl lc zl zc xa xt xn W) (hb : Below W.heap.size W W') : HeldR gx gn lb lx k la za kl lc zl zc xa xt xn W' := ⟨cell_below hb h.1, cell_below hb h.2.1, cell_below hb h.2.2.1, cell_below hb h.2.2.2.1, cell_below hb h.2.2.2.2⟩
theorem mv_snoc {w : World} {B : Nat} {v : Value} {Z : List MoveT} {x : MoveT} (h : w.ownsRow B 78 3 v (Z.length + 1) (Z.flatMap encK ++ encK x)) : OwnMv w B v (Z ++ [x]) := by
  unfold OwnMv
  rw [List.length_append, List.length_singleton, List.flatMap_append, List.flatMap_singleton]
  exact h
def RdRes (hold : Bool) (N i j H : Nat) (Z : List ArcT) (L : List MoveT) (w : World) (e : Ending) (w' : World) : Prop :=
  ∃ za zc ka kc, e = .returned (.tuple #[.agg #[.int .i64 (N : Int), .bool hold, .slice za Z.length zc], .int .i64 (i : Int), .int .i64 (j : Int), .int .i64 (H : Int), .slice ka L.length kc]) ∧ Row encA 4 w' za Z ∧ Row encK 3 w' ka L ∧ Below w.heap.size w w'
set_option maxRecDepth 100000 in
set_option maxHeartbeats 8000000 in
theorem read14_any (nn s t sp : Int) (hold : Bool) (ba : Option Addr) (bc : Nat) (B : List BitT) (la : Option Addr) (lc : Nat) (K : List ByT) (w : World) (hr : Row encBit 4 w ba B) (hB : ∀ x ∈ B, BitOk x) (hbl : B.length ≤ maxLen)
    (hn : ByteB nn) (hs : ByteB s) (ht : ByteB t) (hp : ByteB sp) (hk : Row encBy 3 w la K) (hK : ∀ x ∈ K, ByOk x) (hkl : K.length ≤ maxLen)
    (N i j H : Nat) (Z : List ArcT) (e1 : nodeN nn = N) (e2 : srcN nn s = i) (e3 : snkN nn s t = j) (e4 : horN sp = H) (e5 : readZ (nodeN nn) 8 B = Z) :
    Calls Try.prog 16 #[.agg #[.int .u8 nn, .bool hold, .slice ba B.length bc, .int .u8 s, .int .u8 t, .int .u8 sp, .slice la K.length lc]] w (RdRes hold N i j H Z (readK Z.length H K) w) := by
  have hb00 := (((Below.refl _ w).alloc (Nat.le_refl _) (.cells #[.int .u8 nn, .bool hold, .slice ba B.length bc, .int .u8 s, .int .u8 t, .int .u8 sp, .slice la K.length lc] 49)).alloc (by simp) (.cells #[.int .i64 0, .bool false, .slice none 0 0] 24))
  have HB := Lib.hid hb00
  have HR := Lib.hid (hr.below' hb00)
  have HK := Lib.hid (hk.below' hb00)
  have HX := Lib.hid (keptR (heap_alloc_new w (.cells #[.int .u8 nn, .bool hold, .slice ba B.length bc, .int .u8 s, .int .u8 t, .int .u8 sp, .slice la K.length lc] 49)) ((Below.refl _ _).alloc (Nat.le_refl _) (.cells #[.int .i64 0, .bool false, .slice none 0 0] 24)))
  have HRES := Lib.hid (newR1 w (.cells #[.int .u8 nn, .bool hold, .slice ba B.length bc, .int .u8 s, .int .u8 t, .int .u8 sp, .slice la K.length lc] 49) #[.int .i64 0, .bool false, .slice none 0 0] 24)
  have HBB := Lib.hid hB
  have HBL := Lib.hid hbl
  have HNN := Lib.hid (And.intro hn (And.intro hs (And.intro ht hp)))
  have HKK := Lib.hid hK
  have HKL := Lib.hid hkl
  have E1 := Lib.hid e1
  have E2 := Lib.hid e2
  have E3 := Lib.hid e3
  have E4 := Lib.hid e4
  have E5 := Lib.hid e5
  have hH7 : H ≤ 7 := by rw [← e4]; exact hor_bd sp
  have hZ8 : Z.length ≤ 8 := by rw [← e5, readZ_len]; omega
  have x0 := cell_whole HX.out 0
  have x1 := cell_whole HX.out 1
  have x2 := cell_whole HX.out 2
  have x3 := cell_whole HX.out 3
  have x4 := cell_whole HX.out 4
  have x5 := cell_whole HX.out 5
  clear hr hb00 hB hbl hn hs ht hp hk hK hkl e1 e2 e3 e4 e5
  go_enter Try.func16, Try.ntmps16
  go_wp2_with (first
    | (go_at_call 12; refine (read12_8 nn s t sp hold ba bc B _ HR.out HBB.out HBL.out HNN.out.1 HNN.out.2.1 HNN.out.2.2.1 HNN.out.2.2.2).mono ?_; rw [E5.out, E2.out, E3.out, E4.out, E1.out]; rintro e wr ⟨za, zc, rfl, hz, hb⟩; clear x0 x1 x2 x3 x4 x5; have hal := hb.trans (((Below.refl _ wr).alloc (Nat.le_refl _) (.cells #[.int .i64 (N : Int), .bool hold, .slice za Z.length zc] 24)).mono hb.size); have HNT := Lib.hid (heap_alloc_new wr (.cells #[.int .i64 (N : Int), .bool hold, .slice za Z.length zc] 24)); have HZ := Lib.hid (row_alloc hz (.cells #[.int .i64 (N : Int), .bool hold, .slice za Z.length zc] 24)); have HX := Lib.hid (keptR HX.out hal); have HRES := Lib.hid (keptR HRES.out hal); have HK := Lib.hid (HK.out.below' hal); have HB := Lib.hid (HB.out.trans (hal.mono HB.out.size)); clear hz hb hal HR))
  obtain ⟨wd, hwd⟩ : ∃ wd, wr.alloc (.cells #[.int .i64 (N : Int), .bool hold, .slice za Z.length zc] 24) = wd := ⟨_, rfl⟩
  obtain ⟨gn, hgn⟩ : ∃ gn, wr.heap.size = gn := ⟨_, rfl⟩
  obtain ⟨gx, hgx⟩ : ∃ gx, w.heap.size = gx := ⟨_, rfl⟩
  have HGW := Lib.hid hgx
  rw [hwd] at HNT HZ HB HX HRES HK ⊢
  rw [hgn] at HNT ⊢
  rw [hgx] at HX HRES ⊢
  have HGN := Lib.hid (lt_whole HNT.out)
  have HGX := Lib.hid (lt_whole HX.out)
  have HGR := Lib.hid (lt_whole HRES.out)
  have y6 := cell_whole HX.out 6
  have z2 := cell_whole HNT.out 2
  clear hwd hgn hgx
  go_loopw [11, 12] (fun ov iv wl => ∃ k : Nat, k ≤ K.length ∧ k ≤ 30 ∧ (Z.length = 0 → k = 0) ∧ iv = .int .i64 (k : Int) ∧ Hid (OwnMv wl wd.heap.size ov ((K.take k).map (readM Z.length H))) ∧ Hid (Below wd.heap.size wd wl)) (fun _ iv _ => 30 - (intOf iv).toNat)
  case atStart => exact ⟨0, Nat.zero_le _, by omega, fun _ => rfl, rfl, Lib.hid (World.ownsRow_nil _ _ _ _), Lib.hid (Below.refl _ _)⟩
  case round =>
    obtain ⟨k, hkl, hk30, hk0, rfl, HO, HW⟩ := hrel
    have hnx := kept_box HX.out HW.out
    have hnn := kept_box HNT.out HW.out
    have x6 := cell_whole hnx 6
    have n2 := cell_whole hnn 2
    obtain ⟨oa, oc, hov, _⟩ := HO.out.row
    subst hov
    by_cases hc : k < K.length ∧ k < 30 ∧ 0 < Z.length
    · obtain ⟨hlt, hlt30, hz0⟩ := hc
      have hli : (k : Int) < (K.length : Int) := by omega
      have hl30 : (k : Int) < 30 := by omega
      have hlz : (0 : Int) < (Z.length : Int) := by omega
      have hxk := List.getElem?_eq_getElem hlt
      obtain ⟨lb, lx, e, hlb, d0, d1, d2⟩ := by_at HK.out hxk
      obtain ⟨⟨o0, p0⟩, ⟨o1, p1⟩, ⟨o2, p2⟩⟩ := HKK.out _ (List.getElem_mem hlt)
      cases e
      have HS := Lib.hid (rdK_succ (m := Z.length) (H := H) hxk)
      have hSl : ((K.take k).map (readM Z.length H)).length ≤ 30 := by rw [rdK_len]; omega
      generalize K[k] = x at *
      generalize (K.take k).map (readM Z.length H) = S at *
      obtain ⟨xa, xt, xn⟩ := x
      simp only at d0 d1 d2 o0 p0 o1 p1 o2 p2
      have wa : IntKind.i64.wrap xa = xa := IntWalk.i64_in _ (by omega)
      have wt : IntKind.i64.wrap xt = xt := IntWalk.i64_in _ (by omega)
      have wn : IntKind.i64.wrap xn = xn := IntWalk.i64_in _ (by omega)
      have w1 : IntKind.i64.wrap ((H : Int) + 1) = (H : Int) + 1 := IntWalk.i64_in _ (by omega)
      have ta : xa.tmod (Z.length : Int) = xa % (Z.length : Int) := tmod_emod o0
      have tt : xt.tmod ((H : Int) + 1) = xt % ((H : Int) + 1) := tmod_emod o1
      have tn : xn.tmod 4 = xn % 4 := tmod_emod o2
      have hN0 : ((Z.length : Int) == 0) = false := by rw [beq_eq_false_iff_ne]; omega
      have hN0' : ¬ (Z.length : Int) = 0 := by omega
      have hNz : ¬ Z.length = 0 := by omega
      have hM0 : ((H : Int) + 1 == 0) = false := by rw [beq_eq_false_iff_ne]; omega
      have hM0' : ¬ (H : Int) + 1 = 0 := by omega
      have HSD : Hid (HeldR gx gn lb lx k (some ⟨lb, lx, none⟩) za K.length lc Z.length zc xa xt xn wd) := Lib.hid ⟨y6, z2, d0, d1, d2⟩
      have HSL := Lib.hid (HSD.out.below HW.out)
      obtain ⟨i0, hi0, hz0', hz1, hz2⟩ := info_parts infoMove
      have HI := Lib.hid (And.intro hi0 (And.intro hz0' (And.intro hz1 hz2)))
      clear hi0 hz0' hz1 hz2 y6 z2 d0 d1 d2
      go_wp2_with fail
      clear x6 n2 hnx hnn
      refine wp_region_held_drew (S := fun W => HeldR gx gn lb lx k (some ⟨lb, lx, none⟩) za K.length lc Z.length zc xa xt xn W) (by kernel_rfl) HSL.out (fun hHeld => ?_)
      have HWQ : Hid (Below wd.heap.size wd wr.drew) := Lib.hid (below_drew HW.out)
      have HOQ : Hid (OwnMv wr.drew wd.heap.size (.slice oa S.length oc) S) := Lib.hid HO.out
      have HSL := Lib.hid (HSD.out.below HWQ.out)
      generalize wr.drew = wq at *
      refine wpAnyH_take (i := 0) (oi := { dst := some 38, op := Go.Op.move (Go.Operand.tmp 11), type := 30, pos := "law.go:70", after := #[], guard := none }) (v := .slice oa S.length oc) rfl (by kernel_rfl) (by kernel_rfl) (by kernel_rfl) (fun _ _ _ h => h) (Or.inl ⟨by rfl, ?_⟩) (by assumption) ?_
      · (intro w hSw; (try dsimp only [HeldR] at hSw); go_simp)
      try simp only [Act.put, List.setIfInBounds_toArray, List.set_cons_zero, List.set_cons_succ]
      refine wpAnyH_take (i := 1) (oi := { dst := some 39, op := Go.Op.fieldAddr 49 (Go.Operand.tmp 1) 1, type := 0, pos := "law.go:70", after := #[], guard := none }) (v := .pointer (some ⟨gx, 6, none⟩)) rfl (by kernel_rfl) (by kernel_rfl) (by kernel_rfl) (fun _ _ _ h => h) (Or.inl ⟨by rfl, ?_⟩) (by assumption) ?_
      · (intro w hSw; (try dsimp only [HeldR] at hSw); go_simp)
      try simp only [Act.put, List.setIfInBounds_toArray, List.set_cons_zero, List.set_cons_succ]
      refine wpAnyH_take (i := 2) (oi := { dst := some 40, op := Go.Op.load 47 (Go.Operand.tmp 39), type := 47, pos := "law.go:70", after := #[{ on := 1, ground := Go.Ground.data }], guard := none }) (v := .slice (some ⟨lb, lx, none⟩) K.length lc) rfl (by kernel_rfl) (by kernel_rfl) (by kernel_rfl) (fun _ _ _ h => h) (Or.inl ⟨by rfl, ?_⟩) (by assumption) ?_
      · (intro w hSw; (try dsimp only [HeldR] at hSw); go_simp)
      try simp only [Act.put, List.setIfInBounds_toArray, List.set_cons_zero, List.set_cons_succ]
      refine wpAnyH_take (i := 3) (oi := { dst := some 41, op := Go.Op.move (Go.Operand.tmp 12), type := 3, pos := "law.go:70", after := #[], guard := none }) (v := .int .i64 (k : Int)) rfl (by kernel_rfl) (by kernel_rfl) (by kernel_rfl) (fun _ _ _ h => h) (Or.inl ⟨by rfl, ?_⟩) (by assumption) ?_
      · (intro w hSw; (try dsimp only [HeldR] at hSw); go_simp)
      try simp only [Act.put, List.setIfInBounds_toArray, List.set_cons_zero, List.set_cons_succ]
      refine wpAnyH_take (i := 4) (oi := { dst := some 42, op := Go.Op.indexAddr 47 (Go.Operand.tmp 40) (Go.Operand.tmp 41), type := 0, pos := "law.go:70", after := #[{ on := 2, ground := Go.Ground.data }, { on := 3, ground := Go.Ground.data }], guard := none }) (v := .pointer (some ⟨lb, (lx + k * 3), none⟩)) rfl (by kernel_rfl) (by kernel_rfl) (by kernel_rfl) (fun _ _ _ h => h) (Or.inl ⟨by rfl, ?_⟩) (by assumption) ?_
      · (intro w hSw; (try dsimp only [HeldR] at hSw); go_simp)
      try simp only [Act.put, List.setIfInBounds_toArray, List.set_cons_zero, List.set_cons_succ]
      refine wpAnyH_take (i := 5) (oi := { dst := some 43, op := Go.Op.fieldAddr 82 (Go.Operand.tmp 42) 0, type := 0, pos := "law.go:70", after := #[{ on := 4, ground := Go.Ground.data }], guard := none }) (v := .pointer (some ⟨lb, (lx + k * 3), none⟩)) rfl (by kernel_rfl) (by kernel_rfl) (by kernel_rfl) (fun _ _ _ h => h) (Or.inl ⟨by rfl, ?_⟩) (by assumption) ?_
      · (intro w hSw; (try dsimp only [HeldR] at hSw); go_simp)
      try simp only [Act.put, List.setIfInBounds_toArray, List.set_cons_zero, List.set_cons_succ]
      refine wpAnyH_take (i := 6) (oi := { dst := some 44, op := Go.Op.load 5 (Go.Operand.tmp 43), type := 5, pos := "law.go:70", after := #[{ on := 5, ground := Go.Ground.data }], guard := none }) (v := .int .u8 xa) rfl (by kernel_rfl) (by kernel_rfl) (by kernel_rfl) (fun _ _ _ h => h) (Or.inl ⟨by rfl, ?_⟩) (by assumption) ?_
      · (intro w hSw; (try dsimp only [HeldR] at hSw); go_simp)
      try simp only [Act.put, List.setIfInBounds_toArray, List.set_cons_zero, List.set_cons_succ]
      refine wpAnyH_take (i := 7) (oi := { dst := some 45, op := Go.Op.convert 5 3 (Go.Operand.tmp 44), type := 3, pos := "law.go:70", after := #[{ on := 6, ground := Go.Ground.data }], guard := none }) (v := .int .i64 xa) rfl (by kernel_rfl) (by kernel_rfl) (by kernel_rfl) (fun _ _ _ h => h) (Or.inl ⟨by rfl, ?_⟩) (by assumption) ?_
      · (intro w hSw; (try dsimp only [HeldR] at hSw); go_simp)
      try simp only [Act.put, List.setIfInBounds_toArray, List.set_cons_zero, List.set_cons_succ]
      refine wpAnyH_take (i := 8) (oi := { dst := some 46, op := Go.Op.fieldAddr 24 (Go.Operand.tmp 7) 2, type := 0, pos := "law.go:70", after := #[], guard := none }) (v := .pointer (some ⟨gn, 2, none⟩)) rfl (by kernel_rfl) (by kernel_rfl) (by kernel_rfl) (fun _ _ _ h => h) (Or.inl ⟨by rfl, ?_⟩) (by assumption) ?_
      · (intro w hSw; (try dsimp only [HeldR] at hSw); go_simp)
      try simp only [Act.put, List.setIfInBounds_toArray, List.set_cons_zero, List.set_cons_succ]
      refine wpAnyH_take (i := 9) (oi := { dst := some 47, op := Go.Op.load 22 (Go.Operand.tmp 46), type := 22, pos := "law.go:70", after := #[{ on := 8, ground := Go.Ground.data }], guard := none }) (v := .slice za Z.length zc) rfl (by kernel_rfl) (by kernel_rfl) (by kernel_rfl) (fun _ _ _ h => h) (Or.inl ⟨by rfl, ?_⟩) (by assumption) ?_
      · (intro w hSw; (try dsimp only [HeldR] at hSw); go_simp)
      try simp only [Act.put, List.setIfInBounds_toArray, List.set_cons_zero, List.set_cons_succ]
      refine wpAnyH_take (i := 10) (oi := { dst := some 48, op := Go.Op.call { callee := Go.Callee.builtin Go.Builtin.len, args := #[Go.Operand.tmp 47], argTypes := #[22] }, type := 3, pos := "law.go:70", after := #[{ on := 9, ground := Go.Ground.data }], guard := none }) (v := .int .i64 (Z.length : Int)) rfl (by kernel_rfl) (by kernel_rfl) (by kernel_rfl) (fun _ _ _ h => h) (Or.inl ⟨by rfl, ?_⟩) (by assumption) ?_
      · (intro w hSw; (try dsimp only [HeldR] at hSw); go_simp)
      try simp only [Act.put, List.setIfInBounds_toArray, List.set_cons_zero, List.set_cons_succ]
      refine wpAnyH_take (i := 11) (oi := { dst := some 49, op := Go.Op.binOp Go.BinOp.rem 3 (Go.Operand.tmp 45) (Go.Operand.tmp 48) 3, type := 3, pos := "law.go:70", after := #[{ on := 7, ground := Go.Ground.data }, { on := 10, ground := Go.Ground.data }], guard := none }) (v := .int .i64 (xa % (Z.length : Int))) rfl (by kernel_rfl) (by kernel_rfl) (by kernel_rfl) (fun _ _ _ h => h) (Or.inl ⟨by rfl, ?_⟩) (by assumption) ?_
      · (intro w hSw; (try dsimp only [HeldR] at hSw); go_simp)
      try simp only [Act.put, List.setIfInBounds_toArray, List.set_cons_zero, List.set_cons_succ]
      refine wpAnyH_take (i := 12) (oi := { dst := some 50, op := Go.Op.fieldAddr 49 (Go.Operand.tmp 1) 1, type := 0, pos := "law.go:70", after := #[], guard := none }) (v := .pointer (some ⟨gx, 6, none⟩)) rfl (by kernel_rfl) (by kernel_rfl) (by kernel_rfl) (fun _ _ _ h => h) (Or.inl ⟨by rfl, ?_⟩) (by assumption) ?_
      · (intro w hSw; (try dsimp only [HeldR] at hSw); go_simp)
      try simp only [Act.put, List.setIfInBounds_toArray, List.set_cons_zero, List.set_cons_succ]
      refine wpAnyH_take (i := 13) (oi := { dst := some 51, op := Go.Op.load 47 (Go.Operand.tmp 50), type := 47, pos := "law.go:70", after := #[{ on := 12, ground := Go.Ground.data }], guard := none }) (v := .slice (some ⟨lb, lx, none⟩) K.length lc) rfl (by kernel_rfl) (by kernel_rfl) (by kernel_rfl) (fun _ _ _ h => h) (Or.inl ⟨by rfl, ?_⟩) (by assumption) ?_
      · (intro w hSw; (try dsimp only [HeldR] at hSw); go_simp)
      try simp only [Act.put, List.setIfInBounds_toArray, List.set_cons_zero, List.set_cons_succ]
      refine wpAnyH_take (i := 14) (oi := { dst := some 52, op := Go.Op.move (Go.Operand.tmp 12), type := 3, pos := "law.go:70", after := #[], guard := none }) (v := .int .i64 (k : Int)) rfl (by kernel_rfl) (by kernel_rfl) (by kernel_rfl) (fun _ _ _ h => h) (Or.inl ⟨by rfl, ?_⟩) (by assumption) ?_
      · (intro w hSw; (try dsimp only [HeldR] at hSw); go_simp)
      try simp only [Act.put, List.setIfInBounds_toArray, List.set_cons_zero, List.set_cons_succ]
      refine wpAnyH_take (i := 15) (oi := { dst := some 53, op := Go.Op.indexAddr 47 (Go.Operand.tmp 51) (Go.Operand.tmp 52), type := 0, pos := "law.go:70", after := #[{ on := 13, ground := Go.Ground.data }, { on := 14, ground := Go.Ground.data }], guard := none }) (v := .pointer (some ⟨lb, (lx + k * 3), none⟩)) rfl (by kernel_rfl) (by kernel_rfl) (by kernel_rfl) (fun _ _ _ h => h) (Or.inl ⟨by rfl, ?_⟩) (by assumption) ?_
      · (intro w hSw; (try dsimp only [HeldR] at hSw); go_simp)
      try simp only [Act.put, List.setIfInBounds_toArray, List.set_cons_zero, List.set_cons_succ]
      refine wpAnyH_take (i := 16) (oi := { dst := some 54, op := Go.Op.fieldAddr 82 (Go.Operand.tmp 53) 1, type := 0, pos := "law.go:70", after := #[{ on := 15, ground := Go.Ground.data }], guard := none }) (v := .pointer (some ⟨lb, (lx + k * 3 + 1), none⟩)) rfl (by kernel_rfl) (by kernel_rfl) (by kernel_rfl) (fun _ _ _ h => h) (Or.inl ⟨by rfl, ?_⟩) (by assumption) ?_
      · (intro w hSw; (try dsimp only [HeldR] at hSw); go_simp)
      try simp only [Act.put, List.setIfInBounds_toArray, List.set_cons_zero, List.set_cons_succ]
      refine wpAnyH_take (i := 17) (oi := { dst := some 55, op := Go.Op.load 5 (Go.Operand.tmp 54), type := 5, pos := "law.go:70", after := #[{ on := 16, ground := Go.Ground.data }], guard := none }) (v := .int .u8 xt) rfl (by kernel_rfl) (by kernel_rfl) (by kernel_rfl) (fun _ _ _ h => h) (Or.inl ⟨by rfl, ?_⟩) (by assumption) ?_
      · (intro w hSw; (try dsimp only [HeldR] at hSw); go_simp)
      try simp only [Act.put, List.setIfInBounds_toArray, List.set_cons_zero, List.set_cons_succ]
      refine wpAnyH_take (i := 18) (oi := { dst := some 56, op := Go.Op.convert 5 3 (Go.Operand.tmp 55), type := 3, pos := "law.go:70", after := #[{ on := 17, ground := Go.Ground.data }], guard := none }) (v := .int .i64 xt) rfl (by kernel_rfl) (by kernel_rfl) (by kernel_rfl) (fun _ _ _ h => h) (Or.inl ⟨by rfl, ?_⟩) (by assumption) ?_
      · (intro w hSw; (try dsimp only [HeldR] at hSw); go_simp)
      try simp only [Act.put, List.setIfInBounds_toArray, List.set_cons_zero, List.set_cons_succ]
      refine wpAnyH_take (i := 19) (oi := { dst := some 57, op := Go.Op.move (Go.Operand.tmp 10), type := 3, pos := "law.go:70", after := #[], guard := none }) (v := .int .i64 (H : Int)) rfl (by kernel_rfl) (by kernel_rfl) (by kernel_rfl) (fun _ _ _ h => h) (Or.inl ⟨by rfl, ?_⟩) (by assumption) ?_
      · (intro w hSw; (try dsimp only [HeldR] at hSw); go_simp)
      try simp only [Act.put, List.setIfInBounds_toArray, List.set_cons_zero, List.set_cons_succ]
      refine wpAnyH_take (i := 20) (oi := { dst := some 58, op := Go.Op.binOp Go.BinOp.add 3 (Go.Operand.tmp 57) (Go.Operand.const (Go.Value.int Go.IntKind.i64 1)) 3, type := 3, pos := "law.go:70", after := #[{ on := 19, ground := Go.Ground.data }], guard := none }) (v := .int .i64 ((H : Int) + 1)) rfl (by kernel_rfl) (by kernel_rfl) (by kernel_rfl) (fun _ _ _ h => h) (Or.inl ⟨by rfl, ?_⟩) (by assumption) ?_
      · (intro w hSw; (try dsimp only [HeldR] at hSw); go_simp)
      try simp only [Act.put, List.setIfInBounds_toArray, List.set_cons_zero, List.set_cons_succ]
      refine wpAnyH_take (i := 21) (oi := { dst := some 59, op := Go.Op.binOp Go.BinOp.rem 3 (Go.Operand.tmp 56) (Go.Operand.tmp 58) 3, type := 3, pos := "law.go:70", after := #[{ on := 18, ground := Go.Ground.data }, { on := 20, ground := Go.Ground.data }], guard := none }) (v := .int .i64 (xt % ((H : Int) + 1))) rfl (by kernel_rfl) (by kernel_rfl) (by kernel_rfl) (fun _ _ _ h => h) (Or.inl ⟨by rfl, ?_⟩) (by assumption) ?_
      · (intro w hSw; (try dsimp only [HeldR] at hSw); go_simp)
      try simp only [Act.put, List.setIfInBounds_toArray, List.set_cons_zero, List.set_cons_succ]
      refine wpAnyH_take (i := 22) (oi := { dst := some 60, op := Go.Op.fieldAddr 49 (Go.Operand.tmp 1) 1, type := 0, pos := "law.go:70", after := #[], guard := none }) (v := .pointer (some ⟨gx, 6, none⟩)) rfl (by kernel_rfl) (by kernel_rfl) (by kernel_rfl) (fun _ _ _ h => h) (Or.inl ⟨by rfl, ?_⟩) (by assumption) ?_
      · (intro w hSw; (try dsimp only [HeldR] at hSw); go_simp)
      try simp only [Act.put, List.setIfInBounds_toArray, List.set_cons_zero, List.set_cons_succ]
      refine wpAnyH_take (i := 23) (oi := { dst := some 61, op := Go.Op.load 47 (Go.Operand.tmp 60), type := 47, pos := "law.go:70", after := #[{ on := 22, ground := Go.Ground.data }], guard := none }) (v := .slice (some ⟨lb, lx, none⟩) K.length lc) rfl (by kernel_rfl) (by kernel_rfl) (by kernel_rfl) (fun _ _ _ h => h) (Or.inl ⟨by rfl, ?_⟩) (by assumption) ?_
      · (intro w hSw; (try dsimp only [HeldR] at hSw); go_simp)
      try simp only [Act.put, List.setIfInBounds_toArray, List.set_cons_zero, List.set_cons_succ]
      refine wpAnyH_take (i := 24) (oi := { dst := some 62, op := Go.Op.move (Go.Operand.tmp 12), type := 3, pos := "law.go:70", after := #[], guard := none }) (v := .int .i64 (k : Int)) rfl (by kernel_rfl) (by kernel_rfl) (by kernel_rfl) (fun _ _ _ h => h) (Or.inl ⟨by rfl, ?_⟩) (by assumption) ?_
      · (intro w hSw; (try dsimp only [HeldR] at hSw); go_simp)
      try simp only [Act.put, List.setIfInBounds_toArray, List.set_cons_zero, List.set_cons_succ]
      refine wpAnyH_take (i := 25) (oi := { dst := some 63, op := Go.Op.indexAddr 47 (Go.Operand.tmp 61) (Go.Operand.tmp 62), type := 0, pos := "law.go:70", after := #[{ on := 23, ground := Go.Ground.data }, { on := 24, ground := Go.Ground.data }], guard := none }) (v := .pointer (some ⟨lb, (lx + k * 3), none⟩)) rfl (by kernel_rfl) (by kernel_rfl) (by kernel_rfl) (fun _ _ _ h => h) (Or.inl ⟨by rfl, ?_⟩) (by assumption) ?_
      · (intro w hSw; (try dsimp only [HeldR] at hSw); go_simp)
      try simp only [Act.put, List.setIfInBounds_toArray, List.set_cons_zero, List.set_cons_succ]
      refine wpAnyH_take (i := 26) (oi := { dst := some 64, op := Go.Op.fieldAddr 82 (Go.Operand.tmp 63) 2, type := 0, pos := "law.go:70", after := #[{ on := 25, ground := Go.Ground.data }], guard := none }) (v := .pointer (some ⟨lb, (lx + k * 3 + 2), none⟩)) rfl (by kernel_rfl) (by kernel_rfl) (by kernel_rfl) (fun _ _ _ h => h) (Or.inl ⟨by rfl, ?_⟩) (by assumption) ?_
      · (intro w hSw; (try dsimp only [HeldR] at hSw); go_simp)
      try simp only [Act.put, List.setIfInBounds_toArray, List.set_cons_zero, List.set_cons_succ]
      refine wpAnyH_take (i := 27) (oi := { dst := some 65, op := Go.Op.load 5 (Go.Operand.tmp 64), type := 5, pos := "law.go:70", after := #[{ on := 26, ground := Go.Ground.data }], guard := none }) (v := .int .u8 xn) rfl (by kernel_rfl) (by kernel_rfl) (by kernel_rfl) (fun _ _ _ h => h) (Or.inl ⟨by rfl, ?_⟩) (by assumption) ?_
      · (intro w hSw; (try dsimp only [HeldR] at hSw); go_simp)
      try simp only [Act.put, List.setIfInBounds_toArray, List.set_cons_zero, List.set_cons_succ]
      refine wpAnyH_take (i := 28) (oi := { dst := some 66, op := Go.Op.convert 5 3 (Go.Operand.tmp 65), type := 3, pos := "law.go:70", after := #[{ on := 27, ground := Go.Ground.data }], guard := none }) (v := .int .i64 xn) rfl (by kernel_rfl) (by kernel_rfl) (by kernel_rfl) (fun _ _ _ h => h) (Or.inl ⟨by rfl, ?_⟩) (by assumption) ?_
      · (intro w hSw; (try dsimp only [HeldR] at hSw); go_simp)
      try simp only [Act.put, List.setIfInBounds_toArray, List.set_cons_zero, List.set_cons_succ]
      refine wpAnyH_take (i := 29) (oi := { dst := some 67, op := Go.Op.binOp Go.BinOp.rem 3 (Go.Operand.tmp 66) (Go.Operand.const (Go.Value.int Go.IntKind.i64 4)) 3, type := 3, pos := "law.go:70", after := #[{ on := 28, ground := Go.Ground.data }], guard := none }) (v := .int .i64 (xn % 4)) rfl (by kernel_rfl) (by kernel_rfl) (by kernel_rfl) (fun _ _ _ h => h) (Or.inl ⟨by rfl, ?_⟩) (by assumption) ?_
      · (intro w hSw; (try dsimp only [HeldR] at hSw); go_simp)
      try simp only [Act.put, List.setIfInBounds_toArray, List.set_cons_zero, List.set_cons_succ]
      refine wpAnyH_take (i := 30) (oi := { dst := some 68, op := Go.Op.build 78 #[(0, Go.Operand.tmp 49), (1, Go.Operand.tmp 59), (2, Go.Operand.tmp 67)], type := 78, pos := "law.go:70", after := #[{ on := 11, ground := Go.Ground.data }, { on := 21, ground := Go.Ground.data }, { on := 29, ground := Go.Ground.data }], guard := none }) (v := .agg #[.int .i64 (xa % (Z.length : Int)), .int .i64 (xt % ((H : Int) + 1)), .int .i64 (xn % 4)]) rfl (by kernel_rfl) (by kernel_rfl) (by kernel_rfl) (fun _ _ _ h => h) (Or.inl ⟨by rfl, ?_⟩) (by assumption) ?_
      · (intro w hSw; (try dsimp only [HeldR] at hSw); go_simp)
      try simp only [Act.put, List.setIfInBounds_toArray, List.set_cons_zero, List.set_cons_succ]
      refine wpAnyH_ready (rs := [31]) (by kernel_rfl) (by simp) (AllReadyH.cons (o := { dst := some 69, op := Go.Op.buildSlice 30 1 #[(0, Go.Operand.tmp 68)], type := 30, pos := "law.go:70", after := #[{ on := 30, ground := Go.Ground.data }], guard := none }) rfl (fun K hK => ?_) AllReadyH.nil)
      obtain ⟨nb2, hnb2⟩ : ∃ nb2, (wq).heap.size = nb2 := ⟨_, rfl⟩
      go_simp
      have HQ2 := Lib.hid ((Below.refl wq.heap.size wq).alloc (Nat.le_refl _) (.cells #[.int .i64 (xa % (Z.length : Int)), .int .i64 (xt % ((H : Int) + 1)), .int .i64 (xn % 4)] 78))
      have HSL := Lib.hid (HSL.out.below HQ2.out)
      have HWQ := Lib.hid (HWQ.out.trans (HQ2.out.mono HWQ.out.size))
      have HOQ := Lib.hid (HOQ.out.below HQ2.out)
      have HNW : Hid (((wq).alloc (.cells #[.int .i64 (xa % (Z.length : Int)), .int .i64 (xt % ((H : Int) + 1)), .int .i64 (xn % 4)] 78)).heap[nb2]? = some (.cells #[.int .i64 (xa % (Z.length : Int)), .int .i64 (xt % ((H : Int) + 1)), .int .i64 (xn % 4)] 78 (0, 0))) := Lib.hid (by rw [← hnb2]; exact heap_alloc_new _ _)
      clear hHeld
      refine hK.out _ _ HSL.out (fun hHeld => ?_)
      clear hK
      generalize (wq).alloc (.cells #[.int .i64 (xa % (Z.length : Int)), .int .i64 (xt % ((H : Int) + 1)), .int .i64 (xn % 4)] 78) = wn at *
      clear hnb2
      try simp only [Act.put, List.setIfInBounds_toArray, List.set_cons_zero, List.set_cons_succ]
      refine wpAnyH_ready (rs := [32]) (by kernel_rfl) (by simp) (AllReadyH.cons (o := { dst := some 70, op := Go.Op.call { callee := Go.Callee.builtin Go.Builtin.append, args := #[Go.Operand.tmp 38, Go.Operand.tmp 69], argTypes := #[30, 30] }, type := 30, pos := "law.go:70", after := #[{ on := 0, ground := Go.Ground.data }, { on := 31, ground := Go.Ground.data }], guard := none }) rfl (fun K hK => ?_) AllReadyH.nil)
      have HOW : Hid (wn.ownsRow wd.heap.size 78 3 (.slice oa S.length oc) S.length (S.flatMap encK)) := Lib.hid HOQ.out
      refine step_append_lies _ (by rfl) _ _ _ (by rfl) wd.heap.size 78 i0 _ 3 24 Try.underlying30 HI.out.1 HI.out.2.1 HI.out.2.2.1 HI.out.2.2.2 rfl (by omega) (.slice oa S.length oc) S.length (S.flatMap encK) (by rfl) HOW.out ⟨nb2, 0, none⟩ 1 1 (encK ((xa % (Z.length : Int)), (xt % ((H : Int) + 1)), (xn % 4))) (by rfl) (by rfl) (World.news_of_block (cs := #[.int .i64 (xa % (Z.length : Int)), .int .i64 (xt % ((H : Int) + 1)), .int .i64 (xn % 4)]) (t := 78) (fr := (0, 0)) HNW.out) (encK_one _) (by omega) (by unfold maxLen; omega) (by omega) HWQ.out.size _ rfl ?_
      intro g12 cap12 w12 ho12 hg12 hl12 hlt12
      have HB12 := Lib.hid (HWQ.out.grown hg12 HWQ.out.size (fun k hk => (HOW.out.lt k hk).1))
      have HO12 : Hid (OwnMv w12 wd.heap.size (.slice (some ⟨g12, 0, none⟩) (S.length + 1) cap12) (S ++ [readM Z.length H (xa, xt, xn)])) := Lib.hid (mv_snoc ho12)
      have HS12 := Lib.hid (HSD.out.below HB12.out)
      clear hHeld ho12 hg12 hl12
      refine hK.out _ _ HS12.out (fun hHeld => ?_)
      clear hK
      try simp only [Act.put, List.setIfInBounds_toArray, List.set_cons_zero, List.set_cons_succ]
      refine wpAnyH_take (i := 33) (oi := { dst := some 11, op := Go.Op.assign (Go.Operand.tmp 70), type := 30, pos := "law.go:70", after := #[{ on := 32, ground := Go.Ground.data }, { on := 32, ground := Go.Ground.chain }, { on := 0, ground := Go.Ground.phase }, { on := 1, ground := Go.Ground.phase }, { on := 2, ground := Go.Ground.phase }, { on := 3, ground := Go.Ground.phase }, { on := 4, ground := Go.Ground.phase }, { on := 5, ground := Go.Ground.phase }, { on := 6, ground := Go.Ground.phase }, { on := 7, ground := Go.Ground.phase }, { on := 8, ground := Go.Ground.phase }, { on := 9, ground := Go.Ground.phase }, { on := 10, ground := Go.Ground.phase }, { on := 11, ground := Go.Ground.phase }, { on := 12, ground := Go.Ground.phase }, { on := 13, ground := Go.Ground.phase }, { on := 14, ground := Go.Ground.phase }, { on := 15, ground := Go.Ground.phase }, { on := 16, ground := Go.Ground.phase }, { on := 17, ground := Go.Ground.phase }, { on := 18, ground := Go.Ground.phase }, { on := 19, ground := Go.Ground.phase }, { on := 20, ground := Go.Ground.phase }, { on := 21, ground := Go.Ground.phase }, { on := 22, ground := Go.Ground.phase }, { on := 23, ground := Go.Ground.phase }, { on := 24, ground := Go.Ground.phase }, { on := 25, ground := Go.Ground.phase }, { on := 26, ground := Go.Ground.phase }, { on := 27, ground := Go.Ground.phase }, { on := 28, ground := Go.Ground.phase }, { on := 29, ground := Go.Ground.phase }, { on := 30, ground := Go.Ground.phase }, { on := 31, ground := Go.Ground.phase }, { on := 32, ground := Go.Ground.phase }], guard := none }) (v := .slice (some ⟨g12, 0, none⟩) (S.length + 1) cap12) rfl (by kernel_rfl) (by kernel_rfl) (by kernel_rfl) (fun _ _ _ h => h) (Or.inl ⟨by rfl, ?_⟩) (by assumption) ?_
      · (intro w hSw; go_simp)
      try simp only [Act.put, List.setIfInBounds_toArray, List.set_cons_zero, List.set_cons_succ]
      refine wpAnyH_done (by kernel_rfl) ?_ _
      clear hHeld
      go_wp2
      go_roundw
      case rel => exact ⟨k + 1, by omega, by omega, by omega, by go_num, Lib.hid (by rw [HS.out]; exact HO12.out), HB12⟩
      case measure => simp [intOf]; omega
    · have HST := Lib.hid (rdK_stop (m := Z.length) (H := H) hkl hk30 hk0 hc)
      rw [HST.out] at HO ⊢
      have hcc : ¬ (k : Int) < (K.length : Int) ∨ ((k : Int) < (K.length : Int) ∧ ¬ (k : Int) < 30) ∨ ((k : Int) < (K.length : Int) ∧ (k : Int) < 30 ∧ ¬ (0 : Int) < (Z.length : Int)) := by omega
      have hrs := kept_box HRES.out HW.out
      have f0 := frozen_whole hrs 0
      have f1 := frozen_whole hrs 1
      have f2 := frozen_whole hrs 2
      have r0 := cell_whole hrs 0
      have r1 := cell_whole hrs 1
      have r2 := cell_whole hrs 2
      have n0 := cell_whole hnn 0
      have n1 := cell_whole hnn 1
      obtain ⟨ra, rc, hrv, hrr⟩ := HO.out.row
      have HRS := Lib.hid hrs
      have HRR := Lib.hid hrr
      have HZW := Lib.hid (HZ.out.below' HW.out)
      have HBW := Lib.hid (HB.out.trans (HW.out.mono HB.out.size))
      have HGD : Hid (gx + 1 < wd.heap.size) := Lib.hid (lt_whole HRES.out)
      generalize readK Z.length H K = S at *
      injection hrv with h1 h2 h3
      subst h1 h3
      clear hrs hnn hrr h2
      rcases hcc with hli | ⟨hli, hl30⟩ | ⟨hli, hl30, hlz⟩
      all_goals
        go_wp2_with fail
        have hq1 := set_whole HRS.out 0 (.int .i64 (N : Int))
        have hq2 := set_whole hq1 1 (.bool hold)
        have hfin := set_whole hq2 2 (.slice za Z.length zc)
        have hrow := rowA_set (rowA_set (rowA_set HZW.out HRS.out (fun z e => by cases e) 0 (.int .i64 (N : Int))) hq1 (fun z e => by cases e) 1 (.bool hold)) hq2 (fun z e => by cases e) 2 (.slice za Z.length zc)
        have hown : OwnMv (((wr.setCell ⟨gx + 1, 0, none⟩ (.int .i64 (N : Int))).setCell ⟨gx + 1, 1, none⟩ (.bool hold)).setCell ⟨gx + 1, 2, none⟩ (.slice za Z.length zc)) wd.heap.size (.slice oa S.length oc) S :=
          ownsRow_setCell_below (ownsRow_setCell_below (ownsRow_setCell_below HO.out (a := ⟨gx + 1, 0, none⟩) HGD.out _) (a := ⟨gx + 1, 1, none⟩) HGD.out _) (a := ⟨gx + 1, 2, none⟩) HGD.out _
        have hbel := below_set (below_set (below_set HBW.out (g := gx + 1) (by have := HGW.out; omega) (j := 0) (.int .i64 (N : Int))) (g := gx + 1) (by have := HGW.out; omega) (j := 1) (.bool hold)) (g := gx + 1) (by have := HGW.out; omega) (j := 2) (.slice za Z.length zc)
        generalize (((wr.setCell ⟨gx + 1, 0, none⟩ (.int .i64 (N : Int))).setCell ⟨gx + 1, 1, none⟩ (.bool hold)).setCell ⟨gx + 1, 2, none⟩ (.slice za Z.length zc)) = wz at *
        have y0 := cell_whole hfin 0
        have y1 := cell_whole hfin 1
        have y2 := cell_whole hfin 2
        have HOW := Lib.hid hown
        have HBZ := Lib.hid hbel
        have HRZ := Lib.hid hrow
        clear hq1 hq2 hfin hrow hown hbel
        refine bodyPost_ret (v := .tuple #[.agg #[.int .i64 (N : Int), .bool hold, .slice za Z.length zc], .int .i64 (i : Int), .int .i64 (j : Int), .int .i64 (H : Int), .slice oa S.length oc]) (by simp [results, Try.results16, go_sem, y0, y1, y2]) rfl ?_
        obtain ⟨va2, vc2, e, hrow⟩ := HOW.out.row
        injection e with e1 e2 e3
        subst e1
        exact ⟨za, zc, oa, oc, rfl, HRZ.out, hrow, HBZ.out⟩
end Go.Proofs.Ytlkbohpnlbfopaa
namespace Go.Proofs.Ytlkbohpnlbfopaa
open Go.RowKit
set_option linter.unusedVariables false
section
variable (n : Int) (b : Bool) (ao : Option Addr) (nl cap : Nat) (Z : List ArcT) (s t H : Int) (lo : Option Addr) (ll lc : Nat) (L : List MoveT)
end
end Go.Proofs.Ytlkbohpnlbfopaa
namespace Go.Proofs.Ytlkbohpnlbfopaa
open Go.RowKit
set_option linter.unusedVariables false
structure CaseF (N i j H : Nat) (Z : List ArcT) (L : List MoveT) : Prop where
  nodes : 2 ≤ N ∧ N ≤ 5
  src : i < N
  snk : j < N
  ne : i ≠ j
  hor : H ≤ 7
  arcs : Z.length ≤ 8
  small : ∀ a ∈ Z, SmallA N a
  len : L.length ≤ 30
  mem : ∀ x ∈ L, (0 ≤ x.1 ∧ x.1 < (Z.length : Int)) ∧ (0 ≤ x.2.1 ∧ x.2.1 ≤ (H : Int)) ∧ 0 ≤ x.2.2 ∧ x.2.2 ≤ 3
theorem CaseF.okK {N i j H : Nat} {Z : List ArcT} {L : List MoveT} (h : CaseF N i j H Z L) : ∀ x ∈ L, okK x := by
  intro x hx
  obtain ⟨h1, h2, h3⟩ := h.mem x hx
  have h4 := h.arcs
  have h5 := h.hor
  unfold Go.Proofs.Ytlkbohpnlbfopaa.okK in64
  omega
theorem CaseF.check {N i j H : Nat} {Z : List ArcT} {L : List MoveT} (h : CaseF N i j H Z L) : checkE (N : Int) Z = 0 := small_check h.nodes (by have := h.arcs; omega) h.small
theorem CaseF.ends {N i j H : Nat} {Z : List ArcT} {L : List MoveT} (h : CaseF N i j H Z L) : endsE (N : Int) Z (i : Int) (j : Int) = 0 := small_ends h.check h.src h.snk h.ne
theorem CaseF.ask {N i j H : Nat} {Z : List ArcT} {L : List MoveT} (h : CaseF N i j H Z L) : askE (N : Int) Z (i : Int) (j : Int) (H : Int) = 0 := small_ask h.ends (by omega) (by have := h.hor; omega)
theorem case_facts (nn s t sp : Int) (B : List BitT) (K : List ByT) : ∃ N i j H Z L, nodeN nn = N ∧ srcN nn s = i ∧ snkN nn s t = j ∧ horN sp = H ∧ readZ (nodeN nn) 8 B = Z ∧ readK Z.length H K = L ∧ CaseF N i j H Z L :=
  ⟨_, _, _, _, _, _, rfl, rfl, rfl, rfl, rfl, rfl, node_bd nn, src_lt nn s, (snk_lt nn s t).1, (snk_lt nn s t).2, hor_bd sp, by rw [readZ_len]; omega, read_arcs (node_bd nn).1, readK_len _ _ _, readK_mem⟩
end Go.Proofs.Ytlkbohpnlbfopaa
