/- PlanMerges. -/
import Derived.Test.YtedficnaipiplaaHLmp
import Derived.Test.YtedficnaipiplaaHRmv
namespace Go.Proofs.Ytedficnaipiplaa
open Go.RowKit
set_option linter.unusedVariables false

/-- What the region holds fast: a movement's three numbers. -/
def HeldM (lb lx k : Nat) (xa xt xn : Int) (W : World) : Prop := W.cell? ⟨lb, lx + k * 3, none⟩ = some (.int .i64 xa) ∧ W.cell? ⟨lb, lx + k * 3 + 1, none⟩ = some (.int .i64 xt) ∧ W.cell? ⟨lb, lx + k * 3 + 2, none⟩ = some (.int .i64 xn)
theorem HeldM.below {lb lx k : Nat} {xa xt xn : Int} {W W' : World} (h : HeldM lb lx k xa xt xn W) (hb : Below W.heap.size W W') : HeldM lb lx k xa xt xn W' := ⟨cell_below hb h.1, cell_below hb h.2.1, cell_below hb h.2.2⟩
theorem mv_snoc2 {w : World} {B : Nat} {v : Value} {Z : List MoveT} {x y : MoveT} (h : w.ownsRow B 51 3 v (Z.length + 2) (Z.flatMap encK ++ (encK x ++ encK y))) : OwnMv w B v (Z ++ [x, y]) := by
  unfold OwnMv
  have h1 : (Z ++ [x, y]).length = Z.length + 2 := by simp
  have h2 : (Z ++ [x, y]).flatMap encK = Z.flatMap encK ++ (encK x ++ encK y) := by rw [List.flatMap_append]; simp
  rw [h1, h2]
  exact h
theorem two_one (x y : MoveT) : ∀ u ∈ encK x ++ encK y, u.oneCell' = true := fun u hu => (List.mem_append.1 hu).elim (encK_one x u) (encK_one y u)
theorem mv_at {w : World} {ba : Option Addr} {B : List MoveT} (h : Row encK 3 w ba B) {i : Nat} {x : MoveT} (hx : B[i]? = some x) :
    ∃ b o, ba = some ⟨b, o, none⟩ ∧ b < w.heap.size ∧ w.cell? ⟨b, o + i * 3, none⟩ = some (.int .i64 x.1) ∧ w.cell? ⟨b, o + i * 3 + 1, none⟩ = some (.int .i64 x.2.1) ∧ w.cell? ⟨b, o + i * 3 + 2, none⟩ = some (.int .i64 x.2.2) := by
  obtain ⟨hi, rfl⟩ := List.getElem?_eq_some_iff.1 hx
  obtain ⟨b, o, e, hb, hc⟩ := h i hi
  exact ⟨b, o, e, hb, hc 0 (by decide), hc 1 (by decide), hc 2 (by decide)⟩
set_option maxRecDepth 100000 in
set_option maxHeartbeats 8000000 in
theorem nmerges_law (nn s t sp : Int) (hold : Bool) (ba : Option Addr) (bc : Nat) (B : List BitT) (la : Option Addr) (lc : Nat) (K : List ByT) (w : World) (hr : Row encBit 4 w ba B) (hB : ∀ x ∈ B, BitOk x) (hbl : B.length ≤ maxLen) (hn : ByteB nn) (hs : ByteB s) (ht : ByteB t) (hp : ByteB sp) (hkl : K.length ≤ maxLen) (hk : Row encBy 3 w la K) (hK : ∀ x ∈ K, ByOk x) :
    Calls Try.prog 8 #[.agg #[.int .u8 nn, .bool hold, .slice ba B.length bc, .int .u8 s, .int .u8 t, .int .u8 sp, .slice la K.length lc]] w fun e w' => e = .returned (.bool true) ∧ Below w.heap.size w w' := by
  have hb00 := (Below.refl _ w).alloc (Nat.le_refl _) (.cells #[.int .u8 nn, .bool hold, .slice ba B.length bc, .int .u8 s, .int .u8 t, .int .u8 sp, .slice la K.length lc] 46)
  have HB := Lib.hid hb00
  have HX := Lib.hid (heap_alloc_new w (.cells #[.int .u8 nn, .bool hold, .slice ba B.length bc, .int .u8 s, .int .u8 t, .int .u8 sp, .slice la K.length lc] 46))
  have HR := Lib.hid (hr.below' hb00)
  have HK := Lib.hid (hk.below' hb00)
  have x0 := cell_whole HX.out 0
  have x1 := cell_whole HX.out 1
  have x2 := cell_whole HX.out 2
  have x3 := cell_whole HX.out 3
  have x4 := cell_whole HX.out 4
  have x5 := cell_whole HX.out 5
  have x6 := cell_whole HX.out 6
  have HBB := Lib.hid hB
  have HKK := Lib.hid hK
  have HKL := Lib.hid hkl
  have HNN := Lib.hid (And.intro hn (And.intro hs (And.intro ht hp)))
  have HBL := Lib.hid hbl
  obtain ⟨N, i, j, H, Z, L, e1, e2, e3, e4, e5, e6, hF⟩ := case_facts nn s t sp B K
  have E1 := Lib.hid e1
  have E2 := Lib.hid e2
  have E3 := Lib.hid e3
  have E4 := Lib.hid e4
  have E5 := Lib.hid e5
  have E6 := Lib.hid e6
  have HF := Lib.hid hF
  have hH7 := hF.hor
  have HZ4 : Hid (Z.length ≤ 4398046511104) := Lib.hid (by have := hF.arcs; omega)
  have HOK := Lib.hid hF.okK
  have HL2 : Hid (L.length ≤ 200) := Lib.hid (by have := hF.len; omega)
  clear hr hb00 hB hbl hn hs ht hp e1 e2 e3 e4 e5 e6 hF hk hK hkl
  have HVB := Lib.hid (case_back HF.out hold)
  have HVM := Lib.hid (fun (M : List MoveT) (h : M.Perm (mvs L)) => case_merged HF.out hold h)
  have HALL := Lib.hid HF.out.all
  have hL30 := HF.out.len
  obtain ⟨v0, hv0⟩ : ∃ v0, plnV (N : Int) Z (i : Int) (j : Int) (H : Int) hold L = v0 := ⟨_, rfl⟩
  have HV0 := Lib.hid hv0
  obtain ⟨f0, hf0⟩ : ∃ f0, plnE (N : Int) Z (i : Int) (j : Int) (H : Int) hold L = f0 := ⟨_, rfl⟩
  have HF0 := Lib.hid hf0
  clear hv0 hf0
  rw [HV0.out, HF0.out] at HVB HVM
  have w0 : IntKind.i64.wrap ((L.length : Int) - 1) = (L.length : Int) - 1 := IntWalk.i64_in _ (by omega)
  go_enter Try.func8, Try.ntmps8
  go_wp2_with (first
    | (go_at_call 10; refine (nawake_any _).mono ?_; rintro e wn ⟨rfl, hb⟩; have HR := Lib.hid (HR.out.below' hb); have HK := Lib.hid (HK.out.below' hb); have hn := kept_box HX.out hb; have HX := Lib.hid hn; have x0 := cell_whole hn 0; have x1 := cell_whole hn 1; have x2 := cell_whole hn 2; have x3 := cell_whole hn 3; have x4 := cell_whole hn 4; have x5 := cell_whole hn 5; have x6 := cell_whole hn 6; have HB := Lib.hid (HB.out.trans (hb.mono HB.out.size)); clear hb hn)
    | (go_at_call 21; refine (read14_any nn s t sp hold ba bc B la lc K _ HR.out HBB.out HBL.out HNN.out.1 HNN.out.2.1 HNN.out.2.2.1 HNN.out.2.2.2 HK.out HKK.out HKL.out N i j H Z E1.out E2.out E3.out E4.out E5.out).mono ?_; rw [E6.out]; rintro e wr ⟨za, zc, ka, kc, rfl, hz, hkr, hb⟩; clear x0 x1 x2 x3 x4 x5 x6; have hal := (Below.refl _ wr).alloc (Nat.le_refl _) (.cells #[.int .i64 (N : Int), .bool hold, .slice za Z.length zc] 24); have HNT := Lib.hid (heap_alloc_new wr (.cells #[.int .i64 (N : Int), .bool hold, .slice za Z.length zc] 24)); have HZ := Lib.hid (hz.below' hal); have HL := Lib.hid (hkr.below' hal); have HBR := Lib.hid (HB.out.trans (hb.mono HB.out.size)); have HB := Lib.hid ((HB.out.trans (hb.mono HB.out.size)).trans (hal.mono (by have h1 := HB.out.size; have h2 := hb.size; omega))); have n0 := cell_whole HNT.out 0; have n1 := cell_whole HNT.out 1; have n2 := cell_whole HNT.out 2; have HZ0 := Lib.hid hz; have HL0 := Lib.hid hkr; have HGS : Hid (w.heap.size ≤ wr.heap.size) := Lib.hid (by have h1 := HB.out.size; have h2 := HBR.out.size; omega); clear hz hkr hb hal HX HR HK))
  obtain ⟨wd, hwd⟩ : ∃ wd, wr.alloc (.cells #[.int .i64 (N : Int), .bool hold, .slice za Z.length zc] 24) = wd := ⟨_, rfl⟩
  rw [hwd] at HNT HZ HL HB n0 n1 n2 ⊢
  clear hwd
  go_loopw [9, 10] (fun ov iv wl => ∃ (z : Nat) (c : Int), z ≤ L.length ∧ iv = .int .i64 c ∧ c = (z : Int) - 1 ∧ Hid (OwnMv wl wd.heap.size ov (bkL (L.drop z))) ∧ Hid (Below wd.heap.size wd wl)) (fun _ iv _ => (intOf iv + 1).toNat)
  case atStart => exact ⟨L.length, (L.length : Int) - 1, Nat.le_refl _, by go_num, rfl, Lib.hid (by rw [List.drop_length]; exact World.ownsRow_nil _ _ _ _), Lib.hid (Below.refl _ _)⟩
  case round =>
    obtain ⟨z, c, hz, rfl, hc, HO, HW⟩ := hrel
    by_cases h0 : 0 < z
    · obtain ⟨k, rfl⟩ : ∃ k, z = k + 1 := ⟨z - 1, by omega⟩
      obtain rfl : c = (k : Int) := by omega
      have hge : (0 : Int) ≤ (k : Int) := by omega
      have hli : (k : Int) < (L.length : Int) := by omega
      have hxk := List.getElem?_eq_getElem (show k < L.length by omega)
      obtain ⟨lb, lx, e, hlb, d0, d1, d2⟩ := mv_at HL.out hxk
      cases e
      have HS := Lib.hid (bkL_drop hxk)
      have hSl : (bkL (L.drop (k + 1))).length ≤ 60 := by rw [bkL_len, List.length_drop]; omega
      obtain ⟨oa, oc, hov, _⟩ := HO.out.row
      subst hov
      generalize L[k] = x at *
      generalize bkL (L.drop (k + 1)) = S at *
      obtain ⟨xa, xt, xn⟩ := x
      simp only at d0 d1 d2 HS
      have wk1 : IntKind.i64.wrap ((k : Int) - 1) = (k : Int) - 1 := IntWalk.i64_in _ (by omega)
      have HSD : Hid (HeldM lb lx k xa xt xn wd) := Lib.hid ⟨d0, d1, d2⟩
      have HSL := Lib.hid (HSD.out.below HW.out)
      obtain ⟨i0, hi0, hz0', hz1, hz2⟩ := info_parts infoMove
      have HI := Lib.hid (And.intro hi0 (And.intro hz0' (And.intro hz1 hz2)))
      clear hi0 hz0' hz1 hz2 d0 d1 d2 n0 n1 n2 hc h0
      go_wp2_with fail
      refine wp_region_held_drew (S := fun W => HeldM lb lx k xa xt xn W) (by kernel_rfl) HSL.out (fun hHeld => ?_)
      have HWQ : Hid (Below wd.heap.size wd wr.drew) := Lib.hid (below_drew HW.out)
      have HOQ : Hid (OwnMv wr.drew wd.heap.size (.slice oa S.length oc) S) := Lib.hid HO.out
      have HSL := Lib.hid (HSD.out.below HWQ.out)
      generalize wr.drew = wq at *
      refine wpAnyH_take (i := 0) (oi := { dst := some 37, op := Go.Op.move (Go.Operand.tmp 9), type := 25, pos := "law.go:153", after := #[], guard := none }) (v := .slice oa S.length oc) rfl (by kernel_rfl) (by kernel_rfl) (by kernel_rfl) (fun _ _ _ h => h) (Or.inl ⟨by rfl, ?_⟩) (by assumption) ?_
      · (intro w hSw; (try dsimp only [HeldM] at hSw); go_simp)
      try simp only [Act.put, List.setIfInBounds_toArray, List.set_cons_zero, List.set_cons_succ]
      refine wpAnyH_take (i := 1) (oi := { dst := some 38, op := Go.Op.move (Go.Operand.tmp 8), type := 25, pos := "law.go:153", after := #[], guard := none }) (v := .slice (some ⟨lb, lx, none⟩) L.length kc) rfl (by kernel_rfl) (by kernel_rfl) (by kernel_rfl) (fun _ _ _ h => h) (Or.inl ⟨by rfl, ?_⟩) (by assumption) ?_
      · (intro w hSw; (try dsimp only [HeldM] at hSw); go_simp)
      try simp only [Act.put, List.setIfInBounds_toArray, List.set_cons_zero, List.set_cons_succ]
      refine wpAnyH_take (i := 2) (oi := { dst := some 39, op := Go.Op.move (Go.Operand.tmp 10), type := 3, pos := "law.go:153", after := #[], guard := none }) (v := .int .i64 (k : Int)) rfl (by kernel_rfl) (by kernel_rfl) (by kernel_rfl) (fun _ _ _ h => h) (Or.inl ⟨by rfl, ?_⟩) (by assumption) ?_
      · (intro w hSw; (try dsimp only [HeldM] at hSw); go_simp)
      try simp only [Act.put, List.setIfInBounds_toArray, List.set_cons_zero, List.set_cons_succ]
      refine wpAnyH_take (i := 3) (oi := { dst := some 40, op := Go.Op.indexAddr 25 (Go.Operand.tmp 38) (Go.Operand.tmp 39), type := 0, pos := "law.go:153", after := #[{ on := 1, ground := Go.Ground.data }, { on := 2, ground := Go.Ground.data }], guard := none }) (v := .pointer (some ⟨lb, (lx + k * 3), none⟩)) rfl (by kernel_rfl) (by kernel_rfl) (by kernel_rfl) (fun _ _ _ h => h) (Or.inl ⟨by rfl, ?_⟩) (by assumption) ?_
      · (intro w hSw; (try dsimp only [HeldM] at hSw); go_simp)
      try simp only [Act.put, List.setIfInBounds_toArray, List.set_cons_zero, List.set_cons_succ]
      refine wpAnyH_take (i := 4) (oi := { dst := some 41, op := Go.Op.load 51 (Go.Operand.tmp 40), type := 51, pos := "law.go:153", after := #[{ on := 3, ground := Go.Ground.data }], guard := none }) (v := .agg #[.int .i64 xa, .int .i64 xt, .int .i64 xn]) rfl (by kernel_rfl) (by kernel_rfl) (by kernel_rfl) (fun _ _ _ h => h) (Or.inl ⟨by rfl, ?_⟩) (by assumption) ?_
      · (intro w hSw; (try dsimp only [HeldM] at hSw); go_simp)
      try simp only [Act.put, List.setIfInBounds_toArray, List.set_cons_zero, List.set_cons_succ]
      refine wpAnyH_take (i := 5) (oi := { dst := some 42, op := Go.Op.move (Go.Operand.tmp 8), type := 25, pos := "law.go:153", after := #[], guard := none }) (v := .slice (some ⟨lb, lx, none⟩) L.length kc) rfl (by kernel_rfl) (by kernel_rfl) (by kernel_rfl) (fun _ _ _ h => h) (Or.inl ⟨by rfl, ?_⟩) (by assumption) ?_
      · (intro w hSw; (try dsimp only [HeldM] at hSw); go_simp)
      try simp only [Act.put, List.setIfInBounds_toArray, List.set_cons_zero, List.set_cons_succ]
      refine wpAnyH_take (i := 6) (oi := { dst := some 43, op := Go.Op.move (Go.Operand.tmp 10), type := 3, pos := "law.go:153", after := #[], guard := none }) (v := .int .i64 (k : Int)) rfl (by kernel_rfl) (by kernel_rfl) (by kernel_rfl) (fun _ _ _ h => h) (Or.inl ⟨by rfl, ?_⟩) (by assumption) ?_
      · (intro w hSw; (try dsimp only [HeldM] at hSw); go_simp)
      try simp only [Act.put, List.setIfInBounds_toArray, List.set_cons_zero, List.set_cons_succ]
      refine wpAnyH_take (i := 7) (oi := { dst := some 44, op := Go.Op.indexAddr 25 (Go.Operand.tmp 42) (Go.Operand.tmp 43), type := 0, pos := "law.go:153", after := #[{ on := 5, ground := Go.Ground.data }, { on := 6, ground := Go.Ground.data }], guard := none }) (v := .pointer (some ⟨lb, (lx + k * 3), none⟩)) rfl (by kernel_rfl) (by kernel_rfl) (by kernel_rfl) (fun _ _ _ h => h) (Or.inl ⟨by rfl, ?_⟩) (by assumption) ?_
      · (intro w hSw; (try dsimp only [HeldM] at hSw); go_simp)
      try simp only [Act.put, List.setIfInBounds_toArray, List.set_cons_zero, List.set_cons_succ]
      refine wpAnyH_take (i := 8) (oi := { dst := some 45, op := Go.Op.fieldAddr 51 (Go.Operand.tmp 44) 0, type := 0, pos := "law.go:153", after := #[{ on := 7, ground := Go.Ground.data }], guard := none }) (v := .pointer (some ⟨lb, (lx + k * 3), none⟩)) rfl (by kernel_rfl) (by kernel_rfl) (by kernel_rfl) (fun _ _ _ h => h) (Or.inl ⟨by rfl, ?_⟩) (by assumption) ?_
      · (intro w hSw; (try dsimp only [HeldM] at hSw); go_simp)
      try simp only [Act.put, List.setIfInBounds_toArray, List.set_cons_zero, List.set_cons_succ]
      refine wpAnyH_take (i := 9) (oi := { dst := some 46, op := Go.Op.load 3 (Go.Operand.tmp 45), type := 3, pos := "law.go:153", after := #[{ on := 8, ground := Go.Ground.data }], guard := none }) (v := .int .i64 xa) rfl (by kernel_rfl) (by kernel_rfl) (by kernel_rfl) (fun _ _ _ h => h) (Or.inl ⟨by rfl, ?_⟩) (by assumption) ?_
      · (intro w hSw; (try dsimp only [HeldM] at hSw); go_simp)
      try simp only [Act.put, List.setIfInBounds_toArray, List.set_cons_zero, List.set_cons_succ]
      refine wpAnyH_take (i := 10) (oi := { dst := some 47, op := Go.Op.move (Go.Operand.tmp 8), type := 25, pos := "law.go:153", after := #[], guard := none }) (v := .slice (some ⟨lb, lx, none⟩) L.length kc) rfl (by kernel_rfl) (by kernel_rfl) (by kernel_rfl) (fun _ _ _ h => h) (Or.inl ⟨by rfl, ?_⟩) (by assumption) ?_
      · (intro w hSw; (try dsimp only [HeldM] at hSw); go_simp)
      try simp only [Act.put, List.setIfInBounds_toArray, List.set_cons_zero, List.set_cons_succ]
      refine wpAnyH_take (i := 11) (oi := { dst := some 48, op := Go.Op.move (Go.Operand.tmp 10), type := 3, pos := "law.go:153", after := #[], guard := none }) (v := .int .i64 (k : Int)) rfl (by kernel_rfl) (by kernel_rfl) (by kernel_rfl) (fun _ _ _ h => h) (Or.inl ⟨by rfl, ?_⟩) (by assumption) ?_
      · (intro w hSw; (try dsimp only [HeldM] at hSw); go_simp)
      try simp only [Act.put, List.setIfInBounds_toArray, List.set_cons_zero, List.set_cons_succ]
      refine wpAnyH_take (i := 12) (oi := { dst := some 49, op := Go.Op.indexAddr 25 (Go.Operand.tmp 47) (Go.Operand.tmp 48), type := 0, pos := "law.go:153", after := #[{ on := 10, ground := Go.Ground.data }, { on := 11, ground := Go.Ground.data }], guard := none }) (v := .pointer (some ⟨lb, (lx + k * 3), none⟩)) rfl (by kernel_rfl) (by kernel_rfl) (by kernel_rfl) (fun _ _ _ h => h) (Or.inl ⟨by rfl, ?_⟩) (by assumption) ?_
      · (intro w hSw; (try dsimp only [HeldM] at hSw); go_simp)
      try simp only [Act.put, List.setIfInBounds_toArray, List.set_cons_zero, List.set_cons_succ]
      refine wpAnyH_take (i := 13) (oi := { dst := some 50, op := Go.Op.fieldAddr 51 (Go.Operand.tmp 49) 1, type := 0, pos := "law.go:153", after := #[{ on := 12, ground := Go.Ground.data }], guard := none }) (v := .pointer (some ⟨lb, (lx + k * 3 + 1), none⟩)) rfl (by kernel_rfl) (by kernel_rfl) (by kernel_rfl) (fun _ _ _ h => h) (Or.inl ⟨by rfl, ?_⟩) (by assumption) ?_
      · (intro w hSw; (try dsimp only [HeldM] at hSw); go_simp)
      try simp only [Act.put, List.setIfInBounds_toArray, List.set_cons_zero, List.set_cons_succ]
      refine wpAnyH_take (i := 14) (oi := { dst := some 51, op := Go.Op.load 3 (Go.Operand.tmp 50), type := 3, pos := "law.go:153", after := #[{ on := 13, ground := Go.Ground.data }], guard := none }) (v := .int .i64 xt) rfl (by kernel_rfl) (by kernel_rfl) (by kernel_rfl) (fun _ _ _ h => h) (Or.inl ⟨by rfl, ?_⟩) (by assumption) ?_
      · (intro w hSw; (try dsimp only [HeldM] at hSw); go_simp)
      try simp only [Act.put, List.setIfInBounds_toArray, List.set_cons_zero, List.set_cons_succ]
      refine wpAnyH_take (i := 15) (oi := { dst := some 52, op := Go.Op.build 51 #[(0, Go.Operand.tmp 46), (1, Go.Operand.tmp 51)], type := 51, pos := "law.go:153", after := #[{ on := 9, ground := Go.Ground.data }, { on := 14, ground := Go.Ground.data }], guard := none }) (v := .agg #[.int .i64 xa, .int .i64 xt, .int .i64 0]) rfl (by kernel_rfl) (by kernel_rfl) (by kernel_rfl) (fun _ _ _ h => h) (Or.inl ⟨by rfl, ?_⟩) (by assumption) ?_
      · (intro w hSw; (try dsimp only [HeldM] at hSw); go_simp)
      try simp only [Act.put, List.setIfInBounds_toArray, List.set_cons_zero, List.set_cons_succ]
      refine wpAnyH_ready (rs := [16]) (by kernel_rfl) (by simp) (AllReadyH.cons (o := { dst := some 53, op := Go.Op.buildSlice 25 2 #[(0, Go.Operand.tmp 41), (1, Go.Operand.tmp 52)], type := 25, pos := "law.go:153", after := #[{ on := 4, ground := Go.Ground.data }, { on := 15, ground := Go.Ground.data }], guard := none }) rfl (fun K hK => ?_) AllReadyH.nil)
      obtain ⟨nb2, hnb2⟩ : ∃ nb2, (wq).heap.size = nb2 := ⟨_, rfl⟩
      go_simp
      have HQ2 := Lib.hid ((Below.refl wq.heap.size wq).alloc (Nat.le_refl _) (.cells #[.int .i64 xa, .int .i64 xt, .int .i64 xn, .int .i64 xa, .int .i64 xt, .int .i64 0] 51))
      have HSL := Lib.hid (HSL.out.below HQ2.out)
      have HWQ := Lib.hid (HWQ.out.trans (HQ2.out.mono HWQ.out.size))
      have HOQ := Lib.hid (HOQ.out.below HQ2.out)
      have HNW : Hid (((wq).alloc (.cells #[.int .i64 xa, .int .i64 xt, .int .i64 xn, .int .i64 xa, .int .i64 xt, .int .i64 0] 51)).heap[nb2]? = some (.cells #[.int .i64 xa, .int .i64 xt, .int .i64 xn, .int .i64 xa, .int .i64 xt, .int .i64 0] 51 (0, 0))) := Lib.hid (by rw [← hnb2]; exact heap_alloc_new _ _)
      clear hHeld
      refine hK.out _ _ HSL.out (fun hHeld => ?_)
      clear hK
      generalize (wq).alloc (.cells #[.int .i64 xa, .int .i64 xt, .int .i64 xn, .int .i64 xa, .int .i64 xt, .int .i64 0] 51) = wn2 at *
      clear hnb2
      try simp only [Act.put, List.setIfInBounds_toArray, List.set_cons_zero, List.set_cons_succ]
      refine wpAnyH_ready (rs := [17]) (by kernel_rfl) (by simp) (AllReadyH.cons (o := { dst := some 54, op := Go.Op.call { callee := Go.Callee.builtin Go.Builtin.append, args := #[Go.Operand.tmp 37, Go.Operand.tmp 53], argTypes := #[25, 25] }, type := 25, pos := "law.go:153", after := #[{ on := 0, ground := Go.Ground.data }, { on := 16, ground := Go.Ground.data }], guard := none }) rfl (fun K hK => ?_) AllReadyH.nil)
      have HOW : Hid (wn2.ownsRow wd.heap.size 51 3 (.slice oa S.length oc) S.length (S.flatMap encK)) := Lib.hid HOQ.out
      refine step_append_lies _ (by rfl) _ _ _ (by rfl) wd.heap.size 51 i0 _ 3 24 Try.underlying25 HI.out.1 HI.out.2.1 HI.out.2.2.1 HI.out.2.2.2 rfl (by omega) (.slice oa S.length oc) S.length (S.flatMap encK) (by rfl) HOW.out ⟨nb2, 0, none⟩ 2 2 (encK (xa, xt, xn) ++ encK (xa, xt, 0)) (by rfl) (by rfl) (World.news_of_block (cs := #[.int .i64 xa, .int .i64 xt, .int .i64 xn, .int .i64 xa, .int .i64 xt, .int .i64 0]) (t := 51) (fr := (0, 0)) HNW.out) (two_one _ _) (by omega) (by unfold maxLen; omega) (by omega) HWQ.out.size _ rfl ?_
      intro g12 cap12 w12 ho12 hg12 hl12 hlt12
      have HB12 := Lib.hid (HWQ.out.grown hg12 HWQ.out.size (fun k hk => (HOW.out.lt k hk).1))
      have HO12 : Hid (OwnMv w12 wd.heap.size (.slice (some ⟨g12, 0, none⟩) (S.length + 2) cap12) (S ++ [(xa, xt, xn), (xa, xt, 0)])) := Lib.hid (mv_snoc2 ho12)
      have HS12 := Lib.hid (HSD.out.below HB12.out)
      clear hHeld ho12 hg12 hl12
      refine hK.out _ _ HS12.out (fun hHeld => ?_)
      clear hK
      try simp only [Act.put, List.setIfInBounds_toArray, List.set_cons_zero, List.set_cons_succ]
      refine wpAnyH_take (i := 18) (oi := { dst := some 9, op := Go.Op.assign (Go.Operand.tmp 54), type := 25, pos := "law.go:153", after := #[{ on := 17, ground := Go.Ground.data }, { on := 17, ground := Go.Ground.chain }, { on := 0, ground := Go.Ground.phase }, { on := 1, ground := Go.Ground.phase }, { on := 2, ground := Go.Ground.phase }, { on := 3, ground := Go.Ground.phase }, { on := 4, ground := Go.Ground.phase }, { on := 5, ground := Go.Ground.phase }, { on := 6, ground := Go.Ground.phase }, { on := 7, ground := Go.Ground.phase }, { on := 8, ground := Go.Ground.phase }, { on := 9, ground := Go.Ground.phase }, { on := 10, ground := Go.Ground.phase }, { on := 11, ground := Go.Ground.phase }, { on := 12, ground := Go.Ground.phase }, { on := 13, ground := Go.Ground.phase }, { on := 14, ground := Go.Ground.phase }, { on := 15, ground := Go.Ground.phase }, { on := 16, ground := Go.Ground.phase }, { on := 17, ground := Go.Ground.phase }], guard := none }) (v := .slice (some ⟨g12, 0, none⟩) (S.length + 2) cap12) rfl (by kernel_rfl) (by kernel_rfl) (by kernel_rfl) (fun _ _ _ h => h) (Or.inl ⟨by rfl, ?_⟩) (by assumption) ?_
      · (intro w hSw; go_simp)
      try simp only [Act.put, List.setIfInBounds_toArray, List.set_cons_zero, List.set_cons_succ]
      refine wpAnyH_done (by kernel_rfl) ?_ _
      clear hHeld
      go_wp2
      go_roundw
      case rel => exact ⟨k, (k : Int) - 1, by omega, by go_num, rfl, Lib.hid (by rw [HS.out]; exact HO12.out), HB12⟩
      case measure => simp [intOf]
    · obtain rfl : z = 0 := by omega
      obtain rfl : c = -1 := by omega
      rw [List.drop_zero] at HO
      have HZ := Lib.hid (HZ.out.below' HW.out)
      have HL := Lib.hid (HL.out.below' HW.out)
      obtain ⟨qo, qc, hov, hqr⟩ := HO.out.row
      subst hov
      have HQ := Lib.hid hqr
      have hnq := kept_box HNT.out HW.out
      have HNT := Lib.hid hnq
      have n0 := cell_whole hnq 0
      have n1 := cell_whole hnq 1
      have n2 := cell_whole hnq 2
      have HB := Lib.hid (HB.out.trans (HW.out.mono HB.out.size))
      have HOB := Lib.hid HVB.out.2.2.1
      have HB2 := Lib.hid HVB.out.2.2.2
      clear hqr hnq hc h0
      go_wp2_with fail
      refine (rmoves_any ka kc L _ HL.out HOK.out HL2.out).mono ?_
      rintro e wn ⟨hb, hcase⟩
      obtain ⟨_, mo, mc, M, rfl, hmr, hper, _⟩ := hcase.resolve_right (fun q => q.1 HALL.out)
      have HVX := Lib.hid (HVM.out M hper)
      have HOM := Lib.hid HVX.out.2.2.1
      have HM2 := Lib.hid HVX.out.2.2.2
      have HM := Lib.hid hmr
      have HZ := Lib.hid (HZ.out.below' hb)
      have HL := Lib.hid (HL.out.below' hb)
      have HQ := Lib.hid (HQ.out.below' hb)
      have hn := kept_box HNT.out hb
      have HNT := Lib.hid hn
      have n0 := cell_whole hn 0
      have n1 := cell_whole hn 1
      have n2 := cell_whole hn 2
      have HB := Lib.hid (HB.out.trans (hb.mono HB.out.size))
      clear hb hn hmr hper hcase
      go_wp2_with fail
      refine (nchk14_any (N : Int) hold za zc Z.length Z (i : Int) (j : Int) (H : Int) ka kc L.length L _ HZ.out HZ4.out HL.out HOK.out HL2.out rfl rfl).mono ?_
      rw [HV0.out, HF0.out]
      rintro e wn ⟨rfl, hb⟩
      have HZ := Lib.hid (HZ.out.below' hb)
      have HL := Lib.hid (HL.out.below' hb)
      have HM := Lib.hid (HM.out.below' hb)
      have HQ := Lib.hid (HQ.out.below' hb)
      have hn := kept_box HNT.out hb
      have HNT := Lib.hid hn
      have n0 := cell_whole hn 0
      have n1 := cell_whole hn 1
      have n2 := cell_whole hn 2
      have HB := Lib.hid (HB.out.trans (hb.mono HB.out.size))
      clear hb hn
      go_wp2_with fail
      refine (nchk14_any (N : Int) hold za zc Z.length Z (i : Int) (j : Int) (H : Int) mo mc M.length M _ HZ.out HZ4.out HM.out HOM.out HM2.out rfl rfl).mono ?_
      rw [HVX.out.1, HVX.out.2.1]
      rintro e wn ⟨rfl, hb⟩
      have HZ := Lib.hid (HZ.out.below' hb)
      have HL := Lib.hid (HL.out.below' hb)
      have HM := Lib.hid (HM.out.below' hb)
      have HQ := Lib.hid (HQ.out.below' hb)
      have hn := kept_box HNT.out hb
      have HNT := Lib.hid hn
      have n0 := cell_whole hn 0
      have n1 := cell_whole hn 1
      have n2 := cell_whole hn 2
      have HB := Lib.hid (HB.out.trans (hb.mono HB.out.size))
      clear hb hn
      go_wp2_with fail
      refine (nchk14_any (N : Int) hold za zc Z.length Z (i : Int) (j : Int) (H : Int) qo qc (bkL L).length (bkL L) _ HZ.out HZ4.out HQ.out HOB.out HB2.out rfl rfl).mono ?_
      rw [HVB.out.1, HVB.out.2.1]
      rintro e wn ⟨rfl, hb⟩
      have HZ := Lib.hid (HZ.out.below' hb)
      have HL := Lib.hid (HL.out.below' hb)
      have HM := Lib.hid (HM.out.below' hb)
      have HQ := Lib.hid (HQ.out.below' hb)
      have hn := kept_box HNT.out hb
      have HNT := Lib.hid hn
      have n0 := cell_whole hn 0
      have n1 := cell_whole hn 1
      have n2 := cell_whole hn 2
      have HB := Lib.hid (HB.out.trans (hb.mono HB.out.size))
      clear hb hn
      go_wp2_with fail
      go_ret
      exact ⟨by simp, HB.out⟩
end Go.Proofs.Ytedficnaipiplaa
