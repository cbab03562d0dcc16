/- The document's Slots of layer 16: the slots that are come to from the first end by steps that have room. -/
import Derived.Test.YtlkbohpnlbfopaaGreatCO
import Derived.Test.YtlkbohpnlbfopaaGreatFRmo
import Derived.Test.YtlkbohpnlbfopaaGreatBD
import Derived.Test.YtlkbohpnlbfopaaGreatBN
import Derived.Test.YtlkbohpnlbfopaaGreatXBest
import Derived.Deep.AppendLies
import Derived.Deep.RegionHeld3
import Derived.Deep.RegionWith
namespace Go.Proofs.YtlkbohpnlbfopaaGreat
open Go.RowKit
set_option linter.unusedVariables false
def HeldR8 (g N : Nat) (W : World) : Prop := W.cell? ⟨g, 0, none⟩ = some (.int .i64 (N : Int))
def SlotsV (L : List (Int × Int)) (w : World) (e : Ending) (w' : World) : Prop := ∃ sa sc, e = .returned (.slice sa L.length sc) ∧ Row encPQ 2 w' sa L ∧ Below w.heap.size w w'
section
variable {A : List ArcT} {F : List Int} {q k : Nat}
theorem far_way_no (hW : WideNet A (q + 2)) {j : Nat} (hj : j < q) (hw : wayK (fromS A) (toS A) (stepsK A F A.length) (q + 2) q j = none) : (atI (farsL (seekN A F (q + 2) q) (q + 2)) j != -1) = false := by
  have hn : j ∉ keysX (seekN A F (q + 2) q) := wayK_none hw
  rw [farsL_at _ (by omega), farX_none hn]
  rfl
theorem far_way_yes (hW : WideNet A (q + 2)) (hF : Flow A F) {j : Nat} (hj : j < q) {P : List StepT} (hw : wayK (fromS A) (toS A) (stepsK A F A.length) (q + 2) q j = some P) : (atI (farsL (seekN A F (q + 2) q) (q + 2)) j != -1) = true := by
  obtain ⟨b, c, h1, h2, _⟩ := wayK_some hw
  rw [farsL_at _ (by omega)]
  have hm : j ∈ keysX (seekN A F (q + 2) q) := keysX_mem.2 ⟨b, c, h1, h2⟩
  have := (far_mem (seek_facts hW hF (by omega))).1 hm
  simpa using this
end
section
variable (b : Bool) (ao : Option Addr) (nl cap : Nat) (N K q : Nat) (oa fo : Option Addr) (oc fc : Nat) (A : List ArcT) (F : List Int)
set_option maxRecDepth 100000 in
set_option maxHeartbeats 16000000 in
theorem rslots16_yes (w : World) (hW : WideNet A (q + 2)) (hq : (K + 1) * N = q) (hN : 1 ≤ N) (hK : K ≤ 1024) (hq2 : q ≤ 4000) (hA : Row encA 4 w oa A) (hF : Lst encI w fo F) (hv : Flow A F) :
    Calls Tryz.prog 24 #[.agg #[.int .i64 (N : Int), .bool b, .slice ao nl cap], .int .i64 (K : Int), .agg #[.int .i64 ((q : Int) + 2), .bool false, .slice oa A.length oc], .slice fo F.length fc] w (SlotsV (cutL true (N : Int) (K : Int) (farsL (seekN A F (q + 2) q) (q + 2)) q) w) := by
  have hal1 := (Below.refl _ w).alloc (Nat.le_refl _) (.cells #[.int .i64 (N : Int), .bool b, .slice ao nl cap] 27)
  have hb00 := hal1.alloc hal1.size (.cells #[.int .i64 ((q : Int) + 2), .bool false, .slice oa A.length oc] 27)
  have HB := Lib.hid hb00
  have HN := Lib.hid (alloc_whole (heap_alloc_new w (.cells #[.int .i64 (N : Int), .bool b, .slice ao nl cap] 27)) (.cells #[.int .i64 ((q : Int) + 2), .bool false, .slice oa A.length oc] 27))
  have HG := Lib.hid (new_whole1 w (.cells #[.int .i64 (N : Int), .bool b, .slice ao nl cap] 27) (.cells #[.int .i64 ((q : Int) + 2), .bool false, .slice oa A.length oc] 27))
  have HAR := Lib.hid (hA.below' hb00)
  have HFR := Lib.hid (hF.below hb00)
  have HWN := Lib.hid hW
  have HFV := Lib.hid hv
  have hal := hW.len
  have HFL : Hid (F.length = A.length) := Lib.hid hv.1
  have hsl := stepsK_len A F A.length
  have HST := Lib.hid (fun y hy => wide_step hW hv (y := y) hy)
  have HTT : Hid (∀ y ∈ stepsK A F A.length, toS A y < q + 2) := Lib.hid (fun y hy => (HST.out y hy).1.1)
  have hNq : N ≤ q := by rw [← hq]; exact Nat.le_mul_of_pos_left N (Nat.succ_pos K)
  have hqI : ((K : Int) + 1) * (N : Int) = (q : Int) := by rw [← hq, Int.natCast_mul]; simp
  have HIN : Hid (∀ j : Nat, j < q → inB (N : Int) (K : Int) (j : Int) = true) := Lib.hid (fun j hj => by unfold inB; rw [hqI]; exact decide_eq_true (by omega))
  clear hal1 hb00 hA hF hW hv hq
  have c0 := cell_whole HN.out 0
  have d0 := cell_whole HG.out 0
  have d1 := cell_whole HG.out 1
  have d2 := cell_whole HG.out 2
  obtain ⟨D, hD⟩ : ∃ D, farsL (seekN A F (q + 2) q) (q + 2) = D := ⟨_, rfl⟩
  have HDD := Lib.hid hD
  rw [hD]
  clear hD
  go_enter Tryz.func24, Tryz.ntmps24
  go_wp2_with (go_at_call 35; refine (rsteps_any ((q : Int) + 2) false oa fo oc fc A F _ HAR.out HFR.out HFL.out (by omega)).mono ?_; rintro e w2 ⟨a3, c3, rfl, hr3, hb3⟩; have HB2 := Lib.hid (HB.out.trans (hb3.mono HB.out.size)); have HA2 := Lib.hid (HAR.out.below' hb3); have HS2 := Lib.hid hr3; have hn := kept_box HN.out hb3; have HN2 := Lib.hid hn; have hg := kept_box HG.out hb3; have HG2 := Lib.hid hg; clear hb3 hr3 hn hg c0 d0 d1 d2)
  have HNN : Hid (w.heap.size + 1 < w2.heap.size) := Lib.hid (lt_whole HG2.out)
  obtain ⟨i0, hi0, hz0, hz1, hz2⟩ := info_parts infoSlot
  have HI := Lib.hid (And.intro hi0 (And.intro hz0 (And.intro hz1 hz2)))
  clear hi0 hz0 hz1 hz2
  go_loopw [9, 11] (fun sv iv wr => ∃ j : Nat, j ≤ q ∧ iv = .int .i64 (j : Int) ∧ Hid (wr.ownsRow w2.heap.size 59 2 sv (cutL true (N : Int) (K : Int) D j).length ((cutL true (N : Int) (K : Int) D j).flatMap encPQ)) ∧ Hid (Below w2.heap.size w2 wr)) (fun _ iv _ => q - (intOf iv).toNat)
  case atStart => exact ⟨0, Nat.zero_le _, rfl, Lib.hid (World.ownsRow_nil _ _ _ _), Lib.hid (Below.refl _ _)⟩
  case round =>
    obtain ⟨j, hj, rfl, HO, HBW⟩ := hrel
    have hn := kept_box HN2.out HBW.out
    have hg := kept_box HG2.out HBW.out
    have c0 := cell_whole hn 0
    have HNW := Lib.hid hn
    clear hn
    by_cases hlt : j < q
    · have hli : (j : Int) < (q : Int) := by omega
      have d0 := cell_whole hg 0
      have d1 := cell_whole hg 1
      have d2 := cell_whole hg 2
      have HAW := Lib.hid (HA2.out.below' HBW.out)
      have HSW := Lib.hid (HS2.out.below' HBW.out)
      have hcl := cutL_len true (N : Int) (K : Int) D j
      have HSTP : Hid (cutL true (N : Int) (K : Int) D (j + 1) = cutL true (N : Int) (K : Int) D j ++ if atI D j != -1 then [plcV true (N : Int) (K : Int) (j : Int)] else []) := Lib.hid rfl
      generalize cutL true (N : Int) (K : Int) D j = CL at *
      clear hg
      cases hw : wayK (fromS A) (toS A) (stepsK A F A.length) (q + 2) q j with
      | none =>
        have HWK := Lib.hid hw
        have HST2 : Hid (cutL true (N : Int) (K : Int) D (j + 1) = CL) := Lib.hid (by have h := far_way_no HWN.out hlt hw; rw [HDD.out] at h; rw [HSTP.out, h]; simp)
        clear hw
        go_wp2_with (go_at_call 34; refine (rway_any ((q : Int) + 2) false oa a3 oc c3 A (stepsK A F A.length) (q + 2) q j _ HAW.out HSW.out (by omega) (by omega) (by omega) (by omega) HTT.out (fun y hy => stepsK_arc hy) HWN.out.ends).mono ?_; rw [HWK.out]; rintro e w5 ⟨a5, c5, rfl, hr5, hb5⟩; have HB5 := Lib.hid (HBW.out.trans (hb5.mono HBW.out.size)); have HO5 := Lib.hid (own_below HO.out hb5); clear hb5 hr5)
        go_roundw
        case rel => exact ⟨j + 1, by omega, by go_num, Lib.hid (by rw [HST2.out]; exact HO5.out), HB5⟩
        case measure => simp [intOf]; omega
      | some P =>
        have HWK := Lib.hid hw
        obtain ⟨p1, hp1⟩ : ∃ p1, (j : Int) % (N : Int) = p1 := ⟨_, rfl⟩
        obtain ⟨p2, hp2⟩ : ∃ p2, (j : Int) / (N : Int) = p2 := ⟨_, rfl⟩
        have HST2 : Hid (cutL true (N : Int) (K : Int) D (j + 1) = CL ++ [(p1, p2)]) := Lib.hid (by have h := far_way_yes HWN.out HFV.out hlt hw; rw [HDD.out] at h; rw [HSTP.out, h]; unfold plcV; rw [if_pos rfl, if_pos (HIN.out j hlt), hp1, hp2]; simp)
        have hj0 : (0 : Int) ≤ (j : Int) := by omega
        have tm : (j : Int).tmod (N : Int) = p1 := by rw [Int.tmod_eq_emod_of_nonneg hj0]; exact hp1
        have td : (j : Int).tdiv (N : Int) = p2 := by rw [Int.tdiv_eq_ediv_of_nonneg hj0]; exact hp2
        have wm : IntKind.i64.wrap p1 = p1 := IntWalk.i64_in _ (by have h1 := Int.emod_nonneg (j : Int) (b := (N : Int)) (by omega); have h2 := Int.emod_lt_of_pos (j : Int) (b := (N : Int)) (by omega); omega)
        have wd_ : IntKind.i64.wrap p2 = p2 := IntWalk.i64_in _ (by have h1 : 0 ≤ (j : Int) / (N : Int) := Int.ediv_nonneg hj0 (by omega); have h2 : (j : Int) / (N : Int) ≤ (j : Int) := Int.ediv_le_self _ hj0; omega)
        have hN0 : ((N : Int) == 0) = false := by simp; omega
        have hN0' : ¬ (N : Int) = 0 := by omega
        have hNz : ¬ N = 0 := by omega
        clear hw hp1 hp2
        go_wp2_with (go_at_call 34; refine (rway_any ((q : Int) + 2) false oa a3 oc c3 A (stepsK A F A.length) (q + 2) q j _ HAW.out HSW.out (by omega) (by omega) (by omega) (by omega) HTT.out (fun y hy => stepsK_arc hy) HWN.out.ends).mono ?_; rw [HWK.out]; rintro e w5 ⟨a5, c5, rfl, hr5, hb5⟩; have HB5 := Lib.hid (HBW.out.trans (hb5.mono HBW.out.size)); have HO5 := Lib.hid (own_below HO.out hb5); have hn5 := kept_box HNW.out hb5; have HN5 := Lib.hid hn5; clear hb5 hr5 hn5 c0 d0 d1 d2 HO HBW)
        have HSL5 : Hid (HeldR8 w.heap.size N w5) := Lib.hid (cell_whole HN5.out 0)
        refine wp_region_held_drew (S := fun W => HeldR8 w.heap.size N W) (by kernel_rfl) HSL5.out (fun hHeld => ?_)
        have HB5 := Lib.hid (below_drew HB5.out)
        have HN5 : Hid (w5.drew.heap[w.heap.size]? = some (.cells #[.int .i64 (N : Int), .bool b, .slice ao nl cap] 27 (0, 0))) := HN5
        have HO5 := Lib.hid (own_below HO5.out (below_drew (Below.refl w5.heap.size w5)))
        generalize w5.drew = wd at *
        refine wpAnyH_take (i := 0) (oi := { dst := some 37, op := Go.Op.move (Go.Operand.tmp 9), type := 35, pos := "ref.go:29", after := #[], guard := none }) (v := u9) rfl (by kernel_rfl) (by kernel_rfl) (by kernel_rfl) (fun _ _ _ h => h) (Or.inl ⟨by rfl, ?_⟩) (by assumption) ?_
        · (intro w hSw; (try dsimp only [HeldR8] at hSw); go_simp)
        try simp only [Act.put, List.setIfInBounds_toArray, List.set_cons_zero, List.set_cons_succ]
        refine wpAnyH_take (i := 1) (oi := { dst := some 38, op := Go.Op.move (Go.Operand.tmp 11), type := 3, pos := "ref.go:29", after := #[], guard := none }) (v := .int .i64 (j : Int)) rfl (by kernel_rfl) (by kernel_rfl) (by kernel_rfl) (fun _ _ _ h => h) (Or.inl ⟨by rfl, ?_⟩) (by assumption) ?_
        · (intro w hSw; (try dsimp only [HeldR8] at hSw); go_simp)
        try simp only [Act.put, List.setIfInBounds_toArray, List.set_cons_zero, List.set_cons_succ]
        refine wpAnyH_take (i := 2) (oi := { dst := some 39, op := Go.Op.fieldAddr 27 (Go.Operand.tmp 4) 0, type := 0, pos := "ref.go:29", after := #[], guard := none }) (v := .pointer (some ⟨w.heap.size, 0, none⟩)) rfl (by kernel_rfl) (by kernel_rfl) (by kernel_rfl) (fun _ _ _ h => h) (Or.inl ⟨by rfl, ?_⟩) (by assumption) ?_
        · (intro w hSw; (try dsimp only [HeldR8] at hSw); go_simp)
        try simp only [Act.put, List.setIfInBounds_toArray, List.set_cons_zero, List.set_cons_succ]
        refine wpAnyH_take (i := 3) (oi := { dst := some 40, op := Go.Op.load 3 (Go.Operand.tmp 39), type := 3, pos := "ref.go:29", after := #[{ on := 2, ground := Go.Ground.data }], guard := none }) (v := .int .i64 (N : Int)) rfl (by kernel_rfl) (by kernel_rfl) (by kernel_rfl) (fun _ _ _ h => h) (Or.inl ⟨by rfl, ?_⟩) (by assumption) ?_
        · (intro w hSw; (try dsimp only [HeldR8] at hSw); go_simp)
        try simp only [Act.put, List.setIfInBounds_toArray, List.set_cons_zero, List.set_cons_succ]
        refine wpAnyH_take (i := 4) (oi := { dst := some 41, op := Go.Op.binOp Go.BinOp.rem 3 (Go.Operand.tmp 38) (Go.Operand.tmp 40) 3, type := 3, pos := "ref.go:29", after := #[{ on := 1, ground := Go.Ground.data }, { on := 3, ground := Go.Ground.data }], guard := none }) (v := .int .i64 p1) rfl (by kernel_rfl) (by kernel_rfl) (by kernel_rfl) (fun _ _ _ h => h) (Or.inl ⟨by rfl, ?_⟩) (by assumption) ?_
        · (intro w hSw; (try dsimp only [HeldR8] at hSw); go_simp)
        try simp only [Act.put, List.setIfInBounds_toArray, List.set_cons_zero, List.set_cons_succ]
        refine wpAnyH_take (i := 5) (oi := { dst := some 42, op := Go.Op.move (Go.Operand.tmp 11), type := 3, pos := "ref.go:29", after := #[], guard := none }) (v := .int .i64 (j : Int)) rfl (by kernel_rfl) (by kernel_rfl) (by kernel_rfl) (fun _ _ _ h => h) (Or.inl ⟨by rfl, ?_⟩) (by assumption) ?_
        · (intro w hSw; (try dsimp only [HeldR8] at hSw); go_simp)
        try simp only [Act.put, List.setIfInBounds_toArray, List.set_cons_zero, List.set_cons_succ]
        refine wpAnyH_take (i := 6) (oi := { dst := some 43, op := Go.Op.fieldAddr 27 (Go.Operand.tmp 4) 0, type := 0, pos := "ref.go:29", after := #[], guard := none }) (v := .pointer (some ⟨w.heap.size, 0, none⟩)) rfl (by kernel_rfl) (by kernel_rfl) (by kernel_rfl) (fun _ _ _ h => h) (Or.inl ⟨by rfl, ?_⟩) (by assumption) ?_
        · (intro w hSw; (try dsimp only [HeldR8] at hSw); go_simp)
        try simp only [Act.put, List.setIfInBounds_toArray, List.set_cons_zero, List.set_cons_succ]
        refine wpAnyH_take (i := 7) (oi := { dst := some 44, op := Go.Op.load 3 (Go.Operand.tmp 43), type := 3, pos := "ref.go:29", after := #[{ on := 6, ground := Go.Ground.data }], guard := none }) (v := .int .i64 (N : Int)) rfl (by kernel_rfl) (by kernel_rfl) (by kernel_rfl) (fun _ _ _ h => h) (Or.inl ⟨by rfl, ?_⟩) (by assumption) ?_
        · (intro w hSw; (try dsimp only [HeldR8] at hSw); go_simp)
        try simp only [Act.put, List.setIfInBounds_toArray, List.set_cons_zero, List.set_cons_succ]
        refine wpAnyH_take (i := 8) (oi := { dst := some 45, op := Go.Op.binOp Go.BinOp.quo 3 (Go.Operand.tmp 42) (Go.Operand.tmp 44) 3, type := 3, pos := "ref.go:29", after := #[{ on := 5, ground := Go.Ground.data }, { on := 7, ground := Go.Ground.data }], guard := none }) (v := .int .i64 p2) rfl (by kernel_rfl) (by kernel_rfl) (by kernel_rfl) (fun _ _ _ h => h) (Or.inl ⟨by rfl, ?_⟩) (by assumption) ?_
        · (intro w hSw; (try dsimp only [HeldR8] at hSw); go_simp)
        try simp only [Act.put, List.setIfInBounds_toArray, List.set_cons_zero, List.set_cons_succ]
        refine wpAnyH_take (i := 9) (oi := { dst := some 46, op := Go.Op.build 59 #[(0, Go.Operand.tmp 41), (1, Go.Operand.tmp 45)], type := 59, pos := "ref.go:29", after := #[{ on := 4, ground := Go.Ground.data }, { on := 8, ground := Go.Ground.data }], guard := none }) (v := .agg #[.int .i64 p1, .int .i64 p2]) rfl (by kernel_rfl) (by kernel_rfl) (by kernel_rfl) (fun _ _ _ h => h) (Or.inl ⟨by rfl, ?_⟩) (by assumption) ?_
        · (intro w hSw; (try dsimp only [HeldR8] at hSw); go_simp)
        try simp only [Act.put, List.setIfInBounds_toArray, List.set_cons_zero, List.set_cons_succ]
        refine wpAnyH_ready (rs := [10]) (by kernel_rfl) (by simp) (AllReadyH.cons (o := { dst := some 47, op := Go.Op.buildSlice 35 1 #[(0, Go.Operand.tmp 46)], type := 35, pos := "ref.go:29", after := #[{ on := 9, ground := Go.Ground.data }], guard := none }) rfl (fun KQ hK => ?_) (AllReadyH.nil))
        go_simp
        have HNX := Lib.hid (heap_alloc_new wd (.cells #[.int .i64 p1, .int .i64 p2] 59))
        have hal := (Below.refl wd.heap.size wd).alloc (Nat.le_refl _) (.cells #[.int .i64 p1, .int .i64 p2] 59)
        have HO6 := Lib.hid (own_below HO5.out hal)
        have HB6 := Lib.hid (HB5.out.trans (hal.mono HB5.out.size))
        have hk := kept_box HN5.out hal
        have HN6 := Lib.hid hk
        have HSL : Hid (HeldR8 w.heap.size N (wd.alloc (.cells #[.int .i64 p1, .int .i64 p2] 59))) := Lib.hid (cell_whole hk 0)
        clear hHeld hal hk
        refine hK.out _ _ HSL.out (fun hHeld => ?_)
        clear hK
        try simp only [Act.put, List.setIfInBounds_toArray, List.set_cons_zero, List.set_cons_succ]
        generalize hwn : wd.alloc (.cells #[.int .i64 p1, .int .i64 p2] 59) = wn at *
        refine wpAnyH_ready (rs := [11]) (by kernel_rfl) (by simp) (AllReadyH.cons (o := { dst := some 48, op := Go.Op.call { callee := Go.Callee.builtin Go.Builtin.append, args := #[Go.Operand.tmp 37, Go.Operand.tmp 47], argTypes := #[35, 35] }, type := 35, pos := "ref.go:29", after := #[{ on := 0, ground := Go.Ground.data }, { on := 10, ground := Go.Ground.data }], guard := none }) rfl (fun KQ hK => ?_) (AllReadyH.nil))
        refine step_append_lies _ (by rfl) _ _ _ (by rfl) w2.heap.size 59 i0 _ 2 16 Tryz.underlying35 HI.out.1 HI.out.2.1 HI.out.2.2.1 HI.out.2.2.2 rfl (by omega) u9 CL.length (CL.flatMap encPQ) (by rfl) HO6.out ⟨wd.heap.size, 0, none⟩ 1 1 (encPQ (p1, p2)) (by rfl) (by rfl) (World.news_of_block (cs := #[.int .i64 p1, .int .i64 p2]) (t := 59) (fr := (0, 0)) HNX.out) (encP_oneQ _) (by omega) (by unfold maxLen; omega) (by omega) HB6.out.size _ rfl ?_
        intro g8 cap8 w8 ho8 hg8 hl8 hlt8
        have ho8' : w8.ownsRow w2.heap.size 59 2 (.slice (some ⟨g8, 0, none⟩) (CL.length + 1) cap8) (CL ++ [(p1, p2)]).length ((CL ++ [(p1, p2)]).flatMap encPQ) := (by rw [List.length_append, List.flatMap_append]; simpa using ho8)
        have HO8 := Lib.hid ho8'
        have HB8 := Lib.hid (HB6.out.grown hg8 HB6.out.size (fun k hk => (HO6.out.lt k hk).1))
        have hk := (hg8.block _ (lt_whole HN6.out) (fun e => own_ne HO6.out HN6.out (by decide) e.symm)).trans HN6.out
        have HSL : Hid (HeldR8 w.heap.size N w8) := Lib.hid (cell_whole hk 0)
        clear hHeld ho8 ho8' hg8 hl8 hlt8 hk
        refine hK.out _ _ HSL.out (fun hHeld => ?_)
        clear hK
        try simp only [Act.put, List.setIfInBounds_toArray, List.set_cons_zero, List.set_cons_succ]
        refine wpAnyH_take (i := 12) (oi := { dst := some 9, op := Go.Op.assign (Go.Operand.tmp 48), type := 35, pos := "ref.go:29", after := #[{ on := 11, ground := Go.Ground.data }, { on := 11, ground := Go.Ground.chain }, { on := 0, ground := Go.Ground.phase }, { on := 1, ground := Go.Ground.phase }, { on := 2, ground := Go.Ground.phase }, { on := 3, ground := Go.Ground.phase }, { on := 4, ground := Go.Ground.phase }, { on := 5, ground := Go.Ground.phase }, { on := 6, ground := Go.Ground.phase }, { on := 7, ground := Go.Ground.phase }, { on := 8, ground := Go.Ground.phase }, { on := 9, ground := Go.Ground.phase }, { on := 10, ground := Go.Ground.phase }, { on := 11, ground := Go.Ground.phase }], guard := none }) (v := .slice (some ⟨g8, 0, none⟩) (CL.length + 1) cap8) rfl (by kernel_rfl) (by kernel_rfl) (by kernel_rfl) (fun _ _ _ h => h) (Or.inl ⟨by rfl, ?_⟩) (by assumption) ?_
        · (intro w hSw; (try dsimp only [HeldR8] at hSw); go_simp)
        try simp only [Act.put, List.setIfInBounds_toArray, List.set_cons_zero, List.set_cons_succ]
        refine wpAnyH_done (by kernel_rfl) ?_ _
        clear hHeld
        go_wp2
        go_roundw
        case rel => exact ⟨j + 1, by omega, by go_num, Lib.hid (by rw [HST2.out]; exact HO8.out), HB8⟩
        case measure => simp [intOf]; omega
    · have hli : ¬ (j : Int) < (q : Int) := by omega
      obtain rfl : j = q := by omega
      obtain ⟨sa, sc, rfl, hsr, _⟩ := own_rowQ encP_lenQ HO.out
      have HSR := Lib.hid hsr
      clear hsr
      go_wp2_with fail
      go_ret
      exact ⟨sa, sc, rfl, HSR.out, HB2.out.trans (HBW.out.mono HB2.out.size)⟩
end
end Go.Proofs.YtlkbohpnlbfopaaGreat
