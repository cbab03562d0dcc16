/- SpanGrows, SpanShort, SpanStill. -/
import Derived.Test.YtekcnglkfglbfaaGSml
import Derived.Test.YtekcnglkfglbfaaGCln
import Derived.BigQuiet
import Derived.Deep.QuietTactic
import Derived.Deep.RegionHeld3
namespace Go.Proofs.Ytekcnglkfglbfaa
open Go.RowKit
set_option linter.unusedVariables false

theorem read12_10 (nn s t sp : Int) (hold : Bool) (ba : Option Addr) (bc : Nat) (B : List BitT) (w : World) (h : Row encBit 4 w ba B) (hB : ∀ x ∈ B, BitOk x) (hbl : B.length ≤ maxLen)
    (hn : ByteB nn) (hs : ByteB s) (ht : ByteB t) (hp : ByteB sp) :
    Calls Try.prog 10 #[.agg #[.int .u8 nn, .bool hold, .slice ba B.length bc, .int .u8 s, .int .u8 t, .int .u8 sp], .int .i64 10] w (ReadRes hold (nodeN nn) (srcN nn s) (snkN nn s t) (horN sp) (readZ (nodeN nn) 10 B) w) := read12_any 10 nn s t sp hold ba bc B w h hB hbl (by omega) hn hs ht hp
theorem read_facts (nn s t sp : Int) (B : List BitT) : ∃ N i j H Z, nodeN nn = N ∧ srcN nn s = i ∧ snkN nn s t = j ∧ horN sp = H ∧ readZ (nodeN nn) 10 B = Z ∧ (2 ≤ N ∧ N ≤ 5) ∧ i < N ∧ j < N ∧ i ≠ j ∧ H ≤ 7 ∧ Z.length ≤ 10 ∧ ∀ a ∈ Z, SmallA N a :=
  ⟨_, _, _, _, _, rfl, rfl, rfl, rfl, rfl, node_bd nn, src_lt nn s, (snk_lt nn s t).1, (snk_lt nn s t).2, hor_bd sp, by rw [readZ_len]; omega, read_arcs (node_bd nn).1⟩
theorem small_net {N : Nat} {Z : List ArcT} (h : checkE (N : Int) Z = 0) : SpanNet Z N := by
  have h1 := span_of (b := true) (right_iff.1 h)
  rwa [Int.toNat_natCast] at h1
/-- One arc is appended to a row of a call's own. -/
theorem wpList_append_arcC {w : World} {ops : Array Oper} {rest : List Oper} {o : Oper} {a : Act} {Q : Exit → Act → World → Prop} (hgd : o.guard = none) (s y : Operand)
    (ho : o.op = .call { callee := .builtin .append, args := #[s, y], argTypes := #[22, 22] })
    (base : Nat) (v : Value) (A : List ArcT) (x : ArcT) (hs : a.eval s = v) (hown : OwnC w base v A) (gs : Nat) (c : Nat) (hx : a.eval y = .slice (some ⟨gs, 0, none⟩) 1 c) (hc : ∀ j, j < 4 → w.cell? ⟨gs, j, none⟩ = (encA x)[j]?)
    (hroom : A.length ≤ 200000) (hbase : base ≤ w.heap.size)
    (hK : ∀ g cap w', OwnC w' base (.slice (some ⟨g, 0, none⟩) (A.length + 1) cap) (A ++ [x]) → w.grownBy w' v.ownBlock → (v.ownBlock = some g ∨ g = w.heap.size) → base ≤ g → g < w'.heap.size → wpList Try.prog ops Q rest (a.put o.dst (.slice (some ⟨g, 0, none⟩) (A.length + 1) cap)) w') : wpList Try.prog ops Q (o :: rest) a w :=
  wpList_append_row (enc := encA) Try.underlying22 infoArcC rfl (by omega) (by omega) encA_len hgd s y ho base v A x (encA_one x) hs hown gs c hx hc hroom hbase hK
theorem cells4C (w : World) (t : TypeId) (g : Nat) (hg : w.heap.size = g) (a : ArcT) : ∀ j, j < 4 → (w.alloc (.cells #[.int .i64 a.1, .int .i64 a.2.1, .int .i64 a.2.2.1, .int .i64 a.2.2.2] t)).cell? ⟨g, j, none⟩ = (encA a)[j]? := by
  intro j hj
  rw [cell_new' hg]
  match j, hj with
  | 0, _ => rfl
  | 1, _ => rfl
  | 2, _ => rfl
  | 3, _ => rfl
theorem filter_takeA {p : ArcT → Bool} {M : List ArcT} {k : Nat} (hk : k < M.length) : (M.take (k + 1)).filter p = (M.take k).filter p ++ if p M[k] = true then [M[k]] else [] := by
  rw [List.take_succ_eq_append_getElem hk, List.filter_append]
  congr 1
  by_cases hb : p M[k] = true
  · rw [if_pos hb]; simp [hb]
  · rw [if_neg hb]; simp [hb]
set_option maxRecDepth 100000 in
set_option maxHeartbeats 8000000 in
theorem grows_law (nn s t sp : Int) (hold : Bool) (ba : Option Addr) (bc : Nat) (B : List BitT) (w : World) (hr : Row encBit 4 w ba B) (hB : ∀ x ∈ B, BitOk x) (hbl : B.length ≤ maxLen) (hn : ByteB nn) (hs : ByteB s) (ht : ByteB t) (hp : ByteB sp) :
    Calls Try.prog 4 #[.agg #[.int .u8 nn, .bool hold, .slice ba B.length bc, .int .u8 s, .int .u8 t, .int .u8 sp]] w fun e w' => e = .returned (.bool true) ∧ Below w.heap.size w w' := by
  have hb00 := (Below.refl _ w).alloc (Nat.le_refl _) (.cells #[.int .u8 nn, .bool hold, .slice ba B.length bc, .int .u8 s, .int .u8 t, .int .u8 sp] 33)
  have HB := Lib.hid hb00
  have HX := Lib.hid (heap_alloc_new w (.cells #[.int .u8 nn, .bool hold, .slice ba B.length bc, .int .u8 s, .int .u8 t, .int .u8 sp] 33))
  have HR := Lib.hid (hr.below' hb00)
  have x0 := cell_whole HX.out 0
  have x1 := cell_whole HX.out 1
  have x2 := cell_whole HX.out 2
  have x3 := cell_whole HX.out 3
  have x4 := cell_whole HX.out 4
  have x5 := cell_whole HX.out 5
  have HBB := Lib.hid hB
  have HNN := Lib.hid (And.intro hn (And.intro hs (And.intro ht hp)))
  have HBL := Lib.hid hbl
  obtain ⟨N, i, j, H, Z, e1, e2, e3, e4, e5, hN, hi, hj, hij, hH, hzl, hS⟩ := read_facts nn s t sp B
  have E1 := Lib.hid e1
  have E2 := Lib.hid e2
  have E3 := Lib.hid e3
  have E4 := Lib.hid e4
  have E5 := Lib.hid e5
  have HSA := Lib.hid hS
  have hck := small_check (Z := Z) hN (by omega) hS
  have hen := small_ends hck hi hj hij
  have HEN := Lib.hid hen
  have HA0 := Lib.hid (small_ask (H := (H : Int)) hen (by omega) (by omega))
  have HA1 := Lib.hid (small_ask (H := (H : Int) + 1) hen (by omega) (by omega))
  have HA2 := Lib.hid (small_ask (H := (H : Int) + 2) hen (by omega) (by omega))
  have HZL : Hid (Z.length ≤ maxLen) := Lib.hid (by unfold maxLen; omega)
  have HW := Lib.hid (small_net hck)
  have w1 : IntKind.i64.wrap ((H : Int) + 1) = (H : Int) + 1 := IntWalk.i64_in _ (by omega)
  have w2 : IntKind.i64.wrap ((H : Int) + 2) = (H : Int) + 2 := IntWalk.i64_in _ (by omega)
  clear hr hb00 hB hbl hn hs ht hp e1 e2 e3 e4 e5 hS hck hen
  go_enter Try.func4, Try.ntmps4
  go_wp2_with (first
    | (go_at_call 9; refine (pawake_any _).mono ?_; rintro e wn ⟨rfl, hb⟩; have HR := Lib.hid (HR.out.below' hb); have hn := kept_box HX.out hb; have HX := Lib.hid hn; have x0 := cell_whole hn 0; have x1 := cell_whole hn 1; have x2 := cell_whole hn 2; have x3 := cell_whole hn 3; have x4 := cell_whole hn 4; have x5 := cell_whole hn 5; have HB := Lib.hid (HB.out.trans (hb.mono HB.out.size)); clear hb hn)
    | (go_at_call 10; refine (read12_10 nn s t sp hold ba bc B _ HR.out HBB.out HBL.out HNN.out.1 HNN.out.2.1 HNN.out.2.2.1 HNN.out.2.2.2).mono ?_; rw [E5.out, E2.out, E3.out, E4.out, E1.out]; rintro e wr ⟨za, zc, rfl, hz, hb⟩; clear x0 x1 x2 x3 x4 x5; have hal := (Below.refl _ wr).alloc (Nat.le_refl _) (.cells #[.int .i64 (N : Int), .bool hold, .slice za Z.length zc] 24); have HNT := Lib.hid (heap_alloc_new wr (.cells #[.int .i64 (N : Int), .bool hold, .slice za Z.length zc] 24)); have HZ := Lib.hid (hz.below' hal); have HB := Lib.hid ((HB.out.trans (hb.mono HB.out.size)).trans (hal.mono (by have h1 := HB.out.size; have h2 := hb.size; omega))); have n0 := cell_whole HNT.out 0; have n1 := cell_whole HNT.out 1; have n2 := cell_whole HNT.out 2; have HGS : Hid (w.heap.size ≤ wr.heap.size) := Lib.hid (by have h1 := HB.out.size; have h2 := hb.size; have h3 := lt_whole HX.out; omega); clear hz hb hal)
    | (go_at_call 11; refine (pmost_G hold za zc Z N i j ((H : Int)) _ HZ.out HZL.out HA0.out).mono ?_; rintro e wn ⟨m0, rfl, hm, hb⟩; have HM0 := Lib.hid hm; have HZ := Lib.hid (HZ.out.below' hb); have hn := kept_box HNT.out hb; have HNT := Lib.hid hn; have n0 := cell_whole hn 0; have n1 := cell_whole hn 1; have n2 := cell_whole hn 2; have HB := Lib.hid (HB.out.trans (hb.mono HB.out.size)); clear hb hm hn HA0)
    | (go_at_call 11; refine (pmost_G hold za zc Z N i j ((H : Int) + 1) _ HZ.out HZL.out HA1.out).mono ?_; rintro e wn ⟨m1, rfl, hm, hb⟩; have HM1 := Lib.hid hm; have HZ := Lib.hid (HZ.out.below' hb); have hn := kept_box HNT.out hb; have HNT := Lib.hid hn; have n0 := cell_whole hn 0; have n1 := cell_whole hn 1; have n2 := cell_whole hn 2; have HB := Lib.hid (HB.out.trans (hb.mono HB.out.size)); clear hb hm hn HA1)
    | (go_at_call 11; refine (pmost_G hold za zc Z N i j ((H : Int) + 2) _ HZ.out HZL.out HA2.out).mono ?_; rintro e wn ⟨m2, rfl, hm, hb⟩; have HM2 := Lib.hid hm; have HZ := Lib.hid (HZ.out.below' hb); have hn := kept_box HNT.out hb; have HNT := Lib.hid hn; have n0 := cell_whole hn 0; have n1 := cell_whole hn 1; have n2 := cell_whole hn 2; have HB := Lib.hid (HB.out.trans (hb.mono HB.out.size)); clear hb hm hn HA2)
    | (go_at_call 12; refine (xmost_G hold za zc Z N i j _ HZ.out HZL.out HEN.out).mono ?_; rintro e wn ⟨top, rfl, hm, hb⟩; have HT := Lib.hid hm; have HTB := isMost_bd HEN.out hm; have HB := Lib.hid (HB.out.trans (hb.mono HB.out.size)); have hgr := best_grows (fun a ha => (HW.out.times a ha).1) (fun a ha => (HW.out.caps a ha).1) HW.out.lt hi (by omega) HM0.out HM1.out (by have h3 := HM2.out; rwa [show (H : Int) + 2 = (H : Int) + 1 + 1 by omega] at h3) hm; obtain ⟨g1, g2, g3⟩ := hgr; have v1 : IntKind.i64.wrap (m1 - m0) = m1 - m0 := IntWalk.i64_in _ (by omega); have v2 : IntKind.i64.wrap (m2 - m1) = m2 - m1 := IntWalk.i64_in _ (by omega); clear hb hm))
  go_ret
  exact ⟨by simp, HB.out⟩
end Go.Proofs.Ytekcnglkfglbfaa
