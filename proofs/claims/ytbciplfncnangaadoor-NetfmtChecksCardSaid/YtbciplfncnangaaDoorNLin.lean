/- The program's addLine: the network with what a line's words add to it. -/
import Derived.Test.YtbciplfncnangaaDoorNHd
namespace Go.Proofs.YtbciplfncnangaaDoor
open Go.RowKit Go.Shelf
set_option linter.unusedVariables false

theorem lst_tail {w : World} {bb o : Nat} {a b c d e : List UInt8} (hl : Lst strV w (some ⟨bb, o, none⟩) [a, b, c, d, e]) : Lst strV w (some ⟨bb, o + 1, none⟩) [b, c, d, e] := by
  intro i hi
  obtain ⟨b', o', e', hb', hc'⟩ := hl (i + 1) (by simp at hi ⊢; omega)
  cases e'
  refine ⟨bb, o + 1, rfl, hb', ?_⟩
  rw [show o + 1 + i = o + (i + 1) by omega, hc']; rfl
theorem addarc_any (n : Int) (h : Bool) (va : Option Addr) (vc : Nat) (Z : List ArcT) (ao : Option Addr) (cap B : Nat) (a b c d e : List UInt8) (w : World) (hO : w.ownsRow B 37 4 (.slice va Z.length vc) Z.length (Z.flatMap encA)) (hB : B ≤ w.heap.size) (hZ : Z.length ≤ 200)
    (hl : Lst strV w ao [a, b, c, d, e]) (hcap : 5 ≤ cap) (hok : OkS [b, c, d, e]) (hy : arcLineB [a, b, c, d, e] = true) :
    Calls Tryd.prog 49 #[.agg #[.int .i64 n, .bool h, .slice va Z.length vc], .slice ao 5 cap] w (AddRes B (.slice va Z.length vc) (tailL (n, h, Z) [a, b, c, d, e]) w) := by
  rw [tailL_yes hy]
  obtain ⟨bb, o, rfl, hbb, h1⟩ := lst_cell (i := 0) hl rfl
  have hl4 := lst_tail hl
  by_cases he : errOf [b, c, d, e] = 0
  · rw [if_pos he]
    by_cases ha : arcE n (arcOf b c d e) = 0
    · rw [if_pos ha]
      by_cases hm : 200 ≤ Z.length
      · rw [if_pos hm]; exact addarc_many n h va vc bb o cap B Z _ _ _ _ _ w hO hB hZ hl4 rfl hcap hok he rfl ha hm
      · rw [if_neg hm]; exact addarc_fit n h va vc bb o cap B Z _ _ _ _ _ w hO hB hZ hl4 rfl hcap hok he rfl ha hm
    · rw [if_neg ha]; exact addarc_big n h va vc bb o cap B Z _ _ _ _ _ _ w hO hB hZ hl4 rfl hcap hok he rfl rfl ha
  · rw [if_neg he]; exact addarc_bad n h va _ vc bb o cap B _ w hB hl4 rfl hcap hok he
/-- The document's Tail: as addArc, but for what is told with an error. -/
def TailRes (B : Nat) (v : Value) (r : NetT × Int) (w : World) (en : Ending) (w' : World) : Prop := (r.2 = 0 ∧ AddRes B v r w en w') ∨ (r.2 ≠ 0 ∧ TailBad r.2 w en w')
theorem rtail_any (n : Int) (h : Bool) (va : Option Addr) (vc : Nat) (Z : List ArcT) (ao : Option Addr) (cap B : Nat) (A : List (List UInt8)) (w : World) (hO : w.ownsRow B 37 4 (.slice va Z.length vc) Z.length (Z.flatMap encA)) (hB : B ≤ w.heap.size) (hZ : Z.length ≤ 200)
    (hl : Lst strV w ao A) (hcap : A.length ≤ cap) (hm : A.length ≤ 1099511627776) (hok : OkS A) :
    Calls Tryd.prog 36 #[.agg #[.int .i64 n, .bool h, .slice va Z.length vc], .slice ao A.length cap] w (TailRes B (.slice va Z.length vc) (tailL (n, h, Z) A) w) := by
  rcases hy : arcLineB A with _ | _
  · rw [tailL_no hy]
    exact (rtail_no n h va _ vc ao cap B A w hB hl hm hy).mono fun e w' hr => .inr ⟨by decide, hr⟩
  · obtain ⟨a, b, c, d, e, rfl⟩ := arcLine_five hy
    rw [tailL_yes hy]
    obtain ⟨bb, o, rfl, hbb, h1⟩ := lst_cell (i := 0) hl rfl
    have hl4 := lst_tail hl
    have ha0 : a = [97, 114, 99] := by unfold arcLineB arcB at hy; simpa using hy
    rw [Nat.add_zero, ha0] at h1
    have hok4 : OkS [b, c, d, e] := fun x hx => hok x (by simp at hx ⊢; exact .inr hx)
    by_cases he : errOf [b, c, d, e] = 0
    · rw [if_pos he]
      by_cases ha : arcE n (arcOf b c d e) = 0
      · rw [if_pos ha]
        by_cases hm : 200 ≤ Z.length
        · rw [if_pos hm]; exact (rtail_many n h va vc bb o cap B Z _ _ _ _ _ w hO hB hZ hl4 rfl hcap hok4 he rfl ha hm h1).mono fun _ _ hr => .inr ⟨(by decide : (2 : Int) ≠ 0), hr⟩
        · rw [if_neg hm]; exact (rtail_fit n h va vc bb o cap B Z _ _ _ _ _ w hO hB hZ hl4 rfl hcap hok4 he rfl ha hm h1).mono fun _ _ hr => .inl ⟨rfl, hr⟩
      · rw [if_neg ha]; exact (rtail_big n h va vc bb o cap B Z _ _ _ _ _ _ w hO hB hZ hl4 rfl hcap hok4 he rfl rfl ha h1).mono fun _ _ hr => .inr ⟨ha, hr⟩
    · rw [if_neg he]; exact (rtail_bad n h va _ vc bb o cap B _ w hB hl4 rfl hcap hok4 he h1).mono fun _ _ hr => .inr ⟨he, hr⟩
theorem headL_nil (A : List (List UInt8)) : (headL A).1.2.2 = [] := by
  unfold headL
  split
  · split
    · split
      · split <;> rfl
      · rfl
    · rfl
  · rfl
theorem rhead_any (ao : Option Addr) (cap : Nat) (A : List (List UInt8)) (w : World) (hl : Lst strV w ao A) (hm : A.length ≤ 1099511627776) (hok : OkS A) :
    Calls Tryd.prog 37 #[.slice ao A.length cap] w fun e w' => e = .returned (.tuple #[netV (headL A).1 (.slice none 0 0), .int .i64 (headL A).2]) ∧ Below w.heap.size w w' := by
  rcases hy : netLineB A with _ | _
  · rw [headL_no hy]; exact rhead_no ao cap A w hl hm hy
  · obtain ⟨a, b, c, rfl⟩ := netLine_three hy
    exact rhead_yes ao cap a b c w hl (hok b (by simp)) hy
theorem isbegun_is (n : Int) (b : Bool) (ao : Option Addr) (len cap : Nat) (r : Bool) (w : World) (h : decide (0 < n) = r) : Calls Tryd.prog 33 #[.agg #[.int .i64 n, .bool b, .slice ao len cap]] w fun e w' => e = .returned (.bool r) ∧ Below w.heap.size w w' := by
  subst h; exact isbegun_any n b ao len cap w
theorem isign_is (ao : Option Addr) (cap : Nat) (A : List (List UInt8)) (r : Bool) (w : World) (hl : Lst strV w ao A) (hm : A.length ≤ 1099511627776) (h : idleB A = r) :
    Calls Tryd.prog 45 #[.slice ao A.length cap] w fun e w' => e = .returned (.bool r) ∧ w = w' := by subst h; exact isign_any ao cap A w hl hm
theorem isarc_is (ao : Option Addr) (cap : Nat) (A : List (List UInt8)) (r : Bool) (w : World) (hl : Lst strV w ao A) (hm : A.length ≤ 1099511627776) (h : arcLineB A = r) :
    Calls Tryd.prog 48 #[.slice ao A.length cap] w fun e w' => e = .returned (.bool r) ∧ w = w' := by subst h; exact isarc_any ao cap A w hl hm
theorem isnet_is (ao : Option Addr) (cap : Nat) (A : List (List UInt8)) (r : Bool) (w : World) (hl : Lst strV w ao A) (hm : A.length ≤ 1099511627776) (h : netLineB A = r) :
    Calls Tryd.prog 46 #[.slice ao A.length cap] w fun e w' => e = .returned (.bool r) ∧ w = w' := by subst h; exact isnet_any ao cap A w hl hm
set_option maxRecDepth 100000 in
set_option maxHeartbeats 4000000 in
theorem addline_idle (n : Int) (h : Bool) (va : Option Addr) (vc : Nat) (Z : List ArcT) (ao : Option Addr) (cap B : Nat) (A : List (List UInt8)) (w : World) (hO : w.ownsRow B 37 4 (.slice va Z.length vc) Z.length (Z.flatMap encA)) (hB : B ≤ w.heap.size)
    (hl : Lst strV w ao A) (hm : A.length ≤ 1099511627776) (hi : idleB A = true) :
    Calls Tryd.prog 31 #[.agg #[.int .i64 n, .bool h, .slice va Z.length vc], .slice ao A.length cap] w (AddRes B (.slice va Z.length vc) ((n, h, Z), 0) w) := by
  have hB0 := ((Below.refl w.heap.size w).alloc (Nat.le_refl _) (.cells #[.int .i64 n, .bool h, .slice va Z.length vc] 24)).alloc (by simp) (.cells #[.int .i64 0, .bool false, .slice none 0 0] 24)
  have HL := Lib.hid (hl.below hB0)
  have HI := Lib.hid hi
  have HO := Lib.hid hO
  clear hB0 hl hi hO
  generalize hg : A.length = len at *
  have HG := Lib.hid hg
  have K1 : Hid (∀ W, Lst strV W ao A → Calls Tryd.prog 45 #[.slice ao len cap] W fun e w' => e = .returned (.bool true) ∧ W = w') := Lib.hid (fun W hW => by have := isign_is ao cap A true W hW (by omega) HI.out; rwa [hg] at this)
  clear hg
  go_enter Tryd.func31, Tryd.ntmps31
  go_wp2_with (go_at_call 45; refine (K1.out _ HL.out).mono ?_; rintro e w' ⟨rfl, rfl⟩)
  refine bodyPost_ret (v := .tuple #[.agg #[.int .i64 n, .bool h, .slice va Z.length vc], .int .i64 0]) (by simp [results, Tryd.results31, go_sem]) rfl ⟨_, rfl, (HO.out.alloc _).alloc _, ((Kept.refl _ w).alloc _).alloc _⟩
set_option maxRecDepth 100000 in
set_option maxHeartbeats 4000000 in
theorem addline_noarc (n : Int) (h : Bool) (va : Option Addr) (vc : Nat) (Z : List ArcT) (ao : Option Addr) (cap B : Nat) (A : List (List UInt8)) (w : World) (hO : w.ownsRow B 37 4 (.slice va Z.length vc) Z.length (Z.flatMap encA)) (hB : B ≤ w.heap.size) (hZ : Z.length ≤ 200)
    (hl : Lst strV w ao A) (hcap : A.length ≤ cap) (hm : A.length ≤ 1099511627776) (hok : OkS A) (hi : idleB A = false) (hp : 0 < n) (hy : arcLineB A = false) :
    Calls Tryd.prog 31 #[.agg #[.int .i64 n, .bool h, .slice va Z.length vc], .slice ao A.length cap] w (AddRes B (.slice va Z.length vc) (zeroN, 50) w) := by
  have hB0 := ((Below.refl w.heap.size w).alloc (Nat.le_refl _) (.cells #[.int .i64 n, .bool h, .slice va Z.length vc] 24)).alloc (by simp) (.cells #[.int .i64 0, .bool false, .slice none 0 0] 24)
  have HB := Lib.hid hB0
  have HL := Lib.hid (hl.below hB0)
  have HO := Lib.hid (own_below hO hB0)
  have HW := Lib.hid (new_whole1 w (.cells #[.int .i64 n, .bool h, .slice va Z.length vc] 24) (.cells #[.int .i64 0, .bool false, .slice none 0 0] 24))
  have HG := Lib.hid (alloc_whole (heap_alloc_new w (.cells #[.int .i64 n, .bool h, .slice va Z.length vc] 24)) (.cells #[.int .i64 0, .bool false, .slice none 0 0] 24))
  have HP : Hid (decide (0 < n) = true) := Lib.hid (decide_eq_true hp)
  have K1 : Hid (∀ W, Lst strV W ao A → Calls Tryd.prog 45 #[.slice ao A.length cap] W fun e w' => e = .returned (.bool false) ∧ W = w') := Lib.hid (fun W hW => isign_is ao cap A false W hW hm hi)
  have K2 : Hid (∀ W, Lst strV W ao A → Calls Tryd.prog 48 #[.slice ao A.length cap] W fun e w' => e = .returned (.bool false) ∧ W = w') := Lib.hid (fun W hW => isarc_is ao cap A false W hW hm hy)
  generalize A.length = len at *
  clear hB0 hl hi hO hok hp hy
  go_enter Tryd.func31, Tryd.ntmps31
  go_wp2_with (go_at_call 45; refine (K1.out _ HL.out).mono ?_; rintro e w' ⟨rfl, rfl⟩; refine Hid.out ?_)
  refine Lib.hid ?_
  generalize (w.alloc (.cells #[.int .i64 n, .bool h, .slice va Z.length vc] 24)).alloc (.cells #[.int .i64 0, .bool false, .slice none 0 0] 24) = w1 at *
  obtain ⟨c0, c1, c2, _, _, _⟩ := netCells HG.out
  go_wp2_with (first
    | (go_at_call 33; refine (isbegun_is n h _ _ _ true _ HP.out).mono ?_; rintro e wb ⟨rfl, b2⟩; have HB := Lib.hid (HB.out.trans (b2.mono HB.out.size)); have HL := Lib.hid (HL.out.below b2); have HO := Lib.hid (own_below HO.out b2); have HW := Lib.hid ((b2.block _ (lt_whole HW.out)).trans HW.out); have HG := Lib.hid ((b2.block _ (lt_whole HG.out)).trans HG.out); clear b2 c0 c1 c2; obtain ⟨c0, c1, c2, _, _, _⟩ := netCells HG.out; obtain ⟨d0, d1, d2, f0, f1, f2⟩ := netCells HW.out)
    | (go_at_call 48; refine (K2.out _ HL.out).mono ?_; rintro e w' ⟨rfl, rfl⟩))
  obtain ⟨q, hBq⟩ := netSet HW.out HB.out (by omega) (.int .i64 0) (.bool false) (.slice none 0 0)
  generalize World.setCell (World.setCell (World.setCell _ _ _) _ _) _ _ = W at *
  obtain ⟨k0, k1, k2, _, _, _⟩ := netCells q
  refine bodyPost_ret (v := .tuple #[.agg #[.int .i64 0, .bool false, .slice none 0 0], .int .i64 50]) (by simp [results, Tryd.results31, go_sem, k0, k1, k2]) rfl (addRes_zero hBq)
set_option maxRecDepth 100000 in
set_option maxHeartbeats 4000000 in
theorem addline_nonet (n : Int) (h : Bool) (va : Option Addr) (vc : Nat) (Z : List ArcT) (ao : Option Addr) (cap B : Nat) (A : List (List UInt8)) (w : World) (hO : w.ownsRow B 37 4 (.slice va Z.length vc) Z.length (Z.flatMap encA)) (hB : B ≤ w.heap.size) (hZ : Z.length ≤ 200)
    (hl : Lst strV w ao A) (hcap : A.length ≤ cap) (hm : A.length ≤ 1099511627776) (hok : OkS A) (hi : idleB A = false) (hp : ¬ 0 < n) (hy : netLineB A = false) :
    Calls Tryd.prog 31 #[.agg #[.int .i64 n, .bool h, .slice va Z.length vc], .slice ao A.length cap] w (AddRes B (.slice va Z.length vc) (zeroN, 50) w) := by
  have hB0 := ((Below.refl w.heap.size w).alloc (Nat.le_refl _) (.cells #[.int .i64 n, .bool h, .slice va Z.length vc] 24)).alloc (by simp) (.cells #[.int .i64 0, .bool false, .slice none 0 0] 24)
  have HB := Lib.hid hB0
  have HL := Lib.hid (hl.below hB0)
  have HO := Lib.hid (own_below hO hB0)
  have HW := Lib.hid (new_whole1 w (.cells #[.int .i64 n, .bool h, .slice va Z.length vc] 24) (.cells #[.int .i64 0, .bool false, .slice none 0 0] 24))
  have HG := Lib.hid (alloc_whole (heap_alloc_new w (.cells #[.int .i64 n, .bool h, .slice va Z.length vc] 24)) (.cells #[.int .i64 0, .bool false, .slice none 0 0] 24))
  have HP : Hid (decide (0 < n) = false) := Lib.hid (decide_eq_false hp)
  have K1 : Hid (∀ W, Lst strV W ao A → Calls Tryd.prog 45 #[.slice ao A.length cap] W fun e w' => e = .returned (.bool false) ∧ W = w') := Lib.hid (fun W hW => isign_is ao cap A false W hW hm hi)
  have K2 : Hid (∀ W, Lst strV W ao A → Calls Tryd.prog 46 #[.slice ao A.length cap] W fun e w' => e = .returned (.bool false) ∧ W = w') := Lib.hid (fun W hW => isnet_is ao cap A false W hW hm hy)
  generalize A.length = len at *
  clear hB0 hl hi hO hok hp hy
  go_enter Tryd.func31, Tryd.ntmps31
  go_wp2_with (go_at_call 45; refine (K1.out _ HL.out).mono ?_; rintro e w' ⟨rfl, rfl⟩; refine Hid.out ?_)
  refine Lib.hid ?_
  generalize (w.alloc (.cells #[.int .i64 n, .bool h, .slice va Z.length vc] 24)).alloc (.cells #[.int .i64 0, .bool false, .slice none 0 0] 24) = w1 at *
  obtain ⟨c0, c1, c2, _, _, _⟩ := netCells HG.out
  go_wp2_with (first
    | (go_at_call 33; refine (isbegun_is n h _ _ _ false _ HP.out).mono ?_; rintro e wb ⟨rfl, b2⟩; have HB := Lib.hid (HB.out.trans (b2.mono HB.out.size)); have HL := Lib.hid (HL.out.below b2); have HO := Lib.hid (own_below HO.out b2); have HW := Lib.hid ((b2.block _ (lt_whole HW.out)).trans HW.out); have HG := Lib.hid ((b2.block _ (lt_whole HG.out)).trans HG.out); clear b2 c0 c1 c2; obtain ⟨c0, c1, c2, _, _, _⟩ := netCells HG.out; obtain ⟨d0, d1, d2, f0, f1, f2⟩ := netCells HW.out)
    | (go_at_call 46; refine (K2.out _ HL.out).mono ?_; rintro e w' ⟨rfl, rfl⟩))
  obtain ⟨q, hBq⟩ := netSet HW.out HB.out (by omega) (.int .i64 0) (.bool false) (.slice none 0 0)
  generalize World.setCell (World.setCell (World.setCell _ _ _) _ _) _ _ = W at *
  obtain ⟨k0, k1, k2, _, _, _⟩ := netCells q
  refine bodyPost_ret (v := .tuple #[.agg #[.int .i64 0, .bool false, .slice none 0 0], .int .i64 50]) (by simp [results, Tryd.results31, go_sem, k0, k1, k2]) rfl (addRes_zero hBq)
set_option maxRecDepth 100000 in
set_option maxHeartbeats 4000000 in
theorem addline_net (n : Int) (h : Bool) (va : Option Addr) (vc : Nat) (Z : List ArcT) (ao : Option Addr) (cap B : Nat) (A : List (List UInt8)) (w : World) (hO : w.ownsRow B 37 4 (.slice va Z.length vc) Z.length (Z.flatMap encA)) (hB : B ≤ w.heap.size) (hZ : Z.length ≤ 200)
    (hl : Lst strV w ao A) (hcap : A.length ≤ cap) (hm : A.length ≤ 1099511627776) (hok : OkS A) (hi : idleB A = false) (hp : ¬ 0 < n) (hy : netLineB A = true) :
    Calls Tryd.prog 31 #[.agg #[.int .i64 n, .bool h, .slice va Z.length vc], .slice ao A.length cap] w (AddRes B (.slice va Z.length vc) (headL A) w) := by
  have hB0 := ((Below.refl w.heap.size w).alloc (Nat.le_refl _) (.cells #[.int .i64 n, .bool h, .slice va Z.length vc] 24)).alloc (by simp) (.cells #[.int .i64 0, .bool false, .slice none 0 0] 24)
  have HB := Lib.hid hB0
  have HL := Lib.hid (hl.below hB0)
  have HO := Lib.hid (own_below hO hB0)
  have HW := Lib.hid (new_whole1 w (.cells #[.int .i64 n, .bool h, .slice va Z.length vc] 24) (.cells #[.int .i64 0, .bool false, .slice none 0 0] 24))
  have HG := Lib.hid (alloc_whole (heap_alloc_new w (.cells #[.int .i64 n, .bool h, .slice va Z.length vc] 24)) (.cells #[.int .i64 0, .bool false, .slice none 0 0] 24))
  have HP : Hid (decide (0 < n) = false) := Lib.hid (decide_eq_false hp)
  have K1 : Hid (∀ W, Lst strV W ao A → Calls Tryd.prog 45 #[.slice ao A.length cap] W fun e w' => e = .returned (.bool false) ∧ W = w') := Lib.hid (fun W hW => isign_is ao cap A false W hW hm hi)
  have K2 : Hid (∀ W, Lst strV W ao A → Calls Tryd.prog 46 #[.slice ao A.length cap] W fun e w' => e = .returned (.bool true) ∧ W = w') := Lib.hid (fun W hW => isnet_is ao cap A true W hW hm hy)
  have K3 : Hid (∀ W, Lst strV W ao A → W.ownsRow w.heap.size 37 4 (.slice none 0 0) 0 [] → Calls Tryd.prog 47 #[.slice ao A.length cap] W fun e w' => e = .returned (.tuple #[.agg #[.int .i64 (headL A).1.1, .bool (headL A).1.2.1, .slice none 0 0], .int .i64 (headL A).2]) ∧ Below W.heap.size W w') := Lib.hid (fun W hW _ => by
    obtain ⟨a, b, c, rfl⟩ := netLine_three hy
    exact begin_any ao cap a b c W hW (hok b (by simp)) hy)
  have HN := Lib.hid (headL_nil A)
  generalize headL A = r at *
  generalize A.length = len at *
  clear hB0 hl hi hO hok hp hy
  go_enter Tryd.func31, Tryd.ntmps31
  go_wp2_with (go_at_call 45; refine (K1.out _ HL.out).mono ?_; rintro e w' ⟨rfl, rfl⟩; refine Hid.out ?_)
  refine Lib.hid ?_
  generalize (w.alloc (.cells #[.int .i64 n, .bool h, .slice va Z.length vc] 24)).alloc (.cells #[.int .i64 0, .bool false, .slice none 0 0] 24) = w1 at *
  obtain ⟨c0, c1, c2, _, _, _⟩ := netCells HG.out
  go_wp2_with (first
    | (go_at_call 33; refine (isbegun_is n h _ _ _ false _ HP.out).mono ?_; rintro e wb ⟨rfl, b2⟩; have HB := Lib.hid (HB.out.trans (b2.mono HB.out.size)); have HL := Lib.hid (HL.out.below b2); have HO := Lib.hid (own_below HO.out b2); have HW := Lib.hid ((b2.block _ (lt_whole HW.out)).trans HW.out); have HG := Lib.hid ((b2.block _ (lt_whole HG.out)).trans HG.out); clear b2 c0 c1 c2; obtain ⟨c0, c1, c2, _, _, _⟩ := netCells HG.out; obtain ⟨d0, d1, d2, f0, f1, f2⟩ := netCells HW.out)
    | (go_at_call 46; refine (K2.out _ HL.out).mono ?_; rintro e w' ⟨rfl, rfl⟩)
    | (go_at_call 47; refine (K3.out _ HL.out (World.ownsRow_nil _ _ _ _)).mono ?_; rintro e wn ⟨rfl, b3⟩; have HB := Lib.hid (HB.out.trans (b3.mono HB.out.size)); have HW := Lib.hid ((b3.block _ (lt_whole HW.out)).trans HW.out); clear b3 d0 d1 d2 f0 f1 f2; obtain ⟨d0, d1, d2, f0, f1, f2⟩ := netCells HW.out))
  obtain ⟨q, hBq⟩ := netSet HW.out HB.out (by omega) (.int .i64 r.1.1) (.bool r.1.2.1) (.slice none 0 0)
  generalize World.setCell (World.setCell (World.setCell _ _ _) _ _) _ _ = W at *
  obtain ⟨k0, k1, k2, _, _, _⟩ := netCells q
  refine bodyPost_ret (v := .tuple #[.agg #[.int .i64 r.1.1, .bool r.1.2.1, .slice none 0 0], .int .i64 r.2]) (by simp [results, Tryd.results31, go_sem, k0, k1, k2]) rfl ⟨_, rfl, ?_, Kept.of_below hBq⟩
  rw [HN.out]; exact World.ownsRow_nil _ _ _ _
set_option maxRecDepth 100000 in
set_option maxHeartbeats 4000000 in
theorem addline_arc (n : Int) (h : Bool) (va : Option Addr) (vc : Nat) (Z : List ArcT) (ao : Option Addr) (cap B : Nat) (A : List (List UInt8)) (w : World) (hO : w.ownsRow B 37 4 (.slice va Z.length vc) Z.length (Z.flatMap encA)) (hB : B ≤ w.heap.size) (hZ : Z.length ≤ 200)
    (hl : Lst strV w ao A) (hcap : A.length ≤ cap) (hm : A.length ≤ 1099511627776) (hok : OkS A) (hi : idleB A = false) (hp : 0 < n) (hy : arcLineB A = true) :
    Calls Tryd.prog 31 #[.agg #[.int .i64 n, .bool h, .slice va Z.length vc], .slice ao A.length cap] w (AddRes B (.slice va Z.length vc) (tailL (n, h, Z) A) w) := by
  have hB0 := ((Below.refl w.heap.size w).alloc (Nat.le_refl _) (.cells #[.int .i64 n, .bool h, .slice va Z.length vc] 24)).alloc (by simp) (.cells #[.int .i64 0, .bool false, .slice none 0 0] 24)
  have HB := Lib.hid hB0
  have HL := Lib.hid (hl.below hB0)
  have HO := Lib.hid (own_below hO hB0)
  have HW := Lib.hid (new_whole1 w (.cells #[.int .i64 n, .bool h, .slice va Z.length vc] 24) (.cells #[.int .i64 0, .bool false, .slice none 0 0] 24))
  have HG := Lib.hid (alloc_whole (heap_alloc_new w (.cells #[.int .i64 n, .bool h, .slice va Z.length vc] 24)) (.cells #[.int .i64 0, .bool false, .slice none 0 0] 24))
  have HP : Hid (decide (0 < n) = true) := Lib.hid (decide_eq_true hp)
  have K1 : Hid (∀ W, Lst strV W ao A → Calls Tryd.prog 45 #[.slice ao A.length cap] W fun e w' => e = .returned (.bool false) ∧ W = w') := Lib.hid (fun W hW => isign_is ao cap A false W hW hm hi)
  have K2 : Hid (∀ W, Lst strV W ao A → Calls Tryd.prog 48 #[.slice ao A.length cap] W fun e w' => e = .returned (.bool true) ∧ W = w') := Lib.hid (fun W hW => isarc_is ao cap A true W hW hm hy)
  have K3 : Hid (∀ W, Lst strV W ao A → W.ownsRow B 37 4 (.slice va Z.length vc) Z.length (Z.flatMap encA) → B ≤ W.heap.size → Calls Tryd.prog 49 #[.agg #[.int .i64 n, .bool h, .slice va Z.length vc], .slice ao A.length cap] W (AddRes B (.slice va Z.length vc) (tailL (n, h, Z) A) W)) := Lib.hid (fun W hW hOW hBW => by
    obtain ⟨a, b, c, d, e, rfl⟩ := arcLine_five hy
    exact addarc_any n h va vc Z ao cap B a b c d e W hOW hBW hZ hW hcap (fun x hx => hok x (by simp at hx ⊢; exact .inr hx)) hy)
  generalize tailL (n, h, Z) A = r at *
  generalize A.length = len at *
  clear hB0 hl hi hO hok hp hy
  go_enter Tryd.func31, Tryd.ntmps31
  go_wp2_with (go_at_call 45; refine (K1.out _ HL.out).mono ?_; rintro e w' ⟨rfl, rfl⟩; refine Hid.out ?_)
  refine Lib.hid ?_
  generalize (w.alloc (.cells #[.int .i64 n, .bool h, .slice va Z.length vc] 24)).alloc (.cells #[.int .i64 0, .bool false, .slice none 0 0] 24) = w1 at *
  obtain ⟨c0, c1, c2, _, _, _⟩ := netCells HG.out
  go_wp2_with (first
    | (go_at_call 33; refine (isbegun_is n h _ _ _ true _ HP.out).mono ?_; rintro e wb ⟨rfl, b2⟩; have HB := Lib.hid (HB.out.trans (b2.mono HB.out.size)); have HL := Lib.hid (HL.out.below b2); have HO := Lib.hid (own_below HO.out b2); have HW := Lib.hid ((b2.block _ (lt_whole HW.out)).trans HW.out); have HG := Lib.hid ((b2.block _ (lt_whole HG.out)).trans HG.out); clear b2 c0 c1 c2; obtain ⟨c0, c1, c2, _, _, _⟩ := netCells HG.out; obtain ⟨d0, d1, d2, f0, f1, f2⟩ := netCells HW.out)
    | (go_at_call 48; refine (K2.out _ HL.out).mono ?_; rintro e w' ⟨rfl, rfl⟩)
    | (go_at_call 49; refine (K3.out _ HL.out HO.out (by have := HB.out.size; omega)).mono ?_; rintro e wn ⟨v3, rfl, o3, b3⟩; obtain ⟨va3, vc3, rfl, _⟩ := own_row encA_len o3; have HW := Lib.hid (b3.old HW.out (own_ne HO.out HW.out (by decide))); have HO := Lib.hid o3; have HBK := Lib.hid ((Kept.of_below (S := OwnB (.slice va Z.length vc)) HB.out).trans b3 (fun _ _ h => h)); clear b3 o3 d0 d1 d2 f0 f1 f2; obtain ⟨d0, d1, d2, f0, f1, f2⟩ := netCells HW.out; unfold netV))
  have q := net_set HW.out (.int .i64 r.1.1) (.bool r.1.2.1) (.slice va3 r.1.2.2.length vc3)
  have hBq := HBK.out.net (g := w.heap.size + 1) (.inr (by omega)) (.int .i64 r.1.1) (.bool r.1.2.1) (.slice va3 r.1.2.2.length vc3)
  have hO9 := own_net HO.out HW.out (by decide) (.int .i64 r.1.1) (.bool r.1.2.1) (.slice va3 r.1.2.2.length vc3)
  generalize World.setCell (World.setCell (World.setCell _ _ _) _ _) _ _ = W at *
  obtain ⟨k0, k1, k2, _, _, _⟩ := netCells q
  refine bodyPost_ret (v := .tuple #[.agg #[.int .i64 r.1.1,   .bool r.1.2.1, .slice va3 r.1.2.2.length vc3], .int .i64 r.2]) (by simp [results, Tryd.results31, go_sem, k0, k1, k2]) rfl ⟨_, rfl, hO9, hBq⟩
end Go.Proofs.YtbciplfncnangaaDoor
