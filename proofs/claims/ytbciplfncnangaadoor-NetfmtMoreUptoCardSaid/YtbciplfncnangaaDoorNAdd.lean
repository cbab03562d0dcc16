/- The program's addArc: the network with the arc of a line's words. -/
import Derived.Test.YtbciplfncnangaaDoorNBeg
namespace Go.Proofs.YtbciplfncnangaaDoor
open Go.RowKit Go.Shelf
set_option linter.unusedVariables false

theorem new_whole1 (w : World) (o p : Obj) : ((w.alloc o).alloc p).heap[w.heap.size + 1]? = some p := by
  have h := heap_alloc_new (w.alloc o) p
  rw [show (w.alloc o).heap.size = w.heap.size + 1 by simp] at h
  exact h
theorem alloc_whole {w : World} {g : Nat} {o : Obj} (h : w.heap[g]? = some o) (x : Obj) : (w.alloc x).heap[g]? = some o := (Below.heap_alloc w x g (Array.getElem?_eq_some_iff.1 h).1).trans h
/-- A row of arcs does not lie where another variable lies. -/
theorem own_ne {w : World} {B g : Nat} {e t : TypeId} {k : Nat} {v : Value} {n : Nat} {xs : List Value} {cs : Array Value} (h : w.ownsRow B e k v n xs) (hg : w.heap[g]? = some (.cells cs t (0, 0))) (hne : t ≠ e) : v.ownBlock ≠ some g := by
  rcases h.2 with ⟨rfl, _⟩ | ⟨g', cap, cur, rfl, h2, h3, _⟩
  · simp [Value.ownBlock]
  · intro he
    simp only [Value.ownBlock, Option.some.injEq] at he
    subst he
    rw [h3] at hg
    cases hg
    exact hne rfl
theorem own_set {w : World} {B g : Nat} {e t : TypeId} {k : Nat} {v : Value} {n : Nat} {xs : List Value} {cs : Array Value} (h : w.ownsRow B e k v n xs) (hg : w.heap[g]? = some (.cells cs t (0, 0))) (hne : t ≠ e) (j : Nat) (u : Value) : (w.setCell ⟨g, j, none⟩ u).ownsRow B e k v n xs := by
  have h0 := own_ne h hg hne
  refine ⟨h.1, ?_⟩
  rcases h.2 with h1 | ⟨g', cap, cur, rfl, h2, h3, h4⟩
  · exact .inl h1
  · refine .inr ⟨g', cap, cur, rfl, h2, ?_, h4⟩
    rw [Below.heap_setCell w ⟨g, j, none⟩ u g' (by intro he; apply h0; simp [Value.ownBlock]; exact he)]
    exact h3
theorem own_net {w : World} {B g : Nat} {e t : TypeId} {k : Nat} {v : Value} {n : Nat} {xs : List Value} {a b c : Value} (h : w.ownsRow B e k v n xs) (hg : w.heap[g]? = some (.cells #[a, b, c] t (0, 0))) (hne : t ≠ e) (x y z : Value) :
    (((w.setCell ⟨g, 0, none⟩ x).setCell ⟨g, 1, none⟩ y).setCell ⟨g, 2, none⟩ z).ownsRow B e k v n xs :=
  own_set (own_set (own_set h hg hne 0 x) (set_whole hg 0 x) hne 1 y) (set_whole (set_whole hg 0 x) 1 y) hne 2 z
theorem net_other {w : World} {g g' : Nat} {o : Option Obj} (h : w.heap[g']? = o) (hne : g' ≠ g) (x y z : Value) : (((w.setCell ⟨g, 0, none⟩ x).setCell ⟨g, 1, none⟩ y).setCell ⟨g, 2, none⟩ z).heap[g']? = o := by
  rw [Below.heap_setCell _ _ _ g' hne, Below.heap_setCell _ _ _ g' hne, Below.heap_setCell _ _ _ g' hne]; exact h
/-- All blocks but those of S are as they were; none has gone. -/
structure Kept (S : Nat → Prop) (w w' : World) : Prop where
  os : w'.os = w.os
  tape : w'.tape = w.tape
  output : w'.output = w.output
  size : w.heap.size ≤ w'.heap.size
  block : ∀ i, i < w.heap.size → ¬ S i → w'.heap[i]? = w.heap[i]?
theorem Kept.refl (S : Nat → Prop) (w : World) : Kept S w w := ⟨rfl, rfl, rfl, Nat.le_refl _, fun _ _ _ => rfl⟩
theorem Kept.trans {S T : Nat → Prop} {a b c : World} (h : Kept S a b) (k : Kept T b c) (hs : ∀ i, i < a.heap.size → T i → S i) : Kept S a c :=
  ⟨k.os.trans h.os, k.tape.trans h.tape, k.output.trans h.output, Nat.le_trans h.size k.size, fun i hi hn => (k.block i (Nat.lt_of_lt_of_le hi h.size) (fun ht => hn (hs i hi ht))).trans (h.block i hi hn)⟩
theorem Kept.mono {S T : Nat → Prop} {a b : World} (h : Kept S a b) (hs : ∀ i, i < a.heap.size → S i → T i) : Kept T a b :=
  ⟨h.os, h.tape, h.output, h.size, fun i hi hn => h.block i hi (fun k => hn (hs i hi k))⟩
theorem Kept.below {S : Nat → Prop} {a b : World} (h : Kept S a b) {B : Nat} (hB : B ≤ a.heap.size) (hs : ∀ i, S i → B ≤ i) : Below B a b :=
  ⟨h.os, h.tape, h.output, h.size, fun i hi => h.block i (by omega) (fun k => by have := hs i k; omega)⟩
theorem Kept.of_below {S : Nat → Prop} {a b : World} (h : Below a.heap.size a b) : Kept S a b := ⟨h.os, h.tape, h.output, h.size, fun i hi _ => h.block i hi⟩
theorem Kept.of_grown {S : Nat → Prop} {a b : World} {row : Option Nat} (h : a.grownBy b row) (hr : ∀ k, row = some k → S k) : Kept S a b :=
  ⟨h.os, h.tape, h.output, h.size, fun i hi hn => h.block i hi (fun e => hn (hr i e.symm))⟩
theorem Kept.alloc {S : Nat → Prop} {a b : World} (h : Kept S a b) (o : Obj) : Kept S a (b.alloc o) :=
  ⟨h.os, h.tape, h.output, Nat.le_trans h.size (by simp), fun i hi hn => (Below.heap_alloc b o i (Nat.lt_of_lt_of_le hi h.size)).trans (h.block i hi hn)⟩
theorem Kept.set {S : Nat → Prop} {a b : World} (h : Kept S a b) {g j : Nat} (hp : S g ∨ a.heap.size ≤ g) (u : Value) : Kept S a (b.setCell ⟨g, j, none⟩ u) :=
  ⟨h.os, h.tape, h.output, by simpa [World.setCell] using h.size, fun i hi hn => (Below.heap_setCell b ⟨g, j, none⟩ u i (by
    rintro rfl
    rcases hp with hp | hp
    · exact hn hp
    · omega)).trans (h.block i hi hn)⟩
theorem Kept.net {S : Nat → Prop} {a b : World} (h : Kept S a b) {g : Nat} (hp : S g ∨ a.heap.size ≤ g) (x y z : Value) : Kept S a (((b.setCell ⟨g, 0, none⟩ x).setCell ⟨g, 1, none⟩ y).setCell ⟨g, 2, none⟩ z) := ((h.set hp x).set hp y).set hp z
theorem Kept.old {S : Nat → Prop} {a b : World} (h : Kept S a b) {i : Nat} {o : Obj} (hi : a.heap[i]? = some o) (hn : ¬ S i) : b.heap[i]? = some o :=
  (h.block i (Array.getElem?_eq_some_iff.1 hi).1 hn).trans hi
theorem net_set {w : World} {g : Nat} {a b c : Value} {t : TypeId} (h : w.heap[g]? = some (.cells #[a, b, c] t (0, 0))) (x y z : Value) :
    (((w.setCell ⟨g, 0, none⟩ x).setCell ⟨g, 1, none⟩ y).setCell ⟨g, 2, none⟩ z).heap[g]? = some (.cells #[x, y, z] t (0, 0)) := set_whole (set_whole (set_whole h 0 x) 1 y) 2 z
/-- The block of a slice's row. -/
def OwnB (v : Value) (i : Nat) : Prop := v.ownBlock = some i
/-- What comes of a line: the network, the error; the arcs are the call's own; nothing that was there is turned but for their row. -/
def AddRes (B : Nat) (v : Value) (r : NetT × Int) (w : World) (en : Ending) (w' : World) : Prop :=
  ∃ v', en = .returned (.tuple #[netV r.1 v', .int .i64 r.2]) ∧ w'.ownsRow B 37 4 v' r.1.2.2.length (r.1.2.2.flatMap encA) ∧ Kept (OwnB v) w w'
theorem addRes_zero {B : Nat} {v : Value} {e : Int} {w w' : World} (hb : Below w.heap.size w w') : AddRes B v (zeroN, e) w (.returned (.tuple #[.agg #[.int .i64 0, .bool false, .slice none 0 0], .int .i64 e])) w' :=
  ⟨.slice none 0 0, rfl, World.ownsRow_nil _ _ _ _, Kept.of_below hb⟩
set_option maxRecDepth 100000 in
set_option maxHeartbeats 4000000 in
theorem addarc_bad (n : Int) (h : Bool) (va : Option Addr) (vl vc bb o cap B : Nat) (A : List (List UInt8)) (w : World) (hB : B ≤ w.heap.size)
    (hl4 : Lst strV w (some ⟨bb, o + 1, none⟩) A) (hA : A.length = 4) (hcap : 5 ≤ cap) (hok : OkS A) (he : errOf A ≠ 0) :
    Calls Tryd.prog 49 #[.agg #[.int .i64 n, .bool h, .slice va vl vc], .slice (some ⟨bb, o, none⟩) 5 cap] w (AddRes B (.slice va vl vc) (zeroN, errOf A) w) := by
  have hB0 := ((Below.refl w.heap.size w).alloc (Nat.le_refl _) (.cells #[.int .i64 n, .bool h, .slice va vl vc] 24)).alloc (by simp) (.cells #[.int .i64 0, .bool false, .slice none 0 0] 24)
  have HB0 := Lib.hid hB0
  have HL4 := Lib.hid (hl4.below hB0)
  have HK := Lib.hid hok
  have HE := Lib.hid he
  have HC : Hid (∀ W c, Lst strV W (some ⟨bb, o + 1, none⟩) A → Calls Tryd.prog 58 #[.slice (some ⟨bb, o + 1, none⟩) 4 c] W (NumsRes A W)) := Lib.hid (fun W c hL => by
    have := numbers_any (some ⟨bb, o + 1, none⟩) c A W hL hok (by omega)
    rwa [hA] at this)
  have hf2 : (errOf A != 0) = true := by simpa using he
  have hf1 : (errOf A == 0) = false := by simpa using he
  have HW := Lib.hid (new_whole1 w (.cells #[.int .i64 n, .bool h, .slice va vl vc] 24) (.cells #[.int .i64 0, .bool false, .slice none 0 0] 24))
  clear hl4 hok he hB0
  go_enter Tryd.func49, Tryd.ntmps49
  go_wp2_with (first
    | (go_at_call 58; refine (HC.out _ _ HL4.out).mono ?_; rintro e w2 hr; obtain ⟨b2, rfl⟩ := NumsRes.bad hr HE.out; clear hr; have hW2 := (b2.block _ (lt_whole HW.out)).trans HW.out; have HW2 := Lib.hid hW2; obtain ⟨d0, d1, d2, f0, f1, f2⟩ := netCells hW2; have HB2 := Lib.hid (HB0.out.trans (b2.mono HB0.out.size)); clear b2 hW2))
  obtain ⟨q, hBq⟩ := netSet HW2.out HB2.out (by omega) (.int .i64 0) (.bool false) (.slice none 0 0)
  generalize World.setCell (World.setCell (World.setCell _ _ _) _ _) _ _ = W at *
  obtain ⟨k0, k1, k2, _, _, _⟩ := netCells q
  refine bodyPost_ret (v := .tuple #[.agg #[.int .i64 0, .bool false, .slice none 0 0], .int .i64 (errOf A)]) (by simp [results, Tryd.results49, go_sem, k0, k1, k2]) rfl (addRes_zero hBq)
set_option maxRecDepth 100000 in
set_option maxHeartbeats 4000000 in
theorem addarc_big (n : Int) (h : Bool) (va : Option Addr) (vc bb o cap B : Nat) (Z : List ArcT) (A : List (List UInt8)) (x y u t : Int) (e0 : Int) (w : World) (hO : w.ownsRow B 37 4 (.slice va Z.length vc) Z.length (Z.flatMap encA)) (hB : B ≤ w.heap.size) (hZ : Z.length ≤ 200)
    (hl4 : Lst strV w (some ⟨bb, o + 1, none⟩) A) (hA : A.length = 4) (hcap : 5 ≤ cap) (hok : OkS A) (he : errOf A = 0) (hv : valsOf A = [x, y, u, t]) (ha : arcE n (x, y, u, t) = e0) (hne : e0 ≠ 0) :
    Calls Tryd.prog 49 #[.agg #[.int .i64 n, .bool h, .slice va Z.length vc], .slice (some ⟨bb, o, none⟩) 5 cap] w (AddRes B (.slice va Z.length vc) (zeroN, e0) w) := by
  have hB0 := ((Below.refl w.heap.size w).alloc (Nat.le_refl _) (.cells #[.int .i64 n, .bool h, .slice va Z.length vc] 24)).alloc (by simp) (.cells #[.int .i64 0, .bool false, .slice none 0 0] 24)
  have HO0 := Lib.hid (own_below hO hB0)
  have HB0 := Lib.hid hB0
  have HL4 := Lib.hid (hl4.below hB0)
  have HE := Lib.hid he
  have HV := Lib.hid hv
  have HAE := Lib.hid ha
  have HC : Hid (∀ W c, Lst strV W (some ⟨bb, o + 1, none⟩) A → Calls Tryd.prog 58 #[.slice (some ⟨bb, o + 1, none⟩) 4 c] W (NumsRes A W)) := Lib.hid (fun W c hL => by
    have := numbers_any (some ⟨bb, o + 1, none⟩) c A W hL hok (by omega)
    rwa [hA] at this)
  have HW := Lib.hid (new_whole1 w (.cells #[.int .i64 n, .bool h, .slice va Z.length vc] 24) (.cells #[.int .i64 0, .bool false, .slice none 0 0] 24))
  have HG := Lib.hid (alloc_whole (heap_alloc_new w (.cells #[.int .i64 n, .bool h, .slice va Z.length vc] 24)) (.cells #[.int .i64 0, .bool false, .slice none 0 0] 24))
  have hf2 : (e0 != 0) = true := by simpa using hne
  have hf1 : (e0 == 0) = false := by simpa using hne
  clear hl4 hok he hB0 hO hv ha
  go_enter Tryd.func49, Tryd.ntmps49
  go_wp2_with (first
    | (go_at_call 58; refine (HC.out _ _ HL4.out).mono ?_; rintro e w2 hr; obtain ⟨b2, v2, rfl, o2⟩ := NumsRes.ok hr HE.out; clear hr; rw [HV.out] at o2; obtain ⟨ao2, cap2, rfl, l2⟩ := own_lst o2; have HL2 := Lib.hid l2; have HW2 := Lib.hid ((b2.block _ (lt_whole HW.out)).trans HW.out); have HG2 := Lib.hid ((b2.block _ (lt_whole HG.out)).trans HG.out); have HO2 := Lib.hid (own_below HO0.out b2); have HB2 := Lib.hid (HB0.out.trans (b2.mono HB0.out.size)); clear b2 o2 l2))
  clear HW HG HO0 HB0 HL4 HC HE HV
  obtain ⟨lb, lo, rfl, hlb, q0⟩ := lst_cell (i := 0) HL2.out rfl
  obtain ⟨_, _, e1, _, q1⟩ := lst_cell (i := 1) HL2.out rfl
  cases e1
  obtain ⟨_, _, e1, _, q2⟩ := lst_cell (i := 2) HL2.out rfl
  cases e1
  obtain ⟨_, _, e1, _, q3⟩ := lst_cell (i := 3) HL2.out rfl
  cases e1
  rw [Nat.add_zero] at q0
  unfold encI at q0 q1 q2 q3
  clear HL2
  have hne2 : lb ≠ w2.heap.size := by omega
  go_region_held3 (fun W => W.cell? ⟨lb, lo, none⟩ = some (.int .i64 x) ∧ W.cell? ⟨lb, lo + 1, none⟩ = some (.int .i64 y) ∧ W.cell? ⟨lb, lo + 2, none⟩ = some (.int .i64 u) ∧ W.cell? ⟨lb, lo + 3, none⟩ = some (.int .i64 t)) (first | exact ⟨q0, q1, q2, q3⟩ | go_keep) (first | (go_at_call 13; skip))
  clear q0 q1 q2 q3 hne2
  have P := cells4 w2 37 w2.heap.size rfl x y u t
  have p0 : (w2.alloc (.cells #[.int .i64 x, .int .i64 y, .int .i64 u, .int .i64 t] 37)).drew.cell? ⟨w2.heap.size, 0, none⟩ = some (.int .i64 x) := P 0 (by omega)
  have p1 : (w2.alloc (.cells #[.int .i64 x, .int .i64 y, .int .i64 u, .int .i64 t] 37)).drew.cell? ⟨w2.heap.size, 1, none⟩ = some (.int .i64 y) := P 1 (by omega)
  have p2 : (w2.alloc (.cells #[.int .i64 x, .int .i64 y, .int .i64 u, .int .i64 t] 37)).drew.cell? ⟨w2.heap.size, 2, none⟩ = some (.int .i64 u) := P 2 (by omega)
  have p3 : (w2.alloc (.cells #[.int .i64 x, .int .i64 y, .int .i64 u, .int .i64 t] 37)).drew.cell? ⟨w2.heap.size, 3, none⟩ = some (.int .i64 t) := P 3 (by omega)
  have HW3 : Hid ((w2.alloc (.cells #[.int .i64 x, .int .i64 y, .int .i64 u, .int .i64 t] 37)).drew.heap[w.heap.size + 1]? = some (.cells #[.int .i64 0, .bool false, .slice none 0 0] 24 (0, 0))) := Lib.hid (alloc_whole HW2.out _)
  have HG3 : Hid ((w2.alloc (.cells #[.int .i64 x, .int .i64 y, .int .i64 u, .int .i64 t] 37)).drew.heap[w.heap.size]? = some (.cells #[.int .i64 n, .bool h, .slice va Z.length vc] 24 (0, 0))) := Lib.hid (alloc_whole HG2.out _)
  have HO3 : Hid ((w2.alloc (.cells #[.int .i64 x, .int .i64 y, .int .i64 u, .int .i64 t] 37)).drew.ownsRow B 37 4 (.slice va Z.length vc) Z.length (Z.flatMap encA)) := Lib.hid (HO2.out.alloc _)
  have HB3 := Lib.hid (below_drew (HB2.out.alloc HB2.out.size (.cells #[.int .i64 x, .int .i64 y, .int .i64 u, .int .i64 t] 37)))
  have hsz3 : w2.heap.size < (w2.alloc (.cells #[.int .i64 x, .int .i64 y, .int .i64 u, .int .i64 t] 37)).drew.heap.size := block_lt_of_cell p0
  clear P HW2 HG2 HO2 HB2
  generalize (w2.alloc (.cells #[.int .i64 x, .int .i64 y, .int .i64 u, .int .i64 t] 37)).drew = w3 at *
  generalize w2.heap.size = ga at *
  obtain ⟨c0, c1, c2, _, _, _⟩ := netCells HG3.out
  go_wp2_with (first
    | (go_at_call 27; refine (carc_is x y u t n e0 _ HAE.out).mono ?_; rintro e w4 ⟨rfl, b4⟩; have r0 := cell_below b4 p0; have r1 := cell_below b4 p1; have r2 := cell_below b4 p2; have r3 := cell_below b4 p3; have HW4 := Lib.hid ((b4.block _ (lt_whole HW3.out)).trans HW3.out); have HG4 := Lib.hid ((b4.block _ (lt_whole HG3.out)).trans HG3.out); have HO4 := Lib.hid (own_below HO3.out b4); have HB4 := Lib.hid (HB3.out.trans (b4.mono HB3.out.size)); clear b4; refine Hid.out ?_))
  refine Lib.hid ?_
  clear p0 p1 p2 p3 c0 c1 c2 HW3 HG3 HO3 HB3
  obtain ⟨g0, g1, g2, e0', e1', e2'⟩ := netCells HG4.out
  obtain ⟨d0, d1, d2, f0, f1, f2⟩ := netCells HW4.out
  go_wp2
  obtain ⟨q, hBq⟩ := netSet HW4.out HB4.out (by omega) (.int .i64 0) (.bool false) (.slice none 0 0)
  generalize World.setCell (World.setCell (World.setCell _ _ _) _ _) _ _ = W at *
  obtain ⟨k0, k1, k2, _, _, _⟩ := netCells q
  refine bodyPost_ret (v := .tuple #[.agg #[.int .i64 0, .bool false, .slice none 0 0], .int .i64 e0]) (by simp [results, Tryd.results49, go_sem, k0, k1, k2]) rfl (addRes_zero hBq)
set_option maxRecDepth 100000 in
set_option maxHeartbeats 4000000 in
theorem addarc_many (n : Int) (h : Bool) (va : Option Addr) (vc bb o cap B : Nat) (Z : List ArcT) (A : List (List UInt8)) (x y u t : Int) (w : World) (hO : w.ownsRow B 37 4 (.slice va Z.length vc) Z.length (Z.flatMap encA)) (hB : B ≤ w.heap.size) (hZ : Z.length ≤ 200)
    (hl4 : Lst strV w (some ⟨bb, o + 1, none⟩) A) (hA : A.length = 4) (hcap : 5 ≤ cap) (hok : OkS A) (he : errOf A = 0) (hv : valsOf A = [x, y, u, t]) (ha : arcE n (x, y, u, t) = 0) (hmany : 200 ≤ Z.length) :
    Calls Tryd.prog 49 #[.agg #[.int .i64 n, .bool h, .slice va Z.length vc], .slice (some ⟨bb, o, none⟩) 5 cap] w (AddRes B (.slice va Z.length vc) (zeroN, 2) w) := by
  have hB0 := ((Below.refl w.heap.size w).alloc (Nat.le_refl _) (.cells #[.int .i64 n, .bool h, .slice va Z.length vc] 24)).alloc (by simp) (.cells #[.int .i64 0, .bool false, .slice none 0 0] 24)
  have HO0 := Lib.hid (own_below hO hB0)
  have HB0 := Lib.hid hB0
  have HL4 := Lib.hid (hl4.below hB0)
  have HE := Lib.hid he
  have HV := Lib.hid hv
  have HAE := Lib.hid ha
  have HC : Hid (∀ W c, Lst strV W (some ⟨bb, o + 1, none⟩) A → Calls Tryd.prog 58 #[.slice (some ⟨bb, o + 1, none⟩) 4 c] W (NumsRes A W)) := Lib.hid (fun W c hL => by
    have := numbers_any (some ⟨bb, o + 1, none⟩) c A W hL hok (by omega)
    rwa [hA] at this)
  have HW := Lib.hid (new_whole1 w (.cells #[.int .i64 n, .bool h, .slice va Z.length vc] 24) (.cells #[.int .i64 0, .bool false, .slice none 0 0] 24))
  have HG := Lib.hid (alloc_whole (heap_alloc_new w (.cells #[.int .i64 n, .bool h, .slice va Z.length vc] 24)) (.cells #[.int .i64 0, .bool false, .slice none 0 0] 24))
  have hmi : (200 : Int) ≤ (Z.length : Int) := by omega
  clear hl4 hok he hB0 hO hv ha
  go_enter Tryd.func49, Tryd.ntmps49
  go_wp2_with (first
    | (go_at_call 58; refine (HC.out _ _ HL4.out).mono ?_; rintro e w2 hr; obtain ⟨b2, v2, rfl, o2⟩ := NumsRes.ok hr HE.out; clear hr; rw [HV.out] at o2; obtain ⟨ao2, cap2, rfl, l2⟩ := own_lst o2; have HL2 := Lib.hid l2; have HW2 := Lib.hid ((b2.block _ (lt_whole HW.out)).trans HW.out); have HG2 := Lib.hid ((b2.block _ (lt_whole HG.out)).trans HG.out); have HO2 := Lib.hid (own_below HO0.out b2); have HB2 := Lib.hid (HB0.out.trans (b2.mono HB0.out.size)); clear b2 o2 l2))
  clear HW HG HO0 HB0 HL4 HC HE HV
  obtain ⟨lb, lo, rfl, hlb, q0⟩ := lst_cell (i := 0) HL2.out rfl
  obtain ⟨_, _, e1, _, q1⟩ := lst_cell (i := 1) HL2.out rfl
  cases e1
  obtain ⟨_, _, e1, _, q2⟩ := lst_cell (i := 2) HL2.out rfl
  cases e1
  obtain ⟨_, _, e1, _, q3⟩ := lst_cell (i := 3) HL2.out rfl
  cases e1
  rw [Nat.add_zero] at q0
  unfold encI at q0 q1 q2 q3
  clear HL2
  have hne2 : lb ≠ w2.heap.size := by omega
  go_region_held3 (fun W => W.cell? ⟨lb, lo, none⟩ = some (.int .i64 x) ∧ W.cell? ⟨lb, lo + 1, none⟩ = some (.int .i64 y) ∧ W.cell? ⟨lb, lo + 2, none⟩ = some (.int .i64 u) ∧ W.cell? ⟨lb, lo + 3, none⟩ = some (.int .i64 t)) (first | exact ⟨q0, q1, q2, q3⟩ | go_keep) (first | (go_at_call 13; skip))
  clear q0 q1 q2 q3 hne2
  have P := cells4 w2 37 w2.heap.size rfl x y u t
  have p0 : (w2.alloc (.cells #[.int .i64 x, .int .i64 y, .int .i64 u, .int .i64 t] 37)).drew.cell? ⟨w2.heap.size, 0, none⟩ = some (.int .i64 x) := P 0 (by omega)
  have p1 : (w2.alloc (.cells #[.int .i64 x, .int .i64 y, .int .i64 u, .int .i64 t] 37)).drew.cell? ⟨w2.heap.size, 1, none⟩ = some (.int .i64 y) := P 1 (by omega)
  have p2 : (w2.alloc (.cells #[.int .i64 x, .int .i64 y, .int .i64 u, .int .i64 t] 37)).drew.cell? ⟨w2.heap.size, 2, none⟩ = some (.int .i64 u) := P 2 (by omega)
  have p3 : (w2.alloc (.cells #[.int .i64 x, .int .i64 y, .int .i64 u, .int .i64 t] 37)).drew.cell? ⟨w2.heap.size, 3, none⟩ = some (.int .i64 t) := P 3 (by omega)
  have HW3 : Hid ((w2.alloc (.cells #[.int .i64 x, .int .i64 y, .int .i64 u, .int .i64 t] 37)).drew.heap[w.heap.size + 1]? = some (.cells #[.int .i64 0, .bool false, .slice none 0 0] 24 (0, 0))) := Lib.hid (alloc_whole HW2.out _)
  have HG3 : Hid ((w2.alloc (.cells #[.int .i64 x, .int .i64 y, .int .i64 u, .int .i64 t] 37)).drew.heap[w.heap.size]? = some (.cells #[.int .i64 n, .bool h, .slice va Z.length vc] 24 (0, 0))) := Lib.hid (alloc_whole HG2.out _)
  have HO3 : Hid ((w2.alloc (.cells #[.int .i64 x, .int .i64 y, .int .i64 u, .int .i64 t] 37)).drew.ownsRow B 37 4 (.slice va Z.length vc) Z.length (Z.flatMap encA)) := Lib.hid (HO2.out.alloc _)
  have HB3 := Lib.hid (below_drew (HB2.out.alloc HB2.out.size (.cells #[.int .i64 x, .int .i64 y, .int .i64 u, .int .i64 t] 37)))
  have hsz3 : w2.heap.size < (w2.alloc (.cells #[.int .i64 x, .int .i64 y, .int .i64 u, .int .i64 t] 37)).drew.heap.size := block_lt_of_cell p0
  clear P HW2 HG2 HO2 HB2
  generalize (w2.alloc (.cells #[.int .i64 x, .int .i64 y, .int .i64 u, .int .i64 t] 37)).drew = w3 at *
  generalize w2.heap.size = ga at *
  obtain ⟨c0, c1, c2, _, _, _⟩ := netCells HG3.out
  go_wp2_with (first
    | (go_at_call 27; refine (carc_is x y u t n 0 _ HAE.out).mono ?_; rintro e w4 ⟨rfl, b4⟩; have r0 := cell_below b4 p0; have r1 := cell_below b4 p1; have r2 := cell_below b4 p2; have r3 := cell_below b4 p3; have HW4 := Lib.hid ((b4.block _ (lt_whole HW3.out)).trans HW3.out); have HG4 := Lib.hid ((b4.block _ (lt_whole HG3.out)).trans HG3.out); have HO4 := Lib.hid (own_below HO3.out b4); have HB4 := Lib.hid (HB3.out.trans (b4.mono HB3.out.size)); clear b4; refine Hid.out ?_))
  refine Lib.hid ?_
  clear p0 p1 p2 p3 c0 c1 c2 HW3 HG3 HO3 HB3
  obtain ⟨g0, g1, g2, e0', e1', e2'⟩ := netCells HG4.out
  obtain ⟨d0, d1, d2, f0, f1, f2⟩ := netCells HW4.out
  go_wp2
  obtain ⟨q, hBq⟩ := netSet HW4.out HB4.out (by omega) (.int .i64 0) (.bool false) (.slice none 0 0)
  generalize World.setCell (World.setCell (World.setCell _ _ _) _ _) _ _ = W at *
  obtain ⟨k0, k1, k2, _, _, _⟩ := netCells q
  refine bodyPost_ret (v := .tuple #[.agg #[.int .i64 0, .bool false, .slice none 0 0], .int .i64 2]) (by simp [results, Tryd.results49, go_sem, k0, k1, k2]) rfl (addRes_zero hBq)
set_option maxRecDepth 100000 in
set_option maxHeartbeats 4000000 in
theorem addarc_fit (n : Int) (h : Bool) (va : Option Addr) (vc bb o cap B : Nat) (Z : List ArcT) (A : List (List UInt8)) (x y u t : Int) (w : World) (hO : w.ownsRow B 37 4 (.slice va Z.length vc) Z.length (Z.flatMap encA)) (hB : B ≤ w.heap.size) (hZ : Z.length ≤ 200)
    (hl4 : Lst strV w (some ⟨bb, o + 1, none⟩) A) (hA : A.length = 4) (hcap : 5 ≤ cap) (hok : OkS A) (he : errOf A = 0) (hv : valsOf A = [x, y, u, t]) (ha : arcE n (x, y, u, t) = 0) (hfew : ¬ 200 ≤ Z.length) :
    Calls Tryd.prog 49 #[.agg #[.int .i64 n, .bool h, .slice va Z.length vc], .slice (some ⟨bb, o, none⟩) 5 cap] w (AddRes B (.slice va Z.length vc) ((n, h, Z ++ [(x, y, u, t)]), 0) w) := by
  have hB0 := ((Below.refl w.heap.size w).alloc (Nat.le_refl _) (.cells #[.int .i64 n, .bool h, .slice va Z.length vc] 24)).alloc (by simp) (.cells #[.int .i64 0, .bool false, .slice none 0 0] 24)
  have HO0 := Lib.hid (own_below hO hB0)
  have HB0 := Lib.hid hB0
  have HL4 := Lib.hid (hl4.below hB0)
  have HE := Lib.hid he
  have HV := Lib.hid hv
  have HAE := Lib.hid ha
  have HC : Hid (∀ W c, Lst strV W (some ⟨bb, o + 1, none⟩) A → Calls Tryd.prog 58 #[.slice (some ⟨bb, o + 1, none⟩) 4 c] W (NumsRes A W)) := Lib.hid (fun W c hL => by
    have := numbers_any (some ⟨bb, o + 1, none⟩) c A W hL hok (by omega)
    rwa [hA] at this)
  have HW := Lib.hid (new_whole1 w (.cells #[.int .i64 n, .bool h, .slice va Z.length vc] 24) (.cells #[.int .i64 0, .bool false, .slice none 0 0] 24))
  have HG := Lib.hid (alloc_whole (heap_alloc_new w (.cells #[.int .i64 n, .bool h, .slice va Z.length vc] 24)) (.cells #[.int .i64 0, .bool false, .slice none 0 0] 24))
  have hmi : ¬ (200 : Int) ≤ (Z.length : Int) := by omega
  clear hl4 hok he hB0 hO hv ha
  go_enter Tryd.func49, Tryd.ntmps49
  go_wp2_with (first
    | (go_at_call 58; refine (HC.out _ _ HL4.out).mono ?_; rintro e w2 hr; obtain ⟨b2, v2, rfl, o2⟩ := NumsRes.ok hr HE.out; clear hr; rw [HV.out] at o2; obtain ⟨ao2, cap2, rfl, l2⟩ := own_lst o2; have HL2 := Lib.hid l2; have HW2 := Lib.hid ((b2.block _ (lt_whole HW.out)).trans HW.out); have HG2 := Lib.hid ((b2.block _ (lt_whole HG.out)).trans HG.out); have HO2 := Lib.hid (own_below HO0.out b2); have HB2 := Lib.hid (HB0.out.trans (b2.mono HB0.out.size)); clear b2 o2 l2))
  clear HW HG HO0 HB0 HL4 HC HE HV
  obtain ⟨lb, lo, rfl, hlb, q0⟩ := lst_cell (i := 0) HL2.out rfl
  obtain ⟨_, _, e1, _, q1⟩ := lst_cell (i := 1) HL2.out rfl
  cases e1
  obtain ⟨_, _, e1, _, q2⟩ := lst_cell (i := 2) HL2.out rfl
  cases e1
  obtain ⟨_, _, e1, _, q3⟩ := lst_cell (i := 3) HL2.out rfl
  cases e1
  rw [Nat.add_zero] at q0
  unfold encI at q0 q1 q2 q3
  clear HL2
  have hne2 : lb ≠ w2.heap.size := by omega
  go_region_held3 (fun W => W.cell? ⟨lb, lo, none⟩ = some (.int .i64 x) ∧ W.cell? ⟨lb, lo + 1, none⟩ = some (.int .i64 y) ∧ W.cell? ⟨lb, lo + 2, none⟩ = some (.int .i64 u) ∧ W.cell? ⟨lb, lo + 3, none⟩ = some (.int .i64 t)) (first | exact ⟨q0, q1, q2, q3⟩ | go_keep) (first | (go_at_call 13; skip))
  clear q0 q1 q2 q3 hne2
  have P := cells4 w2 37 w2.heap.size rfl x y u t
  have p0 : (w2.alloc (.cells #[.int .i64 x, .int .i64 y, .int .i64 u, .int .i64 t] 37)).drew.cell? ⟨w2.heap.size, 0, none⟩ = some (.int .i64 x) := P 0 (by omega)
  have p1 : (w2.alloc (.cells #[.int .i64 x, .int .i64 y, .int .i64 u, .int .i64 t] 37)).drew.cell? ⟨w2.heap.size, 1, none⟩ = some (.int .i64 y) := P 1 (by omega)
  have p2 : (w2.alloc (.cells #[.int .i64 x, .int .i64 y, .int .i64 u, .int .i64 t] 37)).drew.cell? ⟨w2.heap.size, 2, none⟩ = some (.int .i64 u) := P 2 (by omega)
  have p3 : (w2.alloc (.cells #[.int .i64 x, .int .i64 y, .int .i64 u, .int .i64 t] 37)).drew.cell? ⟨w2.heap.size, 3, none⟩ = some (.int .i64 t) := P 3 (by omega)
  have HW3 : Hid ((w2.alloc (.cells #[.int .i64 x, .int .i64 y, .int .i64 u, .int .i64 t] 37)).drew.heap[w.heap.size + 1]? = some (.cells #[.int .i64 0, .bool false, .slice none 0 0] 24 (0, 0))) := Lib.hid (alloc_whole HW2.out _)
  have HG3 : Hid ((w2.alloc (.cells #[.int .i64 x, .int .i64 y, .int .i64 u, .int .i64 t] 37)).drew.heap[w.heap.size]? = some (.cells #[.int .i64 n, .bool h, .slice va Z.length vc] 24 (0, 0))) := Lib.hid (alloc_whole HG2.out _)
  have HO3 : Hid ((w2.alloc (.cells #[.int .i64 x, .int .i64 y, .int .i64 u, .int .i64 t] 37)).drew.ownsRow B 37 4 (.slice va Z.length vc) Z.length (Z.flatMap encA)) := Lib.hid (HO2.out.alloc _)
  have HB3 := Lib.hid (below_drew (HB2.out.alloc HB2.out.size (.cells #[.int .i64 x, .int .i64 y, .int .i64 u, .int .i64 t] 37)))
  have hsz3 : w2.heap.size < (w2.alloc (.cells #[.int .i64 x, .int .i64 y, .int .i64 u, .int .i64 t] 37)).drew.heap.size := block_lt_of_cell p0
  clear P HW2 HG2 HO2 HB2
  generalize (w2.alloc (.cells #[.int .i64 x, .int .i64 y, .int .i64 u, .int .i64 t] 37)).drew = w3 at *
  generalize w2.heap.size = ga at *
  obtain ⟨c0, c1, c2, _, _, _⟩ := netCells HG3.out
  go_wp2_with (first
    | (go_at_call 27; refine (carc_is x y u t n 0 _ HAE.out).mono ?_; rintro e w4 ⟨rfl, b4⟩; have r0 := cell_below b4 p0; have r1 := cell_below b4 p1; have r2 := cell_below b4 p2; have r3 := cell_below b4 p3; have HW4 := Lib.hid ((b4.block _ (lt_whole HW3.out)).trans HW3.out); have HG4 := Lib.hid ((b4.block _ (lt_whole HG3.out)).trans HG3.out); have HO4 := Lib.hid (own_below HO3.out b4); have HB4 := Lib.hid (HB3.out.trans (b4.mono HB3.out.size)); clear b4; refine Hid.out ?_))
  refine Lib.hid ?_
  clear p0 p1 p2 p3 c0 c1 c2 HW3 HG3 HO3 HB3
  obtain ⟨g0, g1, g2, e0', e1', e2'⟩ := netCells HG4.out
  obtain ⟨d0, d1, d2, f0, f1, f2⟩ := netCells HW4.out
  have s4 := HB4.out.size
  have HO5 := Lib.hid (HO4.out.alloc (.cells #[.int .i64 x, .int .i64 y, .int .i64 u, .int .i64 t] 37))
  have HW5 := Lib.hid (alloc_whole HW4.out (.cells #[.int .i64 x, .int .i64 y, .int .i64 u, .int .i64 t] 37))
  have HG5 := Lib.hid (alloc_whole HG4.out (.cells #[.int .i64 x, .int .i64 y, .int .i64 u, .int .i64 t] 37))
  have HB5 := Lib.hid ((Kept.of_below (S := OwnB (.slice va Z.length vc)) HB4.out).alloc (.cells #[.int .i64 x, .int .i64 y, .int .i64 u, .int .i64 t] 37))
  go_wp2_with (first
    | (at_builtin; refine wpList_append_row (enc := encA) Tryd.underlying22 infoArc rfl (by omega) (by omega) encA_len rfl _ _ rfl B _ Z (x, y, u, t) (encA_one _) rfl HO5.out _ 1 rfl (fun i hi => cell_newL rfl (encA (x, y, u, t)) 37 i) (by omega) (by simp; omega) ?_; intro g7 cap7 w7 ho7 hg7 hl7 hb7 hlt7; have HO7 := Lib.hid ho7; have HW7 := Lib.hid ((hg7.block _ (lt_whole HW5.out) (fun e => own_ne HO5.out HW5.out (by decide) e.symm)).trans HW5.out); have HG7 := Lib.hid ((hg7.block _ (lt_whole HG5.out) (fun e => own_ne HO5.out HG5.out (by decide) e.symm)).trans HG5.out); have HB7 := Lib.hid (HB5.out.trans (Kept.of_grown (S := OwnB (.slice va Z.length vc)) hg7 (fun k hk => hk)) (fun _ _ h => h)); clear ho7 hg7 hl7; refine Hid.out ?_))
  refine Lib.hid ?_
  clear g0 g1 g2 e0' e1' e2' d0 d1 d2 f0 f1 f2 HO5 HW5 HG5 HB5 HO4 HW4 HG4 HB4 r0 r1 r2 r3
  obtain ⟨g0, g1, g2, e0', e1', e2'⟩ := netCells HG7.out
  have HO8 := Lib.hid (own_set HO7.out HG7.out (by decide) 2 (.slice (some ⟨g7, 0, none⟩) (Z.length + 1) cap7))
  have HG8 : Hid ((w7.setCell ⟨w.heap.size, 2, none⟩ (.slice (some ⟨g7, 0, none⟩) (Z.length + 1) cap7)).heap[w.heap.size]? = some (.cells #[.int .i64 n, .bool h, .slice (some ⟨g7, 0, none⟩) (Z.length + 1) cap7] 24 (0, 0))) := Lib.hid (set_whole HG7.out 2 _)
  have HW8 : Hid ((w7.setCell ⟨w.heap.size, 2, none⟩ (.slice (some ⟨g7, 0, none⟩) (Z.length + 1) cap7)).heap[w.heap.size + 1]? = some (.cells #[.int .i64 0, .bool false, .slice none 0 0] 24 (0, 0))) := Lib.hid ((Below.heap_setCell w7 _ _ _ (by simp)).trans HW7.out)
  have HB8 := Lib.hid (HB7.out.set (g := w.heap.size) (j := 2) (.inr (Nat.le_refl _)) (.slice (some ⟨g7, 0, none⟩) (Z.length + 1) cap7))
  obtain ⟨i0, i1, i2, _, _, _⟩ := netCells HG8.out
  obtain ⟨d0, d1, d2, f0, f1, f2⟩ := netCells HW8.out
  clear HO7 HG7 HW7 HB7
  go_wp2
  generalize w7.setCell ⟨w.heap.size, 2, none⟩ (.slice (some ⟨g7, 0, none⟩) (Z.length + 1) cap7) = w8 at *
  have q := net_set HW8.out (.int .i64 n) (.bool h) (.slice (some ⟨g7, 0, none⟩) (Z.length + 1) cap7)
  have hBq := HB8.out.net (g := w.heap.size + 1) (.inr (by omega)) (.int .i64 n) (.bool h) (.slice (some ⟨g7, 0, none⟩) (Z.length + 1) cap7)
  have hO9 := own_net HO8.out HW8.out (by decide) (.int .i64 n) (.bool h) (.slice (some ⟨g7, 0, none⟩) (Z.length + 1) cap7)
  generalize World.setCell (World.setCell (World.setCell _ _ _) _ _) _ _ = W at *
  obtain ⟨k0, k1, k2, _, _, _⟩ := netCells q
  refine bodyPost_ret (v := .tuple #[.agg #[.int .i64 n, .bool h, .slice (some ⟨g7, 0, none⟩) (Z.length + 1) cap7], .int .i64 0]) (by simp [results, Tryd.results49, go_sem, k0, k1, k2]) rfl ⟨_, rfl, hO9, hBq⟩
end Go.Proofs.YtbciplfncnangaaDoor
