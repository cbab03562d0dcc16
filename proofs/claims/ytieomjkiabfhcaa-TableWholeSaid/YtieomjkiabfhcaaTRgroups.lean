/- What the document's Groups does. -/
import Derived.Test.YtieomjkiabfhcaaTGrp
namespace Go.Proofs.Ytieomjkiabfhcaa
open Go.RowKit Go.Shelf
set_option linter.unusedVariables false

/-- Rows of places, each written once, in a row of the call's own. -/
def RG (w0 w : World) (ov : Value) (G : List (List Nat)) : Prop := ∃ vs : List Value, w.ownsRow w0.heap.size 31 1 ov vs.length (vs.flatMap encV) ∧ vs.length = G.length ∧
  ∀ i (hi : i < G.length), ∃ ao cap, vs[i]? = some (.slice ao G[i].length cap) ∧ Row encI 1 w ao (natI G[i]) ∧ ∀ ad, ao = some ad → 0 < G[i].length → some ad.block ≠ ov.ownBlock
theorem RG.start (w : World) : RG w w (.slice none 0 0) [] := ⟨[], World.ownsRow_nil _ _ _ _, rfl, fun i hi => absurd hi (by simp)⟩
theorem RG.below {w0 w w' : World} {ov : Value} {G : List (List Nat)} (h : RG w0 w ov G) (hb : Below w.heap.size w w') : RG w0 w' ov G := by
  obtain ⟨vs, h1, h2, h3⟩ := h
  refine ⟨vs, own_below h1 hb, h2, fun i hi => ?_⟩
  obtain ⟨ao, cap, e1, e2, e3⟩ := h3 i hi
  exact ⟨ao, cap, e1, e2.below' hb, e3⟩
theorem Row.grown {α : Type} {enc : α → List Value} {k : Nat} {w w' : World} {row : Option Nat} {ao : Option Addr} {A : List α} (h : Row enc k w ao A) (hg : w.grownBy w' row) (hn : ∀ ad, ao = some ad → 0 < A.length → some ad.block ≠ row) : Row enc k w' ao A := by
  intro i hi
  obtain ⟨b, o, h1, h2, h3⟩ := h i hi
  have hb := hg.block b h2 (hn _ h1 (by omega))
  exact ⟨b, o, h1, Nat.lt_of_lt_of_le h2 hg.size, fun j hj => by rw [World.cell?_of_block (a := ⟨b, o + i * k + j, none⟩) hb]; exact h3 j hj⟩
theorem RG.push {w0 w w' : World} {ov : Value} {G : List (List Nat)} {vs : List Value} (h1 : w.ownsRow w0.heap.size 31 1 ov vs.length (vs.flatMap encV)) (h2 : vs.length = G.length)
    (h3 : ∀ i (hi : i < G.length), ∃ ao cap, vs[i]? = some (.slice ao G[i].length cap) ∧ Row encI 1 w ao (natI G[i]) ∧ ∀ ad, ao = some ad → 0 < G[i].length → some ad.block ≠ ov.ownBlock)
    {a : Option Addr} {g : List Nat} {c : Nat} (hr : Row encI 1 w a (natI g)) (hn : ∀ ad, a = some ad → 0 < g.length → some ad.block ≠ ov.ownBlock) {gg n cap : Nat}
    (ho : w'.ownsRow w0.heap.size 31 1 (.slice (some ⟨gg, 0, none⟩) n cap) (vs ++ [Value.slice a g.length c]).length ((vs ++ [Value.slice a g.length c]).flatMap encV)) (hg : w.grownBy w' ov.ownBlock) (hl : ov.ownBlock = some gg ∨ gg = w.heap.size) :
    RG w0 w' (.slice (some ⟨gg, 0, none⟩) n cap) (G ++ [g]) := by
  have fresh : ∀ (ao : Option Addr) (l : List Nat), Row encI 1 w ao (natI l) → (∀ ad, ao = some ad → 0 < l.length → some ad.block ≠ ov.ownBlock) → ∀ ad, ao = some ad → 0 < l.length → some ad.block ≠ (Value.slice (some ⟨gg, 0, none⟩) n cap).ownBlock := by
    intro ao l hrow hne ad e h0 e2
    have e3 : ad.block = gg := by simpa [Value.ownBlock] using e2
    rcases hl with hl | hl
    · exact hne ad e h0 (by rw [hl, e3])
    · have := hrow.lt ad e (by rw [natI_len]; exact h0)
      omega
  refine ⟨_, ho, by simp [h2], fun i hi => ?_⟩
  by_cases hi' : i < G.length
  · obtain ⟨ao, cp, e1, e2, e3⟩ := h3 i hi'
    have eG : (G ++ [g])[i] = G[i] := List.getElem_append_left hi'
    rw [eG]
    exact ⟨ao, cp, by rw [List.getElem?_append_left (by omega)]; exact e1, e2.grown hg (fun ad e h0 => e3 ad e (by rwa [natI_len] at h0)), fresh ao _ e2 e3⟩
  · have hie : i = G.length := by simp at hi; omega
    subst hie
    have eG : (G ++ [g])[G.length] = g := by simp
    rw [eG]
    exact ⟨a, c, by rw [← h2]; simp, hr.grown hg (fun ad e h0 => hn ad e (by rwa [natI_len] at h0)), fresh a _ hr hn⟩
theorem RG.row {w0 w : World} {ov : Value} {G : List (List Nat)} (h : RG w0 w ov G) : ∃ ga cap, ov = .slice ga G.length cap ∧ GRow w ga G := by
  obtain ⟨vs, h1, h2, h3⟩ := h
  obtain ⟨ga, cap, e, hr, _⟩ := own_row encV_len h1
  refine ⟨ga, cap, by rw [e, h2], fun i hi => ?_⟩
  obtain ⟨b, o, e1, hb, hc⟩ := hr i (by omega)
  obtain ⟨ao, cp, e2, e3, _⟩ := h3 i hi
  have h0 := hc 0 (by omega)
  rw [Nat.mul_one, Nat.add_zero] at h0
  refine ⟨b, o, ao, cp, e1, hb, ?_, e3⟩
  rw [h0]
  have : vs[i] = .slice ao G[i].length cp := (List.getElem?_eq_some_iff.1 e2).2
  rw [this]; rfl
theorem obtain_lt {w0 w : World} {ov : Value} {G : List (List Nat)} (h : RG w0 w ov G) : ∀ g, ov.ownBlock = some g → g < w.heap.size := by
  obtain ⟨vs, h1, _⟩ := h
  exact fun g e => (h1.lt g e).2
theorem fnd_lt {α : Type} [DecidableEq α] {l : List α} {x : α} {i : Nat} (hi : l[i]? = some x) : (x ∈ l.take i → 0 ≤ fnd l x ∧ fnd l x < (i : Int)) ∧ (x ∉ l.take i → fnd l x = (i : Int)) := by
  refine ⟨fun h => ?_, fun h => fnd_at hi h⟩
  obtain ⟨j, hj, hje⟩ := List.getElem_of_mem h
  have hji : j < i := by simp at hj; omega
  have hjl : l[j]? = some x := by rw [← hje, List.getElem_take, List.getElem?_eq_getElem]
  have hm : j ∈ places l x := mem_places.2 hjl
  unfold fnd
  cases e : places l x with
  | nil => rw [e] at hm; cases hm
  | cons a r =>
    have hs := places_sorted l x
    rw [e] at hs hm
    simp only
    rcases List.mem_cons.1 hm with rfl | hr
    · omega
    · have := (List.pairwise_cons.1 hs).1 j hr; omega
/-- The groups of the values that are found ahead of a place. -/
def grpsTo {α : Type} [DecidableEq α] (l : List α) (i : Nat) : List (List Nat) := (firsts (l.take i)).map (places l)
theorem grpsTo_new {α : Type} [DecidableEq α] {l : List α} {x : α} {i : Nat} (hi : l[i]? = some x) (h : x ∉ l.take i) : grpsTo l (i + 1) = grpsTo l i ++ [places l x] := by
  unfold grpsTo; rw [take_snoc' hi, firsts_new h, List.map_append]; rfl
theorem grpsTo_old {α : Type} [DecidableEq α] {l : List α} {x : α} {i : Nat} (hi : l[i]? = some x) (h : x ∈ l.take i) : grpsTo l (i + 1) = grpsTo l i := by
  unfold grpsTo; rw [take_snoc' hi, firsts_old h]
theorem grpsTo_all {α : Type} [DecidableEq α] (l : List α) : grpsTo l l.length = grps l := by unfold grpsTo grps; rw [List.take_length]
theorem grpsTo_len {α : Type} [DecidableEq α] (l : List α) (i : Nat) : (grpsTo l i).length ≤ l.length := by
  unfold grpsTo; rw [List.length_map]; have := firsts_len (l.take i); simp at this; omega
theorem places_step {α : Type} [DecidableEq α] {l : List α} {k : Nat} {y : α} (hk : l[k]? = some y) (x : α) : places (l.take (k + 1)) x = places (l.take k) x ++ if y = x then [k] else [] := by
  obtain ⟨hl, _⟩ := List.getElem?_eq_some_iff.1 hk
  rw [take_snoc' hk, places_snoc, List.length_take, Nat.min_eq_left (by omega)]
set_option maxRecDepth 100000 in
set_option maxHeartbeats 8000000 in
theorem rgroups_some (ad : Addr) (cap : Nat) (Z : List ArcT) (w : World) (h : Row encA 4 w (some ad) Z) (hn : Z.length ≤ 200) :
    Calls Try.prog 17 #[.slice (some ad) Z.length cap] w (GroupsRes (grps (keysOf Z)) w) := by
  have HR := Lib.hid h
  clear h
  have HKL : Hid ((keysOf Z).length = Z.length) := Lib.hid (by simp [keysOf])
  have HEI : Hid (∀ i (hi : i < Z.length), (keysOf Z)[i]? = some (kOf Z[i])) := Lib.hid (fun i hi => by unfold keysOf; rw [List.getElem?_map, List.getElem?_eq_getElem hi]; rfl)
  go_enter Try.func17, Try.ntmps17
  go_wp2
  go_loopw [3, 4] (fun ov si wr => ∃ (i : Nat), i ≤ Z.length ∧ Hid (Below w.heap.size w wr) ∧ Hid (RG w wr ov (grpsTo (keysOf Z) i)) ∧ si = .int .i64 (i : Int)) (fun _ si _ => Z.length - (intOf si).toNat)
  case atStart => exact ⟨0, by omega, Lib.hid (Below.refl _ _), Lib.hid (RG.start w), rfl⟩
  case round =>
    obtain ⟨i, hi, HB, HG, rfl⟩ := hrel
    obtain ⟨wo, hwo⟩ : ∃ wo, wo = wr := ⟨_, rfl⟩
    subst hwo
    by_cases hlt : i < Z.length
    · have hli : (i : Int) < (Z.length : Int) := by omega
      have HRo := Lib.hid (HR.out.below' HB.out)
      obtain ⟨ab, ax, e, hab, d0, d1, d2, d3⟩ := HRo.out.arc hlt
      cases e
      have hep := HEI.out i hlt
      obtain ⟨z, hz⟩ : ∃ z, Z[i] = z := ⟨_, rfl⟩
      rw [hz] at d0 d1 d2 d3 hep
      obtain ⟨a, b, c, d⟩ := z
      simp only [kOf] at d0 d1 d2 d3 hep
      have HEP := Lib.hid hep
      have HFL := Lib.hid (fnd_lt hep)
      clear hz hep
      obtain ⟨F, hF⟩ : ∃ F, fnd (Z.map kOf) (a, b, d) = F := ⟨_, rfl⟩
      have HF := Lib.hid hF
      clear hF
      by_cases hmem : (a, b, d) ∈ (keysOf Z).take i
      · have hfl : F < (i : Int) := by rw [← HF.out]; exact (HFL.out.1 hmem).2
        have HME := Lib.hid hmem
        clear hmem
        go_wp2_with (first
          | (go_at_call 32; refine (of_any a b c d _).mono ?_; rintro e w2 ⟨rfl, hb2⟩; have HB2 := Lib.hid (HB.out.trans (hb2.mono HB.out.size)); have HG2 := Lib.hid (HG.out.below hb2); have HR2 := Lib.hid (HRo.out.below' hb2); clear hb2)
          | (go_at_call 15; refine (rfind_any _ cap Z (a, b, d) _ HR2.out hn).mono ?_; rintro e w3 ⟨rfl, hb3⟩; rw [HF.out]; have HB3 := Lib.hid (HB2.out.trans (hb3.mono HB2.out.size)); have HG3 := Lib.hid (HG2.out.below hb3); clear hb3))
        go_roundw
        case rel => exact ⟨i + 1, by omega, HB3, Lib.hid (by rw [grpsTo_old HEP.out HME.out]; exact HG3.out), by go_num⟩
        case measure => simp [intOf]; omega
      · have hfl : F = (i : Int) := by rw [← HF.out]; exact HFL.out.2 hmem
        subst hfl
        have HME := Lib.hid hmem
        clear hmem
        go_wp2_with (first
          | (go_at_call 32; refine (of_any a b c d _).mono ?_; rintro e w2 ⟨rfl, hb2⟩; have HB2 := Lib.hid (HB.out.trans (hb2.mono HB.out.size)); have HG2 := Lib.hid (HG.out.below hb2); have HR2 := Lib.hid (HRo.out.below' hb2); clear hb2)
          | (go_at_call 15; refine (rfind_any _ cap Z (a, b, d) _ HR2.out hn).mono ?_; rintro e w3 ⟨rfl, hb3⟩; rw [HF.out]; have HB3 := Lib.hid (HB2.out.trans (hb3.mono HB2.out.size)); have HG3 := Lib.hid (HG2.out.below hb3); have HR3 := Lib.hid (HR2.out.below' hb3); clear hb3))
        clear d0 d1 d2 d3
        go_loopw [5, 6] (fun gv sk wi => ∃ (k : Nat), i ≤ k ∧ k ≤ Z.length ∧ Hid (Below w3.heap.size w3 wi) ∧ Hid (wi.ownsRow w3.heap.size 3 1 gv (natI (places ((keysOf Z).take k) (a, b, d))).length ((natI (places ((keysOf Z).take k) (a, b, d))).flatMap encI)) ∧ sk = .int .i64 (k : Int)) (fun _ sk _ => Z.length - (intOf sk).toNat)
        case atStart => exact ⟨i, by omega, by omega, Lib.hid (Below.refl _ _), Lib.hid (by rw [places_none HME.out]; exact World.ownsRow_nil _ _ _ _), rfl⟩
        case round =>
          obtain ⟨k, hik, hk, HBk, HOk, rfl⟩ := hrel
          by_cases hlk : k < Z.length
          · have hlkI : (k : Int) < (Z.length : Int) := by omega
            have HRk := Lib.hid (HR3.out.below' HBk.out)
            obtain ⟨b2, x2, e, hb2, c0, c1, c2, c3⟩ := HRk.out.arc hlk
            cases e
            obtain ⟨b3, x3, e, _, d0, d1, d2, d3⟩ := HRk.out.arc hlt
            cases e
            have hek := HEI.out k hlk
            have hei := HEI.out i hlt
            rw [HEP.out] at hei
            obtain ⟨z, hz⟩ : ∃ z, Z[k] = z := ⟨_, rfl⟩
            obtain ⟨z2, hz2⟩ : ∃ z, Z[i] = z := ⟨_, rfl⟩
            rw [hz] at c0 c1 c2 c3 hek
            rw [hz2] at d0 d1 d2 d3 hei
            obtain ⟨x1, y1, u1, v1⟩ := z
            obtain ⟨a', b', c', d'⟩ := z2
            simp only [kOf] at c0 c1 c2 c3 hek hei d0 d1 d2 d3
            simp only [Option.some.injEq, Prod.mk.injEq] at hei
            obtain ⟨rfl, rfl, rfl⟩ := hei
            have HPS := Lib.hid (places_step hek (a, b, d))
            clear hz hz2 hek
            have hroom : (natI (places ((keysOf Z).take k) (a, b, d))).length ≤ 200000 := by
              rw [natI_len]; have := places_len ((keysOf Z).take k) (a, b, d); simp at this; omega
            generalize places ((keysOf Z).take k) (a, b, d) = PK at *
            have eq := fun W => eq_key x1 y1 v1 a b d W
            have e1 : (x1, y1, v1) = (a, b, d) ∨ (x1, y1, v1) ≠ (a, b, d) := Decidable.em _
            rcases e1 with e1 | e1
            · have e2 := beq3 e1
              have HPE : Hid (places ((keysOf Z).take (k + 1)) (a, b, d) = PK ++ [k]) := Lib.hid (by rw [HPS.out, if_pos e1])
              clear e1 HPS
              go_wp2_with fail
              go_region_held3 (fun W => W.cell? ⟨ab, ax + k * 4, none⟩ = some (.int .i64 x1) ∧ W.cell? ⟨ab, ax + k * 4 + 1, none⟩ = some (.int .i64 y1) ∧ W.cell? ⟨ab, ax + k * 4 + 2, none⟩ = some (.int .i64 u1) ∧ W.cell? ⟨ab, ax + k * 4 + 3, none⟩ = some (.int .i64 v1) ∧ W.cell? ⟨ab, ax + i * 4, none⟩ = some (.int .i64 a) ∧ W.cell? ⟨ab, ax + i * 4 + 1, none⟩ = some (.int .i64 b) ∧ W.cell? ⟨ab, ax + i * 4 + 2, none⟩ = some (.int .i64 c') ∧ W.cell? ⟨ab, ax + i * 4 + 3, none⟩ = some (.int .i64 d)) (first | exact ⟨c0, c1, c2, c3, d0, d1, d2, d3⟩ | exact ⟨r50, r51, r52, r53, r54, r55, r56, r57⟩ | exact ⟨r40, r41, r42, r43, r44, r45, r46, r47⟩ | go_keep)
                (first
                  | (go_at_call 32; refine (of_any x1 y1 u1 v1 _).mono ?_; rintro e w4 ⟨rfl, hb4⟩; have r40 := cell_below hb4 c0; have r41 := cell_below hb4 c1; have r42 := cell_below hb4 c2; have r43 := cell_below hb4 c3; have r44 := cell_below hb4 d0; have r45 := cell_below hb4 d1; have r46 := cell_below hb4 d2; have r47 := cell_below hb4 d3; have HB4 := Lib.hid ((below_drew HBk.out).trans (hb4.mono HBk.out.size)); have HO4 := Lib.hid (own_below (w := wr) HOk.out ⟨hb4.os, hb4.tape, hb4.output, hb4.size, hb4.block⟩); clear hb4)
                  | (go_at_call 32; refine (of_any a b c' d _).mono ?_; rintro e w5 ⟨rfl, hb5⟩; have r50 := cell_below hb5 r40; have r51 := cell_below hb5 r41; have r52 := cell_below hb5 r42; have r53 := cell_below hb5 r43; have r54 := cell_below hb5 r44; have r55 := cell_below hb5 r45; have r56 := cell_below hb5 r46; have r57 := cell_below hb5 r47; have HB5 := Lib.hid (HB4.out.trans (hb5.mono HB4.out.size)); have HO5 := Lib.hid (own_below HO4.out hb5); clear hb5))
              have HO6 := Lib.hid (HO5.out.alloc (.cells #[.int .i64 (k : Int)] 3))
              have HB6 := Lib.hid (HB5.out.alloc HB5.out.size (.cells #[.int .i64 (k : Int)] 3))
              go_wp2_with (at_builtin; refine wpList_append_row (enc := encI) Try.underlying31 infoInt rfl (by omega) (by omega) encI_len rfl _ _ rfl w3.heap.size _ (natI PK) (k : Int) (encI_one _) rfl HO6.out _ 1 rfl (fun i hi => cell_newL rfl (encI (k : Int)) 3 i) hroom HB6.out.size ?_; intro g7 cap7 w7 ho7 hg7 hl7 hb7 hlt7; have HO7 := Lib.hid ho7; have HB7 := Lib.hid (HB6.out.grown hg7 HB6.out.size (fun k hk => (HO6.out.lt k hk).1)); clear ho7 hg7 hl7)
              go_roundw
              case rel => exact ⟨k + 1, by omega, by omega, HB7, Lib.hid (by rw [HPE.out, natI_snoc]; exact HO7.out), by go_num⟩
              case measure => simp [intOf]; omega
            · have e2 := beq3n e1
              have HPE : Hid (places ((keysOf Z).take (k + 1)) (a, b, d) = PK) := Lib.hid (by rw [HPS.out, if_neg e1, List.append_nil])
              clear e1 HPS
              go_wp2_with fail
              go_region_held3 (fun W => W.cell? ⟨ab, ax + k * 4, none⟩ = some (.int .i64 x1) ∧ W.cell? ⟨ab, ax + k * 4 + 1, none⟩ = some (.int .i64 y1) ∧ W.cell? ⟨ab, ax + k * 4 + 2, none⟩ = some (.int .i64 u1) ∧ W.cell? ⟨ab, ax + k * 4 + 3, none⟩ = some (.int .i64 v1) ∧ W.cell? ⟨ab, ax + i * 4, none⟩ = some (.int .i64 a) ∧ W.cell? ⟨ab, ax + i * 4 + 1, none⟩ = some (.int .i64 b) ∧ W.cell? ⟨ab, ax + i * 4 + 2, none⟩ = some (.int .i64 c') ∧ W.cell? ⟨ab, ax + i * 4 + 3, none⟩ = some (.int .i64 d)) (first | exact ⟨c0, c1, c2, c3, d0, d1, d2, d3⟩ | exact ⟨r50, r51, r52, r53, r54, r55, r56, r57⟩ | exact ⟨r40, r41, r42, r43, r44, r45, r46, r47⟩ | go_keep)
                (first
                  | (go_at_call 32; refine (of_any x1 y1 u1 v1 _).mono ?_; rintro e w4 ⟨rfl, hb4⟩; have r40 := cell_below hb4 c0; have r41 := cell_below hb4 c1; have r42 := cell_below hb4 c2; have r43 := cell_below hb4 c3; have r44 := cell_below hb4 d0; have r45 := cell_below hb4 d1; have r46 := cell_below hb4 d2; have r47 := cell_below hb4 d3; have HB4 := Lib.hid ((below_drew HBk.out).trans (hb4.mono HBk.out.size)); have HO4 := Lib.hid (own_below (w := wr) HOk.out ⟨hb4.os, hb4.tape, hb4.output, hb4.size, hb4.block⟩); clear hb4)
                  | (go_at_call 32; refine (of_any a b c' d _).mono ?_; rintro e w5 ⟨rfl, hb5⟩; have r50 := cell_below hb5 r40; have r51 := cell_below hb5 r41; have r52 := cell_below hb5 r42; have r53 := cell_below hb5 r43; have r54 := cell_below hb5 r44; have r55 := cell_below hb5 r45; have r56 := cell_below hb5 r46; have r57 := cell_below hb5 r47; have HB5 := Lib.hid (HB4.out.trans (hb5.mono HB4.out.size)); have HO5 := Lib.hid (own_below HO4.out hb5); clear hb5))
              go_wp2
              go_roundw
              case rel => exact ⟨k + 1, by omega, by omega, HB5, Lib.hid (by rw [HPE.out]; exact HO5.out), by go_num⟩
              case measure => simp [intOf]; omega
          · obtain rfl : k = Z.length := by omega
            rw [List.take_of_length_le (l := keysOf Z) (by rw [HKL.out]; omega)] at HOk
            have HNW := Lib.hid (grpsTo_new HEP.out HME.out)
            have hpl : (places (keysOf Z) (a, b, d)).length ≤ 200000 := by have := places_len (keysOf Z) (a, b, d); rw [HKL.out] at this; omega
            generalize places (keysOf Z) (a, b, d) = PL at *
            obtain ⟨pa, pc, rfl, hpr, hpf⟩ := own_row encI_len HOk.out
            rw [natI_len]
            have hgl := grpsTo_len (keysOf Z) i
            have HBw := Lib.hid (HB3.out.trans (HBk.out.mono HB3.out.size))
            obtain ⟨vs, g1, g2, g3⟩ := HG3.out.below HBk.out
            have hlt3 := (obtain_lt HG3.out)
            have hvr : vs.length ≤ 200000 := by rw [g2]; rw [HKL.out] at hgl; omega
            have HP3 := Lib.hid (fun ad (e : pa = some ad) (h0 : 0 < PL.length) => show some ad.block ≠ u3.ownBlock from fun e2 => by have h1 := (hpf ad e).2.1; have h2 := hlt3 ad.block e2.symm; omega)
            have HPR := Lib.hid hpr
            have G1 := Lib.hid (g1.alloc (.cells #[.slice pa PL.length pc] 31))
            have G3 := Lib.hid g3
            have G2 := Lib.hid g2
            have HBx := Lib.hid (HBw.out.alloc HBw.out.size (.cells #[.slice pa PL.length pc] 31))
            have hwx := (Below.refl _ wr).alloc (Nat.le_refl _) (.cells #[.slice pa PL.length pc] 31)
            have HWX := Lib.hid hwx
            clear hpr hpf g1 g2 g3 hgl hlt3 hwx HOk
            go_wp2_with (at_builtin; refine wpList_append_row (enc := encV) Try.underlying28 infoInts rfl (by omega) (by omega) encV_len rfl _ _ rfl w.heap.size _ vs (.slice pa PL.length pc) (by intro u hu; simp [encV] at hu; subst hu; rfl) rfl G1.out _ 1 rfl (fun i hi => cell_newL rfl (encV (.slice pa PL.length pc)) 31 i) hvr HBx.out.size ?_; intro g7 cap7 w7 ho7 hg7 hl7 hb7 hlt7; have HG7 := Lib.hid (RG.push G1.out G2.out (fun i hi => by obtain ⟨ao, cp, e1, e2, e3⟩ := G3.out i hi; exact ⟨ao, cp, e1, e2.below' HWX.out, e3⟩) (HPR.out.below' HWX.out) HP3.out ho7 hg7 hl7); have HB7 := Lib.hid (HBx.out.grown hg7 HBx.out.size (fun k hk => (G1.out.lt k hk).1)); clear ho7 hg7 hl7)
            go_roundw
            case rel => exact ⟨i + 1, by omega, HB7, Lib.hid (by rw [HNW.out]; exact HG7.out), by go_num⟩
            case measure => simp [intOf]; omega
    · obtain rfl : i = Z.length := by omega
      obtain ⟨ga, gcap, rfl, hgr⟩ := HG.out.row
      rw [← HKL.out, grpsTo_all] at hgr
      have HGR := Lib.hid hgr
      have hgl : (grpsTo (keysOf Z) Z.length).length = (grps (keysOf Z)).length := by rw [← HKL.out, grpsTo_all]
      rw [hgl]
      clear hgr hgl HG
      go_wp2
      go_ret
      exact ⟨ga, gcap, rfl, HGR.out, HB.out⟩
end Go.Proofs.Ytieomjkiabfhcaa
