/- What sums of package table does: for each group the sum of the amounts at its places, if all of them fit. -/
import Derived.Test.YtieomjkiabfhcaaTClo
import Derived.OwnWalk
import Derived.Maps.AppendAt
namespace Go.Proofs.Ytieomjkiabfhcaa
open Go.RowKit
set_option linter.unusedVariables false

section
variable {α : Type} {enc : α → List Value} {k : Nat}
theorem below_of_none {w w' : World} (h : w.grownBy w' none) : Below w.heap.size w w' := ⟨h.os, h.tape, h.output, h.size, fun i hi => h.block i hi (by simp)⟩
/-- A row with room, and nothing in it yet. -/
theorem wpList_make_row {t e : TypeId} {bytes : Nat} {z : Value} (ht : Try.prog.underlying t = some (.slice e)) (hinfo : (Try.prog.info? e).map (fun i => (i.zero, i.size, i.bytes)) = some (some z, k, bytes)) (hby : bytes ≤ 64) (enc : α → List Value)
    {w : World} {ops : Array Oper} {rest : List Oper} {o : Oper} {a : Act} {Q : Exit → Act → World → Prop} (hgd : o.guard = none) (l c : Operand) (hop : o.op = Op.makeSlice t l c)
    (base n : Nat) (hl : a.eval l = .int .i64 0) (hc : a.eval c = .int .i64 (n : Int)) (hn : n ≤ 200000) (hb : base ≤ w.heap.size)
    (hK : ∀ w', w'.ownsRow base e k (.slice (some ⟨w.heap.size, 0, none⟩) 0 n) ([] : List α).length (([] : List α).flatMap enc) → Below w.heap.size w w' → wpList Try.prog ops Q rest (a.put o.dst (.slice (some ⟨w.heap.size, 0, none⟩) 0 n)) w') : wpList Try.prog ops Q (o :: rest) a w := by
  obtain ⟨i0, hi, hz0, hz1, hz2⟩ := info_parts hinfo
  refine wpList_make_own w hgd l c t hop base e i0 _ k ht hi hz0 hz1 .i64 .i64 (n : Int) n hl hc rfl ?_ (by unfold maxLen; omega) hb ?_
  · rw [hz2]
    have : bytes * n ≤ 64 * 200000 := Nat.mul_le_mul hby hn
    omega
  · intro w' h1 h2
    exact hK w' h1 (below_of_none h2)
theorem own_below {w w' : World} {base : Nat} {e : TypeId} {v : Value} {n : Nat} {xs : List Value} (h : w.ownsRow base e k v n xs) (hb : Below w.heap.size w w') : w'.ownsRow base e k v n xs :=
  h.kept (grown_of_below hb none) (by
    cases v.ownBlock with
    | none => exact .inl rfl
    | some g => exact .inr (by simp))
end
/-- The places of a slice of slices hold these rows of places. -/
def GRow (w : World) (ga : Option Addr) (G : List (List Nat)) : Prop := ∀ i (hi : i < G.length), ∃ b o ao cap, ga = some ⟨b, o, none⟩ ∧ b < w.heap.size ∧ w.cell? ⟨b, o + i, none⟩ = some (.slice ao G[i].length cap) ∧ Row encI 1 w ao (natI G[i])
theorem GRow.below' {w w' : World} {ga : Option Addr} {G : List (List Nat)} (h : GRow w ga G) (hb : Below w.heap.size w w') : GRow w' ga G := by
  intro i hi
  obtain ⟨b, o, ao, cap, e, h1, h2, h3⟩ := h i hi
  exact ⟨b, o, ao, cap, e, Nat.lt_of_lt_of_le h1 hb.size, by rw [hb.cell h1]; exact h2, h3.below' hb⟩
theorem GRow.of {α : Type} {kt : TypeId} {enc : α → List Value} {k : Nat} {w0 w : World} {B : Nat} {ks gs : Value} {mk keys : List α} {G : List (List Nat)} {vs : List Value} {own : Nat → Nat} (h : GIx kt enc k w0 w B ks gs mk keys G vs own) :
    ∃ ga cap, gs = .slice ga G.length cap ∧ GRow w ga G := by
  obtain ⟨ga, cap, e, _, _⟩ := own_row encV_len h.gr
  refine ⟨ga, cap, by rw [e, h.len], fun i hi => ?_⟩
  obtain ⟨g, cap', e', hc, hf, _, hg⟩ := h.slot hi
  rw [e, h.len] at e'
  cases e'
  obtain ⟨ao, c, e2, hr, _⟩ := own_row encI_len (h.inn i hi)
  rw [getD_of_lt hi] at e2 hr
  exact ⟨g, 0, ao, c, rfl, hg, by rw [Nat.zero_add, hc, e2, natI_len], hr⟩
/-- The sums of all groups. -/
def tots (f : Nat → Int) (G : List (List Nat)) : List Int := G.map fun g => (g.map f).sum
theorem tots_len (f : Nat → Int) (G : List (List Nat)) : (tots f G).length = G.length := by simp [tots]
def AllIn (l : List Int) : Prop := ∀ s ∈ l, in64 s
/-- What sums tells. -/
def SumsRes (S : List Int) (w : World) (e : Ending) (w' : World) : Prop :=
  Below w.heap.size w w' ∧ ((AllIn S ∧ ∃ ta tcap, e = .returned (.tuple #[.slice ta S.length tcap, .bool true]) ∧ Row encI 1 w' ta S) ∨ (¬ AllIn S ∧ e = .returned (.tuple #[.slice none 0 0, .bool false])))
set_option maxRecDepth 100000 in
set_option maxHeartbeats 2000000 in
theorem sums_some (K : Nat) (cp : Array Value) (ad : Addr) (gcap : Nat) (G : List (List Nat)) (f : Nat → Int) (w : World) (hG : GRow w (some ad) G) (hn : G.length ≤ 200) (hm : ∀ g ∈ G, g.length ≤ 200) (hen : ∀ args w, (callFunc K args).run Try.prog w = .ok (.enter K args) w)
    (hclo : ∀ g ∈ G, ∀ i ∈ g, ∀ W, Below w.heap.size w W → Calls Try.prog K (#[.int .i64 (i : Int)] ++ cp) W fun e W' => e = .returned (.int .i64 (f i)) ∧ Below W.heap.size W W') (hf : ∀ g ∈ G, ∀ i ∈ g, in64 (f i)) :
    Calls Try.prog 38 #[.slice (some ad) G.length gcap, .func (.func K) #[] cp] w (SumsRes (tots f G) w) := by
  have HG := Lib.hid hG
  have HM := Lib.hid hm
  have HC := Lib.hid hclo
  have HF := Lib.hid hf
  clear hG hm hclo hf
  go_enter Try.func38, Try.ntmps38
  go_wp2_with (at_make; refine wpList_make_row Try.underlying31 infoInt (by omega) encI rfl _ _ rfl w.heap.size G.length rfl rfl (by omega) (Nat.le_refl _) ?_; intro w1 ho1 hb1; have HO1 := Lib.hid ho1; have HB1 := Lib.hid hb1; clear ho1 hb1)
  go_loopw [6, 19] (fun tot si wr => ∃ (i : Nat), i ≤ G.length ∧ Hid (Below w.heap.size w wr) ∧ Hid (wr.ownsRow w.heap.size 3 1 tot ((tots f G).take i).length (((tots f G).take i).flatMap encI)) ∧ Hid (AllIn ((tots f G).take i)) ∧ si = .int .i64 (i : Int)) (fun _ si _ => G.length - (intOf si).toNat)
  case atStart => exact ⟨0, by omega, HB1, HO1, Lib.hid (fun s hs => by simp at hs), rfl⟩
  case round =>
    clear HO1 HB1
    obtain ⟨i, hi, HB, HO, HA, rfl⟩ := hrel
    obtain ⟨wo, hwo⟩ : ∃ wo, wo = wr := ⟨_, rfl⟩
    subst hwo
    by_cases hlt : i < G.length
    · have hli : (i : Int) < (G.length : Int) := by omega
      obtain ⟨gb, go, ao, cap, e, hgb, hgc, hrow⟩ := (HG.out.below' HB.out) i hlt
      cases e
      obtain ⟨g, hg⟩ : ∃ g, G[i] = g := ⟨_, rfl⟩
      rw [hg] at hgc hrow
      have hgm : g ∈ G := hg ▸ List.getElem_mem hlt
      have hgl := HM.out g hgm
      have HGM := Lib.hid hgm
      have HGE := Lib.hid hg
      have HR := Lib.hid hrow
      clear hg hgm hrow
      go_wp2_with (at_make; refine wpList_make_row Try.underlying31 infoInt (by omega) encI rfl _ _ rfl wo.heap.size g.length rfl rfl (by omega) (Nat.le_refl _) ?_; intro w2 ho2 hb2; have HO2 := Lib.hid ho2; have HB2 := Lib.hid hb2; clear ho2 hb2)
      go_loopw [9, 28] (fun am sj wi => ∃ (j : Nat), j ≤ g.length ∧ Hid (Below wo.heap.size wo wi) ∧ Hid (wi.ownsRow wo.heap.size 3 1 am ((g.take j).map f).length (((g.take j).map f).flatMap encI)) ∧ sj = .int .i64 (j : Int)) (fun _ sj _ => g.length - (intOf sj).toNat)
      case atStart => exact ⟨0, by omega, HB2, HO2, rfl⟩
      case round =>
        clear HO2 HB2
        obtain ⟨j, hj, HBi, HOi, rfl⟩ := hrel
        by_cases hlj : j < g.length
        · have hljI : (j : Int) < (g.length : Int) := by omega
          obtain ⟨b2, o2, e2, hb2, hc2⟩ := (HR.out.below' HBi.out).num (i := j) (by rw [natI_len]; exact hlj)
          cases e2
          obtain ⟨p, hp⟩ : ∃ p, g[j] = p := ⟨_, rfl⟩
          have hpm : p ∈ g := hp ▸ List.getElem_mem hlj
          have hcv : (natI g)[j]'(by rw [natI_len]; exact hlj) = (p : Int) := by simp [natI, hp]
          rw [hcv] at hc2
          have HBw : Hid (Below w.heap.size w wr) := Lib.hid (HB.out.trans (HBi.out.mono HB.out.size))
          have HCT := Lib.hid (HC.out g HGM.out p hpm wr HBw.out)
          have htk : (g.take (j + 1)).map f = (g.take j).map f ++ [f p] := by rw [take_snoc g hlj, hp, List.map_append]; rfl
          have hroom : ((g.take j).map f).length ≤ 200000 := by simp; omega
          generalize (g.take j).map f = A at *
          have HTK := Lib.hid htk
          clear hp hpm hcv htk
          go_wp2_with fail
          refine HCT.out.mono ?_
          rintro e w3 ⟨rfl, hb3⟩
          have HO3 := Lib.hid ((own_below HOi.out hb3).alloc (.cells #[.int .i64 (f p)] 3))
          have HB3 := Lib.hid ((HBi.out.trans (hb3.mono HBi.out.size)).alloc (Nat.le_trans HBi.out.size hb3.size) (.cells #[.int .i64 (f p)] 3))
          clear hb3 HCT HOi HBi
          go_wp2_with (at_builtin; refine wpList_append_row (enc := encI) Try.underlying31 infoInt rfl (by omega) (by omega) encI_len rfl _ _ rfl wo.heap.size _ A (f p) (encI_one _) rfl HO3.out _ 1 rfl (fun i hi => cell_newL rfl (encI (f p)) 3 i) hroom HB3.out.size ?_; intro g4 cap4 w4 ho4 hg4 hl4 hb4 hlt4; have HO4 := Lib.hid ho4; have HB4 := Lib.hid (HB3.out.grown hg4 HB3.out.size (fun k hk => (HO3.out.lt k hk).1)); clear ho4 hg4 hl4)
          go_roundw
          case rel => exact ⟨j + 1, by omega, HB4, Lib.hid (by rw [HTK.out]; exact HO4.out), by go_num⟩
          case measure => simp [intOf]; omega
        · obtain rfl : j = g.length := by omega
          rw [List.take_length] at HOi
          have HIN : Hid (In64 (g.map f)) := Lib.hid (fun z hz => by obtain ⟨q, hq, rfl⟩ := List.mem_map.1 hz; exact HF.out g HGM.out q hq)
          have hgl2 : (g.map f).length ≤ 200 := by simpa using hgl
          have HBw : Hid (Below w.heap.size w wr) := Lib.hid (HB.out.trans (HBi.out.mono HB.out.size))
          have HOw := Lib.hid (own_below HO.out HBi.out)
          have htt : (tots f G).take (i + 1) = (tots f G).take i ++ [(g.map f).sum] := by
            rw [take_snoc _ (by rw [tots_len]; exact hlt)]; congr 1; simp [tots, HGE.out]
          have hroom : ((tots f G).take i).length ≤ 200000 := by rw [List.length_take, tots_len]; omega
          clear HBi HO HB
          generalize g.map f = A at *
          generalize (tots f G).take i = T at *
          have HTT := Lib.hid htt
          obtain ⟨aa, ac, rfl, har, haf⟩ := own_row encI_len HOi.out
          have HRI := Lib.hid (ri_of_row har)
          clear har haf HOi htt
          by_cases hfit : in64 A.sum
          · have HFT := Lib.hid (fitR_yes hfit)
            have HFI := Lib.hid hfit
            clear hfit
            go_wp2_with (first
              | (go_at_call 54; refine (sum_any aa _ ac A _ rfl HRI.out HIN.out (by omega)).mono ?_; rintro e w3 ⟨rfl, rfl⟩; rw [HFT.out]; have HO3 := Lib.hid (HOw.out.alloc (.cells #[.int .i64 A.sum] 3)); have HB3 := Lib.hid (HBw.out.alloc HBw.out.size (.cells #[.int .i64 A.sum] 3)))
              | (at_builtin; refine wpList_append_row (enc := encI) Try.underlying31 infoInt rfl (by omega) (by omega) encI_len rfl _ _ rfl w.heap.size _ T A.sum (encI_one _) rfl HO3.out _ 1 rfl (fun i hi => cell_newL rfl (encI A.sum) 3 i) hroom HB3.out.size ?_; intro g4 cap4 w4 ho4 hg4 hl4 hb4 hlt4; have HO4 := Lib.hid ho4; have HB4 := Lib.hid (HB3.out.grown hg4 HB3.out.size (fun k hk => (HO3.out.lt k hk).1)); clear ho4 hg4 hl4))
            go_roundw
            case rel => exact ⟨i + 1, by omega, HB4, Lib.hid (by rw [HTT.out]; exact HO4.out), Lib.hid (by
              rw [HTT.out]; intro s hs
              rcases List.mem_append.1 hs with hs | hs
              · exact HA.out s hs
              · simp at hs; rw [hs]; exact HFI.out), by go_num⟩
            case measure => simp [intOf]; omega
          · have HFT := Lib.hid (fitR_no hfit)
            have HFI := Lib.hid hfit
            clear hfit
            go_wp2_with (go_at_call 54; refine (sum_any aa _ ac A _ rfl HRI.out HIN.out (by omega)).mono ?_; rintro e w3 ⟨rfl, rfl⟩; rw [HFT.out])
            go_ret2
            exact ⟨HBw.out, .inr ⟨fun h => HFI.out (h _ (List.mem_of_mem_take (i := i + 1) (by rw [HTT.out]; simp))), rfl⟩⟩
    · obtain rfl : i = G.length := by omega
      have htl : (tots f G).take G.length = tots f G := List.take_of_length_le (by rw [tots_len]; omega)
      rw [htl] at HO HA
      generalize tots f G = T at *
      obtain ⟨aa, ac, rfl, har, haf⟩ := own_row encI_len HO.out
      have HR := Lib.hid har
      clear har haf HO htl
      go_wp2
      go_ret2
      exact ⟨HB.out, .inl ⟨HA.out, aa, ac, rfl, HR.out⟩⟩
theorem sums_nil (K : Nat) (cp : Array Value) (ao : Option Addr) (gcap : Nat) (w : World) : Calls Try.prog 38 #[.slice ao 0 gcap, .func (.func K) #[] cp] w (SumsRes [] w) := by
  go_enter Try.func38, Try.ntmps38
  go_wp2_with (at_make; refine wpList_make_row Try.underlying31 infoInt (by omega) encI rfl _ _ rfl w.heap.size 0 rfl rfl (by omega) (Nat.le_refl _) ?_; intro w1 ho1 hb1; have HO1 := Lib.hid ho1; have HB1 := Lib.hid hb1; clear ho1 hb1)
  refine wp_loop_rounds 1 ?_
  rw [rounds_succ]
  go_wp2
  go_ret2
  exact ⟨HB1.out, .inl ⟨fun s hs => by simp at hs, _, _, rfl, Row.nil _ _⟩⟩
theorem sums_any (K : Nat) (cp : Array Value) (ga : Option Addr) (gcap : Nat) (G : List (List Nat)) (f : Nat → Int) (w : World) (hG : GRow w ga G) (hn : G.length ≤ 200) (hm : ∀ g ∈ G, g.length ≤ 200) (hen : ∀ args w, (callFunc K args).run Try.prog w = .ok (.enter K args) w)
    (hclo : ∀ g ∈ G, ∀ i ∈ g, ∀ W, Below w.heap.size w W → Calls Try.prog K (#[.int .i64 (i : Int)] ++ cp) W fun e W' => e = .returned (.int .i64 (f i)) ∧ Below W.heap.size W W') (hf : ∀ g ∈ G, ∀ i ∈ g, in64 (f i)) :
    Calls Try.prog 38 #[.slice ga G.length gcap, .func (.func K) #[] cp] w (SumsRes (tots f G) w) := by
  cases G with
  | nil => exact sums_nil K cp ga gcap w
  | cons g G =>
    obtain ⟨b, o, ao, cap, rfl, _⟩ := hG 0 (by simp)
    exact sums_some K cp _ gcap _ f w hG hn hm hen hclo hf
end Go.Proofs.Ytieomjkiabfhcaa
