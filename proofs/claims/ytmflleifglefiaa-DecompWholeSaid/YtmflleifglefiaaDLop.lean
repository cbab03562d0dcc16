/- All chains, and all cycles, are taken away: package decomp's chains and cycles. -/
import Derived.Test.YtmflleifglefiaaDRem
namespace Go.Proofs.Ytmflleifglefiaa
open Go.RowKit
set_option linter.unusedVariables false

theorem own_keptS {w w' : World} {B : Nat} {e : TypeId} {k : Nat} {v : Value} {n : Nat} {xs : List Value} {S : Nat → Prop} (h : w.ownsRow B e k v n xs) (hk : Kept S w w') (hS : ∀ i, S i → i < B) : w'.ownsRow B e k v n xs := by
  refine ⟨h.1, ?_⟩
  rcases h.2 with h1 | ⟨g', cap, cur, rfl, h2, h3, h4⟩
  · exact .inl h1
  · exact .inr ⟨g', cap, cur, rfl, h2, hk.old h3 (fun q => by have := hS _ q; omega), h4⟩
theorem ChI.keptS {w w' : World} {B : Nat} {v : Value} {X : List ChT} {S : Nat → Prop} (h : ChI w B v X) (hk : Kept S w w') (hS : ∀ i, S i → i < B) : ChI w' B v X :=
  ⟨own_keptS h.row hk hS, fun x hx => ⟨lst_keptD (h.inn x hx).1 hk (fun ad e h0 q => by have h1 := ((h.inn x hx).2 ad e h0).1; have h2 := hS _ q; omega), (h.inn x hx).2⟩⟩
theorem ChI.mono {w : World} {B A : Nat} {v : Value} {X : List ChT} (h : ChI w B v X) (hA : A ≤ B) : ChI w A v X :=
  ⟨own_mono h.row hA, fun x hx => ⟨(h.inn x hx).1, fun ad e h0 => by obtain ⟨h1, h2⟩ := (h.inn x hx).2 ad e h0; exact ⟨by omega, h2⟩⟩⟩
theorem RstW.keptR {w w' : World} {B : Nat} {ao : Option Addr} {cap : Nat} {zo : Option Addr} {nl : Nat} {Z : List ArcT} {f : List Int} {S : Nat → Prop} (h : RstW w B ao cap zo nl Z f) (hk : Kept S w w') (h1 : ∀ i, OwnB (.slice ao nl cap) i → ¬ S i) (h2 : ∀ ad, zo = some ad → 0 < nl → ¬ S ad.block) : RstW w' B ao cap zo nl Z f := by
  refine ⟨h.len, h.flow, ⟨h.own.1, ?_⟩, lst_keptD h.zer hk (fun ad e h0 => h2 ad e (by rw [zerosK_len] at h0; exact h0)), h.sep⟩
  rcases h.own.2 with h3 | ⟨g', cap', cur, e, h3, h4, h5⟩
  · exact .inl h3
  · exact .inr ⟨g', cap', cur, e, h3, hk.old h4 (h1 g' (by unfold OwnB; rw [e]; rfl)), h5⟩
theorem DPathRes.got {o : Option (List StepT)} {w w' : World} {e : Ending} (h : DPathRes o w e w') : ∃ av, e = .returned (.tuple #[av, .bool o.isSome]) ∧ (∀ l, o = some l → OwnL encI w' w.heap.size 3 av (arcsL l)) ∧ Below w.heap.size w w' := by
  rcases h with ⟨rfl, rfl, hb⟩ | ⟨l, v, rfl, rfl, ho, hb⟩
  · exact ⟨_, rfl, (fun l hl => by cases hl), hb⟩
  · exact ⟨v, rfl, (fun l' hl => by cases hl; exact ho), hb⟩
theorem DCycRes.got {o : Option (List StepT)} {w w' : World} {e : Ending} (h : DCycRes o w e w') : ∃ av, e = .returned (.tuple #[av, .bool o.isSome]) ∧ (∀ l, o = some l → OwnL encI w' w.heap.size 3 av (arcsL l)) ∧ Below w.heap.size w w' := by
  rcases h with ⟨rfl, ⟨v, rfl⟩, hb⟩ | ⟨l, v, rfl, rfl, ho, hb⟩
  · exact ⟨v, rfl, (fun l hl => by cases hl), hb⟩
  · exact ⟨v, rfl, (fun l' hl => by cases hl; exact ho), hb⟩
/-- What lies about in a round: what is left, the chains so far, and that nothing else of what was there is touched. -/
structure Lop (w1 wr : World) (B : Nat) (ao : Option Addr) (cap : Nat) (zo : Option Addr) (nl : Nat) (Z : List ArcT) (f : List Int) (v : Value) (X : List ChT) : Prop where
  rst : RstW wr B ao cap zo nl Z f
  row : ChI wr w1.heap.size v X
  kept : Kept (OwnB (.slice ao nl cap)) w1 wr
  ob : ∀ i, OwnB (.slice ao nl cap) i → i < w1.heap.size
  zb : ∀ ad, zo = some ad → 0 < nl → ad.block < w1.heap.size
section
variable {w1 wr w2 w6 : World} {B : Nat} {ao : Option Addr} {cap : Nat} {zo : Option Addr} {nl : Nat} {Z : List ArcT} {f f2 : List Int} {v : Value} {X : List ChT}
theorem Lop.start (h : RstW w1 B ao cap zo nl Z f) : Lop w1 w1 B ao cap zo nl Z f (.slice none 0 0) [] :=
  ⟨h, ChI.nil _ _, Kept.refl _ _, fun i hi => own_lt h.own hi, fun ad e h0 => h.zer.lt ad e (by rw [zerosK_len]; exact h0)⟩
theorem Lop.next (h : Lop w1 wr B ao cap zo nl Z f v X) (hb : Below wr.heap.size wr w2) : Lop w1 w2 B ao cap zo nl Z f v X :=
  ⟨h.rst.below hb, h.row.below hb, h.kept.trans' (Kept.of_below hb), h.ob, h.zb⟩
theorem Lop.size (h : Lop w1 wr B ao cap zo nl Z f v X) : w1.heap.size ≤ wr.heap.size := h.kept.size
theorem Lop.grow {g c7 : Nat} {x : ChT} {o : Obj} (h : Lop w1 wr B ao cap zo nl Z f v X) (hr : RstW w2 B ao cap zo nl Z f2) (hk : Kept (OwnB (.slice ao nl cap)) wr w2) (hx : Lst encI w2 x.1.1 x.2.1) (hxb : ∀ ad, x.1.1 = some ad → 0 < x.2.1.length → w1.heap.size ≤ ad.block ∧ v.ownBlock ≠ some ad.block)
    (ho : w6.ownsRow w1.heap.size 49 2 (.slice (some ⟨g, 0, none⟩) (X.length + 1) c7) (X ++ [x]).length ((X ++ [x]).flatMap encC)) (hg : (w2.alloc o).grownBy w6 v.ownBlock) (hl : v.ownBlock = some g ∨ g = (w2.alloc o).heap.size) :
    Lop w1 w6 B ao cap zo nl Z f2 (.slice (some ⟨g, 0, none⟩) (X.length + 1) c7) (X ++ [x]) := by
  have hba := (Below.refl w2.heap.size w2).alloc (Nat.le_refl _) o
  have h3 := (h.row.keptS hk h.ob).below hba
  have hkg := Kept.of_grown (S := fun i => v.ownBlock = some i) hg (fun k e => e)
  refine ⟨(hr.below hba).keptR hkg (fun i hi e => ?_) (fun ad e h0 q => ?_), h3.add (hx.below hba) hxb ho hg hl, ?_, h.ob, h.zb⟩
  · have h1 := own_block h.row.row e
    have h2 := h.ob i hi
    omega
  · have h1 := own_block h.row.row q
    have h2 := h.zb ad e h0
    omega
  · exact ((h.kept.trans' hk).alloc o).trans hkg (fun i hi e => by have h1 := own_block h.row.row e; omega)
end
section
variable (N : Nat) (b : Bool) (B : Nat) (ao : Option Addr) (cap : Nat) (zo : Option Addr) (zc nl : Nat) (Z : List ArcT) (G : List Int)
set_option maxRecDepth 100000 in
set_option maxHeartbeats 8000000 in
theorem dchains_at (i j : Nat) (w : World) (h : RstW w B ao cap zo nl Z G) (hc : checkE (N : Int) Z = 0) (hnl : nl ≤ 200) (hN : N ≤ 50) (hi : i < N) (hj : j < N) (hij : i ≠ j) :
    Calls Try.prog 27 #[.agg #[.int .i64 (N : Int), .bool b, .slice ao nl cap, .slice zo nl zc], .int .i64 (i : Int), .int .i64 (j : Int)] w fun e w' =>
      ∃ v X, e = .returned v ∧ ChI w' w.heap.size v X ∧ X.map (fun x => x.2) = ((chainsK Z N i j Z.length G).1).map partI ∧ Kept (OwnB (.slice ao nl cap)) w w' := by
  have hb00 := (Below.refl _ w).alloc (Nat.le_refl _) (.cells #[.int .i64 (N : Int), .bool b, .slice ao nl cap, .slice zo nl zc] 57)
  have hn0 := heap_alloc_new w (.cells #[.int .i64 (N : Int), .bool b, .slice ao nl cap, .slice zo nl zc] 57)
  have c0 := cell_whole hn0 0
  have c1 := cell_whole hn0 1
  have c2 := cell_whole hn0 2
  have c3 := cell_whole hn0 3
  obtain ⟨hE1, hZ1, hC1, _⟩ := netD (b := true) (right_iff.1 hc)
  rw [Int.toNat_natCast] at hZ1
  have HZ1 := Lib.hid hZ1
  have HC1 := Lib.hid hC1
  have HC := Lib.hid hc
  have HB0 := Lib.hid hb00
  have HL0 := Lib.hid (Lop.start (h.below hb00))
  have HOB : Hid (∀ k, OwnB (.slice ao nl cap) k → k < w.heap.size) := Lib.hid (fun k hk => own_lt h.own hk)
  have HNI := Lib.hid (ChnI.start (N := N) (s := i) (t := j) h.flow)
  have HZN := Lib.hid h.len
  have HCALL := Lib.hid (dpath_at N b B ao cap zo zc nl Z G i j _ (h.below hb00) hc hnl hN hi hj hij)
  have HBX := Lib.hid hn0
  obtain ⟨g0, hg0⟩ : ∃ g0, w.heap.size = g0 := ⟨_, rfl⟩
  have HG0 := Lib.hid hg0
  rw [hg0] at HBX HOB
  clear h hc hb00 hn0 hE1 hZ1 hC1
  go_enter Try.func27, Try.ntmps27
  go_wp2_with fail
  refine HCALL.out.mono ?_
  clear HCALL hg0 c0 c1 c2 c3
  intro e w4 hres
  obtain ⟨av4, rfl, ho4, hb4⟩ := hres.got
  have HO4 := Lib.hid ho4
  have HL4 := Lib.hid (HL0.out.next hb4)
  clear hres ho4 hb4 HL0
  generalize w.alloc (.cells #[.int .i64 (N : Int), .bool b, .slice ao nl cap, .slice zo nl zc] 57) = w1 at *
  go_wp2_with fail
  go_loopg [7, 8, 9] (Z.length + 1) (fun gk rv av kv wr => ∃ f m X Bv, kv = .bool (wayK (fromS Z) (toS Z) (alongL f) N i j).isSome ∧ Hid (m < gk) ∧ Hid (ChnI Z N i j G f m X) ∧ Hid (Lop w1 wr B ao cap zo nl Z f rv X) ∧ Hid (∀ l, wayK (fromS Z) (toS Z) (alongL f) N i j = some l → OwnL encI wr Bv 3 av (arcsL l)) ∧ Hid (w1.heap.size ≤ Bv ∧ ∀ k, rv.ownBlock = some k → k < Bv))
  case atStart => exact ⟨G, Z.length, [], w1.heap.size, rfl, Lib.hid (Nat.lt_succ_self _), HNI, HL4, HO4, Lib.hid ⟨Nat.le_refl _, fun k e => by cases e⟩⟩
  case round =>
    clear HNI HL4 HO4
    obtain ⟨f, m, X, Bv, rfl, HMU, HCI, HLP, HOW, HBV⟩ := hrel
    obtain ⟨gk0, hgk⟩ : ∃ gk0, gk0 = gk := ⟨_, rfl⟩
    subst hgk
    obtain ⟨W, hW⟩ : ∃ W, wayK (fromS Z) (toS Z) (alongL f) N i j = W := ⟨_, rfl⟩
    have HWE := Lib.hid hW
    rw [hW] at HOW ⊢
    clear hW
    cases W with
    | none =>
      have HDN := Lib.hid (HCI.out.done HWE.out)
      go_wp2
      go_ret
      exact ⟨_, X, rfl, HLP.out.row.mono HB0.out.size, HDN.out, (Kept.of_below HB0.out).trans' HLP.out.kept⟩
    | some l =>
      have ho := HOW.out l rfl
      obtain ⟨va, vc, rfl, hv⟩ := ho.lst
      obtain ⟨hT, m2, rfl, hci2⟩ := HCI.out.next HZ1.out hi hij HWE.out ((va, vc), (arcsL l, leastK f l)) rfl
      have HV := Lib.hid hv
      have HVO : Hid (∀ ad, va = some ad → Bv ≤ ad.block) := Lib.hid (fun ad e => by subst e; exact own_block ho rfl)
      have HT := Lib.hid hT
      have HCI2 := Lib.hid hci2
      have HAL := Lib.hid (arcsL_len l)
      obtain ⟨n, hn⟩ : ∃ n, (arcsL l).length = n := ⟨_, rfl⟩
      have HLN : Hid (l.length = n) := Lib.hid (by rw [← hn, HAL.out])
      have HAN := Lib.hid hn
      obtain ⟨rc, rcc, hrv, _⟩ := HLP.out.row.slice
      have hXl : X.length ≤ 200 := by have h1 := HCI.out.len; have h2 := HZN.out; omega
      rw [hn]
      have hbw := HLP.out.kept.old HBX.out (fun q => by have := HOB.out _ q; omega)
      have c0 := cell_whole hbw 0
      have c1 := cell_whole hbw 1
      have c2 := cell_whole hbw 2
      have c3 := cell_whole hbw 3
      obtain ⟨kk, hkk⟩ : ∃ kk, leastK f l = kk := ⟨_, rfl⟩
      have HKE := Lib.hid hkk
      obtain ⟨f2, hf2⟩ : ∃ f2, takeK (leastK f l) f l = f2 := ⟨_, rfl⟩
      have HFE := Lib.hid hf2
      rw [hf2, hkk] at HCI2
      subst hrv
      clear ho hv hT hci2 hn hkk hf2 hbw HOW
      go_wp2_with (first
        | (go_at_call 48; refine (dremove_at N b B ao cap zo zc nl Z f va vc n l _ HLP.out.rst hnl HLN.out HV.out (fun ad e h0 q => by have h1 := HVO.out ad e; have h2 := HBV.out.1; have h3 := HLP.out.ob _ q; omega) HC1.out i j HT.out).mono ?_; rw [HFE.out, HKE.out]; rintro e w5 ⟨rfl, hr5, hk5⟩; have HR5 := Lib.hid hr5; have HK5 := Lib.hid hk5; have HV5 := Lib.hid (lst_keptD HV.out hk5 (fun ad e h0 q => by have h1 := HVO.out ad e; have h2 := HBV.out.1; have h3 := HLP.out.ob _ q; omega)); have HCH := Lib.hid ((HLP.out.row.keptS hk5 HLP.out.ob).below ((Below.refl w5.heap.size w5).alloc (Nat.le_refl _) (.cells #[.slice va n vc, .int .i64 kk] 49))); have HSZ := Lib.hid (Nat.le_trans HLP.out.size hk5.size); clear hr5 hk5 c0 c1 c2 c3)
        | (at_builtin; refine wpList_append_chain rfl _ _ rfl w1.heap.size (.slice rc X.length rcc) X ((va, vc), (arcsL l, kk)) rfl HCH.out _ 1 rfl (cellsC3 _ 49 _ (by simp) va vc n (arcsL l) kk HAN.out) (by omega) (by have h1 := HSZ.out; simp; omega) ?_; intro g7 cap7 w7 ho7 hg7 hl7 hb7 hlt7; have HL7 := Lib.hid (HLP.out.grow (x := ((va, vc), (arcsL l, kk))) HR5.out HK5.out HV5.out (fun ad e h0 => ⟨by have h1 := HVO.out ad e; have h2 := HBV.out.1; omega, fun q => by have h1 := HVO.out ad e; have h2 := HBV.out.2 _ q; omega⟩) ho7 hg7 hl7); have hbw := HL7.out.kept.old HBX.out (fun q => by have := HOB.out _ q; omega); have c0 := cell_whole hbw 0; have c1 := cell_whole hbw 1; have c2 := cell_whole hbw 2; have c3 := cell_whole hbw 3; have HLT := Lib.hid hlt7; clear ho7 hg7 hl7 hb7 hbw hlt7)
        | (go_at_call 49; refine (dpath_at N b B ao cap zo zc nl Z f2 i j _ HL7.out.rst HC.out hnl hN hi hj hij).mono ?_; intro e w8 hres; obtain ⟨av8, rfl, ho8, hb8⟩ := hres.got; have HO8 := Lib.hid ho8; have HL8 := Lib.hid (HL7.out.next hb8); clear hres ho8 hb8 c0 c1 c2 c3))
      go_roundg (m2 + 1)
      case measure => have := HMU.out; omega
      case rel => exact ⟨f2, m2, _, w7.heap.size, rfl, Lib.hid (Nat.lt_succ_self _), HCI2, HL8, HO8, Lib.hid ⟨HL7.out.size, fun k e => by cases e; exact HLT.out⟩⟩
end
end Go.Proofs.Ytmflleifglefiaa
