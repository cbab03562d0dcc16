/- The document's Fastest, of any network. -/
import Derived.Test.YtfnafdjcncgcnaaARhop
namespace Go.Proofs.Ytfnafdjcncgcnaa
open Go.RowKit
set_option linter.unusedVariables false

theorem relax_is {d : List Int} {a : ArcT} {fv tv et : Int} (h1 : atI d (frN a) = fv) (h2 : atI d (toN a) = tv) (h3 : tm a = et) : relax tm d a = if 0 ≤ fv ∧ (tv < 0 ∨ fv + et < tv) then d.set (toN a) (fv + et) else d := by
  subst h1; subst h2; subst h3
  unfold relax
  by_cases hb : better tm d a
  · have hb' : 0 ≤ atI d (frN a) ∧ (atI d (toN a) < 0 ∨ atI d (frN a) + tm a < atI d (toN a)) := hb
    rw [if_pos hb, if_pos hb']
  · have hb' : ¬ (0 ≤ atI d (frN a) ∧ (atI d (toN a) < 0 ∨ atI d (frN a) + tm a < atI d (toN a))) := hb
    rw [if_neg hb, if_neg hb']
theorem drewB {B : Nat} {w w' : World} (h : Below B w w') (n : Nat) : Below B w (w'.drewN n) := below_drewN h n
theorem drewO {w : World} {B : Nat} {e : TypeId} {v : Value} {L : List Int} (h : OwnL encI w B e v L) (n : Nat) : OwnL encI (w.drewN n) B e v L := h
set_option maxRecDepth 100000 in
set_option maxHeartbeats 4000000 in
theorem rfastest_ok (n : Int) (b : Bool) (ao : Option Addr) (cap : Nat) (Z : List ArcT) (s : Nat) (w : World) (h : Row encA 4 w ao Z) (hc : checkE n Z = 0) (hs : s < n.toNat) :
    Calls Try.prog 23 #[.agg #[.int .i64 n, .bool b, .slice ao Z.length cap], .int .i64 (s : Int)] w (ListsV (fastK tm Z n.toNat s n.toNat) 0 w) := by
  have hR : Right (n, b, Z) := right_iff.1 hc
  have hn := nodesE_ok hR.1
  have hzl : Z.length ≤ 200 := hR.2.1
  simp only at hn
  obtain ⟨N, rfl⟩ : ∃ N : Nat, n = (N : Int) := ⟨n.toNat, by omega⟩
  have hsN : s < N := by simpa using hs
  have hsi : (s : Int) < (N : Int) := by omega
  have HC := Lib.hid hc
  have HRT := Lib.hid hR
  have HND : Hid (decide ((0 : Int) ≤ (s : Int) ∧ (s : Int) < (N : Int)) = true) := Lib.hid (by rw [decide_eq_true_eq]; omega)
  have HR := Lib.hid (row_alloc h (.cells #[.int .i64 (N : Int), .bool b, .slice ao Z.length cap] 24))
  clear h hc hR hs
  go_enter Try.func23, Try.ntmps23
  have c0 := cell_new w #[.int .i64 (N : Int), .bool b, .slice ao Z.length cap] 24 0
  have c1 := cell_new w #[.int .i64 (N : Int), .bool b, .slice ao Z.length cap] 24 1
  have c2 := cell_new w #[.int .i64 (N : Int), .bool b, .slice ao Z.length cap] 24 2
  have HB0 : Hid (Below w.heap.size w (w.alloc (.cells #[.int .i64 (N : Int), .bool b, .slice ao Z.length cap] 24))) := Lib.hid ((Below.refl _ w).alloc (Nat.le_refl _) _)
  go_wp2_with (first
    | (go_at_call 24; refine (rcheck_any (N : Int) b ao cap Z _ HR.out (by unfold maxLen; omega)).mono ?_; rintro e w1 ⟨rfl, hb1⟩; rw [HC.out]; have d0 := cell_below hb1 c0; have d1 := cell_below hb1 c1; have d2 := cell_below hb1 c2; have HR1 := Lib.hid (HR.out.below' hb1); have HB1 := Lib.hid (HB0.out.trans (hb1.mono (by simp))); clear hb1 c0 c1 c2)
    | (go_at_call 33; refine (rnode_is (N : Int) b _ (s : Int) true _ HND.out).mono ?_; rintro e w2 ⟨rfl, hb2⟩; have e0 := cell_below hb2 d0; have e2 := cell_below hb2 d2; have HR2 := Lib.hid (HR1.out.below' hb2); have HB2 := Lib.hid (HB1.out.trans (hb2.mono HB1.out.size)); clear hb2 d0 d1 d2))
  clear HB1 HR1 HR HB0
  go_loopw [7, 8] (fun lv i wr => ∃ t : Nat, t ≤ N ∧ i = .int .i64 (t : Int) ∧ Hid (Below w2.heap.size w2 wr) ∧ Hid (OwnL encI wr w2.heap.size 3 lv (List.replicate t (-1)))) (fun _ i _ => N - (intOf i).toNat)
  case atStart => exact ⟨0, Nat.zero_le _, rfl, Lib.hid (Below.refl _ _), Lib.hid (OwnL.nil _ _ _)⟩
  case round =>
    obtain ⟨t, ht, rfl, HB, HO⟩ := hrel
    have hsz := HB.out.size
    have f0 := cell_below' HB.out e0 (block_lt_of_cell e0)
    by_cases hlt : t < N
    · have hli : (t : Int) < (N : Int) := by omega
      obtain ⟨la, lc, hlv, hll⟩ := HO.out.lst
      subst hlv
      have HO3 := Lib.hid (HO.out.alloc (.cells #[.int .i64 (-1)] 3))
      clear hll
      go_wp2_with (first
        | (at_builtin; refine wpList_append_one (enc := encI) Try.underlying32 infoInt rfl (by omega) rfl _ _ rfl w2.heap.size _ (List.replicate t (-1)) (-1) rfl rfl HO3.out _ 1 rfl (cell_new' (by simp) _ _ 0) (by simp; omega) (by simp; omega) ?_; intro g4 cap4 w4 ho4 hg4 hl4 hb4 hlt4; have HO4 := Lib.hid ho4; have HB4 := Lib.hid (below_grown (HB.out.alloc hsz (.cells #[.int .i64 (-1)] 3)) (by simp; omega) hg4 (fun g e => own_block HO3.out e)); clear ho4 hg4 hl4))
      go_roundw
      case rel => exact ⟨t + 1, by omega, by go_num, HB4, Lib.hid (by have h := HO4.out; rw [List.length_replicate, ← List.replicate_succ'] at h; exact h)⟩
      case measure => simp [intOf]; omega
    · have hli : ¬ (t : Int) < (N : Int) := by omega
      obtain rfl : t = N := by omega
      obtain ⟨gd, dc, hlv, hgd, hgl⟩ := HO.out.some (by simp; omega)
      rw [List.length_replicate] at hlv
      subst hlv
      obtain ⟨hcs, hfs⟩ := HO.out.cell (j := s) (x := -1) (by rw [List.getElem?_replicate, if_pos hsN])
      unfold encI at hcs
      have HO5 : Hid (OwnL encI (wr.setCell ⟨gd, s, none⟩ (.int .i64 0)) w2.heap.size 3 (.slice (some ⟨gd, 0, none⟩) t dc) (startD t s)) := Lib.hid (HO.out.put s 0)
      have HB5 := Lib.hid (below_set (j := s) HB.out hgd (.int .i64 0))
      clear HO HB
      go_wp2
      generalize wr.setCell ⟨gd, s, none⟩ (.int .i64 0) = w5 at *
      go_loopw [9] (fun i wr => ∃ k : Nat, k ≤ t ∧ i = .int .i64 (k : Int) ∧ Hid (Below w2.heap.size w2 wr) ∧ Hid (OwnL encI wr w2.heap.size 3 (.slice (some ⟨gd, 0, none⟩) t dc) (fastK tm Z t s k)) ∧ Hid (Bd (((k * 201 : Nat) : Int) * 1048576) (fastK tm Z t s k))) (fun i _ => t - (intOf i).toNat)
      case atStart => exact ⟨0, Nat.zero_le _, rfl, HB5, HO5, Lib.hid (by have h := startD_bd hsN; exact fun v hv => by have := h v hv; simp only [Nat.zero_mul]; exact this)⟩
      case round =>
        clear HB5 HO5
        obtain ⟨k, hk, rfl, HB, HO, HBK⟩ := hrel
        have f0 := cell_below' HB.out e0 (block_lt_of_cell e0)
        by_cases hlt2 : k < t
        · have hli2 : (k : Int) < (t : Int) := by omega
          go_wp2
          obtain ⟨wo, hwo⟩ : ∃ wo, wo = wr := ⟨_, rfl⟩
          subst hwo
          obtain ⟨dk, hdk⟩ : ∃ dk, fastK tm Z t s k = dk := ⟨_, rfl⟩
          have hdl : dk.length = t := by rw [← hdk]; exact fastK_len _ _ _ _ _
          rw [hdk] at HO
          have HDK := Lib.hid hdk
          clear hdk
          go_loopw [10] (fun i wi => ∃ (j : Nat) (d : List Int), j ≤ Z.length ∧ i = .int .i64 (j : Int) ∧ Hid (Below w2.heap.size w2 wi) ∧ Hid (OwnL encI wi w2.heap.size 3 (.slice (some ⟨gd, 0, none⟩) t dc) d) ∧ Hid (d = relaxAll tm (Z.take j) dk) ∧ Hid (Bd (((k * 201 + j : Nat) : Int) * 1048576) d)) (fun i _ => Z.length - (intOf i).toNat)
          case atStart => exact ⟨0, dk, Nat.zero_le _, rfl, HB, HO, Lib.hid rfl, Lib.hid (by have h := HBK.out; rw [HDK.out] at h; exact h)⟩
          case round =>
            clear HO HB
            obtain ⟨j, d, hj, rfl, HB, HO, HD, HXZ⟩ := hrel
            have f2 := cell_below' HB.out e2 (block_lt_of_cell e2)
            have hdl2 : d.length = t := by rw [HD.out]; exact (relaxAll_len _ _ _).trans hdl
            by_cases hlt3 : j < Z.length
            · have hli3 : (j : Int) < (Z.length : Int) := by omega
              have hpa : Z[j]? = some Z[j] := List.getElem?_eq_getElem hlt3
              obtain ⟨h1, h2, h3, h4, h5, h6⟩ := right_arc HRT.out (List.mem_of_getElem? hpa)
              rw [Int.toNat_natCast] at h3 h4
              obtain ⟨ab, ax, e, hab, a0, a1, a2, a3⟩ := arc_at (HR2.out.below' HB.out) hpa
              cases e
              rw [h1] at a0
              rw [h2] at a1
              have hstep := relaxAll_take (c := tm) hpa dk
              rw [← HD.out] at hstep
              have hatf := atI_get (d := d) (v := frN Z[j]) (by omega)
              have hatt := atI_get (d := d) (v := toN Z[j]) (by omega)
              have hbf := HXZ.out (frN Z[j]) (by omega)
              have hbt := HXZ.out (toN Z[j]) (by omega)
              have HBD : Hid (Bd (((k * 201 + (j + 1) : Nat) : Int) * 1048576) (relaxAll tm (Z.take (j + 1)) dk)) := Lib.hid (by
                have h := relax_bd HXZ.out (by omega) (by omega) (right_arc HRT.out (List.getElem_mem hlt3)).2.2.2.2
                rw [HD.out, ← relaxAll_take hpa] at h
                intro v hv
                have := h v hv
                push_cast at this ⊢
                omega)
              have hmm : ((k * 201 + j : Nat) : Int) * 1048576 ≤ 1073741824000 := by
                have h7 : k * 201 + j ≤ 10250 := by omega
                omega
              have hfa : -1 ≤ atI d (frN Z[j]) := hbf.1
              have hfb : atI d (frN Z[j]) ≤ 1073741824000 := by omega
              have hta : -1 ≤ atI d (toN Z[j]) := hbt.1
              have htb : atI d (toN Z[j]) ≤ 1073741824000 := by omega
              have h5a : 0 ≤ tm Z[j] := h5
              have h6a : tm Z[j] ≤ 1048576 := h6
              clear hbf hbt hmm
              clear hpa h1 h2
              obtain ⟨x, hx⟩ : ∃ x, frN Z[j] = x := ⟨_, rfl⟩
              obtain ⟨y, hy⟩ : ∃ y, toN Z[j] = y := ⟨_, rfl⟩
              obtain ⟨ec, hec⟩ : ∃ ec, Z[j].2.2.1 = ec := ⟨_, rfl⟩
              obtain ⟨et, het⟩ : ∃ et, Z[j].2.2.2 = et := ⟨_, rfl⟩
              have het2 : tm Z[j] = et := het
              rw [hec] at a2
              rw [het] at a3
              rw [het2] at h5a h6a
              rw [hx] at hfa hfb
              rw [hy] at hta htb
              rw [hx] at a0 h3 hatf
              rw [hy] at a1 h4 hatt
              obtain ⟨fv, hfv⟩ : ∃ fv, atI d x = fv := ⟨_, rfl⟩
              obtain ⟨tv, htv⟩ : ∃ tv, atI d y = tv := ⟨_, rfl⟩
              rw [hfv] at hatf
              rw [htv] at hatt
              rw [relax_is (fv := fv) (tv := tv) (et := et) (by rw [hx]; exact hfv) (by rw [hy]; exact htv) het2, hy] at hstep
              rw [hfv] at hfa hfb
              rw [htv] at hta htb
              have HSTEP := Lib.hid hstep
              obtain ⟨hcf, _⟩ := (HO.out.alloc (.cells #[.int .i64 (x : Int), .int .i64 (y : Int), .int .i64 ec, .int .i64 et] 42)).cell hatf
              obtain ⟨hct, hft⟩ := (HO.out.alloc (.cells #[.int .i64 (x : Int), .int .i64 (y : Int), .int .i64 ec, .int .i64 et] 42)).cell hatt
              unfold encI at hcf hct
              have r0 := cell_new wr #[.int .i64 (x : Int), .int .i64 (y : Int), .int .i64 ec, .int .i64 et] 42 0
              have r1 := cell_new wr #[.int .i64 (x : Int), .int .i64 (y : Int), .int .i64 ec, .int .i64 et] 42 1
              have r3 := cell_new wr #[.int .i64 (x : Int), .int .i64 (y : Int), .int .i64 ec, .int .i64 et] 42 3
              have hgl2 : gd < wr.heap.size := (own_lt2 HO.out rfl).2
              have hne1 : gd ≠ wr.heap.size := by omega
              have hne2 : wr.heap.size ≠ gd := by omega
              have hxi : (x : Int) < (t : Int) := by omega
              have hyi : (y : Int) < (t : Int) := by omega
              clear hx hy hec hfv htv het het2 hatf hatt hstep h5 h6
              have hszr : w2.heap.size ≤ wr.heap.size := HB.out.size
              by_cases hq : 0 ≤ fv
              · have hd1 : decide (0 ≤ fv) = true := decide_eq_true hq
                by_cases hz : tv < 0
                · have hb : 0 ≤ fv ∧ (tv < 0 ∨ fv + et < tv) := ⟨hq, .inl hz⟩
                  have HZ := Lib.hid hb
                  have hd2 : decide (tv < 0) = true := decide_eq_true hz
                  clear hb
                  have HO6 := Lib.hid (HO.out.alloc (.cells #[.int .i64 (x : Int), .int .i64 (y : Int), .int .i64 ec, .int .i64 et] 42))
                  have HB6 := Lib.hid (HB.out.alloc hszr (.cells #[.int .i64 (x : Int), .int .i64 (y : Int), .int .i64 ec, .int .i64 et] 42))
                  have HE : Hid (d.set y (fv + et) = relaxAll tm (Z.take (j + 1)) dk) := Lib.hid (by rw [HSTEP.out, if_pos HZ.out])
                  have HBE : Hid (Bd (((k * 201 + (j + 1) : Nat) : Int) * 1048576) (d.set y (fv + et))) := Lib.hid (by rw [HE.out]; exact HBD.out)
                  clear HBD HSTEP
                  go_wp2
                  go_quiet (fail)
                  go_wp2
                  go_region
                  go_wp2
                  go_roundw
                  case rel => exact ⟨j + 1, _, by omega, by go_num, Lib.hid (below_set (drewB HB6.out _) hgd _), Lib.hid ((drewO HO6.out _).put y (fv + et)), HE, HBE⟩
                  case measure => simp [intOf]; omega
                · have hd2 : decide (tv < 0) = false := decide_eq_false hz
                  by_cases hy2 : fv + et < tv
                  · have hb : 0 ≤ fv ∧ (tv < 0 ∨ fv + et < tv) := ⟨hq, .inr hy2⟩
                    have HZ := Lib.hid hb
                    have hd3 : decide (fv + et < tv) = true := decide_eq_true hy2
                    clear hb
                    have HO6 := Lib.hid (HO.out.alloc (.cells #[.int .i64 (x : Int), .int .i64 (y : Int), .int .i64 ec, .int .i64 et] 42))
                    have HB6 := Lib.hid (HB.out.alloc hszr (.cells #[.int .i64 (x : Int), .int .i64 (y : Int), .int .i64 ec, .int .i64 et] 42))
                    have HE : Hid (d.set y (fv + et) = relaxAll tm (Z.take (j + 1)) dk) := Lib.hid (by rw [HSTEP.out, if_pos HZ.out])
                    have HBE : Hid (Bd (((k * 201 + (j + 1) : Nat) : Int) * 1048576) (d.set y (fv + et))) := Lib.hid (by rw [HE.out]; exact HBD.out)
                    clear HBD HSTEP
                    go_wp2
                    go_quiet (fail)
                    go_wp2
                    go_region
                    go_wp2
                    go_roundw
                    case rel => exact ⟨j + 1, _, by omega, by go_num, Lib.hid (below_set (drewB HB6.out _) hgd _), Lib.hid ((drewO HO6.out _).put y (fv + et)), HE, HBE⟩
                    case measure => simp [intOf]; omega
                  · have hb : ¬ (0 ≤ fv ∧ (tv < 0 ∨ fv + et < tv)) := by omega
                    have HZ := Lib.hid hb
                    have hd3 : decide (fv + et < tv) = false := decide_eq_false hy2
                    clear hb
                    have HO6 := Lib.hid (HO.out.alloc (.cells #[.int .i64 (x : Int), .int .i64 (y : Int), .int .i64 ec, .int .i64 et] 42))
                    have HB6 := Lib.hid (HB.out.alloc hszr (.cells #[.int .i64 (x : Int), .int .i64 (y : Int), .int .i64 ec, .int .i64 et] 42))
                    have HE : Hid (d = relaxAll tm (Z.take (j + 1)) dk) := Lib.hid (by rw [HSTEP.out, if_neg HZ.out])
                    have HBE : Hid (Bd (((k * 201 + (j + 1) : Nat) : Int) * 1048576) (d)) := Lib.hid (by rw [HE.out]; exact HBD.out)
                    clear HBD HSTEP
                    go_wp2
                    go_quiet (fail)
                    go_wp2
                    go_roundw
                    case rel => exact ⟨j + 1, _, by omega, by go_num, Lib.hid (drewB HB6.out _), Lib.hid (drewO HO6.out _), HE, HBE⟩
                    case measure => simp [intOf]; omega
              · have hb : ¬ (0 ≤ fv ∧ (tv < 0 ∨ fv + et < tv)) := by omega
                have HZ := Lib.hid hb
                have hd1 : decide (0 ≤ fv) = false := decide_eq_false hq
                clear hb
                have HO6 := Lib.hid (HO.out.alloc (.cells #[.int .i64 (x : Int), .int .i64 (y : Int), .int .i64 ec, .int .i64 et] 42))
                have HB6 := Lib.hid (HB.out.alloc hszr (.cells #[.int .i64 (x : Int), .int .i64 (y : Int), .int .i64 ec, .int .i64 et] 42))
                have HE : Hid (d = relaxAll tm (Z.take (j + 1)) dk) := Lib.hid (by rw [HSTEP.out, if_neg HZ.out])
                have HBE : Hid (Bd (((k * 201 + (j + 1) : Nat) : Int) * 1048576) (d)) := Lib.hid (by rw [HE.out]; exact HBD.out)
                clear HBD HSTEP
                go_wp2
                go_quiet (fail)
                go_wp2
                go_roundw
                case rel => exact ⟨j + 1, _, by omega, by go_num, Lib.hid (drewB HB6.out _), Lib.hid (drewO HO6.out _), HE, HBE⟩
                case measure => simp [intOf]; omega
            · have hli3 : ¬ (j : Int) < (Z.length : Int) := by omega
              obtain rfl : j = Z.length := by omega
              have HDF : Hid (d = fastK tm Z t s (k + 1)) := Lib.hid (by have h := HD.out; rw [List.take_length, ← HDK.out] at h; exact h)
              go_wp2
              go_roundw
              case rel => exact ⟨k + 1, by omega, by go_num, HB, Lib.hid (by rw [← HDF.out]; exact HO.out), Lib.hid (fun v hv => by have h := HXZ.out v (by rw [HDF.out]; exact hv); rw [← HDF.out] at *; have h8 : ((k * 201 + Z.length : Nat) : Int) * 1048576 ≤ (((k + 1) * 201 : Nat) : Int) * 1048576 := (by omega); omega)⟩
              case measure => simp [intOf]; omega
        · have hli2 : ¬ (k : Int) < (t : Int) := by omega
          obtain rfl : k = t := by omega
          go_wp2
          go_ret2
          obtain ⟨a, c, e, hl⟩ := HO.out.lst
          refine ⟨a, c, ?_, hl, HB2.out.trans (HB.out.mono HB2.out.size)⟩
          rw [← e]; rfl
theorem rfastest_bad (n : Int) (b : Bool) (ao : Option Addr) (cap : Nat) (Z : List ArcT) (s : Int) (w : World) (e0 : Int) (h : Row encA 4 w ao Z) (hm : Z.length ≤ maxLen) (he : hopE n Z s = e0) (h0 : e0 ≠ 0) :
    Calls Try.prog 23 #[.agg #[.int .i64 n, .bool b, .slice ao Z.length cap], .int .i64 s] w fun e w' => e = .returned (.tuple #[.slice none 0 0, .int .i64 e0]) ∧ Below w.heap.size w w' := by
  have HR := Lib.hid (row_alloc h (.cells #[.int .i64 n, .bool b, .slice ao Z.length cap] 24))
  have HM := Lib.hid hm
  have HB0 : Hid (Below w.heap.size w (w.alloc (.cells #[.int .i64 n, .bool b, .slice ao Z.length cap] 24))) := Lib.hid ((Below.refl _ w).alloc (Nat.le_refl _) _)
  unfold hopE at he
  by_cases hc : checkE n Z = 0
  · rw [if_pos hc] at he
    have HC := Lib.hid hc
    by_cases hs : 0 ≤ s ∧ s < n
    · rw [if_pos hs] at he; exact absurd he.symm h0
    · rw [if_neg hs] at he
      subst he
      have HND : Hid (decide ((0 : Int) ≤ s ∧ s < n) = false) := Lib.hid (decide_eq_false hs)
      clear h hm hs hc h0
      go_enter Try.func23, Try.ntmps23
      have c0 := cell_new w #[.int .i64 n, .bool b, .slice ao Z.length cap] 24 0
      have c1 := cell_new w #[.int .i64 n, .bool b, .slice ao Z.length cap] 24 1
      have c2 := cell_new w #[.int .i64 n, .bool b, .slice ao Z.length cap] 24 2
      go_wp2_with (first
        | (go_at_call 24; refine (rcheck_any n b ao cap Z _ HR.out HM.out).mono ?_; rintro e w1 ⟨rfl, hb1⟩; rw [HC.out]; have d0 := cell_below hb1 c0; have d1 := cell_below hb1 c1; have d2 := cell_below hb1 c2; have HB1 := Lib.hid (HB0.out.trans (hb1.mono (by simp))); clear hb1 c0 c1 c2)
        | (go_at_call 33; refine (rnode_is n b _ s false _ HND.out).mono ?_; rintro e w2 ⟨rfl, hb2⟩; have HB2 := Lib.hid (HB1.out.trans (hb2.mono HB1.out.size)); clear hb2))
      go_ret2
      exact ⟨rfl, HB2.out⟩
  · rw [if_neg hc] at he
    have HE := Lib.hid he
    have hf2 : (e0 != 0) = true := by simpa using h0
    have hf1 : (e0 == 0) = false := by simpa using h0
    clear h hm hc h0 he
    go_enter Try.func23, Try.ntmps23
    go_wp2_with (first
      | (go_at_call 24; refine (rcheck_any n b ao cap Z _ HR.out HM.out).mono ?_; rintro e w1 ⟨rfl, hb1⟩; rw [HE.out]; have HB1 := Lib.hid (HB0.out.trans (hb1.mono (by simp))); clear hb1))
    go_ret2
    exact ⟨rfl, HB1.out⟩
theorem rfastest_any (n : Int) (b : Bool) (ao : Option Addr) (cap : Nat) (Z : List ArcT) (s : Int) (w : World) (h : Row encA 4 w ao Z) (hm : Z.length ≤ maxLen) :
    Calls Try.prog 23 #[.agg #[.int .i64 n, .bool b, .slice ao Z.length cap], .int .i64 s] w (ListsV (fastL n Z s) (hopE n Z s) w) := by
  by_cases h0 : hopE n Z s = 0
  · unfold fastL
    rw [if_pos h0, h0]
    obtain ⟨hc, k, rfl, hk⟩ := hopE_ok h0
    rw [Int.toNat_natCast]
    exact rfastest_ok n b ao cap Z k w h hc hk
  · unfold fastL
    rw [if_neg h0]
    refine (rfastest_bad n b ao cap Z s w _ h hm rfl h0).mono ?_
    rintro e w' ⟨rfl, hb⟩
    exact ⟨none, 0, rfl, Lst.nil _ _, hb⟩
end Go.Proofs.Ytfnafdjcncgcnaa
