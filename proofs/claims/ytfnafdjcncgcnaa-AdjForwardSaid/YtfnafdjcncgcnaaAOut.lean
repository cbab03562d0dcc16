/- Out and In of package adj, of any network. -/
import Derived.Test.YtfnafdjcncgcnaaAInc
namespace Go.Proofs.Ytfnafdjcncgcnaa
open Go.RowKit
set_option linter.unusedVariables false

set_option maxHeartbeats 1000000 in
theorem inc_no (n : Int) (b : Bool) (ao : Option Addr) (cap : Nat) (Z : List ArcT) (fv : Value) (w : World) (e0 : Int) (h : Row encA 4 w ao Z) (hm : Z.length ≤ maxLen) (he : checkE n Z = e0) (h0 : e0 ≠ 0) :
    Calls Try.prog 25 #[.agg #[.int .i64 n, .bool b, .slice ao Z.length cap], fv] w fun e w' => e = .returned (.tuple #[.slice none 0 0, .int .i64 e0]) ∧ Below w.heap.size w w' := by
  have HE := Lib.hid he
  have HR := Lib.hid (row_alloc h (.cells #[.int .i64 n, .bool b, .slice ao Z.length cap] 24))
  have HM := Lib.hid hm
  have hf2 : (e0 != 0) = true := by simpa using h0
  have hf1 : (e0 == 0) = false := by simpa using h0
  clear h he hm h0
  have HB0 : Hid (Below w.heap.size w (w.alloc (.cells #[.int .i64 n, .bool b, .slice ao Z.length cap] 24))) := Lib.hid ((Below.refl _ w).alloc (Nat.le_refl _) _)
  go_enter Try.func25, Try.ntmps25
  go_wp2_with (go_at_call 42; refine (ncheck_any n b ao cap Z _ HR.out HM.out).mono ?_; rintro e w1 ⟨rfl, hb1⟩; rw [HE.out]; have HB1 := Lib.hid (HB0.out.trans (hb1.mono (by simp))); clear hb1)
  go_ret2
  exact ⟨rfl, HB1.out⟩
theorem out_ok (n : Int) (b : Bool) (ao : Option Addr) (cap : Nat) (Z : List ArcT) (w : World) (h : Row encA 4 w ao Z) (hc : checkE n Z = 0) :
    Calls Try.prog 10 #[.agg #[.int .i64 n, .bool b, .slice ao Z.length cap]] w (ListRes frN n Z w) := by
  have HC := Lib.hid hc
  have HR := Lib.hid (row_alloc h (.cells #[.int .i64 n, .bool b, .slice ao Z.length cap] 24))
  clear h hc
  have HB0 : Hid (Below w.heap.size w (w.alloc (.cells #[.int .i64 n, .bool b, .slice ao Z.length cap] 24))) := Lib.hid ((Below.refl _ w).alloc (Nat.le_refl _) _)
  go_enter Try.func10, Try.ntmps10
  go_wp2_with (go_at_call 25; refine (inc_outc n b ao cap Z _ HR.out HC.out).mono ?_; rintro e w1 ⟨g1, c1, rfl, hg1, hb1⟩; have HG1 := Lib.hid hg1; have HB1 := Lib.hid (HB0.out.trans (hb1.mono (by simp))); clear hb1 hg1)
  go_ret2
  exact ⟨_, _, rfl, HG1.out, HB1.out⟩
theorem out_no (n : Int) (b : Bool) (ao : Option Addr) (cap : Nat) (Z : List ArcT) (w : World) (e0 : Int) (h : Row encA 4 w ao Z) (hm : Z.length ≤ maxLen) (he : checkE n Z = e0) (h0 : e0 ≠ 0) :
    Calls Try.prog 10 #[.agg #[.int .i64 n, .bool b, .slice ao Z.length cap]] w fun e w' => e = .returned (.tuple #[.slice none 0 0, .int .i64 e0]) ∧ Below w.heap.size w w' := by
  have HE := Lib.hid he
  have H0 := Lib.hid h0
  have HR := Lib.hid (row_alloc h (.cells #[.int .i64 n, .bool b, .slice ao Z.length cap] 24))
  have HM := Lib.hid hm
  clear h he hm h0
  have HB0 : Hid (Below w.heap.size w (w.alloc (.cells #[.int .i64 n, .bool b, .slice ao Z.length cap] 24))) := Lib.hid ((Below.refl _ w).alloc (Nat.le_refl _) _)
  go_enter Try.func10, Try.ntmps10
  go_wp2_with (go_at_call 25; refine (inc_no n b ao cap Z _ _ e0 HR.out HM.out HE.out H0.out).mono ?_; rintro e w1 ⟨rfl, hb1⟩; have HB1 := Lib.hid (HB0.out.trans (hb1.mono (by simp))); clear hb1)
  go_ret2
  exact ⟨rfl, HB1.out⟩
theorem into_ok (n : Int) (b : Bool) (ao : Option Addr) (cap : Nat) (Z : List ArcT) (w : World) (h : Row encA 4 w ao Z) (hc : checkE n Z = 0) :
    Calls Try.prog 12 #[.agg #[.int .i64 n, .bool b, .slice ao Z.length cap]] w (ListRes toN n Z w) := by
  have HC := Lib.hid hc
  have HR := Lib.hid (row_alloc h (.cells #[.int .i64 n, .bool b, .slice ao Z.length cap] 24))
  clear h hc
  have HB0 : Hid (Below w.heap.size w (w.alloc (.cells #[.int .i64 n, .bool b, .slice ao Z.length cap] 24))) := Lib.hid ((Below.refl _ w).alloc (Nat.le_refl _) _)
  go_enter Try.func12, Try.ntmps12
  go_wp2_with (go_at_call 25; refine (inc_into n b ao cap Z _ HR.out HC.out).mono ?_; rintro e w1 ⟨g1, c1, rfl, hg1, hb1⟩; have HG1 := Lib.hid hg1; have HB1 := Lib.hid (HB0.out.trans (hb1.mono (by simp))); clear hb1 hg1)
  go_ret2
  exact ⟨_, _, rfl, HG1.out, HB1.out⟩
theorem into_no (n : Int) (b : Bool) (ao : Option Addr) (cap : Nat) (Z : List ArcT) (w : World) (e0 : Int) (h : Row encA 4 w ao Z) (hm : Z.length ≤ maxLen) (he : checkE n Z = e0) (h0 : e0 ≠ 0) :
    Calls Try.prog 12 #[.agg #[.int .i64 n, .bool b, .slice ao Z.length cap]] w fun e w' => e = .returned (.tuple #[.slice none 0 0, .int .i64 e0]) ∧ Below w.heap.size w w' := by
  have HE := Lib.hid he
  have H0 := Lib.hid h0
  have HR := Lib.hid (row_alloc h (.cells #[.int .i64 n, .bool b, .slice ao Z.length cap] 24))
  have HM := Lib.hid hm
  clear h he hm h0
  have HB0 : Hid (Below w.heap.size w (w.alloc (.cells #[.int .i64 n, .bool b, .slice ao Z.length cap] 24))) := Lib.hid ((Below.refl _ w).alloc (Nat.le_refl _) _)
  go_enter Try.func12, Try.ntmps12
  go_wp2_with (go_at_call 25; refine (inc_no n b ao cap Z _ _ e0 HR.out HM.out HE.out H0.out).mono ?_; rintro e w1 ⟨rfl, hb1⟩; have HB1 := Lib.hid (HB0.out.trans (hb1.mono (by simp))); clear hb1)
  go_ret2
  exact ⟨rfl, HB1.out⟩
end Go.Proofs.Ytfnafdjcncgcnaa
