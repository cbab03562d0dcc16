/- The network with a copy of each node for each point of time: its arcs, and what is balanced there; stocks: plain lists. -/
import Derived.Test.YtbkmfjegbmjknaaBF
namespace Go.Proofs.Ytbkmfjegbmjknaa
set_option linter.unusedVariables false

def tmN (a : ArcT) : Nat := (tm a).toNat
/-- Of what kind an arc is: of a movement, of waiting, from the first end, to the last one. -/
abbrev Kd := Nat × Nat × Nat
abbrev Kd.mv (i at_ : Nat) : Kd := (0, i, at_)
abbrev Kd.wt (v at_ : Nat) : Kd := (1, v, at_)
abbrev Kd.so (at_ : Nat) : Kd := (2, 0, at_)
abbrev Kd.si (at_ : Nat) : Kd := (3, 0, at_)
def sumI : List Int → Int
  | [] => 0
  | x :: r => x + sumI r
theorem sumI_app : ∀ a b : List Int, sumI (a ++ b) = sumI a + sumI b
  | [], b => by simp [sumI]
  | x :: r, b => by simp only [List.cons_append, sumI, sumI_app r b]; omega
/-- A network, its ends, a horizon, and whether nodes keep. -/
structure Exp where
  Z : List ArcT
  N : Nat
  s : Nat
  t : Nat
  H : Nat
  hold : Bool
namespace Exp
variable (E : Exp)
/-- May an arc be entered at a point of time? -/
def ok (i at_ : Nat) : Bool := match E.Z[i]? with
  | some a => decide (at_ + tmN a ≤ E.H) && (decide (toN a ≠ E.s) && decide (frN a ≠ E.t))
  | none => false
def wok (v at_ : Nat) : Bool := E.hold && (decide (at_ < E.H) && (decide (v ≠ E.s) && decide (v ≠ E.t)))
def mvK (at_ : Nat) : Nat → List Kd
  | 0 => []
  | i + 1 => mvK at_ i ++ if E.ok i at_ then [Kd.mv i at_] else []
def wtK (at_ : Nat) : Nat → List Kd
  | 0 => []
  | v + 1 => wtK at_ v ++ if E.wok v at_ then [Kd.wt v at_] else []
def timeK : Nat → List Kd
  | 0 => []
  | n + 1 => timeK n ++ (E.mvK n E.Z.length ++ E.wtK n E.N)
def soK : Nat → List Kd
  | 0 => []
  | n + 1 => soK n ++ [Kd.so n]
def siK : Nat → List Kd
  | 0 => []
  | n + 1 => siK n ++ [Kd.si n]
/-- All arcs of the expanded network, by their kinds. -/
def kinds : List Kd := E.timeK (E.H + 1) ++ (soK (E.H + 1) ++ siK (E.H + 1))
def slot (v at_ : Nat) : Nat := at_ * E.N + v
def first : Nat := (E.H + 1) * E.N
def last : Nat := (E.H + 1) * E.N + 1
def big : Int := 1099511627776
def arcKd : Kd → ArcT
  | (0, i, at_) => match E.Z[i]? with
    | some a => ((E.slot (frN a) at_ : Int), (E.slot (toN a) (at_ + tmN a) : Int), capN a, 0)
    | none => (0, 0, 0, 0)
  | (1, v, at_) => ((E.slot v at_ : Int), (E.slot v (at_ + 1) : Int), big, 0)
  | (2, _, at_) => ((E.first : Int), (E.slot E.s at_ : Int), big, 0)
  | (_ + 3, _, at_) => ((E.slot E.t at_ : Int), (E.last : Int), big, 0)
def net : List ArcT := E.kinds.map E.arcKd
/-! Sums over all arcs -/
theorem mv_sum (g : Kd → Int) (at_ : Nat) : ∀ i, sumI ((E.mvK at_ i).map g) = sumTo (fun j => if E.ok j at_ then g (Kd.mv j at_) else 0) i
  | 0 => rfl
  | i + 1 => by
    show sumI ((E.mvK at_ i ++ _).map g) = sumTo _ i + _
    rw [List.map_append, sumI_app, mv_sum g at_ i]
    by_cases h : E.ok i at_ = true
    · rw [if_pos h]; simp only [List.map_cons, List.map_nil, sumI, if_pos h]; omega
    · rw [if_neg h]; simp only [List.map_nil, sumI, if_neg h]
theorem wt_sum (g : Kd → Int) (at_ : Nat) : ∀ i, sumI ((E.wtK at_ i).map g) = sumTo (fun j => if E.wok j at_ then g (Kd.wt j at_) else 0) i
  | 0 => rfl
  | i + 1 => by
    show sumI ((E.wtK at_ i ++ _).map g) = sumTo _ i + _
    rw [List.map_append, sumI_app, wt_sum g at_ i]
    by_cases h : E.wok i at_ = true
    · rw [if_pos h]; simp only [List.map_cons, List.map_nil, sumI, if_pos h]; omega
    · rw [if_neg h]; simp only [List.map_nil, sumI, if_neg h]
theorem time_sum (g : Kd → Int) : ∀ n, sumI ((E.timeK n).map g) = sumTo (fun at_ => sumTo (fun j => if E.ok j at_ then g (Kd.mv j at_) else 0) E.Z.length) n + sumTo (fun at_ => sumTo (fun j => if E.wok j at_ then g (Kd.wt j at_) else 0) E.N) n
  | 0 => rfl
  | n + 1 => by
    show sumI ((E.timeK n ++ _).map g) = _
    rw [List.map_append, sumI_app, List.map_append, sumI_app, time_sum g n, mv_sum, wt_sum]
    simp only [sumTo]
    omega
theorem so_sum (g : Kd → Int) : ∀ n, sumI ((soK n).map g) = sumTo (fun at_ => g (Kd.so at_)) n
  | 0 => rfl
  | n + 1 => by
    show sumI ((soK n ++ _).map g) = sumTo _ n + _
    rw [List.map_append, sumI_app, so_sum g n]
    simp [sumI]
theorem si_sum (g : Kd → Int) : ∀ n, sumI ((siK n).map g) = sumTo (fun at_ => g (Kd.si at_)) n
  | 0 => rfl
  | n + 1 => by
    show sumI ((siK n ++ _).map g) = sumTo _ n + _
    rw [List.map_append, sumI_app, si_sum g n]
    simp [sumI]
theorem kinds_sum (g : Kd → Int) : sumI (E.kinds.map g) = sumTo (fun at_ => sumTo (fun j => if E.ok j at_ then g (Kd.mv j at_) else 0) E.Z.length) (E.H + 1) + sumTo (fun at_ => sumTo (fun j => if E.wok j at_ then g (Kd.wt j at_) else 0) E.N) (E.H + 1) + sumTo (fun at_ => g (Kd.so at_)) (E.H + 1) + sumTo (fun at_ => g (Kd.si at_)) (E.H + 1) := by
  unfold kinds
  rw [List.map_append, sumI_app, List.map_append, sumI_app, time_sum, so_sum, si_sum]
  omega
end Exp
theorem balC_map (a : Kd → ArcT) (x : Kd → Int) (w : Nat) : ∀ K : List Kd, balC w (K.map a) (K.map x) = sumI (K.map fun k => share (a k) (x k) w)
  | [] => rfl
  | k :: r => by
    simp only [List.map_cons, balC, sumI, List.headD_cons, List.tail_cons]
    rw [balC_map a x w r]
theorem slot_inj {N a b c d : Nat} (hb : b < N) (hd : d < N) : a * N + b = c * N + d ↔ a = c ∧ b = d := by
  constructor
  · intro h
    have e : a = c := by
      rcases Nat.lt_trichotomy a c with h1 | h1 | h1
      · have := Nat.mul_le_mul_right N h1
        rw [Nat.succ_mul] at this
        omega
      · exact h1
      · have := Nat.mul_le_mul_right N h1
        rw [Nat.succ_mul] at this
        omega
    subst e
    exact ⟨rfl, by omega⟩
  · rintro ⟨rfl, rfl⟩; rfl
theorem slot_lt {N a b H : Nat} (ha : a ≤ H) (hb : b < N) : a * N + b < (H + 1) * N := by
  have := Nat.mul_le_mul_right N ha
  rw [Nat.succ_mul]
  omega
theorem sumTo_sub (g h : Nat → Int) : ∀ n, sumTo (fun v => g v - h v) n = sumTo g n - sumTo h n
  | 0 => rfl
  | n + 1 => by simp only [sumTo, sumTo_sub g h n]; omega
theorem sumTo_pick {g : Nat → Int} {u : Nat} : ∀ n, sumTo (fun v => if v = u then g v else 0) n = if u < n then g u else 0
  | 0 => by simp [sumTo]
  | n + 1 => by
    simp only [sumTo, sumTo_pick n]
    by_cases h1 : u < n
    · rw [if_pos h1, if_neg (by omega), if_pos (by omega)]; omega
    · by_cases h2 : n = u
      · subst h2; rw [if_neg h1, if_pos rfl, if_pos (by omega)]; omega
      · rw [if_neg h1, if_neg h2, if_neg (by omega)]; rfl
namespace Exp
variable (E : Exp)
/-- The ends of all arcs are nodes; no arc takes less than no time. -/
structure Good : Prop where
  ends : ∀ a ∈ E.Z, frN a < E.N ∧ toN a < E.N
  s : E.s < E.N
  t : E.t < E.N
  ne : E.s ≠ E.t
  cap : ∀ a ∈ E.Z, 0 ≤ capN a
def frA (i : Nat) : Nat := match E.Z[i]? with | some a => frN a | none => 0
def toA (i : Nat) : Nat := match E.Z[i]? with | some a => toN a | none => 0
def tmA (i : Nat) : Nat := match E.Z[i]? with | some a => tmN a | none => 0
/-- What enters arcs at a node at a point of time; what arrives. -/
def dep (x : Kd → Int) (v at_ : Nat) : Int := sumTo (fun i => if E.ok i at_ then (if E.frA i = v then x (Kd.mv i at_) else 0) else 0) E.Z.length
def arr (x : Kd → Int) (v at_ : Nat) : Int := sumTo (fun u => sumTo (fun i => if E.ok i u then (if E.toA i = v ∧ u + E.tmA i = at_ then x (Kd.mv i u) else 0) else 0) E.Z.length) (E.H + 1)
def wait (x : Kd → Int) (v at_ : Nat) : Int := if E.wok v at_ then x (Kd.wt v at_) else 0
def waited (x : Kd → Int) (v : Nat) : Nat → Int
  | 0 => 0
  | at_ + 1 => E.wait x v at_
theorem ok_arc {i at_ : Nat} (h : E.ok i at_ = true) : ∃ a, E.Z[i]? = some a ∧ at_ + tmN a ≤ E.H ∧ toN a ≠ E.s ∧ frN a ≠ E.t := by
  unfold ok at h
  cases hz : E.Z[i]? with
  | none => rw [hz] at h; cases h
  | some a =>
    rw [hz] at h
    simp only [Bool.and_eq_true, decide_eq_true_eq] at h
    exact ⟨a, rfl, h.1, h.2.1, h.2.2⟩
theorem wok_is {v at_ : Nat} : E.wok v at_ = true ↔ E.hold = true ∧ at_ < E.H ∧ v ≠ E.s ∧ v ≠ E.t := by
  unfold wok
  simp only [Bool.and_eq_true, decide_eq_true_eq]
theorem share_wt {E : Exp} {i u v at_ : Nat} (hi : i < E.N) (hv : v < E.N) (x : Int) : share (E.arcKd (Kd.wt i u)) x (E.slot v at_) = (if u = at_ ∧ i = v then x else 0) - (if u + 1 = at_ ∧ i = v then x else 0) := by
  unfold share arcKd
  have f1 : frN ((E.slot i u : Int), (E.slot i (u + 1) : Int), big, 0) = E.slot i u := by simp [frN]
  have f2 : toN ((E.slot i u : Int), (E.slot i (u + 1) : Int), big, 0) = E.slot i (u + 1) := by simp [toN]
  simp only [f1, f2]
  unfold slot
  have g1 := slot_inj (a := u) (c := at_) hi hv
  have g2 := slot_inj (a := u + 1) (c := at_) hi hv
  congr 1
  · by_cases hc : u = at_ ∧ i = v
    · rw [if_pos hc, if_pos (g1.2 hc)]
    · rw [if_neg hc, if_neg (fun e => hc (g1.1 e))]
  · by_cases hc : u + 1 = at_ ∧ i = v
    · rw [if_pos hc, if_pos (g2.2 hc)]
    · rw [if_neg hc, if_neg (fun e => hc (g2.1 e))]
section
variable {E : Exp}
theorem share_mv (hG : E.Good) {i u v at_ : Nat} (h : E.ok i u = true) (hv : v < E.N) (x : Int) : share (E.arcKd (Kd.mv i u)) x (E.slot v at_) = (if u = at_ ∧ E.frA i = v then x else 0) - (if E.toA i = v ∧ u + E.tmA i = at_ then x else 0) := by
  obtain ⟨a, ha, _⟩ := E.ok_arc h
  have he := hG.ends a (List.mem_of_getElem? ha)
  have e1 : E.frA i = frN a := by unfold frA; rw [ha]
  have e2 : E.toA i = toN a := by unfold toA; rw [ha]
  have e3 : E.tmA i = tmN a := by unfold tmA; rw [ha]
  have e4 : E.arcKd (Kd.mv i u) = ((E.slot (frN a) u : Int), (E.slot (toN a) (u + tmN a) : Int), capN a, 0) := by simp only [arcKd, ha]
  rw [e1, e2, e3, e4]
  unfold share
  have f1 : frN ((E.slot (frN a) u : Int), (E.slot (toN a) (u + tmN a) : Int), capN a, 0) = E.slot (frN a) u := by simp [frN]
  have f2 : toN ((E.slot (frN a) u : Int), (E.slot (toN a) (u + tmN a) : Int), capN a, 0) = E.slot (toN a) (u + tmN a) := by simp [toN]
  rw [f1, f2]
  unfold slot
  have g1 := slot_inj (a := u) (c := at_) he.1 hv
  have g2 := slot_inj (a := u + tmN a) (c := at_) he.2 hv
  congr 1
  · by_cases hc : u = at_ ∧ frN a = v
    · rw [if_pos hc, if_pos (g1.2 hc)]
    · rw [if_neg hc, if_neg (fun e => hc (g1.1 e))]
  · by_cases hc : toN a = v ∧ u + tmN a = at_
    · rw [if_pos hc, if_pos (g2.2 ⟨hc.2, hc.1⟩)]
    · rw [if_neg hc, if_neg (fun e => hc ⟨(g2.1 e).2, (g2.1 e).1⟩)]
theorem share_so (hG : E.Good) {u v at_ : Nat} (hv : v < E.N) (ha : at_ ≤ E.H) (x : Int) : share (E.arcKd (Kd.so u)) x (E.slot v at_) = - (if u = at_ ∧ E.s = v then x else 0) := by
  unfold share arcKd
  have f1 : frN ((E.first : Int), (E.slot E.s u : Int), big, 0) = E.first := by simp [frN]
  have f2 : toN ((E.first : Int), (E.slot E.s u : Int), big, 0) = E.slot E.s u := by simp [toN]
  simp only [f1, f2]
  unfold slot first
  have g0 := slot_lt (N := E.N) ha hv
  have g1 := slot_inj (a := u) (c := at_) hG.s hv
  rw [if_neg (by omega)]
  by_cases hc : u = at_ ∧ E.s = v
  · rw [if_pos hc, if_pos (g1.2 hc)]; omega
  · rw [if_neg hc, if_neg (fun e => hc (g1.1 e))]; rfl
theorem share_si (hG : E.Good) {u v at_ : Nat} (hv : v < E.N) (ha : at_ ≤ E.H) (x : Int) : share (E.arcKd (Kd.si u)) x (E.slot v at_) = (if u = at_ ∧ E.t = v then x else 0) := by
  unfold share arcKd
  have f1 : frN ((E.slot E.t u : Int), (E.last : Int), big, 0) = E.slot E.t u := by simp [frN]
  have f2 : toN ((E.slot E.t u : Int), (E.last : Int), big, 0) = E.last := by simp [toN]
  simp only [f1, f2]
  unfold slot last
  have g0 := slot_lt (N := E.N) ha hv
  have g1 := slot_inj (a := u) (c := at_) hG.t hv
  rw [if_neg (show ¬ (E.H + 1) * E.N + 1 = at_ * E.N + v by omega)]
  by_cases hc : u = at_ ∧ E.t = v
  · rw [if_pos hc, if_pos (g1.2 hc)]; omega
  · rw [if_neg hc, if_neg (fun e => hc (g1.1 e))]; rfl
/-- The balance of a slot. -/
theorem slot_bal (hG : E.Good) (x : Kd → Int) {v at_ : Nat} (hv : v < E.N) (ha : at_ ≤ E.H) : bal E.net (E.kinds.map x) (E.slot v at_) = E.dep x v at_ - E.arr x v at_ + E.wait x v at_ - E.waited x v at_ - (if E.s = v then x (Kd.so at_) else 0) + (if E.t = v then x (Kd.si at_) else 0) := by
  unfold net
  rw [bal_balC, balC_map, kinds_sum]
  have m1 : sumTo (fun u => sumTo (fun j => if E.ok j u then share (E.arcKd (Kd.mv j u)) (x (Kd.mv j u)) (E.slot v at_) else 0) E.Z.length) (E.H + 1) = E.dep x v at_ - E.arr x v at_ := by
    rw [sumTo_congr (h := fun u => sumTo (fun j => if E.ok j u then (if u = at_ ∧ E.frA j = v then x (Kd.mv j u) else 0) else 0) E.Z.length - sumTo (fun j => if E.ok j u then (if E.toA j = v ∧ u + E.tmA j = at_ then x (Kd.mv j u) else 0) else 0) E.Z.length) (fun u _ => by
      rw [← sumTo_sub]
      exact sumTo_congr (fun j _ => by
        by_cases h : E.ok j u = true
        · rw [if_pos h, if_pos h, if_pos h, share_mv hG h hv]
        · rw [if_neg h, if_neg h, if_neg h]; rfl)), sumTo_sub]
    congr 1
    rw [sumTo_congr (h := fun u => if u = at_ then E.dep x v u else 0) (fun u _ => by
      by_cases e : u = at_
      · subst e
        rw [if_pos rfl]
        unfold dep
        exact sumTo_congr (fun j _ => by
          by_cases h : E.ok j u = true
          · rw [if_pos h, if_pos h]; simp
          · rw [if_neg h, if_neg h])
      · rw [if_neg e]
        exact (sumTo_congr (h := fun _ => 0) (fun j _ => by simp [e])).trans (sumTo_zero _)), sumTo_pick, if_pos (by omega)]
  have m2 : sumTo (fun u => sumTo (fun j => if E.wok j u then share (E.arcKd (Kd.wt j u)) (x (Kd.wt j u)) (E.slot v at_) else 0) E.N) (E.H + 1) = E.wait x v at_ - E.waited x v at_ := by
    have h1 : ∀ u, sumTo (fun j => if E.wok j u then share (E.arcKd (Kd.wt j u)) (x (Kd.wt j u)) (E.slot v at_) else 0) E.N = (if u = at_ then E.wait x v u else 0) - (if u + 1 = at_ then E.wait x v u else 0) := by
      intro u
      rw [sumTo_congr (h := fun j => if j = v then ((if u = at_ then E.wait x j u else 0) - (if u + 1 = at_ then E.wait x j u else 0)) else 0) (fun j hj => by
        by_cases h : E.wok j u = true
        · rw [if_pos h, share_wt hj hv]
          unfold wait
          rw [if_pos h]
          by_cases e : j = v
          · simp [e]
          · simp [e]
        · rw [if_neg h]
          unfold wait
          rw [if_neg h]
          by_cases e : j = v <;> simp [e]), sumTo_pick, if_pos hv]
    rw [sumTo_congr (h := fun u => (if u = at_ then E.wait x v u else 0) - (if u + 1 = at_ then E.wait x v u else 0)) (fun u _ => h1 u), sumTo_sub, sumTo_pick, if_pos (by omega)]
    congr 1
    cases at_ with
    | zero =>
      exact (sumTo_congr (h := fun _ => 0) (fun u _ => by simp)).trans (sumTo_zero _)
    | succ k =>
      rw [sumTo_congr (h := fun u => if u = k then E.wait x v u else 0) (fun u _ => by simp), sumTo_pick, if_pos (by omega)]
      rfl
  have m3 : sumTo (fun u => share (E.arcKd (Kd.so u)) (x (Kd.so u)) (E.slot v at_)) (E.H + 1) = - (if E.s = v then x (Kd.so at_) else 0) := by
    rw [sumTo_congr (h := fun u => - (if u = at_ then (if E.s = v then x (Kd.so u) else 0) else 0)) (fun u _ => by
      rw [share_so hG hv ha]
      by_cases e : u = at_ <;> simp [e]), sumTo_neg, sumTo_pick, if_pos (by omega)]
  have m4 : sumTo (fun u => share (E.arcKd (Kd.si u)) (x (Kd.si u)) (E.slot v at_)) (E.H + 1) = (if E.t = v then x (Kd.si at_) else 0) := by
    rw [sumTo_congr (h := fun u => if u = at_ then (if E.t = v then x (Kd.si u) else 0) else 0) (fun u _ => by
      rw [share_si hG hv ha]
      by_cases e : u = at_ <;> simp [e]), sumTo_pick, if_pos (by omega)]
  rw [m1, m2, m3, m4]
  omega
end
end Exp
end Go.Proofs.Ytbkmfjegbmjknaa
