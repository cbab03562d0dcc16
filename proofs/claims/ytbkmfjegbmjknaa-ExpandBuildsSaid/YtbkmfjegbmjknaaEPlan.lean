/- A plan is a flow of the expanded network, and such a flow a plan: plain lists. -/
import Derived.Test.YtbkmfjegbmjknaaESpec
namespace Go.Proofs.Ytbkmfjegbmjknaa
set_option linter.unusedVariables false

namespace Exp
variable {E : Exp}
/-- How much has come to a node, less what has left it, at a point of time. -/
def stock (E : Exp) (x : Kd → Int) (v at_ : Nat) : Int := sumTo (fun u => E.arr x v u - E.dep x v u) (at_ + 1)
theorem waited_sum (x : Kd → Int) (v : Nat) : ∀ n, sumTo (fun u => E.wait x v u - E.waited x v u) (n + 1) = E.wait x v n
  | 0 => by simp [sumTo, waited]
  | n + 1 => by
    have ih := waited_sum x v n
    rw [sumTo, ih]
    simp only [waited]
    omega
/-- Where slots are balanced, what a node has is what waits there. -/
theorem stock_wait (hG : E.Good) (x : Kd → Int) {v : Nat} (hv : v < E.N) (hs : v ≠ E.s) (ht : v ≠ E.t) (h : ∀ u, u ≤ E.H → bal E.net (E.kinds.map x) (E.slot v u) = 0) {at_ : Nat} (ha : at_ ≤ E.H) : E.stock x v at_ = E.wait x v at_ := by
  unfold stock
  rw [← waited_sum x v at_]
  refine sumTo_congr (fun u hu => ?_)
  have h1 := h u (by omega)
  rw [slot_bal hG x hv (by omega), if_neg (fun e => hs e.symm), if_neg (fun e => ht e.symm)] at h1
  omega
theorem arr_source (x : Kd → Int) (at_ : Nat) : E.arr x E.s at_ = 0 := by
  unfold arr
  refine (sumTo_congr (h := fun _ => 0) (fun u _ => ?_)).trans (sumTo_zero _)
  refine (sumTo_congr (h := fun _ => 0) (fun i _ => ?_)).trans (sumTo_zero _)
  by_cases h : E.ok i u = true
  · obtain ⟨a, ha, _, h2, _⟩ := E.ok_arc h
    rw [if_pos h, if_neg]
    rintro ⟨e, _⟩
    apply h2
    unfold toA at e
    rw [ha] at e
    exact e
  · rw [if_neg h]
theorem dep_sink (x : Kd → Int) (at_ : Nat) : E.dep x E.t at_ = 0 := by
  unfold dep
  refine (sumTo_congr (h := fun _ => 0) (fun i _ => ?_)).trans (sumTo_zero _)
  by_cases h : E.ok i at_ = true
  · obtain ⟨a, ha, _, _, h2⟩ := E.ok_arc h
    rw [if_pos h, if_neg]
    intro e
    apply h2
    unfold frA at e
    rw [ha] at e
    exact e
  · rw [if_neg h]
theorem wait_end (x : Kd → Int) (v : Nat) (hv : v = E.s ∨ v = E.t) (at_ : Nat) : E.wait x v at_ = 0 := by
  unfold wait
  rw [if_neg]
  intro h
  have := E.wok_is.1 h
  rcases hv with rfl | rfl
  · exact this.2.2.1 rfl
  · exact this.2.2.2 rfl
theorem waited_end (x : Kd → Int) (v : Nat) (hv : v = E.s ∨ v = E.t) : ∀ at_, E.waited x v at_ = 0
  | 0 => rfl
  | at_ + 1 => wait_end x v hv at_
/-! The two ends -/
theorem share_none {a : ArcT} {x : Int} {w : Nat} (h1 : frN a ≠ w) (h2 : toN a ≠ w) : share a x w = 0 := by unfold share; rw [if_neg h1, if_neg h2]; rfl
theorem mv_ends (hG : E.Good) {i u : Nat} (h : E.ok i u = true) : frN (E.arcKd (Kd.mv i u)) < E.first ∧ toN (E.arcKd (Kd.mv i u)) < E.first := by
  obtain ⟨a, ha, h1, _⟩ := E.ok_arc h
  have he := hG.ends a (List.mem_of_getElem? ha)
  have e4 : E.arcKd (Kd.mv i u) = ((E.slot (frN a) u : Int), (E.slot (toN a) (u + tmN a) : Int), capN a, 0) := by simp only [arcKd, ha]
  rw [e4]
  have g1 := slot_lt (N := E.N) (a := u) (H := E.H) (by omega) he.1
  have g2 := slot_lt (N := E.N) (a := u + tmN a) (H := E.H) h1 he.2
  unfold first slot at *
  constructor
  · show ((u * E.N + frN a : Nat) : Int).toNat < _
    omega
  · show (((u + tmN a) * E.N + toN a : Nat) : Int).toNat < _
    omega
theorem wt_ends {v u : Nat} (hv : v < E.N) (h : E.wok v u = true) : frN (E.arcKd (Kd.wt v u)) < E.first ∧ toN (E.arcKd (Kd.wt v u)) < E.first := by
  have h1 := (E.wok_is.1 h).2.1
  have g1 := slot_lt (N := E.N) (a := u) (H := E.H) (by omega) hv
  have g2 := slot_lt (N := E.N) (a := u + 1) (H := E.H) (by omega) hv
  unfold first
  constructor
  · show ((u * E.N + v : Nat) : Int).toNat < _
    omega
  · show (((u + 1) * E.N + v : Nat) : Int).toNat < _
    omega
theorem so_ends (hG : E.Good) {u : Nat} (hu : u ≤ E.H) : frN (E.arcKd (Kd.so u)) = E.first ∧ toN (E.arcKd (Kd.so u)) < E.first := by
  have g1 := slot_lt (N := E.N) (a := u) (H := E.H) hu hG.s
  unfold first
  constructor
  · show (((E.H + 1) * E.N : Nat) : Int).toNat = _
    omega
  · show ((u * E.N + E.s : Nat) : Int).toNat < _
    omega
theorem si_ends (hG : E.Good) {u : Nat} (hu : u ≤ E.H) : frN (E.arcKd (Kd.si u)) < E.first ∧ toN (E.arcKd (Kd.si u)) = E.last := by
  have g1 := slot_lt (N := E.N) (a := u) (H := E.H) hu hG.t
  unfold first last
  constructor
  · show ((u * E.N + E.t : Nat) : Int).toNat < _
    omega
  · show (((E.H + 1) * E.N + 1 : Nat) : Int).toNat = _
    omega
theorem first_lt : E.first < E.last := by unfold first last; omega
theorem bal_first (hG : E.Good) (x : Kd → Int) : bal E.net (E.kinds.map x) E.first = sumTo (fun u => x (Kd.so u)) (E.H + 1) := by
  unfold net
  rw [bal_balC, balC_map, kinds_sum]
  have m1 : sumTo (fun u => sumTo (fun j => if E.ok j u then share (E.arcKd (Kd.mv j u)) (x (Kd.mv j u)) E.first else 0) E.Z.length) (E.H + 1) = 0 := by
    refine (sumTo_congr (h := fun _ => 0) (fun u _ => ?_)).trans (sumTo_zero _)
    refine (sumTo_congr (h := fun _ => 0) (fun j _ => ?_)).trans (sumTo_zero _)
    by_cases h : E.ok j u = true
    · have := mv_ends hG h
      rw [if_pos h, share_none (by omega) (by omega)]
    · rw [if_neg h]
  have m2 : sumTo (fun u => sumTo (fun j => if E.wok j u then share (E.arcKd (Kd.wt j u)) (x (Kd.wt j u)) E.first else 0) E.N) (E.H + 1) = 0 := by
    refine (sumTo_congr (h := fun _ => 0) (fun u _ => ?_)).trans (sumTo_zero _)
    refine (sumTo_congr (h := fun _ => 0) (fun j hj => ?_)).trans (sumTo_zero _)
    by_cases h : E.wok j u = true
    · have := wt_ends hj h
      rw [if_pos h, share_none (by omega) (by omega)]
    · rw [if_neg h]
  have m3 : sumTo (fun u => share (E.arcKd (Kd.so u)) (x (Kd.so u)) E.first) (E.H + 1) = sumTo (fun u => x (Kd.so u)) (E.H + 1) := by
    refine sumTo_congr (fun u hu => ?_)
    have := so_ends hG (u := u) (by omega)
    unfold share
    rw [if_pos this.1, if_neg (by omega)]
    omega
  have m4 : sumTo (fun u => share (E.arcKd (Kd.si u)) (x (Kd.si u)) E.first) (E.H + 1) = 0 := by
    refine (sumTo_congr (h := fun _ => 0) (fun u hu => ?_)).trans (sumTo_zero _)
    have := si_ends hG (u := u) (by omega)
    have := first_lt (E := E)
    exact share_none (by omega) (by omega)
  rw [m1, m2, m3, m4]
  omega
theorem bal_last (hG : E.Good) (x : Kd → Int) : bal E.net (E.kinds.map x) E.last = - sumTo (fun u => x (Kd.si u)) (E.H + 1) := by
  have hf := first_lt (E := E)
  unfold net
  rw [bal_balC, balC_map, kinds_sum]
  have m1 : sumTo (fun u => sumTo (fun j => if E.ok j u then share (E.arcKd (Kd.mv j u)) (x (Kd.mv j u)) E.last else 0) E.Z.length) (E.H + 1) = 0 := by
    refine (sumTo_congr (h := fun _ => 0) (fun u _ => ?_)).trans (sumTo_zero _)
    refine (sumTo_congr (h := fun _ => 0) (fun j _ => ?_)).trans (sumTo_zero _)
    by_cases h : E.ok j u = true
    · have := mv_ends hG h
      rw [if_pos h, share_none (by omega) (by omega)]
    · rw [if_neg h]
  have m2 : sumTo (fun u => sumTo (fun j => if E.wok j u then share (E.arcKd (Kd.wt j u)) (x (Kd.wt j u)) E.last else 0) E.N) (E.H + 1) = 0 := by
    refine (sumTo_congr (h := fun _ => 0) (fun u _ => ?_)).trans (sumTo_zero _)
    refine (sumTo_congr (h := fun _ => 0) (fun j hj => ?_)).trans (sumTo_zero _)
    by_cases h : E.wok j u = true
    · have := wt_ends hj h
      rw [if_pos h, share_none (by omega) (by omega)]
    · rw [if_neg h]
  have m3 : sumTo (fun u => share (E.arcKd (Kd.so u)) (x (Kd.so u)) E.last) (E.H + 1) = 0 := by
    refine (sumTo_congr (h := fun _ => 0) (fun u hu => ?_)).trans (sumTo_zero _)
    have := so_ends hG (u := u) (by omega)
    exact share_none (by omega) (by omega)
  have m4 : sumTo (fun u => share (E.arcKd (Kd.si u)) (x (Kd.si u)) E.last) (E.H + 1) = - sumTo (fun u => x (Kd.si u)) (E.H + 1) := by
    rw [← sumTo_neg]
    refine sumTo_congr (fun u hu => ?_)
    have := si_ends hG (u := u) (by omega)
    unfold share
    rw [if_neg (by omega), if_pos this.2]
    omega
  rw [m1, m2, m3, m4]
  omega
theorem kinds_cases {k : Kd} (hk : k ∈ E.kinds) : (∃ i u, k = Kd.mv i u ∧ E.ok i u = true) ∨ (∃ v u, v < E.N ∧ k = Kd.wt v u ∧ E.wok v u = true) ∨ (∃ u, u ≤ E.H ∧ k = Kd.so u) ∨ ∃ u, u ≤ E.H ∧ k = Kd.si u := by
  have hmv : ∀ at_ i, ∀ k ∈ E.mvK at_ i, ∃ j, k = Kd.mv j at_ ∧ E.ok j at_ = true := by
    intro at_ i
    induction i with
    | zero => intro k hk; cases hk
    | succ i ih =>
      intro k hk
      have hk : k ∈ E.mvK at_ i ++ if E.ok i at_ then [Kd.mv i at_] else [] := hk
      rcases List.mem_append.1 hk with hk | hk
      · exact ih k hk
      · split at hk
        · next ho => rw [List.mem_singleton] at hk; exact ⟨i, hk, ho⟩
        · cases hk
  have hwt : ∀ at_ i, ∀ k ∈ E.wtK at_ i, ∃ j, j < i ∧ k = Kd.wt j at_ ∧ E.wok j at_ = true := by
    intro at_ i
    induction i with
    | zero => intro k hk; cases hk
    | succ i ih =>
      intro k hk
      have hk : k ∈ E.wtK at_ i ++ if E.wok i at_ then [Kd.wt i at_] else [] := hk
      rcases List.mem_append.1 hk with hk | hk
      · obtain ⟨j, h1, h2, h3⟩ := ih k hk
        exact ⟨j, by omega, h2, h3⟩
      · split at hk
        · next ho => rw [List.mem_singleton] at hk; exact ⟨i, by omega, hk, ho⟩
        · cases hk
  have htm : ∀ n, ∀ k ∈ E.timeK n, (∃ i u, k = Kd.mv i u ∧ E.ok i u = true) ∨ ∃ v u, v < E.N ∧ k = Kd.wt v u ∧ E.wok v u = true := by
    intro n
    induction n with
    | zero => intro k hk; cases hk
    | succ n ih =>
      intro k hk
      have hk : k ∈ E.timeK n ++ (E.mvK n E.Z.length ++ E.wtK n E.N) := hk
      rcases List.mem_append.1 hk with hk | hk
      · exact ih k hk
      · rcases List.mem_append.1 hk with hk | hk
        · obtain ⟨j, h1, h2⟩ := hmv n _ k hk
          exact .inl ⟨j, n, h1, h2⟩
        · obtain ⟨j, h1, h2, h3⟩ := hwt n _ k hk
          exact .inr ⟨j, n, h1, h2, h3⟩
  have hso : ∀ n, ∀ k ∈ soK n, ∃ u, u < n ∧ k = Kd.so u := by
    intro n
    induction n with
    | zero => intro k hk; cases hk
    | succ n ih =>
      intro k hk
      have hk : k ∈ soK n ++ [Kd.so n] := hk
      rcases List.mem_append.1 hk with hk | hk
      · obtain ⟨u, h1, h2⟩ := ih k hk; exact ⟨u, by omega, h2⟩
      · rw [List.mem_singleton] at hk; exact ⟨n, by omega, hk⟩
  have hsi : ∀ n, ∀ k ∈ siK n, ∃ u, u < n ∧ k = Kd.si u := by
    intro n
    induction n with
    | zero => intro k hk; cases hk
    | succ n ih =>
      intro k hk
      have hk : k ∈ siK n ++ [Kd.si n] := hk
      rcases List.mem_append.1 hk with hk | hk
      · obtain ⟨u, h1, h2⟩ := ih k hk; exact ⟨u, by omega, h2⟩
      · rw [List.mem_singleton] at hk; exact ⟨n, by omega, hk⟩
  unfold kinds at hk
  rcases List.mem_append.1 hk with hk | hk
  · rcases htm _ k hk with h | h
    · exact .inl h
    · exact .inr (.inl h)
  · rcases List.mem_append.1 hk with hk | hk
    · obtain ⟨u, h1, h2⟩ := hso _ k hk
      exact .inr (.inr (.inl ⟨u, by omega, h2⟩))
    · obtain ⟨u, h1, h2⟩ := hsi _ k hk
      exact .inr (.inr (.inr ⟨u, by omega, h2⟩))
theorem net_ends (hG : E.Good) : ∀ a ∈ E.net, frN a < E.last + 1 ∧ toN a < E.last + 1 := by
  have hf := first_lt (E := E)
  intro a ha
  unfold net at ha
  obtain ⟨k, hk, rfl⟩ := List.mem_map.1 ha
  rcases kinds_cases hk with ⟨i, u, rfl, h⟩ | ⟨v, u, hv, rfl, h⟩ | ⟨u, h1, rfl⟩ | ⟨u, h1, rfl⟩
  · have := mv_ends hG h; omega
  · have := wt_ends hv h; omega
  · have := so_ends hG (u := u) h1; omega
  · have := si_ends hG (u := u) h1; omega
/-- Each node of the expanded network but the two ends is a slot. -/
theorem slot_of (hG : E.Good) {w : Nat} (h : w < E.first) : ∃ v at_, v < E.N ∧ at_ ≤ E.H ∧ w = E.slot v at_ := by
  have hN : 0 < E.N := by have := hG.s; omega
  refine ⟨w % E.N, w / E.N, Nat.mod_lt _ hN, ?_, ?_⟩
  · unfold first at h
    have := (Nat.div_lt_iff_lt_mul hN).2 h
    omega
  · unfold slot
    have := Nat.div_add_mod w E.N
    rw [Nat.mul_comm] at this
    omega
/-- What a plan is: no node has less than nothing, nor anything in the end; none keeps anything where nodes don't keep. -/
def Plan (E : Exp) (x : Kd → Int) : Prop := (∀ i u, E.ok i u = true → 0 ≤ x (Kd.mv i u) ∧ ∀ a, E.Z[i]? = some a → x (Kd.mv i u) ≤ capN a) ∧ ∀ v, v < E.N → v ≠ E.s → v ≠ E.t → ∀ u, u ≤ E.H → 0 ≤ E.stock x v u ∧ (E.stock x v u = 0 ∨ (E.hold = true ∧ u < E.H))
/-- The movements of a flow that is balanced are a plan of its value. -/
theorem runs (hG : E.Good) (x : Kd → Int) {k : Int} (h : FlowST E.net (E.last + 1) E.first E.last (E.kinds.map x) k) (hp : ∀ i u, E.ok i u = true → 0 ≤ x (Kd.mv i u) ∧ ∀ a, E.Z[i]? = some a → x (Kd.mv i u) ≤ capN a) (hw : ∀ v u, v < E.N → E.wok v u = true → 0 ≤ x (Kd.wt v u)) :
    E.Plan x ∧ E.stock x E.t E.H = k := by
  have hf := first_lt (E := E)
  have hbal : ∀ v u, v < E.N → u ≤ E.H → bal E.net (E.kinds.map x) (E.slot v u) = 0 := fun v u hv hu => by
    have hlt : E.slot v u < E.first := slot_lt hu hv
    exact h.2.1 _ (by omega) (by omega) (by omega)
  refine ⟨⟨hp, fun v hv hs ht u hu => ?_⟩, ?_⟩
  · rw [stock_wait hG x hv hs ht (fun u hu => hbal v u hv hu) hu]
    unfold wait
    by_cases hk : E.wok v u = true
    · rw [if_pos hk]
      have := E.wok_is.1 hk
      exact ⟨hw v u hv hk, .inr ⟨this.1, this.2.1⟩⟩
    · rw [if_neg hk]; exact ⟨Int.le_refl _, .inl rfl⟩
  · have e1 : E.stock x E.t E.H = sumTo (fun u => x (Kd.si u)) (E.H + 1) := by
      unfold stock
      refine sumTo_congr (fun u hu => ?_)
      have h1 := hbal E.t u hG.t (by omega)
      rw [slot_bal hG x hG.t (by omega), wait_end x _ (.inr rfl), waited_end x _ (.inr rfl), if_neg hG.ne, if_pos rfl] at h1
      omega
    -- what goes to the last end is what comes of the first one
    have h2 := flow_sink (net_ends hG) (by omega) (by omega) (by omega) h
    have h3 := bal_last hG x
    rw [e1]
    omega
/-! .. and back -/
theorem sumTo_nonneg {g : Nat → Int} : ∀ {n}, (∀ v, v < n → 0 ≤ g v) → 0 ≤ sumTo g n
  | 0, _ => Int.le_refl _
  | n + 1, h => by
    have h1 := sumTo_nonneg (g := g) (n := n) (fun v hv => h v (by omega))
    have h2 := h n (by omega)
    simp only [sumTo]
    omega
theorem dep_nonneg {x : Kd → Int} (h : ∀ i u, E.ok i u = true → 0 ≤ x (Kd.mv i u)) (v at_ : Nat) : 0 ≤ E.dep x v at_ := by
  unfold dep
  refine sumTo_nonneg (fun i _ => ?_)
  by_cases hk : E.ok i at_ = true
  · rw [if_pos hk]
    split
    · exact h i at_ hk
    · exact Int.le_refl _
  · rw [if_neg hk]; exact Int.le_refl _
theorem arr_nonneg {x : Kd → Int} (h : ∀ i u, E.ok i u = true → 0 ≤ x (Kd.mv i u)) (v at_ : Nat) : 0 ≤ E.arr x v at_ := by
  unfold arr
  refine sumTo_nonneg (fun u _ => sumTo_nonneg (fun i _ => ?_))
  by_cases hk : E.ok i u = true
  · rw [if_pos hk]
    split
    · exact h i u hk
    · exact Int.le_refl _
  · rw [if_neg hk]; exact Int.le_refl _
/-- What has arrived never becomes less. -/
theorem stock_rises {x : Kd → Int} (h : ∀ i u, E.ok i u = true → 0 ≤ x (Kd.mv i u)) (at_ : Nat) : 0 ≤ E.stock x E.t 0 ∧ E.stock x E.t at_ ≤ E.stock x E.t (at_ + 1) := by
  have h1 := arr_nonneg h E.t (at_ + 1)
  have h2 := arr_nonneg h E.t 0
  have e1 : E.stock x E.t (at_ + 1) = E.stock x E.t at_ + (E.arr x E.t (at_ + 1) - E.dep x E.t (at_ + 1)) := rfl
  have e2 : E.stock x E.t 0 = 0 + (E.arr x E.t 0 - E.dep x E.t 0) := rfl
  rw [dep_sink] at e1 e2
  omega
theorem flow_map {K : List Kd} {a : Kd → ArcT} {x : Kd → Int} (h : ∀ k ∈ K, 0 ≤ x k ∧ x k ≤ capN (a k)) : Flow (K.map a) (K.map x) := by
  refine ⟨by simp, fun i b hi => ?_⟩
  rw [List.getElem?_map] at hi
  cases hk : K[i]? with
  | none => rw [hk] at hi; cases hi
  | some k =>
    rw [hk] at hi
    cases hi
    have e : atI (K.map x) i = x k := by unfold atI; rw [List.getD_eq_getElem?_getD, List.getElem?_map, hk]; rfl
    rw [e]
    exact h k (List.mem_of_getElem? hk)
/-- The flow of movements: what moves, what waits, what leaves the source and what comes to the sink. -/
def flowX (E : Exp) (y : Kd → Int) : Kd → Int
  | (0, i, u) => y (Kd.mv i u)
  | (1, v, u) => E.stock y v u
  | (2, _, u) => E.dep y E.s u
  | (_ + 3, _, u) => E.arr y E.t u
theorem flowX_stock (y : Kd → Int) (v u : Nat) : E.stock (E.flowX y) v u = E.stock y v u ∧ E.dep (E.flowX y) v u = E.dep y v u ∧ E.arr (E.flowX y) v u = E.arr y v u := ⟨rfl, rfl, rfl⟩
/-- A plan's flow is balanced, and has its value. -/
theorem flows (hG : E.Good) {y : Kd → Int} (h : E.Plan y) (hb : ∀ v u, v < E.N → u ≤ E.H → E.stock y v u ≤ big ∧ E.dep y v u ≤ big ∧ E.arr y v u ≤ big) : FlowST E.net (E.last + 1) E.first E.last (E.kinds.map (E.flowX y)) (E.stock y E.t E.H) := by
  have hf := first_lt (E := E)
  have hp : ∀ i u, E.ok i u = true → 0 ≤ y (Kd.mv i u) := fun i u hk => (h.1 i u hk).1
  have hslot : ∀ v u, v < E.N → u ≤ E.H → bal E.net (E.kinds.map (E.flowX y)) (E.slot v u) = 0 := by
    intro v u hv hu
    rw [slot_bal hG _ hv hu, (flowX_stock y v u).2.1, (flowX_stock y v u).2.2]
    by_cases hs : v = E.s
    · subst hs
      rw [wait_end _ _ (.inl rfl), waited_end _ _ (.inl rfl), if_pos rfl, if_neg (fun e => hG.ne e.symm), arr_source]
      show E.dep y E.s u - 0 + 0 - 0 - E.dep y E.s u + 0 = 0
      omega
    · by_cases ht : v = E.t
      · subst ht
        rw [wait_end _ _ (.inr rfl), waited_end _ _ (.inr rfl), if_neg hG.ne, if_pos rfl, dep_sink]
        show 0 - E.arr y E.t u + 0 - 0 - 0 + E.arr y E.t u = 0
        omega
      · rw [if_neg (fun e => hs e.symm), if_neg (fun e => ht e.symm)]
        have hwait : ∀ w, w ≤ E.H → E.wait (E.flowX y) v w = E.stock y v w := by
          intro w hw
          unfold wait
          by_cases hk : E.wok v w = true
          · rw [if_pos hk]; rfl
          · rw [if_neg hk]
            rcases (h.2 v hv hs ht w hw).2 with e | ⟨e1, e2⟩
            · exact e.symm
            · exact absurd (E.wok_is.2 ⟨e1, e2, hs, ht⟩) hk
        rw [hwait u hu]
        cases u with
        | zero =>
          have e : E.stock y v 0 = 0 + (E.arr y v 0 - E.dep y v 0) := rfl
          simp only [waited]
          omega
        | succ u =>
          have e : E.stock y v (u + 1) = E.stock y v u + (E.arr y v (u + 1) - E.dep y v (u + 1)) := rfl
          simp only [waited]
          rw [hwait u (by omega)]
          omega
  have hfl : Flow E.net (E.kinds.map (E.flowX y)) := by
    refine flow_map (fun k hk => ?_)
    rcases kinds_cases hk with ⟨i, u, rfl, ho⟩ | ⟨v, u, hv, rfl, ho⟩ | ⟨u, h1, rfl⟩ | ⟨u, h1, rfl⟩
    · obtain ⟨a, ha, _⟩ := E.ok_arc ho
      have e4 : E.arcKd (Kd.mv i u) = ((E.slot (frN a) u : Int), (E.slot (toN a) (u + tmN a) : Int), capN a, 0) := by simp only [arcKd, ha]
      rw [e4]
      exact ⟨(h.1 i u ho).1, (h.1 i u ho).2 a ha⟩
    · have hw := E.wok_is.1 ho
      exact ⟨(h.2 v hv hw.2.2.1 hw.2.2.2 u (by omega)).1, (hb v u hv (by omega)).1⟩
    · exact ⟨dep_nonneg hp _ _, (hb E.s u hG.s h1).2.1⟩
    · exact ⟨arr_nonneg hp _ _, (hb E.t u hG.t h1).2.2⟩
  have hz : ∀ w, w < E.last + 1 → w ≠ E.first → w ≠ E.last → bal E.net (E.kinds.map (E.flowX y)) w = 0 := by
    intro w hw h1 h2
    have hlt : w < E.first := by unfold first last at *; omega
    obtain ⟨v, u, hv, hu, rfl⟩ := slot_of hG hlt
    exact hslot v u hv hu
  refine ⟨hfl, hz, ?_⟩
  have h1 := sum_two (g := bal E.net (E.kinds.map (E.flowX y))) (N := E.last + 1) (s := E.first) (t := E.last) (by omega) (by omega) (by omega) hz
  rw [bal_sum (net_ends hG), bal_last hG] at h1
  have e1 : E.stock y E.t E.H = sumTo (fun u => E.flowX y (Kd.si u)) (E.H + 1) := by
    unfold stock
    refine sumTo_congr (fun u _ => ?_)
    rw [dep_sink]
    show E.arr y E.t u - 0 = E.arr y E.t u
    omega
  rw [e1]
  omega
end Exp
end Go.Proofs.Ytbkmfjegbmjknaa
