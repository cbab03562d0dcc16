/- Flows without time: what leaves a node less what comes; steps, and what is pushed along them: plain lists. -/
import Derived.Test.YtiefphkfddecbaaABfs
namespace Go.Proofs.Ytiefphkfddecbaa
set_option linter.unusedVariables false

def capN (a : ArcT) : Int := a.2.2.1
/-- One number for each arc, from 0 to what it takes. -/
def Flow (Z : List ArcT) (f : List Int) : Prop := f.length = Z.length ∧ ∀ i a, Z[i]? = some a → 0 ≤ atI f i ∧ atI f i ≤ capN a
/-- What an arc's flow gives to a node's balance. -/
def share (a : ArcT) (x : Int) (v : Nat) : Int := (if frN a = v then x else 0) - (if toN a = v then x else 0)
/-- What leaves v less what comes, along the first i arcs. -/
def balK (Z : List ArcT) (f : List Int) (v : Nat) : Nat → Int
  | 0 => 0
  | i + 1 => balK Z f v i + match Z[i]? with | some a => share a (atI f i) v | none => 0
def bal (Z : List ArcT) (f : List Int) (v : Nat) : Int := balK Z f v Z.length
theorem balK_succ {Z : List ArcT} {f : List Int} {v i : Nat} {a : ArcT} (h : Z[i]? = some a) : balK Z f v (i + 1) = balK Z f v i + share a (atI f i) v := by
  show balK Z f v i + _ = _
  rw [h]
theorem share_bd {a : ArcT} {x M : Int} (h0 : 0 ≤ x) (h1 : x ≤ M) (v : Nat) : -M ≤ share a x v ∧ share a x v ≤ M := by
  unfold share
  split <;> split <;> omega
theorem balK_bd {Z : List ArcT} {f : List Int} {M : Int} (hM : 0 ≤ M) (h : ∀ i a, Z[i]? = some a → 0 ≤ atI f i ∧ atI f i ≤ M) (v : Nat) : ∀ i, -(i * M) ≤ balK Z f v i ∧ balK Z f v i ≤ i * M
  | 0 => by simp [balK]
  | i + 1 => by
    have ih := balK_bd hM h v i
    rw [Int.natCast_add, Int.add_mul]
    cases hz : Z[i]? with
    | none =>
      have e : balK Z f v (i + 1) = balK Z f v i := by show balK Z f v i + _ = _; rw [hz]; simp
      rw [e]
      simp
      omega
    | some a =>
      rw [balK_succ hz]
      have := share_bd (h i a hz).1 (h i a hz).2 v (a := a)
      simp
      omega
/-! Balances add up to nothing -/
def sumTo (g : Nat → Int) : Nat → Int
  | 0 => 0
  | n + 1 => sumTo g n + g n
theorem sumTo_add (g h : Nat → Int) : ∀ n, sumTo (fun v => g v + h v) n = sumTo g n + sumTo h n
  | 0 => rfl
  | n + 1 => by simp only [sumTo, sumTo_add g h n]; omega
theorem sumTo_zero : ∀ n, sumTo (fun _ => 0) n = 0
  | 0 => rfl
  | n + 1 => by simp only [sumTo, sumTo_zero n]; rfl
theorem sumTo_congr {g h : Nat → Int} : ∀ {n}, (∀ v, v < n → g v = h v) → sumTo g n = sumTo h n
  | 0, _ => rfl
  | n + 1, e => by
    have ih := sumTo_congr (g := g) (h := h) (n := n) (fun v hv => e v (by omega))
    simp only [sumTo, ih, e n (by omega)]
theorem sumTo_one {x : Int} {u : Nat} : ∀ n, sumTo (fun v => if u = v then x else 0) n = if u < n then x else 0
  | 0 => by simp [sumTo]
  | n + 1 => by
    simp only [sumTo, sumTo_one n]
    by_cases h1 : u < n
    · rw [if_pos h1, if_neg (by omega), if_pos (by omega)]; omega
    · by_cases h2 : u = n
      · rw [if_neg h1, if_pos h2, if_pos (by omega)]; omega
      · rw [if_neg h1, if_neg h2, if_neg (by omega)]; rfl
theorem sumTo_neg (g : Nat → Int) : ∀ n, sumTo (fun v => - g v) n = - sumTo g n
  | 0 => rfl
  | n + 1 => by simp only [sumTo, sumTo_neg g n]; omega
theorem share_sum {a : ArcT} {x : Int} {N : Nat} (hf : frN a < N) (ht : toN a < N) : sumTo (share a x) N = 0 := by
  have e : sumTo (share a x) N = sumTo (fun v => (if frN a = v then x else 0) + (- (if toN a = v then x else 0))) N := sumTo_congr (fun v _ => by unfold share; omega)
  rw [e, sumTo_add, sumTo_neg, sumTo_one, sumTo_one, if_pos hf, if_pos ht]
  omega
theorem balK_sum {Z : List ArcT} {f : List Int} {N : Nat} (hZ : ∀ a ∈ Z, frN a < N ∧ toN a < N) : ∀ i, sumTo (fun v => balK Z f v i) N = 0
  | 0 => sumTo_zero N
  | i + 1 => by
    cases hz : Z[i]? with
    | none =>
      rw [sumTo_congr (h := fun v => balK Z f v i) (fun v _ => by show balK Z f v i + _ = _; rw [hz]; simp)]
      exact balK_sum hZ i
    | some a =>
      have ha := hZ a (List.mem_of_getElem? hz)
      rw [sumTo_congr (h := fun v => balK Z f v i + share a (atI f i) v) (fun v _ => balK_succ hz), sumTo_add, balK_sum hZ i, share_sum ha.1 ha.2]
      rfl
theorem bal_sum {Z : List ArcT} {f : List Int} {N : Nat} (hZ : ∀ a ∈ Z, frN a < N ∧ toN a < N) : sumTo (bal Z f) N = 0 := balK_sum hZ Z.length
/-- Where all nodes but two are balanced, as much comes to the one as leaves the other. -/
theorem sum_two {g : Nat → Int} {N s t : Nat} (hs : s < N) (ht : t < N) (hne : s ≠ t) (h : ∀ v, v < N → v ≠ s → v ≠ t → g v = 0) : sumTo g N = g s + g t := by
  have e : sumTo g N = sumTo (fun v => (if s = v then g s else 0) + (if t = v then g t else 0)) N := sumTo_congr (fun v hv => by
    by_cases h1 : s = v
    · subst h1; rw [if_pos rfl, if_neg (fun q => hne q.symm)]; omega
    · by_cases h2 : t = v
      · subst h2; rw [if_neg h1, if_pos rfl]; omega
      · rw [if_neg h1, if_neg h2, h v hv (fun q => h1 q.symm) (fun q => h2 q.symm)]; rfl)
  rw [e, sumTo_add, sumTo_one, sumTo_one, if_pos hs, if_pos ht]
/-! The balances as a list, made in one pass over the arcs -/
def balL (Z : List ArcT) (f : List Int) (N i : Nat) : List Int := (List.range N).map fun v => balK Z f v i
theorem balL_len (Z : List ArcT) (f : List Int) (N i : Nat) : (balL Z f N i).length = N := by simp [balL]
theorem balL_at (Z : List ArcT) (f : List Int) {N v : Nat} (i : Nat) (h : v < N) : atI (balL Z f N i) v = balK Z f v i := by
  unfold atI; rw [List.getD_eq_getElem?_getD, List.getElem?_eq_getElem (by rw [balL_len]; exact h)]; simp [balL]
theorem balL_zero (Z : List ArcT) (f : List Int) (N : Nat) : balL Z f N 0 = List.replicate N 0 := by
  apply List.ext_getElem
  · simp [balL]
  · intro i h1 h2; simp [balL, balK]
theorem ext_at {x y : List Int} (hl : x.length = y.length) (h : ∀ v, v < x.length → atI x v = atI y v) : x = y := by
  apply List.ext_getElem hl
  intro i h1 h2
  have := h i h1
  unfold atI at this
  rw [List.getD_eq_getElem?_getD, List.getD_eq_getElem?_getD, List.getElem?_eq_getElem h1, List.getElem?_eq_getElem h2] at this
  exact this
theorem balL_step {Z : List ArcT} {f : List Int} {N i : Nat} {a : ArcT} (h : Z[i]? = some a) (hf : frN a < N) (ht : toN a < N) :
    balL Z f N (i + 1) = ((balL Z f N i).set (frN a) (atI (balL Z f N i) (frN a) + atI f i)).set (toN a) (atI ((balL Z f N i).set (frN a) (atI (balL Z f N i) (frN a) + atI f i)) (toN a) - atI f i) := by
  apply ext_at
  · simp [balL]
  · intro v hv
    rw [balL_len] at hv
    rw [balL_at _ _ _ hv, balK_succ h, atI_set (by simp [balL]; exact ht), atI_set (by rw [balL_len]; exact hf), atI_set (by rw [balL_len]; exact hf), balL_at _ _ _ hf, balL_at _ _ _ ht, balL_at _ _ _ hv]
    unfold share
    by_cases h1 : v = toN a
    · subst h1
      rw [if_pos rfl]
      by_cases h2 : toN a = frN a
      · rw [if_pos h2, h2, if_pos rfl, if_pos rfl]; omega
      · rw [if_neg h2, if_neg (fun q => h2 q.symm), if_pos rfl]; omega
    · rw [if_neg h1, if_neg (fun q : toN a = v => h1 q.symm)]
      by_cases h2 : v = frN a
      · subst h2; rw [if_pos rfl, if_pos rfl]; omega
      · rw [if_neg h2, if_neg (fun q : frN a = v => h2 q.symm)]; omega
/-! Steps -/
abbrev StepT := Int × Bool
def isArc (Z : List ArcT) (x : StepT) : Prop := 0 ≤ x.1 ∧ x.1 < Z.length
instance (Z : List ArcT) (x : StepT) : Decidable (isArc Z x) := by unfold isArc; infer_instance
def arcOf (Z : List ArcT) (x : StepT) : ArcT := Z.getD x.1.toNat (0, 0, 0, 0)
/-- How much may go one step more. -/
def leftS (Z : List ArcT) (f : List Int) (x : StepT) : Int := if x.2 then atI f x.1.toNat else capN (arcOf Z x) - atI f x.1.toNat
def stepTo (k : Int) (f : List Int) (x : StepT) : List Int := f.set x.1.toNat (if x.2 then atI f x.1.toNat - k else atI f x.1.toNat + k)
/-- What steps make of a flow, or what is wrong. -/
def pushL (Z : List ArcT) (k : Int) : List Int → List StepT → Int × List Int
  | f, [] => (0, f)
  | f, x :: r => if isArc Z x then (if leftS Z f x < k then (71, []) else pushL Z k (stepTo k f x) r) else (1, [])
theorem stepTo_len (k : Int) (f : List Int) (x : StepT) : (stepTo k f x).length = f.length := by simp [stepTo]
theorem stepTo_at {k : Int} {f : List Int} {x : StepT} (h : x.1.toNat < f.length) (i : Nat) : atI (stepTo k f x) i = if i = x.1.toNat then (if x.2 then atI f x.1.toNat - k else atI f x.1.toNat + k) else atI f i := atI_set h
theorem arcOf_at {Z : List ArcT} {x : StepT} (h : isArc Z x) : Z[x.1.toNat]? = some (arcOf Z x) := by
  have hl : x.1.toNat < Z.length := by unfold isArc at h; omega
  unfold arcOf; rw [List.getD_eq_getElem?_getD, List.getElem?_eq_getElem hl]; rfl
theorem stepTo_flow {Z : List ArcT} {k : Int} {f : List Int} {x : StepT} (hf : Flow Z f) (hk : 0 ≤ k) (hx : isArc Z x) (hr : ¬ leftS Z f x < k) : Flow Z (stepTo k f x) := by
  have ha := arcOf_at hx
  have hlt : x.1.toNat < f.length := by rw [hf.1]; exact (List.getElem?_eq_some_iff.1 ha).1
  refine ⟨by rw [stepTo_len]; exact hf.1, fun i a hi => ?_⟩
  rw [stepTo_at hlt]
  have h1 := hf.2 i a hi
  by_cases e : i = x.1.toNat
  · subst e
    rw [if_pos rfl]
    rw [ha] at hi; cases hi
    unfold leftS at hr
    split <;> rename_i hb <;> simp only [hb] at hr <;> simp at hr <;> omega
  · rw [if_neg e]; exact h1
theorem pushL_flow {Z : List ArcT} {k : Int} (hk : 0 ≤ k) : ∀ (l : List StepT) (f : List Int), Flow Z f → (pushL Z k f l).1 = 0 → Flow Z (pushL Z k f l).2
  | [], f, h, _ => h
  | x :: r, f, h, h0 => by
    unfold pushL at h0 ⊢
    by_cases hx : isArc Z x
    · rw [if_pos hx] at h0 ⊢
      by_cases hl : leftS Z f x < k
      · rw [if_pos hl] at h0; cases h0
      · rw [if_neg hl] at h0 ⊢
        exact pushL_flow hk r _ (stepTo_flow h hk hx hl) h0
    · rw [if_neg hx] at h0; cases h0
/-- The step the other way. -/
def flipS (x : StepT) : StepT := (x.1, !x.2)
theorem step_back {Z : List ArcT} {k : Int} {f : List Int} {x : StepT} (hf : Flow Z f) (hx : isArc Z x) (hr : ¬ leftS Z f x < k) : isArc Z (flipS x) ∧ ¬ leftS Z (stepTo k f x) (flipS x) < k ∧ stepTo k (stepTo k f x) (flipS x) = f := by
  have ha := arcOf_at hx
  have hlt : x.1.toNat < f.length := by rw [hf.1]; exact (List.getElem?_eq_some_iff.1 ha).1
  have h1 := hf.2 _ _ ha
  have hat := stepTo_at (k := k) hlt x.1.toNat
  rw [if_pos rfl] at hat
  have hflip : (flipS x).1 = x.1 := rfl
  have harc : arcOf Z (flipS x) = arcOf Z x := rfl
  refine ⟨hx, ?_, ?_⟩
  · unfold leftS at hr ⊢
    rw [hflip, hat, harc]
    cases hb : x.2 <;> simp [flipS, hb] at hr ⊢ <;> omega
  · apply ext_at
    · rw [stepTo_len, stepTo_len]
    · intro i hi
      rw [stepTo_at (by rw [stepTo_len]; exact hlt), hflip, hat]
      by_cases e : i = x.1.toNat
      · subst e
        rw [if_pos rfl]
        cases hb : x.2 <;> simp [flipS, hb]
      · rw [if_neg e, stepTo_at hlt, if_neg e]
theorem pushL_app {Z : List ArcT} {k : Int} : ∀ (l m : List StepT) (f : List Int), (pushL Z k f l).1 = 0 → pushL Z k f (l ++ m) = pushL Z k (pushL Z k f l).2 m
  | [], m, f, _ => rfl
  | x :: r, m, f, h0 => by
    have hx : isArc Z x := Classical.byContradiction fun hx => by unfold pushL at h0; rw [if_neg hx] at h0; cases h0
    have hl : ¬ leftS Z f x < k := fun hl => by unfold pushL at h0; rw [if_pos hx, if_pos hl] at h0; cases h0
    have e : ∀ q, pushL Z k f (x :: q) = pushL Z k (stepTo k f x) q := fun q => by show (if _ then _ else _) = _; rw [if_pos hx, if_neg hl]
    rw [e] at h0
    rw [List.cons_append, e, e]
    exact pushL_app r m _ h0
/-- Pushing back undoes it. -/
theorem push_undo {Z : List ArcT} {k : Int} (hk : 0 ≤ k) : ∀ (l : List StepT) (f : List Int), Flow Z f → (pushL Z k f l).1 = 0 → pushL Z k (pushL Z k f l).2 ((l.map flipS).reverse) = (0, f)
  | [], f, _, _ => rfl
  | x :: r, f, h, h0 => by
    have hx : isArc Z x := Classical.byContradiction fun hx => by unfold pushL at h0; rw [if_neg hx] at h0; cases h0
    have hl : ¬ leftS Z f x < k := fun hl => by unfold pushL at h0; rw [if_pos hx, if_pos hl] at h0; cases h0
    have e : pushL Z k f (x :: r) = pushL Z k (stepTo k f x) r := by show (if _ then _ else _) = _; rw [if_pos hx, if_neg hl]
    rw [e] at h0 ⊢
    have hf2 := stepTo_flow h hk hx hl
    have ih := push_undo hk r _ hf2 h0
    obtain ⟨b1, b2, b3⟩ := step_back h hx hl
    rw [List.map_cons, List.reverse_cons, pushL_app _ _ _ (by rw [ih]), ih]
    show (if _ then _ else _) = _
    rw [if_pos b1, if_neg b2, b3]
    rfl
/-! Steps one behind the other -/
def fromS (Z : List ArcT) (x : StepT) : Nat := if x.2 then toN (arcOf Z x) else frN (arcOf Z x)
def toS (Z : List ArcT) (x : StepT) : Nat := if x.2 then frN (arcOf Z x) else toN (arcOf Z x)
def Trail (Z : List ArcT) (u : Nat) : List StepT → Nat → Prop
  | [], v => u = v
  | x :: r, v => fromS Z x = u ∧ isArc Z x ∧ Trail Z (toS Z x) r v
theorem trail_snoc {Z : List ArcT} : ∀ {l : List StepT} {u v : Nat} {x : StepT}, Trail Z u l v → fromS Z x = v → isArc Z x → Trail Z u (l ++ [x]) (toS Z x)
  | [], u, v, x, h, h1, h2 => ⟨by rw [h1]; exact h.symm, h2, rfl⟩
  | y :: r, u, v, x, h, h1, h2 => ⟨h.1, h.2.1, trail_snoc h.2.2 h1 h2⟩
theorem balK_set {Z : List ArcT} {f : List Int} {j : Nat} {y : Int} (hj : j < f.length) (v : Nat) : ∀ i, balK Z (f.set j y) v i = balK Z f v i + if j < i then (match Z[j]? with | some a => share a y v - share a (atI f j) v | none => 0) else 0
  | 0 => by simp [balK]
  | i + 1 => by
    have ih := balK_set (Z := Z) (y := y) hj v i
    show balK Z (f.set j y) v i + _ = balK Z f v i + _ + _
    rw [ih]
    by_cases h1 : j < i
    · rw [if_pos h1, if_pos (by omega)]
      have e : atI (f.set j y) i = atI f i := by rw [atI_set hj, if_neg (by omega)]
      rw [e]
      omega
    · rw [if_neg h1]
      by_cases h2 : j = i
      · subst h2
        rw [if_pos (by omega), atI_set hj, if_pos rfl]
        cases Z[j]? with
        | none => simp
        | some a => simp only; omega
      · rw [if_neg (by omega)]
        have e : atI (f.set j y) i = atI f i := by rw [atI_set hj, if_neg (by omega)]
        rw [e]
        omega
theorem share_step (a : ArcT) (x k : Int) (v : Nat) : share a (x + k) v - share a x v = (if frN a = v then k else 0) - (if toN a = v then k else 0) := by
  unfold share
  split <;> split <;> omega
theorem bal_step {Z : List ArcT} {k : Int} {f : List Int} {x : StepT} (hf : f.length = Z.length) (hx : isArc Z x) (v : Nat) : bal Z (stepTo k f x) v = bal Z f v + (if fromS Z x = v then k else 0) - (if toS Z x = v then k else 0) := by
  have ha := arcOf_at hx
  have hlt : x.1.toNat < Z.length := (List.getElem?_eq_some_iff.1 ha).1
  unfold bal stepTo
  rw [balK_set (by omega), if_pos hlt, ha]
  simp only
  unfold fromS toS
  cases hb : x.2
  · have := share_step (arcOf Z x) (atI f x.1.toNat) k v
    simp only [Bool.false_eq_true, if_false]
    omega
  · have := share_step (arcOf Z x) (atI f x.1.toNat) (-k) v
    simp only [if_true]
    rw [show atI f x.1.toNat - k = atI f x.1.toNat + -k by omega, this]
    split <;> split <;> omega
/-- What is pushed along a trail changes the balances of its ends alone. -/
theorem push_trail {Z : List ArcT} {k : Int} : ∀ (l : List StepT) (f : List Int) (u v : Nat), f.length = Z.length → Trail Z u l v → (pushL Z k f l).1 = 0 → (pushL Z k f l).2.length = Z.length ∧ ∀ w, bal Z (pushL Z k f l).2 w = bal Z f w + (if u = w then k else 0) - (if v = w then k else 0)
  | [], f, u, v, hl, h, _ => by
    simp only [Trail] at h
    subst h
    exact ⟨hl, fun w => by show bal Z f w = _; split <;> omega⟩
  | x :: r, f, u, v, hl, h, h0 => by
    obtain ⟨t1, t2, t3⟩ := h
    have hlx : ¬ leftS Z f x < k := fun hl => by unfold pushL at h0; rw [if_pos t2, if_pos hl] at h0; cases h0
    have e : pushL Z k f (x :: r) = pushL Z k (stepTo k f x) r := by show (if _ then _ else _) = _; rw [if_pos t2, if_neg hlx]
    rw [e] at h0 ⊢
    obtain ⟨g1, g2⟩ := push_trail r (stepTo k f x) _ v (by rw [stepTo_len]; exact hl) t3 h0
    refine ⟨g1, fun w => ?_⟩
    rw [g2 w, bal_step hl t2 w, t1]
    omega
/-- Along arcs that are there only too little room is refused. -/
theorem push_err {Z : List ArcT} {k : Int} : ∀ (l : List StepT) (f : List Int), (∀ x ∈ l, isArc Z x) → (pushL Z k f l).1 = 0 ∨ pushL Z k f l = (71, [])
  | [], f, _ => .inl rfl
  | x :: r, f, h => by
    unfold pushL
    rw [if_pos (h x (by simp))]
    split
    · exact .inr rfl
    · exact push_err r _ (fun y hy => h y (by simp [hy]))
/-! How long all of a flow is on its way -/
def costK (Z : List ArcT) (f : List Int) : Nat → Int
  | 0 => 0
  | i + 1 => costK Z f i + match Z[i]? with | some a => atI f i * tm a | none => 0
theorem costK_succ {Z : List ArcT} {f : List Int} {i : Nat} {a : ArcT} (h : Z[i]? = some a) : costK Z f (i + 1) = costK Z f i + atI f i * tm a := by
  show costK Z f i + _ = _
  rw [h]
theorem costK_bd {Z : List ArcT} {f : List Int} (h : ∀ i a, Z[i]? = some a → (0 ≤ atI f i ∧ atI f i ≤ 1048576) ∧ 0 ≤ tm a ∧ tm a ≤ 1048576) : ∀ i, 0 ≤ costK Z f i ∧ costK Z f i ≤ i * 1099511627776
  | 0 => by simp [costK]
  | i + 1 => by
    have ih := costK_bd h i
    rw [Int.natCast_add, Int.add_mul]
    cases hz : Z[i]? with
    | none =>
      have e : costK Z f (i + 1) = costK Z f i := by show costK Z f i + _ = _; rw [hz]; simp
      rw [e]
      simp
      omega
    | some a =>
      rw [costK_succ hz]
      obtain ⟨⟨h1, h2⟩, h3, h4⟩ := h i a hz
      have h5 : 0 ≤ atI f i * tm a := Int.mul_nonneg h1 h3
      have h6 : atI f i * tm a ≤ 1048576 * 1048576 := Int.mul_le_mul h2 h4 h3 (by omega)
      simp
      omega
end Go.Proofs.Ytiefphkfddecbaa
