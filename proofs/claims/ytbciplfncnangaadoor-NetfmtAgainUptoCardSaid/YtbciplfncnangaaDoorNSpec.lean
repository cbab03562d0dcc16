/- Networks as plain lists: what is wrong with one, its text, and what a text says. -/
import Derived.Test.YtbciplfncnangaaDoorWJoins
namespace Go.Proofs.YtbciplfncnangaaDoor
open Go.RowKit Go.Shelf
set_option linter.unusedVariables false

abbrev ArcT := Int × Int × Int × Int
abbrev NetT := Int × Bool × List ArcT
def netB : List UInt8 := [110, 101, 116]
def arcB : List UInt8 := [97, 114, 99]
def holdB : List UInt8 := [104, 111, 108, 100]
def freeB : List UInt8 := [102, 114, 101, 101]
def keepB (h : Bool) : List UInt8 := if h = true then holdB else freeB
def zeroN : NetT := (0, false, [])
/-- What is wrong with so many nodes, with an arc, with arcs, with a network. -/
def nodesE (n : Int) : Int := if n < 1 then 51 else if 50 < n then 2 else 0
def badEnds (n : Int) (a : ArcT) : Prop := a.1 < 0 ∨ n ≤ a.1 ∨ a.2.1 < 0 ∨ n ≤ a.2.1 ∨ a.2.2.1 < 0 ∨ a.2.2.2 < 0
instance (n : Int) (a : ArcT) : Decidable (badEnds n a) := by unfold badEnds; infer_instance
def bigArc (a : ArcT) : Prop := 1048576 < a.2.2.1 ∨ 1048576 < a.2.2.2
instance (a : ArcT) : Decidable (bigArc a) := by unfold bigArc; infer_instance
def arcE (n : Int) (a : ArcT) : Int := if badEnds n a then 51 else if bigArc a then 2 else 0
def arcsE (n : Int) : List ArcT → Int
  | [] => 0
  | a :: r => if arcE n a = 0 then arcsE n r else arcE n a
def checkE (n : Int) (Z : List ArcT) : Int := if nodesE n = 0 then (if 200 < Z.length then 2 else arcsE n Z) else nodesE n
/-- The text of a network. -/
def arcL (a : ArcT) : List Int := [a.1, a.2.1, a.2.2.1, a.2.2.2]
def headT (n : Int) (h : Bool) : List UInt8 := netB ++ 32 :: (Lib.itoa n ++ 32 :: keepB h)
def arcsT (Z : List ArcT) : List UInt8 := Z.flatMap fun a => rowL arcB (arcL a)
def netT (n : Int) (h : Bool) (Z : List ArcT) : List UInt8 := headT n h ++ 10 :: arcsT Z
/-- What a line says. -/
def idleB : List (List UInt8) → Bool
  | [] => true
  | x :: _ => Lib.hasPrefix x [35]
def headL : List (List UInt8) → NetT × Int
  | [a, b, c] =>
    if a = netB ∧ (c = holdB ∨ c = freeB) then
      (if (numL b).2 = 0 then (if nodesE (numL b).1 = 0 then (((numL b).1, decide (c = holdB), []), 0) else (zeroN, nodesE (numL b).1)) else (zeroN, (numL b).2))
    else (zeroN, 50)
  | _ => (zeroN, 50)
def arcOf (b c d e : List UInt8) : ArcT := ((numL b).1, (numL c).1, (numL d).1, (numL e).1)
def tailL (n : NetT) : List (List UInt8) → NetT × Int
  | [a, b, c, d, e] =>
    if a = arcB then
      (if errOf [b, c, d, e] = 0 then
        (if arcE n.1 (arcOf b c d e) = 0 then (if 200 ≤ n.2.2.length then (zeroN, 2) else ((n.1, n.2.1, n.2.2 ++ [arcOf b c d e]), 0)) else (zeroN, arcE n.1 (arcOf b c d e)))
      else (zeroN, errOf [b, c, d, e]))
    else (zeroN, 50)
  | _ => (zeroN, 50)
def wordsN (n : NetT) (ws : List (List UInt8)) : NetT × Int := if idleB ws = true then (n, 0) else if 0 < n.1 then tailL n ws else headL ws
def lineL (n : NetT) (x : List UInt8) : NetT × Int := wordsN n (wordsL x)
def parseL (n : NetT) (i : Nat) : List (List UInt8) → NetT × Nat × Int
  | [] => if 0 < n.1 then (n, 0, 0) else (zeroN, 0, 50)
  | x :: r => if (lineL n x).2 = 0 then parseL (lineL n x).1 (i + 1) r else (zeroN, i + 1, (lineL n x).2)

theorem nodesE_ok {n : Int} (h : nodesE n = 0) : 1 ≤ n ∧ n ≤ 50 := by
  unfold nodesE at h
  split at h
  · cases h
  · split at h
    · cases h
    · omega
theorem nodesE_mk {n : Int} (h1 : 1 ≤ n) (h2 : n ≤ 50) : nodesE n = 0 := by unfold nodesE; rw [if_neg (by omega), if_neg (by omega)]
theorem arcE_ok {n : Int} {a : ArcT} (h : arcE n a = 0) : ¬ badEnds n a ∧ ¬ bigArc a := by
  unfold arcE at h
  split at h
  · cases h
  · next h1 =>
    split at h
    · cases h
    · next h2 => exact ⟨h1, h2⟩
/-- A network in which nothing is wrong. -/
def Right (n : NetT) : Prop := nodesE n.1 = 0 ∧ n.2.2.length ≤ 200 ∧ ∀ a ∈ n.2.2, arcE n.1 a = 0
def Sound (n : NetT) : Prop := n = zeroN ∨ Right n
theorem arcsE_ok {n : Int} {Z : List ArcT} : arcsE n Z = 0 ↔ ∀ a ∈ Z, arcE n a = 0 := by
  induction Z with
  | nil => simp [arcsE]
  | cons a r ih =>
    unfold arcsE
    split
    · next h => rw [ih]; simp [h]
    · next h => constructor
                · intro h2; exact absurd h2 h
                · intro h2; exact absurd (h2 a (by simp)) h
theorem right_iff {n : Int} {b : Bool} {Z : List ArcT} : checkE n Z = 0 ↔ Right (n, b, Z) := by
  unfold checkE Right
  simp only
  split
  · next h =>
    split
    · next h2 => constructor
                 · intro h3; cases h3
                 · intro h3; omega
    · next h2 => rw [arcsE_ok]; exact ⟨fun h3 => ⟨h, by omega, h3⟩, fun h3 => h3.2.2⟩
  · next h => exact ⟨fun h2 => absurd h2 h, fun h2 => absurd h2.1 h⟩
theorem headL_sound (ws : List (List UInt8)) : (headL ws).2 = 0 → Right (headL ws).1 := by
  unfold headL
  split
  · split
    · split
      · split
        · next h => intro _; exact ⟨h, by simp, by simp⟩
        · next h => intro h2; exact absurd h2 h
      · next h => intro h2; exact absurd h2 h
    · intro h; cases h
  · intro h; cases h
theorem tailL_sound {n : NetT} (hn : Right n) (ws : List (List UInt8)) : (tailL n ws).2 = 0 → Right (tailL n ws).1 := by
  unfold tailL
  split
  · split
    · split
      · split
        · next h =>
          split
          · intro h; cases h
          · next h2 =>
            intro _
            refine ⟨hn.1, by simp; omega, ?_⟩
            intro a ha
            rcases List.mem_append.1 ha with ha | ha
            · exact hn.2.2 a ha
            · rw [List.mem_singleton] at ha; subst ha; exact h
        · next h => intro h2; exact absurd h2 h
      · next h => intro h2; exact absurd h2 h
    · intro h; cases h
  · intro h; cases h
theorem right_pos {n : NetT} (h : Right n) : 0 < n.1 := by have := nodesE_ok h.1; omega
theorem sound_begun {n : NetT} (h : Sound n) (hp : 0 < n.1) : Right n := by
  rcases h with rfl | h
  · simp [zeroN] at hp
  · exact h
theorem sound_not {n : NetT} (h : Sound n) (hp : ¬ 0 < n.1) : n = zeroN := by
  rcases h with rfl | h
  · rfl
  · exact absurd (right_pos h) hp
theorem words_sound {n : NetT} (hn : Sound n) (ws : List (List UInt8)) (h : (wordsN n ws).2 = 0) : Sound (wordsN n ws).1 := by
  unfold wordsN at h ⊢
  split
  · exact hn
  · next hi =>
    rw [if_neg hi] at h
    split
    · next hp => rw [if_pos hp] at h; exact .inr (tailL_sound (sound_begun hn hp) ws h)
    · next hp => rw [if_neg hp] at h; exact .inr (headL_sound ws h)
theorem parse_sound : ∀ (ls : List (List UInt8)) (n : NetT) (i : Nat), Sound n → (parseL n i ls).2.2 = 0 → Right (parseL n i ls).1 ∧ (parseL n i ls).2.1 = 0
  | [], n, i, hn, h => by
    unfold parseL at h ⊢
    split
    · next hp => exact ⟨sound_begun hn hp, rfl⟩
    · next hp => rw [if_neg hp] at h; cases h
  | x :: r, n, i, hn, h => by
    unfold parseL at h ⊢
    split
    · next hl => rw [if_pos hl] at h; exact parse_sound r _ _ (words_sound hn _ hl) h
    · next hl => rw [if_neg hl] at h; exact absurd h hl
theorem parse_zero : ∀ (ls : List (List UInt8)) (n : NetT) (i : Nat), (parseL n i ls).2.2 ≠ 0 → (parseL n i ls).1 = zeroN
  | [], n, i, h => by
    unfold parseL at h ⊢
    split
    · next hp => rw [if_pos hp] at h; exact absurd rfl h
    · rfl
  | x :: r, n, i, h => by
    unfold parseL at h ⊢
    split
    · next hl => rw [if_pos hl] at h; exact parse_zero r _ _ h
    · rfl
theorem parse_any_sound {ls : List (List UInt8)} {n : NetT} {i : Nat} (hn : Sound n) : Sound (parseL n i ls).1 := by
  by_cases h : (parseL n i ls).2.2 = 0
  · exact .inr (parse_sound ls n i hn h).1
  · rw [parse_zero ls n i h]; exact .inl rfl
theorem parse_line_le : ∀ (ls : List (List UInt8)) (n : NetT) (i : Nat), (parseL n i ls).2.1 ≤ i + ls.length
  | [], n, i => by unfold parseL; split <;> simp
  | x :: r, n, i => by
    unfold parseL
    split
    · have := parse_line_le r (lineL n x).1 (i + 1)
      rw [List.length_cons]; omega
    · show i + 1 ≤ _
      rw [List.length_cons]; omega
/-! What is told is read. -/
theorem cut_app (e : UInt8) (l x : List UInt8) : cut e (l ++ [e] ++ x) = ((cut e l).1 ++ [(cut e l).2] ++ (cut e x).1, (cut e x).2) := by
  refine snoc_ind (P := fun x => cut e (l ++ [e] ++ x) = ((cut e l).1 ++ [(cut e l).2] ++ (cut e x).1, (cut e x).2)) (by rw [List.append_nil, cut_hit]; simp [cut_nil]) ?_ x
  intro x c ih
  rw [← List.append_assoc]
  by_cases hc : c = e
  · subst hc; rw [cut_hit, ih, cut_hit]; simp
  · rw [cut_miss e _ c hc, ih, cut_miss e _ c hc]
theorem cut_only (e : UInt8) (l : List UInt8) (h : noB e l) : cut e l = ([], l) := by
  have := cut_none e [] l h
  rwa [List.nil_append, cut_nil] at this
/-- Lines that are put one behind the other are those lines. -/
theorem lines_flat (M : List (List UInt8)) (h : ∀ x ∈ M, noB 10 x) : cut 10 (flat M) = (M, []) := by
  induction M with
  | nil => rfl
  | cons x r ih =>
    have h1 := ih (fun y hy => h y (by simp [hy]))
    have h2 : flat (x :: r) = x ++ [10] ++ flat r := by simp [flat]
    rw [h2, cut_app, cut_only 10 x (h x (by simp)), h1]
    rfl
theorem linesL_flat (M : List (List UInt8)) (h : ∀ x ∈ M, noB 10 x) : linesL (flat M) = M := by
  unfold linesL pcs; rw [lines_flat M h]; simp [lastIf]
def arcLine (a : ArcT) : List UInt8 := arcB ++ numsL (arcL a)
theorem flatNet (n : Int) (h : Bool) (Z : List ArcT) : netT n h Z = flat (headT n h :: Z.map arcLine) := by
  have e1 : arcsT Z = flat (Z.map arcLine) := by
    unfold arcsT flat rowL arcLine
    simp [List.flatMap_map]
  unfold netT
  rw [e1]
  simp [flat]
theorem no_app {e : UInt8} {a b : List UInt8} (ha : noB e a) (hb : noB e b) : noB e (a ++ b) := by
  intro c hc
  rcases List.mem_append.1 hc with h | h
  · exact ha c h
  · exact hb c h
theorem no_cons {e c : UInt8} {b : List UInt8} (ha : c ≠ e) (hb : noB e b) : noB e (c :: b) := by
  intro d hd
  rcases List.mem_cons.1 hd with h | h
  · subst h; exact ha
  · exact hb d h
theorem netB_no : noB 10 netB ∧ noB 32 netB := by constructor <;> (intro c hc; simp [netB] at hc; rcases hc with rfl | rfl | rfl <;> decide)
theorem arcB_no : noB 10 arcB ∧ noB 32 arcB := by constructor <;> (intro c hc; simp [arcB] at hc; rcases hc with rfl | rfl | rfl <;> decide)
theorem keepB_no (h : Bool) : noB 10 (keepB h) ∧ noB 32 (keepB h) := by
  cases h
  · constructor <;> (intro c hc; simp [keepB, freeB] at hc; rcases hc with rfl | rfl | rfl | rfl <;> decide)
  · constructor <;> (intro c hc; simp [keepB, holdB] at hc; rcases hc with rfl | rfl | rfl | rfl <;> decide)
theorem noHead (n : Int) (h : Bool) : noB 10 (headT n h) := no_app netB_no.1 (no_cons (by decide) (no_app (itoa_no n).2 (no_cons (by decide) (keepB_no h).1)))
theorem arcLine_no (a : ArcT) : noB 10 (arcLine a) := no_app arcB_no.1 (nums_no10 _)
theorem lines_net (n : Int) (h : Bool) (Z : List ArcT) : linesL (netT n h Z) = headT n h :: Z.map arcLine := by
  rw [flatNet, linesL_flat]
  intro x hx
  rcases List.mem_cons.1 hx with rfl | hx
  · exact noHead n h
  · obtain ⟨a, _, rfl⟩ := List.mem_map.1 hx
    exact arcLine_no a
theorem words_pcs {l : List UInt8} : wordsL l = ((cut 32 l).1 ++ [(cut 32 l).2]).filter full := by
  unfold wordsL pcs
  rw [List.filter_append, List.filter_append]
  congr 1
  cases (cut 32 l).2 <;> rfl
theorem words_head (n : Int) (h : Bool) : wordsL (headT n h) = [netB, Lib.itoa n, keepB h] := by
  have e1 : headT n h = netB ++ [32] ++ (Lib.itoa n ++ [32] ++ keepB h) := by unfold headT; simp
  rw [words_pcs, e1, cut_app, cut_only 32 netB netB_no.2, cut_app, cut_only 32 _ (itoa_no n).1, cut_only 32 _ (keepB_no h).2]
  have h1 : full (Lib.itoa n) = true := by
    have := itoa_ne n
    unfold full
    cases hd : Lib.itoa n with
    | nil => exact absurd hd this
    | cons c r => rfl
  have h2 : full (keepB h) = true := by cases h <;> rfl
  have h3 : full netB = true := rfl
  simp [h1, h2, h3]
theorem words_arc (a : ArcT) : wordsL (arcLine a) = [arcB, Lib.itoa a.1, Lib.itoa a.2.1, Lib.itoa a.2.2.1, Lib.itoa a.2.2.2] := words_row arcB (arcL a) arcB_no.2 (by decide)
theorem num_small {n : Int} (h : smallB n = true) : numL (Lib.itoa n) = (n, 0) := by rw [num_itoa, if_pos h]
theorem small_mk {n : Int} (h1 : -1000000000000000000 < n) (h2 : n < 1000000000000000000) : smallB n = true := by unfold smallB; exact decide_eq_true ⟨h1, h2⟩
theorem idle_arc (a : ArcT) : idleB (wordsL (arcLine a)) = false := by rw [words_arc]; rfl
theorem idle_head (n : Int) (h : Bool) : idleB (wordsL (headT n h)) = false := by rw [words_head]; rfl
theorem keep_hold (h : Bool) : decide (keepB h = holdB) = h := by cases h <;> rfl
theorem keep_or (h : Bool) : keepB h = holdB ∨ keepB h = freeB := by cases h <;> simp [keepB]
theorem line_head (n : Int) (h : Bool) (hn : nodesE n = 0) : lineL zeroN (headT n h) = ((n, h, []), 0) := by
  have hb := nodesE_ok hn
  unfold lineL wordsN
  rw [if_neg (by rw [idle_head]; decide), if_neg (by simp [zeroN]), words_head]
  unfold headL
  simp only
  rw [if_pos ⟨trivial, keep_or h⟩, num_small (small_mk (by omega) (by omega))]
  simp only
  rw [if_pos trivial, if_pos hn, keep_hold]
theorem arc_bd {n : Int} {a : ArcT} (hn : nodesE n = 0) (h : arcE n a = 0) : (0 ≤ a.1 ∧ a.1 < 50) ∧ (0 ≤ a.2.1 ∧ a.2.1 < 50) ∧ (0 ≤ a.2.2.1 ∧ a.2.2.1 ≤ 1048576) ∧ (0 ≤ a.2.2.2 ∧ a.2.2.2 ≤ 1048576) := by
  have h1 := nodesE_ok hn
  obtain ⟨h2, h3⟩ := arcE_ok h
  unfold badEnds at h2
  unfold bigArc at h3
  omega
theorem errOf_small {a : ArcT} (h : smallB a.1 = true ∧ smallB a.2.1 = true ∧ smallB a.2.2.1 = true ∧ smallB a.2.2.2 = true) : errOf [Lib.itoa a.1, Lib.itoa a.2.1, Lib.itoa a.2.2.1, Lib.itoa a.2.2.2] = 0 := by
  unfold errOf; rw [num_small h.1]; simp only [if_true]
  unfold errOf; rw [num_small h.2.1]; simp only [if_true]
  unfold errOf; rw [num_small h.2.2.1]; simp only [if_true]
  unfold errOf; rw [num_small h.2.2.2]; simp only [if_true]
  rfl
theorem arcOf_small {a : ArcT} (h : smallB a.1 = true ∧ smallB a.2.1 = true ∧ smallB a.2.2.1 = true ∧ smallB a.2.2.2 = true) : arcOf (Lib.itoa a.1) (Lib.itoa a.2.1) (Lib.itoa a.2.2.1) (Lib.itoa a.2.2.2) = a := by
  unfold arcOf; rw [num_small h.1, num_small h.2.1, num_small h.2.2.1, num_small h.2.2.2]
theorem small_arc {n : Int} {a : ArcT} (hn : nodesE n = 0) (h : arcE n a = 0) : smallB a.1 = true ∧ smallB a.2.1 = true ∧ smallB a.2.2.1 = true ∧ smallB a.2.2.2 = true := by
  have := arc_bd hn h
  exact ⟨small_mk (by omega) (by omega), small_mk (by omega) (by omega), small_mk (by omega) (by omega), small_mk (by omega) (by omega)⟩
theorem line_arc {n : Int} {b : Bool} {Z : List ArcT} {a : ArcT} (hn : nodesE n = 0) (h : arcE n a = 0) (hl : Z.length < 200) : lineL (n, b, Z) (arcLine a) = ((n, b, Z ++ [a]), 0) := by
  have hb := nodesE_ok hn
  have hs := small_arc hn h
  unfold lineL wordsN
  rw [if_neg (by rw [idle_arc]; decide), if_pos (show (0 : Int) < n by omega), words_arc]
  unfold tailL
  simp only
  rw [if_pos trivial, if_pos (errOf_small hs), arcOf_small hs, if_pos h, if_neg (by omega)]
theorem parse_arcs {n : Int} {b : Bool} (hn : nodesE n = 0) : ∀ (Y Z : List ArcT) (i : Nat), (∀ a ∈ Y, arcE n a = 0) → Z.length + Y.length ≤ 200 → parseL (n, b, Z) i (Y.map arcLine) = ((n, b, Z ++ Y), 0, 0)
  | [], Z, i, _, _ => by
    have hb := nodesE_ok hn
    unfold parseL; simp only [List.map_nil]; rw [if_pos (show (0 : Int) < n by omega), List.append_nil]
  | a :: Y, Z, i, h, hl => by
    rw [List.map_cons]
    unfold parseL
    simp only [List.length_cons] at hl
    rw [line_arc hn (h a (by simp)) (by omega)]
    simp only [if_true]
    rw [parse_arcs hn Y (Z ++ [a]) (i + 1) (fun x hx => h x (by simp [hx])) (by simp; omega)]
    simp
/-- What is told of a network is read as that network. -/
theorem parse_back {n : Int} {b : Bool} {Z : List ArcT} (h : Right (n, b, Z)) : parseL zeroN 0 (linesL (netT n b Z)) = ((n, b, Z), 0, 0) := by
  rw [lines_net]
  unfold parseL
  rw [line_head n b h.1]
  simp only [if_true]
  rw [parse_arcs h.1 Z [] 1 h.2.2 (by have := h.2.1; simp at this ⊢; omega)]
  simp
theorem net_inj {n m : Int} {b c : Bool} {Y Z : List ArcT} (h1 : Right (n, b, Y)) (h2 : Right (m, c, Z)) : netT n b Y = netT m c Z ↔ (n = m ∧ b = c ∧ Y = Z) := by
  constructor
  · intro h
    have h3 := parse_back h1
    rw [h, parse_back h2] at h3
    simp only [Prod.mk.injEq] at h3
    exact ⟨h3.1.1.symm, h3.1.2.1.symm, h3.1.2.2.symm⟩
  · rintro ⟨rfl, rfl, rfl⟩; rfl
end Go.Proofs.YtbciplfncnangaaDoor
