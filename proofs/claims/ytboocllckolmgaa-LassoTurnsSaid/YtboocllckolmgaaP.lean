/- The program's sides and the document's: the same rays met, the same area. -/
import Derived.Test.YtboocllckolmgaaK
namespace Go.Proofs.Ytboocllckolmgaa
open Go.RowKit
set_option linter.unusedVariables false

theorem tdiv_pos (A S : Int) (hS : 1 ≤ S) : 0 < (A + S - 1).tdiv S ↔ 0 < A := by
  constructor
  · intro h
    rcases Int.lt_or_le 0 A with h0 | h0
    · exact h0
    · exfalso
      rcases Int.le_total 0 (A + S - 1) with h1 | h1
      · rw [Int.tdiv_eq_ediv_of_nonneg h1, Int.ediv_eq_zero_of_lt h1 (by omega)] at h
        omega
      · obtain ⟨m, hm⟩ : ∃ m, m = -(A + S - 1) := ⟨_, rfl⟩
        have e : A + S - 1 = -m := by omega
        rw [e, Int.neg_tdiv] at h
        have := Int.tdiv_nonneg (a := m) (b := S) (by omega) (by omega)
        omega
  · intro h
    rw [Int.tdiv_eq_ediv_of_nonneg (by omega)]
    exact Int.lt_of_lt_of_le (by decide) ((Int.le_ediv_iff_mul_le (show 0 < S by omega)).2 (show 1 * S ≤ A + S - 1 by omega))
theorem halfZ_pos {l u q : Pt} (hl : l.Y ≤ q.Y) (hu : q.Y < u.Y) : 0 < halfZ l u q ↔ 0 < aheadZ l u q := by
  unfold halfZ
  rw [if_neg (by omega)]
  have hS : 1 ≤ stepZ l u := by unfold stepZ; omega
  rw [← tdiv_pos (aheadZ l u q) (stepZ l u) hS]
  omega
theorem ahead_n (a b q : Pt) : nZ q a b = aheadZ a b q := by
  unfold nZ aheadZ
  grind
theorem ahead_back (a b q : Pt) : aheadZ b a q = - aheadZ a b q := by
  unfold aheadZ
  grind
theorem met_same (q : Pt) (s : Pt × Pt) : metB q s = metR q s := by
  obtain ⟨a, b⟩ := s
  unfold metB metR reachZ
  simp only
  by_cases h1 : q.Y < a.Y
  · rw [if_pos h1]
    by_cases h2 : q.Y < b.Y
    · rw [if_pos h2]
      have z1 : halfZ b a q = 0 := by unfold halfZ; rw [if_pos (.inl h2)]
      have z2 : halfZ a b q = 0 := by unfold halfZ; rw [if_pos (.inl h1)]
      rw [z1, z2]
      simp
    · rw [if_neg h2, if_pos (show b.Y < a.Y by omega)]
      have k := halfZ_pos (l := b) (u := a) (q := q) (by omega) h1
      rw [ahead_back a b q, ← ahead_n a b q] at k
      by_cases h3 : nZ q a b < 0
      · have : 0 < halfZ b a q := k.2 (by omega)
        simp [h3, this]
      · have : ¬ 0 < halfZ b a q := fun h => by have := k.1 h; omega
        simp [h3, this]
  · rw [if_neg h1]
    by_cases h2 : q.Y < b.Y
    · rw [if_pos h2, if_neg (show ¬ b.Y < a.Y by omega)]
      have k := halfZ_pos (l := a) (u := b) (q := q) (by omega) h2
      rw [← ahead_n a b q] at k
      by_cases h3 : 0 < nZ q a b
      · have : 0 < halfZ a b q := k.2 h3
        simp [h3, this]
      · have : ¬ 0 < halfZ a b q := fun h => h3 (k.1 h)
        simp [h3, this]
    · rw [if_neg h2]
      have z1 : halfZ b a q = 0 := by unfold halfZ; rw [if_pos (.inr (by omega))]
      have z2 : halfZ a b q = 0 := by unfold halfZ; rw [if_pos (.inr (by omega))]
      rw [z1, z2]
      simp

theorem chainL_append (p : Pt) (xs : List Pt) (y : Pt) : chainL p (xs ++ [y]) = chainL p xs ++ [(lastPt (p :: xs), y)] := by
  induction xs generalizing p with
  | nil => rfl
  | cons x xs ih =>
    rw [List.cons_append, chainL, chainL, ih, List.cons_append]
    have : lastPt (p :: x :: xs) = lastPt (x :: xs) := by unfold lastPt; rw [List.getLast?_cons_cons]
    rw [this]
/-- The document's sides are the program's, begun one further on. -/
theorem next_sides (p : Pt) (ps : List Pt) : nextL (p :: ps) = chainL p ps ++ [(lastPt (p :: ps), p)] ∧ sidesL (p :: ps) = (lastPt (p :: ps), p) :: chainL p ps :=
  ⟨chainL_append p ps p, rfl⟩
theorem count_same (f : Pt × Pt → Bool) (ps : List Pt) : (nextL ps).countP f = (sidesL ps).countP f := by
  cases ps with
  | nil => rfl
  | cons p ps =>
    rw [(next_sides p ps).1, (next_sides p ps).2, List.countP_append, List.countP_singleton, List.countP_cons]
theorem area_same (ps : List Pt) : docAreaZ ps = areaZ ps := by
  unfold docAreaZ areaZ
  cases ps with
  | nil => rfl
  | cons p ps =>
    rw [(next_sides p ps).1, (next_sides p ps).2, areaL_append, areaL, areaL, areaL]; omega
theorem inside_same (ps : List Pt) (q : Pt) : docInside ps q = insideB ps q := by
  unfold docInside insideB docHits hits
  rw [count_same]
  have : metB q = metR q := funext fun s => met_same q s
  rw [this]
end Go.Proofs.Ytboocllckolmgaa
