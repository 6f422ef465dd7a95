/- Rows of a mask: marks, and what comes of them; plain. -/
import Derived.Test.YtboocllckolmgaaQ
namespace Go.Proofs.Ytboocllckolmgaa
open Go.RowKit
set_option linter.unusedVariables false

/-- A mask's bytes. -/
def byteB (b : Bool) : Int := if b then 255 else 0
theorem xor_bytes (a b : Bool) : bits .xor .u8 (byteB a) (byteB b) = byteB (a != b) := by
  cases a <;> cases b <;> decide +kernel
/-- How often a mark falls on a place, odd or even. -/
def markB (W : Nat) (rs : List Int) (j : Nat) : Bool := decide (rs.countP (fun r => decide (min r (W : Int) = (j : Int) + 1)) % 2 = 1)
/-- How many marks lie further to the right, odd or even. -/
def sufB (W : Nat) (rs : List Int) (j : Nat) : Bool := decide (rs.countP (fun r => decide ((j : Int) < min r (W : Int))) % 2 = 1)
theorem suf_end (W : Nat) (rs : List Int) : sufB W rs W = false := by
  unfold sufB
  have : rs.countP (fun r => decide ((W : Int) < min r (W : Int))) = 0 := by
    rw [List.countP_eq_zero]
    intro r _
    simp
    omega
  rw [this]; rfl
theorem countP_split (p q r : Int → Bool) (rs : List Int) (h : ∀ x, p x = (q x || r x)) (hd : ∀ x, (q x && r x) = false) : rs.countP p = rs.countP q + rs.countP r := by
  induction rs with
  | nil => rfl
  | cons x rs ih =>
    rw [List.countP_cons, List.countP_cons, List.countP_cons, ih, h x]
    have := hd x
    cases h1 : q x <;> cases h2 : r x <;> rw [h1, h2] at this <;> simp at this ⊢ <;> omega
theorem par_add (m n : Nat) : decide ((m + n) % 2 = 1) = (decide (m % 2 = 1) != decide (n % 2 = 1)) := by
  rcases Nat.mod_two_eq_zero_or_one m with h | h <;> rcases Nat.mod_two_eq_zero_or_one n with g | g
  · have : (m + n) % 2 = 0 := by omega
    simp [h, g, this]
  · have : (m + n) % 2 = 1 := by omega
    simp [h, g, this]
  · have : (m + n) % 2 = 1 := by omega
    simp [h, g, this]
  · have : (m + n) % 2 = 0 := by omega
    simp [h, g, this]
theorem suf_step (W : Nat) (rs : List Int) (j : Nat) : sufB W rs j = (sufB W rs (j + 1) != markB W rs j) := by
  unfold sufB markB
  rw [← par_add]
  congr 2
  rw [countP_split (fun r => decide ((j : Int) < min r (W : Int))) (fun r => decide (((j + 1 : Nat) : Int) < min r (W : Int))) (fun r => decide (min r (W : Int) = (j : Int) + 1)) rs]
  · intro x
    by_cases h1 : (j : Int) < min x (W : Int)
    · by_cases h2 : min x (W : Int) = (j : Int) + 1
      · simp [h2]; omega
      · have : ((j + 1 : Nat) : Int) < min x (W : Int) := by omega
        simp only [h1, this, h2, decide_true, decide_false, Bool.or_false]
    · have a1 : ¬ ((j + 1 : Nat) : Int) < min x (W : Int) := by omega
      have a2 : ¬ min x (W : Int) = (j : Int) + 1 := by omega
      simp only [h1, a1, a2, decide_false, Bool.or_false]
  · intro x
    by_cases h2 : min x (W : Int) = (j : Int) + 1
    · have a1 : ¬ ((j + 1 : Nat) : Int) < min x (W : Int) := by omega
      rw [decide_eq_false a1, Bool.false_and]
    · simp only [h2, decide_false, Bool.and_false]
theorem mark_more {W : Nat} {rs : List Int} {r : Int} {j : Nat} : markB W (rs ++ [r]) j = (markB W rs j != decide (min r (W : Int) = (j : Int) + 1)) := by
  unfold markB
  rw [List.countP_append, List.countP_singleton, par_add]
  congr 1
  by_cases h : min r (W : Int) = (j : Int) + 1 <;> simp [h]
theorem mark_nil (W j : Nat) : markB W [] j = false := rfl

/-- How the pixels of a row with a side to their right are counted. -/
theorem half_shift {l u : Pt} {x y : Int} (hx : 0 ≤ x) : x < halfZ l u ⟨0, y⟩ ↔ 0 < halfZ l u ⟨x, y⟩ := by
  by_cases h : y < l.Y ∨ u.Y ≤ y
  · have h1 : halfZ l u ⟨0, y⟩ = 0 := by unfold halfZ; rw [if_pos h]
    have h2 : halfZ l u ⟨x, y⟩ = 0 := by unfold halfZ; rw [if_pos h]
    rw [h1, h2]; omega
  · rw [halfZ_pos (l := l) (u := u) (q := ⟨x, y⟩) (by simp only; omega) (by simp only; omega)]
    have hS : 1 ≤ stepZ l u := by unfold stepZ; omega
    have hA : aheadZ l u ⟨x, y⟩ = aheadZ l u ⟨0, y⟩ - x * stepZ l u := by unfold aheadZ stepZ; grind
    have hz : halfZ l u ⟨0, y⟩ = max ((aheadZ l u ⟨0, y⟩ + stepZ l u - 1).tdiv (stepZ l u)) 0 := by unfold halfZ; rw [if_neg h]
    rw [hA, hz]
    generalize aheadZ l u ⟨0, y⟩ = A at *
    generalize stepZ l u = S at *
    have key : x < (A + S - 1).tdiv S ↔ x * S < A := by
      rcases Int.le_total 0 (A + S - 1) with h1 | h1
      · rw [Int.tdiv_eq_ediv_of_nonneg h1]
        have k := Int.le_ediv_iff_mul_le (a := x + 1) (b := A + S - 1) (show 0 < S by omega)
        rw [Int.add_mul, Int.one_mul] at k
        generalize x * S = X at *
        generalize (A + S - 1) / S = D at *
        constructor
        · intro q; have := k.1 (by omega); omega
        · intro q; have := k.2 (by omega); omega
      · have hx2 := Int.mul_nonneg hx (show 0 ≤ S by omega)
        obtain ⟨m, hm⟩ : ∃ m, m = -(A + S - 1) := ⟨_, rfl⟩
        have e : A + S - 1 = -m := by omega
        have t := Int.tdiv_nonneg (a := m) (b := S) (by omega) (by omega)
        rw [e, Int.neg_tdiv]
        generalize x * S = X at *
        generalize m.tdiv S = D at *
        omega
    generalize (A + S - 1).tdiv S = D at *
    omega
theorem reach_shift {a b : Pt} {x y : Int} (hx : 0 ≤ x) : x < reachZ a b ⟨0, y⟩ ↔ 0 < reachZ a b ⟨x, y⟩ := by
  unfold reachZ
  split
  · exact half_shift hx
  · exact half_shift hx
/-- What each side reaches to in a row. -/
def reachL (ss : List (Pt × Pt)) (y : Int) : List Int := ss.map (fun s => reachZ s.1 s.2 ⟨0, y⟩)
theorem suf_inside {ps : List Pt} {W x : Nat} {y : Int} (hx : x < W) : sufB W (reachL (sidesL ps) y) x = insideB ps ⟨x, y⟩ := by
  unfold sufB insideB hits reachL
  rw [List.countP_map]
  suffices e : ((fun r => decide ((x : Int) < min r (W : Int))) ∘ fun s : Pt × Pt => reachZ s.1 s.2 ⟨0, y⟩) = metB ⟨x, y⟩ by rw [e]
  funext s
  show decide ((x : Int) < min (reachZ s.1 s.2 ⟨0, y⟩) (W : Int)) = metB ⟨x, y⟩ s
  unfold metB
  have k := reach_shift (a := s.1) (b := s.2) (x := (x : Int)) (y := y) (by omega)
  by_cases h : (x : Int) < reachZ s.1 s.2 ⟨0, y⟩
  · have h1 : (x : Int) < min (reachZ s.1 s.2 ⟨0, y⟩) (W : Int) := by omega
    have h2 := k.1 h
    rw [decide_eq_true h1, decide_eq_true h2]
  · have h1 : ¬ (x : Int) < min (reachZ s.1 s.2 ⟨0, y⟩) (W : Int) := by omega
    have h2 : ¬ 0 < reachZ s.1 s.2 ⟨x, y⟩ := fun q => h (k.2 q)
    rw [decide_eq_false h1, decide_eq_false h2]
end Go.Proofs.Ytboocllckolmgaa
