/- What lies within lies in the box. -/
import Derived.Test.YtboocllckolmgaaI
namespace Go.Proofs.Ytboocllckolmgaa
open Go.RowKit
set_option linter.unusedVariables false

theorem lastPt_cons {p : Pt} {ps : List Pt} (h : ps ≠ []) : lastPt (p :: ps) = lastPt ps := by
  cases ps with
  | nil => exact absurd rfl h
  | cons q qs => unfold lastPt; rw [List.getLast?_cons_cons]
theorem lastPt_one (p : Pt) : lastPt [p] = p := rfl
theorem lastPt_mem {ps : List Pt} (h : ps ≠ []) : lastPt ps ∈ ps := by
  have : 0 < ps.length := by cases ps with | nil => exact absurd rfl h | cons q qs => simp
  exact List.mem_of_getElem? (last_at (ps := ps) rfl this)
/-- Along a chain of points what is one way or the other turns an even number of times if it ends as it began. -/
theorem par_chain (u : Pt → Bool) (p : Pt) (ps : List Pt) : (chainL p ps).countP (fun s => u s.1 != u s.2) % 2 = if u p == u (lastPt (p :: ps)) then 0 else 1 := by
  induction ps generalizing p with
  | nil => simp [chainL, lastPt_one]
  | cons q qs ih =>
    rw [chainL, List.countP_cons, lastPt_cons (by simp)]
    have k := ih q
    generalize (chainL q qs).countP (fun s => u s.1 != u s.2) = m at *
    cases h1 : u p <;> cases h2 : u q <;> cases h3 : u (lastPt (q :: qs)) <;> rw [h2, h3] at k <;> simp at k ⊢ <;> omega
theorem par_sides (u : Pt → Bool) (ps : List Pt) : (sidesL ps).countP (fun s => u s.1 != u s.2) % 2 = 0 := by
  cases ps with
  | nil => rfl
  | cons p ps =>
    unfold sidesL
    rw [par_chain, lastPt_cons (p := lastPt (p :: ps)) (ps := p :: ps) (by simp)]
    simp
theorem neg_mul_neg {a b : Int} (ha : a < 0) (hb : b < 0) : 0 < a * b := Int.mul_pos_of_neg_of_neg ha hb
theorem neg_mul_pos {a b : Int} (ha : a < 0) (hb : 0 < b) : a * b < 0 := Int.mul_neg_of_neg_of_pos ha hb
/-- A side that lies to the left isn't met. -/
theorem left_no {q a b : Pt} (ha : a.X ≤ q.X) (hb : b.X ≤ q.X) : metR q (a, b) = false := by
  unfold metR
  simp only
  by_cases h1 : q.Y < a.Y
  · rw [if_pos h1]
    by_cases h2 : q.Y < b.Y
    · rw [if_pos h2]
    · rw [if_neg h2, ahead_n]
      have k1 := neg_mul_neg (a := 2 * b.Y - (2 * q.Y + 1)) (b := 2 * a.X - (2 * q.X + 1)) (by omega) (by omega)
      have k2 := neg_mul_pos (a := 2 * b.X - (2 * q.X + 1)) (b := 2 * a.Y - (2 * q.Y + 1)) (by omega) (by omega)
      have e : aheadZ a b q = (2 * b.Y - (2 * q.Y + 1)) * (2 * a.X - (2 * q.X + 1)) - (2 * b.X - (2 * q.X + 1)) * (2 * a.Y - (2 * q.Y + 1)) := by unfold aheadZ; grind
      simp
      omega
  · rw [if_neg h1]
    by_cases h2 : q.Y < b.Y
    · rw [if_pos h2, ahead_n]
      have k1 := neg_mul_pos (a := 2 * a.X - (2 * q.X + 1)) (b := 2 * b.Y - (2 * q.Y + 1)) (by omega) (by omega)
      have k2 := neg_mul_neg (a := 2 * a.Y - (2 * q.Y + 1)) (b := 2 * b.X - (2 * q.X + 1)) (by omega) (by omega)
      unfold aheadZ
      simp
      omega
    · rw [if_neg h2]
/-- A side that lies to the right is met where its ends are not on one side. -/
theorem right_met {q a b : Pt} (ha : q.X < a.X) (hb : q.X < b.X) : metR q (a, b) = (decide (q.Y < a.Y) != decide (q.Y < b.Y)) := by
  unfold metR
  simp only
  by_cases h1 : q.Y < a.Y
  · rw [if_pos h1]
    by_cases h2 : q.Y < b.Y
    · rw [if_pos h2]; simp [h1, h2]
    · rw [if_neg h2, ahead_n]
      have k1 := neg_mul_pos (a := 2 * b.Y - (2 * q.Y + 1)) (b := 2 * a.X - (2 * q.X + 1)) (by omega) (by omega)
      have k2 := Int.mul_pos (a := 2 * b.X - (2 * q.X + 1)) (b := 2 * a.Y - (2 * q.Y + 1)) (by omega) (by omega)
      have e : aheadZ a b q = (2 * b.Y - (2 * q.Y + 1)) * (2 * a.X - (2 * q.X + 1)) - (2 * b.X - (2 * q.X + 1)) * (2 * a.Y - (2 * q.Y + 1)) := by unfold aheadZ; grind
      have : aheadZ a b q < 0 := by omega
      simp [h1, h2, this]
  · rw [if_neg h1]
    by_cases h2 : q.Y < b.Y
    · rw [if_pos h2, ahead_n]
      have k1 := Int.mul_pos (a := 2 * a.X - (2 * q.X + 1)) (b := 2 * b.Y - (2 * q.Y + 1)) (by omega) (by omega)
      have k2 := neg_mul_pos (a := 2 * a.Y - (2 * q.Y + 1)) (b := 2 * b.X - (2 * q.X + 1)) (by omega) (by omega)
      have : 0 < aheadZ a b q := by unfold aheadZ; omega
      simp [h1, h2, this]
    · rw [if_neg h2]; simp [h1, h2]
theorem met_height {q a b : Pt} (h : metR q (a, b) = true) : (a.Y ≤ q.Y ∧ q.Y < b.Y) ∨ (b.Y ≤ q.Y ∧ q.Y < a.Y) := by
  unfold metR at h
  simp only at h
  split at h
  · split at h
    · cases h
    · exact .inr ⟨by omega, by assumption⟩
  · split at h
    · exact .inl ⟨by omega, by assumption⟩
    · cases h
theorem sides_mem {ps : List Pt} {s : Pt × Pt} (h : s ∈ sidesL ps) : s.1 ∈ ps ∧ s.2 ∈ ps := by
  have hne : ps ≠ [] := by rintro rfl; simp [sidesL, chainL] at h
  have k := chainL_mem h
  refine ⟨?_, k.2⟩
  rcases k.1 with e | e
  · rw [e]; exact lastPt_mem hne
  · exact e
theorem inside_box {ps : List Pt} {q : Pt} {lx ly mx my : Int} (hb : Bnd ps lx ly mx my) (h : insideB ps q = true) : (lx ≤ q.X ∧ q.X < mx) ∧ (ly ≤ q.Y ∧ q.Y < my) := by
  have e : metB q = metR q := funext fun s => met_same q s
  unfold insideB hits at h
  rw [e, decide_eq_true_eq] at h
  have hex : ∃ s ∈ sidesL ps, metR q s = true := by
    have : 0 < (sidesL ps).countP (metR q) := by omega
    exact List.countP_pos_iff.1 this
  obtain ⟨⟨a, b⟩, hs, hm⟩ := hex
  have ms := sides_mem hs
  have ka := hb.all a ms.1
  have kb := hb.all b ms.2
  have hy := met_height hm
  refine ⟨⟨?_, ?_⟩, by omega, by omega⟩
  · rcases Int.lt_or_le q.X lx with hlt | hge
    · exfalso
      have hc : (sidesL ps).countP (metR q) = (sidesL ps).countP (fun s => decide (q.Y < s.1.Y) != decide (q.Y < s.2.Y)) := by
        apply List.countP_congr
        rintro ⟨c, d⟩ hcd
        have mc := sides_mem hcd
        have kc := hb.all c mc.1
        have kd := hb.all d mc.2
        rw [right_met (by omega) (by omega)]
      have k := par_sides (fun p => decide (q.Y < p.Y)) ps
      rw [← hc] at k
      omega
    · exact hge
  · rcases Int.lt_or_le q.X mx with hlt | hge
    · exact hlt
    · exfalso
      rw [left_no (by omega) (by omega)] at hm
      cases hm
end Go.Proofs.Ytboocllckolmgaa
