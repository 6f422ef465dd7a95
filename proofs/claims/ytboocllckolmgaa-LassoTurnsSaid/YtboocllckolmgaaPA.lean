/- Areas of shapes that are turned, moved, told the other way round, begun at another point. -/
import Derived.Test.YtboocllckolmgaaQ
namespace Go.Proofs.Ytboocllckolmgaa
open Go.RowKit
set_option linter.unusedVariables false

theorem sidesL_map2 (f : Pt → Pt) (ps : List Pt) : sidesL (ps.map f) = (sidesL ps).map (fun s => (f s.1, f s.2)) := by
  have chain : ∀ (p : Pt) (ps : List Pt), chainL (f p) (ps.map f) = (chainL p ps).map (fun s => (f s.1, f s.2)) := by
    intro p ps
    induction ps generalizing p with
    | nil => rfl
    | cons q qs ih => rw [List.map_cons, chainL, chainL, List.map_cons, ih]
  cases ps with
  | nil => rfl
  | cons p ps =>
    unfold sidesL
    have : lastPt ((p :: ps).map f) = f (lastPt (p :: ps)) := by
      unfold lastPt
      rw [List.getLast?_map]
      cases h : (p :: ps).getLast? with
      | none => simp at h
      | some q => rfl
    rw [this]
    exact chain _ _

def gapL (g : Pt → Int) : List (Pt × Pt) → Int
  | [] => 0
  | s :: ss => (g s.2 - g s.1) + gapL g ss
theorem gap_chain (g : Pt → Int) (p : Pt) (ps : List Pt) : gapL g (chainL p ps) = g (lastPt (p :: ps)) - g p := by
  induction ps generalizing p with
  | nil => simp [chainL, gapL, lastPt_one]
  | cons q qs ih => rw [chainL, gapL, ih, lastPt_cons (p := p) (ps := q :: qs) (by simp)]; simp only; omega
theorem gap_sides (g : Pt → Int) (ps : List Pt) : gapL g (sidesL ps) = 0 := by
  cases ps with
  | nil => rfl
  | cons p ps =>
    unfold sidesL
    rw [gap_chain, lastPt_cons (p := lastPt (p :: ps)) (ps := p :: ps) (by simp)]
    omega
theorem area_turned_list (q r : Pt) (l : List (Pt × Pt)) : areaL (l.map (fun s => (timesZ s.1 q r, timesZ s.2 q r))) = areaL l * (q.X * q.X + q.Y * q.Y) + gapL (fun p => r.X * (p.X * q.Y + p.Y * q.X) - r.Y * (p.X * q.X - p.Y * q.Y)) l := by
  induction l with
  | nil => simp [areaL, gapL]
  | cons s l ih =>
    rw [List.map_cons, areaL, areaL, gapL, ih, Int.add_mul]
    have e : cr (timesZ s.1 q r, timesZ s.2 q r) = cr s * (q.X * q.X + q.Y * q.Y) + ((r.X * (s.2.X * q.Y + s.2.Y * q.X) - r.Y * (s.2.X * q.X - s.2.Y * q.Y)) - (r.X * (s.1.X * q.Y + s.1.Y * q.X) - r.Y * (s.1.X * q.X - s.1.Y * q.Y))) := by
      unfold cr timesZ
      simp only
      grind
    rw [e]
    omega
/-- Turned, a shape's area is as many times as great. -/
theorem area_turned (ps : List Pt) (q r : Pt) : areaZ (turned ps q r) = areaZ ps * (q.X * q.X + q.Y * q.Y) := by
  unfold areaZ turned
  rw [sidesL_map2 (fun p => timesZ p q r), area_turned_list, gap_sides, Int.add_zero]
/-- The sum along a chain. -/
theorem area_chain_append (p : Pt) (xs : List Pt) (y : Pt) : areaL (chainL p (xs ++ [y])) = areaL (chainL p xs) + cr (lastPt (p :: xs), y) := by
  rw [chainL_append, areaL_append, areaL, areaL]; omega
theorem lastPt_append (xs : List Pt) (y : Pt) : lastPt (xs ++ [y]) = y := by
  unfold lastPt; simp
/-- Begun one point further on. -/
theorem area_rot1 (p : Pt) (ps : List Pt) : areaZ (ps ++ [p]) = areaZ (p :: ps) := by
  unfold areaZ sidesL
  rw [lastPt_append, chainL, areaL, area_chain_append]
  omega
theorem area_rot (xs ys : List Pt) : areaZ (xs ++ ys) = areaZ (ys ++ xs) := by
  induction xs generalizing ys with
  | nil => simp
  | cons p xs ih =>
    rw [List.cons_append, ← area_rot1, List.append_assoc, ih, List.append_assoc]
    rfl
/-- The sum along points. -/
def path : List Pt → Int
  | [] => 0
  | p :: ps => areaL (chainL p ps)
def headPt (ps : List Pt) : Pt := ps.head?.getD ⟨0, 0⟩
theorem path_append {l : List Pt} (h : l ≠ []) (y : Pt) : path (l ++ [y]) = path l + cr (lastPt l, y) := by
  cases l with
  | nil => exact absurd rfl h
  | cons p ps => rw [List.cons_append, path, path, area_chain_append]
theorem path_cons {l : List Pt} (h : l ≠ []) (x : Pt) : path (x :: l) = cr (x, headPt l) + path l := by
  cases l with
  | nil => exact absurd rfl h
  | cons p ps => rw [path, path, chainL, areaL]; rfl
theorem cr_swap (p q : Pt) : cr (p, q) = - cr (q, p) := by unfold cr; simp only; grind
theorem head_reverse (l : List Pt) : headPt l.reverse = lastPt l := by unfold headPt lastPt; rw [List.head?_reverse]
theorem last_reverse (l : List Pt) : lastPt l.reverse = headPt l := by unfold headPt lastPt; rw [List.getLast?_reverse]
theorem path_reverse (l : List Pt) : path l.reverse = - path l := by
  induction l with
  | nil => rfl
  | cons p ps ih =>
    by_cases h : ps = []
    · subst h; simp [path, chainL, areaL]
    · rw [List.reverse_cons, path_append (by simpa using h), path_cons h, ih, last_reverse, cr_swap (headPt ps) p]; omega
theorem areaZ_path {l : List Pt} (h : l ≠ []) : areaZ l = cr (lastPt l, headPt l) + path l := by
  cases l with
  | nil => exact absurd rfl h
  | cons p ps => unfold areaZ sidesL; rw [chainL, areaL]; rfl
/-- Told the other way round. -/
theorem area_reverse (l : List Pt) : areaZ l.reverse = - areaZ l := by
  by_cases h : l = []
  · subst h; rfl
  · rw [areaZ_path (by simpa using h), areaZ_path h, path_reverse, head_reverse, last_reverse, cr_swap (headPt l) (lastPt l)]; omega
end Go.Proofs.Ytboocllckolmgaa
