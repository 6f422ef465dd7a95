/- A rectangle: what lies within it, and how many pixels that are. -/
import Derived.Test.YtboocllckolmgaaMD
namespace Go.Proofs.Ytboocllckolmgaa
open Go.RowKit
set_option linter.unusedVariables false

theorem flat_no {q a b : Pt} (h : a.Y = b.Y) : metR q (a, b) = false := by
  cases k : metR q (a, b) with
  | false => rfl
  | true => have := met_height k; omega
/-- Where a side that stands upright is met. -/
theorem steep_met {q a b : Pt} (h : a.X = b.X) : metR q (a, b) = (decide (q.X < a.X) && (decide (q.Y < a.Y) != decide (q.Y < b.Y))) := by
  by_cases hx : q.X < a.X
  · rw [right_met hx (by omega), decide_eq_true hx, Bool.true_and]
  · rw [left_no (by omega) (by omega), decide_eq_false hx, Bool.false_and]
/-- The four corners, and begun one further on. -/
def rectL (x y u v : Int) : List Pt := [⟨x, y⟩, ⟨u, y⟩, ⟨u, v⟩, ⟨x, v⟩]
def rectR (x y u v : Int) : List Pt := [⟨u, y⟩, ⟨u, v⟩, ⟨x, v⟩, ⟨x, y⟩]
def inR (x y u v : Int) (q : Pt) : Bool := decide (x ≤ q.X) && (decide (q.X < u) && (decide (y ≤ q.Y) && decide (q.Y < v)))
theorem odd_two (a b : Bool) : decide (((if a = true then 1 else 0) + (if b = true then 1 else 0)) % 2 = 1) = (a != b) := by
  cases a <;> cases b <;> rfl
theorem in_two {x y u v : Int} (hx : x ≤ u) (hy : y ≤ v) (q : Pt) :
    ((decide (q.X < x) && (decide (q.Y < v) != decide (q.Y < y))) != (decide (q.X < u) && (decide (q.Y < y) != decide (q.Y < v)))) = inR x y u v q := by
  unfold inR
  by_cases h1 : q.X < x
  · have h2 : q.X < u := by omega
    have h3 : ¬ x ≤ q.X := by omega
    simp only [h1, h2, h3, decide_true, decide_false, Bool.true_and, Bool.false_and]
    cases decide (q.Y < v) <;> cases decide (q.Y < y) <;> rfl
  · have h3 : x ≤ q.X := by omega
    simp only [h1, h3, decide_true, decide_false, Bool.true_and, Bool.false_and, Bool.false_bne]
    by_cases h4 : q.Y < y
    · have h5 : q.Y < v := by omega
      have h6 : ¬ y ≤ q.Y := by omega
      simp only [h4, h5, h6, decide_true, decide_false, Bool.false_and, bne_self_eq_false]
    · have h6 : y ≤ q.Y := by omega
      simp only [h4, h6, decide_true, decide_false, Bool.true_and, Bool.false_bne]
theorem inside_rectL {x y u v : Int} (hx : x ≤ u) (hy : y ≤ v) (q : Pt) : insideB (rectL x y u v) q = inR x y u v q := by
  have e : metB q = metR q := funext fun s => met_same q s
  have es : sidesL (rectL x y u v) = [(⟨x, v⟩, ⟨x, y⟩), (⟨x, y⟩, ⟨u, y⟩), (⟨u, y⟩, ⟨u, v⟩), (⟨u, v⟩, ⟨x, v⟩)] := rfl
  unfold insideB hits
  rw [e, es]
  simp only [List.countP_cons, List.countP_nil, Nat.zero_add]
  rw [flat_no (a := ⟨x, y⟩) (b := ⟨u, y⟩) rfl, flat_no (a := ⟨u, v⟩) (b := ⟨x, v⟩) rfl, steep_met (a := ⟨x, v⟩) (b := ⟨x, y⟩) rfl, steep_met (a := ⟨u, y⟩) (b := ⟨u, v⟩) rfl]
  rw [if_neg (show ¬ false = true by decide), Nat.add_zero, Nat.zero_add, Nat.add_comm, odd_two]
  exact in_two hx hy q
theorem inside_rectR {x y u v : Int} (hx : x ≤ u) (hy : y ≤ v) (q : Pt) : insideB (rectR x y u v) q = inR x y u v q := by
  have e : metB q = metR q := funext fun s => met_same q s
  have es : sidesL (rectR x y u v) = [(⟨x, y⟩, ⟨u, y⟩), (⟨u, y⟩, ⟨u, v⟩), (⟨u, v⟩, ⟨x, v⟩), (⟨x, v⟩, ⟨x, y⟩)] := rfl
  unfold insideB hits
  rw [e, es]
  simp only [List.countP_cons, List.countP_nil, Nat.zero_add]
  rw [flat_no (a := ⟨x, y⟩) (b := ⟨u, y⟩) rfl, flat_no (a := ⟨u, v⟩) (b := ⟨x, v⟩) rfl, steep_met (a := ⟨x, v⟩) (b := ⟨x, y⟩) rfl, steep_met (a := ⟨u, y⟩) (b := ⟨u, v⟩) rfl]
  rw [if_neg (show ¬ false = true by decide), Nat.add_zero, Nat.add_zero, odd_two]
  exact in_two hx hy q
theorem area_rectL (x y u v : Int) : areaZ (rectL x y u v) = 2 * ((u - x) * (v - y)) := by
  have es : sidesL (rectL x y u v) = [(⟨x, v⟩, ⟨x, y⟩), (⟨x, y⟩, ⟨u, y⟩), (⟨u, y⟩, ⟨u, v⟩), (⟨u, v⟩, ⟨x, v⟩)] := rfl
  unfold areaZ
  rw [es]
  simp only [areaL, cr]
  grind
theorem area_rectR (x y u v : Int) : areaZ (rectR x y u v) = 2 * ((u - x) * (v - y)) := by
  have es : sidesL (rectR x y u v) = [(⟨x, y⟩, ⟨u, y⟩), (⟨u, y⟩, ⟨u, v⟩), (⟨u, v⟩, ⟨x, v⟩), (⟨x, v⟩, ⟨x, y⟩)] := rfl
  unfold areaZ
  rw [es]
  simp only [areaL, cr]
  grind

/-- How many places below k are so. -/
def cntTo (f : Nat → Bool) : Nat → Nat
  | 0 => 0
  | k + 1 => cntTo f k + (if f k = true then 1 else 0)
theorem cntTo_add (f : Nat → Bool) (a b : Nat) : cntTo f (a + b) = cntTo f a + cntTo (fun j => f (a + j)) b := by
  induction b with
  | zero => rfl
  | succ b ih => rw [Nat.add_succ, cntTo, cntTo, ih]; omega
theorem cntTo_congr {f g : Nat → Bool} {k : Nat} (h : ∀ j, j < k → f j = g j) : cntTo f k = cntTo g k := by
  induction k with
  | zero => rfl
  | succ k ih => rw [cntTo, cntTo, ih (fun j hj => h j (by omega)), h k (by omega)]
theorem cnt_range (X W k : Nat) : cntTo (fun j => decide (X ≤ j) && decide (j < X + W)) k = min k (X + W) - min k X := by
  induction k with
  | zero => simp [cntTo]
  | succ k ih =>
    rw [cntTo, ih]
    by_cases h1 : X ≤ k
    · by_cases h2 : k < X + W
      · simp only [h1, h2, decide_true, Bool.true_and, if_true]; omega
      · simp only [h1, h2, decide_true, decide_false, Bool.true_and]
        rw [if_neg (by decide)]; omega
    · simp only [h1, decide_false, Bool.false_and]
      rw [if_neg (by decide)]; omega
theorem cnt_none (k : Nat) : cntTo (fun _ => false) k = 0 := by
  induction k with
  | zero => rfl
  | succ k ih => rw [cntTo, ih]; rfl
/-- Is this place of the picture of 26 columns in the rectangle? -/
def spotR (X Y W H : Nat) (i : Nat) : Bool := decide (X ≤ i % 26) && (decide (i % 26 < X + W) && (decide (Y ≤ i / 26) && decide (i / 26 < Y + H)))
theorem spot_row {X Y W H r j : Nat} (hj : j < 26) : spotR X Y W H (26 * r + j) = ((decide (Y ≤ r) && decide (r < Y + H)) && (decide (X ≤ j) && decide (j < X + W))) := by
  unfold spotR
  have e1 : (26 * r + j) % 26 = j := by omega
  have e2 : (26 * r + j) / 26 = r := by omega
  rw [e1, e2]
  cases decide (X ≤ j) <;> cases decide (j < X + W) <;> cases decide (Y ≤ r) <;> cases decide (r < Y + H) <;> rfl
theorem cnt_rows (X Y W H : Nat) (hX : X + W ≤ 26) (r : Nat) : cntTo (spotR X Y W H) (26 * r) = W * (min r (Y + H) - min r Y) := by
  induction r with
  | zero => simp [cntTo]
  | succ r ih =>
    rw [Nat.mul_succ, cntTo_add, ih, cntTo_congr (fun j hj => spot_row hj)]
    by_cases h1 : Y ≤ r
    · by_cases h2 : r < Y + H
      · simp only [h1, h2, decide_true, Bool.true_and]
        rw [cnt_range]
        have e1 : min 26 (X + W) - min 26 X = W := by omega
        have e2 : min (r + 1) (Y + H) - min (r + 1) Y = (min r (Y + H) - min r Y) + 1 := by omega
        rw [e1, e2, Nat.mul_succ]
      · simp only [h1, h2, decide_true, decide_false, Bool.false_and, Bool.and_false]
        have e2 : min (r + 1) (Y + H) - min (r + 1) Y = min r (Y + H) - min r Y := by omega
        rw [cnt_none, e2, Nat.add_zero]
    · simp only [h1, decide_false, Bool.false_and]
      have e2 : min (r + 1) (Y + H) - min (r + 1) Y = min r (Y + H) - min r Y := by omega
      rw [cnt_none, e2, Nat.add_zero]
theorem cnt_whole {X Y W H : Nat} (hX : X + W ≤ 26) (hY : Y + H ≤ 26) : cntTo (spotR X Y W H) 676 = W * H := by
  have k := cnt_rows X Y W H hX 26
  have e : min 26 (Y + H) - min 26 Y = H := by omega
  rw [e] at k
  exact k
theorem cntTo_le (f : Nat → Bool) (k : Nat) : cntTo f k ≤ k := by
  induction k with
  | zero => exact Nat.le_refl _
  | succ k ih => rw [cntTo]; split <;> omega
/-- The mask of such a rectangle. -/
theorem mask_rect {ps : List Pt} {X Y W H : Nat} (h : ∀ q : Pt, insideB ps q = inR X Y ((X + W : Nat) : Int) ((Y + H : Nat) : Int) q) (i : Nat) : maskF ps 26 i = spotR X Y W H i := by
  unfold maskF spotR
  rw [h]
  unfold inR
  simp only [Int.ofNat_le, Int.ofNat_lt]
theorem shape_rect {ps : List Pt} (hl : ps.length = 4) (h : ∀ p ∈ ps, near p = true) : shape ps = true := by
  unfold shape
  rw [hl, List.all_eq_true.2 h]; rfl
end Go.Proofs.Ytboocllckolmgaa
