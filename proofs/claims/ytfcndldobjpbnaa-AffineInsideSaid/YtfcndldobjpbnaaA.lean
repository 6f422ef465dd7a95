/- Maps of the plane in plain numbers. -/
namespace Go.Proofs.Ytfcndldobjpbnaa
namespace Af

/-- At most so far from 0. -/
def Up (n far : Int) : Prop := -far ≤ n ∧ n ≤ far
instance (n far : Int) : Decidable (Up n far) := inferInstanceAs (Decidable (_ ∧ _))
abbrev Slope (n : Int) : Prop := Up n 16777216
abbrev Shift (n : Int) : Prop := Up n 68719476736
/-- Divided by 65536, to the nearest. -/
def near (n : Int) : Int := (n + 32768) / 65536
structure M where
  a : Int
  b : Int
  c : Int
  d : Int
  e : Int
  f : Int
deriving DecidableEq
def M.ok (m : M) : Prop := Slope m.a ∧ Slope m.b ∧ Slope m.c ∧ Slope m.d ∧ Shift m.e ∧ Shift m.f
instance (m : M) : Decidable m.ok := inferInstanceAs (Decidable (_ ∧ _))
def one : M := ⟨65536, 0, 0, 65536, 0, 0⟩
def zero : M := ⟨0, 0, 0, 0, 0, 0⟩
def slopeU (m : M) (x y : Int) : Int := m.a * x + m.b * y
def slopeV (m : M) (x y : Int) : Int := m.c * x + m.d * y
/-- The product. -/
def M.times (m n : M) : M :=
  ⟨near (slopeU m n.a n.c), near (slopeU m n.b n.d), near (slopeV m n.a n.c), near (slopeV m n.b n.d), near (slopeU m n.e n.f + m.e * 65536), near (slopeV m n.e n.f + m.f * 65536)⟩
def timesE (m n : M) : M × Int := if m.ok ∧ n.ok ∧ (m.times n).ok then (m.times n, 0) else (zero, 31)
/-- Rounded to the nearest. -/
def round (n m : Int) : Int := if m < 0 then (-2 * n - m) / (-2 * m) else (2 * n + m) / (2 * m)
def M.area (m : M) : Int := m.a * m.d - m.b * m.c
def M.back4 (m : M) : M := ⟨round (m.d * 4294967296) m.area, round (-m.b * 4294967296) m.area, round (-m.c * 4294967296) m.area, round (m.a * 4294967296) m.area, 0, 0⟩
def M.back (m : M) : M := { m.back4 with e := near (-(slopeU m.back4 m.e m.f)), f := near (-(slopeV m.back4 m.e m.f)) }
def backE (m : M) : M × Int := if m.ok then (if m.area ≠ 0 ∧ m.back.ok then (m.back, 0) else (zero, 33)) else (zero, 31)

theorem up_mul {x y p q : Int} (hx : Up x p) (hy : Up y q) (hp : 0 ≤ p) (hq : 0 ≤ q) : Up (x * y) (p * q) := by
  obtain ⟨x0, x1⟩ := hx
  obtain ⟨y0, y1⟩ := hy
  have h : (x * y).natAbs ≤ (p * q).natAbs := by
    rw [Int.natAbs_mul, Int.natAbs_mul]
    exact Nat.mul_le_mul (by omega) (by omega)
  have : 0 ≤ p * q := Int.mul_nonneg hp hq
  unfold Up
  omega
theorem slope_up {m : M} {x y q : Int} (hm : m.ok) (hx : Up x q) (hy : Up y q) (hq : 0 ≤ q) : Up (slopeU m x y) (33554432 * q) ∧ Up (slopeV m x y) (33554432 * q) := by
  obtain ⟨ha, hb, hc, hd, -⟩ := hm
  have h1 := up_mul ha hx (by omega) hq
  have h2 := up_mul hb hy (by omega) hq
  have h3 := up_mul hc hx (by omega) hq
  have h4 := up_mul hd hy (by omega) hq
  unfold slopeU slopeV Up at *
  omega
theorem area_up {m : M} (hm : m.ok) : Up m.area 562949953421312 := by
  obtain ⟨ha, hb, hc, hd, -⟩ := hm
  have h1 := up_mul ha hd (by omega) (by omega)
  have h2 := up_mul hb hc (by omega) (by omega)
  unfold M.area Up at *
  omega
theorem round_neg (n m : Int) : round (-n) (-m) = round n m := by
  unfold round
  by_cases h0 : m = 0
  · subst h0; simp
  by_cases h : m < 0
  · rw [if_pos h, if_neg (by omega)]
    congr 1 <;> omega
  · rw [if_neg h, if_pos (by omega)]
    congr 1 <;> omega
/-- The program's quotient, rounded down. -/
theorem floor_neg (n m : Int) (hm : 0 < m) : -((m - 1 - n) / m) = n / m := by
  have h := Int.mul_ediv_add_emod n m
  have h1 := Int.emod_nonneg n (show m ≠ 0 by omega)
  have h2 := Int.emod_lt_of_pos n hm
  have h3 : (m - 1 - n) / m = -(n / m) := by
    have e : m - 1 - n = (m - 1 - n % m) + m * (-(n / m)) := by rw [Int.mul_neg]; omega
    rw [e, Int.add_mul_ediv_left _ _ (by omega), Int.ediv_eq_zero_of_lt (by omega) (by omega)]
    omega
  rw [h3]; omega
end Af
end Go.Proofs.Ytfcndldobjpbnaa
