/- Texts of a layer, one behind the other. -/
import Derived.Test.YtfcpbpfemmdklaaGreatProg
import Derived.WalkKit
import Derived.WalkLawsBesides
import Derived.OneCell
import Derived.Outline
import Derived.Lib.Hide
import Derived.StillTailTactics
import Derived.BigQuiet
import Derived.BigRegion
import Derived.LoopTactic
import Derived.RegionTactic
import Derived.Deep.DeepMust
import Derived.Deep.QuietTactic
import Derived.Deep.LoopGhost
import Derived.Deep.OwnRows
import Derived.Deep.RegionHeld3
import Derived.Deep.RegionLaw
import Derived.Deep.Cut
import Derived.Laws.BitsAllLaws
/- Maps of the plane in plain numbers. -/
namespace Go.Proofs.YtfcpbpfemmdklaaGreat.Ax
namespace Af

/-- At most so far from 0. -/
def Up (n far : Int) : Prop := -far ≤ n ∧ n ≤ far
instance (n far : Int) : Decidable (Up n far) := inferInstanceAs (Decidable (_ ∧ _))
abbrev Slope (n : Int) : Prop := Up n 16777216
abbrev Shift (n : Int) : Prop := Up n 68719476736
/-- Divided by 65536, to the nearest. -/
def near (n : Int) : Int := (n + 32768) / 65536
structure M where
  a : Int
  b : Int
  c : Int
  d : Int
  e : Int
  f : Int
deriving DecidableEq
def M.ok (m : M) : Prop := Slope m.a ∧ Slope m.b ∧ Slope m.c ∧ Slope m.d ∧ Shift m.e ∧ Shift m.f
instance (m : M) : Decidable m.ok := inferInstanceAs (Decidable (_ ∧ _))
def one : M := ⟨65536, 0, 0, 65536, 0, 0⟩
def zero : M := ⟨0, 0, 0, 0, 0, 0⟩
def slopeU (m : M) (x y : Int) : Int := m.a * x + m.b * y
def slopeV (m : M) (x y : Int) : Int := m.c * x + m.d * y
/-- The product. -/
def M.times (m n : M) : M :=
  ⟨near (slopeU m n.a n.c), near (slopeU m n.b n.d), near (slopeV m n.a n.c), near (slopeV m n.b n.d), near (slopeU m n.e n.f + m.e * 65536), near (slopeV m n.e n.f + m.f * 65536)⟩
def timesE (m n : M) : M × Int := if m.ok ∧ n.ok ∧ (m.times n).ok then (m.times n, 0) else (zero, 31)
/-- Rounded to the nearest. -/
def round (n m : Int) : Int := if m < 0 then (-2 * n - m) / (-2 * m) else (2 * n + m) / (2 * m)
def M.area (m : M) : Int := m.a * m.d - m.b * m.c
def M.back4 (m : M) : M := ⟨round (m.d * 4294967296) m.area, round (-m.b * 4294967296) m.area, round (-m.c * 4294967296) m.area, round (m.a * 4294967296) m.area, 0, 0⟩
def M.back (m : M) : M := { m.back4 with e := near (-(slopeU m.back4 m.e m.f)), f := near (-(slopeV m.back4 m.e m.f)) }
def backE (m : M) : M × Int := if m.ok then (if m.area ≠ 0 ∧ m.back.ok then (m.back, 0) else (zero, 33)) else (zero, 31)

theorem up_mul {x y p q : Int} (hx : Up x p) (hy : Up y q) (hp : 0 ≤ p) (hq : 0 ≤ q) : Up (x * y) (p * q) := by
  obtain ⟨x0, x1⟩ := hx
  obtain ⟨y0, y1⟩ := hy
  have h : (x * y).natAbs ≤ (p * q).natAbs := by
    rw [Int.natAbs_mul, Int.natAbs_mul]
    exact Nat.mul_le_mul (by omega) (by omega)
  have : 0 ≤ p * q := Int.mul_nonneg hp hq
  unfold Up
  omega
theorem slope_up {m : M} {x y q : Int} (hm : m.ok) (hx : Up x q) (hy : Up y q) (hq : 0 ≤ q) : Up (slopeU m x y) (33554432 * q) ∧ Up (slopeV m x y) (33554432 * q) := by
  obtain ⟨ha, hb, hc, hd, -⟩ := hm
  have h1 := up_mul ha hx (by omega) hq
  have h2 := up_mul hb hy (by omega) hq
  have h3 := up_mul hc hx (by omega) hq
  have h4 := up_mul hd hy (by omega) hq
  unfold slopeU slopeV Up at *
  omega
theorem area_up {m : M} (hm : m.ok) : Up m.area 562949953421312 := by
  obtain ⟨ha, hb, hc, hd, -⟩ := hm
  have h1 := up_mul ha hd (by omega) (by omega)
  have h2 := up_mul hb hc (by omega) (by omega)
  unfold M.area Up at *
  omega
theorem round_neg (n m : Int) : round (-n) (-m) = round n m := by
  unfold round
  by_cases h0 : m = 0
  · subst h0; simp
  by_cases h : m < 0
  · rw [if_pos h, if_neg (by omega)]
    congr 1 <;> omega
  · rw [if_neg h, if_pos (by omega)]
    congr 1 <;> omega
/-- The program's quotient, rounded down. -/
theorem floor_neg (n m : Int) (hm : 0 < m) : -((m - 1 - n) / m) = n / m := by
  have h := Int.mul_ediv_add_emod n m
  have h1 := Int.emod_nonneg n (show m ≠ 0 by omega)
  have h2 := Int.emod_lt_of_pos n hm
  have h3 : (m - 1 - n) / m = -(n / m) := by
    have e : m - 1 - n = (m - 1 - n % m) + m * (-(n / m)) := by rw [Int.mul_neg]; omega
    rw [e, Int.add_mul_ediv_left _ _ (by omega), Int.ediv_eq_zero_of_lt (by omega) (by omega)]
    omega
  rw [h3]; omega
end Af
end Go.Proofs.YtfcpbpfemmdklaaGreat.Ax

/- Contracts of the small functions of maps: numbers alone. -/
namespace Go.Proofs.YtfcpbpfemmdklaaGreat.Ax
open Go.RowKit
set_option linter.unusedVariables false

theorem wrap_i64 (n : Int) (h0 : -9223372036854775808 ≤ n) (h1 : n ≤ 9223372036854775807) : IntKind.i64.wrap n = n := by
  simp [IntKind.wrap, IntKind.bits, IntKind.signed]
  omega
theorem i64_mask8 (x : Int) : bits .and .i64 x 255 = x % 256 := by
  show IntKind.i64.wrap ((BitVec.ofInt 64 x &&& BitVec.ofInt 64 255).toNat : Int) = _
  rw [BitVec.toNat_and, BitVec.toNat_ofInt]
  have h : ((BitVec.ofInt 64 255).toNat) = 2 ^ 8 - 1 := by decide
  rw [h, Nat.and_two_pow_sub_one_eq_mod]
  rw [wrap_i64 _ (by omega) (by omega)]
  omega
def Up' (n : Int) : Prop := -3458764513820540928 ≤ n ∧ n ≤ 3458764513820540928
/-- Some room is left to add. -/
def Up2 (n : Int) : Prop := -3458764513820000000 ≤ n ∧ n ≤ 3458764513820000000
def Int62 (n : Int) : Prop := -4611686018427387904 ≤ n ∧ n ≤ 4611686018427387904

theorem down_any (n : Int) (hn : Int62 n) (w : World) : Calls Tryz.prog 137 #[.int .i64 n] w fun e w' => e = .returned (.int .i64 (n / 65536)) ∧ w' = w := by
  obtain ⟨h0, h1⟩ := hn
  go_enter Tryz.func137, Tryz.ntmps137
  go_wp2
  go_ret
  exact ⟨rfl, rfl⟩
theorem near_any (n : Int) (hn : Up2 n) (w : World) : Calls Tryz.prog 113 #[.int .i64 n] w fun e w' => e = .returned (.int .i64 (Af.near n)) ∧ w' = w := by
  have C := Lib.hid (down_any (n + 32768) (by unfold Up2 at hn; unfold Int62; omega) w)
  obtain ⟨h0, h1⟩ := hn
  go_enter Tryz.func113, Tryz.ntmps113
  go_wp2_with fail
  refine C.out.mono ?_
  rintro e w' ⟨rfl, rfl⟩
  go_wp2_with fail
  go_ret
  exact ⟨rfl, rfl⟩
theorem dec_up (n far : Int) : decide (Af.Up n far) = (decide (-far ≤ n) && decide (n ≤ far)) := by
  by_cases h0 : -far ≤ n <;> by_cases h1 : n ≤ far <;> simp [Af.Up, h0, h1]
theorem isUp_any (n far : Int) (f0 : 0 ≤ far) (f1 : far ≤ 1099511627776) (w : World) : Calls Tryz.prog 135 #[.int .i64 n, .int .i64 far] w fun e w' => e = .returned (.bool (decide (Af.Up n far))) ∧ w' = w := by
  rw [dec_up]
  by_cases h0 : -far ≤ n
  · have t : decide (-far ≤ n) = true := by simpa using h0
    rw [t, Bool.true_and]
    generalize hb : decide (n ≤ far) = b
    go_enter Tryz.func135, Tryz.ntmps135
    go_wp2_with fail
    go_ret
    exact ⟨rfl, rfl⟩
  · have t : decide (-far ≤ n) = false := by simpa using h0
    rw [t, Bool.false_and]
    go_enter Tryz.func135, Tryz.ntmps135
    go_wp2_with fail
    go_ret
    exact ⟨rfl, rfl⟩
def Side (n : Int) : Prop := 0 ≤ n ∧ n ≤ 32768
instance (n : Int) : Decidable (Side n) := inferInstanceAs (Decidable (_ ∧ _))
theorem dec_side (n : Int) : decide (Side n) = (decide (0 ≤ n) && decide (n ≤ 32768)) := by
  by_cases h0 : 0 ≤ n <;> by_cases h1 : n ≤ 32768 <;> simp [Side, h0, h1]
theorem floor_any (n m : Int) (hn : Up' n) (m0 : 0 < m) (m1 : m ≤ 2305843009213693952) (w : World) : Calls Tryz.prog 136 #[.int .i64 n, .int .i64 m] w fun e w' => e = .returned (.int .i64 (n / m)) ∧ w' = w := by
  obtain ⟨n0, n1⟩ := hn
  have z : ¬ m = 0 := by omega
  have z2 : (m == 0) = false := by simpa using z
  by_cases h : n < 0
  · have t : decide (n < 0) = true := by simpa using h
    have E := Lib.hid (Af.floor_neg n m m0)
    have q0 : 0 ≤ (m - 1 - n) / m := Int.ediv_nonneg (by omega) (by omega)
    have q1 : (m - 1 - n) / m ≤ m - 1 - n := Int.ediv_le_self _ (by omega)
    go_enter Tryz.func136, Tryz.ntmps136
    go_wp2_with fail
    go_ret
    exact ⟨by rw [← E.out]; rfl, rfl⟩
  · have t : decide (n < 0) = false := by simpa using h
    have q0 : 0 ≤ n / m := Int.ediv_nonneg (by omega) (by omega)
    have q1 : n / m ≤ n := Int.ediv_le_self _ (by omega)
    go_enter Tryz.func136, Tryz.ntmps136
    go_wp2_with fail
    go_ret
    exact ⟨rfl, rfl⟩
theorem share_any (n a : Int) (hn : Af.Slope n) (ha : Af.Up a 562949953421312) (hz : a ≠ 0) (w : World) : Calls Tryz.prog 111 #[.int .i64 n, .int .i64 a] w fun e w' => e = .returned (.int .i64 (Af.round (n * 4294967296) a)) ∧ w' = w := by
  obtain ⟨n0, n1⟩ := hn
  obtain ⟨a0, a1⟩ := ha
  unfold Af.round
  by_cases h : a < 0
  · rw [if_pos h]
    have t : decide (a < 0) = true := by simpa using h
    have C := Lib.hid (floor_any (2 * (-n * 4294967296) + -a) (2 * -a) (by unfold Up'; omega) (by omega) (by omega) w)
    have E := Lib.hid (show (2 * (-n * 4294967296) + -a) / (2 * -a) = (-2 * (n * 4294967296) - a) / (-2 * a) by congr 1 <;> omega)
    clear hz
    go_enter Tryz.func111, Tryz.ntmps111
    go_wp2_with fail
    refine C.out.mono ?_
    rintro e w' ⟨rfl, rfl⟩
    rw [E.out]
    go_wp2_with fail
    go_ret
    exact ⟨rfl, rfl⟩
  · rw [if_neg h]
    have t : decide (a < 0) = false := by simpa using h
    have C := Lib.hid (floor_any (2 * (n * 4294967296) + a) (2 * a) (by unfold Up'; omega) (by omega) (by omega) w)
    clear hz
    go_enter Tryz.func111, Tryz.ntmps111
    go_wp2_with fail
    refine C.out.mono ?_
    rintro e w' ⟨rfl, rfl⟩
    go_wp2_with fail
    go_ret
    exact ⟨rfl, rfl⟩
/-! The document's. -/
theorem tmod_cases (n m : Int) (m0 : 0 < m) : (n.tmod m = n % m ∧ 0 ≤ n.tmod m) ∨ (n.tmod m + m = n % m ∧ n.tmod m < 0 ∧ n < 0) := by
  have q1 := Int.emod_nonneg n (show m ≠ 0 by omega)
  have q2 := Int.emod_lt_of_pos n m0
  rw [Int.tmod_eq_emod]
  by_cases h : 0 ≤ n ∨ m ∣ n
  · rw [if_pos h]
    exact .inl ⟨by omega, by omega⟩
  · rw [if_neg h]
    have h2 : ¬ n % m = 0 := fun h2 => h (.inr (Int.dvd_of_emod_eq_zero h2))
    exact .inr ⟨by omega, by omega, by omega⟩
theorem quot_up {n m B : Int} (m0 : 0 < m) (h0 : -B ≤ n) (h1 : n ≤ B) : -B ≤ n / m ∧ n / m ≤ B := by
  have hB : 0 ≤ B := by omega
  have h2 : B ≤ B * m := by have := Int.mul_le_mul_of_nonneg_left (show 1 ≤ m by omega) hB; omega
  constructor
  · refine Int.le_ediv_of_mul_le m0 ?_
    rw [Int.neg_mul]; omega
  · exact Int.ediv_le_of_le_mul m0 (by omega)
theorem docDown_any (n m : Int) (hn : Up' n) (m0 : 0 < m) (m1 : m ≤ 2305843009213693952) (w : World) : Calls Tryz.prog 117 #[.int .i64 n, .int .i64 m] w fun e w' => e = .returned (.int .i64 (n / m)) ∧ w' = w := by
  obtain ⟨n0, n1⟩ := hn
  have z : ¬ m = 0 := by omega
  have z2 : (m == 0) = false := by simpa using z
  have q0 := Int.mul_ediv_add_emod n m
  have q1 := Int.emod_nonneg n z
  have q2 := Int.emod_lt_of_pos n m0
  have qq := quot_up m0 n0 n1
  have W := wrap_i64 (n / m) (by omega) (by omega)
  rcases tmod_cases n m m0 with ⟨e, hs⟩ | ⟨e, hs, hs2⟩
  · have E : (n - n.tmod m).tdiv m = n / m := by
      rw [show n - n.tmod m = m * (n / m) by omega, Int.mul_tdiv_cancel_left _ z]
    have b1 : n.tmod m < m := by omega
    have b2 : n - n.tmod m ≤ 3458764513820540928 := by omega
    have b3 : -6917529027641081856 ≤ n - n.tmod m := by omega
    clear q0 q1 q2 e
    have t : decide (n.tmod m < 0) = false := by simpa using hs
    go_enter Tryz.func117, Tryz.ntmps117
    go_wp2_with fail
    go_ret
    exact ⟨rfl, rfl⟩
  · have E : (n - (n.tmod m + m)).tdiv m = n / m := by
      rw [show n - (n.tmod m + m) = m * (n / m) by omega, Int.mul_tdiv_cancel_left _ z]
    have b1 : -m ≤ n.tmod m := by omega
    have b2 : n - (n.tmod m + m) ≤ 3458764513820540928 := by omega
    have b3 : -6917529027641081856 ≤ n - (n.tmod m + m) := by omega
    clear q0 q1 q2 e
    have t : decide (n.tmod m < 0) = true := by simpa using hs
    go_enter Tryz.func117, Tryz.ntmps117
    go_wp2_with fail
    go_ret
    exact ⟨rfl, rfl⟩
theorem docNear_any (n : Int) (hn : Up2 n) (w : World) : Calls Tryz.prog 93 #[.int .i64 n] w fun e w' => e = .returned (.int .i64 (Af.near n)) ∧ w' = w := by
  have C := Lib.hid (docDown_any (n + 32768) 65536 (by unfold Up2 at hn; unfold Up'; omega) (by omega) (by omega) w)
  obtain ⟨h0, h1⟩ := hn
  go_enter Tryz.func93, Tryz.ntmps93
  go_wp2_with fail
  refine C.out.mono ?_
  rintro e w' ⟨rfl, rfl⟩
  go_wp2_with fail
  go_ret
  exact ⟨rfl, rfl⟩
theorem docRound_any (n a : Int) (hn : Af.Slope n) (ha : Af.Up a 562949953421312) (hz : a ≠ 0) (w : World) : Calls Tryz.prog 92 #[.int .i64 (n * 4294967296), .int .i64 a] w fun e w' => e = .returned (.int .i64 (Af.round (n * 4294967296) a)) ∧ w' = w := by
  obtain ⟨n0, n1⟩ := hn
  obtain ⟨a0, a1⟩ := ha
  unfold Af.round
  obtain ⟨p, hp⟩ : ∃ p, n * 4294967296 = p := ⟨_, rfl⟩
  have p0 : -72057594037927936 ≤ p := by omega
  have p1 : p ≤ 72057594037927936 := by omega
  rw [hp]
  clear hp n0 n1
  by_cases h : a < 0
  · rw [if_pos h]
    have t : decide (a < 0) = true := by simpa using h
    have C := Lib.hid (docDown_any (-2 * p - a) (-2 * a) (by unfold Up'; omega) (by omega) (by omega) w)
    clear hz
    go_enter Tryz.func92, Tryz.ntmps92
    go_wp2_with fail
    refine C.out.mono ?_
    rintro e w' ⟨rfl, rfl⟩
    go_wp2_with fail
    go_ret
    exact ⟨rfl, rfl⟩
  · rw [if_neg h]
    have t : decide (a < 0) = false := by simpa using h
    have C := Lib.hid (docDown_any (2 * p + a) (2 * a) (by unfold Up'; omega) (by omega) (by omega) w)
    clear hz
    go_enter Tryz.func92, Tryz.ntmps92
    go_wp2_with fail
    refine C.out.mono ?_
    rintro e w' ⟨rfl, rfl⟩
    go_wp2_with fail
    go_ret
    exact ⟨rfl, rfl⟩
end Go.Proofs.YtfcpbpfemmdklaaGreat.Ax

/- Is it a map? The program's word and the document's. (printed by genC.py) -/
namespace Go.Proofs.YtfcpbpfemmdklaaGreat.Ax
open Go.RowKit
set_option linter.unusedVariables false

/-- Six numbers in a block. -/
def Six (w : World) (B ty : Nat) (m : Af.M) : Prop := w.heap[B]? = some (.cells #[.int .i64 m.a, .int .i64 m.b, .int .i64 m.c, .int .i64 m.d, .int .i64 m.e, .int .i64 m.f] ty (0, 0))
theorem lt_of_block {w : World} {R : Nat} {o : Obj} (h : w.heap[R]? = some o) : R < w.heap.size := by
  obtain ⟨h, -⟩ := Array.getElem?_eq_some_iff.1 h
  exact h
theorem Six.lt {w : World} {B ty : Nat} {m : Af.M} (h : Six w B ty m) : B < w.heap.size := lt_of_block h
theorem Six.c0 {w : World} {B ty : Nat} {m : Af.M} (h : Six w B ty m) : w.cell? ⟨B, 0, none⟩ = some (.int .i64 m.a) := by simp [World.cell?, show w.heap[B]? = _ from h]
theorem at23_0 (a b c d e f : Int) (w : World) : (Instr.index 36 (.agg #[.int .i64 a, .int .i64 b, .int .i64 c, .int .i64 d, .int .i64 e, .int .i64 f]) (.int .i64 0)).run Tryz.prog w = .ok (.int .i64 a) w := by kernel_rfl
theorem Six.c1 {w : World} {B ty : Nat} {m : Af.M} (h : Six w B ty m) : w.cell? ⟨B, 1, none⟩ = some (.int .i64 m.b) := by simp [World.cell?, show w.heap[B]? = _ from h]
theorem at23_1 (a b c d e f : Int) (w : World) : (Instr.index 36 (.agg #[.int .i64 a, .int .i64 b, .int .i64 c, .int .i64 d, .int .i64 e, .int .i64 f]) (.int .i64 1)).run Tryz.prog w = .ok (.int .i64 b) w := by kernel_rfl
theorem Six.c2 {w : World} {B ty : Nat} {m : Af.M} (h : Six w B ty m) : w.cell? ⟨B, 2, none⟩ = some (.int .i64 m.c) := by simp [World.cell?, show w.heap[B]? = _ from h]
theorem at23_2 (a b c d e f : Int) (w : World) : (Instr.index 36 (.agg #[.int .i64 a, .int .i64 b, .int .i64 c, .int .i64 d, .int .i64 e, .int .i64 f]) (.int .i64 2)).run Tryz.prog w = .ok (.int .i64 c) w := by kernel_rfl
theorem Six.c3 {w : World} {B ty : Nat} {m : Af.M} (h : Six w B ty m) : w.cell? ⟨B, 3, none⟩ = some (.int .i64 m.d) := by simp [World.cell?, show w.heap[B]? = _ from h]
theorem at23_3 (a b c d e f : Int) (w : World) : (Instr.index 36 (.agg #[.int .i64 a, .int .i64 b, .int .i64 c, .int .i64 d, .int .i64 e, .int .i64 f]) (.int .i64 3)).run Tryz.prog w = .ok (.int .i64 d) w := by kernel_rfl
theorem Six.c4 {w : World} {B ty : Nat} {m : Af.M} (h : Six w B ty m) : w.cell? ⟨B, 4, none⟩ = some (.int .i64 m.e) := by simp [World.cell?, show w.heap[B]? = _ from h]
theorem at23_4 (a b c d e f : Int) (w : World) : (Instr.index 36 (.agg #[.int .i64 a, .int .i64 b, .int .i64 c, .int .i64 d, .int .i64 e, .int .i64 f]) (.int .i64 4)).run Tryz.prog w = .ok (.int .i64 e) w := by kernel_rfl
theorem Six.c5 {w : World} {B ty : Nat} {m : Af.M} (h : Six w B ty m) : w.cell? ⟨B, 5, none⟩ = some (.int .i64 m.f) := by simp [World.cell?, show w.heap[B]? = _ from h]
theorem at23_5 (a b c d e f : Int) (w : World) : (Instr.index 36 (.agg #[.int .i64 a, .int .i64 b, .int .i64 c, .int .i64 d, .int .i64 e, .int .i64 f]) (.int .i64 5)).run Tryz.prog w = .ok (.int .i64 f) w := by kernel_rfl
theorem Six.fr {w : World} {B ty i : Nat} {m : Af.M} (h : Six w B ty m) : w.frozen? ⟨B, i, none⟩ = false := by simp [World.frozen?, show w.heap[B]? = _ from h]
theorem Six.new (w : World) (ty : Nat) (m : Af.M) : Six (w.alloc (.cells #[.int .i64 m.a, .int .i64 m.b, .int .i64 m.c, .int .i64 m.d, .int .i64 m.e, .int .i64 m.f] ty)) w.heap.size ty m := heap_alloc_new _ _
def Cnt6 (P0 P1 P2 P3 P4 P5 P6 : World → Prop) (c : Value) (w : World) : Prop := (c = .int .i64 0 ∧ P0 w) ∨ (c = .int .i64 1 ∧ P1 w) ∨ (c = .int .i64 2 ∧ P2 w) ∨ (c = .int .i64 3 ∧ P3 w) ∨ (c = .int .i64 4 ∧ P4 w) ∨ (c = .int .i64 5 ∧ P5 w) ∨ (c = .int .i64 6 ∧ P6 w)
def Cnt4 (P0 P1 P2 P3 P4 : World → Prop) (c : Value) (w : World) : Prop := (c = .int .i64 0 ∧ P0 w) ∨ (c = .int .i64 1 ∧ P1 w) ∨ (c = .int .i64 2 ∧ P2 w) ∨ (c = .int .i64 3 ∧ P3 w) ∨ (c = .int .i64 4 ∧ P4 w)
def Cnt2 (P4 P5 P6 : World → Prop) (c : Value) (w : World) : Prop := (c = .int .i64 4 ∧ P4 w) ∨ (c = .int .i64 5 ∧ P5 w) ∨ (c = .int .i64 6 ∧ P6 w)
def InM (w1 : World) (P : Prop) (w : World) : Prop := P ∧ w = w1
theorem slope_shift {n : Int} (h : Af.Slope n) : Af.Shift n := ⟨by have := h.1; omega, by have := h.2; omega⟩
theorem up_yes {n far : Int} (f0 : 0 ≤ far) (f1 : far ≤ 1099511627776) (h : Af.Up n far) (w : World) : Calls Tryz.prog 135 #[.int .i64 n, .int .i64 far] w fun e w' => e = .returned (.bool true) ∧ w' = w := by
  have := isUp_any n far f0 f1 w
  rwa [decide_eq_true h] at this
theorem up_no {n far : Int} (f0 : 0 ≤ far) (f1 : far ≤ 1099511627776) (h : ¬ Af.Up n far) (w : World) : Calls Tryz.prog 135 #[.int .i64 n, .int .i64 far] w fun e w' => e = .returned (.bool false) ∧ w' = w := by
  have := isUp_any n far f0 f1 w
  rwa [decide_eq_false h] at this
set_option maxRecDepth 100000 in
set_option maxHeartbeats 1600000 in
theorem right_any (m : Af.M) (w : World) : Calls Tryz.prog 110 #[.agg #[.int .i64 m.a, .int .i64 m.b, .int .i64 m.c, .int .i64 m.d, .int .i64 m.e, .int .i64 m.f]] w fun e w' =>
    e = .returned (.bool (decide m.ok)) ∧ w' = w.alloc (.cells #[.int .i64 m.a, .int .i64 m.b, .int .i64 m.c, .int .i64 m.d, .int .i64 m.e, .int .i64 m.f] 36) := by
  obtain ⟨a, b, c, d, e, f⟩ := m
  have HY := Lib.hid (show Af.Slope a ∧ Af.Slope b ∧ Af.Slope c ∧ Af.Slope d ∧ Af.Shift e ∧ Af.Shift f → decide (Af.M.ok ⟨a, b, c, d, e, f⟩) = true from fun h => decide_eq_true h)
  have HN := Lib.hid (show ¬ (Af.Slope a ∧ Af.Slope b ∧ Af.Slope c ∧ Af.Slope d ∧ Af.Shift e ∧ Af.Shift f) → decide (Af.M.ok ⟨a, b, c, d, e, f⟩) = false from fun h => decide_eq_false h)
  simp only
  generalize decide (Af.M.ok ⟨a, b, c, d, e, f⟩) = z at *
  have F0 := Six.new w 36 ⟨a, b, c, d, e, f⟩
  simp only at F0
  go_enter Tryz.func110, Tryz.ntmps110
  obtain ⟨B, hB⟩ : ∃ B, B = w.heap.size := ⟨_, rfl⟩
  rw [← hB] at F0
  obtain ⟨w1, hw1⟩ : ∃ w1, w1 = w.alloc (.cells #[.int .i64 a, .int .i64 b, .int .i64 c, .int .i64 d, .int .i64 e, .int .i64 f] 36) := ⟨_, rfl⟩
  rw [← hw1] at F0
  go_wp2_with fail
  rw [← hw1, ← hB]
  have HW1 := Lib.hid hw1
  clear hw1 hB
  have c0 := F0.c0
  have c1 := F0.c1
  have c2 := F0.c2
  have c3 := F0.c3
  have c4 := F0.c4
  have c5 := F0.c5
  clear F0
  simp only at c0 c1 c2 c3 c4 c5
  go_wp2_with fail
  clear c0 c1 c2 c3 c4 c5
  go_loopw [6] (Cnt6 (InM w1 (True)) (InM w1 (Af.Slope a)) (InM w1 (Af.Slope a ∧ Af.Slope b)) (InM w1 (Af.Slope a ∧ Af.Slope b ∧ Af.Slope c)) (InM w1 (Af.Slope a ∧ Af.Slope b ∧ Af.Slope c ∧ Af.Slope d)) (InM w1 (Af.Slope a ∧ Af.Slope b ∧ Af.Slope c ∧ Af.Slope d ∧ Af.Shift e)) (InM w1 (Af.Slope a ∧ Af.Slope b ∧ Af.Slope c ∧ Af.Slope d ∧ Af.Shift e ∧ Af.Shift f))) (fun cnt _ => 6 - (intOf cnt).toNat)
  case atStart => exact .inl ⟨rfl, trivial, rfl⟩
  case round =>
    rcases hrel with ⟨rfl, hW, rfl⟩ | ⟨rfl, hW, rfl⟩ | ⟨rfl, hW, rfl⟩ | ⟨rfl, hW, rfl⟩ | ⟨rfl, hW, rfl⟩ | ⟨rfl, hW, rfl⟩ | ⟨rfl, hW, rfl⟩
    · have HW := Lib.hid hW
      clear hW
      have hix := at23_0 a b c d e f wr
      by_cases hG : Af.Slope a
      · have C1 := Lib.hid (up_yes (by omega) (by omega) hG wr)
        have C2 := Lib.hid (up_yes (by omega) (by omega) (slope_shift hG) wr)
        have HG := Lib.hid hG
        clear hG
        go_wp2_with fail
        refine C1.out.mono ?_
        rintro e w' ⟨rfl, rfl⟩
        go_wp2_with fail
        refine C2.out.mono ?_
        rintro e w' ⟨rfl, rfl⟩
        go_wp2_with fail
        go_roundw
        case rel => exact .inr (.inl ⟨rfl, HG.out, rfl⟩)
        case measure => decide
      · have hz := HN.out (fun h => hG (h.1))
        subst hz
        have C1 := Lib.hid (up_no (by omega) (by omega) hG wr)
        clear hG
        go_wp2_with fail
        refine C1.out.mono ?_
        rintro e w' ⟨rfl, rfl⟩
        go_wp2_with fail
        go_ret
        exact ⟨rfl, HW1.out⟩
    · have HW := Lib.hid hW
      clear hW
      have hix := at23_1 a b c d e f wr
      by_cases hG : Af.Slope b
      · have C1 := Lib.hid (up_yes (by omega) (by omega) hG wr)
        have C2 := Lib.hid (up_yes (by omega) (by omega) (slope_shift hG) wr)
        have HG := Lib.hid hG
        clear hG
        go_wp2_with fail
        refine C1.out.mono ?_
        rintro e w' ⟨rfl, rfl⟩
        go_wp2_with fail
        refine C2.out.mono ?_
        rintro e w' ⟨rfl, rfl⟩
        go_wp2_with fail
        go_roundw
        case rel => exact .inr (.inr (.inl ⟨rfl, ⟨HW.out, HG.out⟩, rfl⟩))
        case measure => decide
      · have hz := HN.out (fun h => hG (h.2.1))
        subst hz
        have C1 := Lib.hid (up_no (by omega) (by omega) hG wr)
        clear hG
        go_wp2_with fail
        refine C1.out.mono ?_
        rintro e w' ⟨rfl, rfl⟩
        go_wp2_with fail
        go_ret
        exact ⟨rfl, HW1.out⟩
    · have HW := Lib.hid hW
      clear hW
      have hix := at23_2 a b c d e f wr
      by_cases hG : Af.Slope c
      · have C1 := Lib.hid (up_yes (by omega) (by omega) hG wr)
        have C2 := Lib.hid (up_yes (by omega) (by omega) (slope_shift hG) wr)
        have HG := Lib.hid hG
        clear hG
        go_wp2_with fail
        refine C1.out.mono ?_
        rintro e w' ⟨rfl, rfl⟩
        go_wp2_with fail
        refine C2.out.mono ?_
        rintro e w' ⟨rfl, rfl⟩
        go_wp2_with fail
        go_roundw
        case rel => exact .inr (.inr (.inr (.inl ⟨rfl, ⟨HW.out.1, HW.out.2, HG.out⟩, rfl⟩)))
        case measure => decide
      · have hz := HN.out (fun h => hG (h.2.2.1))
        subst hz
        have C1 := Lib.hid (up_no (by omega) (by omega) hG wr)
        clear hG
        go_wp2_with fail
        refine C1.out.mono ?_
        rintro e w' ⟨rfl, rfl⟩
        go_wp2_with fail
        go_ret
        exact ⟨rfl, HW1.out⟩
    · have HW := Lib.hid hW
      clear hW
      have hix := at23_3 a b c d e f wr
      by_cases hG : Af.Slope d
      · have C1 := Lib.hid (up_yes (by omega) (by omega) hG wr)
        have C2 := Lib.hid (up_yes (by omega) (by omega) (slope_shift hG) wr)
        have HG := Lib.hid hG
        clear hG
        go_wp2_with fail
        refine C1.out.mono ?_
        rintro e w' ⟨rfl, rfl⟩
        go_wp2_with fail
        refine C2.out.mono ?_
        rintro e w' ⟨rfl, rfl⟩
        go_wp2_with fail
        go_roundw
        case rel => exact .inr (.inr (.inr (.inr (.inl ⟨rfl, ⟨HW.out.1, HW.out.2.1, HW.out.2.2, HG.out⟩, rfl⟩))))
        case measure => decide
      · have hz := HN.out (fun h => hG (h.2.2.2.1))
        subst hz
        have C1 := Lib.hid (up_no (by omega) (by omega) hG wr)
        clear hG
        go_wp2_with fail
        refine C1.out.mono ?_
        rintro e w' ⟨rfl, rfl⟩
        go_wp2_with fail
        go_ret
        exact ⟨rfl, HW1.out⟩
    · have HW := Lib.hid hW
      clear hW
      have hix := at23_4 a b c d e f wr
      by_cases hG : Af.Shift e
      · have C1 := Lib.hid (up_yes (by omega) (by omega) hG wr)
        have HG := Lib.hid hG
        clear hG
        go_wp2_with fail
        refine C1.out.mono ?_
        rintro e w' ⟨rfl, rfl⟩
        go_wp2_with fail
        go_roundw
        case rel => exact .inr (.inr (.inr (.inr (.inr (.inl ⟨rfl, ⟨HW.out.1, HW.out.2.1, HW.out.2.2.1, HW.out.2.2.2, HG.out⟩, rfl⟩)))))
        case measure => decide
      · have hz := HN.out (fun h => hG (h.2.2.2.2.1))
        subst hz
        have C1 := Lib.hid (up_no (by omega) (by omega) hG wr)
        clear hG
        go_wp2_with fail
        refine C1.out.mono ?_
        rintro e w' ⟨rfl, rfl⟩
        go_wp2_with fail
        go_ret
        exact ⟨rfl, HW1.out⟩
    · have HW := Lib.hid hW
      clear hW
      have hix := at23_5 a b c d e f wr
      by_cases hG : Af.Shift f
      · have C1 := Lib.hid (up_yes (by omega) (by omega) hG wr)
        have HG := Lib.hid hG
        clear hG
        go_wp2_with fail
        refine C1.out.mono ?_
        rintro e w' ⟨rfl, rfl⟩
        go_wp2_with fail
        go_roundw
        case rel => exact .inr (.inr (.inr (.inr (.inr (.inr (⟨rfl, ⟨HW.out.1, HW.out.2.1, HW.out.2.2.1, HW.out.2.2.2.1, HW.out.2.2.2.2, HG.out⟩, rfl⟩))))))
        case measure => decide
      · have hz := HN.out (fun h => hG (h.2.2.2.2.2))
        subst hz
        have C1 := Lib.hid (up_no (by omega) (by omega) hG wr)
        clear hG
        go_wp2_with fail
        refine C1.out.mono ?_
        rintro e w' ⟨rfl, rfl⟩
        go_wp2_with fail
        go_ret
        exact ⟨rfl, HW1.out⟩
    · have hz := HY.out hW
      subst hz
      clear hW
      go_wp2_with fail
      go_ret
      exact ⟨rfl, HW1.out⟩
set_option maxRecDepth 100000 in
set_option maxHeartbeats 1600000 in
theorem docRight_any (m : Af.M) (w : World) : Calls Tryz.prog 91 #[.agg #[.int .i64 m.a, .int .i64 m.b, .int .i64 m.c, .int .i64 m.d, .int .i64 m.e, .int .i64 m.f]] w fun e w' =>
    e = .returned (.bool (decide m.ok)) ∧ w' = w.alloc (.cells #[.int .i64 m.a, .int .i64 m.b, .int .i64 m.c, .int .i64 m.d, .int .i64 m.e, .int .i64 m.f] 45) := by
  obtain ⟨a, b, c, d, e, f⟩ := m
  have HY := Lib.hid (show Af.Slope a ∧ Af.Slope b ∧ Af.Slope c ∧ Af.Slope d ∧ Af.Shift e ∧ Af.Shift f → decide (Af.M.ok ⟨a, b, c, d, e, f⟩) = true from fun h => decide_eq_true h)
  have HN := Lib.hid (show ¬ (Af.Slope a ∧ Af.Slope b ∧ Af.Slope c ∧ Af.Slope d ∧ Af.Shift e ∧ Af.Shift f) → decide (Af.M.ok ⟨a, b, c, d, e, f⟩) = false from fun h => decide_eq_false h)
  simp only
  generalize decide (Af.M.ok ⟨a, b, c, d, e, f⟩) = z at *
  have F0 := Six.new w 45 ⟨a, b, c, d, e, f⟩
  simp only at F0
  go_enter Tryz.func91, Tryz.ntmps91
  obtain ⟨B, hB⟩ : ∃ B, B = w.heap.size := ⟨_, rfl⟩
  rw [← hB] at F0
  obtain ⟨w1, hw1⟩ : ∃ w1, w1 = w.alloc (.cells #[.int .i64 a, .int .i64 b, .int .i64 c, .int .i64 d, .int .i64 e, .int .i64 f] 45) := ⟨_, rfl⟩
  rw [← hw1] at F0
  go_wp2_with fail
  rw [← hw1, ← hB]
  have HW1 := Lib.hid hw1
  clear hw1 hB
  have c0 := F0.c0
  have c1 := F0.c1
  have c2 := F0.c2
  have c3 := F0.c3
  have c4 := F0.c4
  have c5 := F0.c5
  clear F0
  simp only at c0 c1 c2 c3 c4 c5
  go_loopw [3] (Cnt4 (InM w1 (True)) (InM w1 (Af.Slope a)) (InM w1 (Af.Slope a ∧ Af.Slope b)) (InM w1 (Af.Slope a ∧ Af.Slope b ∧ Af.Slope c)) (InM w1 (Af.Slope a ∧ Af.Slope b ∧ Af.Slope c ∧ Af.Slope d))) (fun cnt _ => 4 - (intOf cnt).toNat)
  case atStart => exact .inl ⟨rfl, trivial, rfl⟩
  case round =>
    rcases hrel with ⟨rfl, hW, rfl⟩ | ⟨rfl, hW, rfl⟩ | ⟨rfl, hW, rfl⟩ | ⟨rfl, hW, rfl⟩ | ⟨rfl, hW, rfl⟩
    · have HW := Lib.hid hW
      clear hW
      by_cases hG : Af.Slope a
      · have t1 : decide (a < -16777216) = false := by have := hG.1; simp; omega
        have t2 : decide (16777216 < a) = false := by have := hG.2; simp; omega
        have HG := Lib.hid hG
        clear hG
        go_wp2_with fail
        go_roundw
        case rel => exact .inr (.inl ⟨rfl, HG.out, rfl⟩)
        case measure => decide
      · have hz := HN.out (fun h => hG (h.1))
        subst hz
        by_cases hb : a < -16777216
        · have t1 : decide (a < -16777216) = true := by simpa using hb
          clear hG hb
          go_wp2_with fail
          go_ret
          exact ⟨rfl, HW1.out⟩
        · have t1 : decide (a < -16777216) = false := by simpa using hb
          have t2 : decide (16777216 < a) = true := by
            have : ¬ a ≤ 16777216 := fun h => hG ⟨by omega, h⟩
            simp
            omega
          clear hG hb
          go_wp2_with fail
          go_ret
          exact ⟨rfl, HW1.out⟩
    · have HW := Lib.hid hW
      clear hW
      by_cases hG : Af.Slope b
      · have t1 : decide (b < -16777216) = false := by have := hG.1; simp; omega
        have t2 : decide (16777216 < b) = false := by have := hG.2; simp; omega
        have HG := Lib.hid hG
        clear hG
        go_wp2_with fail
        go_roundw
        case rel => exact .inr (.inr (.inl ⟨rfl, ⟨HW.out, HG.out⟩, rfl⟩))
        case measure => decide
      · have hz := HN.out (fun h => hG (h.2.1))
        subst hz
        by_cases hb : b < -16777216
        · have t1 : decide (b < -16777216) = true := by simpa using hb
          clear hG hb
          go_wp2_with fail
          go_ret
          exact ⟨rfl, HW1.out⟩
        · have t1 : decide (b < -16777216) = false := by simpa using hb
          have t2 : decide (16777216 < b) = true := by
            have : ¬ b ≤ 16777216 := fun h => hG ⟨by omega, h⟩
            simp
            omega
          clear hG hb
          go_wp2_with fail
          go_ret
          exact ⟨rfl, HW1.out⟩
    · have HW := Lib.hid hW
      clear hW
      by_cases hG : Af.Slope c
      · have t1 : decide (c < -16777216) = false := by have := hG.1; simp; omega
        have t2 : decide (16777216 < c) = false := by have := hG.2; simp; omega
        have HG := Lib.hid hG
        clear hG
        go_wp2_with fail
        go_roundw
        case rel => exact .inr (.inr (.inr (.inl ⟨rfl, ⟨HW.out.1, HW.out.2, HG.out⟩, rfl⟩)))
        case measure => decide
      · have hz := HN.out (fun h => hG (h.2.2.1))
        subst hz
        by_cases hb : c < -16777216
        · have t1 : decide (c < -16777216) = true := by simpa using hb
          clear hG hb
          go_wp2_with fail
          go_ret
          exact ⟨rfl, HW1.out⟩
        · have t1 : decide (c < -16777216) = false := by simpa using hb
          have t2 : decide (16777216 < c) = true := by
            have : ¬ c ≤ 16777216 := fun h => hG ⟨by omega, h⟩
            simp
            omega
          clear hG hb
          go_wp2_with fail
          go_ret
          exact ⟨rfl, HW1.out⟩
    · have HW := Lib.hid hW
      clear hW
      by_cases hG : Af.Slope d
      · have t1 : decide (d < -16777216) = false := by have := hG.1; simp; omega
        have t2 : decide (16777216 < d) = false := by have := hG.2; simp; omega
        have HG := Lib.hid hG
        clear hG
        go_wp2_with fail
        go_roundw
        case rel => exact .inr (.inr (.inr (.inr (⟨rfl, ⟨HW.out.1, HW.out.2.1, HW.out.2.2, HG.out⟩, rfl⟩))))
        case measure => decide
      · have hz := HN.out (fun h => hG (h.2.2.2.1))
        subst hz
        by_cases hb : d < -16777216
        · have t1 : decide (d < -16777216) = true := by simpa using hb
          clear hG hb
          go_wp2_with fail
          go_ret
          exact ⟨rfl, HW1.out⟩
        · have t1 : decide (d < -16777216) = false := by simpa using hb
          have t2 : decide (16777216 < d) = true := by
            have : ¬ d ≤ 16777216 := fun h => hG ⟨by omega, h⟩
            simp
            omega
          clear hG hb
          go_wp2_with fail
          go_ret
          exact ⟨rfl, HW1.out⟩
    · have HW4 := Lib.hid hW
      clear hW
      go_wp2_with fail
      go_loopw [4] (Cnt2 (InM wr (Af.Slope a ∧ Af.Slope b ∧ Af.Slope c ∧ Af.Slope d)) (InM wr (Af.Slope a ∧ Af.Slope b ∧ Af.Slope c ∧ Af.Slope d ∧ Af.Shift e)) (InM wr (Af.Slope a ∧ Af.Slope b ∧ Af.Slope c ∧ Af.Slope d ∧ Af.Shift e ∧ Af.Shift f))) (fun cnt _ => 6 - (intOf cnt).toNat)
      case atStart => exact .inl ⟨rfl, HW4.out, rfl⟩
      case round =>
        rcases hrel with ⟨rfl, hW, rfl⟩ | ⟨rfl, hW, rfl⟩ | ⟨rfl, hW, rfl⟩
        · have HW := Lib.hid hW
          clear hW
          by_cases hG : Af.Shift e
          · have t1 : decide (e < -68719476736) = false := by have := hG.1; simp; omega
            have t2 : decide (68719476736 < e) = false := by have := hG.2; simp; omega
            have HG := Lib.hid hG
            clear hG
            go_wp2_with fail
            go_roundw
            case rel => exact .inr (.inl ⟨rfl, ⟨HW.out.1, HW.out.2.1, HW.out.2.2.1, HW.out.2.2.2, HG.out⟩, rfl⟩)
            case measure => decide
          · have hz := HN.out (fun h => hG (h.2.2.2.2.1))
            subst hz
            by_cases hb : e < -68719476736
            · have t1 : decide (e < -68719476736) = true := by simpa using hb
              clear hG hb
              go_wp2_with fail
              go_ret
              exact ⟨rfl, HW1.out⟩
            · have t1 : decide (e < -68719476736) = false := by simpa using hb
              have t2 : decide (68719476736 < e) = true := by
                have : ¬ e ≤ 68719476736 := fun h => hG ⟨by omega, h⟩
                simp
                omega
              clear hG hb
              go_wp2_with fail
              go_ret
              exact ⟨rfl, HW1.out⟩
        · have HW := Lib.hid hW
          clear hW
          by_cases hG : Af.Shift f
          · have t1 : decide (f < -68719476736) = false := by have := hG.1; simp; omega
            have t2 : decide (68719476736 < f) = false := by have := hG.2; simp; omega
            have HG := Lib.hid hG
            clear hG
            go_wp2_with fail
            go_roundw
            case rel => exact .inr (.inr (⟨rfl, ⟨HW.out.1, HW.out.2.1, HW.out.2.2.1, HW.out.2.2.2.1, HW.out.2.2.2.2, HG.out⟩, rfl⟩))
            case measure => decide
          · have hz := HN.out (fun h => hG (h.2.2.2.2.2))
            subst hz
            by_cases hb : f < -68719476736
            · have t1 : decide (f < -68719476736) = true := by simpa using hb
              clear hG hb
              go_wp2_with fail
              go_ret
              exact ⟨rfl, HW1.out⟩
            · have t1 : decide (f < -68719476736) = false := by simpa using hb
              have t2 : decide (68719476736 < f) = true := by
                have : ¬ f ≤ 68719476736 := fun h => hG ⟨by omega, h⟩
                simp
                omega
              clear hG hb
              go_wp2_with fail
              go_ret
              exact ⟨rfl, HW1.out⟩
        · have hz := HY.out hW
          subst hz
          clear hW
          go_wp2_with fail
          go_ret
          exact ⟨rfl, HW1.out⟩
end Go.Proofs.YtfcpbpfemmdklaaGreat.Ax

/- What stays; a map's slope, and where a place goes. -/
namespace Go.Proofs.YtfcpbpfemmdklaaGreat.Ax
open Go.RowKit
set_option linter.unusedVariables false

/-- The blocks outside S are as they were. -/
structure Keeps (S : Nat → Prop) (w w' : World) : Prop where
  os : w'.os = w.os
  tape : w'.tape = w.tape
  output : w'.output = w.output
  size : w.heap.size ≤ w'.heap.size
  block : ∀ k, k < w.heap.size → ¬ S k → w'.heap[k]? = w.heap[k]?

theorem Keeps.refl (S : Nat → Prop) (w : World) : Keeps S w w := ⟨rfl, rfl, rfl, Nat.le_refl _, fun _ _ _ => rfl⟩
theorem Keeps.trans {S S1 : Nat → Prop} {a b c : World} (h : Keeps S a b) (k : Keeps S1 b c) (hS : ∀ i, i < a.heap.size → S1 i → S i) : Keeps S a c :=
  ⟨k.os.trans h.os, k.tape.trans h.tape, k.output.trans h.output, Nat.le_trans h.size k.size,
    fun i hi hn => (k.block i (Nat.lt_of_lt_of_le hi h.size) (fun s => hn (hS i hi s))).trans (h.block i hi hn)⟩
theorem Keeps.drewN {S : Nat → Prop} {a w : World} (h : Keeps S a w) (n : Nat) : Keeps S a (w.drewN n) := ⟨h.os, h.tape, h.output, h.size, h.block⟩
theorem Keeps.drew {S : Nat → Prop} {a w : World} (h : Keeps S a w) : Keeps S a w.drew := ⟨h.os, h.tape, h.output, h.size, h.block⟩
theorem Keeps.alloc {S : Nat → Prop} {a w : World} (h : Keeps S a w) (o : Obj) : Keeps S a (w.alloc o) :=
  ⟨h.os, h.tape, h.output, by have := h.size; simp; omega, fun i hi hn => (Below.heap_alloc _ _ _ (Nat.lt_of_lt_of_le hi h.size)).trans (h.block i hi hn)⟩
theorem Keeps.setCell {S : Nat → Prop} {a w : World} (h : Keeps S a w) {p : Addr} (hp : p.block < a.heap.size → S p.block) (u : Value) : Keeps S a (w.setCell p u) :=
  ⟨h.os, h.tape, h.output, by simp [World.setCell]; exact h.size, fun i hi hn => (Below.heap_setCell _ _ _ _ (fun e => hn (by subst e; exact hp hi))).trans (h.block i hi hn)⟩
theorem Keeps.below {S : Nat → Prop} {B : Nat} {w w' : World} (h : Keeps S w w') (hB : B ≤ w.heap.size) (hS : ∀ k, k < B → ¬ S k) : Below B w w' :=
  ⟨h.os, h.tape, h.output, h.size, fun k hk => h.block k (by omega) (hS k hk)⟩
/-- Nothing that was there has changed. -/
def none' : Nat → Prop := fun _ => False
theorem Keeps.later {w w' : World} (h : Keeps none' w w') : ∀ k, k < w.heap.size → w'.heap[k]? = w.heap[k]? := fun k hk => h.block k hk (fun h => h)
theorem Keeps.next {a b c : World} (h : Keeps none' a b) (k : Keeps none' b c) : Keeps none' a c := h.trans k (fun _ _ h => h)
theorem block_set {w : World} {R i : Nat} {c : Array Value} {t : TypeId} {f : Nat × Nat} (h : w.heap[R]? = some (.cells c t f)) (u : Value) :
    (w.setCell ⟨R, i, none⟩ u).heap[R]? = some (.cells (c.setIfInBounds i u) t f) := by
  simp only [World.setCell, Array.getElem?_modify, h]
  simp
theorem Keeps.cell {w w' : World} (h : Keeps none' w w') {p : Addr} {v : Value} (hc : w.cell? p = some v) : w'.cell? p = some v := by
  have hb := World.block_lt_of_cell? w _ hc
  exact (World.cell?_of_block (w := w) (h.later p.block hb)).trans hc
theorem Six.later {w w' : World} {B ty : Nat} {m : Af.M} (h : Six w B ty m) (k : Keeps none' w w') : Six w' B ty m := (k.later B h.lt).trans h
theorem Six.alloc {w : World} {B ty : Nat} {m : Af.M} (h : Six w B ty m) (o : Obj) : Six (w.alloc o) B ty m := (Below.heap_alloc _ _ _ h.lt).trans h
theorem Six.set {w : World} {B R i ty : Nat} {m : Af.M} (h : Six w B ty m) (hn : B ≠ R) (v : Value) : Six (w.setCell ⟨R, i, none⟩ v) B ty m := (Below.heap_setCell _ _ _ _ hn).trans h
theorem keeps_alloc {w w' : World} {o : Obj} (h : w' = w.alloc o) : Keeps none' w w' := by rw [h]; exact (Keeps.refl _ _).alloc _

def Both (x y : Int) (w : World) (e : Ending) (w' : World) : Prop := e = .returned (.tuple #[.int .i64 x, .int .i64 y]) ∧ Keeps none' w w'

set_option maxRecDepth 100000 in
set_option maxHeartbeats 800000 in
theorem slope_any (m : Af.M) (x y q : Int) (hm : m.ok) (hx : Af.Up x q) (hy : Af.Up y q) (hq : 0 ≤ q) (hq2 : q ≤ 68719476736) (w : World) :
    Calls Tryz.prog 112 #[.agg #[.int .i64 m.a, .int .i64 m.b, .int .i64 m.c, .int .i64 m.d, .int .i64 m.e, .int .i64 m.f], .int .i64 x, .int .i64 y] w (Both (Af.slopeU m x y) (Af.slopeV m x y) w) := by
  have HE := Lib.hid (And.intro (show Af.slopeU m x y = m.a * x + m.b * y from rfl) (show Af.slopeV m x y = m.c * x + m.d * y from rfl))
  obtain ⟨ha, hb, hc, hd, -⟩ := hm
  obtain ⟨a0, a1⟩ := Af.up_mul ha hx (by omega) hq
  obtain ⟨b0, b1⟩ := Af.up_mul hb hy (by omega) hq
  obtain ⟨c0, c1⟩ := Af.up_mul hc hx (by omega) hq
  obtain ⟨d0, d1⟩ := Af.up_mul hd hy (by omega) hq
  clear ha hb hc hd hx hy
  have F0 := Six.new w 36 m
  have w1 := wrap_i64 (m.a * x) (by omega) (by omega)
  have w2 := wrap_i64 (m.b * y) (by omega) (by omega)
  have w3 := wrap_i64 (m.c * x) (by omega) (by omega)
  have w4 := wrap_i64 (m.d * y) (by omega) (by omega)
  have w5 := wrap_i64 (m.a * x + m.b * y) (by omega) (by omega)
  have w6 := wrap_i64 (m.c * x + m.d * y) (by omega) (by omega)
  have K0 := Lib.hid (keeps_alloc (w := w) (o := .cells #[.int .i64 m.a, .int .i64 m.b, .int .i64 m.c, .int .i64 m.d, .int .i64 m.e, .int .i64 m.f] 36) rfl)
  clear hq hq2 a0 a1 b0 b1 c0 c1 d0 d1
  go_enter Tryz.func112, Tryz.ntmps112
  go_wp2_with fail
  generalize w.alloc (.cells #[.int .i64 m.a, .int .i64 m.b, .int .i64 m.c, .int .i64 m.d, .int .i64 m.e, .int .i64 m.f] 36) = w7 at *
  generalize w.heap.size = B at *
  have c0 := F0.c0
  have c1 := F0.c1
  have c2 := F0.c2
  have c3 := F0.c3
  clear F0
  go_quiet (fail)
  go_wp2_with fail
  go_ret2
  exact ⟨by rw [HE.out.1, HE.out.2]; rfl, K0.out.drewN _⟩
end Go.Proofs.YtfcpbpfemmdklaaGreat.Ax

/- The product of maps. -/
namespace Go.Proofs.YtfcpbpfemmdklaaGreat.Ax
open Go.RowKit
set_option linter.unusedVariables false

theorem results_cell_row2 {P : Program} {fn : Func} {p u : Tmp} {ty : TypeId} (h : fn.results = #[.cell p ty, .tmp u]) (tmps : Array Value) (w : World) (g : Nat) (t : TypeId) (cs : Array Value) (fr : Nat × Nat) (d : TypeDesc)
    (hp : tmps.getD p undef = .pointer (some ⟨g, 0, none⟩)) (hg : w.heap[g]? = some (.cells cs t fr))
    (hu : P.underlying ty = some d) (hd : (match d with | .struct _ | .array _ _ => true | _ => false) = true) (hi : (P.info? ty).map (·.size) = some cs.size) :
    (results fn tmps).run P w = .ok (.tuple #[.agg cs, tmps.getD u undef]) w := by
  have hp' : tmps[p]?.getD undef = .pointer (some ⟨g, 0, none⟩) := by simpa using hp
  simp [results, h, hp', asAddr, run_loadVar_row w g t ty cs fr d hg hu hd hi]
theorem right_yes {m : Af.M} (h : m.ok) (w : World) : Calls Tryz.prog 110 #[.agg #[.int .i64 m.a, .int .i64 m.b, .int .i64 m.c, .int .i64 m.d, .int .i64 m.e, .int .i64 m.f]] w fun e w' => e = .returned (.bool true) ∧ Keeps none' w w' :=
  (right_any m w).mono fun e w' ⟨h1, h2⟩ => ⟨by rw [h1, decide_eq_true h], keeps_alloc h2⟩
theorem right_no {m : Af.M} (h : ¬ m.ok) (w : World) : Calls Tryz.prog 110 #[.agg #[.int .i64 m.a, .int .i64 m.b, .int .i64 m.c, .int .i64 m.d, .int .i64 m.e, .int .i64 m.f]] w fun e w' => e = .returned (.bool false) ∧ Keeps none' w w' :=
  (right_any m w).mono fun e w' ⟨h1, h2⟩ => ⟨by rw [h1, decide_eq_false h], keeps_alloc h2⟩
def Told (m : Af.M) (c : Int) (w : World) (e : Ending) (w' : World) : Prop := e = .returned (.tuple #[.agg #[.int .i64 m.a, .int .i64 m.b, .int .i64 m.c, .int .i64 m.d, .int .i64 m.e, .int .i64 m.f], .int .i64 c]) ∧ Keeps none' w w'
/-- Blocks of six numbers, the last one under way. -/
structure Tri (w : World) (A B R : Nat) (m n r : Af.M) (w' : World) : Prop where
  one : Six w' A 36 m
  two : Six w' B 36 n
  res : Six w' R 36 r
  keeps : Keeps none' w w'
  low : w.heap.size ≤ R
theorem Tri.later {w w1 w2 : World} {A B R : Nat} {m n r : Af.M} (h : Tri w A B R m n r w1) (k : Keeps none' w1 w2) : Tri w A B R m n r w2 :=
  ⟨h.one.later k, h.two.later k, h.res.later k, h.keeps.next k, h.low⟩
theorem Tri.new (w : World) (m n r : Af.M) : Tri w w.heap.size (w.heap.size + 1) (w.heap.size + 1 + 1) m n r (((w.alloc (.cells #[.int .i64 m.a, .int .i64 m.b, .int .i64 m.c, .int .i64 m.d, .int .i64 m.e, .int .i64 m.f] 36)).alloc (.cells #[.int .i64 n.a, .int .i64 n.b, .int .i64 n.c, .int .i64 n.d, .int .i64 n.e, .int .i64 n.f] 36)).alloc (.cells #[.int .i64 r.a, .int .i64 r.b, .int .i64 r.c, .int .i64 r.d, .int .i64 r.e, .int .i64 r.f] 36)) := by
  refine ⟨((Six.new _ _ _).alloc _).alloc _, ?_, ?_, (((Keeps.refl _ _).alloc _).alloc _).alloc _, by omega⟩
  · have := (Six.new (w.alloc (.cells #[.int .i64 m.a, .int .i64 m.b, .int .i64 m.c, .int .i64 m.d, .int .i64 m.e, .int .i64 m.f] 36)) 36 n).alloc (.cells #[.int .i64 r.a, .int .i64 r.b, .int .i64 r.c, .int .i64 r.d, .int .i64 r.e, .int .i64 r.f] 36)
    simpa using this
  · have := Six.new ((w.alloc (.cells #[.int .i64 m.a, .int .i64 m.b, .int .i64 m.c, .int .i64 m.d, .int .i64 m.e, .int .i64 m.f] 36)).alloc (.cells #[.int .i64 n.a, .int .i64 n.b, .int .i64 n.c, .int .i64 n.d, .int .i64 n.e, .int .i64 n.f] 36)) 36 r
    simpa using this
theorem block_all {w : World} {R ty : Nat} {m : Af.M} (h : Six w R ty m) (r : Af.M) :
    Six ((((((w.setCell ⟨R, 0, none⟩ (.int .i64 r.a)).setCell ⟨R, 1, none⟩ (.int .i64 r.b)).setCell ⟨R, 2, none⟩ (.int .i64 r.c)).setCell ⟨R, 3, none⟩ (.int .i64 r.d)).setCell ⟨R, 4, none⟩ (.int .i64 r.e)).setCell ⟨R, 5, none⟩ (.int .i64 r.f)) R ty r := by
  have : ((#[.int .i64 m.a, .int .i64 m.b, .int .i64 m.c, .int .i64 m.d, .int .i64 m.e, .int .i64 m.f] : Array Value).setIfInBounds 0 (.int .i64 r.a)) = _ := rfl
  unfold Six at *
  simp [World.setCell, Array.getElem?_modify, h]

theorem Keeps.all {w w' : World} {R : Nat} (h : Keeps none' w w') (hR : w.heap.size ≤ R) (r : Af.M) :
    Keeps none' w ((((((w'.setCell ⟨R, 0, none⟩ (.int .i64 r.a)).setCell ⟨R, 1, none⟩ (.int .i64 r.b)).setCell ⟨R, 2, none⟩ (.int .i64 r.c)).setCell ⟨R, 3, none⟩ (.int .i64 r.d)).setCell ⟨R, 4, none⟩ (.int .i64 r.e)).setCell ⟨R, 5, none⟩ (.int .i64 r.f)) :=
  (((((h.setCell (fun e => by simp only at e; omega) _).setCell (fun e => by simp only at e; omega) _).setCell (fun e => by simp only at e; omega) _).setCell (fun e => by simp only at e; omega) _).setCell (fun e => by simp only at e; omega) _).setCell (fun e => by simp only at e; omega) _
end Go.Proofs.YtfcpbpfemmdklaaGreat.Ax

/- The back map: numbers beyond all limits. -/
namespace Go.Proofs.YtfcpbpfemmdklaaGreat.Ax
open Go.RowKit
set_option linter.unusedVariables false

def AnyInt (w : World) (e : Ending) (w' : World) : Prop := ∃ r : Int, e = .returned (.int .i64 r) ∧ w' = w
def AnyTwo (w : World) (e : Ending) (w' : World) : Prop := ∃ r s : Int, e = .returned (.tuple #[.int .i64 r, .int .i64 s]) ∧ Keeps none' w w'
theorem down_wild (n : Int) (w : World) : Calls Tryz.prog 137 #[.int .i64 n] w (AnyInt w) := by
  go_enter Tryz.func137, Tryz.ntmps137
  go_wp2
  go_ret
  exact ⟨_, rfl, rfl⟩
theorem near_wild (n : Int) (w : World) : Calls Tryz.prog 113 #[.int .i64 n] w (AnyInt w) := by
  have C := Lib.hid (fun n => down_wild n w)
  go_enter Tryz.func113, Tryz.ntmps113
  go_wp2_with fail
  refine (C.out _).mono ?_
  rintro e w' ⟨r, rfl, rfl⟩
  go_wp2_with fail
  go_ret
  exact ⟨_, rfl, rfl⟩
set_option maxRecDepth 100000 in
set_option maxHeartbeats 800000 in
theorem slope_wild (m : Af.M) (x y : Int) (w : World) : Calls Tryz.prog 112 #[.agg #[.int .i64 m.a, .int .i64 m.b, .int .i64 m.c, .int .i64 m.d, .int .i64 m.e, .int .i64 m.f], .int .i64 x, .int .i64 y] w (AnyTwo w) := by
  have F0 := Six.new w 36 m
  have K0 := Lib.hid (keeps_alloc (w := w) (o := .cells #[.int .i64 m.a, .int .i64 m.b, .int .i64 m.c, .int .i64 m.d, .int .i64 m.e, .int .i64 m.f] 36) rfl)
  go_enter Tryz.func112, Tryz.ntmps112
  go_wp2_with fail
  generalize w.alloc (.cells #[.int .i64 m.a, .int .i64 m.b, .int .i64 m.c, .int .i64 m.d, .int .i64 m.e, .int .i64 m.f] 36) = w7 at *
  generalize w.heap.size = B at *
  have c0 := F0.c0
  have c1 := F0.c1
  have c2 := F0.c2
  have c3 := F0.c3
  clear F0
  go_quiet (fail)
  go_wp2_with fail
  go_ret2
  exact ⟨_, _, rfl, K0.out.drewN _⟩
end Go.Proofs.YtfcpbpfemmdklaaGreat.Ax

/- The back map. (printed by genH.py) -/
namespace Go.Proofs.YtfcpbpfemmdklaaGreat.Ax
open Go.RowKit
set_option linter.unusedVariables false

theorem Six.s45 {w : World} {B ty : Nat} {m : Af.M} (h : Six w B ty m) (p q : Int) : Six ((w.setCell ⟨B, 4, none⟩ (.int .i64 p)).setCell ⟨B, 5, none⟩ (.int .i64 q)) B ty ⟨m.a, m.b, m.c, m.d, p, q⟩ := by
  unfold Six at *
  simp [World.setCell, Array.getElem?_modify, h]
structure Duo (w : World) (A R : Nat) (m r : Af.M) (w' : World) : Prop where
  one : Six w' A 36 m
  res : Six w' R 36 r
  keeps : Keeps none' w w'
  low : w.heap.size ≤ R
theorem Duo.later {w w1 w2 : World} {A R : Nat} {m r : Af.M} (h : Duo w A R m r w1) (k : Keeps none' w1 w2) : Duo w A R m r w2 :=
  ⟨h.one.later k, h.res.later k, h.keeps.next k, h.low⟩
theorem Duo.new (w : World) (m r : Af.M) : Duo w w.heap.size (w.heap.size + 1) m r ((w.alloc (.cells #[.int .i64 m.a, .int .i64 m.b, .int .i64 m.c, .int .i64 m.d, .int .i64 m.e, .int .i64 m.f] 36)).alloc (.cells #[.int .i64 r.a, .int .i64 r.b, .int .i64 r.c, .int .i64 r.d, .int .i64 r.e, .int .i64 r.f] 36)) := by
  refine ⟨(Six.new _ _ _).alloc _, ?_, ((Keeps.refl _ _).alloc _).alloc _, by omega⟩
  have := Six.new (w.alloc (.cells #[.int .i64 m.a, .int .i64 m.b, .int .i64 m.c, .int .i64 m.d, .int .i64 m.e, .int .i64 m.f] 36)) 36 r
  simpa using this
theorem Duo.s45 {w w1 : World} {A R G : Nat} {m r : Af.M} (h : Duo w A R m r w1) (hA : A ≠ G) (hR : R ≠ G) (hw : w.heap.size ≤ G) (p q : Int) :
    Duo w A R m r ((w1.setCell ⟨G, 4, none⟩ (.int .i64 p)).setCell ⟨G, 5, none⟩ (.int .i64 q)) :=
  ⟨(h.one.set hA _).set hA _, (h.res.set hR _).set hR _, (h.keeps.setCell (fun e => by simp only at e; omega) _).setCell (fun e => by simp only at e; omega) _, h.low⟩
set_option maxRecDepth 100000 in
set_option maxHeartbeats 800000 in
theorem back_bad (m : Af.M) (hm : ¬ m.ok) (w : World) : Calls Tryz.prog 86 #[.agg #[.int .i64 m.a, .int .i64 m.b, .int .i64 m.c, .int .i64 m.d, .int .i64 m.e, .int .i64 m.f]] w (Told Af.zero 31 w) := by
  have T0 : Duo w w.heap.size (w.heap.size + 1) m Af.zero ((w.alloc (.cells #[.int .i64 m.a, .int .i64 m.b, .int .i64 m.c, .int .i64 m.d, .int .i64 m.e, .int .i64 m.f] 36)).alloc (.cells #[.int .i64 0, .int .i64 0, .int .i64 0, .int .i64 0, .int .i64 0, .int .i64 0] 36)) := Duo.new w m Af.zero
  have C := Lib.hid (fun w => right_no hm w)
  clear hm
  go_enter Tryz.func86, Tryz.ntmps86
  go_upto_region 1 with (fail)
  generalize (w.alloc (.cells #[.int .i64 m.a, .int .i64 m.b, .int .i64 m.c, .int .i64 m.d, .int .i64 m.e, .int .i64 m.f] 36)).alloc (.cells #[.int .i64 0, .int .i64 0, .int .i64 0, .int .i64 0, .int .i64 0, .int .i64 0] 36) = w1 at *
  obtain ⟨A, hA⟩ : ∃ A, A = w.heap.size := ⟨_, rfl⟩
  obtain ⟨R, hR⟩ : ∃ R, R = A + 1 := ⟨_, rfl⟩
  rw [← hA, ← hR] at T0
  rw [← hA, ← hR]
  clear hA hR
  have T := Lib.hid T0
  clear T0
  have c0 := T.out.one.c0
  have c1 := T.out.one.c1
  have c2 := T.out.one.c2
  have c3 := T.out.one.c3
  have c4 := T.out.one.c4
  have c5 := T.out.one.c5
  go_wp2_with fail
  refine (C.out _).mono ?_
  rintro e w2 ⟨rfl, hk⟩
  have T2 := Lib.hid (T.out.later hk)
  clear hk T c0 c1 c2 c3 c4 c5
  have k0 := T2.out.res.c0
  have k1 := T2.out.res.c1
  have k2 := T2.out.res.c2
  have k3 := T2.out.res.c3
  have k4 := T2.out.res.c4
  have k5 := T2.out.res.c5
  have f0 := T2.out.res.fr (i := 0)
  have f1 := T2.out.res.fr (i := 1)
  have f2 := T2.out.res.fr (i := 2)
  have f3 := T2.out.res.fr (i := 3)
  have f4 := T2.out.res.fr (i := 4)
  have f5 := T2.out.res.fr (i := 5)
  have X := Lib.hid (block_all T2.out.res Af.zero)
  have Y := Lib.hid (T2.out.keeps.all T2.out.low Af.zero)
  go_wp2_with fail
  refine bodyPost_ret (results_cell_row2 rfl _ _ R 36 #[.int .i64 0, .int .i64 0, .int .i64 0, .int .i64 0, .int .i64 0, .int .i64 0] (0, 0) _ rfl X.out Tryz.underlying36 rfl (by kernel_rfl)) rfl ?_
  exact ⟨rfl, Y.out⟩

/-- What its numbers are. -/
theorem area_parts {m : Af.M} (hm : m.ok) : (-281474976710656 ≤ m.a * m.d ∧ m.a * m.d ≤ 281474976710656) ∧ (-281474976710656 ≤ m.b * m.c ∧ m.b * m.c ≤ 281474976710656) := by
  obtain ⟨ha, hb, hc, hd, -⟩ := hm
  have h1 := Af.up_mul ha hd (by omega) (by omega)
  have h2 := Af.up_mul hb hc (by omega) (by omega)
  unfold Af.Up at *
  omega
set_option maxRecDepth 100000 in
set_option maxHeartbeats 800000 in
theorem back_flat (m : Af.M) (hm : m.ok) (hz : m.area = 0) (w : World) : Calls Tryz.prog 86 #[.agg #[.int .i64 m.a, .int .i64 m.b, .int .i64 m.c, .int .i64 m.d, .int .i64 m.e, .int .i64 m.f]] w (Told Af.zero 33 w) := by
  have T0 : Duo w w.heap.size (w.heap.size + 1) m Af.zero ((w.alloc (.cells #[.int .i64 m.a, .int .i64 m.b, .int .i64 m.c, .int .i64 m.d, .int .i64 m.e, .int .i64 m.f] 36)).alloc (.cells #[.int .i64 0, .int .i64 0, .int .i64 0, .int .i64 0, .int .i64 0, .int .i64 0] 36)) := Duo.new w m Af.zero
  have C := Lib.hid (fun w => right_yes hm w)
  obtain ⟨⟨a0, a1⟩, b0, b1⟩ := area_parts hm
  have z1 := wrap_i64 (m.a * m.d) (by omega) (by omega)
  have z2 := wrap_i64 (m.b * m.c) (by omega) (by omega)
  have z3 : IntKind.i64.wrap (m.a * m.d - m.b * m.c) = 0 := by rw [show m.a * m.d - m.b * m.c = 0 from hz]; rfl
  clear hm hz a0 a1 b0 b1
  go_enter Tryz.func86, Tryz.ntmps86
  go_upto_region 1 with (fail)
  generalize (w.alloc (.cells #[.int .i64 m.a, .int .i64 m.b, .int .i64 m.c, .int .i64 m.d, .int .i64 m.e, .int .i64 m.f] 36)).alloc (.cells #[.int .i64 0, .int .i64 0, .int .i64 0, .int .i64 0, .int .i64 0, .int .i64 0] 36) = w1 at *
  obtain ⟨A, hA⟩ : ∃ A, A = w.heap.size := ⟨_, rfl⟩
  obtain ⟨R, hR⟩ : ∃ R, R = A + 1 := ⟨_, rfl⟩
  rw [← hA, ← hR] at T0
  rw [← hA, ← hR]
  clear hA hR
  have T := Lib.hid T0
  clear T0
  have c0 := T.out.one.c0
  have c1 := T.out.one.c1
  have c2 := T.out.one.c2
  have c3 := T.out.one.c3
  have c4 := T.out.one.c4
  have c5 := T.out.one.c5
  go_wp2_with fail
  refine (C.out _).mono ?_
  rintro e w2 ⟨rfl, hk⟩
  have T2 := Lib.hid (T.out.later hk)
  clear hk T c0 c1 c2 c3 c4 c5
  have c0 := T2.out.one.c0
  have c1 := T2.out.one.c1
  have c2 := T2.out.one.c2
  have c3 := T2.out.one.c3
  have c4 := T2.out.one.c4
  have c5 := T2.out.one.c5
  have k0 := T2.out.res.c0
  have k1 := T2.out.res.c1
  have k2 := T2.out.res.c2
  have k3 := T2.out.res.c3
  have k4 := T2.out.res.c4
  have k5 := T2.out.res.c5
  have f0 := T2.out.res.fr (i := 0)
  have f1 := T2.out.res.fr (i := 1)
  have f2 := T2.out.res.fr (i := 2)
  have f3 := T2.out.res.fr (i := 3)
  have f4 := T2.out.res.fr (i := 4)
  have f5 := T2.out.res.fr (i := 5)
  have X := Lib.hid (block_all T2.out.res Af.zero)
  have Y := Lib.hid (T2.out.keeps.all T2.out.low Af.zero)
  go_wp2_with fail
  refine bodyPost_ret (results_cell_row2 rfl _ _ R 36 #[.int .i64 0, .int .i64 0, .int .i64 0, .int .i64 0, .int .i64 0, .int .i64 0] (0, 0) _ rfl X.out Tryz.underlying36 rfl (by kernel_rfl)) rfl ?_
  exact ⟨rfl, Y.out⟩

set_option maxRecDepth 100000 in
set_option maxHeartbeats 3200000 in
theorem back_wild (m : Af.M) (hm : m.ok) (hz : m.area ≠ 0) (hb : ¬ m.back4.ok) (w : World) : Calls Tryz.prog 86 #[.agg #[.int .i64 m.a, .int .i64 m.b, .int .i64 m.c, .int .i64 m.d, .int .i64 m.e, .int .i64 m.f]] w (Told Af.zero 33 w) := by
  have T0 : Duo w w.heap.size (w.heap.size + 1) m Af.zero ((w.alloc (.cells #[.int .i64 m.a, .int .i64 m.b, .int .i64 m.c, .int .i64 m.d, .int .i64 m.e, .int .i64 m.f] 36)).alloc (.cells #[.int .i64 0, .int .i64 0, .int .i64 0, .int .i64 0, .int .i64 0, .int .i64 0] 36)) := Duo.new w m Af.zero
  have C := Lib.hid (fun w => right_yes hm w)
  have au := Af.area_up hm
  obtain ⟨⟨a0, a1⟩, b0, b1⟩ := area_parts hm
  have z1 := wrap_i64 (m.a * m.d) (by omega) (by omega)
  have z2 := wrap_i64 (m.b * m.c) (by omega) (by omega)
  have z3 : IntKind.i64.wrap (m.a * m.d - m.b * m.c) = m.area := wrap_i64 (m.a * m.d - m.b * m.c) (by omega) (by omega)
  have z4 : (m.area == 0) = false := by simpa using hz
  obtain ⟨⟨ma0, ma1⟩, ⟨mb0, mb1⟩, ⟨mc0, mc1⟩, ⟨md0, md1⟩, -⟩ := hm
  have N1 := Lib.hid (fun w => share_any m.d m.area ⟨by omega, by omega⟩ au hz w)
  have N2 := Lib.hid (fun w => share_any (-m.b) m.area ⟨by omega, by omega⟩ au hz w)
  have N3 := Lib.hid (fun w => share_any (-m.c) m.area ⟨by omega, by omega⟩ au hz w)
  have N4 := Lib.hid (fun w => share_any m.a m.area ⟨by omega, by omega⟩ au hz w)
  have v1 := wrap_i64 (-m.b) (by omega) (by omega)
  have v2 := wrap_i64 (-m.c) (by omega) (by omega)
  have HB : m.back4 = ⟨Af.round (m.d * 4294967296) m.area, Af.round (-m.b * 4294967296) m.area, Af.round (-m.c * 4294967296) m.area, Af.round (m.a * 4294967296) m.area, 0, 0⟩ := rfl
  have HW := Lib.hid (fun p q => show ¬ Af.M.ok ⟨m.back4.a, m.back4.b, m.back4.c, m.back4.d, p, q⟩ from fun h => hb ⟨h.1, h.2.1, h.2.2.1, h.2.2.2.1, (show Af.Up 0 68719476736 by decide), (show Af.Up 0 68719476736 by decide)⟩)
  clear hb
  rw [HB] at HW
  clear HB
  simp only at HW
  generalize m.area = D at *
  generalize Af.round (m.d * 4294967296) D = r1 at *
  generalize Af.round (-m.b * 4294967296) D = r2 at *
  generalize Af.round (-m.c * 4294967296) D = r3 at *
  generalize Af.round (m.a * 4294967296) D = r4 at *
  clear au hz a0 a1 b0 b1 ma0 ma1 mb0 mb1 mc0 mc1 md0 md1
  go_enter Tryz.func86, Tryz.ntmps86
  go_upto_region 1 with (fail)
  generalize (w.alloc (.cells #[.int .i64 m.a, .int .i64 m.b, .int .i64 m.c, .int .i64 m.d, .int .i64 m.e, .int .i64 m.f] 36)).alloc (.cells #[.int .i64 0, .int .i64 0, .int .i64 0, .int .i64 0, .int .i64 0, .int .i64 0] 36) = w1 at *
  obtain ⟨A, hA⟩ : ∃ A, A = w.heap.size := ⟨_, rfl⟩
  obtain ⟨R, hR⟩ : ∃ R, R = A + 1 := ⟨_, rfl⟩
  rw [← hA, ← hR] at T0
  rw [← hA, ← hR]
  clear hA hR
  have T := Lib.hid T0
  clear T0
  have c0 := T.out.one.c0
  have c1 := T.out.one.c1
  have c2 := T.out.one.c2
  have c3 := T.out.one.c3
  have c4 := T.out.one.c4
  have c5 := T.out.one.c5
  go_wp2_with fail
  refine (C.out _).mono ?_
  rintro e w2 ⟨rfl, hk⟩
  have T2 := Lib.hid (T.out.later hk)
  clear hk T c0 c1 c2 c3 c4 c5
  have c0 := T2.out.one.c0
  have c1 := T2.out.one.c1
  have c2 := T2.out.one.c2
  have c3 := T2.out.one.c3
  have c4 := T2.out.one.c4
  have c5 := T2.out.one.c5
  go_upto_region 6 with (fail)
  clear z1 z2 z3 z4 C
  go_region_held3 (fun w' => w'.cell? ⟨A, 0, none⟩ = some (.int .i64 m.a) ∧ w'.cell? ⟨A, 1, none⟩ = some (.int .i64 m.b) ∧ w'.cell? ⟨A, 2, none⟩ = some (.int .i64 m.c) ∧ w'.cell? ⟨A, 3, none⟩ = some (.int .i64 m.d)) (go_keep)
    (first
    | (go_at_call 111; with_reducible refine (N1.out _).mono ?_; rintro e w' ⟨rfl, rfl⟩)
    | (go_at_call 111; with_reducible refine (N2.out _).mono ?_; rintro e w' ⟨rfl, rfl⟩)
    | (go_at_call 111; with_reducible refine (N3.out _).mono ?_; rintro e w' ⟨rfl, rfl⟩)
    | (go_at_call 111; with_reducible refine (N4.out _).mono ?_; rintro e w' ⟨rfl, rfl⟩))
  all_goals
    have X := Lib.hid (show Duo w A R m Af.zero (w2.alloc (.cells #[.int .i64 r1, .int .i64 r2, .int .i64 r3, .int .i64 r4, .int .i64 0, .int .i64 0] 36)).drew from
      ⟨T2.out.one.alloc _, T2.out.res.alloc _, (T2.out.keeps.alloc _).drew, T2.out.low⟩)
    have Y := Lib.hid (show Six (w2.alloc (.cells #[.int .i64 r1, .int .i64 r2, .int .i64 r3, .int .i64 r4, .int .i64 0, .int .i64 0] 36)).drew w2.heap.size 36 ⟨r1, r2, r3, r4, 0, 0⟩ from Six.new w2 36 ⟨r1, r2, r3, r4, 0, 0⟩)
    have LW := Lib.hid (show w.heap.size ≤ w2.heap.size from T2.out.keeps.size)
    have HAS := Lib.hid (show A < w2.heap.size from T2.out.one.lt)
    have HRS := Lib.hid (show R < w2.heap.size from T2.out.res.lt)
    rename_i hH
    clear T2 N1 N2 N3 N4 v1 v2 hH c0 c1 c2 c3 c4 c5
    generalize (w2.alloc (.cells #[.int .i64 r1, .int .i64 r2, .int .i64 r3, .int .i64 r4, .int .i64 0, .int .i64 0] 36)).drew = w7 at *
    generalize w2.heap.size = G at *
    have d0 := X.out.one.c0
    have d1 := X.out.one.c1
    have d2 := X.out.one.c2
    have d3 := X.out.one.c3
    have d4 := X.out.one.c4
    have d5 := X.out.one.c5
    have c0 := Y.out.c0
    have c1 := Y.out.c1
    have c2 := Y.out.c2
    have c3 := Y.out.c3
    have c4 := Y.out.c4
    have c5 := Y.out.c5
    go_wp2_with fail
    refine (slope_wild ⟨r1, r2, r3, r4, 0, 0⟩ m.e m.f _).mono ?_
    rintro e w8 ⟨u, v, rfl, hk⟩
    have X2 := Lib.hid (X.out.later hk)
    have Y2 := Lib.hid (Y.out.later hk)
    clear hk X Y c0 c1 c2 c3 c4 c5 d0 d1 d2 d3 d4 d5
    have c0 := Y2.out.c0
    have c1 := Y2.out.c1
    have c2 := Y2.out.c2
    have c3 := Y2.out.c3
    have c4 := Y2.out.c4
    have c5 := Y2.out.c5
    have e4 := Y2.out.fr (i := 4)
    have e5 := Y2.out.fr (i := 5)
    go_wp2_with fail
    refine (near_wild _ _).mono ?_
    rintro e w8 ⟨p, rfl, rfl⟩
    go_wp2_with fail
    refine (near_wild _ _).mono ?_
    rintro e w8 ⟨q, rfl, rfl⟩
    have X3 := Lib.hid (X2.out.s45 (G := G) (by have := HAS.out; omega) (by have := HRS.out; omega) LW.out p q)
    have Y3 := Lib.hid (Y2.out.s45 p q)
    go_upto_region 9 with (fail)
    clear X2 Y2 c0 c1 c2 c3 c4 c5 e4 e5
    generalize (w8.setCell ⟨G, 4, none⟩ (.int .i64 p)).setCell ⟨G, 5, none⟩ (.int .i64 q) = wa at *

    have c0 := Y3.out.c0
    have c1 := Y3.out.c1
    have c2 := Y3.out.c2
    have c3 := Y3.out.c3
    have c4 := Y3.out.c4
    have c5 := Y3.out.c5
    have RN := Lib.hid (fun w => right_no (HW.out p q) w)
    clear HW
    go_wp2_with fail
    refine (RN.out _).mono ?_
    rintro e wb ⟨rfl, hk⟩
    have X4 := Lib.hid (X3.out.later hk)
    clear hk X3 Y3 c0 c1 c2 c3 c4 c5
    have k0 := X4.out.res.c0
    have k1 := X4.out.res.c1
    have k2 := X4.out.res.c2
    have k3 := X4.out.res.c3
    have k4 := X4.out.res.c4
    have k5 := X4.out.res.c5
    have f0 := X4.out.res.fr (i := 0)
    have f1 := X4.out.res.fr (i := 1)
    have f2 := X4.out.res.fr (i := 2)
    have f3 := X4.out.res.fr (i := 3)
    have f4 := X4.out.res.fr (i := 4)
    have f5 := X4.out.res.fr (i := 5)
    have X := Lib.hid (block_all X4.out.res Af.zero)
    have Y := Lib.hid (X4.out.keeps.all X4.out.low Af.zero)
    go_wp2_with fail
    refine bodyPost_ret (results_cell_row2 rfl _ _ R 36 #[.int .i64 0, .int .i64 0, .int .i64 0, .int .i64 0, .int .i64 0, .int .i64 0] (0, 0) _ rfl X.out Tryz.underlying36 rfl (by kernel_rfl)) rfl ?_
    exact ⟨rfl, Y.out⟩
end Go.Proofs.YtfcpbpfemmdklaaGreat.Ax

/- The product of two maps. -/
namespace Go.Proofs.YtfcpbpfemmdklaaGreat.Ax
open Go.RowKit
set_option linter.unusedVariables false

end Go.Proofs.YtfcpbpfemmdklaaGreat.Ax

/- The back map: where its slopes are right. (printed by genH.py) -/
namespace Go.Proofs.YtfcpbpfemmdklaaGreat.Ax
open Go.RowKit
set_option linter.unusedVariables false

set_option maxRecDepth 100000 in
set_option maxHeartbeats 3200000 in
theorem back_good (m : Af.M) (hm : m.ok) (hz : m.area ≠ 0) (hb : m.back4.ok) (w : World) : Calls Tryz.prog 86 #[.agg #[.int .i64 m.a, .int .i64 m.b, .int .i64 m.c, .int .i64 m.d, .int .i64 m.e, .int .i64 m.f]] w (Told (Af.backE m).1 (Af.backE m).2 w) := by
  have T0 : Duo w w.heap.size (w.heap.size + 1) m Af.zero ((w.alloc (.cells #[.int .i64 m.a, .int .i64 m.b, .int .i64 m.c, .int .i64 m.d, .int .i64 m.e, .int .i64 m.f] 36)).alloc (.cells #[.int .i64 0, .int .i64 0, .int .i64 0, .int .i64 0, .int .i64 0, .int .i64 0] 36)) := Duo.new w m Af.zero
  have C := Lib.hid (fun w => right_yes hm w)
  have au := Af.area_up hm
  obtain ⟨⟨a0, a1⟩, b0, b1⟩ := area_parts hm
  have z1 := wrap_i64 (m.a * m.d) (by omega) (by omega)
  have z2 := wrap_i64 (m.b * m.c) (by omega) (by omega)
  have z3 : IntKind.i64.wrap (m.a * m.d - m.b * m.c) = m.area := wrap_i64 (m.a * m.d - m.b * m.c) (by omega) (by omega)
  have z4 : (m.area == 0) = false := by simpa using hz
  have HT := Lib.hid (show Af.backE m = if m.back.ok then (m.back, 0) else (Af.zero, 33) by unfold Af.backE; simp [hm, hz])
  have SH := hm.2.2.2.2
  obtain ⟨⟨ma0, ma1⟩, ⟨mb0, mb1⟩, ⟨mc0, mc1⟩, ⟨md0, md1⟩, -⟩ := hm
  have N1 := Lib.hid (fun w => share_any m.d m.area ⟨by omega, by omega⟩ au hz w)
  have N2 := Lib.hid (fun w => share_any (-m.b) m.area ⟨by omega, by omega⟩ au hz w)
  have N3 := Lib.hid (fun w => share_any (-m.c) m.area ⟨by omega, by omega⟩ au hz w)
  have N4 := Lib.hid (fun w => share_any m.a m.area ⟨by omega, by omega⟩ au hz w)
  have v1 := wrap_i64 (-m.b) (by omega) (by omega)
  have v2 := wrap_i64 (-m.c) (by omega) (by omega)
  have HB : m.back4 = ⟨Af.round (m.d * 4294967296) m.area, Af.round (-m.b * 4294967296) m.area, Af.round (-m.c * 4294967296) m.area, Af.round (m.a * 4294967296) m.area, 0, 0⟩ := rfl
  have su := Af.slope_up hb (show Af.Up m.e 68719476736 from SH.1) (show Af.Up m.f 68719476736 from SH.2) (by omega)
  have SL := Lib.hid (fun w => slope_any m.back4 m.e m.f 68719476736 hb SH.1 SH.2 (by omega) (by omega) w)
  have HK : m.back = ⟨m.back4.a, m.back4.b, m.back4.c, m.back4.d, Af.near (-(Af.slopeU m.back4 m.e m.f)), Af.near (-(Af.slopeV m.back4 m.e m.f))⟩ := rfl
  rw [HK] at HT
  clear HK
  generalize Af.slopeU m.back4 m.e m.f = u at *
  generalize Af.slopeV m.back4 m.e m.f = v at *
  obtain ⟨⟨u0, u1⟩, v0, v1'⟩ := su
  have NU := Lib.hid (fun w => near_any (-u) (by unfold Up2; omega) w)
  have NV := Lib.hid (fun w => near_any (-v) (by unfold Up2; omega) w)
  have v3 := wrap_i64 (-u) (by omega) (by omega)
  have v4 := wrap_i64 (-v) (by omega) (by omega)
  generalize Af.backE m = Z at *
  rw [HB] at HT SL
  simp only at HT SL
  clear hb SH u0 u1 v0 v1' HB
  generalize m.area = D at *
  generalize Af.round (m.d * 4294967296) D = r1 at *
  generalize Af.round (-m.b * 4294967296) D = r2 at *
  generalize Af.round (-m.c * 4294967296) D = r3 at *
  generalize Af.round (m.a * 4294967296) D = r4 at *
  clear au hz a0 a1 b0 b1 ma0 ma1 mb0 mb1 mc0 mc1 md0 md1
  go_enter Tryz.func86, Tryz.ntmps86
  go_upto_region 1 with (fail)
  generalize (w.alloc (.cells #[.int .i64 m.a, .int .i64 m.b, .int .i64 m.c, .int .i64 m.d, .int .i64 m.e, .int .i64 m.f] 36)).alloc (.cells #[.int .i64 0, .int .i64 0, .int .i64 0, .int .i64 0, .int .i64 0, .int .i64 0] 36) = w1 at *
  obtain ⟨A, hA⟩ : ∃ A, A = w.heap.size := ⟨_, rfl⟩
  obtain ⟨R, hR⟩ : ∃ R, R = A + 1 := ⟨_, rfl⟩
  rw [← hA, ← hR] at T0
  rw [← hA, ← hR]
  clear hA hR
  have T := Lib.hid T0
  clear T0
  have c0 := T.out.one.c0
  have c1 := T.out.one.c1
  have c2 := T.out.one.c2
  have c3 := T.out.one.c3
  have c4 := T.out.one.c4
  have c5 := T.out.one.c5
  go_wp2_with fail
  refine (C.out _).mono ?_
  rintro e w2 ⟨rfl, hk⟩
  have T2 := Lib.hid (T.out.later hk)
  clear hk T c0 c1 c2 c3 c4 c5
  have c0 := T2.out.one.c0
  have c1 := T2.out.one.c1
  have c2 := T2.out.one.c2
  have c3 := T2.out.one.c3
  have c4 := T2.out.one.c4
  have c5 := T2.out.one.c5
  go_upto_region 6 with (fail)
  clear z1 z2 z3 z4 C
  go_region_held3 (fun w' => w'.cell? ⟨A, 0, none⟩ = some (.int .i64 m.a) ∧ w'.cell? ⟨A, 1, none⟩ = some (.int .i64 m.b) ∧ w'.cell? ⟨A, 2, none⟩ = some (.int .i64 m.c) ∧ w'.cell? ⟨A, 3, none⟩ = some (.int .i64 m.d)) (go_keep)
    (first
    | (go_at_call 111; with_reducible refine (N1.out _).mono ?_; rintro e w' ⟨rfl, rfl⟩)
    | (go_at_call 111; with_reducible refine (N2.out _).mono ?_; rintro e w' ⟨rfl, rfl⟩)
    | (go_at_call 111; with_reducible refine (N3.out _).mono ?_; rintro e w' ⟨rfl, rfl⟩)
    | (go_at_call 111; with_reducible refine (N4.out _).mono ?_; rintro e w' ⟨rfl, rfl⟩))
  all_goals
    have X := Lib.hid (show Duo w A R m Af.zero (w2.alloc (.cells #[.int .i64 r1, .int .i64 r2, .int .i64 r3, .int .i64 r4, .int .i64 0, .int .i64 0] 36)).drew from
      ⟨T2.out.one.alloc _, T2.out.res.alloc _, (T2.out.keeps.alloc _).drew, T2.out.low⟩)
    have Y := Lib.hid (show Six (w2.alloc (.cells #[.int .i64 r1, .int .i64 r2, .int .i64 r3, .int .i64 r4, .int .i64 0, .int .i64 0] 36)).drew w2.heap.size 36 ⟨r1, r2, r3, r4, 0, 0⟩ from Six.new w2 36 ⟨r1, r2, r3, r4, 0, 0⟩)
    have LW := Lib.hid (show w.heap.size ≤ w2.heap.size from T2.out.keeps.size)
    have HAS := Lib.hid (show A < w2.heap.size from T2.out.one.lt)
    have HRS := Lib.hid (show R < w2.heap.size from T2.out.res.lt)
    rename_i hH
    clear T2 N1 N2 N3 N4 v1 v2 hH c0 c1 c2 c3 c4 c5
    generalize (w2.alloc (.cells #[.int .i64 r1, .int .i64 r2, .int .i64 r3, .int .i64 r4, .int .i64 0, .int .i64 0] 36)).drew = w7 at *
    generalize w2.heap.size = G at *
    have d0 := X.out.one.c0
    have d1 := X.out.one.c1
    have d2 := X.out.one.c2
    have d3 := X.out.one.c3
    have d4 := X.out.one.c4
    have d5 := X.out.one.c5
    have c0 := Y.out.c0
    have c1 := Y.out.c1
    have c2 := Y.out.c2
    have c3 := Y.out.c3
    have c4 := Y.out.c4
    have c5 := Y.out.c5
    go_wp2_with fail
    refine (SL.out _).mono ?_
    rintro e w8 ⟨rfl, hk⟩
    have X2 := Lib.hid (X.out.later hk)
    have Y2 := Lib.hid (Y.out.later hk)
    clear hk X Y c0 c1 c2 c3 c4 c5 d0 d1 d2 d3 d4 d5
    have c0 := Y2.out.c0
    have c1 := Y2.out.c1
    have c2 := Y2.out.c2
    have c3 := Y2.out.c3
    have c4 := Y2.out.c4
    have c5 := Y2.out.c5
    have e4 := Y2.out.fr (i := 4)
    have e5 := Y2.out.fr (i := 5)
    go_wp2_with fail
    refine (NU.out _).mono ?_
    rintro e w8 ⟨rfl, rfl⟩
    go_wp2_with fail
    refine (NV.out _).mono ?_
    rintro e w8 ⟨rfl, rfl⟩
    clear NU NV v3 v4
    generalize Af.near (-u) = p at *
    generalize Af.near (-v) = q at *
    have X3 := Lib.hid (X2.out.s45 (G := G) (by have := HAS.out; omega) (by have := HRS.out; omega) LW.out p q)
    have Y3 := Lib.hid (Y2.out.s45 p q)
    go_upto_region 9 with (fail)
    clear X2 Y2 c0 c1 c2 c3 c4 c5 e4 e5
    generalize (w8.setCell ⟨G, 4, none⟩ (.int .i64 p)).setCell ⟨G, 5, none⟩ (.int .i64 q) = wa at *

    by_cases hP : Af.M.ok ⟨r1, r2, r3, r4, p, q⟩
    · have RN := Lib.hid (fun w => right_yes hP w)
      have HZ := Lib.hid (show Z = (⟨r1, r2, r3, r4, p, q⟩, 0) from HT.out.trans (if_pos hP))
      clear hP HT
      have c0 := Y3.out.c0
      have c1 := Y3.out.c1
      have c2 := Y3.out.c2
      have c3 := Y3.out.c3
      have c4 := Y3.out.c4
      have c5 := Y3.out.c5
      go_wp2_with fail
      refine (RN.out _).mono ?_
      rintro e wb ⟨rfl, hk⟩
      have X4 := Lib.hid (X3.out.later hk)
      have Y4 := Lib.hid (Y3.out.later hk)
      clear hk X3 Y3 c0 c1 c2 c3 c4 c5
      have c0 := Y4.out.c0
      have c1 := Y4.out.c1
      have c2 := Y4.out.c2
      have c3 := Y4.out.c3
      have c4 := Y4.out.c4
      have c5 := Y4.out.c5
      have k0 := X4.out.res.c0
      have k1 := X4.out.res.c1
      have k2 := X4.out.res.c2
      have k3 := X4.out.res.c3
      have k4 := X4.out.res.c4
      have k5 := X4.out.res.c5
      have f0 := X4.out.res.fr (i := 0)
      have f1 := X4.out.res.fr (i := 1)
      have f2 := X4.out.res.fr (i := 2)
      have f3 := X4.out.res.fr (i := 3)
      have f4 := X4.out.res.fr (i := 4)
      have f5 := X4.out.res.fr (i := 5)
      have X := Lib.hid (block_all X4.out.res ⟨r1, r2, r3, r4, p, q⟩)
      have Y := Lib.hid (X4.out.keeps.all X4.out.low ⟨r1, r2, r3, r4, p, q⟩)
      go_wp2_with fail
      refine bodyPost_ret (results_cell_row2 rfl _ _ R 36 #[.int .i64 r1, .int .i64 r2, .int .i64 r3, .int .i64 r4, .int .i64 p, .int .i64 q] (0, 0) _ rfl X.out Tryz.underlying36 rfl (by kernel_rfl)) rfl ?_
      exact ⟨by rw [HZ.out]; rfl, Y.out⟩
    · have RN := Lib.hid (fun w => right_no hP w)
      have HZ := Lib.hid (show Z = (Af.zero, 33) from HT.out.trans (if_neg hP))
      clear hP HT
      have c0 := Y3.out.c0
      have c1 := Y3.out.c1
      have c2 := Y3.out.c2
      have c3 := Y3.out.c3
      have c4 := Y3.out.c4
      have c5 := Y3.out.c5
      go_wp2_with fail
      refine (RN.out _).mono ?_
      rintro e wb ⟨rfl, hk⟩
      have X4 := Lib.hid (X3.out.later hk)
      clear hk X3 Y3 c0 c1 c2 c3 c4 c5
      have k0 := X4.out.res.c0
      have k1 := X4.out.res.c1
      have k2 := X4.out.res.c2
      have k3 := X4.out.res.c3
      have k4 := X4.out.res.c4
      have k5 := X4.out.res.c5
      have f0 := X4.out.res.fr (i := 0)
      have f1 := X4.out.res.fr (i := 1)
      have f2 := X4.out.res.fr (i := 2)
      have f3 := X4.out.res.fr (i := 3)
      have f4 := X4.out.res.fr (i := 4)
      have f5 := X4.out.res.fr (i := 5)
      have X := Lib.hid (block_all X4.out.res Af.zero)
      have Y := Lib.hid (X4.out.keeps.all X4.out.low Af.zero)
      go_wp2_with fail
      refine bodyPost_ret (results_cell_row2 rfl _ _ R 36 #[.int .i64 0, .int .i64 0, .int .i64 0, .int .i64 0, .int .i64 0, .int .i64 0] (0, 0) _ rfl X.out Tryz.underlying36 rfl (by kernel_rfl)) rfl ?_
      exact ⟨by rw [HZ.out]; rfl, Y.out⟩

theorem back_any (m : Af.M) (w : World) : Calls Tryz.prog 86 #[.agg #[.int .i64 m.a, .int .i64 m.b, .int .i64 m.c, .int .i64 m.d, .int .i64 m.e, .int .i64 m.f]] w (Told (Af.backE m).1 (Af.backE m).2 w) := by
  by_cases hm : m.ok
  · by_cases hz : m.area = 0
    · rw [show Af.backE m = (Af.zero, 33) by unfold Af.backE; simp [hz, hm]]
      exact back_flat m hm hz w
    · by_cases hb : m.back4.ok
      · exact back_good m hm hz hb w
      · have hk : ¬ m.back.ok := fun h => hb ⟨h.1, h.2.1, h.2.2.1, h.2.2.2.1, (show Af.Up 0 68719476736 by decide), (show Af.Up 0 68719476736 by decide)⟩
        rw [show Af.backE m = (Af.zero, 33) by unfold Af.backE; simp [hk, hm]]
        exact back_wild m hm hz hb w
  · rw [show Af.backE m = (Af.zero, 31) by unfold Af.backE; simp [hm]]
    exact back_bad m hm w
end Go.Proofs.YtfcpbpfemmdklaaGreat.Ax
