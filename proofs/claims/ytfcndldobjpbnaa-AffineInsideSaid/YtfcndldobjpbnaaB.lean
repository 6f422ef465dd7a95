/- Contracts of the small functions of maps: numbers alone. -/
import Derived.Test.YtfcndldobjpbnaaA
import Derived.Test.YtfcndldobjpbnaaProg
import Derived.WalkKit
import Derived.WalkLawsBesides
import Derived.OneCell
import Derived.Outline
import Derived.Lib.Hide
import Derived.StillTailTactics
import Derived.BigQuiet
import Derived.BigRegion
import Derived.LoopTactic
import Derived.RegionTactic
import Derived.Deep.DeepMust
import Derived.Deep.QuietTactic
import Derived.Deep.LoopGhost
import Derived.Deep.OwnRows
import Derived.Deep.RegionHeld3
import Derived.Deep.RegionLaw
import Derived.Deep.Cut
import Derived.Laws.BitsAllLaws
namespace Go.Proofs.Ytfcndldobjpbnaa
open Go.RowKit
set_option linter.unusedVariables false

theorem wrap_i64 (n : Int) (h0 : -9223372036854775808 ≤ n) (h1 : n ≤ 9223372036854775807) : IntKind.i64.wrap n = n := by
  simp [IntKind.wrap, IntKind.bits, IntKind.signed]
  omega
theorem i64_mask8 (x : Int) : bits .and .i64 x 255 = x % 256 := by
  show IntKind.i64.wrap ((BitVec.ofInt 64 x &&& BitVec.ofInt 64 255).toNat : Int) = _
  rw [BitVec.toNat_and, BitVec.toNat_ofInt]
  have h : ((BitVec.ofInt 64 255).toNat) = 2 ^ 8 - 1 := by decide
  rw [h, Nat.and_two_pow_sub_one_eq_mod]
  rw [wrap_i64 _ (by omega) (by omega)]
  omega
def Up' (n : Int) : Prop := -3458764513820540928 ≤ n ∧ n ≤ 3458764513820540928
/-- Some room is left to add. -/
def Up2 (n : Int) : Prop := -3458764513820000000 ≤ n ∧ n ≤ 3458764513820000000
def Int62 (n : Int) : Prop := -4611686018427387904 ≤ n ∧ n ≤ 4611686018427387904

theorem down_any (n : Int) (hn : Int62 n) (w : World) : Calls Try.prog 38 #[.int .i64 n] w fun e w' => e = .returned (.int .i64 (n / 65536)) ∧ w' = w := by
  obtain ⟨h0, h1⟩ := hn
  go_enter Try.func38, Try.ntmps38
  go_wp2
  go_ret
  exact ⟨rfl, rfl⟩
theorem weight_any (n : Int) (hn : Int62 n) (w : World) : Calls Try.prog 46 #[.int .i64 n] w fun e w' => e = .returned (.int .i64 (n / 256 % 256)) ∧ w' = w := by
  obtain ⟨h0, h1⟩ := hn
  have hm := i64_mask8 (n / 256)
  go_enter Try.func46, Try.ntmps46
  go_wp2
  go_ret
  exact ⟨rfl, rfl⟩
theorem near_any (n : Int) (hn : Up2 n) (w : World) : Calls Try.prog 31 #[.int .i64 n] w fun e w' => e = .returned (.int .i64 (Af.near n)) ∧ w' = w := by
  have C := Lib.hid (down_any (n + 32768) (by unfold Up2 at hn; unfold Int62; omega) w)
  obtain ⟨h0, h1⟩ := hn
  go_enter Try.func31, Try.ntmps31
  go_wp2_with fail
  refine C.out.mono ?_
  rintro e w' ⟨rfl, rfl⟩
  go_wp2_with fail
  go_ret
  exact ⟨rfl, rfl⟩
theorem up_any (n : Int) (hn : Up' n) (w : World) : Calls Try.prog 39 #[.int .i64 n] w fun e w' => e = .returned (.int .i64 (-(-n / 65536))) ∧ w' = w := by
  have C := Lib.hid (down_any (n + 65536 - 1) (by unfold Up' at hn; unfold Int62; omega) w)
  have E := Lib.hid (show (n + 65536 - 1) / 65536 = -(-n / 65536) by omega)
  obtain ⟨h0, h1⟩ := hn
  go_enter Try.func39, Try.ntmps39
  go_wp2_with fail
  refine C.out.mono ?_
  rintro e w' ⟨rfl, rfl⟩
  rw [E.out]
  go_wp2_with fail
  go_ret
  exact ⟨rfl, rfl⟩
theorem dec_up (n far : Int) : decide (Af.Up n far) = (decide (-far ≤ n) && decide (n ≤ far)) := by
  by_cases h0 : -far ≤ n <;> by_cases h1 : n ≤ far <;> simp [Af.Up, h0, h1]
theorem isUp_any (n far : Int) (f0 : 0 ≤ far) (f1 : far ≤ 1099511627776) (w : World) : Calls Try.prog 33 #[.int .i64 n, .int .i64 far] w fun e w' => e = .returned (.bool (decide (Af.Up n far))) ∧ w' = w := by
  rw [dec_up]
  by_cases h0 : -far ≤ n
  · have t : decide (-far ≤ n) = true := by simpa using h0
    rw [t, Bool.true_and]
    generalize hb : decide (n ≤ far) = b
    go_enter Try.func33, Try.ntmps33
    go_wp2_with fail
    go_ret
    exact ⟨rfl, rfl⟩
  · have t : decide (-far ≤ n) = false := by simpa using h0
    rw [t, Bool.false_and]
    go_enter Try.func33, Try.ntmps33
    go_wp2_with fail
    go_ret
    exact ⟨rfl, rfl⟩
def Side (n : Int) : Prop := 0 ≤ n ∧ n ≤ 32768
instance (n : Int) : Decidable (Side n) := inferInstanceAs (Decidable (_ ∧ _))
theorem dec_side (n : Int) : decide (Side n) = (decide (0 ≤ n) && decide (n ≤ 32768)) := by
  by_cases h0 : 0 ≤ n <;> by_cases h1 : n ≤ 32768 <;> simp [Side, h0, h1]
theorem side_any (n : Int) (w : World) : Calls Try.prog 36 #[.int .i64 n] w fun e w' => e = .returned (.bool (decide (Side n))) ∧ w' = w := by
  rw [dec_side]
  by_cases h0 : 0 ≤ n
  · have t : decide (0 ≤ n) = true := by simpa using h0
    rw [t, Bool.true_and]
    generalize hb : decide (n ≤ 32768) = b
    go_enter Try.func36, Try.ntmps36
    go_wp2_with fail
    go_ret
    exact ⟨rfl, rfl⟩
  · have t : decide (0 ≤ n) = false := by simpa using h0
    rw [t, Bool.false_and]
    go_enter Try.func36, Try.ntmps36
    go_wp2_with fail
    go_ret
    exact ⟨rfl, rfl⟩
theorem floor_any (n m : Int) (hn : Up' n) (m0 : 0 < m) (m1 : m ≤ 2305843009213693952) (w : World) : Calls Try.prog 45 #[.int .i64 n, .int .i64 m] w fun e w' => e = .returned (.int .i64 (n / m)) ∧ w' = w := by
  obtain ⟨n0, n1⟩ := hn
  have z : ¬ m = 0 := by omega
  have z2 : (m == 0) = false := by simpa using z
  by_cases h : n < 0
  · have t : decide (n < 0) = true := by simpa using h
    have E := Lib.hid (Af.floor_neg n m m0)
    have q0 : 0 ≤ (m - 1 - n) / m := Int.ediv_nonneg (by omega) (by omega)
    have q1 : (m - 1 - n) / m ≤ m - 1 - n := Int.ediv_le_self _ (by omega)
    go_enter Try.func45, Try.ntmps45
    go_wp2_with fail
    go_ret
    exact ⟨by rw [← E.out]; rfl, rfl⟩
  · have t : decide (n < 0) = false := by simpa using h
    have q0 : 0 ≤ n / m := Int.ediv_nonneg (by omega) (by omega)
    have q1 : n / m ≤ n := Int.ediv_le_self _ (by omega)
    go_enter Try.func45, Try.ntmps45
    go_wp2_with fail
    go_ret
    exact ⟨rfl, rfl⟩
theorem share_any (n a : Int) (hn : Af.Slope n) (ha : Af.Up a 562949953421312) (hz : a ≠ 0) (w : World) : Calls Try.prog 34 #[.int .i64 n, .int .i64 a] w fun e w' => e = .returned (.int .i64 (Af.round (n * 4294967296) a)) ∧ w' = w := by
  obtain ⟨n0, n1⟩ := hn
  obtain ⟨a0, a1⟩ := ha
  unfold Af.round
  by_cases h : a < 0
  · rw [if_pos h]
    have t : decide (a < 0) = true := by simpa using h
    have C := Lib.hid (floor_any (2 * (-n * 4294967296) + -a) (2 * -a) (by unfold Up'; omega) (by omega) (by omega) w)
    have E := Lib.hid (show (2 * (-n * 4294967296) + -a) / (2 * -a) = (-2 * (n * 4294967296) - a) / (-2 * a) by congr 1 <;> omega)
    clear hz
    go_enter Try.func34, Try.ntmps34
    go_wp2_with fail
    refine C.out.mono ?_
    rintro e w' ⟨rfl, rfl⟩
    rw [E.out]
    go_wp2_with fail
    go_ret
    exact ⟨rfl, rfl⟩
  · rw [if_neg h]
    have t : decide (a < 0) = false := by simpa using h
    have C := Lib.hid (floor_any (2 * (n * 4294967296) + a) (2 * a) (by unfold Up'; omega) (by omega) (by omega) w)
    clear hz
    go_enter Try.func34, Try.ntmps34
    go_wp2_with fail
    refine C.out.mono ?_
    rintro e w' ⟨rfl, rfl⟩
    go_wp2_with fail
    go_ret
    exact ⟨rfl, rfl⟩
/-! The document's. -/
theorem tmod_cases (n m : Int) (m0 : 0 < m) : (n.tmod m = n % m ∧ 0 ≤ n.tmod m) ∨ (n.tmod m + m = n % m ∧ n.tmod m < 0 ∧ n < 0) := by
  have q1 := Int.emod_nonneg n (show m ≠ 0 by omega)
  have q2 := Int.emod_lt_of_pos n m0
  rw [Int.tmod_eq_emod]
  by_cases h : 0 ≤ n ∨ m ∣ n
  · rw [if_pos h]
    exact .inl ⟨by omega, by omega⟩
  · rw [if_neg h]
    have h2 : ¬ n % m = 0 := fun h2 => h (.inr (Int.dvd_of_emod_eq_zero h2))
    exact .inr ⟨by omega, by omega, by omega⟩
theorem quot_up {n m B : Int} (m0 : 0 < m) (h0 : -B ≤ n) (h1 : n ≤ B) : -B ≤ n / m ∧ n / m ≤ B := by
  have hB : 0 ≤ B := by omega
  have h2 : B ≤ B * m := by have := Int.mul_le_mul_of_nonneg_left (show 1 ≤ m by omega) hB; omega
  constructor
  · refine Int.le_ediv_of_mul_le m0 ?_
    rw [Int.neg_mul]; omega
  · exact Int.ediv_le_of_le_mul m0 (by omega)
theorem docDown_any (n m : Int) (hn : Up' n) (m0 : 0 < m) (m1 : m ≤ 2305843009213693952) (w : World) : Calls Try.prog 21 #[.int .i64 n, .int .i64 m] w fun e w' => e = .returned (.int .i64 (n / m)) ∧ w' = w := by
  obtain ⟨n0, n1⟩ := hn
  have z : ¬ m = 0 := by omega
  have z2 : (m == 0) = false := by simpa using z
  have q0 := Int.mul_ediv_add_emod n m
  have q1 := Int.emod_nonneg n z
  have q2 := Int.emod_lt_of_pos n m0
  have qq := quot_up m0 n0 n1
  have W := wrap_i64 (n / m) (by omega) (by omega)
  rcases tmod_cases n m m0 with ⟨e, hs⟩ | ⟨e, hs, hs2⟩
  · have E : (n - n.tmod m).tdiv m = n / m := by
      rw [show n - n.tmod m = m * (n / m) by omega, Int.mul_tdiv_cancel_left _ z]
    have b1 : n.tmod m < m := by omega
    have b2 : n - n.tmod m ≤ 3458764513820540928 := by omega
    have b3 : -6917529027641081856 ≤ n - n.tmod m := by omega
    clear q0 q1 q2 e
    have t : decide (n.tmod m < 0) = false := by simpa using hs
    go_enter Try.func21, Try.ntmps21
    go_wp2_with fail
    go_ret
    exact ⟨rfl, rfl⟩
  · have E : (n - (n.tmod m + m)).tdiv m = n / m := by
      rw [show n - (n.tmod m + m) = m * (n / m) by omega, Int.mul_tdiv_cancel_left _ z]
    have b1 : -m ≤ n.tmod m := by omega
    have b2 : n - (n.tmod m + m) ≤ 3458764513820540928 := by omega
    have b3 : -6917529027641081856 ≤ n - (n.tmod m + m) := by omega
    clear q0 q1 q2 e
    have t : decide (n.tmod m < 0) = true := by simpa using hs
    go_enter Try.func21, Try.ntmps21
    go_wp2_with fail
    go_ret
    exact ⟨rfl, rfl⟩
theorem docNear_any (n : Int) (hn : Up2 n) (w : World) : Calls Try.prog 32 #[.int .i64 n] w fun e w' => e = .returned (.int .i64 (Af.near n)) ∧ w' = w := by
  have C := Lib.hid (docDown_any (n + 32768) 65536 (by unfold Up2 at hn; unfold Up'; omega) (by omega) (by omega) w)
  obtain ⟨h0, h1⟩ := hn
  go_enter Try.func32, Try.ntmps32
  go_wp2_with fail
  refine C.out.mono ?_
  rintro e w' ⟨rfl, rfl⟩
  go_wp2_with fail
  go_ret
  exact ⟨rfl, rfl⟩
theorem docRound_any (n a : Int) (hn : Af.Slope n) (ha : Af.Up a 562949953421312) (hz : a ≠ 0) (w : World) : Calls Try.prog 35 #[.int .i64 (n * 4294967296), .int .i64 a] w fun e w' => e = .returned (.int .i64 (Af.round (n * 4294967296) a)) ∧ w' = w := by
  obtain ⟨n0, n1⟩ := hn
  obtain ⟨a0, a1⟩ := ha
  unfold Af.round
  obtain ⟨p, hp⟩ : ∃ p, n * 4294967296 = p := ⟨_, rfl⟩
  have p0 : -72057594037927936 ≤ p := by omega
  have p1 : p ≤ 72057594037927936 := by omega
  rw [hp]
  clear hp n0 n1
  by_cases h : a < 0
  · rw [if_pos h]
    have t : decide (a < 0) = true := by simpa using h
    have C := Lib.hid (docDown_any (-2 * p - a) (-2 * a) (by unfold Up'; omega) (by omega) (by omega) w)
    clear hz
    go_enter Try.func35, Try.ntmps35
    go_wp2_with fail
    refine C.out.mono ?_
    rintro e w' ⟨rfl, rfl⟩
    go_wp2_with fail
    go_ret
    exact ⟨rfl, rfl⟩
  · rw [if_neg h]
    have t : decide (a < 0) = false := by simpa using h
    have C := Lib.hid (docDown_any (2 * p + a) (2 * a) (by unfold Up'; omega) (by omega) (by omega) w)
    clear hz
    go_enter Try.func35, Try.ntmps35
    go_wp2_with fail
    refine C.out.mono ?_
    rintro e w' ⟨rfl, rfl⟩
    go_wp2_with fail
    go_ret
    exact ⟨rfl, rfl⟩
end Go.Proofs.Ytfcndldobjpbnaa
