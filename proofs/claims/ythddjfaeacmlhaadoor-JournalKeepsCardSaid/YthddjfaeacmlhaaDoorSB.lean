/- The contracts of step, times, bytesOn and CrcJoin; what the operators answer. -/
import Derived.Test.YthddjfaeacmlhaaDoorProg
import Derived.Test.YthddjfaeacmlhaaDoorSA
import Derived.Laws.BitsAllLaws
import Derived.WalkLawsBesides
import Derived.OneCell
import Derived.Lib.Hide
import Derived.BigQuiet
import Derived.Deep.QuietTactic
import Derived.Deep.LoopGhost
namespace Go.Proofs.YthddjfaeacmlhaaDoor
open Go.RowKit
set_option linter.unusedVariables false

theorem u32_low (c : Nat) (hc : c < 4294967296) : bits .and .u32 (c : Int) 1 = ((c % 2 : Nat) : Int) := by
  have h := u32_and_nat c 1 hc (by omega)
  rw [nat_mask1] at h
  exact h
theorem u32_poly (c : Nat) (hc : c < 4294967296) : bits .xor .u32 ((c : Int) / 2) 3988292384 = ((c / 2 ^^^ Sums.poly : Nat) : Int) := u32_xor_nat (c / 2) 3988292384 (by omega) (by omega)

/-- The number of the top bit. -/
theorem top_bit (a k : Nat) (hk : k ≤ 31) : (a * 2 ^ k % 4294967296).testBit 31 = a.testBit (31 - k) := by
  rw [show (4294967296 : Nat) = 2 ^ 32 by rfl, Nat.testBit_mod_two_pow, Nat.testBit_mul_two_pow]
  simp [hk]
theorem low_bits (a k : Nat) (hk : k ≤ 32) (h : a * 2 ^ k % 4294967296 = 0) (j : Nat) (hj : k ≤ j) (hj2 : j ≤ 31) : a.testBit (31 - j) = false := by
  have e : (a * 2 ^ k % 4294967296).testBit (31 - j + k) = false := by rw [h]; simp
  rw [show (4294967296 : Nat) = 2 ^ 32 by rfl, Nat.testBit_mod_two_pow, Nat.testBit_mul_two_pow] at e
  simpa [show 31 - j + k < 32 by omega] using e
theorem mulk_done (a b k n : Nat) (hk : k + n ≤ 32) (h : a * 2 ^ k % 4294967296 = 0) : Sums.mulk a b (k + n) = Sums.mulk a b k := by
  induction n with
  | zero => rfl
  | succ n ih =>
    rw [← Nat.add_assoc, Sums.mulk_succ, ih (by omega), low_bits a k (by omega) h (k + n) (by omega) (by omega)]
    simp
theorem mul_done (a b k : Nat) (hk : k ≤ 32) (h : a * 2 ^ k % 4294967296 = 0) : Sums.mul a b = Sums.mulk a b k := by
  have e := mulk_done a b k (32 - k) (by omega) h
  rw [show k + (32 - k) = 32 by omega] at e
  exact e
theorem u32_top (x : Nat) (hx : x < 4294967296) : bits .and .u32 (x : Int) 2147483648 = if x.testBit 31 then 2147483648 else 0 := by
  have h := u32_and_nat x 2147483648 hx (by omega)
  rw [show (2147483648 : Nat) = 2 ^ 31 by rfl, nat_bit] at h
  rw [show (2147483648 : Int) = ((2147483648 : Nat) : Int) by rfl, show (2147483648 : Nat) = 2 ^ 31 by rfl, h]
  rw [Nat.testBit_eq_decide_div_mod_eq]
  rcases Nat.mod_two_eq_zero_or_one (x / 2 ^ 31) with e | e <;> simp [e]
theorem double_mod (a k : Nat) : ((a * 2 ^ k % 4294967296 : Nat) : Int) * 2 % 4294967296 = ((a * 2 ^ (k + 1) % 4294967296 : Nat) : Int) := by
  rw [Nat.pow_succ, ← Nat.mul_assoc]; omega

/-- The remainder of the power 8 m. -/
def pw (m : Nat) : Nat := Sums.steps (8 * m) Sums.one
theorem pw_eq (m : Nat) : pw m = Sums.steps (8 * m) Sums.one := rfl
theorem pw_zero : pw 0 = 2147483648 := by rw [pw_eq, Nat.mul_zero, Sums.steps_nil]; rfl
theorem pw_one : pw 1 = 8388608 := by
  have e := Sums.two_pow_steps 23 (by omega)
  rw [pw_eq, show 8 * 1 = 31 - 23 by rfl, ← e]
theorem pw_add (m n : Nat) : Sums.mul (pw m) (pw n) = pw (m + n) := by
  rw [pw_eq, pw_eq, Sums.mul_powers, pw_eq, Nat.mul_add]
theorem pw_lt (m : Nat) : pw m < 4294967296 := Sums.steps_lt _ Sums.one_lt
theorem mul_one_right (a : Nat) (ha : a < 2 ^ 32) : Sums.mul a Sums.one = a := by
  refine Sums.by_bits (fun a => Sums.mul a Sums.one) (fun a => a) (fun x y => Sums.mulk_xor x y Sums.one 32) (fun _ _ => rfl) ?_ 32 ?_ a ha
  · have h := Sums.mulk_xor 0 0 Sums.one 32
    rw [Nat.xor_self, Nat.xor_self] at h
    exact h
  · intro k hk
    show Sums.mul (2 ^ k) Sums.one = 2 ^ k
    rw [Sums.two_pow_steps k (by omega), Sums.mul_steps _ _ Sums.one_lt]
theorem mul_pw (a n : Nat) (ha : a < 4294967296) : Sums.mul a (pw n) = Sums.steps (8 * n) a := by
  have h : Sums.mul a (pw n) = Sums.steps (8 * n) (Sums.mul a Sums.one) := Sums.mulk_steps a Sums.one (8 * n) 32
  rw [h, mul_one_right a ha]

/-- n's lowest bits, a bit more. -/
theorem mod_more (n k : Nat) : n % 2 ^ (k + 1) = n % 2 ^ k + 2 ^ k * (n / 2 ^ k % 2) := by rw [Nat.pow_succ, Nat.mod_mul]
theorem i64_low (v : Nat) (h : v < 9223372036854775808) : bits .and .i64 (v : Int) 1 = ((v % 2 : Nat) : Int) := by
  show IntKind.i64.wrap ((BitVec.ofInt 64 (v : Int) &&& BitVec.ofInt 64 1).toNat : Int) = _
  have e1 : (BitVec.ofInt 64 1).toNat = 1 := by decide
  rw [BitVec.toNat_and, e1, Nat.and_one_is_mod, BitVec.toNat_ofInt]
  simp [IntKind.wrap, IntKind.bits, IntKind.signed]
  omega

/-- What CrcJoin answers. -/
def joined (a b : Nat) (n : Int) : Nat := if 0 ≤ n ∧ n ≤ 1099511627776 then Sums.steps (8 * n.toNat) a ^^^ b else 0
end Go.Proofs.YthddjfaeacmlhaaDoor
