/- Rows of bits as plain data: a row's number in either order, a number's row, the bytes of a row; and what the whole numbers' bitwise operators answer. -/
import Derived.Test.YteeapkbmlhlhjaaProg
import Derived.WalkKit
import Derived.Laws.BitsAllLaws
namespace Go.Proofs.Yteeapkbmlhlhjaa
open Go.RowKit

/-- The number of a row whose first bit is the lowest. -/
def lowv : List Bool → Nat
  | [] => 0
  | b :: l => b.toNat + 2 * lowv l

theorem lowv_lt (l : List Bool) : lowv l < 2 ^ l.length := by
  induction l with
  | nil => simp [lowv]
  | cons b l ih => simp only [lowv, List.length_cons, Nat.pow_succ]; cases b <;> simp <;> omega

theorem lowv_append (a b : List Bool) : lowv (a ++ b) = lowv a + 2 ^ a.length * lowv b := by
  induction a with
  | nil => simp [lowv]
  | cons x a ih =>
    simp only [lowv, List.cons_append, List.length_cons, Nat.pow_succ, ih]
    rw [Nat.mul_right_comm, Nat.mul_add]
    rw [Nat.mul_comm _ 2]
    omega

theorem lowv_split (l : List Bool) (n : Nat) (h : n ≤ l.length) : lowv l = lowv (l.take n) + 2 ^ n * lowv (l.drop n) := by
  have e := lowv_append (l.take n) (l.drop n)
  rw [List.take_append_drop, List.length_take, Nat.min_eq_left h] at e
  exact e

theorem lowv_drop (l : List Bool) (n : Nat) : lowv (l.drop n) = lowv l / 2 ^ n := by
  by_cases h : n ≤ l.length
  · have e := lowv_split l n h
    have hlt := lowv_lt (l.take n)
    rw [List.length_take, Nat.min_eq_left h] at hlt
    rw [e, Nat.add_mul_div_left _ _ (Nat.two_pow_pos n), Nat.div_eq_of_lt hlt, Nat.zero_add]
  · rw [List.drop_eq_nil_of_le (by omega)]
    have hlt := lowv_lt l
    have hp : 2 ^ l.length ≤ 2 ^ n := Nat.pow_le_pow_right (by omega) (by omega)
    rw [Nat.div_eq_of_lt (by omega)]
    rfl

theorem lowv_take (l : List Bool) (n : Nat) : lowv (l.take n) = lowv l % 2 ^ n := by
  by_cases h : n ≤ l.length
  · have e := lowv_split l n h
    have hlt := lowv_lt (l.take n)
    rw [List.length_take, Nat.min_eq_left h] at hlt
    rw [e, Nat.add_mul_mod_self_left, Nat.mod_eq_of_lt hlt]
  · rw [List.take_of_length_le (by omega)]
    have hlt := lowv_lt l
    have hp : 2 ^ l.length ≤ 2 ^ n := Nat.pow_le_pow_right (by omega) (by omega)
    rw [Nat.mod_eq_of_lt (by omega)]

/-- The n lowest bits of a number, the lowest first. -/
def lowr (v : Nat) : Nat → List Bool
  | 0 => []
  | n + 1 => decide (v % 2 = 1) :: lowr (v / 2) n

theorem lowr_length (v n : Nat) : (lowr v n).length = n := by
  induction n generalizing v with
  | zero => rfl
  | succ n ih => simp [lowr, ih]

theorem lowv_lowr (v n : Nat) : lowv (lowr v n) = v % 2 ^ n := by
  induction n generalizing v with
  | zero => simp [lowr, lowv, Nat.mod_one]
  | succ n ih =>
    simp only [lowr, lowv, ih, Nat.pow_succ]
    rw [Nat.mul_comm (2 ^ n) 2, Nat.mod_mul]
    by_cases h : v % 2 = 1
    · simp [h]
    · simp [h]; omega

theorem lowr_lowv (l : List Bool) : lowr (lowv l) l.length = l := by
  induction l with
  | nil => rfl
  | cons b l ih =>
    simp only [lowv, List.length_cons, lowr]
    have e1 : (b.toNat + 2 * lowv l) / 2 = lowv l := by cases b <;> simp <;> omega
    have e2 : decide ((b.toNat + 2 * lowv l) % 2 = 1) = b := by cases b <;> simp
    rw [e1, e2, ih]

theorem lowv_inj {a b : List Bool} (hl : a.length = b.length) (h : lowv a = lowv b) : a = b := by
  rw [← lowr_lowv a, ← lowr_lowv b, hl, h]

/-- A row's number in an order, and a number's row. -/
def val (high : Bool) (l : List Bool) : Nat := if high then lowv l.reverse else lowv l
def row (high : Bool) (v n : Nat) : List Bool := if high then (lowr v n).reverse else lowr v n

theorem val_lt (high : Bool) (l : List Bool) : val high l < 2 ^ l.length := by
  cases high
  · exact lowv_lt l
  · have := lowv_lt l.reverse; simpa [val] using this
theorem row_length (high : Bool) (v n : Nat) : (row high v n).length = n := by
  cases high <;> simp [row, lowr_length]
theorem val_row {high : Bool} {v n : Nat} (h : v < 2 ^ n) : val high (row high v n) = v := by
  cases high <;> simp [val, row, lowv_lowr, Nat.mod_eq_of_lt h]
theorem row_val (high : Bool) (l : List Bool) : row high (val high l) l.length = l := by
  cases high
  · exact lowr_lowv l
  · have e := lowr_lowv l.reverse
    rw [List.length_reverse] at e
    simp [row, val, e]

theorem low_append (a b : List Bool) : val false (a ++ b) = val false a + 2 ^ a.length * val false b := lowv_append a b
theorem high_append (a b : List Bool) : val true (a ++ b) = val true a * 2 ^ b.length + val true b := by
  simp only [val, if_true, List.reverse_append, lowv_append, List.length_reverse]
  rw [Nat.mul_comm, Nat.add_comm]
theorem low_drop (l : List Bool) (n : Nat) : val false (l.drop n) = val false l / 2 ^ n := lowv_drop l n
theorem low_take (l : List Bool) (n : Nat) : val false (l.take n) = val false l % 2 ^ n := lowv_take l n
theorem high_drop (l : List Bool) (n : Nat) : val true (l.drop n) = val true l % 2 ^ (l.length - n) := by
  simp only [val, if_true, List.reverse_drop, lowv_take]
theorem high_take (l : List Bool) (n : Nat) : val true (l.take n) = val true l / 2 ^ (l.length - n) := by
  simp only [val, if_true, List.reverse_take, lowv_drop]

/-- The byte of at most eight bits; noughts lack behind. -/
def byteOf (high : Bool) (ch : List Bool) : Nat := if high then val true ch * 2 ^ (8 - ch.length) else val false ch
/-- A row's i-th byte. -/
def byteAt (high : Bool) (l : List Bool) (i : Nat) : Nat := byteOf high ((l.drop (8 * i)).take 8)
/-- A row's first q bytes. -/
def fulls (high : Bool) (l : List Bool) (q : Nat) : List Int := (List.range q).map fun i => (byteAt high l i : Int)
/-- All its bytes. -/
def packed (high : Bool) (l : List Bool) : List Int := fulls high l ((l.length + 7) / 8)

theorem byteOf_lt (high : Bool) {ch : List Bool} (h : ch.length ≤ 8) : byteOf high ch < 256 := by
  have hlt := val_lt high ch
  cases high
  · have hp : 2 ^ ch.length ≤ 2 ^ 8 := Nat.pow_le_pow_right (by omega) h
    simp only [byteOf, Bool.false_eq_true, if_false]; omega
  · simp only [byteOf, if_true]
    have e : 2 ^ ch.length * 2 ^ (8 - ch.length) = 256 := by rw [← Nat.pow_add, show ch.length + (8 - ch.length) = 8 by omega]
    have : val true ch * 2 ^ (8 - ch.length) < 2 ^ ch.length * 2 ^ (8 - ch.length) := Nat.mul_lt_mul_of_pos_right hlt (Nat.two_pow_pos _)
    omega
theorem byteAt_lt (high : Bool) (l : List Bool) (i : Nat) : byteAt high l i < 256 := byteOf_lt high (by simp; omega)
theorem fulls_length (high : Bool) (l : List Bool) (q : Nat) : (fulls high l q).length = q := by simp [fulls]
theorem fulls_byte (high : Bool) (l : List Bool) (q : Nat) : ∀ x ∈ fulls high l q, 0 ≤ x ∧ x ≤ 255 := by
  intro x hx
  simp only [fulls, List.mem_map] at hx
  obtain ⟨i, _, rfl⟩ := hx
  have := byteAt_lt high l i
  omega
theorem fulls_succ (high : Bool) (l : List Bool) (q : Nat) : fulls high l (q + 1) = fulls high l q ++ [(byteAt high l q : Int)] := by
  simp [fulls, List.range_succ]
theorem fulls_get (high : Bool) (l : List Bool) (q i : Nat) (h : i < q) : (fulls high l q)[i]? = some (byteAt high l i : Int) := by
  simp [fulls, h]
/-- Bits behind a full byte don't turn it. -/
theorem fulls_more (high : Bool) (l m : List Bool) (q : Nat) (h : 8 * q ≤ l.length) : fulls high (l ++ m) q = fulls high l q := by
  simp only [fulls]
  refine List.map_congr_left ?_
  intro i hi
  rw [List.mem_range] at hi
  simp only [byteAt]
  rw [List.drop_append_of_le_length (by omega), List.take_append_of_le_length (by simp; omega)]
theorem byteAt_full (high : Bool) (l : List Bool) (q : Nat) (h : 8 * q + 8 ≤ l.length) : byteAt high l q = val high ((l.drop (8 * q)).take 8) := by
  have e : ((l.drop (8 * q)).take 8).length = 8 := by simp; omega
  simp only [byteAt, byteOf, e]
  cases high <;> simp

/-! What the operators answer. -/
theorem wrap_i64 (n : Int) (h0 : -9223372036854775808 ≤ n) (h1 : n ≤ 9223372036854775807) : IntKind.i64.wrap n = n := by
  simp [IntKind.wrap, IntKind.bits, IntKind.signed]
  omega
theorem ofInt_i64 (a : Nat) (ha : a < 9223372036854775808) : (BitVec.ofInt 64 (a : Int)).toNat = a := by
  rw [BitVec.ofInt_natCast, BitVec.toNat_ofNat]; exact Nat.mod_eq_of_lt (by omega)
theorem i64_and_nat (a b : Nat) (ha : a < 9223372036854775808) (hb : b < 9223372036854775808) : bits .and .i64 (a : Int) (b : Int) = ((a &&& b : Nat) : Int) := by
  have hx : a &&& b < 2 ^ 63 := Nat.and_lt_two_pow _ (by omega)
  show IntKind.i64.wrap ((BitVec.ofInt 64 (a : Int) &&& BitVec.ofInt 64 (b : Int)).toNat : Int) = _
  rw [BitVec.toNat_and, ofInt_i64 a ha, ofInt_i64 b hb, wrap_i64 _ (by omega) (by omega)]
theorem i64_or_nat (a b : Nat) (ha : a < 9223372036854775808) (hb : b < 9223372036854775808) : bits .or .i64 (a : Int) (b : Int) = ((a ||| b : Nat) : Int) := by
  have hx : a ||| b < 2 ^ 63 := Nat.or_lt_two_pow (by omega) (by omega)
  show IntKind.i64.wrap ((BitVec.ofInt 64 (a : Int) ||| BitVec.ofInt 64 (b : Int)).toNat : Int) = _
  rw [BitVec.toNat_or, ofInt_i64 a ha, ofInt_i64 b hb, wrap_i64 _ (by omega) (by omega)]
theorem i64_mask (a n : Nat) (ha : a < 9223372036854775808) (hn : n ≤ 62) : bits .and .i64 (a : Int) ((2 ^ n - 1 : Nat) : Int) = ((a % 2 ^ n : Nat) : Int) := by
  have hp : 2 ^ n ≤ 2 ^ 62 := Nat.pow_le_pow_right (by omega) hn
  rw [i64_and_nat a _ ha (by omega), Nat.and_two_pow_sub_one_eq_mod]
/-- The lowest bit, of a number below 0 too. -/
theorem i64_one (v : Int) (h0 : -9223372036854775808 ≤ v) (h1 : v ≤ 9223372036854775807) : bits .and .i64 v 1 = v % 2 := by
  show IntKind.i64.wrap ((BitVec.ofInt 64 v &&& BitVec.ofInt 64 1).toNat : Int) = _
  have e1 : (BitVec.ofInt 64 1).toNat = 1 := by decide
  rw [BitVec.toNat_and, e1, Nat.and_one_is_mod, BitVec.toNat_ofInt]
  rw [wrap_i64 _ (by omega) (by omega)]
  simp
  omega
theorem shl_i64 (x n : Nat) (hn : n ≤ 40) (hx : x * 2 ^ n ≤ 9223372036854775807) : IntKind.i64.wrap ((x : Int) * 2 ^ min n 64) = ((x * 2 ^ n : Nat) : Int) := by
  rw [Nat.min_eq_left (by omega)]
  have e : (x : Int) * 2 ^ n = ((x * 2 ^ n : Nat) : Int) := by simp
  rw [e]
  exact wrap_i64 _ (by omega) (by omega)
end Go.Proofs.Yteeapkbmlhlhjaa
