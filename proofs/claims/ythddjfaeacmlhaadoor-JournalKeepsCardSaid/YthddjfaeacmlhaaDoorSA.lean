/- The two sums as plain data: a polynomial's remainder bit by bit, on numbers of any size; what follows of it for texts joined, xored, turned. -/
import Derived.WalkKit
namespace Go.Proofs.YthddjfaeacmlhaaDoor.Sums

def poly : Nat := 3988292384
/-- One bit's step. -/
def step (c : Nat) : Nat := if c % 2 = 1 then c / 2 ^^^ poly else c / 2
def steps : Nat → Nat → Nat
  | 0, c => c
  | n + 1, c => steps n (step c)

theorem half_xor (a b : Nat) : (a ^^^ b) / 2 = a / 2 ^^^ b / 2 := by
  have h := Nat.shiftRight_xor_distrib (a := a) (b := b) (i := 1)
  simpa [Nat.shiftRight_succ] using h
theorem odd_xor (a b : Nat) : (a ^^^ b) % 2 = (a % 2 + b % 2) % 2 := by
  have h := Nat.xor_mod_two_pow (a := a) (b := b) (n := 1)
  simp only [Nat.pow_one] at h
  rw [h]
  rcases Nat.mod_two_eq_zero_or_one a with e | e <;> rcases Nat.mod_two_eq_zero_or_one b with e2 | e2 <;> rw [e, e2] <;> rfl

theorem step_xor (a b : Nat) : step (a ^^^ b) = step a ^^^ step b := by
  unfold step
  rw [odd_xor, half_xor]
  rcases Nat.mod_two_eq_zero_or_one a with e | e <;> rcases Nat.mod_two_eq_zero_or_one b with e2 | e2 <;> rw [e, e2]
  · simp
  · simp [Nat.xor_assoc]
  · simp only [Nat.reduceAdd, Nat.reduceMod, if_true]
    simp only [Nat.zero_ne_one, if_false]
    rw [Nat.xor_assoc, Nat.xor_comm (b / 2), ← Nat.xor_assoc]
  · simp only [Nat.reduceAdd, Nat.reduceMod, if_true]
    simp only [Nat.zero_ne_one, if_false]
    rw [Nat.xor_assoc, Nat.xor_comm poly, Nat.xor_assoc, Nat.xor_self, Nat.xor_zero]
theorem steps_xor (n a b : Nat) : steps n (a ^^^ b) = steps n a ^^^ steps n b := by
  induction n generalizing a b with
  | zero => rfl
  | succ n ih => simp only [steps, step_xor, ih]
theorem steps_add (m n c : Nat) : steps (m + n) c = steps n (steps m c) := by
  induction m generalizing c with
  | zero => simp [steps]
  | succ m ih => rw [show m + 1 + n = (m + n) + 1 by omega]; simp only [steps, ih]
theorem step_zero : step 0 = 0 := rfl
theorem steps_zero (n : Nat) : steps n 0 = 0 := by
  induction n with
  | zero => rfl
  | succ n ih => simp only [steps, step_zero, ih]
theorem step_lt {c : Nat} (h : c < 2 ^ 32) : step c < 2 ^ 32 := by
  unfold step
  split
  · exact Nat.xor_lt_two_pow (by omega) (by decide)
  · omega
theorem steps_lt {c : Nat} (n : Nat) (h : c < 2 ^ 32) : steps n c < 2 ^ 32 := by
  induction n generalizing c with
  | zero => exact h
  | succ n ih => exact ih (step_lt h)
theorem step_ne {c : Nat} (h : c < 2 ^ 32) (h0 : c ≠ 0) : step c ≠ 0 := by
  unfold step
  split
  · intro e
    have e2 : c / 2 = poly := by
      have e3 : (c / 2 ^^^ poly) ^^^ poly = 0 ^^^ poly := by rw [e]
      rw [Nat.xor_assoc, Nat.xor_self, Nat.xor_zero, Nat.zero_xor] at e3
      exact e3
    simp only [poly] at e2
    omega
  · omega
theorem steps_ne {c : Nat} (n : Nat) (h : c < 2 ^ 32) (h0 : c ≠ 0) : steps n c ≠ 0 := by
  induction n generalizing c with
  | zero => exact h0
  | succ n ih => exact ih (step_lt h) (step_ne h h0)
/-- Bits that stand higher only come down. -/
theorem steps_down (n c : Nat) : steps n (c * 2 ^ n) = c := by
  induction n generalizing c with
  | zero => simp [steps]
  | succ n ih =>
    have e : step (c * 2 ^ (n + 1)) = c * 2 ^ n := by
      unfold step
      rw [if_neg (by rw [Nat.pow_succ, ← Nat.mul_assoc]; omega), Nat.pow_succ, ← Nat.mul_assoc, Nat.mul_div_cancel _ (by omega)]
    simp only [steps, e, ih]

/-- A text's number, its first byte the lowest. -/
def num : List Nat → Nat
  | [] => 0
  | b :: l => b ^^^ num l * 256
/-- The remainder, from a state on. -/
def byteStep (c b : Nat) : Nat := steps 8 (c ^^^ b)
def crcs (c : Nat) (l : List Nat) : Nat := l.foldl byteStep c
def crc (l : List Nat) : Nat := crcs 4294967295 l ^^^ 4294967295

theorem crcs_nil (c : Nat) : crcs c [] = c := rfl
theorem crcs_cons (c b : Nat) (l : List Nat) : crcs c (b :: l) = crcs (byteStep c b) l := rfl
theorem byteStep_eq (c b : Nat) : byteStep c b = steps 8 (c ^^^ b) := rfl
theorem num_nil : num [] = 0 := rfl
theorem num_cons (b : Nat) (l : List Nat) : num (b :: l) = b ^^^ num l * 256 := rfl
theorem steps_nil (c : Nat) : steps 0 c = c := rfl
theorem steps_cons (n c : Nat) : steps (n + 1) c = steps n (step c) := rfl

theorem crcs_num (c : Nat) (l : List Nat) : crcs c l = steps (8 * l.length) (c ^^^ num l) := by
  induction l generalizing c with
  | nil => rw [crcs_nil, num_nil, Nat.xor_zero, List.length_nil, Nat.mul_zero, steps_nil]
  | cons b l ih =>
    have h := steps_down 8 (num l)
    rw [show (2 : Nat) ^ 8 = 256 by rfl] at h
    rw [crcs_cons, ih, num_cons, List.length_cons, show 8 * (l.length + 1) = 8 + 8 * l.length by omega, steps_add, ← Nat.xor_assoc, steps_xor 8 (c ^^^ b), h, byteStep_eq]
theorem crcs_append (c : Nat) (a b : List Nat) : crcs c (a ++ b) = crcs (crcs c a) b := List.foldl_append
theorem crcs_lt (c : Nat) (l : List Nat) (h : c < 2 ^ 32) (hl : ∀ b ∈ l, b < 256) : crcs c l < 2 ^ 32 := by
  induction l generalizing c with
  | nil => exact h
  | cons b l ih =>
    have hb : b < 2 ^ 32 := by have := hl b (List.mem_cons_self ..); omega
    have h1 : c ^^^ b < 2 ^ 32 := Nat.xor_lt_two_pow h hb
    have h2 := steps_lt 8 h1
    rw [← byteStep_eq] at h2
    rw [crcs_cons]
    exact ih _ h2 (fun x hx => hl x (List.mem_cons_of_mem _ hx))
theorem crc_lt (l : List Nat) (hl : ∀ b ∈ l, b < 256) : crc l < 2 ^ 32 := by
  unfold crc
  exact Nat.xor_lt_two_pow (crcs_lt _ _ (by omega) hl) (by omega)
/-- A state more. -/
theorem crcs_more (c d : Nat) (l : List Nat) : crcs (c ^^^ d) l = steps (8 * l.length) c ^^^ crcs d l := by
  rw [crcs_num, crcs_num, Nat.xor_assoc, steps_xor]
theorem crcs_zero (c n : Nat) : crcs c (List.replicate n 0) = steps (8 * n) c := by
  induction n generalizing c with
  | zero => rfl
  | succ n ih => rw [List.replicate_succ, crcs_cons, ih, byteStep_eq, Nat.xor_zero, ← steps_add, show 8 + 8 * n = 8 * (n + 1) by omega]
/-- Of a text's sum and what stands behind. -/
theorem crc_more (a b : List Nat) : crcs (crc a ^^^ 4294967295) b ^^^ 4294967295 = crc (a ++ b) := by
  unfold crc
  rw [Nat.xor_assoc, Nat.xor_self, Nat.xor_zero, crcs_append]
/-- Of two texts' sums. -/
theorem crc_join (a b : List Nat) : crc (a ++ b) = steps (8 * b.length) (crc a) ^^^ crc b := by
  have e : crc b = crcs 4294967295 b ^^^ 4294967295 := rfl
  rw [← crc_more, crcs_more, e, Nat.xor_assoc]

/-- Two texts of one length, xored. -/
def xors (a b : List Nat) : List Nat := List.zipWith (· ^^^ ·) a b
theorem num_xors (a b : List Nat) (h : a.length = b.length) : num (xors a b) = num a ^^^ num b := by
  induction a generalizing b with
  | nil => cases b with
    | nil => rfl
    | cons y b => simp at h
  | cons x a ih => cases b with
    | nil => simp at h
    | cons y b =>
      simp only [xors, List.zipWith_cons_cons, num] at ih ⊢
      rw [ih b (by simpa using h)]
      have e : (num a ^^^ num b) * 256 = num a * 256 ^^^ num b * 256 := by
        have h := Nat.shiftLeft_xor_distrib (a := num a) (b := num b) (i := 8)
        simpa [Nat.shiftLeft_eq] using h
      rw [e]
      rw [Nat.xor_assoc, Nat.xor_assoc, ← Nat.xor_assoc y, Nat.xor_comm y, Nat.xor_assoc (num a * 256)]
theorem xors_length (a b : List Nat) (h : a.length = b.length) : (xors a b).length = a.length := by simp [xors, h]
theorem crcs_xors (c d : Nat) (a b : List Nat) (h : a.length = b.length) : crcs (c ^^^ d) (xors a b) = crcs c a ^^^ crcs d b := by
  rw [crcs_num, crcs_num, crcs_num, num_xors a b h, xors_length a b h, ← h, ← steps_xor]
  congr 1
  rw [Nat.xor_assoc, Nat.xor_assoc, ← Nat.xor_assoc d, Nat.xor_comm d, Nat.xor_assoc (num a)]
/-- Three texts of one length. -/
theorem crc_three (a b c : List Nat) (hb : a.length = b.length) (hc : a.length = c.length) : crc a ^^^ crc b ^^^ crc c = crc (xors (xors a b) c) := by
  have h := crcs_xors (4294967295 ^^^ 4294967295) 4294967295 (xors a b) c (by rw [xors_length a b hb, hc])
  rw [crcs_xors _ _ a b hb, Nat.xor_self, Nat.zero_xor] at h
  unfold crc
  rw [h]
  have e : ∀ x y z f : Nat, (x ^^^ f) ^^^ (y ^^^ f) ^^^ (z ^^^ f) = x ^^^ y ^^^ z ^^^ f := by
    intro x y z f
    rw [Nat.xor_assoc x f, ← Nat.xor_assoc f y, Nat.xor_comm f y, Nat.xor_assoc y f f, Nat.xor_self, Nat.xor_zero, ← Nat.xor_assoc]
  exact e _ _ _ _
/-- Up to thirty-two bits in a row. -/
theorem crc_burst (a b : List Nat) (h : a.length = b.length) (w at_ : Nat) (hw : w < 2 ^ 32) (h0 : w ≠ 0) (hat : at_ ≤ 8 * a.length) (hn : num b = num a ^^^ w * 2 ^ at_) : crc a ≠ crc b := by
  intro e
  have e1 : crcs 4294967295 a = crcs 4294967295 b := by
    have e2 : crc a ^^^ 4294967295 = crc b ^^^ 4294967295 := by rw [e]
    unfold crc at e2
    rw [Nat.xor_assoc, Nat.xor_assoc, Nat.xor_self, Nat.xor_zero, Nat.xor_zero] at e2
    exact e2
  rw [crcs_num, crcs_num, ← h, hn, ← Nat.xor_assoc, steps_xor _ (4294967295 ^^^ num a)] at e1
  have e3 : steps (8 * a.length) (w * 2 ^ at_) = 0 := by
    have e4 : ∀ x y : Nat, x = x ^^^ y → y = 0 := by
      intro x y hxy
      have : x ^^^ x = x ^^^ (x ^^^ y) := by rw [← hxy]
      rw [Nat.xor_self, ← Nat.xor_assoc, Nat.xor_self, Nat.zero_xor] at this
      exact this.symm
    exact e4 _ _ e1
  rw [show 8 * a.length = at_ + (8 * a.length - at_) by omega, steps_add, steps_down] at e3
  exact steps_ne _ hw h0 e3
/-- One bit of one byte turned. -/
theorem num_turn (l : List Nat) (i j : Nat) (hi : i < l.length) : num (l.set i (l[i] ^^^ 2 ^ j)) = num l ^^^ 2 ^ (8 * i + j) := by
  induction l generalizing i with
  | nil => simp at hi
  | cons b l ih =>
    cases i with
    | zero =>
      simp only [List.set_cons_zero, List.getElem_cons_zero, num, Nat.mul_zero, Nat.zero_add]
      rw [Nat.xor_assoc, Nat.xor_comm (2 ^ j), ← Nat.xor_assoc]
    | succ i =>
      simp only [List.set_cons_succ, List.getElem_cons_succ, num]
      rw [ih i (by simpa using hi)]
      have e : (num l ^^^ 2 ^ (8 * i + j)) * 256 = num l * 256 ^^^ 2 ^ (8 * (i + 1) + j) := by
        have h := Nat.shiftLeft_xor_distrib (a := num l) (b := 2 ^ (8 * i + j)) (i := 8)
        rw [Nat.shiftLeft_eq, Nat.shiftLeft_eq, Nat.shiftLeft_eq] at h
        rw [show 2 ^ (8 * (i + 1) + j) = 2 ^ (8 * i + j) * 2 ^ 8 by rw [← Nat.pow_add]; congr 1; omega]
        exact h
      rw [e, ← Nat.xor_assoc]
/-- The turned bits so far. -/
theorem turn_more (v k at_ : Nat) : (v % 2 ^ (k + 1)) * 2 ^ at_ = (v % 2 ^ k) * 2 ^ at_ ^^^ (if v / 2 ^ k % 2 = 1 then 2 ^ (at_ + k) else 0) := by
  have e : v % 2 ^ (k + 1) = v % 2 ^ k + 2 ^ k * (v / 2 ^ k % 2) := by rw [Nat.pow_succ, Nat.mod_mul]
  have hlt : v % 2 ^ k < 2 ^ k := Nat.mod_lt _ (Nat.two_pow_pos k)
  rcases Nat.mod_two_eq_zero_or_one (v / 2 ^ k) with h | h
  · rw [e, h]; simp
  · rw [e, h, if_pos rfl, Nat.mul_one]
    have e2 : v % 2 ^ k + 2 ^ k = v % 2 ^ k ^^^ 2 ^ k := by
      apply Nat.eq_of_testBit_eq
      intro j
      rw [Nat.testBit_xor, Nat.testBit_two_pow, Nat.add_comm]
      by_cases hj : j = k
      · subst hj
        rw [Nat.testBit_two_pow_add_eq, Nat.testBit_lt_two_pow hlt]
        simp
      · rcases Nat.lt_or_gt_of_ne hj with hjk | hjk
        · rw [Nat.testBit_two_pow_add_gt hjk]
          have : ¬ k = j := fun h => hj h.symm
          simp [this]
        · have h1 : 2 ^ k + v % 2 ^ k < 2 ^ j := by
            have : 2 ^ (k + 1) ≤ 2 ^ j := Nat.pow_le_pow_right (by omega) hjk
            rw [Nat.pow_succ] at this
            omega
          have h2 : v % 2 ^ k < 2 ^ j := by omega
          rw [Nat.testBit_lt_two_pow h1, Nat.testBit_lt_two_pow h2]
          have : ¬ k = j := fun h => hj h.symm
          simp [this]
    rw [e2]
    have h := Nat.shiftLeft_xor_distrib (a := v % 2 ^ k) (b := 2 ^ k) (i := at_)
    rw [Nat.shiftLeft_eq, Nat.shiftLeft_eq, Nat.shiftLeft_eq] at h
    rw [h, ← Nat.pow_add, Nat.add_comm k]
end Go.Proofs.YthddjfaeacmlhaaDoor.Sums

/- Steps by the number, with products of remainders or with columns: whatever way a join is reckoned. -/
namespace Go.Proofs.YthddjfaeacmlhaaDoor.Sums

def one : Nat := 2147483648
theorem one_eq : one = 2 ^ 31 := rfl

theorem steps_step (n c : Nat) : steps n (step c) = step (steps n c) := by
  have h := steps_add 1 n c
  have h2 := steps_add n 1 c
  rw [Nat.add_comm 1 n] at h
  exact h.symm.trans h2
theorem steps_comm (m n c : Nat) : steps m (steps n c) = steps n (steps m c) := by
  rw [← steps_add, ← steps_add, Nat.add_comm]

/-- The first k terms of a product of remainders. -/
def mulk (a b : Nat) : Nat → Nat
  | 0 => 0
  | k + 1 => mulk a b k ^^^ (if a.testBit (31 - k) then steps k b else 0)
def mul (a b : Nat) : Nat := mulk a b 32
theorem mulk_zero (a b : Nat) : mulk a b 0 = 0 := rfl
theorem mulk_succ (a b k : Nat) : mulk a b (k + 1) = mulk a b k ^^^ (if a.testBit (31 - k) then steps k b else 0) := rfl

theorem xor_swap (a b c d : Nat) : (a ^^^ b) ^^^ (c ^^^ d) = (a ^^^ c) ^^^ (b ^^^ d) := by
  rw [Nat.xor_assoc, Nat.xor_assoc, ← Nat.xor_assoc b, Nat.xor_comm b c, Nat.xor_assoc c]

theorem mulk_xor (a a' b k : Nat) : mulk (a ^^^ a') b k = mulk a b k ^^^ mulk a' b k := by
  induction k with
  | zero => simp [mulk_zero]
  | succ k ih =>
    rw [mulk_succ, mulk_succ, mulk_succ, ih, Nat.testBit_xor, xor_swap]
    congr 1
    cases a.testBit (31 - k) <;> cases a'.testBit (31 - k) <;> simp
theorem mulk_xor_right (a b b' k : Nat) : mulk a (b ^^^ b') k = mulk a b k ^^^ mulk a b' k := by
  induction k with
  | zero => simp [mulk_zero]
  | succ k ih =>
    rw [mulk_succ, mulk_succ, mulk_succ, ih, steps_xor, xor_swap]
    congr 1
    cases a.testBit (31 - k) <;> simp
theorem mulk_step (a b k : Nat) : mulk a (step b) k = step (mulk a b k) := by
  induction k with
  | zero => rw [mulk_zero, mulk_zero, step_zero]
  | succ k ih =>
    rw [mulk_succ, mulk_succ, ih, step_xor, steps_step]
    congr 1
    cases a.testBit (31 - k)
    · simp [step_zero]
    · simp
theorem mulk_steps (a b n k : Nat) : mulk a (steps n b) k = steps n (mulk a b k) := by
  induction n generalizing b with
  | zero => rfl
  | succ n ih => rw [steps_cons, ih, mulk_step, steps_cons]
theorem mulk_none (a k : Nat) : mulk a 0 k = 0 := by
  induction k with
  | zero => rfl
  | succ k ih => rw [mulk_succ, ih, steps_zero]; simp

theorem mulk_one (b k : Nat) (h : k ≤ 31) : mulk one b (k + 1) = b := by
  induction k with
  | zero => rw [mulk_succ, mulk_zero, one_eq, Nat.testBit_two_pow]; simp [steps_nil]
  | succ k ih =>
    rw [mulk_succ, ih (by omega), one_eq, Nat.testBit_two_pow]
    have : decide (31 = 31 - (k + 1)) = false := by simp; omega
    rw [this]
    simp
theorem mul_one (b : Nat) : mul one b = b := mulk_one b 31 (Nat.le_refl _)

theorem mulk_half (a b : Nat) (ha : a < 2 ^ 32) (k : Nat) (hk : k ≤ 31) : mulk (a / 2) b (k + 1) = step (mulk a b k) := by
  induction k with
  | zero =>
    rw [mulk_succ, mulk_zero, mulk_zero, Nat.testBit_div_two]
    have : a.testBit 32 = false := Nat.testBit_lt_two_pow ha
    simp [this, step_zero]
  | succ k ih =>
    rw [mulk_succ, ih (by omega), mulk_succ a b k, step_xor, Nat.testBit_div_two, show 31 - (k + 1) + 1 = 31 - k by omega]
    congr 1
    cases a.testBit (31 - k)
    · simp [step_zero]
    · simp [steps_cons, steps_step]

theorem poly_one : mul poly one = steps 32 one := by decide +kernel

/-- A number's next bit. -/
theorem mod_bit (v k : Nat) : v % 2 ^ (k + 1) = v % 2 ^ k ^^^ (if v.testBit k then 2 ^ k else 0) := by
  have h := turn_more v k 0
  simp only [Nat.pow_zero, Nat.mul_one, Nat.zero_add] at h
  rw [h]
  congr 1
  rw [Nat.testBit_eq_decide_div_mod_eq]
  by_cases e : v / 2 ^ k % 2 = 1 <;> simp [e]

/-- What is linear is known by its values at the bits. -/
theorem by_bits (S T : Nat → Nat) (hS : ∀ a b, S (a ^^^ b) = S a ^^^ S b) (hT : ∀ a b, T (a ^^^ b) = T a ^^^ T b) (h0 : S 0 = T 0) (n : Nat) (h : ∀ k, k < n → S (2 ^ k) = T (2 ^ k)) (v : Nat) (hv : v < 2 ^ n) : S v = T v := by
  have key : ∀ k, k ≤ n → S (v % 2 ^ k) = T (v % 2 ^ k) := by
    intro k
    induction k with
    | zero => intro _; rw [Nat.pow_zero, Nat.mod_one]; exact h0
    | succ k ih =>
      intro hk
      rw [mod_bit, hS, hT, ih (by omega)]
      congr 1
      cases v.testBit k
      · simpa using h0
      · simpa using h k (by omega)
  have e := key n (Nat.le_refl _)
  rw [Nat.mod_eq_of_lt hv] at e
  exact e

theorem two_pow_steps (j : Nat) (h : j ≤ 31) : 2 ^ j = steps (31 - j) one := by
  have e := steps_down (31 - j) (2 ^ j)
  rw [← Nat.pow_add, show j + (31 - j) = 31 by omega] at e
  rw [one_eq]
  exact e.symm
theorem poly_mul (b : Nat) (hb : b < 2 ^ 32) : mul poly b = steps 32 b := by
  refine by_bits (mul poly) (steps 32) (fun x y => mulk_xor_right poly x y 32) (fun x y => steps_xor 32 x y) ?_ 32 ?_ b hb
  · rw [steps_zero]; exact mulk_none poly 32
  · intro k hk
    rw [two_pow_steps k (by omega), steps_comm 32 (31 - k) one, ← poly_one]
    exact mulk_steps poly one (31 - k) 32

theorem mul_step (a b : Nat) (ha : a < 2 ^ 32) (hb : b < 2 ^ 32) : mul (step a) b = step (mul a b) := by
  have e1 : mul (a / 2) b = step (mulk a b 31) := mulk_half a b ha 31 (Nat.le_refl _)
  have e2 : mul a b = mulk a b 31 ^^^ (if a.testBit 0 then steps 31 b else 0) := rfl
  have e3 : a.testBit 0 = decide (a % 2 = 1) := by simp
  have e4 : step (steps 31 b) = steps 32 b := (steps_step 31 b).symm
  have e5 : ∀ x y, mul (x ^^^ y) b = mul x b ^^^ mul y b := fun x y => mulk_xor x y b 32
  rw [e2, step_xor, e3]
  unfold step
  by_cases h : a % 2 = 1
  · rw [if_pos h, e5, e1, poly_mul b hb]
    simp only [h, decide_true, if_true]
    rw [← e4]
    rfl
  · rw [if_neg h, e1]
    simp only [h, decide_false, Bool.false_eq_true, if_false]
    have e6 : step 0 = 0 := rfl
    unfold step at e6 ⊢
    rw [e6, Nat.xor_zero]
/-- A power times a remainder: so many steps. -/
theorem mul_steps (m b : Nat) (hb : b < 2 ^ 32) : mul (steps m one) b = steps m b := by
  induction m with
  | zero => exact mul_one b
  | succ m ih =>
    rw [steps_cons, steps_step, mul_step _ _ (steps_lt m (by decide)) hb, ih, steps_cons, steps_step]
theorem mul_powers (m n : Nat) : mul (steps m one) (steps n one) = steps (m + n) one := by
  rw [mul_steps m _ (steps_lt n (by decide)), ← steps_add, Nat.add_comm]
theorem one_lt : one < 2 ^ 32 := by decide
theorem mul_lt (a b : Nat) (hb : b < 2 ^ 32) : mul a b < 2 ^ 32 := by
  have key : ∀ k, mulk a b k < 2 ^ 32 := by
    intro k
    induction k with
    | zero => rw [mulk_zero]; decide
    | succ k ih =>
      rw [mulk_succ]
      refine Nat.xor_lt_two_pow ih ?_
      split
      · exact steps_lt k hb
      · decide
  exact key 32

/-- The columns of what is linear, laid over a number's bits. -/
def laidk (f : Nat → Nat) (v : Nat) : Nat → Nat
  | 0 => 0
  | k + 1 => laidk f v k ^^^ (if v.testBit k then f k else 0)
theorem laidk_succ (f : Nat → Nat) (v k : Nat) : laidk f v (k + 1) = laidk f v k ^^^ (if v.testBit k then f k else 0) := rfl
theorem laidk_eq (T f : Nat → Nat) (hT : ∀ a b, T (a ^^^ b) = T a ^^^ T b) (h0 : T 0 = 0) (n : Nat) (h : ∀ k, k < n → f k = T (2 ^ k)) (v : Nat) : laidk f v n = T (v % 2 ^ n) := by
  induction n with
  | zero => rw [Nat.pow_zero, Nat.mod_one, h0]; rfl
  | succ n ih =>
    rw [laidk_succ, ih (fun k hk => h k (by omega)), mod_bit, hT, h n (by omega)]
    congr 1
    cases v.testBit n
    · simpa using h0.symm
    · simp
end Go.Proofs.YthddjfaeacmlhaaDoor.Sums

/- Eight steps by a table; the other sum, its remainders taken at each byte or later. -/
namespace Go.Proofs.YthddjfaeacmlhaaDoor.Sums

/-- Eight steps: the lowest byte's by a table, the others come down. -/
theorem eight_table (x : Nat) : steps 8 x = steps 8 (x % 256) ^^^ x / 256 := by
  have e : x = x % 256 ^^^ x / 256 * 2 ^ 8 := by
    apply Nat.eq_of_testBit_eq
    intro j
    have h1 : x % 256 = x % 2 ^ 8 := rfl
    rw [Nat.testBit_xor, h1, Nat.testBit_mod_two_pow, Nat.testBit_mul_two_pow, show x / 256 = x / 2 ^ 8 by rfl, Nat.testBit_div_two_pow]
    by_cases h : j < 8
    · have h2 : ¬ 8 ≤ j := by omega
      simp [h, h2]
    · have h2 : 8 ≤ j := by omega
      simp [h, h2]
  have k : steps 8 x = steps 8 (x % 256 ^^^ x / 256 * 2 ^ 8) := congrArg (steps 8) e
  rw [k, steps_xor, steps_down]
theorem byteStep_table (c b : Nat) (hb : b < 256) : byteStep c b = steps 8 ((c ^^^ b) % 256) ^^^ c / 256 := by
  rw [byteStep_eq, eight_table]
  congr 1
  have h := Nat.shiftRight_xor_distrib (a := c) (b := b) (i := 8)
  rw [Nat.shiftRight_eq_div_pow, Nat.shiftRight_eq_div_pow, Nat.shiftRight_eq_div_pow, show (2 : Nat) ^ 8 = 256 by rfl, Nat.div_eq_of_lt hb, Nat.xor_zero] at h
  exact h

/-- The other sum's two halves behind a byte. -/
def adlStep (s : Nat × Nat) (b : Nat) : Nat × Nat := ((s.1 + b) % 65521, (s.2 + (s.1 + b) % 65521) % 65521)
def adls (s : Nat × Nat) (l : List Nat) : Nat × Nat := l.foldl adlStep s
def adler (l : List Nat) : Nat := 65536 * (adls (1, 0) l).2 + (adls (1, 0) l).1
theorem adls_nil (s : Nat × Nat) : adls s [] = s := rfl
theorem adls_cons (s : Nat × Nat) (b : Nat) (l : List Nat) : adls s (b :: l) = adls (adlStep s b) l := rfl
theorem adls_append (s : Nat × Nat) (a b : List Nat) : adls s (a ++ b) = adls (adls s a) b := List.foldl_append
theorem adls_lt (s : Nat × Nat) (l : List Nat) (h : s.1 < 65521 ∧ s.2 < 65521) : (adls s l).1 < 65521 ∧ (adls s l).2 < 65521 := by
  induction l generalizing s with
  | nil => exact h
  | cons b l ih => exact ih _ ⟨Nat.mod_lt _ (by omega), Nat.mod_lt _ (by omega)⟩
theorem adler_parts (l : List Nat) : adler l % 65536 = (adls (1, 0) l).1 ∧ adler l / 65536 = (adls (1, 0) l).2 := by
  have h := adls_lt (1, 0) l ⟨by decide, by decide⟩
  unfold adler
  omega
theorem adler_lt (l : List Nat) : adler l < 2 ^ 32 := by
  have h := adls_lt (1, 0) l ⟨by decide, by decide⟩
  unfold adler
  omega
theorem adler_more (a b : List Nat) : 65536 * (adls (adler a % 65536, adler a / 65536) b).2 + (adls (adler a % 65536, adler a / 65536) b).1 = adler (a ++ b) := by
  obtain ⟨h1, h2⟩ := adler_parts a
  rw [h1, h2]
  unfold adler
  rw [adls_append]

/-- The same without remainders: they may be taken later. -/
def rawStep (s : Nat × Nat) (b : Nat) : Nat × Nat := (s.1 + b, s.2 + (s.1 + b))
def raws (s : Nat × Nat) (l : List Nat) : Nat × Nat := l.foldl rawStep s
theorem raws_adls (s t : Nat × Nat) (l : List Nat) (h1 : s.1 % 65521 = t.1 % 65521) (h2 : s.2 % 65521 = t.2 % 65521) : (raws s l).1 % 65521 = (adls t l).1 % 65521 ∧ (raws s l).2 % 65521 = (adls t l).2 % 65521 := by
  induction l generalizing s t with
  | nil => exact ⟨h1, h2⟩
  | cons b l ih =>
    refine ih (rawStep s b) (adlStep t b) ?_ ?_
    · simp only [rawStep, adlStep]; omega
    · simp only [rawStep, adlStep]; omega
theorem raws_lt (s : Nat × Nat) (l : List Nat) (hl : ∀ b ∈ l, b < 256) : (raws s l).1 ≤ s.1 + 255 * l.length ∧ (raws s l).2 ≤ s.2 + l.length * (s.1 + 255 * l.length) := by
  induction l generalizing s with
  | nil => simp [raws]
  | cons b l ih =>
    have hb := hl b (List.mem_cons_self ..)
    obtain ⟨i1, i2⟩ := ih (rawStep s b) (fun x hx => hl x (List.mem_cons_of_mem _ hx))
    have e : raws s (b :: l) = raws (rawStep s b) l := rfl
    rw [e]
    simp only [rawStep, List.length_cons] at i1 i2 ⊢
    refine ⟨by omega, Nat.le_trans i2 ?_⟩
    have h1 : l.length * (s.1 + b + 255 * l.length) ≤ l.length * (s.1 + 255 * (l.length + 1)) := Nat.mul_le_mul_left _ (by omega)
    have h2 : (l.length + 1) * (s.1 + 255 * (l.length + 1)) = l.length * (s.1 + 255 * (l.length + 1)) + (s.1 + 255 * (l.length + 1)) := by rw [Nat.add_mul, Nat.one_mul]
    omega
end Go.Proofs.YthddjfaeacmlhaaDoor.Sums
