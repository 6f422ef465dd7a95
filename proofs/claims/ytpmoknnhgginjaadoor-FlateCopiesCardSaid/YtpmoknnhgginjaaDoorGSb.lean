/- Texts of a layer, one behind the other. -/
import Derived.WalkKit
import Derived.Test.YtpmoknnhgginjaaDoorProg
import Derived.Laws.BitsAllLaws
import Derived.WalkLawsBesides
import Derived.OneCell
import Derived.Lib.Hide
import Derived.BigQuiet
import Derived.Deep.QuietTactic
import Derived.Deep.LoopGhost
import Derived.Laws.CopyOwn
import Derived.Outline
import Derived.Maps.AppendAt
import Derived.Deep.DeepMust
import Derived.OwnWalk
import Derived.Laws.AppendOwnNone
/- The two sums as plain data: a polynomial's remainder bit by bit, on numbers of any size; what follows of it for texts joined, xored, turned. -/
namespace Go.Proofs.YtpmoknnhgginjaaDoor.Su.Sums

def poly : Nat := 3988292384
/-- One bit's step. -/
def step (c : Nat) : Nat := if c % 2 = 1 then c / 2 ^^^ poly else c / 2
def steps : Nat → Nat → Nat
  | 0, c => c
  | n + 1, c => steps n (step c)

theorem half_xor (a b : Nat) : (a ^^^ b) / 2 = a / 2 ^^^ b / 2 := by
  have h := Nat.shiftRight_xor_distrib (a := a) (b := b) (i := 1)
  simpa [Nat.shiftRight_succ] using h
theorem odd_xor (a b : Nat) : (a ^^^ b) % 2 = (a % 2 + b % 2) % 2 := by
  have h := Nat.xor_mod_two_pow (a := a) (b := b) (n := 1)
  simp only [Nat.pow_one] at h
  rw [h]
  rcases Nat.mod_two_eq_zero_or_one a with e | e <;> rcases Nat.mod_two_eq_zero_or_one b with e2 | e2 <;> rw [e, e2] <;> rfl

theorem step_xor (a b : Nat) : step (a ^^^ b) = step a ^^^ step b := by
  unfold step
  rw [odd_xor, half_xor]
  rcases Nat.mod_two_eq_zero_or_one a with e | e <;> rcases Nat.mod_two_eq_zero_or_one b with e2 | e2 <;> rw [e, e2]
  · simp
  · simp [Nat.xor_assoc]
  · simp only [Nat.reduceAdd, Nat.reduceMod, if_true]
    simp only [Nat.zero_ne_one, if_false]
    rw [Nat.xor_assoc, Nat.xor_comm (b / 2), ← Nat.xor_assoc]
  · simp only [Nat.reduceAdd, Nat.reduceMod, if_true]
    simp only [Nat.zero_ne_one, if_false]
    rw [Nat.xor_assoc, Nat.xor_comm poly, Nat.xor_assoc, Nat.xor_self, Nat.xor_zero]
theorem steps_xor (n a b : Nat) : steps n (a ^^^ b) = steps n a ^^^ steps n b := by
  induction n generalizing a b with
  | zero => rfl
  | succ n ih => simp only [steps, step_xor, ih]
theorem steps_add (m n c : Nat) : steps (m + n) c = steps n (steps m c) := by
  induction m generalizing c with
  | zero => simp [steps]
  | succ m ih => rw [show m + 1 + n = (m + n) + 1 by omega]; simp only [steps, ih]
theorem step_zero : step 0 = 0 := rfl
theorem steps_zero (n : Nat) : steps n 0 = 0 := by
  induction n with
  | zero => rfl
  | succ n ih => simp only [steps, step_zero, ih]
theorem step_lt {c : Nat} (h : c < 2 ^ 32) : step c < 2 ^ 32 := by
  unfold step
  split
  · exact Nat.xor_lt_two_pow (by omega) (by decide)
  · omega
theorem steps_lt {c : Nat} (n : Nat) (h : c < 2 ^ 32) : steps n c < 2 ^ 32 := by
  induction n generalizing c with
  | zero => exact h
  | succ n ih => exact ih (step_lt h)
theorem step_ne {c : Nat} (h : c < 2 ^ 32) (h0 : c ≠ 0) : step c ≠ 0 := by
  unfold step
  split
  · intro e
    have e2 : c / 2 = poly := by
      have e3 : (c / 2 ^^^ poly) ^^^ poly = 0 ^^^ poly := by rw [e]
      rw [Nat.xor_assoc, Nat.xor_self, Nat.xor_zero, Nat.zero_xor] at e3
      exact e3
    simp only [poly] at e2
    omega
  · omega
theorem steps_ne {c : Nat} (n : Nat) (h : c < 2 ^ 32) (h0 : c ≠ 0) : steps n c ≠ 0 := by
  induction n generalizing c with
  | zero => exact h0
  | succ n ih => exact ih (step_lt h) (step_ne h h0)
/-- Bits that stand higher only come down. -/
theorem steps_down (n c : Nat) : steps n (c * 2 ^ n) = c := by
  induction n generalizing c with
  | zero => simp [steps]
  | succ n ih =>
    have e : step (c * 2 ^ (n + 1)) = c * 2 ^ n := by
      unfold step
      rw [if_neg (by rw [Nat.pow_succ, ← Nat.mul_assoc]; omega), Nat.pow_succ, ← Nat.mul_assoc, Nat.mul_div_cancel _ (by omega)]
    simp only [steps, e, ih]

/-- A text's number, its first byte the lowest. -/
def num : List Nat → Nat
  | [] => 0
  | b :: l => b ^^^ num l * 256
/-- The remainder, from a state on. -/
def byteStep (c b : Nat) : Nat := steps 8 (c ^^^ b)
def crcs (c : Nat) (l : List Nat) : Nat := l.foldl byteStep c
def crc (l : List Nat) : Nat := crcs 4294967295 l ^^^ 4294967295

theorem crcs_nil (c : Nat) : crcs c [] = c := rfl
theorem crcs_cons (c b : Nat) (l : List Nat) : crcs c (b :: l) = crcs (byteStep c b) l := rfl
theorem byteStep_eq (c b : Nat) : byteStep c b = steps 8 (c ^^^ b) := rfl
theorem num_nil : num [] = 0 := rfl
theorem num_cons (b : Nat) (l : List Nat) : num (b :: l) = b ^^^ num l * 256 := rfl
theorem steps_nil (c : Nat) : steps 0 c = c := rfl
theorem steps_cons (n c : Nat) : steps (n + 1) c = steps n (step c) := rfl

theorem crcs_num (c : Nat) (l : List Nat) : crcs c l = steps (8 * l.length) (c ^^^ num l) := by
  induction l generalizing c with
  | nil => rw [crcs_nil, num_nil, Nat.xor_zero, List.length_nil, Nat.mul_zero, steps_nil]
  | cons b l ih =>
    have h := steps_down 8 (num l)
    rw [show (2 : Nat) ^ 8 = 256 by rfl] at h
    rw [crcs_cons, ih, num_cons, List.length_cons, show 8 * (l.length + 1) = 8 + 8 * l.length by omega, steps_add, ← Nat.xor_assoc, steps_xor 8 (c ^^^ b), h, byteStep_eq]
theorem crcs_append (c : Nat) (a b : List Nat) : crcs c (a ++ b) = crcs (crcs c a) b := List.foldl_append
theorem crcs_lt (c : Nat) (l : List Nat) (h : c < 2 ^ 32) (hl : ∀ b ∈ l, b < 256) : crcs c l < 2 ^ 32 := by
  induction l generalizing c with
  | nil => exact h
  | cons b l ih =>
    have hb : b < 2 ^ 32 := by have := hl b (List.mem_cons_self ..); omega
    have h1 : c ^^^ b < 2 ^ 32 := Nat.xor_lt_two_pow h hb
    have h2 := steps_lt 8 h1
    rw [← byteStep_eq] at h2
    rw [crcs_cons]
    exact ih _ h2 (fun x hx => hl x (List.mem_cons_of_mem _ hx))
theorem crc_lt (l : List Nat) (hl : ∀ b ∈ l, b < 256) : crc l < 2 ^ 32 := by
  unfold crc
  exact Nat.xor_lt_two_pow (crcs_lt _ _ (by omega) hl) (by omega)
/-- A state more. -/
theorem crcs_more (c d : Nat) (l : List Nat) : crcs (c ^^^ d) l = steps (8 * l.length) c ^^^ crcs d l := by
  rw [crcs_num, crcs_num, Nat.xor_assoc, steps_xor]
theorem crcs_zero (c n : Nat) : crcs c (List.replicate n 0) = steps (8 * n) c := by
  induction n generalizing c with
  | zero => rfl
  | succ n ih => rw [List.replicate_succ, crcs_cons, ih, byteStep_eq, Nat.xor_zero, ← steps_add, show 8 + 8 * n = 8 * (n + 1) by omega]
/-- Of a text's sum and what stands behind. -/
theorem crc_more (a b : List Nat) : crcs (crc a ^^^ 4294967295) b ^^^ 4294967295 = crc (a ++ b) := by
  unfold crc
  rw [Nat.xor_assoc, Nat.xor_self, Nat.xor_zero, crcs_append]
/-- Of two texts' sums. -/
theorem crc_join (a b : List Nat) : crc (a ++ b) = steps (8 * b.length) (crc a) ^^^ crc b := by
  have e : crc b = crcs 4294967295 b ^^^ 4294967295 := rfl
  rw [← crc_more, crcs_more, e, Nat.xor_assoc]

/-- Two texts of one length, xored. -/
def xors (a b : List Nat) : List Nat := List.zipWith (· ^^^ ·) a b
theorem num_xors (a b : List Nat) (h : a.length = b.length) : num (xors a b) = num a ^^^ num b := by
  induction a generalizing b with
  | nil => cases b with
    | nil => rfl
    | cons y b => simp at h
  | cons x a ih => cases b with
    | nil => simp at h
    | cons y b =>
      simp only [xors, List.zipWith_cons_cons, num] at ih ⊢
      rw [ih b (by simpa using h)]
      have e : (num a ^^^ num b) * 256 = num a * 256 ^^^ num b * 256 := by
        have h := Nat.shiftLeft_xor_distrib (a := num a) (b := num b) (i := 8)
        simpa [Nat.shiftLeft_eq] using h
      rw [e]
      rw [Nat.xor_assoc, Nat.xor_assoc, ← Nat.xor_assoc y, Nat.xor_comm y, Nat.xor_assoc (num a * 256)]
theorem xors_length (a b : List Nat) (h : a.length = b.length) : (xors a b).length = a.length := by simp [xors, h]
theorem crcs_xors (c d : Nat) (a b : List Nat) (h : a.length = b.length) : crcs (c ^^^ d) (xors a b) = crcs c a ^^^ crcs d b := by
  rw [crcs_num, crcs_num, crcs_num, num_xors a b h, xors_length a b h, ← h, ← steps_xor]
  congr 1
  rw [Nat.xor_assoc, Nat.xor_assoc, ← Nat.xor_assoc d, Nat.xor_comm d, Nat.xor_assoc (num a)]
/-- Three texts of one length. -/
theorem crc_three (a b c : List Nat) (hb : a.length = b.length) (hc : a.length = c.length) : crc a ^^^ crc b ^^^ crc c = crc (xors (xors a b) c) := by
  have h := crcs_xors (4294967295 ^^^ 4294967295) 4294967295 (xors a b) c (by rw [xors_length a b hb, hc])
  rw [crcs_xors _ _ a b hb, Nat.xor_self, Nat.zero_xor] at h
  unfold crc
  rw [h]
  have e : ∀ x y z f : Nat, (x ^^^ f) ^^^ (y ^^^ f) ^^^ (z ^^^ f) = x ^^^ y ^^^ z ^^^ f := by
    intro x y z f
    rw [Nat.xor_assoc x f, ← Nat.xor_assoc f y, Nat.xor_comm f y, Nat.xor_assoc y f f, Nat.xor_self, Nat.xor_zero, ← Nat.xor_assoc]
  exact e _ _ _ _
/-- Up to thirty-two bits in a row. -/
theorem crc_burst (a b : List Nat) (h : a.length = b.length) (w at_ : Nat) (hw : w < 2 ^ 32) (h0 : w ≠ 0) (hat : at_ ≤ 8 * a.length) (hn : num b = num a ^^^ w * 2 ^ at_) : crc a ≠ crc b := by
  intro e
  have e1 : crcs 4294967295 a = crcs 4294967295 b := by
    have e2 : crc a ^^^ 4294967295 = crc b ^^^ 4294967295 := by rw [e]
    unfold crc at e2
    rw [Nat.xor_assoc, Nat.xor_assoc, Nat.xor_self, Nat.xor_zero, Nat.xor_zero] at e2
    exact e2
  rw [crcs_num, crcs_num, ← h, hn, ← Nat.xor_assoc, steps_xor _ (4294967295 ^^^ num a)] at e1
  have e3 : steps (8 * a.length) (w * 2 ^ at_) = 0 := by
    have e4 : ∀ x y : Nat, x = x ^^^ y → y = 0 := by
      intro x y hxy
      have : x ^^^ x = x ^^^ (x ^^^ y) := by rw [← hxy]
      rw [Nat.xor_self, ← Nat.xor_assoc, Nat.xor_self, Nat.zero_xor] at this
      exact this.symm
    exact e4 _ _ e1
  rw [show 8 * a.length = at_ + (8 * a.length - at_) by omega, steps_add, steps_down] at e3
  exact steps_ne _ hw h0 e3
/-- One bit of one byte turned. -/
theorem num_turn (l : List Nat) (i j : Nat) (hi : i < l.length) : num (l.set i (l[i] ^^^ 2 ^ j)) = num l ^^^ 2 ^ (8 * i + j) := by
  induction l generalizing i with
  | nil => simp at hi
  | cons b l ih =>
    cases i with
    | zero =>
      simp only [List.set_cons_zero, List.getElem_cons_zero, num, Nat.mul_zero, Nat.zero_add]
      rw [Nat.xor_assoc, Nat.xor_comm (2 ^ j), ← Nat.xor_assoc]
    | succ i =>
      simp only [List.set_cons_succ, List.getElem_cons_succ, num]
      rw [ih i (by simpa using hi)]
      have e : (num l ^^^ 2 ^ (8 * i + j)) * 256 = num l * 256 ^^^ 2 ^ (8 * (i + 1) + j) := by
        have h := Nat.shiftLeft_xor_distrib (a := num l) (b := 2 ^ (8 * i + j)) (i := 8)
        rw [Nat.shiftLeft_eq, Nat.shiftLeft_eq, Nat.shiftLeft_eq] at h
        rw [show 2 ^ (8 * (i + 1) + j) = 2 ^ (8 * i + j) * 2 ^ 8 by rw [← Nat.pow_add]; congr 1; omega]
        exact h
      rw [e, ← Nat.xor_assoc]
/-- The turned bits so far. -/
theorem turn_more (v k at_ : Nat) : (v % 2 ^ (k + 1)) * 2 ^ at_ = (v % 2 ^ k) * 2 ^ at_ ^^^ (if v / 2 ^ k % 2 = 1 then 2 ^ (at_ + k) else 0) := by
  have e : v % 2 ^ (k + 1) = v % 2 ^ k + 2 ^ k * (v / 2 ^ k % 2) := by rw [Nat.pow_succ, Nat.mod_mul]
  have hlt : v % 2 ^ k < 2 ^ k := Nat.mod_lt _ (Nat.two_pow_pos k)
  rcases Nat.mod_two_eq_zero_or_one (v / 2 ^ k) with h | h
  · rw [e, h]; simp
  · rw [e, h, if_pos rfl, Nat.mul_one]
    have e2 : v % 2 ^ k + 2 ^ k = v % 2 ^ k ^^^ 2 ^ k := by
      apply Nat.eq_of_testBit_eq
      intro j
      rw [Nat.testBit_xor, Nat.testBit_two_pow, Nat.add_comm]
      by_cases hj : j = k
      · subst hj
        rw [Nat.testBit_two_pow_add_eq, Nat.testBit_lt_two_pow hlt]
        simp
      · rcases Nat.lt_or_gt_of_ne hj with hjk | hjk
        · rw [Nat.testBit_two_pow_add_gt hjk]
          have : ¬ k = j := fun h => hj h.symm
          simp [this]
        · have h1 : 2 ^ k + v % 2 ^ k < 2 ^ j := by
            have : 2 ^ (k + 1) ≤ 2 ^ j := Nat.pow_le_pow_right (by omega) hjk
            rw [Nat.pow_succ] at this
            omega
          have h2 : v % 2 ^ k < 2 ^ j := by omega
          rw [Nat.testBit_lt_two_pow h1, Nat.testBit_lt_two_pow h2]
          have : ¬ k = j := fun h => hj h.symm
          simp [this]
    rw [e2]
    have h := Nat.shiftLeft_xor_distrib (a := v % 2 ^ k) (b := 2 ^ k) (i := at_)
    rw [Nat.shiftLeft_eq, Nat.shiftLeft_eq, Nat.shiftLeft_eq] at h
    rw [h, ← Nat.pow_add, Nat.add_comm k]
end Go.Proofs.YtpmoknnhgginjaaDoor.Su.Sums

/- Steps by the number, with products of remainders or with columns: whatever way a join is reckoned. -/
namespace Go.Proofs.YtpmoknnhgginjaaDoor.Su.Sums

def one : Nat := 2147483648
theorem one_eq : one = 2 ^ 31 := rfl

theorem steps_step (n c : Nat) : steps n (step c) = step (steps n c) := by
  have h := steps_add 1 n c
  have h2 := steps_add n 1 c
  rw [Nat.add_comm 1 n] at h
  exact h.symm.trans h2
theorem steps_comm (m n c : Nat) : steps m (steps n c) = steps n (steps m c) := by
  rw [← steps_add, ← steps_add, Nat.add_comm]

/-- The first k terms of a product of remainders. -/
def mulk (a b : Nat) : Nat → Nat
  | 0 => 0
  | k + 1 => mulk a b k ^^^ (if a.testBit (31 - k) then steps k b else 0)
def mul (a b : Nat) : Nat := mulk a b 32
theorem mulk_zero (a b : Nat) : mulk a b 0 = 0 := rfl
theorem mulk_succ (a b k : Nat) : mulk a b (k + 1) = mulk a b k ^^^ (if a.testBit (31 - k) then steps k b else 0) := rfl

theorem xor_swap (a b c d : Nat) : (a ^^^ b) ^^^ (c ^^^ d) = (a ^^^ c) ^^^ (b ^^^ d) := by
  rw [Nat.xor_assoc, Nat.xor_assoc, ← Nat.xor_assoc b, Nat.xor_comm b c, Nat.xor_assoc c]

theorem mulk_xor (a a' b k : Nat) : mulk (a ^^^ a') b k = mulk a b k ^^^ mulk a' b k := by
  induction k with
  | zero => simp [mulk_zero]
  | succ k ih =>
    rw [mulk_succ, mulk_succ, mulk_succ, ih, Nat.testBit_xor, xor_swap]
    congr 1
    cases a.testBit (31 - k) <;> cases a'.testBit (31 - k) <;> simp
theorem mulk_xor_right (a b b' k : Nat) : mulk a (b ^^^ b') k = mulk a b k ^^^ mulk a b' k := by
  induction k with
  | zero => simp [mulk_zero]
  | succ k ih =>
    rw [mulk_succ, mulk_succ, mulk_succ, ih, steps_xor, xor_swap]
    congr 1
    cases a.testBit (31 - k) <;> simp
theorem mulk_step (a b k : Nat) : mulk a (step b) k = step (mulk a b k) := by
  induction k with
  | zero => rw [mulk_zero, mulk_zero, step_zero]
  | succ k ih =>
    rw [mulk_succ, mulk_succ, ih, step_xor, steps_step]
    congr 1
    cases a.testBit (31 - k)
    · simp [step_zero]
    · simp
theorem mulk_steps (a b n k : Nat) : mulk a (steps n b) k = steps n (mulk a b k) := by
  induction n generalizing b with
  | zero => rfl
  | succ n ih => rw [steps_cons, ih, mulk_step, steps_cons]
theorem mulk_none (a k : Nat) : mulk a 0 k = 0 := by
  induction k with
  | zero => rfl
  | succ k ih => rw [mulk_succ, ih, steps_zero]; simp

theorem mulk_one (b k : Nat) (h : k ≤ 31) : mulk one b (k + 1) = b := by
  induction k with
  | zero => rw [mulk_succ, mulk_zero, one_eq, Nat.testBit_two_pow]; simp [steps_nil]
  | succ k ih =>
    rw [mulk_succ, ih (by omega), one_eq, Nat.testBit_two_pow]
    have : decide (31 = 31 - (k + 1)) = false := by simp; omega
    rw [this]
    simp
theorem mul_one (b : Nat) : mul one b = b := mulk_one b 31 (Nat.le_refl _)

theorem mulk_half (a b : Nat) (ha : a < 2 ^ 32) (k : Nat) (hk : k ≤ 31) : mulk (a / 2) b (k + 1) = step (mulk a b k) := by
  induction k with
  | zero =>
    rw [mulk_succ, mulk_zero, mulk_zero, Nat.testBit_div_two]
    have : a.testBit 32 = false := Nat.testBit_lt_two_pow ha
    simp [this, step_zero]
  | succ k ih =>
    rw [mulk_succ, ih (by omega), mulk_succ a b k, step_xor, Nat.testBit_div_two, show 31 - (k + 1) + 1 = 31 - k by omega]
    congr 1
    cases a.testBit (31 - k)
    · simp [step_zero]
    · simp [steps_cons, steps_step]

theorem poly_one : mul poly one = steps 32 one := by decide +kernel

/-- A number's next bit. -/
theorem mod_bit (v k : Nat) : v % 2 ^ (k + 1) = v % 2 ^ k ^^^ (if v.testBit k then 2 ^ k else 0) := by
  have h := turn_more v k 0
  simp only [Nat.pow_zero, Nat.mul_one, Nat.zero_add] at h
  rw [h]
  congr 1
  rw [Nat.testBit_eq_decide_div_mod_eq]
  by_cases e : v / 2 ^ k % 2 = 1 <;> simp [e]

/-- What is linear is known by its values at the bits. -/
theorem by_bits (S T : Nat → Nat) (hS : ∀ a b, S (a ^^^ b) = S a ^^^ S b) (hT : ∀ a b, T (a ^^^ b) = T a ^^^ T b) (h0 : S 0 = T 0) (n : Nat) (h : ∀ k, k < n → S (2 ^ k) = T (2 ^ k)) (v : Nat) (hv : v < 2 ^ n) : S v = T v := by
  have key : ∀ k, k ≤ n → S (v % 2 ^ k) = T (v % 2 ^ k) := by
    intro k
    induction k with
    | zero => intro _; rw [Nat.pow_zero, Nat.mod_one]; exact h0
    | succ k ih =>
      intro hk
      rw [mod_bit, hS, hT, ih (by omega)]
      congr 1
      cases v.testBit k
      · simpa using h0
      · simpa using h k (by omega)
  have e := key n (Nat.le_refl _)
  rw [Nat.mod_eq_of_lt hv] at e
  exact e

theorem two_pow_steps (j : Nat) (h : j ≤ 31) : 2 ^ j = steps (31 - j) one := by
  have e := steps_down (31 - j) (2 ^ j)
  rw [← Nat.pow_add, show j + (31 - j) = 31 by omega] at e
  rw [one_eq]
  exact e.symm
theorem poly_mul (b : Nat) (hb : b < 2 ^ 32) : mul poly b = steps 32 b := by
  refine by_bits (mul poly) (steps 32) (fun x y => mulk_xor_right poly x y 32) (fun x y => steps_xor 32 x y) ?_ 32 ?_ b hb
  · rw [steps_zero]; exact mulk_none poly 32
  · intro k hk
    rw [two_pow_steps k (by omega), steps_comm 32 (31 - k) one, ← poly_one]
    exact mulk_steps poly one (31 - k) 32

theorem mul_step (a b : Nat) (ha : a < 2 ^ 32) (hb : b < 2 ^ 32) : mul (step a) b = step (mul a b) := by
  have e1 : mul (a / 2) b = step (mulk a b 31) := mulk_half a b ha 31 (Nat.le_refl _)
  have e2 : mul a b = mulk a b 31 ^^^ (if a.testBit 0 then steps 31 b else 0) := rfl
  have e3 : a.testBit 0 = decide (a % 2 = 1) := by simp
  have e4 : step (steps 31 b) = steps 32 b := (steps_step 31 b).symm
  have e5 : ∀ x y, mul (x ^^^ y) b = mul x b ^^^ mul y b := fun x y => mulk_xor x y b 32
  rw [e2, step_xor, e3]
  unfold step
  by_cases h : a % 2 = 1
  · rw [if_pos h, e5, e1, poly_mul b hb]
    simp only [h, decide_true, if_true]
    rw [← e4]
    rfl
  · rw [if_neg h, e1]
    simp only [h, decide_false, Bool.false_eq_true, if_false]
    have e6 : step 0 = 0 := rfl
    unfold step at e6 ⊢
    rw [e6, Nat.xor_zero]
/-- A power times a remainder: so many steps. -/
theorem mul_steps (m b : Nat) (hb : b < 2 ^ 32) : mul (steps m one) b = steps m b := by
  induction m with
  | zero => exact mul_one b
  | succ m ih =>
    rw [steps_cons, steps_step, mul_step _ _ (steps_lt m (by decide)) hb, ih, steps_cons, steps_step]
theorem mul_powers (m n : Nat) : mul (steps m one) (steps n one) = steps (m + n) one := by
  rw [mul_steps m _ (steps_lt n (by decide)), ← steps_add, Nat.add_comm]
theorem one_lt : one < 2 ^ 32 := by decide
theorem mul_lt (a b : Nat) (hb : b < 2 ^ 32) : mul a b < 2 ^ 32 := by
  have key : ∀ k, mulk a b k < 2 ^ 32 := by
    intro k
    induction k with
    | zero => rw [mulk_zero]; decide
    | succ k ih =>
      rw [mulk_succ]
      refine Nat.xor_lt_two_pow ih ?_
      split
      · exact steps_lt k hb
      · decide
  exact key 32

/-- The columns of what is linear, laid over a number's bits. -/
def laidk (f : Nat → Nat) (v : Nat) : Nat → Nat
  | 0 => 0
  | k + 1 => laidk f v k ^^^ (if v.testBit k then f k else 0)
theorem laidk_succ (f : Nat → Nat) (v k : Nat) : laidk f v (k + 1) = laidk f v k ^^^ (if v.testBit k then f k else 0) := rfl
theorem laidk_eq (T f : Nat → Nat) (hT : ∀ a b, T (a ^^^ b) = T a ^^^ T b) (h0 : T 0 = 0) (n : Nat) (h : ∀ k, k < n → f k = T (2 ^ k)) (v : Nat) : laidk f v n = T (v % 2 ^ n) := by
  induction n with
  | zero => rw [Nat.pow_zero, Nat.mod_one, h0]; rfl
  | succ n ih =>
    rw [laidk_succ, ih (fun k hk => h k (by omega)), mod_bit, hT, h n (by omega)]
    congr 1
    cases v.testBit n
    · simpa using h0.symm
    · simp
end Go.Proofs.YtpmoknnhgginjaaDoor.Su.Sums

/- Eight steps by a table; the other sum, its remainders taken at each byte or later. -/
namespace Go.Proofs.YtpmoknnhgginjaaDoor.Su.Sums

/-- Eight steps: the lowest byte's by a table, the others come down. -/
theorem eight_table (x : Nat) : steps 8 x = steps 8 (x % 256) ^^^ x / 256 := by
  have e : x = x % 256 ^^^ x / 256 * 2 ^ 8 := by
    apply Nat.eq_of_testBit_eq
    intro j
    have h1 : x % 256 = x % 2 ^ 8 := rfl
    rw [Nat.testBit_xor, h1, Nat.testBit_mod_two_pow, Nat.testBit_mul_two_pow, show x / 256 = x / 2 ^ 8 by rfl, Nat.testBit_div_two_pow]
    by_cases h : j < 8
    · have h2 : ¬ 8 ≤ j := by omega
      simp [h, h2]
    · have h2 : 8 ≤ j := by omega
      simp [h, h2]
  have k : steps 8 x = steps 8 (x % 256 ^^^ x / 256 * 2 ^ 8) := congrArg (steps 8) e
  rw [k, steps_xor, steps_down]
theorem byteStep_table (c b : Nat) (hb : b < 256) : byteStep c b = steps 8 ((c ^^^ b) % 256) ^^^ c / 256 := by
  rw [byteStep_eq, eight_table]
  congr 1
  have h := Nat.shiftRight_xor_distrib (a := c) (b := b) (i := 8)
  rw [Nat.shiftRight_eq_div_pow, Nat.shiftRight_eq_div_pow, Nat.shiftRight_eq_div_pow, show (2 : Nat) ^ 8 = 256 by rfl, Nat.div_eq_of_lt hb, Nat.xor_zero] at h
  exact h

/-- The other sum's two halves behind a byte. -/
def adlStep (s : Nat × Nat) (b : Nat) : Nat × Nat := ((s.1 + b) % 65521, (s.2 + (s.1 + b) % 65521) % 65521)
def adls (s : Nat × Nat) (l : List Nat) : Nat × Nat := l.foldl adlStep s
def adler (l : List Nat) : Nat := 65536 * (adls (1, 0) l).2 + (adls (1, 0) l).1
theorem adls_nil (s : Nat × Nat) : adls s [] = s := rfl
theorem adls_cons (s : Nat × Nat) (b : Nat) (l : List Nat) : adls s (b :: l) = adls (adlStep s b) l := rfl
theorem adls_append (s : Nat × Nat) (a b : List Nat) : adls s (a ++ b) = adls (adls s a) b := List.foldl_append
theorem adls_lt (s : Nat × Nat) (l : List Nat) (h : s.1 < 65521 ∧ s.2 < 65521) : (adls s l).1 < 65521 ∧ (adls s l).2 < 65521 := by
  induction l generalizing s with
  | nil => exact h
  | cons b l ih => exact ih _ ⟨Nat.mod_lt _ (by omega), Nat.mod_lt _ (by omega)⟩
theorem adler_parts (l : List Nat) : adler l % 65536 = (adls (1, 0) l).1 ∧ adler l / 65536 = (adls (1, 0) l).2 := by
  have h := adls_lt (1, 0) l ⟨by decide, by decide⟩
  unfold adler
  omega
theorem adler_lt (l : List Nat) : adler l < 2 ^ 32 := by
  have h := adls_lt (1, 0) l ⟨by decide, by decide⟩
  unfold adler
  omega
theorem adler_more (a b : List Nat) : 65536 * (adls (adler a % 65536, adler a / 65536) b).2 + (adls (adler a % 65536, adler a / 65536) b).1 = adler (a ++ b) := by
  obtain ⟨h1, h2⟩ := adler_parts a
  rw [h1, h2]
  unfold adler
  rw [adls_append]

/-- The same without remainders: they may be taken later. -/
def rawStep (s : Nat × Nat) (b : Nat) : Nat × Nat := (s.1 + b, s.2 + (s.1 + b))
def raws (s : Nat × Nat) (l : List Nat) : Nat × Nat := l.foldl rawStep s
theorem raws_adls (s t : Nat × Nat) (l : List Nat) (h1 : s.1 % 65521 = t.1 % 65521) (h2 : s.2 % 65521 = t.2 % 65521) : (raws s l).1 % 65521 = (adls t l).1 % 65521 ∧ (raws s l).2 % 65521 = (adls t l).2 % 65521 := by
  induction l generalizing s t with
  | nil => exact ⟨h1, h2⟩
  | cons b l ih =>
    refine ih (rawStep s b) (adlStep t b) ?_ ?_
    · simp only [rawStep, adlStep]; omega
    · simp only [rawStep, adlStep]; omega
theorem raws_lt (s : Nat × Nat) (l : List Nat) (hl : ∀ b ∈ l, b < 256) : (raws s l).1 ≤ s.1 + 255 * l.length ∧ (raws s l).2 ≤ s.2 + l.length * (s.1 + 255 * l.length) := by
  induction l generalizing s with
  | nil => simp [raws]
  | cons b l ih =>
    have hb := hl b (List.mem_cons_self ..)
    obtain ⟨i1, i2⟩ := ih (rawStep s b) (fun x hx => hl x (List.mem_cons_of_mem _ hx))
    have e : raws s (b :: l) = raws (rawStep s b) l := rfl
    rw [e]
    simp only [rawStep, List.length_cons] at i1 i2 ⊢
    refine ⟨by omega, Nat.le_trans i2 ?_⟩
    have h1 : l.length * (s.1 + b + 255 * l.length) ≤ l.length * (s.1 + 255 * (l.length + 1)) := Nat.mul_le_mul_left _ (by omega)
    have h2 : (l.length + 1) * (s.1 + 255 * (l.length + 1)) = l.length * (s.1 + 255 * (l.length + 1)) + (s.1 + 255 * (l.length + 1)) := by rw [Nat.add_mul, Nat.one_mul]
    omega
end Go.Proofs.YtpmoknnhgginjaaDoor.Su.Sums

/- The contracts of step, times, bytesOn and CrcJoin; what the operators answer. -/
namespace Go.Proofs.YtpmoknnhgginjaaDoor.Su
open Go.RowKit
set_option linter.unusedVariables false

theorem u32_low (c : Nat) (hc : c < 4294967296) : bits .and .u32 (c : Int) 1 = ((c % 2 : Nat) : Int) := by
  have h := u32_and_nat c 1 hc (by omega)
  rw [nat_mask1] at h
  exact h
theorem u32_poly (c : Nat) (hc : c < 4294967296) : bits .xor .u32 ((c : Int) / 2) 3988292384 = ((c / 2 ^^^ Sums.poly : Nat) : Int) := u32_xor_nat (c / 2) 3988292384 (by omega) (by omega)

/-- The number of the top bit. -/
theorem top_bit (a k : Nat) (hk : k ≤ 31) : (a * 2 ^ k % 4294967296).testBit 31 = a.testBit (31 - k) := by
  rw [show (4294967296 : Nat) = 2 ^ 32 by rfl, Nat.testBit_mod_two_pow, Nat.testBit_mul_two_pow]
  simp [hk]
theorem low_bits (a k : Nat) (hk : k ≤ 32) (h : a * 2 ^ k % 4294967296 = 0) (j : Nat) (hj : k ≤ j) (hj2 : j ≤ 31) : a.testBit (31 - j) = false := by
  have e : (a * 2 ^ k % 4294967296).testBit (31 - j + k) = false := by rw [h]; simp
  rw [show (4294967296 : Nat) = 2 ^ 32 by rfl, Nat.testBit_mod_two_pow, Nat.testBit_mul_two_pow] at e
  simpa [show 31 - j + k < 32 by omega] using e
theorem mulk_done (a b k n : Nat) (hk : k + n ≤ 32) (h : a * 2 ^ k % 4294967296 = 0) : Sums.mulk a b (k + n) = Sums.mulk a b k := by
  induction n with
  | zero => rfl
  | succ n ih =>
    rw [← Nat.add_assoc, Sums.mulk_succ, ih (by omega), low_bits a k (by omega) h (k + n) (by omega) (by omega)]
    simp
theorem mul_done (a b k : Nat) (hk : k ≤ 32) (h : a * 2 ^ k % 4294967296 = 0) : Sums.mul a b = Sums.mulk a b k := by
  have e := mulk_done a b k (32 - k) (by omega) h
  rw [show k + (32 - k) = 32 by omega] at e
  exact e
theorem u32_top (x : Nat) (hx : x < 4294967296) : bits .and .u32 (x : Int) 2147483648 = if x.testBit 31 then 2147483648 else 0 := by
  have h := u32_and_nat x 2147483648 hx (by omega)
  rw [show (2147483648 : Nat) = 2 ^ 31 by rfl, nat_bit] at h
  rw [show (2147483648 : Int) = ((2147483648 : Nat) : Int) by rfl, show (2147483648 : Nat) = 2 ^ 31 by rfl, h]
  rw [Nat.testBit_eq_decide_div_mod_eq]
  rcases Nat.mod_two_eq_zero_or_one (x / 2 ^ 31) with e | e <;> simp [e]
theorem double_mod (a k : Nat) : ((a * 2 ^ k % 4294967296 : Nat) : Int) * 2 % 4294967296 = ((a * 2 ^ (k + 1) % 4294967296 : Nat) : Int) := by
  rw [Nat.pow_succ, ← Nat.mul_assoc]; omega

/-- The remainder of the power 8 m. -/
def pw (m : Nat) : Nat := Sums.steps (8 * m) Sums.one
theorem pw_eq (m : Nat) : pw m = Sums.steps (8 * m) Sums.one := rfl
theorem pw_zero : pw 0 = 2147483648 := by rw [pw_eq, Nat.mul_zero, Sums.steps_nil]; rfl
theorem pw_one : pw 1 = 8388608 := by
  have e := Sums.two_pow_steps 23 (by omega)
  rw [pw_eq, show 8 * 1 = 31 - 23 by rfl, ← e]
theorem pw_add (m n : Nat) : Sums.mul (pw m) (pw n) = pw (m + n) := by
  rw [pw_eq, pw_eq, Sums.mul_powers, pw_eq, Nat.mul_add]
theorem pw_lt (m : Nat) : pw m < 4294967296 := Sums.steps_lt _ Sums.one_lt
theorem mul_one_right (a : Nat) (ha : a < 2 ^ 32) : Sums.mul a Sums.one = a := by
  refine Sums.by_bits (fun a => Sums.mul a Sums.one) (fun a => a) (fun x y => Sums.mulk_xor x y Sums.one 32) (fun _ _ => rfl) ?_ 32 ?_ a ha
  · have h := Sums.mulk_xor 0 0 Sums.one 32
    rw [Nat.xor_self, Nat.xor_self] at h
    exact h
  · intro k hk
    show Sums.mul (2 ^ k) Sums.one = 2 ^ k
    rw [Sums.two_pow_steps k (by omega), Sums.mul_steps _ _ Sums.one_lt]
theorem mul_pw (a n : Nat) (ha : a < 4294967296) : Sums.mul a (pw n) = Sums.steps (8 * n) a := by
  have h : Sums.mul a (pw n) = Sums.steps (8 * n) (Sums.mul a Sums.one) := Sums.mulk_steps a Sums.one (8 * n) 32
  rw [h, mul_one_right a ha]

/-- n's lowest bits, a bit more. -/
theorem mod_more (n k : Nat) : n % 2 ^ (k + 1) = n % 2 ^ k + 2 ^ k * (n / 2 ^ k % 2) := by rw [Nat.pow_succ, Nat.mod_mul]
theorem i64_low (v : Nat) (h : v < 9223372036854775808) : bits .and .i64 (v : Int) 1 = ((v % 2 : Nat) : Int) := by
  show IntKind.i64.wrap ((BitVec.ofInt 64 (v : Int) &&& BitVec.ofInt 64 1).toNat : Int) = _
  have e1 : (BitVec.ofInt 64 1).toNat = 1 := by decide
  rw [BitVec.toNat_and, e1, Nat.and_one_is_mod, BitVec.toNat_ofInt]
  simp [IntKind.wrap, IntKind.bits, IntKind.signed]
  omega

/-- What CrcJoin answers. -/
def joined (a b : Nat) (n : Int) : Nat := if 0 ≤ n ∧ n ≤ 1099511627776 then Sums.steps (8 * n.toNat) a ^^^ b else 0
end Go.Proofs.YtpmoknnhgginjaaDoor.Su

/- Bytes in memory; the contracts of CrcMore, AdlerMore and of the document's Crc and Adler. -/
namespace Go.Proofs.YtpmoknnhgginjaaDoor.Su
open Go.RowKit
set_option linter.unusedVariables false

/-- Bytes that a slice value leads to. -/
def Bytes (w : World) (a : Option Addr) (n : Nat) (ys : List Nat) : Prop :=
  ys.length = n ∧ (∀ y ∈ ys, y < 256) ∧ (0 < n → ∃ b off, a = some ⟨b, off, none⟩ ∧ ∀ (j y : Nat), ys[j]? = some y → w.cell? ⟨b, off + j, none⟩ = some (.int .u8 (y : Int)))

theorem Bytes.later {w w' : World} {a : Option Addr} {n : Nat} {ys : List Nat} (h : Bytes w a n ys) (hk : ∀ k, k < w.heap.size → w'.heap[k]? = w.heap[k]?) : Bytes w' a n ys := by
  obtain ⟨h1, h2, h3⟩ := h
  refine ⟨h1, h2, fun hp => ?_⟩
  obtain ⟨b, off, e, hc⟩ := h3 hp
  exact ⟨b, off, e, fun j y hj => (World.cell?_of_block (w := w) (hk _ (World.block_lt_of_cell? w _ (hc j y hj)))).trans (hc j y hj)⟩
theorem Bytes.at {w : World} {a : Option Addr} {n i : Nat} {ys : List Nat} (h : Bytes w a n ys) (hi : i < n) : ∃ b off y, a = some ⟨b, off, none⟩ ∧ ys[i]? = some y ∧ y < 256 ∧ w.cell? ⟨b, off + i, none⟩ = some (.int .u8 (y : Int)) := by
  obtain ⟨h1, h2, h3⟩ := h
  obtain ⟨b, off, e, hc⟩ := h3 (by omega)
  have hl : i < ys.length := by omega
  exact ⟨b, off, ys[i], e, List.getElem?_eq_getElem hl, h2 _ (List.getElem_mem hl), hc i _ (List.getElem?_eq_getElem hl)⟩
theorem take_more {ys : List Nat} {i y : Nat} (h : ys[i]? = some y) : ys.take (i + 1) = ys.take i ++ [y] := by
  rw [List.take_add_one, h]; rfl
theorem take_lt {ys : List Nat} (h : ∀ y ∈ ys, y < 256) (i : Nat) : ∀ y ∈ ys.take i, y < 256 := fun y hy => h y (List.mem_of_mem_take hy)

/-- The table's sixteen remainders. -/
def tab (i : Nat) : Nat := Sums.steps 4 i
/-- The table in memory. -/
def Fours (w : World) : Prop := ∀ i, i < 16 → w.cell? ⟨0, i, none⟩ = some (.int .u32 (tab i : Nat))
theorem Fours.later {w w' : World} (h : Fours w) (hk : ∀ k, k < w.heap.size → w'.heap[k]? = w.heap[k]?) : Fours w' :=
  fun i hi => (World.cell?_of_block (w := w) (hk _ (World.block_lt_of_cell? w _ (h i hi)))).trans (h i hi)

theorem four_table (x : Nat) : Sums.steps 4 x = tab (x % 16) ^^^ x / 16 := by
  have e : x = x % 16 ^^^ x / 16 * 2 ^ 4 := by
    apply Nat.eq_of_testBit_eq
    intro j
    have h1 : x % 16 = x % 2 ^ 4 := rfl
    rw [Nat.testBit_xor, h1, Nat.testBit_mod_two_pow, Nat.testBit_mul_two_pow, show x / 16 = x / 2 ^ 4 by rfl, Nat.testBit_div_two_pow]
    by_cases h : j < 4
    · have h2 : ¬ 4 ≤ j := by omega
      simp [h, h2]
    · have h2 : 4 ≤ j := by omega
      simp [h, h2]
  have k : Sums.steps 4 x = Sums.steps 4 (x % 16 ^^^ x / 16 * 2 ^ 4) := congrArg (Sums.steps 4) e
  rw [k, Sums.steps_xor, Sums.steps_down, tab]
theorem tab_lt (i : Nat) (h : i < 4294967296) : tab i < 4294967296 := Sums.steps_lt 4 h
theorem u32_fifteen (x : Nat) (hx : x < 4294967296) : bits .and .u32 (x : Int) 15 = ((x % 16 : Nat) : Int) := by
  have h := u32_and_nat x 15 hx (by omega)
  rw [nat_mask4] at h
  exact h
/-- Four steps by the table. -/
theorem u32_four (x : Nat) (hx : x < 4294967296) : bits .xor .u32 ((x : Int) / 16) (tab (x % 16) : Nat) = (Sums.steps 4 x : Nat) := by
  have h := u32_xor_nat (x / 16) (tab (x % 16)) (by omega) (tab_lt _ (by omega))
  rw [four_table, Nat.xor_comm]
  exact h

theorem not_signed : ¬ IntKind.u32.signed = true := by decide
theorem u32_turn (x : Nat) (hx : x < 4294967296) : bits .xor .u32 IntKind.u32.max (x : Int) = ((x ^^^ 4294967295 : Nat) : Int) := by
  have h := u32_xor_nat 4294967295 x (by omega) hx
  rw [Nat.xor_comm x]
  exact h
theorem turn_lt (x : Nat) (hx : x < 4294967296) : x ^^^ 4294967295 < 4294967296 := Nat.xor_lt_two_pow (n := 32) hx (by omega)
theorem byteStep_fours (v y : Nat) : Sums.byteStep v y = Sums.steps 4 (Sums.steps 4 (v ^^^ y)) := by
  rw [Sums.byteStep_eq, ← Sums.steps_add]
theorem crcs_take {v : Nat} {ys : List Nat} {i y : Nat} (h : ys[i]? = some y) : Sums.crcs v (ys.take (i + 1)) = Sums.byteStep (Sums.crcs v (ys.take i)) y := by
  rw [take_more h, Sums.crcs_append, Sums.crcs_cons, Sums.crcs_nil]

/-! The document's sums. -/
theorem wrap_i64 (n : Int) (h0 : -9223372036854775808 ≤ n) (h1 : n ≤ 9223372036854775807) : IntKind.i64.wrap n = n := by
  simp [IntKind.wrap, IntKind.bits, IntKind.signed]
  omega
theorem ofInt_i64 (a : Nat) (ha : a < 9223372036854775808) : (BitVec.ofInt 64 (a : Int)).toNat = a := by
  rw [BitVec.ofInt_natCast, BitVec.toNat_ofNat]; exact Nat.mod_eq_of_lt (by omega)
theorem i64_and_nat (a b : Nat) (ha : a < 9223372036854775808) (hb : b < 9223372036854775808) : bits .and .i64 (a : Int) (b : Int) = ((a &&& b : Nat) : Int) := by
  have hx : a &&& b < 2 ^ 63 := Nat.and_lt_two_pow _ (by omega)
  show IntKind.i64.wrap ((BitVec.ofInt 64 (a : Int) &&& BitVec.ofInt 64 (b : Int)).toNat : Int) = _
  rw [BitVec.toNat_and, ofInt_i64 a ha, ofInt_i64 b hb, wrap_i64 _ (by omega) (by omega)]
theorem i64_or_nat (a b : Nat) (ha : a < 9223372036854775808) (hb : b < 9223372036854775808) : bits .or .i64 (a : Int) (b : Int) = ((a ||| b : Nat) : Int) := by
  have hx : a ||| b < 2 ^ 63 := Nat.or_lt_two_pow (by omega) (by omega)
  show IntKind.i64.wrap ((BitVec.ofInt 64 (a : Int) ||| BitVec.ofInt 64 (b : Int)).toNat : Int) = _
  rw [BitVec.toNat_or, ofInt_i64 a ha, ofInt_i64 b hb, wrap_i64 _ (by omega) (by omega)]
theorem i64_xor_nat (a b : Nat) (ha : a < 9223372036854775808) (hb : b < 9223372036854775808) : bits .xor .i64 (a : Int) (b : Int) = ((a ^^^ b : Nat) : Int) := by
  have hx : a ^^^ b < 2 ^ 63 := Nat.xor_lt_two_pow (by omega) (by omega)
  show IntKind.i64.wrap ((BitVec.ofInt 64 (a : Int) ^^^ BitVec.ofInt 64 (b : Int)).toNat : Int) = _
  rw [BitVec.toNat_xor, ofInt_i64 a ha, ofInt_i64 b hb, wrap_i64 _ (by omega) (by omega)]
theorem i64_mask (a n : Nat) (ha : a < 9223372036854775808) (hn : n ≤ 62) : bits .and .i64 (a : Int) ((2 ^ n - 1 : Nat) : Int) = ((a % 2 ^ n : Nat) : Int) := by
  have hp : 2 ^ n ≤ 2 ^ 62 := Nat.pow_le_pow_right (by omega) hn
  rw [i64_and_nat a _ ha (by omega), Nat.and_two_pow_sub_one_eq_mod]

end Go.Proofs.YtpmoknnhgginjaaDoor.Su

/- The contracts of AdlerMore and of the document's Adler. -/
namespace Go.Proofs.YtpmoknnhgginjaaDoor.Su
open Go.RowKit
set_option linter.unusedVariables false

/-- One byte more. -/
theorem adls_take {s : Nat × Nat} {ys : List Nat} {i y : Nat} (h : ys[i]? = some y) : Sums.adls s (ys.take (i + 1)) = Sums.adlStep (Sums.adls s (ys.take i)) y := by
  rw [take_more h, Sums.adls_append, Sums.adls_cons, Sums.adls_nil]
theorem raws_take {s : Nat × Nat} {ys : List Nat} {i y : Nat} (h : ys[i]? = some y) : Sums.raws s (ys.take (i + 1)) = Sums.rawStep (Sums.raws s (ys.take i)) y := by
  rw [take_more h]; exact List.foldl_append

theorem Bytes.drop {w : World} {a : Option Addr} {r c k : Nat} {zs : List Nat} (h : Bytes w a r zs) (hk : k ≤ r) (hc : r ≤ c) : Bytes w (if c = k then a else a.map (fun x => x.add k)) (r - k) (zs.drop k) := by
  obtain ⟨h1, h2, h3⟩ := h
  refine ⟨by simp [h1], fun y hy => h2 y (List.mem_of_mem_drop hy), fun hp => ?_⟩
  obtain ⟨b, off, rfl, hcell⟩ := h3 (by omega)
  rw [if_neg (by omega)]
  refine ⟨b, off + k, ?_, fun j y hj => ?_⟩
  · simp only [Option.map_some]
    congr 1
    unfold Addr.add
    split
    · rename_i h; subst h; rfl
    · rfl
  · rw [List.getElem?_drop] at hj
    rw [Nat.add_assoc]
    exact hcell _ _ hj

def lenOf : Value → Nat
  | .slice _ l _ => l
  | _ => 0
theorem adlerMore_any (w : World) (s1 s2 : Nat) (h1 : s1 < 65521) (h2 : s2 < 65521) (a : Option Addr) (n c : Nat) (ys : List Nat) (hn : n ≤ 16777216) (hcap : n ≤ c) (h : Bytes w a n ys) :
    Calls Tryd.prog 38 #[.int .i64 ((65536 * s2 + s1 : Nat) : Int), .slice a n c] w fun e w' => e = .returned (.int .i64 ((65536 * (Sums.adls (s1, s2) ys).2 + (Sums.adls (s1, s2) ys).1 : Nat) : Int)) ∧ w' = w := by
  have HB := Lib.hid h
  clear h
  generalize hsum : 65536 * s2 + s1 = sum at *
  have q1 : bits .and .i64 (sum : Int) 65535 = (s1 : Int) := by
    have := i64_mask sum 16 (by omega) (by omega)
    rw [show ((2 ^ 16 - 1 : Nat) : Int) = 65535 by rfl, show sum % 2 ^ 16 = s1 by omega] at this
    exact this
  have q2 : bits .and .i64 ((sum : Int) / 65536) 65535 = (s2 : Int) := by
    have := i64_mask (sum / 65536) 16 (by omega) (by omega)
    rw [show ((2 ^ 16 - 1 : Nat) : Int) = 65535 by rfl, show sum / 65536 % 2 ^ 16 = s2 by omega] at this
    exact this
  have HS := Lib.hid hsum
  clear hsum
  go_enter Tryd.func38, Tryd.ntmps38
  go_wp2
  go_loopw [1, 5, 6] (fun b x y wr => ∃ (m r : Nat) (a' : Option Addr) (c' : Nat) (t : Nat × Nat), m + r = n ∧ b = .slice a' r c' ∧ r ≤ c' ∧ Bytes w a' r (ys.drop m) ∧ Sums.adls (s1, s2) (ys.take m) = t ∧ x = .int .i64 (t.1 : Nat) ∧ y = .int .i64 (t.2 : Nat) ∧ wr = w) (fun b _ _ _ => lenOf b)
  case atStart => exact ⟨0, n, a, c, (s1, s2), by omega, rfl, hcap, HB.out, rfl, rfl, rfl, rfl⟩
  case round =>
    obtain ⟨m, r, a, c, t, hm, rfl, hrc, hb, ht, rfl, rfl, rfl⟩ := hrel
    have hl := Sums.adls_lt (s1, s2) (ys.take m) ⟨h1, h2⟩
    rw [ht] at hl
    obtain ⟨t1, t2⟩ := t
    simp only at hl
    clear HB
    have HB := Lib.hid hb
    have HT := Lib.hid ht
    clear hb ht
    by_cases h0 : r = 0
    · subst h0
      obtain rfl : m = n := by omega
      have e : ys.take m = ys := by
        have : (ys.drop m).length = 0 := HB.out.1
        rw [List.length_drop] at this
        exact List.take_of_length_le (by omega)
      have ht := HT.out
      rw [e] at ht
      have HT := Lib.hid ht
      have hor := i64_or_nat (t2 * 65536) t1 (by omega) (by omega)
      rw [nat_join 16 (t2 * 65536) t1 (Nat.mul_mod_left _ _) (by omega)] at hor
      have hor' : bits .or .i64 ((t2 : Int) * 65536) (t1 : Int) = ((t2 * 65536 + t1 : Nat) : Int) := hor
      generalize hz : t2 * 65536 + t1 = z at *
      have HZ := Lib.hid hz
      clear hz hor e ht
      go_wp2_with fail
      go_ret
      exact ⟨by rw [HT.out, Nat.mul_comm, HZ.out]; rfl, rfl⟩
    · obtain ⟨k, hk, hk0, hkr, hk6⟩ : ∃ k : Nat, (if (65536 : Int) < (r : Int) then 65536 else (r : Int)) = (k : Int) ∧ 0 < k ∧ k ≤ r ∧ k ≤ 65536 := by
        by_cases hb : r ≤ 65536
        · exact ⟨r, by rw [if_neg (by omega)], by omega, by omega, hb⟩
        · exact ⟨65536, by rw [if_pos (by omega)]; rfl, by omega, by omega, by omega⟩
      clear h0
      have hp : 0 < r := by omega
      go_wp2_with fail
      go_loopw [5, 6, 25] (fun x y cnt wl => ∃ j : Nat, j ≤ k ∧ cnt = .int .i64 j ∧ x = .int .i64 ((Sums.raws (t1, t2) ((ys.drop m).take j)).1 : Nat) ∧ y = .int .i64 ((Sums.raws (t1, t2) ((ys.drop m).take j)).2 : Nat) ∧ wl = wr) (fun _ _ cnt _ => k - (intOf cnt).toNat)
      case atStart => exact ⟨0, Nat.zero_le _, rfl, rfl, rfl, rfl⟩
      case round =>
        obtain ⟨j, hj, rfl, rfl, rfl, rfl⟩ := hrel
        have hb := Sums.raws_lt (t1, t2) ((ys.drop m).take j) (take_lt HB.out.2.1 j)
        have hlen : ((ys.drop m).take j).length ≤ j := by simp; omega
        simp only at hb
        have hb1 : (Sums.raws (t1, t2) ((ys.drop m).take j)).1 ≤ 65520 + 255 * 65536 := by omega
        have hb2 : (Sums.raws (t1, t2) ((ys.drop m).take j)).2 ≤ 65520 + 65536 * (65520 + 255 * 65536) := by
          have := Nat.mul_le_mul (show ((ys.drop m).take j).length ≤ 65536 by omega) (show t1 + 255 * ((ys.drop m).take j).length ≤ 65520 + 255 * 65536 by omega)
          omega
        clear hb hlen
        by_cases hlt : j < k
        · obtain ⟨b, off, y, rfl, hy, hy8, hcell⟩ := HB.out.at (show j < r by omega)
          have HN := Lib.hid (raws_take (s := (t1, t2)) hy)
          generalize Sums.raws (t1, t2) ((ys.drop m).take j) = s at *
          generalize hs' : Sums.raws (t1, t2) ((ys.drop m).take (j + 1)) = s' at *
          have HS' := Lib.hid hs'
          obtain ⟨x1, x2⟩ := s
          simp only at hb1 hb2
          simp only [Sums.rawStep] at HN
          clear hs' hy
          go_wp2_with fail
          go_roundw
          case rel => exact ⟨j + 1, by omega, by go_num, by rw [HS'.out, HN.out]; simp, by rw [HS'.out, HN.out]; simp, trivial⟩
          case measure => simp [intOf]; omega
        · obtain rfl : j = k := by omega
          have hq := Sums.raws_adls (t1, t2) (t1, t2) ((ys.drop m).take j) rfl rfl
          have hq2 := Sums.adls_lt (t1, t2) ((ys.drop m).take j) hl
          have hnext : Sums.adls (s1, s2) (ys.take (m + j)) = Sums.adls (t1, t2) ((ys.drop m).take j) := by rw [List.take_add, Sums.adls_append, HT.out]
          generalize Sums.adls (t1, t2) ((ys.drop m).take j) = q at *
          generalize Sums.raws (t1, t2) ((ys.drop m).take j) = s at *
          obtain ⟨x1, x2⟩ := s
          obtain ⟨q1', q2'⟩ := q
          simp only at hb1 hb2 hq hq2
          have e1 : (x1 : Int) % 65521 = (q1' : Int) := by omega
          have e2 : (x2 : Int) % 65521 = (q2' : Int) := by omega
          have HNX := Lib.hid hnext
          have hdd : Bytes wr (if c = j then a else a.map (·.add j)) (r - j) (ys.drop (m + j)) := by rw [← List.drop_drop]; exact HB.out.drop hkr hrc
          have HDD := Lib.hid hdd
          clear hnext hq hq2 hdd hb1 hb2
          go_wp2_with fail
          go_roundw
          case rel => exact ⟨m + j, r - j, _, c - j, (q1', q2'), by omega, rfl, by omega, HDD.out, HNX.out, by rw [← e1], by rw [← e2], trivial⟩
          case measure => show r - j < r; omega
end Go.Proofs.YtpmoknnhgginjaaDoor.Su

/- Texts in memory; the contracts of Crc and Adler over parts; the document's Join. -/
namespace Go.Proofs.YtpmoknnhgginjaaDoor.Su
open Go.RowKit
set_option linter.unusedVariables false

theorem crc_nil : Sums.crc [] = 0 := by unfold Sums.crc; rw [Sums.crcs_nil, Nat.xor_self]
theorem adler_nil : Sums.adler [] = 1 := rfl

theorem adlerMore_text (w : World) (xs : List Nat) (a : Option Addr) (n c : Nat) (ys : List Nat) (hn : n ≤ 16777216) (hc : n ≤ c) (h : Bytes w a n ys) :
    Calls Tryd.prog 38 #[.int .i64 (Sums.adler xs : Nat), .slice a n c] w fun e w' => e = .returned (.int .i64 (Sums.adler (xs ++ ys) : Nat)) ∧ w' = w := by
  have hl := Sums.adls_lt (1, 0) xs ⟨by decide, by decide⟩
  have k := adlerMore_any w (Sums.adls (1, 0) xs).1 (Sums.adls (1, 0) xs).2 hl.1 hl.2 a n c ys hn hc h
  have e1 : Sums.adler xs = 65536 * (Sums.adls (1, 0) xs).2 + (Sums.adls (1, 0) xs).1 := rfl
  have e2 : Sums.adler (xs ++ ys) = 65536 * (Sums.adls (Sums.adls (1, 0) xs) ys).2 + (Sums.adls (Sums.adls (1, 0) xs) ys).1 := by rw [← Sums.adls_append]; rfl
  rw [e1, e2]
  exact k

/-- Texts that a slice value leads to. -/
def Texts (w : World) (a : Option Addr) (n : Nat) (ls : List (List Nat)) : Prop :=
  ls.length = n ∧ ∀ (i : Nat) (ys : List Nat), ls[i]? = some ys → ∃ b off a' m c', a = some ⟨b, off, none⟩ ∧ w.cell? ⟨b, off + i, none⟩ = some (.slice a' m c') ∧ (m ≤ c' ∧ (a' = none → m = 0 ∧ c' = 0)) ∧ Bytes w a' m ys
theorem Texts.later {w w' : World} {a : Option Addr} {n : Nat} {ls : List (List Nat)} (h : Texts w a n ls) (hk : ∀ k, k < w.heap.size → w'.heap[k]? = w.heap[k]?) : Texts w' a n ls := by
  obtain ⟨h1, h2⟩ := h
  refine ⟨h1, fun i ys hi => ?_⟩
  obtain ⟨b, off, a', m, c', e, hc, hm, hb⟩ := h2 i ys hi
  exact ⟨b, off, a', m, c', e, (World.cell?_of_block (w := w) (hk _ (World.block_lt_of_cell? w _ hc))).trans hc, hm, hb.later hk⟩
theorem Texts.at {w : World} {a : Option Addr} {n i : Nat} {ls : List (List Nat)} (h : Texts w a n ls) (hi : i < n) : ∃ ys b off a' m c', ls[i]? = some ys ∧ a = some ⟨b, off, none⟩ ∧ w.cell? ⟨b, off + i, none⟩ = some (.slice a' m c') ∧ (m ≤ c' ∧ (a' = none → m = 0 ∧ c' = 0)) ∧ Bytes w a' m ys := by
  obtain ⟨h1, h2⟩ := h
  have hl : i < ls.length := by omega
  obtain ⟨b, off, a', m, c', k⟩ := h2 i _ (List.getElem?_eq_getElem hl)
  exact ⟨_, b, off, a', m, c', List.getElem?_eq_getElem hl, k⟩
theorem Texts.byte {w : World} {a : Option Addr} {n : Nat} {ls : List (List Nat)} (h : Texts w a n ls) (i : Nat) : ∀ y ∈ (ls.take i).flatten, y < 256 := by
  intro y hy
  rw [List.mem_flatten] at hy
  obtain ⟨ys, hys, hy⟩ := hy
  obtain ⟨j, hj⟩ := List.getElem?_of_mem (List.mem_of_mem_take hys)
  obtain ⟨b, off, a', m, c', _, _, _, hb⟩ := h.2 j ys hj
  exact hb.2.1 y hy
theorem flat_more {ls : List (List Nat)} {i : Nat} {ys : List Nat} (h : ls[i]? = some ys) : (ls.take (i + 1)).flatten = (ls.take i).flatten ++ ys := by
  rw [List.take_add_one, h]; simp

theorem adler_any (w : World) (a : Option Addr) (n c : Nat) (ls : List (List Nat)) (hn : n ≤ 16777216) (hs : ∀ ys ∈ ls, ys.length ≤ 16777216) (h : Texts w a n ls) :
    Calls Tryd.prog 29 #[.slice a n c] w fun e w' => e = .returned (.int .i64 (Sums.adler ls.flatten : Nat)) ∧ w' = w := by
  have HT := Lib.hid h
  have HS := Lib.hid hs
  clear h hs
  go_enter Tryd.func29, Tryd.ntmps29
  go_wp2
  go_loopw [3, 8] (fun s cnt wr => ∃ i : Nat, i ≤ n ∧ cnt = .int .i64 i ∧ s = .int .i64 (Sums.adler (ls.take i).flatten : Nat) ∧ wr = w) (fun _ cnt _ => n - (intOf cnt).toNat)
  case atStart => exact ⟨0, Nat.zero_le _, rfl, by rw [List.take_zero, List.flatten_nil, adler_nil]; rfl, rfl⟩
  case round =>
    obtain ⟨i, hi, rfl, rfl, rfl⟩ := hrel
    by_cases hlt : i < n
    · obtain ⟨ys, b, off, a', m, c', hy, rfl, hcell, hm, hb⟩ := HT.out.at hlt
      have C := adlerMore_text wr (ls.take i).flatten a' m c' ys (by have := HS.out ys (List.mem_of_getElem? hy); have := hb.1; omega) hm.1 hb
      rw [← flat_more hy] at C
      have C := Lib.hid C
      clear hy hb hm
      generalize Sums.adler (ls.take i).flatten = s at *
      go_wp2_with fail
      refine C.out.mono ?_
      rintro e w1 ⟨rfl, rfl⟩
      go_wp2_with fail
      go_roundw
      case rel => exact ⟨i + 1, by omega, by go_num, rfl, trivial⟩
      case measure => simp [intOf]; omega
    · obtain rfl : i = n := by omega
      have e : ls.take i = ls := by rw [List.take_of_length_le (by rw [HT.out.1]; exact Nat.le_refl _)]
      rw [e]
      go_wp2
      go_ret
      exact ⟨rfl, rfl⟩

/-! Memory of the call's own. -/
theorem info5 : (Tryd.prog.info? 5).map (fun i => (i.zero, i.size, i.bytes)) = some (some (.int .u8 0), 1, 1) := by kernel_rfl
/-- Bytes as cells. -/
def bys (ys : List Nat) : List Value := ys.map (fun y : Nat => Value.int .u8 (y : Int))
theorem bys_length (ys : List Nat) : (bys ys).length = ys.length := by simp [bys]
theorem bys_append (xs ys : List Nat) : bys (xs ++ ys) = bys xs ++ bys ys := by simp [bys]
theorem add_spot (b off j : Nat) : ((⟨b, off, none⟩ : Addr).add j) = ⟨b, off + j, none⟩ := by
  unfold Addr.add
  split
  · rename_i h; subst h; rfl
  · rfl

theorem own_kept {w w' : World} {B n : Nat} {v : Value} {xs : List Value} (h : w.ownsRow B 5 1 v n xs) (hk : ∀ k, v.ownBlock = some k → w'.heap[k]? = w.heap[k]?) : w'.ownsRow B 5 1 v n xs := by
  obtain ⟨h1, h2⟩ := h
  refine ⟨h1, ?_⟩
  rcases h2 with h2 | ⟨g, cap, cur, rfl, hg, hh, r⟩
  · exact Or.inl h2
  · exact Or.inr ⟨g, cap, cur, rfl, hg, (hk g rfl).trans hh, r⟩

/-- append of bytes to a row of the call's own, as one step. -/
theorem run_append_text (w : World) (ty : TypeId) (base n : Nat) (v : Value) (xs : List Nat) (hown : w.ownsRow base 5 1 v n (bys xs)) (ad : Option Addr) (m c : Nat) (ds : List Nat) (hb : Bytes w ad m ds) (hc : ad = none → m = 0 ∧ c = 0) (hn : n ≤ 33554432) (hm : m ≤ 33554432) (hbase : base ≤ w.heap.size) :
    ∃ aa cap w', (Builtin.append_ #[26, 26] ty #[v, .slice ad m c]).run Tryd.prog w = .ok (.slice aa (n + m) cap) w' ∧
      w'.ownsRow base 5 1 (.slice aa (n + m) cap) (n + m) (bys (xs ++ ds)) ∧ w.grownBy w' v.ownBlock ∧ ((Value.slice aa (n + m) cap).ownBlock = v.ownBlock ∨ (Value.slice aa (n + m) cap).ownBlock = some w.heap.size) := by
  obtain ⟨i0, hi, hz0, hz1, hz2⟩ := info_parts info5
  obtain ⟨hl, hby, hcell⟩ := hb
  cases ad with
  | none =>
    obtain ⟨rfl, rfl⟩ := hc rfl
    obtain rfl : ds = [] := List.eq_nil_of_length_eq_zero hl
    have hr := run_append_owned_none (P := Tryd.prog) (w := w) base 26 ty 5 i0 1 Tryd.underlying26 hi _ _ _ hown
    have hv : ∃ aa cap, v = .slice aa n cap := by
      rcases hown.2 with ⟨e, e2⟩ | ⟨g, cap, _, e, _⟩
      · exact ⟨none, 0, by rw [e, e2]⟩
      · exact ⟨_, _, e⟩
    obtain ⟨aa, cap, rfl⟩ := hv
    refine ⟨aa, cap, w, hr, ?_, ⟨rfl, rfl, rfl, Nat.le_refl _, fun _ _ _ => rfl⟩, Or.inl rfl⟩
    rw [List.append_nil]
    exact hown
  | some ad =>
    obtain ⟨v', w', hr, h1, h2, h4, h5⟩ := run_append_own_at (P := Tryd.prog) w base 26 ty 5 i0 (.int .u8 0) 1 1 Tryd.underlying26 hi hz0 hz1 hz2 rfl (by decide) _ n _ hown ad m c (bys ds) (by rw [bys_length]; omega)
      (by
        intro j u hj
        unfold bys at hj
        rw [List.getElem?_map] at hj
        have hjl : j < ds.length := by
          rcases Nat.lt_or_ge j ds.length with h | h
          · exact h
          · rw [List.getElem?_eq_none h] at hj; cases hj
        obtain ⟨b, off, e, hcl⟩ := hcell (by omega)
        cases e
        rw [List.getElem?_eq_getElem hjl] at hj
        rw [add_spot, hcl j _ (List.getElem?_eq_getElem hjl)]
        simpa using hj)
      (by intro u hu; unfold bys at hu; simp only [List.mem_map] at hu; obtain ⟨y, _, rfl⟩ := hu; rfl) (by unfold maxLen; omega) (by omega) hbase
    have hv : ∃ aa cap, v' = .slice aa (n + m) cap := by
      rcases h1.2 with ⟨e, e2⟩ | ⟨g, cap, _, e, _⟩
      · exact ⟨none, 0, by rw [e, e2]⟩
      · exact ⟨_, _, e⟩
    obtain ⟨aa, cap, rfl⟩ := hv
    rw [← bys_append] at h1
    exact ⟨aa, cap, w', hr, h1, h2, h5⟩

theorem wpList_append_text {w : World} {ops : Array Oper} {rest : List Oper} {o : Oper} {a : Act} {Q : Exit → Act → World → Prop} (hgd : o.guard = none) (s x : Operand) (ho : o.op = .call { callee := .builtin .append, args := #[s, x], argTypes := #[26, 26] })
    (base n : Nat) (v : Value) (xs : List Nat) (hs : a.eval s = v) (hown : w.ownsRow base 5 1 v n (bys xs))
    (ad : Option Addr) (m c : Nat) (ds : List Nat) (hx : a.eval x = .slice ad m c) (hb : Bytes w ad m ds) (hc : ad = none → m = 0 ∧ c = 0) (hn : n ≤ 33554432) (hm : m ≤ 33554432) (hbase : base ≤ w.heap.size)
    (h : ∀ aa cap w', w'.ownsRow base 5 1 (.slice aa (n + m) cap) (n + m) (bys (xs ++ ds)) → w.grownBy w' v.ownBlock → ((Value.slice aa (n + m) cap).ownBlock = v.ownBlock ∨ (Value.slice aa (n + m) cap).ownBlock = some w.heap.size) → wpList Tryd.prog ops Q rest (a.put o.dst (.slice aa (n + m) cap)) w') :
    wpList Tryd.prog ops Q (o :: rest) a w := by
  refine wpList_plain hgd fun K hK => ?_
  obtain ⟨aa, cap, w', hr, h1, h2, h3⟩ := run_append_text w o.type base n v xs hown ad m c ds hb hc hn hm hbase
  unfold Oper.wp execOp
  simp only [ho, resolve, invoke, builtin, Sem.run_bind, Sem.run_pure, Result.andThen_ok, List.map_toArray, List.map_cons, List.map_nil, hs, hx, hr]
  exact hK _ _ (h aa cap w' h1 h2 h3)

/-- Bytes of the call's own, read. -/
theorem bytes_of_own {w : World} {B n c : Nat} {aa : Option Addr} {ds : List Nat} (h : w.ownsRow B 5 1 (.slice aa n c) n (bys ds)) (hb : ∀ y ∈ ds, y < 256) : Bytes w aa n ds ∧ n ≤ c ∧ (aa = none → n = 0 ∧ c = 0) := by
  obtain ⟨hl, h2⟩ := h
  rw [bys_length] at hl
  refine ⟨⟨by omega, hb, fun hp => ?_⟩, ?_⟩
  · rcases h2 with ⟨_, e2⟩ | ⟨g, cap, cur, e, hB, hh, p1, p2, p3, p4⟩
    · omega
    · cases e
      refine ⟨g, 0, rfl, fun j y hj => ?_⟩
      have hj2 : (bys ds)[j]? = (cur.toList.take (n * 1))[j]? := by rw [p4]
      have hjl : j < n := by have := (List.getElem?_eq_some_iff.1 hj).1; omega
      unfold bys at hj2
      rw [List.getElem?_take_of_lt (by omega), List.getElem?_map, hj] at hj2
      have hj3 : cur[j]? = some (.int .u8 (y : Int)) := by simpa using hj2.symm
      simp [World.cell?, hh, hj3]
  · rcases h2 with ⟨e, e2⟩ | ⟨g, cap, cur, e, hB, hh, p1, p2, p3, p4⟩
    · cases e
      exact ⟨Nat.le_refl _, fun _ => ⟨rfl, rfl⟩⟩
    · cases e
      exact ⟨p1, fun h => by cases h⟩

/-- What a call tells: memory of its own. -/
def Told (w : World) (zs : List Nat) (e : Ending) (w' : World) : Prop :=
  ∃ aa c, e = .returned (.slice aa zs.length c) ∧ w'.ownsRow w.heap.size 5 1 (.slice aa zs.length c) zs.length (bys zs) ∧ Below w.heap.size w w'

theorem grown_below {B : Nat} {w w1 w2 : World} {row : Option Nat} (hB : B ≤ w.heap.size) (h : Below B w w1) (hg : w1.grownBy w2 row) (hv : ∀ k, row = some k → B ≤ k) : Below B w w2 :=
  h.trans ⟨hg.os, hg.tape, hg.output, hg.size, fun k hk => hg.block k (Nat.lt_of_lt_of_le hk (Nat.le_trans hB h.size)) (fun e => by have := hv k e.symm; omega)⟩

end Go.Proofs.YtpmoknnhgginjaaDoor.Su
