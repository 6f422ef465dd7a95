/- The contracts of step, times, bytesOn and CrcJoin; what the operators answer. -/
import Derived.Test.YtfidconibclehaaDoorProg
import Derived.Test.YtfidconibclehaaDoorA
import Derived.Laws.BitsAllLaws
import Derived.WalkLawsBesides
import Derived.OneCell
import Derived.Lib.Hide
import Derived.BigQuiet
import Derived.Deep.QuietTactic
import Derived.Deep.LoopGhost
namespace Go.Proofs.YtfidconibclehaaDoor
open Go.RowKit
set_option linter.unusedVariables false

theorem u32_low (c : Nat) (hc : c < 4294967296) : bits .and .u32 (c : Int) 1 = ((c % 2 : Nat) : Int) := by
  have h := u32_and_nat c 1 hc (by omega)
  rw [nat_mask1] at h
  exact h
theorem u32_poly (c : Nat) (hc : c < 4294967296) : bits .xor .u32 ((c : Int) / 2) 3988292384 = ((c / 2 ^^^ Sums.poly : Nat) : Int) := u32_xor_nat (c / 2) 3988292384 (by omega) (by omega)

theorem step_any (w : World) (c : Nat) (hc : c < 4294967296) :
    Calls Tryd.prog 20 #[.int .u32 c] w fun e w' => e = .returned (.int .u32 (Sums.step c : Nat)) ∧ w' = w := by
  have h1 := u32_low c hc
  go_enter Tryd.func20, Tryd.ntmps20
  by_cases h : c % 2 = 1
  · have hs : Sums.step c = c / 2 ^^^ Sums.poly := by unfold Sums.step; rw [if_pos h]
    rw [h] at h1
    have h2 := u32_poly c hc
    have HS := Lib.hid hs
    clear hs
    go_wp2
    go_ret
    exact ⟨by rw [HS.out]; rfl, rfl⟩
  · have hs : Sums.step c = c / 2 := by unfold Sums.step; rw [if_neg h]
    have h0 : c % 2 = 0 := by omega
    rw [h0] at h1
    have HS := Lib.hid hs
    clear hs
    go_wp2
    go_ret
    exact ⟨by rw [HS.out]; simp, rfl⟩

/-- The number of the top bit. -/
theorem top_bit (a k : Nat) (hk : k ≤ 31) : (a * 2 ^ k % 4294967296).testBit 31 = a.testBit (31 - k) := by
  rw [show (4294967296 : Nat) = 2 ^ 32 by rfl, Nat.testBit_mod_two_pow, Nat.testBit_mul_two_pow]
  simp [hk]
theorem low_bits (a k : Nat) (hk : k ≤ 32) (h : a * 2 ^ k % 4294967296 = 0) (j : Nat) (hj : k ≤ j) (hj2 : j ≤ 31) : a.testBit (31 - j) = false := by
  have e : (a * 2 ^ k % 4294967296).testBit (31 - j + k) = false := by rw [h]; simp
  rw [show (4294967296 : Nat) = 2 ^ 32 by rfl, Nat.testBit_mod_two_pow, Nat.testBit_mul_two_pow] at e
  simpa [show 31 - j + k < 32 by omega] using e
theorem mulk_done (a b k n : Nat) (hk : k + n ≤ 32) (h : a * 2 ^ k % 4294967296 = 0) : Sums.mulk a b (k + n) = Sums.mulk a b k := by
  induction n with
  | zero => rfl
  | succ n ih =>
    rw [← Nat.add_assoc, Sums.mulk_succ, ih (by omega), low_bits a k (by omega) h (k + n) (by omega) (by omega)]
    simp
theorem mul_done (a b k : Nat) (hk : k ≤ 32) (h : a * 2 ^ k % 4294967296 = 0) : Sums.mul a b = Sums.mulk a b k := by
  have e := mulk_done a b k (32 - k) (by omega) h
  rw [show k + (32 - k) = 32 by omega] at e
  exact e
theorem u32_top (x : Nat) (hx : x < 4294967296) : bits .and .u32 (x : Int) 2147483648 = if x.testBit 31 then 2147483648 else 0 := by
  have h := u32_and_nat x 2147483648 hx (by omega)
  rw [show (2147483648 : Nat) = 2 ^ 31 by rfl, nat_bit] at h
  rw [show (2147483648 : Int) = ((2147483648 : Nat) : Int) by rfl, show (2147483648 : Nat) = 2 ^ 31 by rfl, h]
  rw [Nat.testBit_eq_decide_div_mod_eq]
  rcases Nat.mod_two_eq_zero_or_one (x / 2 ^ 31) with e | e <;> simp [e]
theorem double_mod (a k : Nat) : ((a * 2 ^ k % 4294967296 : Nat) : Int) * 2 % 4294967296 = ((a * 2 ^ (k + 1) % 4294967296 : Nat) : Int) := by
  rw [Nat.pow_succ, ← Nat.mul_assoc]; omega

theorem times_any (w : World) (a b : Nat) (ha : a < 4294967296) (hb : b < 4294967296) :
    Calls Tryd.prog 18 #[.int .u32 a, .int .u32 b] w fun e w' => e = .returned (.int .u32 (Sums.mul a b : Nat)) ∧ w' = w := by
  go_enter Tryd.func18, Tryd.ntmps18
  go_wp2
  go_loopg [0, 1, 5] 32 (fun g x y r wr => ∃ k : Nat, k ≤ 32 ∧ g = 32 - k ∧ x = .int .u32 (a * 2 ^ k % 4294967296 : Nat) ∧ y = .int .u32 (Sums.steps k b : Nat) ∧ r = .int .u32 (Sums.mulk a b k : Nat) ∧ wr = w)
  case atStart => exact ⟨0, by omega, rfl, by rw [Nat.pow_zero, Nat.mul_one, Nat.mod_eq_of_lt ha], rfl, rfl, rfl⟩
  case round =>
    obtain ⟨k, hk, rfl, rfl, rfl, rfl, rfl⟩ := hrel
    by_cases h0 : a * 2 ^ k % 4294967296 = 0
    · have hd := Lib.hid (mul_done a b k hk h0)
      rw [h0]
      generalize Sums.mulk a b k = m at *
      generalize Sums.steps k b = y at *
      clear h0
      go_wp2
      go_ret
      exact ⟨by rw [hd.out]; rfl, rfl⟩
    · have hk2 : k ≤ 31 := by
        rcases Nat.lt_or_ge k 32 with h | h
        · omega
        · exfalso
          obtain rfl : k = 32 := by omega
          exact h0 (Nat.mul_mod_left _ _)
      have hx : a * 2 ^ k % 4294967296 < 4294967296 := Nat.mod_lt _ (by omega)
      have hy : Sums.steps k b < 4294967296 := Sums.steps_lt k hb
      have hr : Sums.mulk a b k < 4294967296 := by
        have key : ∀ j, Sums.mulk a b j < 2 ^ 32 := by
          intro j
          induction j with
          | zero => rw [Sums.mulk_zero]; decide
          | succ j ih =>
            rw [Sums.mulk_succ]
            refine Nat.xor_lt_two_pow ih ?_
            split
            · exact Sums.steps_lt j hb
            · decide
        exact key k
      have ht := u32_top _ hx
      rw [top_bit a k hk2] at ht
      have hD := Lib.hid (double_mod a k)
      have hS : Sums.step (Sums.steps k b) = Sums.steps (k + 1) b := by rw [Sums.steps_cons, Sums.steps_step]
      have hm := Sums.mulk_succ a b k
      have C := step_any wr _ hy
      rw [hS] at C
      have C := Lib.hid C
      have HM := Lib.hid hm
      have hxr := u32_xor_nat _ _ hr hy
      clear hS hm hb ha
      generalize hX : a * 2 ^ k % 4294967296 = x at *
      generalize hX' : a * 2 ^ (k + 1) % 4294967296 = x' at *
      generalize hM : Sums.mulk a b k = m at *
      generalize hM' : Sums.mulk a b (k + 1) = m' at *
      generalize hY : Sums.steps k b = y at *
      generalize hY' : Sums.steps (k + 1) b = y' at *
      have HX := Lib.hid (And.intro hX' (And.intro hM' hY'))
      clear hX hX' hM hM' hY hY'
      cases hbit : a.testBit (31 - k)
      · rw [hbit] at ht HM
        simp only [Bool.false_eq_true, if_false] at ht
        have e : m' = m := by have := HM.out; simpa using this
        have HE := Lib.hid e
        clear hxr e
        go_wp2_with fail
        refine C.out.mono ?_
        rintro e w1 ⟨rfl, rfl⟩
        go_wp2_with fail
        go_roundg (32 - (k + 1))
        case measure => omega
        case rel => exact ⟨k + 1, by omega, rfl, by rw [HX.out.1, hD.out], by rw [HX.out.2.2], by rw [HX.out.2.1, HE.out], rfl⟩
      · rw [hbit] at ht HM
        simp only [if_true] at ht HM
        have e := HM.out
        rw [← e] at hxr
        have HE := Lib.hid e
        clear e
        go_wp2_with fail
        refine C.out.mono ?_
        rintro e w1 ⟨rfl, rfl⟩
        go_wp2_with fail
        go_roundg (32 - (k + 1))
        case measure => omega
        case rel => exact ⟨k + 1, by omega, rfl, by rw [HX.out.1, hD.out], by rw [HX.out.2.2], by rw [HX.out.2.1], rfl⟩

/-- The remainder of the power 8 m. -/
def pw (m : Nat) : Nat := Sums.steps (8 * m) Sums.one
theorem pw_eq (m : Nat) : pw m = Sums.steps (8 * m) Sums.one := rfl
theorem pw_zero : pw 0 = 2147483648 := by rw [pw_eq, Nat.mul_zero, Sums.steps_nil]; rfl
theorem pw_one : pw 1 = 8388608 := by
  have e := Sums.two_pow_steps 23 (by omega)
  rw [pw_eq, show 8 * 1 = 31 - 23 by rfl, ← e]
theorem pw_add (m n : Nat) : Sums.mul (pw m) (pw n) = pw (m + n) := by
  rw [pw_eq, pw_eq, Sums.mul_powers, pw_eq, Nat.mul_add]
theorem pw_lt (m : Nat) : pw m < 4294967296 := Sums.steps_lt _ Sums.one_lt
theorem mul_one_right (a : Nat) (ha : a < 2 ^ 32) : Sums.mul a Sums.one = a := by
  refine Sums.by_bits (fun a => Sums.mul a Sums.one) (fun a => a) (fun x y => Sums.mulk_xor x y Sums.one 32) (fun _ _ => rfl) ?_ 32 ?_ a ha
  · have h := Sums.mulk_xor 0 0 Sums.one 32
    rw [Nat.xor_self, Nat.xor_self] at h
    exact h
  · intro k hk
    show Sums.mul (2 ^ k) Sums.one = 2 ^ k
    rw [Sums.two_pow_steps k (by omega), Sums.mul_steps _ _ Sums.one_lt]
theorem mul_pw (a n : Nat) (ha : a < 4294967296) : Sums.mul a (pw n) = Sums.steps (8 * n) a := by
  have h : Sums.mul a (pw n) = Sums.steps (8 * n) (Sums.mul a Sums.one) := Sums.mulk_steps a Sums.one (8 * n) 32
  rw [h, mul_one_right a ha]

/-- n's lowest bits, a bit more. -/
theorem mod_more (n k : Nat) : n % 2 ^ (k + 1) = n % 2 ^ k + 2 ^ k * (n / 2 ^ k % 2) := by rw [Nat.pow_succ, Nat.mod_mul]
theorem i64_low (v : Nat) (h : v < 9223372036854775808) : bits .and .i64 (v : Int) 1 = ((v % 2 : Nat) : Int) := by
  show IntKind.i64.wrap ((BitVec.ofInt 64 (v : Int) &&& BitVec.ofInt 64 1).toNat : Int) = _
  have e1 : (BitVec.ofInt 64 1).toNat = 1 := by decide
  rw [BitVec.toNat_and, e1, Nat.and_one_is_mod, BitVec.toNat_ofInt]
  simp [IntKind.wrap, IntKind.bits, IntKind.signed]
  omega

theorem bytesOn_any (w : World) (n : Nat) (hn : n ≤ 1099511627776) :
    Calls Tryd.prog 19 #[.int .i64 n] w fun e w' => e = .returned (.int .u32 (pw n : Nat)) ∧ w' = w := by
  go_enter Tryd.func19, Tryd.ntmps19
  go_wp2
  go_loopw [0, 3, 4] (fun x r s wr => ∃ k : Nat, x = .int .i64 (n / 2 ^ k : Nat) ∧ r = .int .u32 (pw (n % 2 ^ k) : Nat) ∧ s = .int .u32 (pw (2 ^ k) : Nat) ∧ wr = w) (fun x _ _ _ => (intOf x).toNat)
  case atStart => exact ⟨0, by rw [Nat.pow_zero, Nat.div_one], by rw [Nat.pow_zero, Nat.mod_one, pw_zero]; rfl, by rw [Nat.pow_zero, pw_one]; rfl, rfl⟩
  case round =>
    obtain ⟨k, rfl, rfl, rfl, rfl⟩ := hrel
    have hx : n / 2 ^ k ≤ n := Nat.div_le_self _ _
    have hxl := i64_low (n / 2 ^ k) (by omega)
    have hnext : n / 2 ^ (k + 1) = n / 2 ^ k / 2 := by rw [Nat.pow_succ, Nat.div_div_eq_div_mul]
    have hmod := mod_more n k
    have hdone : n / 2 ^ k = 0 → n % 2 ^ k = n := fun h => by have := Nat.div_add_mod n (2 ^ k); rw [h, Nat.mul_zero, Nat.zero_add] at this; exact this
    have C1 := Lib.hid (times_any wr (pw (n % 2 ^ k)) (pw (2 ^ k)) (pw_lt _) (pw_lt _))
    have C2 := Lib.hid (times_any wr (pw (2 ^ k)) (pw (2 ^ k)) (pw_lt _) (pw_lt _))
    rw [pw_add] at C1 C2
    have e2 : 2 ^ k + 2 ^ k = 2 ^ (k + 1) := by rw [Nat.pow_succ]; omega
    rw [e2] at C2
    have HN := Lib.hid (And.intro hnext (And.intro hmod hdone))
    clear hnext hmod hdone e2
    have HP := Lib.hid (fun h : n % 2 ^ (k + 1) = n % 2 ^ k => congrArg pw h)
    have HP2 := Lib.hid (fun h : n % 2 ^ (k + 1) = n % 2 ^ k + 2 ^ k => congrArg pw h)
    have HD := Lib.hid (fun h : n % 2 ^ k = n => congrArg pw h)
    generalize hQ : pw (n % 2 ^ k) = pr at *
    generalize hQ' : pw (n % 2 ^ (k + 1)) = pr' at *
    generalize hQ2 : pw (n % 2 ^ k + 2 ^ k) = prs at *
    generalize hT : pw (2 ^ k) = ps at *
    generalize hT' : pw (2 ^ (k + 1)) = ps' at *
    have HQ := Lib.hid (And.intro hQ' hT')
    clear hQ hQ' hQ2 hT hT'
    generalize hX : n / 2 ^ k = x at *
    generalize hX' : n / 2 ^ (k + 1) = x' at *
    have HX := Lib.hid hX'
    clear hX hX'
    obtain ⟨h1, h2, h3⟩ := HN.out
    by_cases h0 : x = 0
    · have HE := Lib.hid (HD.out (h3 h0))
      subst h0
      clear h1 h2 h3
      go_wp2
      go_ret
      exact ⟨by rw [← HE.out]; rfl, rfl⟩
    · have hp : 0 < x := by omega
      clear h0
      rcases Nat.mod_two_eq_zero_or_one x with hb | hb
      · rw [hb] at hxl h2
        rw [Nat.mul_zero, Nat.add_zero] at h2
        have HE := Lib.hid (And.intro h1 (HP.out h2))
        have h4 : ((x : Int) / 2).toNat < x := by omega
        have HL := Lib.hid h4
        have hxl' : bits .and .i64 (x : Int) 1 = 0 := hxl
        clear h1 h2 h3 h4 hx hb hxl
        go_wp2_with fail
        refine C2.out.mono ?_
        rintro e w1 ⟨rfl, rfl⟩
        go_wp2_with fail
        go_roundw
        case rel => exact ⟨k + 1, by rw [HX.out, HE.out.1]; simp, by rw [HQ.out.1, HE.out.2], by rw [HQ.out.2], trivial⟩
        case measure => simpa [intOf] using HL.out
      · rw [hb] at hxl h2
        rw [Nat.mul_one] at h2
        have HE := Lib.hid (And.intro h1 (HP2.out h2))
        have h4 : ((x : Int) / 2).toNat < x := by omega
        have HL := Lib.hid h4
        have hxl' : bits .and .i64 (x : Int) 1 = 1 := hxl
        clear h1 h2 h3 h4 hx hb hxl
        go_wp2_with fail
        refine C1.out.mono ?_
        rintro e w1 ⟨rfl, rfl⟩
        go_wp2_with fail
        refine C2.out.mono ?_
        rintro e w2 ⟨rfl, rfl⟩
        go_wp2_with fail
        go_roundw
        case rel => exact ⟨k + 1, by rw [HX.out, HE.out.1]; simp, by rw [HQ.out.1, HE.out.2], by rw [HQ.out.2], trivial⟩
        case measure => simpa [intOf] using HL.out

/-- What CrcJoin answers. -/
def joined (a b : Nat) (n : Int) : Nat := if 0 ≤ n ∧ n ≤ 1099511627776 then Sums.steps (8 * n.toNat) a ^^^ b else 0
theorem join_no (w : World) (a b : Nat) (n : Int) (h : ¬ (0 ≤ n ∧ n ≤ 1099511627776)) :
    Calls Tryd.prog 17 #[.int .i64 a, .int .i64 b, .int .i64 n] w fun e w' => e = .returned (.int .i64 0) ∧ w' = w := by
  go_enter Tryd.func17, Tryd.ntmps17
  by_cases h0 : n < 0
  · have u : decide (n < 0) = true := by simpa using h0
    go_wp2
    go_ret
    exact ⟨rfl, rfl⟩
  · have u : decide (n < 0) = false := by simpa using h0
    have u2 : decide (1099511627776 < n) = true := by simp only [decide_eq_true_eq]; omega
    go_wp2
    go_ret
    exact ⟨rfl, rfl⟩
theorem join_yes (w : World) (a b : Nat) (ha : a < 4294967296) (hb : b < 4294967296) (n : Nat) (hn : n ≤ 1099511627776) :
    Calls Tryd.prog 17 #[.int .i64 a, .int .i64 b, .int .i64 n] w fun e w' => e = .returned (.int .i64 (Sums.steps (8 * n) a ^^^ b : Nat)) ∧ w' = w := by
  have C1 := Lib.hid (bytesOn_any w n hn)
  have C2 := times_any w a (pw n) ha (pw_lt n)
  have hlt : Sums.mul a (pw n) < 4294967296 := Sums.mul_lt a (pw n) (pw_lt n)
  have hm := mul_pw a n ha
  have hx := u32_xor_nat (Sums.mul a (pw n)) b hlt hb
  have hxl : Sums.mul a (pw n) ^^^ b < 2 ^ 32 := Nat.xor_lt_two_pow hlt hb
  rw [← hm]
  clear hm
  generalize Sums.mul a (pw n) = m at *
  generalize pw n = p at *
  have C2 := Lib.hid C2
  generalize m ^^^ b = z at *
  have u2 : decide (1099511627776 < (n : Int)) = false := by simp only [decide_eq_false_iff_not]; omega
  have ea : (a : Int) % 4294967296 = a := by omega
  have eb : (b : Int) % 4294967296 = b := by omega
  go_enter Tryd.func17, Tryd.ntmps17
  go_wp2_with fail
  refine C1.out.mono ?_
  rintro e w1 ⟨rfl, rfl⟩
  go_wp2_with fail
  refine C2.out.mono ?_
  rintro e w1 ⟨rfl, rfl⟩
  go_wp2_with fail
  go_ret
  exact ⟨rfl, rfl⟩
end Go.Proofs.YtfidconibclehaaDoor
