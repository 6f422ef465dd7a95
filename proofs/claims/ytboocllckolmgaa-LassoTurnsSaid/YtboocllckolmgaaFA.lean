/- Whole numbers as floats: the sum, the difference, the product, the order and the conversions of floats that stand for whole numbers below 2^53 are those of the numbers. No conditions. -/
import Derived.WalkLawsBesides
namespace Go.Proofs.Ytboocllckolmgaa

/-- a magnitude with its sign -/
def val (s : Bool) (m : Nat) : Int := if s then -(m : Int) else (m : Int)

/-- the number 'm * 2 ^ e', with its sign, is the whole number n -/
def Worth (s : Bool) (m : Nat) (e : Int) (n : Int) : Prop := val s m * 2 ^ e.toNat = n * 2 ^ (-e).toNat

/-- the float of these bits is the whole number n -/
def Fl (b : Nat) (n : Int) : Prop := ∃ s m e, Ieee.double.read b = .number s m e ∧ Worth s m e n

theorem signed_val (s : Bool) (m k : Nat) : Ieee.signed s m k = val s m * 2 ^ k := by
  cases s <;> simp [Ieee.signed, val, Nat.shiftLeft_eq, Int.neg_mul]

theorem pow_pos_int (k : Nat) : (0 : Int) < 2 ^ k := Int.pow_pos (by decide)

theorem val_natAbs (s : Bool) (m : Nat) : (val s m).natAbs = m := by cases s <;> simp [val]

theorem mul_right_cancel_pow {a b : Int} {k : Nat} (h : a * 2 ^ k = b * 2 ^ k) : a = b :=
  Int.eq_of_mul_eq_mul_right (Int.ne_of_gt (pow_pos_int k)) h

/-- the same number at a lower place -/
theorem Worth.down {s m e n} (h : Worth s m e n) {k : Int} (hk : k ≤ e) : val s m * 2 ^ (e - k).toNat * 2 ^ k.toNat = n * 2 ^ (-k).toNat := by
  unfold Worth at h
  -- multiply both sides by the same power
  have key : val s m * 2 ^ (e - k).toNat * 2 ^ k.toNat * 2 ^ (-e).toNat = n * 2 ^ (-k).toNat * 2 ^ (-e).toNat := by
    have e1 : (e - k).toNat + k.toNat + (-e).toNat = e.toNat + (-k).toNat := by omega
    calc val s m * 2 ^ (e - k).toNat * 2 ^ k.toNat * 2 ^ (-e).toNat = val s m * 2 ^ ((e - k).toNat + k.toNat + (-e).toNat) := by
          rw [Int.pow_add, Int.pow_add]; simp only [Int.mul_assoc]
      _ = val s m * 2 ^ e.toNat * 2 ^ (-k).toNat := by rw [e1, Int.pow_add, Int.mul_assoc]
      _ = n * 2 ^ (-k).toNat * 2 ^ (-e).toNat := by rw [h, Int.mul_assoc, Int.mul_assoc, Int.mul_comm (2 ^ (-e).toNat)]
  exact mul_right_cancel_pow key

theorem Worth.abs {s m e n} (h : Worth s m e n) : m * 2 ^ e.toNat = n.natAbs * 2 ^ (-e).toNat := by
  have := congrArg Int.natAbs h
  rw [Int.natAbs_mul, Int.natAbs_mul, val_natAbs, Int.natAbs_pow, Int.natAbs_pow] at this
  exact this

theorem Worth.zero {s m e} (h : Worth s m e 0) : m = 0 := by
  have h := h.abs
  simp only [Int.natAbs_zero, Nat.zero_mul] at h
  rcases Nat.mul_eq_zero.1 h with h | h
  · exact h
  · exact absurd h (Nat.ne_of_gt (Nat.two_pow_pos _))

theorem read_word (s : Bool) (r : Nat) (h : r < 2 ^ 63) : Ieee.double.read (Ieee.double.word s r) =
    if r < 2 ^ 52 then .number s r (-1074) else if r < 2047 * 2 ^ 52 then .number s (2 ^ 52 + r % 2 ^ 52) (-1074 + (r / 2 ^ 52 - 1 : Nat))
    else if r = 2047 * 2 ^ 52 then .infinity s else .nan s (r - 2047 * 2 ^ 52) := by
  have e1 : Ieee.double.signWeight = 2 ^ 63 := by decide
  have e2 : Ieee.double.binade = 2 ^ 52 := by decide
  have e3 : Ieee.double.infRung = 2047 * 2 ^ 52 := by decide
  have e4 : Ieee.double.leastPlace = -1074 := by decide
  unfold Ieee.Format.read Ieee.Format.word
  simp only [e1, e2, e3, e4]
  cases s
  · have a1 : r / 2 ^ 63 % 2 = 0 := by rw [Nat.div_eq_of_lt h]
    have a2 : r % 2 ^ 63 = r := Nat.mod_eq_of_lt h
    simp [a1, a2]
  · have a1 : (2 ^ 63 + r) / 2 ^ 63 % 2 = 1 := by
      rw [Nat.add_div_left _ (by decide), Nat.div_eq_of_lt h]
    have a2 : (2 ^ 63 + r) % 2 ^ 63 = r := by rw [Nat.add_mod_left, Nat.mod_eq_of_lt h]
    simp only [if_true, a1, a2, beq_self_eq_true]

theorem cut_zero (w : Ieee.Toward) (s : Bool) (n : Nat) : w.cut s n 0 = n := by
  unfold Ieee.Toward.cut
  cases w <;> simp [Nat.mod_one]

theorem cut_exact (w : Ieee.Toward) (s : Bool) (q d : Nat) : w.cut s (q * 2 ^ d) d = q := by
  by_cases hq : q = 0
  · subst hq
    unfold Ieee.Toward.cut
    cases w <;> simp [Nat.shiftLeft_eq]
  · have hl : d ≤ (q * 2 ^ d).log2 := by
      rw [Nat.le_log2 (Nat.mul_ne_zero hq (Nat.ne_of_gt (Nat.two_pow_pos _)))]
      exact Nat.le_mul_of_pos_left _ (Nat.pos_of_ne_zero hq)
    have hm : min d ((q * 2 ^ d).log2 + 2) = d := by omega
    unfold Ieee.Toward.cut
    simp only [hm, Nat.shiftLeft_eq, Nat.one_mul, Nat.mul_div_cancel _ (Nat.two_pow_pos d), Nat.mul_mod_left]
    have hp := Nat.two_pow_pos d
    cases w <;> simp

/-- what is written of a whole number below 2^53 is that number -/
theorem nearest_fl {s m e n} (h : Worth s m e n) (hb : n.natAbs < 2 ^ 53) : Fl (Ieee.double.nearest s m e) n := by
  have e4 : Ieee.double.leastPlace = -1074 := by decide
  have e2 : Ieee.double.binade = 2 ^ 52 := by decide
  have e3 : Ieee.double.infRung = 2047 * 2 ^ 52 := by decide
  have e5 : Ieee.double.fractionBits = 52 := by decide
  by_cases hm : m = 0
  · subst hm
    have hn : n = 0 := by
      have := h.abs
      rw [Nat.zero_mul] at this
      rcases Nat.mul_eq_zero.1 this.symm with h1 | h1
      · omega
      · exact absurd h1 (Nat.ne_of_gt (Nat.two_pow_pos _))
    subst hn
    refine ⟨s, 0, -1074, ?_, ?_⟩
    · unfold Ieee.Format.nearest
      rw [if_pos rfl, read_word _ _ (by decide), if_pos (by decide)]
    · unfold Worth val; cases s <;> rw [Int.zero_mul] <;> simp only [if_true, Bool.false_eq_true, if_false] <;> rfl
  · have ha := h.abs
    have hlo := Nat.log2_self_le hm
    have hhi := @Nat.lt_log2_self m
    generalize hL : m.log2 = L at hlo hhi
    -- 0 ≤ e + L ≤ 52
    have hn0 : n.natAbs ≠ 0 := by
      intro h0
      rw [h0, Nat.zero_mul] at ha
      rcases Nat.mul_eq_zero.1 ha with h1 | h1
      · exact hm h1
      · exact absurd h1 (Nat.ne_of_gt (Nat.two_pow_pos _))
    have hlow : 0 ≤ e + L := by
      rcases Int.le_total 0 e with he | he
      · omega
      · have z : e.toNat = 0 := by omega
        rw [z, Nat.pow_zero, Nat.mul_one] at ha
        have : 2 ^ (-e).toNat ≤ m := by rw [ha]; exact Nat.le_mul_of_pos_left _ (Nat.pos_of_ne_zero hn0)
        have : 2 ^ (-e).toNat < 2 ^ (L + 1) := Nat.lt_of_le_of_lt this hhi
        have := (Nat.pow_lt_pow_iff_right (by decide)).1 this
        omega
    have hup : e + L ≤ 52 := by
      have : 2 ^ (L + e.toNat) < 2 ^ (53 + (-e).toNat) := by
        calc 2 ^ (L + e.toNat) = 2 ^ L * 2 ^ e.toNat := Nat.pow_add ..
          _ ≤ m * 2 ^ e.toNat := Nat.mul_le_mul_right _ hlo
          _ = n.natAbs * 2 ^ (-e).toNat := ha
          _ < 2 ^ 53 * 2 ^ (-e).toNat := Nat.mul_lt_mul_of_pos_right hb (Nat.two_pow_pos _)
          _ = 2 ^ (53 + (-e).toNat) := (Nat.pow_add ..).symm
      have := (Nat.pow_lt_pow_iff_right (by decide)).1 this
      omega
    -- what is kept
    have hlast : max (e + (L : Int) - 52) (-1074) = e + L - 52 := by omega
    obtain ⟨K, hK, hKlo, hKhi⟩ : ∃ K, Ieee.Toward.even.cut s (m <<< (e - (e + (L : Int) - 52)).toNat) ((e + (L : Int) - 52) - e).toNat = K ∧ 2 ^ 52 ≤ K ∧ (K < 2 ^ 53 ∧ Worth s K (e + L - 52) n) := by
      rcases Nat.le_total L 52 with hl | hl
      · have z1 : ((e + (L : Int) - 52) - e).toNat = 0 := by omega
        have z2 : (e - (e + (L : Int) - 52)).toNat = 52 - L := by omega
        refine ⟨m * 2 ^ (52 - L), ?_, ?_, ?_, ?_⟩
        · rw [z1, z2, cut_zero, Nat.shiftLeft_eq]
        · calc 2 ^ 52 = 2 ^ (L + (52 - L)) := by congr 1; omega
            _ = 2 ^ L * 2 ^ (52 - L) := Nat.pow_add ..
            _ ≤ m * 2 ^ (52 - L) := Nat.mul_le_mul_right _ hlo
        · calc m * 2 ^ (52 - L) < 2 ^ (L + 1) * 2 ^ (52 - L) := Nat.mul_lt_mul_of_pos_right hhi (Nat.two_pow_pos _)
            _ = 2 ^ (L + 1 + (52 - L)) := (Nat.pow_add ..).symm
            _ = 2 ^ 53 := by congr 1; omega
        · have hd := h.down (k := e + L - 52) (by omega)
          unfold Worth
          rw [← hd]
          have z3 : (e - (e + (L : Int) - 52)).toNat = 52 - L := z2
          rw [z3]
          congr 1
          cases s <;> simp [val, Int.neg_mul]
      · have z2 : (e - (e + (L : Int) - 52)).toNat = 0 := by omega
        have z1 : ((e + (L : Int) - 52) - e).toNat = L - 52 := by omega
        have he : e ≤ 0 := by omega
        have z4 : e.toNat = 0 := by omega
        rw [z4, Nat.pow_zero, Nat.mul_one] at ha
        -- m is a multiple of 2 ^ (L - 52)
        have hd : (-e).toNat = (-e).toNat - (L - 52) + (L - 52) := by omega
        have hm2 : m = n.natAbs * 2 ^ ((-e).toNat - (L - 52)) * 2 ^ (L - 52) := by
          rw [Nat.mul_assoc, ← Nat.pow_add, ← hd, ← ha]
        generalize hQ : n.natAbs * 2 ^ ((-e).toNat - (L - 52)) = Q at hm2
        refine ⟨Q, ?_, ?_, ?_, ?_⟩
        · rw [z1, z2, Nat.shiftLeft_eq, Nat.pow_zero, Nat.mul_one]
          rw [hm2]
          exact cut_exact ..
        · have : 2 ^ 52 * 2 ^ (L - 52) ≤ Q * 2 ^ (L - 52) := by
            rw [← hm2, ← Nat.pow_add]
            have : 52 + (L - 52) = L := by omega
            rw [this]; exact hlo
          exact Nat.le_of_mul_le_mul_right this (Nat.two_pow_pos _)
        · have : Q * 2 ^ (L - 52) < 2 ^ 53 * 2 ^ (L - 52) := by
            rw [← hm2, ← Nat.pow_add]
            have : 53 + (L - 52) = L + 1 := by omega
            rw [this]; exact hhi
          exact Nat.lt_of_mul_lt_mul_right this
        · unfold Worth at h ⊢
          have z5 : (e + (L : Int) - 52).toNat = 0 := by omega
          have z6 : (-(e + (L : Int) - 52)).toNat = (-e).toNat - (L - 52) := by omega
          rw [z4, Int.pow_zero, Int.mul_one] at h
          rw [z5, z6, Int.pow_zero, Int.mul_one]
          refine mul_right_cancel_pow (k := L - 52) ?_
          rw [Int.mul_assoc, ← Int.pow_add, ← hd, ← h, hm2]
          cases s <;> simp [val, Int.neg_mul]
    -- the word
    have hrung : (e + (L : Int) - 52 - -1074).toNat * 2 ^ 52 + K < 2047 * 2 ^ 52 := by
      have : (e + (L : Int) - 52 - -1074).toNat ≤ 1074 := by omega
      omega
    generalize hT : (e + (L : Int) - 52 - -1074).toNat = T at hrung
    have hw : Ieee.double.nearest s m e = Ieee.double.word s (T * 2 ^ 52 + K) := by
      unfold Ieee.Format.nearest
      simp only [if_neg hm, e2, e3, e4, e5, hL]
      have c52 : ((52 : Nat) : Int) = 52 := rfl
      rw [c52, hlast, hK, hT, Nat.min_eq_left (Nat.le_of_lt hrung)]
    refine ⟨s, K, e + L - 52, ?_, hKhi.2⟩
    rw [hw, read_word _ _ (by omega), if_neg (by omega), if_pos hrung]
    have d1 : (T * 2 ^ 52 + K) / 2 ^ 52 = T + 1 := by omega
    have d2 : (T * 2 ^ 52 + K) % 2 ^ 52 = K - 2 ^ 52 := by omega
    rw [d1, d2]
    have : 2 ^ 52 + (K - 2 ^ 52) = K := by omega
    rw [this]
    have : (-1074 : Int) + ((T + 1 - 1 : Nat) : Int) = e + L - 52 := by omega
    rw [this]

theorem write_fl {s m e n} (h : Worth s m e n) (hb : n.natAbs < 2 ^ 53) : Fl (Ieee.double.write (.number s m e)) n := nearest_fl h hb

theorem of_int (n : Int) (hb : n.natAbs < 2 ^ 53) : Fl (floatOfInt .f64 n) n := by
  refine write_fl (s := decide (n < 0)) (m := n.natAbs) (e := 0) ?_ hb
  unfold Worth
  by_cases h : n < 0
  · simp [val, h]; omega
  · simp [val, h]; omega

theorem Worth.opposite {s m e n} (h : Worth s m e n) : Worth (!s) m e (-n) := by
  unfold Worth at *
  have : val (!s) m = - val s m := by cases s <;> simp [val]
  rw [this, Int.neg_mul, h, Int.neg_mul]

theorem Worth.product {s m i a t n j b} (h : Worth s m i a) (g : Worth t n j b) : Worth (s ^^ t) (m * n) (i + j) (a * b) := by
  unfold Worth at *
  have hv : val (s ^^ t) (m * n) = val s m * val t n := by
    cases s <;> cases t <;> simp [val, Int.neg_mul, Int.mul_neg]
  have key : val s m * val t n * 2 ^ (i.toNat + j.toNat) = a * b * 2 ^ ((-i).toNat + (-j).toNat) := by
    rw [Int.pow_add, Int.pow_add]
    calc val s m * val t n * (2 ^ i.toNat * 2 ^ j.toNat) = (val s m * 2 ^ i.toNat) * (val t n * 2 ^ j.toNat) := by
          simp only [Int.mul_assoc, Int.mul_left_comm]
      _ = (a * 2 ^ (-i).toNat) * (b * 2 ^ (-j).toNat) := by rw [h, g]
      _ = _ := by simp only [Int.mul_assoc, Int.mul_left_comm]
  rw [hv]
  have e1 : i.toNat + j.toNat = (i + j).toNat + (i.toNat + j.toNat - (i + j).toNat) := by omega
  have e2 : (-i).toNat + (-j).toNat = (-(i + j)).toNat + (i.toNat + j.toNat - (i + j).toNat) := by omega
  refine mul_right_cancel_pow (k := i.toNat + j.toNat - (i + j).toNat) ?_
  rw [Int.mul_assoc (val s m * val t n), Int.mul_assoc (a * b), ← Int.pow_add, ← Int.pow_add, ← e1, ← e2]
  exact key

theorem Worth.sum {s m i a t n j b} (h : Worth s m i a) (g : Worth t n j b) :
    (Ieee.signed s m (i - min i j).toNat + Ieee.signed t n (j - min i j).toNat) * 2 ^ (min i j).toNat = (a + b) * 2 ^ (-(min i j)).toNat := by
  rw [signed_val, signed_val, Int.add_mul, Int.add_mul, h.down (k := min i j) (by omega), g.down (k := min i j) (by omega)]

theorem Fl.mul {x y : Nat} {a b : Int} (h : Fl x a) (g : Fl y b) (hb : (a * b).natAbs < 2 ^ 53) : ∃ r, floatBits .mul .f64 x y = some r ∧ Fl r (a * b) := by
  obtain ⟨s, m, i, h1, h2⟩ := h
  obtain ⟨t, n, j, g1, g2⟩ := g
  refine ⟨_, ?_, write_fl (h2.product g2) hb⟩
  show (((Ieee.double.read x).product (Ieee.double.read y)).map Ieee.double.write) = _
  rw [h1, g1]; rfl

theorem sum_num {s m i a t n j b} (h : Worth s m i a) (g : Worth t n j b) : ∃ u k e, (Ieee.Datum.number s m i).sum (.number t n j) = some (.number u k e) ∧ Worth u k e (a + b) := by
  refine ⟨_, _, _, rfl, ?_⟩
  have := Worth.sum h g
  generalize Ieee.signed s m (i - min i j).toNat + Ieee.signed t n (j - min i j).toNat = T at this ⊢
  unfold Worth
  rw [← this]
  congr 1
  unfold val
  by_cases h0 : T = 0
  · subst h0; simp
  · simp only [if_neg h0, decide_eq_true_eq]
    split <;> omega

theorem Fl.add {x y : Nat} {a b : Int} (h : Fl x a) (g : Fl y b) (hb : (a + b).natAbs < 2 ^ 53) : ∃ r, floatBits .add .f64 x y = some r ∧ Fl r (a + b) := by
  obtain ⟨s, m, i, h1, h2⟩ := h
  obtain ⟨t, n, j, g1, g2⟩ := g
  obtain ⟨u, k, e, q1, q2⟩ := sum_num h2 g2
  refine ⟨_, ?_, write_fl q2 hb⟩
  show (((Ieee.double.read x).sum (Ieee.double.read y)).map Ieee.double.write) = _
  rw [h1, g1, q1]; rfl

theorem Fl.sub {x y : Nat} {a b : Int} (h : Fl x a) (g : Fl y b) (hb : (a - b).natAbs < 2 ^ 53) : ∃ r, floatBits .sub .f64 x y = some r ∧ Fl r (a - b) := by
  obtain ⟨s, m, i, h1, h2⟩ := h
  obtain ⟨t, n, j, g1, g2⟩ := g
  obtain ⟨u, k, e, q1, q2⟩ := sum_num h2 g2.opposite
  rw [Int.sub_eq_add_neg] at hb ⊢
  refine ⟨_, ?_, write_fl q2 hb⟩
  show (((Ieee.double.read x).sum (Ieee.double.read y).opposite).map Ieee.double.write) = _
  rw [h1, g1]
  show ((Ieee.Datum.number s m i).sum (.number (!t) n j)).map _ = _
  rw [q1]; rfl

theorem Fl.order {x y : Nat} {a b : Int} (h : Fl x a) (g : Fl y b) : Ieee.double.order x y = some (compare a b) := by
  obtain ⟨s, m, i, h1, h2⟩ := h
  obtain ⟨t, n, j, g1, g2⟩ := g
  unfold Ieee.Format.order
  rw [h1, g1]
  show some (compare (Ieee.signed s m (i - min i j).toNat) (Ieee.signed t n (j - min i j).toNat)) = _
  congr 1
  rw [signed_val, signed_val]
  have ha := h2.down (k := min i j) (by omega)
  have hb := g2.down (k := min i j) (by omega)
  generalize val s m * 2 ^ (i - min i j).toNat = A at ha ⊢
  generalize val t n * 2 ^ (j - min i j).toNat = B at hb ⊢
  have p1 := pow_pos_int (min i j).toNat
  have p2 := pow_pos_int (-(min i j)).toNat
  generalize (2 : Int) ^ (min i j).toNat = U at *
  generalize (2 : Int) ^ (-(min i j)).toNat = V at *
  have lt1 : A < B ↔ a < b := by
    constructor
    · intro q
      have := Int.mul_lt_mul_of_pos_right q p1
      rw [ha, hb] at this
      exact Int.lt_of_mul_lt_mul_right this (Int.le_of_lt p2)
    · intro q
      have := Int.mul_lt_mul_of_pos_right q p2
      rw [← ha, ← hb] at this
      exact Int.lt_of_mul_lt_mul_right this (Int.le_of_lt p1)
  have lt2 : B < A ↔ b < a := by
    constructor
    · intro q
      have := Int.mul_lt_mul_of_pos_right q p1
      rw [ha, hb] at this
      exact Int.lt_of_mul_lt_mul_right this (Int.le_of_lt p2)
    · intro q
      have := Int.mul_lt_mul_of_pos_right q p2
      rw [← ha, ← hb] at this
      exact Int.lt_of_mul_lt_mul_right this (Int.le_of_lt p1)
  have eq1 : A = B ↔ a = b := by omega
  simp only [compare, compareOfLessAndEq]
  by_cases q1 : a < b
  · rw [if_pos q1, if_pos (lt1.2 q1)]
  · rw [if_neg q1, if_neg (fun z => q1 (lt1.1 z))]
    by_cases q2 : a = b
    · rw [if_pos q2, if_pos (eq1.2 q2)]
    · rw [if_neg q2, if_neg (fun z => q2 (eq1.1 z))]

theorem Fl.gt {x y : Nat} {a b : Int} (h : Fl x a) (g : Fl y b) : (Ieee.double.order x y == some Ordering.gt) = decide (b < a) := by
  rw [h.order g]
  simp only [compare, compareOfLessAndEq]
  by_cases q1 : a < b
  · simp [q1]; omega
  · by_cases q2 : a = b
    · simp [q2]
    · simp [q1, q2]; omega

theorem Fl.lt {x y : Nat} {a b : Int} (h : Fl x a) (g : Fl y b) : (Ieee.double.order x y == some Ordering.lt) = decide (a < b) := by
  rw [h.order g]
  simp only [compare, compareOfLessAndEq]
  by_cases q1 : a < b
  · simp [q1]
  · by_cases q2 : a = b
    · simp [q2]
    · simp [q1, q2]

/-- back to a whole number of 64 bits -/
theorem Fl.toInt {x : Nat} {a : Int} (h : Fl x a) (hb : a.natAbs < 2 ^ 53) : floatToIntVal .f64 x .i64 = some a := by
  obtain ⟨s, m, i, h1, h2⟩ := h
  have hd : FloatKind.f64.decode x = .number s m i := h1
  unfold floatToIntVal
  rw [hd]
  have hz : (Ieee.Datum.number s m i).toInt .zero = some (Ieee.signed s (Ieee.Toward.zero.cut s (m <<< i.toNat) (-i).toNat) 0) := rfl
  rw [hz]
  have hc : Ieee.Toward.zero.cut s (m <<< i.toNat) (-i).toNat = a.natAbs := by
    rw [Nat.shiftLeft_eq, h2.abs, cut_exact]
  rw [hc, signed_val, Int.pow_zero, Int.mul_one]
  have hv : val s a.natAbs = a := by
    unfold Worth at h2
    by_cases h0 : a = 0
    · subst h0; cases s <;> rfl
    · have hs : 0 < val s m * 2 ^ i.toNat ↔ 0 < a := by
        rw [h2]
        constructor
        · intro q; exact Int.pos_of_mul_pos_left q (pow_pos_int _)
        · intro q; exact Int.mul_pos q (pow_pos_int _)
      cases s
      · have : 0 ≤ val false m * 2 ^ i.toNat := Int.mul_nonneg (by simp [val]) (Int.le_of_lt (pow_pos_int _))
        have hne : val false m * 2 ^ i.toNat ≠ 0 := by
          rw [h2]; exact Int.mul_ne_zero h0 (Int.ne_of_gt (pow_pos_int _))
        have : 0 < a := hs.1 (by omega)
        simp [val]; omega
      · have : val true m * 2 ^ i.toNat ≤ 0 := by
          have := Int.mul_nonneg (a := (m : Int)) (b := 2 ^ i.toNat) (by omega) (Int.le_of_lt (pow_pos_int _))
          simp only [val, if_true, Int.neg_mul]; omega
        have : ¬ 0 < a := fun q => by have := hs.2 q; omega
        simp [val]; omega
  rw [hv]
  have m1 : IntKind.i64.min = -9223372036854775808 := by decide
  have m2 : IntKind.i64.max = 9223372036854775807 := by decide
  simp only [m1, m2]
  rw [if_pos ⟨by omega, by omega⟩]

theorem Fl.neg {x : Nat} {a : Int} (h : Fl x a) : Fl (Op.negFloat .f64 x) (-a) := by
  obtain ⟨s, m, e, h1, h2⟩ := h
  refine ⟨!s, m, e, ?_, h2.opposite⟩
  have e0 : Op.negFloat .f64 x = x ^^^ 2 ^ 63 := rfl
  have e1 : Ieee.double.signWeight = 2 ^ 63 := by decide
  have a1 : ((x ^^^ 2 ^ 63) / 2 ^ 63 % 2 == 1) = !(x / 2 ^ 63 % 2 == 1) := by
    have k1 := Nat.testBit_eq_decide_div_mod_eq (x := x ^^^ 2 ^ 63) (i := 63)
    have k2 := Nat.testBit_eq_decide_div_mod_eq (x := x) (i := 63)
    rw [Nat.testBit_xor, Nat.testBit_two_pow_self, k2] at k1
    have b1 : ∀ n : Nat, (n == 1) = decide (n = 1) := fun n => by by_cases q : n = 1 <;> simp [q]
    rw [b1, b1, ← k1]
    simp
  have a2 : (x ^^^ 2 ^ 63) % 2 ^ 63 = x % 2 ^ 63 := by
    apply Nat.eq_of_testBit_eq
    intro i
    rw [Nat.testBit_mod_two_pow, Nat.testBit_mod_two_pow, Nat.testBit_xor]
    by_cases q : i < 63
    · rw [Nat.testBit_two_pow_of_ne (by omega)]; simp
    · simp [q]
  rw [e0]
  unfold Ieee.Format.read at h1 ⊢
  simp only [e1] at h1 ⊢
  rw [a1, a2]
  generalize (x / 2 ^ 63 % 2 == 1) = g at h1 ⊢
  generalize x % 2 ^ 63 = r at h1 ⊢
  split at h1
  · rename_i q; rw [if_pos q]; cases h1; rfl
  · rename_i q
    rw [if_neg q]
    split at h1
    · rename_i q; rw [if_pos q]; cases h1; rfl
    · rename_i q
      rw [if_neg q]
      split at h1 <;> cases h1

theorem fl_zero : Fl 0 0 := ⟨false, 0, -1074, by decide, by unfold Worth val; rw [Int.zero_mul]; rfl⟩

end Go.Proofs.Ytboocllckolmgaa
