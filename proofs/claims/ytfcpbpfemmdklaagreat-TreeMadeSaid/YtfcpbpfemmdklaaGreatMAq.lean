/- Texts of a layer, one behind the other. -/
import Derived.WalkLawsBesides
import Derived.Test.YtfcpbpfemmdklaaGreatProg
import Derived.WalkKit
import Derived.Laws.BitsAllLaws
import Derived.Laws.CopyOwn
import Derived.Laws.MakeOwn
import Derived.Outline
import Derived.Maps.AppendAt
import Derived.OneCell
import Derived.OwnWalk
import Derived.Laws.AppendOwnNone
import Derived.Lib.Hide
import Derived.StillTailTactics
import Derived.BigQuiet
import Derived.BigRegion
import Derived.LoopTactic
import Derived.RegionTactic
import Derived.Deep.DeepMust
import Derived.Deep.QuietTactic
import Derived.Deep.LoopGhost
import Derived.Deep.OwnRows
import Derived.Deep.RegionHeld3
import Derived.Laws.StructEq
/- Whole numbers as floats: the sum, the difference, the product, the order and the conversions of floats that stand for whole numbers below 2^53 are those of the numbers. No conditions. -/
namespace Go.Proofs.YtfcpbpfemmdklaaGreat.La

/-- a magnitude with its sign -/
def val (s : Bool) (m : Nat) : Int := if s then -(m : Int) else (m : Int)

/-- the number 'm * 2 ^ e', with its sign, is the whole number n -/
def Worth (s : Bool) (m : Nat) (e : Int) (n : Int) : Prop := val s m * 2 ^ e.toNat = n * 2 ^ (-e).toNat

/-- the float of these bits is the whole number n -/
def Fl (b : Nat) (n : Int) : Prop := ∃ s m e, Ieee.double.read b = .number s m e ∧ Worth s m e n

theorem signed_val (s : Bool) (m k : Nat) : Ieee.signed s m k = val s m * 2 ^ k := by
  cases s <;> simp [Ieee.signed, val, Nat.shiftLeft_eq, Int.neg_mul]

theorem pow_pos_int (k : Nat) : (0 : Int) < 2 ^ k := Int.pow_pos (by decide)

theorem val_natAbs (s : Bool) (m : Nat) : (val s m).natAbs = m := by cases s <;> simp [val]

theorem mul_right_cancel_pow {a b : Int} {k : Nat} (h : a * 2 ^ k = b * 2 ^ k) : a = b :=
  Int.eq_of_mul_eq_mul_right (Int.ne_of_gt (pow_pos_int k)) h

/-- the same number at a lower place -/
theorem Worth.down {s m e n} (h : Worth s m e n) {k : Int} (hk : k ≤ e) : val s m * 2 ^ (e - k).toNat * 2 ^ k.toNat = n * 2 ^ (-k).toNat := by
  unfold Worth at h
  -- multiply both sides by the same power
  have key : val s m * 2 ^ (e - k).toNat * 2 ^ k.toNat * 2 ^ (-e).toNat = n * 2 ^ (-k).toNat * 2 ^ (-e).toNat := by
    have e1 : (e - k).toNat + k.toNat + (-e).toNat = e.toNat + (-k).toNat := by omega
    calc val s m * 2 ^ (e - k).toNat * 2 ^ k.toNat * 2 ^ (-e).toNat = val s m * 2 ^ ((e - k).toNat + k.toNat + (-e).toNat) := by
          rw [Int.pow_add, Int.pow_add]; simp only [Int.mul_assoc]
      _ = val s m * 2 ^ e.toNat * 2 ^ (-k).toNat := by rw [e1, Int.pow_add, Int.mul_assoc]
      _ = n * 2 ^ (-k).toNat * 2 ^ (-e).toNat := by rw [h, Int.mul_assoc, Int.mul_assoc, Int.mul_comm (2 ^ (-e).toNat)]
  exact mul_right_cancel_pow key

theorem Worth.abs {s m e n} (h : Worth s m e n) : m * 2 ^ e.toNat = n.natAbs * 2 ^ (-e).toNat := by
  have := congrArg Int.natAbs h
  rw [Int.natAbs_mul, Int.natAbs_mul, val_natAbs, Int.natAbs_pow, Int.natAbs_pow] at this
  exact this

theorem Worth.zero {s m e} (h : Worth s m e 0) : m = 0 := by
  have h := h.abs
  simp only [Int.natAbs_zero, Nat.zero_mul] at h
  rcases Nat.mul_eq_zero.1 h with h | h
  · exact h
  · exact absurd h (Nat.ne_of_gt (Nat.two_pow_pos _))

theorem read_word (s : Bool) (r : Nat) (h : r < 2 ^ 63) : Ieee.double.read (Ieee.double.word s r) =
    if r < 2 ^ 52 then .number s r (-1074) else if r < 2047 * 2 ^ 52 then .number s (2 ^ 52 + r % 2 ^ 52) (-1074 + (r / 2 ^ 52 - 1 : Nat))
    else if r = 2047 * 2 ^ 52 then .infinity s else .nan s (r - 2047 * 2 ^ 52) := by
  have e1 : Ieee.double.signWeight = 2 ^ 63 := by decide
  have e2 : Ieee.double.binade = 2 ^ 52 := by decide
  have e3 : Ieee.double.infRung = 2047 * 2 ^ 52 := by decide
  have e4 : Ieee.double.leastPlace = -1074 := by decide
  unfold Ieee.Format.read Ieee.Format.word
  simp only [e1, e2, e3, e4]
  cases s
  · have a1 : r / 2 ^ 63 % 2 = 0 := by rw [Nat.div_eq_of_lt h]
    have a2 : r % 2 ^ 63 = r := Nat.mod_eq_of_lt h
    simp [a1, a2]
  · have a1 : (2 ^ 63 + r) / 2 ^ 63 % 2 = 1 := by
      rw [Nat.add_div_left _ (by decide), Nat.div_eq_of_lt h]
    have a2 : (2 ^ 63 + r) % 2 ^ 63 = r := by rw [Nat.add_mod_left, Nat.mod_eq_of_lt h]
    simp only [if_true, a1, a2, beq_self_eq_true]

theorem cut_zero (w : Ieee.Toward) (s : Bool) (n : Nat) : w.cut s n 0 = n := by
  unfold Ieee.Toward.cut
  cases w <;> simp [Nat.mod_one]

theorem cut_exact (w : Ieee.Toward) (s : Bool) (q d : Nat) : w.cut s (q * 2 ^ d) d = q := by
  by_cases hq : q = 0
  · subst hq
    unfold Ieee.Toward.cut
    cases w <;> simp [Nat.shiftLeft_eq]
  · have hl : d ≤ (q * 2 ^ d).log2 := by
      rw [Nat.le_log2 (Nat.mul_ne_zero hq (Nat.ne_of_gt (Nat.two_pow_pos _)))]
      exact Nat.le_mul_of_pos_left _ (Nat.pos_of_ne_zero hq)
    have hm : min d ((q * 2 ^ d).log2 + 2) = d := by omega
    unfold Ieee.Toward.cut
    simp only [hm, Nat.shiftLeft_eq, Nat.one_mul, Nat.mul_div_cancel _ (Nat.two_pow_pos d), Nat.mul_mod_left]
    have hp := Nat.two_pow_pos d
    cases w <;> simp

/-- what is written of a whole number below 2^53 is that number -/
theorem nearest_fl {s m e n} (h : Worth s m e n) (hb : n.natAbs < 2 ^ 53) : Fl (Ieee.double.nearest s m e) n := by
  have e4 : Ieee.double.leastPlace = -1074 := by decide
  have e2 : Ieee.double.binade = 2 ^ 52 := by decide
  have e3 : Ieee.double.infRung = 2047 * 2 ^ 52 := by decide
  have e5 : Ieee.double.fractionBits = 52 := by decide
  by_cases hm : m = 0
  · subst hm
    have hn : n = 0 := by
      have := h.abs
      rw [Nat.zero_mul] at this
      rcases Nat.mul_eq_zero.1 this.symm with h1 | h1
      · omega
      · exact absurd h1 (Nat.ne_of_gt (Nat.two_pow_pos _))
    subst hn
    refine ⟨s, 0, -1074, ?_, ?_⟩
    · unfold Ieee.Format.nearest
      rw [if_pos rfl, read_word _ _ (by decide), if_pos (by decide)]
    · unfold Worth val; cases s <;> rw [Int.zero_mul] <;> simp only [if_true, Bool.false_eq_true, if_false] <;> rfl
  · have ha := h.abs
    have hlo := Nat.log2_self_le hm
    have hhi := @Nat.lt_log2_self m
    generalize hL : m.log2 = L at hlo hhi
    -- 0 ≤ e + L ≤ 52
    have hn0 : n.natAbs ≠ 0 := by
      intro h0
      rw [h0, Nat.zero_mul] at ha
      rcases Nat.mul_eq_zero.1 ha with h1 | h1
      · exact hm h1
      · exact absurd h1 (Nat.ne_of_gt (Nat.two_pow_pos _))
    have hlow : 0 ≤ e + L := by
      rcases Int.le_total 0 e with he | he
      · omega
      · have z : e.toNat = 0 := by omega
        rw [z, Nat.pow_zero, Nat.mul_one] at ha
        have : 2 ^ (-e).toNat ≤ m := by rw [ha]; exact Nat.le_mul_of_pos_left _ (Nat.pos_of_ne_zero hn0)
        have : 2 ^ (-e).toNat < 2 ^ (L + 1) := Nat.lt_of_le_of_lt this hhi
        have := (Nat.pow_lt_pow_iff_right (by decide)).1 this
        omega
    have hup : e + L ≤ 52 := by
      have : 2 ^ (L + e.toNat) < 2 ^ (53 + (-e).toNat) := by
        calc 2 ^ (L + e.toNat) = 2 ^ L * 2 ^ e.toNat := Nat.pow_add ..
          _ ≤ m * 2 ^ e.toNat := Nat.mul_le_mul_right _ hlo
          _ = n.natAbs * 2 ^ (-e).toNat := ha
          _ < 2 ^ 53 * 2 ^ (-e).toNat := Nat.mul_lt_mul_of_pos_right hb (Nat.two_pow_pos _)
          _ = 2 ^ (53 + (-e).toNat) := (Nat.pow_add ..).symm
      have := (Nat.pow_lt_pow_iff_right (by decide)).1 this
      omega
    -- what is kept
    have hlast : max (e + (L : Int) - 52) (-1074) = e + L - 52 := by omega
    obtain ⟨K, hK, hKlo, hKhi⟩ : ∃ K, Ieee.Toward.even.cut s (m <<< (e - (e + (L : Int) - 52)).toNat) ((e + (L : Int) - 52) - e).toNat = K ∧ 2 ^ 52 ≤ K ∧ (K < 2 ^ 53 ∧ Worth s K (e + L - 52) n) := by
      rcases Nat.le_total L 52 with hl | hl
      · have z1 : ((e + (L : Int) - 52) - e).toNat = 0 := by omega
        have z2 : (e - (e + (L : Int) - 52)).toNat = 52 - L := by omega
        refine ⟨m * 2 ^ (52 - L), ?_, ?_, ?_, ?_⟩
        · rw [z1, z2, cut_zero, Nat.shiftLeft_eq]
        · calc 2 ^ 52 = 2 ^ (L + (52 - L)) := by congr 1; omega
            _ = 2 ^ L * 2 ^ (52 - L) := Nat.pow_add ..
            _ ≤ m * 2 ^ (52 - L) := Nat.mul_le_mul_right _ hlo
        · calc m * 2 ^ (52 - L) < 2 ^ (L + 1) * 2 ^ (52 - L) := Nat.mul_lt_mul_of_pos_right hhi (Nat.two_pow_pos _)
            _ = 2 ^ (L + 1 + (52 - L)) := (Nat.pow_add ..).symm
            _ = 2 ^ 53 := by congr 1; omega
        · have hd := h.down (k := e + L - 52) (by omega)
          unfold Worth
          rw [← hd]
          have z3 : (e - (e + (L : Int) - 52)).toNat = 52 - L := z2
          rw [z3]
          congr 1
          cases s <;> simp [val, Int.neg_mul]
      · have z2 : (e - (e + (L : Int) - 52)).toNat = 0 := by omega
        have z1 : ((e + (L : Int) - 52) - e).toNat = L - 52 := by omega
        have he : e ≤ 0 := by omega
        have z4 : e.toNat = 0 := by omega
        rw [z4, Nat.pow_zero, Nat.mul_one] at ha
        -- m is a multiple of 2 ^ (L - 52)
        have hd : (-e).toNat = (-e).toNat - (L - 52) + (L - 52) := by omega
        have hm2 : m = n.natAbs * 2 ^ ((-e).toNat - (L - 52)) * 2 ^ (L - 52) := by
          rw [Nat.mul_assoc, ← Nat.pow_add, ← hd, ← ha]
        generalize hQ : n.natAbs * 2 ^ ((-e).toNat - (L - 52)) = Q at hm2
        refine ⟨Q, ?_, ?_, ?_, ?_⟩
        · rw [z1, z2, Nat.shiftLeft_eq, Nat.pow_zero, Nat.mul_one]
          rw [hm2]
          exact cut_exact ..
        · have : 2 ^ 52 * 2 ^ (L - 52) ≤ Q * 2 ^ (L - 52) := by
            rw [← hm2, ← Nat.pow_add]
            have : 52 + (L - 52) = L := by omega
            rw [this]; exact hlo
          exact Nat.le_of_mul_le_mul_right this (Nat.two_pow_pos _)
        · have : Q * 2 ^ (L - 52) < 2 ^ 53 * 2 ^ (L - 52) := by
            rw [← hm2, ← Nat.pow_add]
            have : 53 + (L - 52) = L + 1 := by omega
            rw [this]; exact hhi
          exact Nat.lt_of_mul_lt_mul_right this
        · unfold Worth at h ⊢
          have z5 : (e + (L : Int) - 52).toNat = 0 := by omega
          have z6 : (-(e + (L : Int) - 52)).toNat = (-e).toNat - (L - 52) := by omega
          rw [z4, Int.pow_zero, Int.mul_one] at h
          rw [z5, z6, Int.pow_zero, Int.mul_one]
          refine mul_right_cancel_pow (k := L - 52) ?_
          rw [Int.mul_assoc, ← Int.pow_add, ← hd, ← h, hm2]
          cases s <;> simp [val, Int.neg_mul]
    -- the word
    have hrung : (e + (L : Int) - 52 - -1074).toNat * 2 ^ 52 + K < 2047 * 2 ^ 52 := by
      have : (e + (L : Int) - 52 - -1074).toNat ≤ 1074 := by omega
      omega
    generalize hT : (e + (L : Int) - 52 - -1074).toNat = T at hrung
    have hw : Ieee.double.nearest s m e = Ieee.double.word s (T * 2 ^ 52 + K) := by
      unfold Ieee.Format.nearest
      simp only [if_neg hm, e2, e3, e4, e5, hL]
      have c52 : ((52 : Nat) : Int) = 52 := rfl
      rw [c52, hlast, hK, hT, Nat.min_eq_left (Nat.le_of_lt hrung)]
    refine ⟨s, K, e + L - 52, ?_, hKhi.2⟩
    rw [hw, read_word _ _ (by omega), if_neg (by omega), if_pos hrung]
    have d1 : (T * 2 ^ 52 + K) / 2 ^ 52 = T + 1 := by omega
    have d2 : (T * 2 ^ 52 + K) % 2 ^ 52 = K - 2 ^ 52 := by omega
    rw [d1, d2]
    have : 2 ^ 52 + (K - 2 ^ 52) = K := by omega
    rw [this]
    have : (-1074 : Int) + ((T + 1 - 1 : Nat) : Int) = e + L - 52 := by omega
    rw [this]

theorem write_fl {s m e n} (h : Worth s m e n) (hb : n.natAbs < 2 ^ 53) : Fl (Ieee.double.write (.number s m e)) n := nearest_fl h hb

theorem of_int (n : Int) (hb : n.natAbs < 2 ^ 53) : Fl (floatOfInt .f64 n) n := by
  refine write_fl (s := decide (n < 0)) (m := n.natAbs) (e := 0) ?_ hb
  unfold Worth
  by_cases h : n < 0
  · simp [val, h]; omega
  · simp [val, h]; omega

theorem Worth.opposite {s m e n} (h : Worth s m e n) : Worth (!s) m e (-n) := by
  unfold Worth at *
  have : val (!s) m = - val s m := by cases s <;> simp [val]
  rw [this, Int.neg_mul, h, Int.neg_mul]

theorem Worth.product {s m i a t n j b} (h : Worth s m i a) (g : Worth t n j b) : Worth (s ^^ t) (m * n) (i + j) (a * b) := by
  unfold Worth at *
  have hv : val (s ^^ t) (m * n) = val s m * val t n := by
    cases s <;> cases t <;> simp [val, Int.neg_mul, Int.mul_neg]
  have key : val s m * val t n * 2 ^ (i.toNat + j.toNat) = a * b * 2 ^ ((-i).toNat + (-j).toNat) := by
    rw [Int.pow_add, Int.pow_add]
    calc val s m * val t n * (2 ^ i.toNat * 2 ^ j.toNat) = (val s m * 2 ^ i.toNat) * (val t n * 2 ^ j.toNat) := by
          simp only [Int.mul_assoc, Int.mul_left_comm]
      _ = (a * 2 ^ (-i).toNat) * (b * 2 ^ (-j).toNat) := by rw [h, g]
      _ = _ := by simp only [Int.mul_assoc, Int.mul_left_comm]
  rw [hv]
  have e1 : i.toNat + j.toNat = (i + j).toNat + (i.toNat + j.toNat - (i + j).toNat) := by omega
  have e2 : (-i).toNat + (-j).toNat = (-(i + j)).toNat + (i.toNat + j.toNat - (i + j).toNat) := by omega
  refine mul_right_cancel_pow (k := i.toNat + j.toNat - (i + j).toNat) ?_
  rw [Int.mul_assoc (val s m * val t n), Int.mul_assoc (a * b), ← Int.pow_add, ← Int.pow_add, ← e1, ← e2]
  exact key

theorem Worth.sum {s m i a t n j b} (h : Worth s m i a) (g : Worth t n j b) :
    (Ieee.signed s m (i - min i j).toNat + Ieee.signed t n (j - min i j).toNat) * 2 ^ (min i j).toNat = (a + b) * 2 ^ (-(min i j)).toNat := by
  rw [signed_val, signed_val, Int.add_mul, Int.add_mul, h.down (k := min i j) (by omega), g.down (k := min i j) (by omega)]

theorem Fl.mul {x y : Nat} {a b : Int} (h : Fl x a) (g : Fl y b) (hb : (a * b).natAbs < 2 ^ 53) : ∃ r, floatBits .mul .f64 x y = some r ∧ Fl r (a * b) := by
  obtain ⟨s, m, i, h1, h2⟩ := h
  obtain ⟨t, n, j, g1, g2⟩ := g
  refine ⟨_, ?_, write_fl (h2.product g2) hb⟩
  show (((Ieee.double.read x).product (Ieee.double.read y)).map Ieee.double.write) = _
  rw [h1, g1]; rfl

theorem sum_num {s m i a t n j b} (h : Worth s m i a) (g : Worth t n j b) : ∃ u k e, (Ieee.Datum.number s m i).sum (.number t n j) = some (.number u k e) ∧ Worth u k e (a + b) := by
  refine ⟨_, _, _, rfl, ?_⟩
  have := Worth.sum h g
  generalize Ieee.signed s m (i - min i j).toNat + Ieee.signed t n (j - min i j).toNat = T at this ⊢
  unfold Worth
  rw [← this]
  congr 1
  unfold val
  by_cases h0 : T = 0
  · subst h0; simp
  · simp only [if_neg h0, decide_eq_true_eq]
    split <;> omega

theorem Fl.add {x y : Nat} {a b : Int} (h : Fl x a) (g : Fl y b) (hb : (a + b).natAbs < 2 ^ 53) : ∃ r, floatBits .add .f64 x y = some r ∧ Fl r (a + b) := by
  obtain ⟨s, m, i, h1, h2⟩ := h
  obtain ⟨t, n, j, g1, g2⟩ := g
  obtain ⟨u, k, e, q1, q2⟩ := sum_num h2 g2
  refine ⟨_, ?_, write_fl q2 hb⟩
  show (((Ieee.double.read x).sum (Ieee.double.read y)).map Ieee.double.write) = _
  rw [h1, g1, q1]; rfl

theorem Fl.sub {x y : Nat} {a b : Int} (h : Fl x a) (g : Fl y b) (hb : (a - b).natAbs < 2 ^ 53) : ∃ r, floatBits .sub .f64 x y = some r ∧ Fl r (a - b) := by
  obtain ⟨s, m, i, h1, h2⟩ := h
  obtain ⟨t, n, j, g1, g2⟩ := g
  obtain ⟨u, k, e, q1, q2⟩ := sum_num h2 g2.opposite
  rw [Int.sub_eq_add_neg] at hb ⊢
  refine ⟨_, ?_, write_fl q2 hb⟩
  show (((Ieee.double.read x).sum (Ieee.double.read y).opposite).map Ieee.double.write) = _
  rw [h1, g1]
  show ((Ieee.Datum.number s m i).sum (.number (!t) n j)).map _ = _
  rw [q1]; rfl

theorem Fl.order {x y : Nat} {a b : Int} (h : Fl x a) (g : Fl y b) : Ieee.double.order x y = some (compare a b) := by
  obtain ⟨s, m, i, h1, h2⟩ := h
  obtain ⟨t, n, j, g1, g2⟩ := g
  unfold Ieee.Format.order
  rw [h1, g1]
  show some (compare (Ieee.signed s m (i - min i j).toNat) (Ieee.signed t n (j - min i j).toNat)) = _
  congr 1
  rw [signed_val, signed_val]
  have ha := h2.down (k := min i j) (by omega)
  have hb := g2.down (k := min i j) (by omega)
  generalize val s m * 2 ^ (i - min i j).toNat = A at ha ⊢
  generalize val t n * 2 ^ (j - min i j).toNat = B at hb ⊢
  have p1 := pow_pos_int (min i j).toNat
  have p2 := pow_pos_int (-(min i j)).toNat
  generalize (2 : Int) ^ (min i j).toNat = U at *
  generalize (2 : Int) ^ (-(min i j)).toNat = V at *
  have lt1 : A < B ↔ a < b := by
    constructor
    · intro q
      have := Int.mul_lt_mul_of_pos_right q p1
      rw [ha, hb] at this
      exact Int.lt_of_mul_lt_mul_right this (Int.le_of_lt p2)
    · intro q
      have := Int.mul_lt_mul_of_pos_right q p2
      rw [← ha, ← hb] at this
      exact Int.lt_of_mul_lt_mul_right this (Int.le_of_lt p1)
  have lt2 : B < A ↔ b < a := by
    constructor
    · intro q
      have := Int.mul_lt_mul_of_pos_right q p1
      rw [ha, hb] at this
      exact Int.lt_of_mul_lt_mul_right this (Int.le_of_lt p2)
    · intro q
      have := Int.mul_lt_mul_of_pos_right q p2
      rw [← ha, ← hb] at this
      exact Int.lt_of_mul_lt_mul_right this (Int.le_of_lt p1)
  have eq1 : A = B ↔ a = b := by omega
  simp only [compare, compareOfLessAndEq]
  by_cases q1 : a < b
  · rw [if_pos q1, if_pos (lt1.2 q1)]
  · rw [if_neg q1, if_neg (fun z => q1 (lt1.1 z))]
    by_cases q2 : a = b
    · rw [if_pos q2, if_pos (eq1.2 q2)]
    · rw [if_neg q2, if_neg (fun z => q2 (eq1.1 z))]

theorem Fl.gt {x y : Nat} {a b : Int} (h : Fl x a) (g : Fl y b) : (Ieee.double.order x y == some Ordering.gt) = decide (b < a) := by
  rw [h.order g]
  simp only [compare, compareOfLessAndEq]
  by_cases q1 : a < b
  · simp [q1]; omega
  · by_cases q2 : a = b
    · simp [q2]
    · simp [q1, q2]; omega

theorem Fl.lt {x y : Nat} {a b : Int} (h : Fl x a) (g : Fl y b) : (Ieee.double.order x y == some Ordering.lt) = decide (a < b) := by
  rw [h.order g]
  simp only [compare, compareOfLessAndEq]
  by_cases q1 : a < b
  · simp [q1]
  · by_cases q2 : a = b
    · simp [q2]
    · simp [q1, q2]

/-- back to a whole number of 64 bits -/
theorem Fl.toInt {x : Nat} {a : Int} (h : Fl x a) (hb : a.natAbs < 2 ^ 53) : floatToIntVal .f64 x .i64 = some a := by
  obtain ⟨s, m, i, h1, h2⟩ := h
  have hd : FloatKind.f64.decode x = .number s m i := h1
  unfold floatToIntVal
  rw [hd]
  have hz : (Ieee.Datum.number s m i).toInt .zero = some (Ieee.signed s (Ieee.Toward.zero.cut s (m <<< i.toNat) (-i).toNat) 0) := rfl
  rw [hz]
  have hc : Ieee.Toward.zero.cut s (m <<< i.toNat) (-i).toNat = a.natAbs := by
    rw [Nat.shiftLeft_eq, h2.abs, cut_exact]
  rw [hc, signed_val, Int.pow_zero, Int.mul_one]
  have hv : val s a.natAbs = a := by
    unfold Worth at h2
    by_cases h0 : a = 0
    · subst h0; cases s <;> rfl
    · have hs : 0 < val s m * 2 ^ i.toNat ↔ 0 < a := by
        rw [h2]
        constructor
        · intro q; exact Int.pos_of_mul_pos_left q (pow_pos_int _)
        · intro q; exact Int.mul_pos q (pow_pos_int _)
      cases s
      · have : 0 ≤ val false m * 2 ^ i.toNat := Int.mul_nonneg (by simp [val]) (Int.le_of_lt (pow_pos_int _))
        have hne : val false m * 2 ^ i.toNat ≠ 0 := by
          rw [h2]; exact Int.mul_ne_zero h0 (Int.ne_of_gt (pow_pos_int _))
        have : 0 < a := hs.1 (by omega)
        simp [val]; omega
      · have : val true m * 2 ^ i.toNat ≤ 0 := by
          have := Int.mul_nonneg (a := (m : Int)) (b := 2 ^ i.toNat) (by omega) (Int.le_of_lt (pow_pos_int _))
          simp only [val, if_true, Int.neg_mul]; omega
        have : ¬ 0 < a := fun q => by have := hs.2 q; omega
        simp [val]; omega
  rw [hv]
  have m1 : IntKind.i64.min = -9223372036854775808 := by decide
  have m2 : IntKind.i64.max = 9223372036854775807 := by decide
  simp only [m1, m2]
  rw [if_pos ⟨by omega, by omega⟩]

theorem Fl.neg {x : Nat} {a : Int} (h : Fl x a) : Fl (Op.negFloat .f64 x) (-a) := by
  obtain ⟨s, m, e, h1, h2⟩ := h
  refine ⟨!s, m, e, ?_, h2.opposite⟩
  have e0 : Op.negFloat .f64 x = x ^^^ 2 ^ 63 := rfl
  have e1 : Ieee.double.signWeight = 2 ^ 63 := by decide
  have a1 : ((x ^^^ 2 ^ 63) / 2 ^ 63 % 2 == 1) = !(x / 2 ^ 63 % 2 == 1) := by
    have k1 := Nat.testBit_eq_decide_div_mod_eq (x := x ^^^ 2 ^ 63) (i := 63)
    have k2 := Nat.testBit_eq_decide_div_mod_eq (x := x) (i := 63)
    rw [Nat.testBit_xor, Nat.testBit_two_pow_self, k2] at k1
    have b1 : ∀ n : Nat, (n == 1) = decide (n = 1) := fun n => by by_cases q : n = 1 <;> simp [q]
    rw [b1, b1, ← k1]
    simp
  have a2 : (x ^^^ 2 ^ 63) % 2 ^ 63 = x % 2 ^ 63 := by
    apply Nat.eq_of_testBit_eq
    intro i
    rw [Nat.testBit_mod_two_pow, Nat.testBit_mod_two_pow, Nat.testBit_xor]
    by_cases q : i < 63
    · rw [Nat.testBit_two_pow_of_ne (by omega)]; simp
    · simp [q]
  rw [e0]
  unfold Ieee.Format.read at h1 ⊢
  simp only [e1] at h1 ⊢
  rw [a1, a2]
  generalize (x / 2 ^ 63 % 2 == 1) = g at h1 ⊢
  generalize x % 2 ^ 63 = r at h1 ⊢
  split at h1
  · rename_i q; rw [if_pos q]; cases h1; rfl
  · rename_i q
    rw [if_neg q]
    split at h1
    · rename_i q; rw [if_pos q]; cases h1; rfl
    · rename_i q
      rw [if_neg q]
      split at h1 <;> cases h1

theorem fl_zero : Fl 0 0 := ⟨false, 0, -1074, by decide, by unfold Worth val; rw [Int.zero_mul]; rfl⟩

end Go.Proofs.YtfcpbpfemmdklaaGreat.La

/- Points in memory: a coordinate, points, a shape. -/
namespace Go.Proofs.YtfcpbpfemmdklaaGreat.La
open Go.RowKit
set_option linter.unusedVariables false

theorem wrap_i64 (n : Int) (h0 : -9223372036854775808 ≤ n) (h1 : n ≤ 9223372036854775807) : IntKind.i64.wrap n = n := by
  simp [IntKind.wrap, IntKind.bits, IntKind.signed]
  omega

/-- A point. -/
structure Pt where
  X : Int
  Y : Int

/-- A point in memory. -/
def OnePt (w : World) (b o : Nat) (p : Pt) : Prop :=
  w.cell? ⟨b, o, none⟩ = some (.int .i64 p.X) ∧ w.cell? ⟨b, o + 1, none⟩ = some (.int .i64 p.Y)
def Fits (p : Pt) : Prop := (-9223372036854775808 ≤ p.X ∧ p.X ≤ 9223372036854775807) ∧ (-9223372036854775808 ≤ p.Y ∧ p.Y ≤ 9223372036854775807)
/-- Points in memory. -/
def Pts (w : World) (a : Option Addr) (n : Nat) (ps : List Pt) : Prop :=
  ps.length = n ∧ (∀ p ∈ ps, Fits p) ∧ (0 < n → ∃ b off, a = some ⟨b, off, none⟩ ∧ ∀ (i : Nat) (p : Pt), ps[i]? = some p → OnePt w b (off + i * 2) p)
theorem OnePt.up {w w' : World} {b o : Nat} {p : Pt} (h : OnePt w b o p) (hk : b < w.heap.size → w'.heap[b]? = w.heap[b]?) : OnePt w' b o p := by
  obtain ⟨c0, c1⟩ := h
  have hb := hk (World.block_lt_of_cell? w _ c0)
  exact ⟨(World.cell?_of_block (w := w) hb).trans c0, (World.cell?_of_block (w := w) hb).trans c1⟩
theorem Pts.later {w w' : World} {a : Option Addr} {n : Nat} {ps : List Pt} (h : Pts w a n ps) (hk : ∀ k, k < w.heap.size → w'.heap[k]? = w.heap[k]?) : Pts w' a n ps := by
  obtain ⟨h1, h2, h3⟩ := h
  refine ⟨h1, h2, fun hp => ?_⟩
  obtain ⟨b, off, e, hc⟩ := h3 hp
  exact ⟨b, off, e, fun i p hp => (hc i p hp).up (hk b)⟩
theorem Pts.below {w w' : World} {a : Option Addr} {n : Nat} {ps : List Pt} (h : Pts w a n ps) (hb : Below w.heap.size w w') : Pts w' a n ps := h.later hb.block
theorem Pts.at {w : World} {a : Option Addr} {n i : Nat} {ps : List Pt} (h : Pts w a n ps) (hi : i < n) : ∃ b off p, a = some ⟨b, off, none⟩ ∧ ps[i]? = some p ∧ Fits p ∧ OnePt w b (off + i * 2) p := by
  obtain ⟨h1, h2, h3⟩ := h
  obtain ⟨b, off, e, hc⟩ := h3 (by omega)
  have hl : i < ps.length := by omega
  exact ⟨b, off, ps[i], e, List.getElem?_eq_getElem hl, h2 _ (List.getElem_mem hl), hc i _ (List.getElem?_eq_getElem hl)⟩
theorem drop_cons {α : Type} {ys : List α} {i : Nat} {y : α} (h : ys[i]? = some y) : ys.drop i = y :: ys.drop (i + 1) := by
  obtain ⟨hl, rfl⟩ := List.getElem?_eq_some_iff.1 h
  exact List.drop_eq_getElem_cons hl
theorem take_more {α : Type} {ys : List α} {i : Nat} {y : α} (h : ys[i]? = some y) : ys.take (i + 1) = ys.take i ++ [y] := by
  rw [List.take_add_one, h]; rfl
theorem add_spot (b off j : Nat) : ((⟨b, off, none⟩ : Addr).add j) = ⟨b, off + j, none⟩ := by
  unfold Addr.add
  split
  · rename_i h; subst h; rfl
  · rfl
theorem below_more {B : Nat} {w w1 w2 : World} (h : Below B w w1) (h2 : Below w1.heap.size w1 w2) (hB : B ≤ w.heap.size) : Below B w w2 :=
  h.trans ⟨h2.os, h2.tape, h2.output, h2.size, fun k hk => h2.block k (Nat.lt_of_lt_of_le hk (Nat.le_trans hB h.size))⟩

/-- May a coordinate be this number? -/
def nearC (n : Int) : Bool := decide (-1048576 ≤ n) && decide (n ≤ 1048576)
/-- Is it a point by the document? -/
def near (p : Pt) : Bool := nearC p.X && nearC p.Y
theorem nearC_iff {n : Int} : nearC n = true ↔ -1048576 ≤ n ∧ n ≤ 1048576 := by simp [nearC]
theorem near_iff {p : Pt} : near p = true ↔ (-1048576 ≤ p.X ∧ p.X ≤ 1048576) ∧ (-1048576 ≤ p.Y ∧ p.Y ≤ 1048576) := by
  unfold near; rw [Bool.and_eq_true, nearC_iff, nearC_iff]
/-- Is it a shape by the document? -/
def shape (ps : List Pt) : Bool := decide (3 ≤ ps.length) && decide (ps.length ≤ 256) && ps.all near

/-- A bool, and the old memory as it was. -/
def Says (b : Bool) (w : World) (e : Ending) (w' : World) : Prop := e = .returned (.bool b) ∧ Below w.heap.size w w'

theorem coord_any (w : World) (n : Int) : Calls Tryz.prog 147 #[.int .i64 n] w (fun e w' => e = .returned (.bool (nearC n)) ∧ w' = w) := by
  unfold nearC
  by_cases h1 : -1048576 ≤ n
  · have u1 : decide (-1048576 ≤ n) = true := by simpa using h1
    rw [u1, Bool.true_and]
    by_cases h2 : n ≤ 1048576
    · have u2 : decide (n ≤ 1048576) = true := by simpa using h2
      rw [u2]
      go_enter Tryz.func147, Tryz.ntmps147
      go_wp2_with fail
      go_ret
      exact ⟨rfl, rfl⟩
    · have u2 : decide (n ≤ 1048576) = false := by simpa using h2
      rw [u2]
      go_enter Tryz.func147, Tryz.ntmps147
      go_wp2_with fail
      go_ret
      exact ⟨rfl, rfl⟩
  · have u1 : decide (-1048576 ≤ n) = false := by simpa using h1
    rw [u1, Bool.false_and]
    go_enter Tryz.func147, Tryz.ntmps147
    go_wp2_with fail
    go_ret
    exact ⟨rfl, rfl⟩

theorem all_take {ps : List Pt} {i : Nat} (h : (ps.take i).all near = true) (hi : ps.length ≤ i) : ps.all near = true := by
  rwa [List.take_of_length_le hi] at h
theorem all_no {ps : List Pt} {i : Nat} {p : Pt} (h : ps[i]? = some p) (hp : near p = false) : ps.all near = false := by
  rw [List.all_eq_false]
  exact ⟨p, List.mem_of_getElem? h, by simp [hp]⟩
theorem all_more {ps : List Pt} {i : Nat} {p : Pt} (h : ps[i]? = some p) (ha : (ps.take i).all near = true) (hp : near p = true) : (ps.take (i + 1)).all near = true := by
  rw [take_more h, List.all_append, ha, List.all_cons, List.all_nil, hp]; rfl

set_option maxRecDepth 100000 in
set_option maxHeartbeats 800000 in
theorem points_any (w : World) (a : Option Addr) (n c : Nat) (ps : List Pt) (h : Pts w a n ps) (hn : n ≤ 33554432) : Calls Tryz.prog 131 #[.slice a n c] w (Says (ps.all near) w) := by
  have HP := Lib.hid h
  clear h
  go_enter Tryz.func131, Tryz.ntmps131
  go_wp2_with fail
  go_loopw [7] (fun cnt wr => ∃ i : Nat, i ≤ n ∧ cnt = .int .i64 i ∧ (ps.take i).all near = true ∧ Below w.heap.size w wr) (fun cnt _ => n - (intOf cnt).toNat)
  case atStart => exact ⟨0, Nat.zero_le _, rfl, by simp, Below.refl _ _⟩
  case round =>
    obtain ⟨i, hi, rfl, hal, hb⟩ := hrel
    by_cases hlt : i < n
    · obtain ⟨b, off, p, rfl, hp, hfit, c0, c1⟩ := (HP.out.below hb).at hlt
      have HAL := Lib.hid hal
      have HPP := Lib.hid hp
      have HB := Lib.hid (show Below w.heap.size w (wr.alloc (.cells #[.int .i64 p.X, .int .i64 p.Y] 80)) from hb.alloc hb.size _)
      clear hal hp hfit hb
      have C1 := Lib.hid (coord_any (wr.alloc (.cells #[.int .i64 p.X, .int .i64 p.Y] 80)) p.X)
      have C2 := Lib.hid (coord_any (wr.alloc (.cells #[.int .i64 p.X, .int .i64 p.Y] 80)) p.Y)
      generalize hnx : nearC p.X = nx at C1
      generalize hny : nearC p.Y = ny at C2
      have HNX := Lib.hid hnx
      have HNY := Lib.hid hny
      clear hnx hny
      go_wp2_with fail
      refine C1.out.mono ?_
      rintro e w1 ⟨rfl, rfl⟩
      cases nx with
      | false =>
        have E := Lib.hid (all_no HPP.out (by unfold near; rw [HNX.out]; rfl))
        go_wp2_with fail
        go_ret
        rw [E.out]
        exact ⟨rfl, HB.out⟩
      | true =>
        go_wp2_with fail
        refine C2.out.mono ?_
        rintro e w1 ⟨rfl, rfl⟩
        cases ny with
        | false =>
          have E := Lib.hid (all_no HPP.out (by unfold near; rw [HNX.out, HNY.out]; rfl))
          go_wp2_with fail
          go_ret
          rw [E.out]
          exact ⟨rfl, HB.out⟩
        | true =>
          have E := Lib.hid (all_more HPP.out HAL.out (by unfold near; rw [HNX.out, HNY.out]; rfl))
          go_wp2_with fail
          go_roundw
          case rel => exact ⟨i + 1, hlt, by go_num, E.out, HB.out⟩
          case measure => simp [intOf]; omega
    · obtain rfl : i = n := by omega
      have E := Lib.hid (all_take hal (by rw [HP.out.1]; exact Nat.le_refl _))
      have HB := Lib.hid hb
      clear hal hb
      go_wp2_with fail
      go_ret
      rw [E.out]
      exact ⟨rfl, HB.out⟩

set_option maxRecDepth 100000 in
set_option maxHeartbeats 800000 in
theorem shape_any (w : World) (a : Option Addr) (n c : Nat) (ps : List Pt) (h : Pts w a n ps) (hn : n ≤ 33554432) : Calls Tryz.prog 106 #[.slice a n c] w (Says (shape ps) w) := by
  unfold shape
  rw [h.1]
  by_cases h3 : 3 ≤ n
  · have u3 : decide ((3 : Int) ≤ (n : Int)) = true := by simp; omega
    have v3 : decide (3 ≤ n) = true := by simpa using h3
    rw [v3, Bool.true_and]
    by_cases h4 : n ≤ 256
    · have u4 : decide ((n : Int) ≤ 256) = true := by simp; omega
      have v4 : decide (n ≤ 256) = true := by simpa using h4
      rw [v4, Bool.true_and]
      have C := Lib.hid (points_any w a n c ps h hn)
      clear h
      go_enter Tryz.func106, Tryz.ntmps106
      go_wp2_with fail
      refine C.out.mono ?_
      rintro e w1 ⟨rfl, hb⟩
      have HB := Lib.hid hb
      clear hb
      generalize ps.all near = q at *
      go_wp2_with fail
      go_ret
      exact ⟨rfl, HB.out⟩
    · have u4 : decide ((n : Int) ≤ 256) = false := by simp; omega
      have v4 : decide (n ≤ 256) = false := by simpa using h4
      rw [v4, Bool.false_and]
      clear h
      go_enter Tryz.func106, Tryz.ntmps106
      go_wp2_with fail
      go_ret
      exact ⟨rfl, Below.refl _ _⟩
  · have u3 : decide ((3 : Int) ≤ (n : Int)) = false := by simp; omega
    have v3 : decide (3 ≤ n) = false := by simpa using h3
    rw [v3, Bool.false_and, Bool.false_and]
    clear h
    go_enter Tryz.func106, Tryz.ntmps106
    go_wp2_with fail
    go_ret
    exact ⟨rfl, Below.refl _ _⟩
end Go.Proofs.YtfcpbpfemmdklaaGreat.La

/- A point as a complex number, and back; across. -/
namespace Go.Proofs.YtfcpbpfemmdklaaGreat.La
open Go.RowKit
set_option linter.unusedVariables false

/-- The float of a whole number. -/
def fb (n : Int) : Nat := floatOfInt .f64 n
theorem fb_fl {n : Int} (h : nearC n = true) : Fl (fb n) n := of_int n (by have := nearC_iff.1 h; omega)
/-- A point as a value. -/
def ptv (p : Pt) : Value := .agg #[.int .i64 p.X, .int .i64 p.Y]
/-- A point as a complex number. -/
def cx (p : Pt) : Value := .complex .f64 (fb p.X) (fb p.Y)
/-- A point as a block. -/
def ptb (p : Pt) : Obj := .cells #[.int .i64 p.X, .int .i64 p.Y] 80

theorem number_any (w : World) (p : Pt) : Calls Tryz.prog 133 #[.agg #[.int .i64 p.X, .int .i64 p.Y]] w (fun e w' => e = .returned (.complex .f64 (fb p.X) (fb p.Y)) ∧ w' = w.alloc (.cells #[.int .i64 p.X, .int .i64 p.Y] 80)) := by
  go_enter Tryz.func133, Tryz.ntmps133
  go_wp2_with fail
  go_ret
  exact ⟨rfl, rfl⟩

theorem neg_float (x : Nat) : Op.unary .neg (.float .f64 x) = pure (.float .f64 (Op.negFloat .f64 x)) := rfl

theorem back_any (w : World) (x y : Nat) : Calls Tryz.prog 157 #[.complex .f64 x y] w (fun e w' => e = .returned (.complex .f64 x (Op.negFloat .f64 y)) ∧ w' = w) := by
  have hn := neg_float y
  go_enter Tryz.func157, Tryz.ntmps157
  go_wp2_with fail
  go_ret
  exact ⟨rfl, rfl⟩

/-- across, of floats that are whole numbers. -/
theorem across_any (x y u v : Nat) (a b c d : Int) (hx : Fl x a) (hy : Fl y b) (hu : Fl u c) (hv : Fl v d) (h1 : (a * d).natAbs < 2 ^ 52) (h2 : (b * c).natAbs < 2 ^ 52) (h3 : (a * c).natAbs < 2 ^ 52) (h4 : (b * d).natAbs < 2 ^ 52) :
    ∃ r, Fl r (a * d - b * c) ∧ ∀ w : World, Calls Tryz.prog 148 #[.complex .f64 x y, .complex .f64 u v] w (fun e w' => e = .returned (.float .f64 r) ∧ w' = w) := by
  have k : (2 : Nat) ^ 53 = 2 * 2 ^ 52 := by decide
  have e1 : (-b * c) = -(b * c) := Int.neg_mul ..
  have e2 : (-b * d) = -(b * d) := Int.neg_mul ..
  obtain ⟨r1, q1, f1⟩ := hx.mul hu (by omega)
  obtain ⟨r2, q2, f2⟩ := hy.neg.mul hv (by omega)
  obtain ⟨r3, q3, f3⟩ := f1.sub f2 (by omega)
  obtain ⟨r4, q4, f4⟩ := hx.mul hv (by omega)
  obtain ⟨r5, q5, f5⟩ := hy.neg.mul hu (by omega)
  obtain ⟨r6, q6, f6⟩ := f4.add f5 (by omega)
  refine ⟨r6, by rw [e1] at f6; exact f6, fun w => ?_⟩
  have hm : cMulBits x (Op.negFloat .f64 y) u v = some (r3, r6) := by
    unfold cMulBits
    simp only [q1, q2, q3, q4, q5, q6, Option.bind_some]
  have hr : ∀ (t : TypeId) (w : World), (binOp .mul t (.complex .f64 x (Op.negFloat .f64 y)) (.complex .f64 u v)).run Tryz.prog w = .ok (.complex .f64 r3 r6) w := fun t w => run_complex_mul w t _ _ _ _ _ _ hm
  have C := Lib.hid (back_any w x y)
  clear q1 q2 q3 q4 q5 q6 f1 f2 f3 f4 f5 f6 hm h1 h2 h3 h4 e1 e2 k hx hy hu hv
  generalize Op.negFloat .f64 y = z at *
  go_enter Tryz.func148, Tryz.ntmps148
  go_wp2_with fail
  refine C.out.mono ?_
  rintro e w1 ⟨rfl, rfl⟩
  go_wp2_with fail
  go_ret
  exact ⟨rfl, rfl⟩
end Go.Proofs.YtfcpbpfemmdklaaGreat.La

/- How many pixels of a row send rays that meet a side. -/
namespace Go.Proofs.YtfcpbpfemmdklaaGreat.La
open Go.RowKit
set_option linter.unusedVariables false

theorem mul_small {a b : Int} (ha : a.natAbs ≤ 2 ^ 23) (hb : b.natAbs ≤ 2 ^ 23) : (a * b).natAbs < 2 ^ 52 := by
  rw [Int.natAbs_mul]
  exact Nat.lt_of_le_of_lt (Nat.mul_le_mul ha hb) (by decide)

theorem cmul {x y u v : Nat} {a b c d : Int} (hx : Fl x a) (hy : Fl y b) (hu : Fl u c) (hv : Fl v d) (h1 : (a * d).natAbs < 2 ^ 52) (h2 : (b * c).natAbs < 2 ^ 52) (h3 : (a * c).natAbs < 2 ^ 52) (h4 : (b * d).natAbs < 2 ^ 52) :
    ∃ r s, cMulBits x y u v = some (r, s) ∧ Fl r (a * c - b * d) ∧ Fl s (a * d + b * c) := by
  have k : (2 : Nat) ^ 53 = 2 * 2 ^ 52 := by decide
  obtain ⟨r1, q1, f1⟩ := hx.mul hu (by omega)
  obtain ⟨r2, q2, f2⟩ := hy.mul hv (by omega)
  obtain ⟨r3, q3, f3⟩ := f1.sub f2 (by omega)
  obtain ⟨r4, q4, f4⟩ := hx.mul hv (by omega)
  obtain ⟨r5, q5, f5⟩ := hy.mul hu (by omega)
  obtain ⟨r6, q6, f6⟩ := f4.add f5 (by omega)
  refine ⟨r3, r6, ?_, f3, f6⟩
  unfold cMulBits
  simp only [q1, q2, q3, q4, q5, q6, Option.bind_some]
theorem cadd {x y u v : Nat} {a b c d : Int} (hx : Fl x a) (hy : Fl y b) (hu : Fl u c) (hv : Fl v d) (h1 : (a + c).natAbs < 2 ^ 53) (h2 : (b + d).natAbs < 2 ^ 53) :
    ∃ r s, cSumBits .add .f64 x y u v = some (r, s) ∧ Fl r (a + c) ∧ Fl s (b + d) := by
  obtain ⟨r1, q1, f1⟩ := hx.add hu h1
  obtain ⟨r2, q2, f2⟩ := hy.add hv h2
  refine ⟨r1, r2, ?_, f1, f2⟩
  unfold cSumBits
  simp only [q1, q2, Option.bind_some]
theorem csub {x y u v : Nat} {a b c d : Int} (hx : Fl x a) (hy : Fl y b) (hu : Fl u c) (hv : Fl v d) (h1 : (a - c).natAbs < 2 ^ 53) (h2 : (b - d).natAbs < 2 ^ 53) :
    ∃ r s, cSumBits .sub .f64 x y u v = some (r, s) ∧ Fl r (a - c) ∧ Fl s (b - d) := by
  obtain ⟨r1, q1, f1⟩ := hx.sub hu h1
  obtain ⟨r2, q2, f2⟩ := hy.sub hv h2
  refine ⟨r1, r2, ?_, f1, f2⟩
  unfold cSumBits
  simp only [q1, q2, Option.bind_some]

theorem fl_two : Fl 4611686018427387904 2 := by
  have h := of_int 2 (by decide)
  have e : floatOfInt .f64 2 = 4611686018427387904 := by decide +kernel
  rwa [e] at h
theorem fl_one : Fl 4607182418800017408 1 := by
  have h := of_int 1 (by decide)
  have e : floatOfInt .f64 1 = 4607182418800017408 := by decide +kernel
  rwa [e] at h
theorem twice {x y : Nat} {a b : Int} (hx : Fl x a) (hy : Fl y b) (h1 : a.natAbs ≤ 2 ^ 23) (h2 : b.natAbs ≤ 2 ^ 23) :
    ∃ r s, cMulBits 4611686018427387904 0 x y = some (r, s) ∧ Fl r (2 * a) ∧ Fl s (2 * b) := by
  obtain ⟨r, s, h, f, g⟩ := cmul fl_two fl_zero hx hy (mul_small (by decide) h2) (mul_small (by decide) h1) (mul_small (by decide) h1) (mul_small (by decide) h2)
  refine ⟨r, s, h, ?_, ?_⟩
  · rwa [Int.zero_mul, Int.sub_zero] at f
  · rwa [Int.zero_mul, Int.add_zero] at g

/-- The product that tells on which side of a side a pixel's middle lies; how much it falls with each pixel. -/
def aheadZ (l u : Pt) (q : Pt) : Int := (2 * l.X - (2 * q.X + 1)) * (2 * u.Y - (2 * q.Y + 1)) - (2 * l.Y - (2 * q.Y + 1)) * (2 * u.X - (2 * q.X + 1))
def stepZ (l u : Pt) : Int := 4 * (u.Y - l.Y)
/-- Of a side that goes up. -/
def halfZ (l u : Pt) (q : Pt) : Int := if q.Y < l.Y ∨ u.Y ≤ q.Y then 0 else max ((aheadZ l u q + stepZ l u - 1).tdiv (stepZ l u)) 0
def reachZ (a b : Pt) (q : Pt) : Int := if b.Y < a.Y then halfZ b a q else halfZ a b q

/-- What the program has of a side, seen from a pixel's middle. -/
theorem seen {q p : Pt} (hq : near q = true) (hp : near p = true) {m1 m2 : Nat} (h1 : Fl m1 (2 * q.X + 1)) (h2 : Fl m2 (2 * q.Y + 1)) :
    ∃ r s u v, cMulBits 4611686018427387904 0 (fb p.X) (fb p.Y) = some (r, s) ∧ cSumBits .sub .f64 r s m1 m2 = some (u, v) ∧ Fl u (2 * p.X - (2 * q.X + 1)) ∧ Fl v (2 * p.Y - (2 * q.Y + 1)) := by
  have hq := near_iff.1 hq
  have hp' := near_iff.1 hp
  unfold near at hp
  rw [Bool.and_eq_true] at hp
  obtain ⟨r, s, e1, f1, f2⟩ := twice (fb_fl hp.1) (fb_fl hp.2) (by omega) (by omega)
  obtain ⟨u, v, e2, g1, g2⟩ := csub f1 f2 h1 h2 (by omega) (by omega)
  exact ⟨r, s, u, v, e1, e2, g1, g2⟩
theorem middle {q : Pt} (hq : near q = true) :
    ∃ r s u v, cMulBits 4611686018427387904 0 (fb q.X) (fb q.Y) = some (r, s) ∧ cSumBits .add .f64 r s 4607182418800017408 4607182418800017408 = some (u, v) ∧ Fl u (2 * q.X + 1) ∧ Fl v (2 * q.Y + 1) := by
  have hq' := near_iff.1 hq
  unfold near at hq
  rw [Bool.and_eq_true] at hq
  obtain ⟨r, s, e1, f1, f2⟩ := twice (fb_fl hq.1) (fb_fl hq.2) (by omega) (by omega)
  obtain ⟨u, v, e2, g1, g2⟩ := cadd f1 f2 fl_one fl_one (by omega) (by omega)
  exact ⟨r, s, u, v, e1, e2, g1, g2⟩

theorem order_gt {x y : Nat} {a b : Int} (h : Fl x a) (g : Fl y b) : (FloatKind.f64.format.order x y == some Ordering.gt) = decide (b < a) := h.gt g
theorem order_lt {x y : Nat} {a b : Int} (h : Fl x a) (g : Fl y b) : (FloatKind.f64.format.order x y == some Ordering.lt) = decide (a < b) := h.lt g

/-- a number and the old memory as it was -/
def SaysN (n : Int) (w : World) (e : Ending) (w' : World) : Prop := e = .returned (.int .i64 n) ∧ Below w.heap.size w w'

/-- The numbers at the end. -/
theorem tail_num {l u q : Pt} (hl : near l = true) (hu : near u = true) (hq : near q = true) (h1 : ¬ q.Y < l.Y) (h2 : ¬ u.Y ≤ q.Y) :
    halfZ l u q = max ((aheadZ l u q + stepZ l u - 1).tdiv (stepZ l u)) 0 ∧ 1 ≤ stepZ l u ∧ stepZ l u ≤ 33554432 ∧ (aheadZ l u q).natAbs < 2 ^ 53 := by
  have hl := near_iff.1 hl
  have hu := near_iff.1 hu
  have hq := near_iff.1 hq
  refine ⟨?_, ?_, ?_, ?_⟩
  · unfold halfZ; rw [if_neg (by omega)]
  · unfold stepZ; omega
  · unfold stepZ; omega
  · unfold aheadZ
    have k1 := mul_small (a := 2 * l.X - (2 * q.X + 1)) (b := 2 * u.Y - (2 * q.Y + 1)) (by omega) (by omega)
    have k2 := mul_small (a := 2 * l.Y - (2 * q.Y + 1)) (b := 2 * u.X - (2 * q.X + 1)) (by omega) (by omega)
    generalize (2 * l.X - (2 * q.X + 1)) * (2 * u.Y - (2 * q.Y + 1)) = z1 at *
    generalize (2 * l.Y - (2 * q.Y + 1)) * (2 * u.X - (2 * q.X + 1)) = z2 at *
    have k : (2 : Nat) ^ 53 = 2 * 2 ^ 52 := by decide
    omega

theorem below_drewN {B : Nat} {w w' : World} (h : Below B w w') (n : Nat) : Below B w (w'.drewN n) := ⟨h.os, h.tape, h.output, h.size, h.block⟩
theorem box_two (w : World) (u v : Value) (o1 o2 : Obj) : (((w.alloc (.cells #[u, v] 166)).alloc o1).alloc o2).cell? ⟨w.heap.size, 0, none⟩ = some u ∧ (((w.alloc (.cells #[u, v] 166)).alloc o1).alloc o2).cell? ⟨w.heap.size, 1, none⟩ = some v := by
  have h : ∀ k x, (w.alloc (.cells #[u, v] 166)).cell? ⟨w.heap.size, k, none⟩ = some x → (((w.alloc (.cells #[u, v] 166)).alloc o1).alloc o2).cell? ⟨w.heap.size, k, none⟩ = some x := by
    intro k x hx
    have b : Below (w.heap.size + 1) (w.alloc (.cells #[u, v] 166)) (((w.alloc (.cells #[u, v] 166)).alloc o1).alloc o2) := ((Below.refl _ _).alloc (by simp) _).alloc (by simp) _
    exact (World.cell?_of_block (w := w.alloc (.cells #[u, v] 166)) (b.block _ (by simp))).trans hx
  refine ⟨h 0 u ?_, h 1 v ?_⟩ <;> (rw [World.cell?_alloc_mark]; rfl)
theorem quo_small {n d : Int} (h0 : -4611686018427387904 ≤ n) (h1 : n ≤ 4611686018427387904) (hd : 1 ≤ d) : IntKind.i64.wrap (n.tdiv d) = n.tdiv d ∧ (-9223372036854775808 ≤ n.tdiv d ∧ n.tdiv d ≤ 9223372036854775807) := by
  have hb : -9223372036854775808 ≤ n.tdiv d ∧ n.tdiv d ≤ 9223372036854775807 := by
    have h2 : (n.tdiv d).natAbs ≤ n.natAbs := by
      rw [Int.natAbs_tdiv]; exact Nat.div_le_self _ _
    omega
  exact ⟨wrap_i64 _ hb.1 hb.2, hb⟩

theorem reach_plain (w : World) (a b q : Pt) (ha : near a = true) (hb : near b = true) (hq : near q = true) (hs : ¬ b.Y < a.Y) :
    Calls Tryz.prog 134 #[.agg #[.complex .f64 (fb a.X) (fb a.Y), .complex .f64 (fb b.X) (fb b.Y)], .agg #[.int .i64 q.X, .int .i64 q.Y]] w (SaysN (halfZ a b q) w) := by
  obtain ⟨r0, s0, m1, m2, e1, e2, M1, M2⟩ := middle hq
  obtain ⟨r1, s1, f1, f2, e3, e4, F1, F2⟩ := seen hq ha M1 M2
  obtain ⟨r2, s2, t1, t2, e5, e6, T1, T2⟩ := seen hq hb M1 M2
  have g1 : ∀ (t : TypeId) (w : World), (binOp .mul t (.complex .f64 4611686018427387904 0) (.complex .f64 (fb q.X) (fb q.Y))).run Tryz.prog w = .ok (.complex .f64 r0 s0) w := fun t w => run_complex_mul w t _ _ _ _ _ _ e1
  have g2 : ∀ (t : TypeId) (w : World), (binOp .add t (.complex .f64 r0 s0) (.complex .f64 4607182418800017408 4607182418800017408)).run Tryz.prog w = .ok (.complex .f64 m1 m2) w := fun t w => run_complex_sum w .add (.inl rfl) t _ _ _ _ _ _ _ e2
  have g3 : ∀ (t : TypeId) (w : World), (binOp .mul t (.complex .f64 4611686018427387904 0) (.complex .f64 (fb a.X) (fb a.Y))).run Tryz.prog w = .ok (.complex .f64 r1 s1) w := fun t w => run_complex_mul w t _ _ _ _ _ _ e3
  have g4 : ∀ (t : TypeId) (w : World), (binOp .sub t (.complex .f64 r1 s1) (.complex .f64 m1 m2)).run Tryz.prog w = .ok (.complex .f64 f1 f2) w := fun t w => run_complex_sum w .sub (.inr rfl) t _ _ _ _ _ _ _ e4
  have g5 : ∀ (t : TypeId) (w : World), (binOp .mul t (.complex .f64 4611686018427387904 0) (.complex .f64 (fb b.X) (fb b.Y))).run Tryz.prog w = .ok (.complex .f64 r2 s2) w := fun t w => run_complex_mul w t _ _ _ _ _ _ e5
  have g6 : ∀ (t : TypeId) (w : World), (binOp .sub t (.complex .f64 r2 s2) (.complex .f64 m1 m2)).run Tryz.prog w = .ok (.complex .f64 t1 t2) w := fun t w => run_complex_sum w .sub (.inr rfl) t _ _ _ _ _ _ _ e6
  have o1 : (FloatKind.f64.format.order f2 t2 == some Ordering.gt) = false := by rw [order_gt F2 T2]; simp; omega
  have CN := Lib.hid (number_any ((w.alloc (.cells #[.complex .f64 (fb a.X) (fb a.Y), .complex .f64 (fb b.X) (fb b.Y)] 166)).alloc (.cells #[.int .i64 q.X, .int .i64 q.Y] 80)) q)
  have HB := Lib.hid (show Below w.heap.size w (((w.alloc (.cells #[.complex .f64 (fb a.X) (fb a.Y), .complex .f64 (fb b.X) (fb b.Y)] 166)).alloc (.cells #[.int .i64 q.X, .int .i64 q.Y] 80)).alloc (.cells #[.int .i64 q.X, .int .i64 q.Y] 80)) from (((Below.refl _ _).alloc (Nat.le_refl _) _).alloc (by simp) _).alloc (by simp; omega) _)
  clear e1 e2 e3 e4 e5 e6 M1 M2
  by_cases h1 : q.Y < a.Y
  · have o2 : (FloatKind.f64.format.order f2 0 == some Ordering.gt) = true := by rw [order_gt F2 fl_zero]; simp; omega
    have hz : halfZ a b q = 0 := by unfold halfZ; rw [if_pos (.inl h1)]
    rw [hz]
    clear F1 F2 T1 T2 hz h1 hs ha hb hq
    go_enter Tryz.func134, Tryz.ntmps134
    go_wp2_with fail
    refine CN.out.mono ?_
    rintro e w4 ⟨rfl, h4⟩
    have HB4 := Lib.hid (show Below w.heap.size w w4 from h4 ▸ HB.out)
    have c0 : w4.cell? ⟨w.heap.size, 0, none⟩ = some (.complex .f64 (fb a.X) (fb a.Y)) := by rw [h4]; exact (box_two w _ _ _ _).1
    have c1 : w4.cell? ⟨w.heap.size, 1, none⟩ = some (.complex .f64 (fb b.X) (fb b.Y)) := by rw [h4]; exact (box_two w _ _ _ _).2
    clear h4 HB CN
    go_wp2_with fail
    go_quiet (fail)
    clear c0 c1 g1 g2 g3 g4 g5 g6
    go_wp2_with fail
    go_ret
    exact ⟨rfl, below_drewN HB4.out _⟩
  · have o2 : (FloatKind.f64.format.order f2 0 == some Ordering.gt) = false := by rw [order_gt F2 fl_zero]; simp; omega
    by_cases h2 : b.Y ≤ q.Y
    · have o3 : (FloatKind.f64.format.order t2 0 == some Ordering.lt) = true := by rw [order_lt T2 fl_zero]; simp; omega
      have hz : halfZ a b q = 0 := by unfold halfZ; rw [if_pos (.inr h2)]
      rw [hz]
      clear F1 F2 T1 T2 hz h1 h2 hs ha hb hq
      go_enter Tryz.func134, Tryz.ntmps134
      go_wp2_with fail
      refine CN.out.mono ?_
      rintro e w4 ⟨rfl, h4⟩
      have HB4 := Lib.hid (show Below w.heap.size w w4 from h4 ▸ HB.out)
      have c0 : w4.cell? ⟨w.heap.size, 0, none⟩ = some (.complex .f64 (fb a.X) (fb a.Y)) := by rw [h4]; exact (box_two w _ _ _ _).1
      have c1 : w4.cell? ⟨w.heap.size, 1, none⟩ = some (.complex .f64 (fb b.X) (fb b.Y)) := by rw [h4]; exact (box_two w _ _ _ _).2
      clear h4 HB CN
      go_wp2_with fail
      go_quiet (fail)
      clear c0 c1 g1 g2 g3 g4 g5 g6
      go_wp2_with fail
      go_ret
      exact ⟨rfl, below_drewN HB4.out _⟩
    · have o3 : (FloatKind.f64.format.order t2 0 == some Ordering.lt) = false := by rw [order_lt T2 fl_zero]; simp; omega
      obtain ⟨hz, st1, st2, ah⟩ := tail_num (l := a) (u := b) (q := q) ha hb hq h1 h2
      rw [hz]
      have na := near_iff.1 ha
      have nb := near_iff.1 hb
      have nq := near_iff.1 hq
      obtain ⟨d1, d2, e7, D1, D2⟩ := csub T1 T2 F1 F2 (by omega) (by omega)
      obtain ⟨d3, e8, D3⟩ := fl_two.mul D2 (by omega)
      have D4 : Fl d3 (stepZ a b) := by
        have : 2 * ((2 * b.Y - (2 * q.Y + 1)) - (2 * a.Y - (2 * q.Y + 1))) = stepZ a b := by unfold stepZ; omega
        rwa [this] at D3
      obtain ⟨r, R, CA⟩ : ∃ r, Fl r (aheadZ a b q) ∧ ∀ w, Calls Tryz.prog 148 #[.complex .f64 f1 f2, .complex .f64 t1 t2] w (fun e w' => e = .returned (.float .f64 r) ∧ w' = w) := by
        exact across_any f1 f2 t1 t2 _ _ _ _ F1 F2 T1 T2 (mul_small (by omega) (by omega)) (mul_small (by omega) (by omega)) (mul_small (by omega) (by omega)) (mul_small (by omega) (by omega))
      have v1 := R.toInt ah
      have v2 := D4.toInt (by omega)
      have g7 : ∀ (t : TypeId) (w : World), (binOp .sub t (.complex .f64 t1 t2) (.complex .f64 f1 f2)).run Tryz.prog w = .ok (.complex .f64 d1 d2) w := fun t w => run_complex_sum w .sub (.inr rfl) t _ _ _ _ _ _ _ e7
      have g8 : ∀ (t : TypeId) (w : World), (binOp .mul t (.float .f64 4611686018427387904) (.float .f64 d2)).run Tryz.prog w = .ok (.float .f64 d3) w := fun t w => run_float_arith w .mul t .f64 _ _ _ e8
      have g9 : ∀ w : World, (convert 175 3 (.float .f64 r)).run Tryz.prog w = .ok (.int .i64 (aheadZ a b q)) w := fun w => run_convert_float_int w 175 3 .f64 .i64 r _ (by kernel_rfl) Tryz.underlying3 v1
      have g10 : ∀ w : World, (convert 175 3 (.float .f64 d3)).run Tryz.prog w = .ok (.int .i64 (stepZ a b)) w := fun w => run_convert_float_int w 175 3 .f64 .i64 d3 _ (by kernel_rfl) Tryz.underlying3 v2
      clear F1 F2 T1 T2 hz h1 h2 hs ha hb hq v1 v2 e7 e8 D1 D2 D3 D4 R na nb nq
      generalize aheadZ a b q = A at *
      generalize stepZ a b = S at *
      have q1 : IntKind.i64.wrap (A + S) = A + S := wrap_i64 _ (by omega) (by omega)
      have q2 : IntKind.i64.wrap (A + S - 1) = A + S - 1 := wrap_i64 _ (by omega) (by omega)
      obtain ⟨q3, q4⟩ := quo_small (n := A + S - 1) (d := S) (by omega) (by omega) (by omega)
      have q5 : ¬ S = 0 := by omega
      clear st2 ah
      generalize hQ : (A + S - 1).tdiv S = Q at *
      have CAH := Lib.hid CA
      clear CA
      go_enter Tryz.func134, Tryz.ntmps134
      go_wp2_with fail
      refine CN.out.mono ?_
      rintro e w4 ⟨rfl, h4⟩
      have HB4 := Lib.hid (show Below w.heap.size w w4 from h4 ▸ HB.out)
      have c0 : w4.cell? ⟨w.heap.size, 0, none⟩ = some (.complex .f64 (fb a.X) (fb a.Y)) := by rw [h4]; exact (box_two w _ _ _ _).1
      have c1 : w4.cell? ⟨w.heap.size, 1, none⟩ = some (.complex .f64 (fb b.X) (fb b.Y)) := by rw [h4]; exact (box_two w _ _ _ _).2
      clear h4 HB CN
      go_wp2_with fail
      go_quiet (fail)
      clear c0 c1 g1 g2 g3 g4 g5 g6
      go_wp2_with fail
      refine (CAH.out _).mono ?_
      rintro e w5 ⟨rfl, rfl⟩
      go_wp2_with fail
      · rw [show max Q 0 = 0 by omega]
        go_ret
        exact ⟨rfl, below_drewN HB4.out _⟩
      · rw [show max Q 0 = Q by omega]
        go_ret
        exact ⟨rfl, below_drewN HB4.out _⟩

theorem reach_swap (w : World) (a b q : Pt) (ha : near a = true) (hb : near b = true) (hq : near q = true) (hs : b.Y < a.Y) :
    Calls Tryz.prog 134 #[.agg #[.complex .f64 (fb a.X) (fb a.Y), .complex .f64 (fb b.X) (fb b.Y)], .agg #[.int .i64 q.X, .int .i64 q.Y]] w (SaysN (halfZ b a q) w) := by
  obtain ⟨r0, s0, m1, m2, e1, e2, M1, M2⟩ := middle hq
  obtain ⟨r1, s1, f1, f2, e3, e4, F1, F2⟩ := seen hq ha M1 M2
  obtain ⟨r2, s2, t1, t2, e5, e6, T1, T2⟩ := seen hq hb M1 M2
  have g1 : ∀ (t : TypeId) (w : World), (binOp .mul t (.complex .f64 4611686018427387904 0) (.complex .f64 (fb q.X) (fb q.Y))).run Tryz.prog w = .ok (.complex .f64 r0 s0) w := fun t w => run_complex_mul w t _ _ _ _ _ _ e1
  have g2 : ∀ (t : TypeId) (w : World), (binOp .add t (.complex .f64 r0 s0) (.complex .f64 4607182418800017408 4607182418800017408)).run Tryz.prog w = .ok (.complex .f64 m1 m2) w := fun t w => run_complex_sum w .add (.inl rfl) t _ _ _ _ _ _ _ e2
  have g3 : ∀ (t : TypeId) (w : World), (binOp .mul t (.complex .f64 4611686018427387904 0) (.complex .f64 (fb a.X) (fb a.Y))).run Tryz.prog w = .ok (.complex .f64 r1 s1) w := fun t w => run_complex_mul w t _ _ _ _ _ _ e3
  have g4 : ∀ (t : TypeId) (w : World), (binOp .sub t (.complex .f64 r1 s1) (.complex .f64 m1 m2)).run Tryz.prog w = .ok (.complex .f64 f1 f2) w := fun t w => run_complex_sum w .sub (.inr rfl) t _ _ _ _ _ _ _ e4
  have g5 : ∀ (t : TypeId) (w : World), (binOp .mul t (.complex .f64 4611686018427387904 0) (.complex .f64 (fb b.X) (fb b.Y))).run Tryz.prog w = .ok (.complex .f64 r2 s2) w := fun t w => run_complex_mul w t _ _ _ _ _ _ e5
  have g6 : ∀ (t : TypeId) (w : World), (binOp .sub t (.complex .f64 r2 s2) (.complex .f64 m1 m2)).run Tryz.prog w = .ok (.complex .f64 t1 t2) w := fun t w => run_complex_sum w .sub (.inr rfl) t _ _ _ _ _ _ _ e6
  have o1 : (FloatKind.f64.format.order f2 t2 == some Ordering.gt) = true := by rw [order_gt F2 T2]; simp; omega
  have CN := Lib.hid (number_any ((w.alloc (.cells #[.complex .f64 (fb a.X) (fb a.Y), .complex .f64 (fb b.X) (fb b.Y)] 166)).alloc (.cells #[.int .i64 q.X, .int .i64 q.Y] 80)) q)
  have HB := Lib.hid (show Below w.heap.size w (((w.alloc (.cells #[.complex .f64 (fb a.X) (fb a.Y), .complex .f64 (fb b.X) (fb b.Y)] 166)).alloc (.cells #[.int .i64 q.X, .int .i64 q.Y] 80)).alloc (.cells #[.int .i64 q.X, .int .i64 q.Y] 80)) from (((Below.refl _ _).alloc (Nat.le_refl _) _).alloc (by simp) _).alloc (by simp; omega) _)
  clear e1 e2 e3 e4 e5 e6 M1 M2
  by_cases h1 : q.Y < b.Y
  · have o2 : (FloatKind.f64.format.order t2 0 == some Ordering.gt) = true := by rw [order_gt T2 fl_zero]; simp; omega
    have hz : halfZ b a q = 0 := by unfold halfZ; rw [if_pos (.inl h1)]
    rw [hz]
    clear F1 F2 T1 T2 hz h1 hs ha hb hq
    go_enter Tryz.func134, Tryz.ntmps134
    go_wp2_with fail
    refine CN.out.mono ?_
    rintro e w4 ⟨rfl, h4⟩
    have HB4 := Lib.hid (show Below w.heap.size w w4 from h4 ▸ HB.out)
    have c0 : w4.cell? ⟨w.heap.size, 0, none⟩ = some (.complex .f64 (fb a.X) (fb a.Y)) := by rw [h4]; exact (box_two w _ _ _ _).1
    have c1 : w4.cell? ⟨w.heap.size, 1, none⟩ = some (.complex .f64 (fb b.X) (fb b.Y)) := by rw [h4]; exact (box_two w _ _ _ _).2
    clear h4 HB CN
    go_wp2_with fail
    go_quiet (fail)
    clear c0 c1 g1 g2 g3 g4 g5 g6
    go_wp2_with fail
    go_ret
    exact ⟨rfl, below_drewN HB4.out _⟩
  · have o2 : (FloatKind.f64.format.order t2 0 == some Ordering.gt) = false := by rw [order_gt T2 fl_zero]; simp; omega
    by_cases h2 : a.Y ≤ q.Y
    · have o3 : (FloatKind.f64.format.order f2 0 == some Ordering.lt) = true := by rw [order_lt F2 fl_zero]; simp; omega
      have hz : halfZ b a q = 0 := by unfold halfZ; rw [if_pos (.inr h2)]
      rw [hz]
      clear F1 F2 T1 T2 hz h1 h2 hs ha hb hq
      go_enter Tryz.func134, Tryz.ntmps134
      go_wp2_with fail
      refine CN.out.mono ?_
      rintro e w4 ⟨rfl, h4⟩
      have HB4 := Lib.hid (show Below w.heap.size w w4 from h4 ▸ HB.out)
      have c0 : w4.cell? ⟨w.heap.size, 0, none⟩ = some (.complex .f64 (fb a.X) (fb a.Y)) := by rw [h4]; exact (box_two w _ _ _ _).1
      have c1 : w4.cell? ⟨w.heap.size, 1, none⟩ = some (.complex .f64 (fb b.X) (fb b.Y)) := by rw [h4]; exact (box_two w _ _ _ _).2
      clear h4 HB CN
      go_wp2_with fail
      go_quiet (fail)
      clear c0 c1 g1 g2 g3 g4 g5 g6
      go_wp2_with fail
      go_ret
      exact ⟨rfl, below_drewN HB4.out _⟩
    · have o3 : (FloatKind.f64.format.order f2 0 == some Ordering.lt) = false := by rw [order_lt F2 fl_zero]; simp; omega
      obtain ⟨hz, st1, st2, ah⟩ := tail_num (l := b) (u := a) (q := q) hb ha hq h1 h2
      rw [hz]
      have na := near_iff.1 ha
      have nb := near_iff.1 hb
      have nq := near_iff.1 hq
      obtain ⟨d1, d2, e7, D1, D2⟩ := csub F1 F2 T1 T2 (by omega) (by omega)
      obtain ⟨d3, e8, D3⟩ := fl_two.mul D2 (by omega)
      have D4 : Fl d3 (stepZ b a) := by
        have : 2 * ((2 * a.Y - (2 * q.Y + 1)) - (2 * b.Y - (2 * q.Y + 1))) = stepZ b a := by unfold stepZ; omega
        rwa [this] at D3
      obtain ⟨r, R, CA⟩ : ∃ r, Fl r (aheadZ b a q) ∧ ∀ w, Calls Tryz.prog 148 #[.complex .f64 t1 t2, .complex .f64 f1 f2] w (fun e w' => e = .returned (.float .f64 r) ∧ w' = w) := by
        exact across_any t1 t2 f1 f2 _ _ _ _ T1 T2 F1 F2 (mul_small (by omega) (by omega)) (mul_small (by omega) (by omega)) (mul_small (by omega) (by omega)) (mul_small (by omega) (by omega))
      have v1 := R.toInt ah
      have v2 := D4.toInt (by omega)
      have g7 : ∀ (t : TypeId) (w : World), (binOp .sub t (.complex .f64 f1 f2) (.complex .f64 t1 t2)).run Tryz.prog w = .ok (.complex .f64 d1 d2) w := fun t w => run_complex_sum w .sub (.inr rfl) t _ _ _ _ _ _ _ e7
      have g8 : ∀ (t : TypeId) (w : World), (binOp .mul t (.float .f64 4611686018427387904) (.float .f64 d2)).run Tryz.prog w = .ok (.float .f64 d3) w := fun t w => run_float_arith w .mul t .f64 _ _ _ e8
      have g9 : ∀ w : World, (convert 175 3 (.float .f64 r)).run Tryz.prog w = .ok (.int .i64 (aheadZ b a q)) w := fun w => run_convert_float_int w 175 3 .f64 .i64 r _ (by kernel_rfl) Tryz.underlying3 v1
      have g10 : ∀ w : World, (convert 175 3 (.float .f64 d3)).run Tryz.prog w = .ok (.int .i64 (stepZ b a)) w := fun w => run_convert_float_int w 175 3 .f64 .i64 d3 _ (by kernel_rfl) Tryz.underlying3 v2
      clear F1 F2 T1 T2 hz h1 h2 hs ha hb hq v1 v2 e7 e8 D1 D2 D3 D4 R na nb nq
      generalize aheadZ b a q = A at *
      generalize stepZ b a = S at *
      have q1 : IntKind.i64.wrap (A + S) = A + S := wrap_i64 _ (by omega) (by omega)
      have q2 : IntKind.i64.wrap (A + S - 1) = A + S - 1 := wrap_i64 _ (by omega) (by omega)
      obtain ⟨q3, q4⟩ := quo_small (n := A + S - 1) (d := S) (by omega) (by omega) (by omega)
      have q5 : ¬ S = 0 := by omega
      clear st2 ah
      generalize hQ : (A + S - 1).tdiv S = Q at *
      have CAH := Lib.hid CA
      clear CA
      go_enter Tryz.func134, Tryz.ntmps134
      go_wp2_with fail
      refine CN.out.mono ?_
      rintro e w4 ⟨rfl, h4⟩
      have HB4 := Lib.hid (show Below w.heap.size w w4 from h4 ▸ HB.out)
      have c0 : w4.cell? ⟨w.heap.size, 0, none⟩ = some (.complex .f64 (fb a.X) (fb a.Y)) := by rw [h4]; exact (box_two w _ _ _ _).1
      have c1 : w4.cell? ⟨w.heap.size, 1, none⟩ = some (.complex .f64 (fb b.X) (fb b.Y)) := by rw [h4]; exact (box_two w _ _ _ _).2
      clear h4 HB CN
      go_wp2_with fail
      go_quiet (fail)
      clear c0 c1 g1 g2 g3 g4 g5 g6
      go_wp2_with fail
      refine (CAH.out _).mono ?_
      rintro e w5 ⟨rfl, rfl⟩
      go_wp2_with fail
      · rw [show max Q 0 = 0 by omega]
        go_ret
        exact ⟨rfl, below_drewN HB4.out _⟩
      · rw [show max Q 0 = Q by omega]
        go_ret
        exact ⟨rfl, below_drewN HB4.out _⟩

theorem reach_any (w : World) (a b q : Pt) (ha : near a = true) (hb : near b = true) (hq : near q = true) :
    Calls Tryz.prog 134 #[.agg #[.complex .f64 (fb a.X) (fb a.Y), .complex .f64 (fb b.X) (fb b.Y)], .agg #[.int .i64 q.X, .int .i64 q.Y]] w (SaysN (reachZ a b q) w) := by
  by_cases hs : b.Y < a.Y
  · have h := reach_swap w a b q ha hb hq hs
    unfold reachZ
    rwa [if_pos hs]
  · have h := reach_plain w a b q ha hb hq hs
    unfold reachZ
    rwa [if_neg hs]
end Go.Proofs.YtfcpbpfemmdklaaGreat.La

/- Rows of things of two cells that a call makes; a shape's sides. -/
namespace Go.Proofs.YtfcpbpfemmdklaaGreat.La
open Go.RowKit
set_option linter.unusedVariables false

theorem block_set {w : World} {R i : Nat} {c : Array Value} {t : TypeId} {f : Nat × Nat} (h : w.heap[R]? = some (.cells c t f)) (u : Value) :
    (w.setCell ⟨R, i, none⟩ u).heap[R]? = some (.cells (c.setIfInBounds i u) t f) := by
  simp [World.setCell, h, Array.getElem?_modify]
theorem lt_of_block {w : World} {k : Nat} {o : Obj} (h : w.heap[k]? = some o) : k < w.heap.size := by
  rcases Nat.lt_or_ge k w.heap.size with hlt | hge
  · exact hlt
  · rw [Array.getElem?_eq_none hge] at h; cases h

/-- A row of n things of two cells, the first i of which are as they should. -/
def Row2 (w : World) (g n i : Nat) (ty : TypeId) (vs : List (Value × Value)) : Prop :=
  ∃ cur : Array Value, w.heap[g]? = some (.cells cur ty (0, 0)) ∧ cur.size = n * 2 ∧ ∀ j v, j < i → vs[j]? = some v → cur[j * 2]? = some v.1 ∧ cur[j * 2 + 1]? = some v.2
theorem Row2.lt {w : World} {g n i : Nat} {ty : TypeId} {vs : List (Value × Value)} (h : Row2 w g n i ty vs) : g < w.heap.size := by
  obtain ⟨cur, h1, _⟩ := h
  exact lt_of_block h1
theorem Row2.later {w w' : World} {g n i : Nat} {ty : TypeId} {vs : List (Value × Value)} (h : Row2 w g n i ty vs) (hk : ∀ k, k < w.heap.size → w'.heap[k]? = w.heap[k]?) : Row2 w' g n i ty vs := by
  have hl := h.lt
  obtain ⟨cur, h1, h2⟩ := h
  exact ⟨cur, (hk g hl).trans h1, h2⟩
theorem Row2.below {w w' : World} {g n i : Nat} {ty : TypeId} {vs : List (Value × Value)} (h : Row2 w g n i ty vs) (hb : Below w.heap.size w w') : Row2 w' g n i ty vs := h.later hb.block
theorem Row2.spot {w : World} {g n i k : Nat} {ty : TypeId} {vs : List (Value × Value)} (h : Row2 w g n i ty vs) (hk : k < n * 2) : ∃ v, w.cell? ⟨g, k, none⟩ = some v ∧ w.frozen? ⟨g, k, none⟩ = false := by
  obtain ⟨cur, h1, h2, _⟩ := h
  exact ⟨cur[k]'(by omega), by simp [World.cell?, h1, show k < cur.size by omega], by simp [World.frozen?, h1]⟩
theorem Row2.at {w : World} {g n i j : Nat} {ty : TypeId} {vs : List (Value × Value)} {v : Value × Value} (h : Row2 w g n i ty vs) (hj : j < i) (hv : vs[j]? = some v) : w.cell? ⟨g, j * 2, none⟩ = some v.1 ∧ w.cell? ⟨g, j * 2 + 1, none⟩ = some v.2 := by
  obtain ⟨cur, h1, h2, h3⟩ := h
  obtain ⟨k1, k2⟩ := h3 j v hj hv
  exact ⟨by simp [World.cell?, h1, k1], by simp [World.cell?, h1, k2]⟩
theorem Row2.set {w : World} {g n i : Nat} {ty : TypeId} {vs : List (Value × Value)} {v : Value × Value} (h : Row2 w g n i ty vs) (hi : i < n) (hv : vs[i]? = some v) : Row2 ((w.setCell ⟨g, i * 2, none⟩ v.1).setCell ⟨g, i * 2 + 1, none⟩ v.2) g n (i + 1) ty vs := by
  obtain ⟨cur, h1, h2, h3⟩ := h
  refine ⟨_, block_set (block_set h1 _) _, by simpa using h2, fun j u hj hu => ?_⟩
  by_cases e : j = i
  · subst e
    rw [hv] at hu
    cases hu
    exact ⟨by rw [Array.getElem?_setIfInBounds_ne (by omega), Array.getElem?_setIfInBounds_self_of_lt (by omega)], by rw [Array.getElem?_setIfInBounds_self_of_lt (by simp; omega)]⟩
  · obtain ⟨k1, k2⟩ := h3 j u (by omega) hu
    exact ⟨by rw [Array.getElem?_setIfInBounds_ne (by omega), Array.getElem?_setIfInBounds_ne (by omega)]; exact k1, by rw [Array.getElem?_setIfInBounds_ne (by omega), Array.getElem?_setIfInBounds_ne (by omega)]; exact k2⟩
theorem Row2.put {w : World} {g n i : Nat} {ty : TypeId} {vs : List (Value × Value)} {x y : Value} (h : Row2 w g n i ty vs) (hi : i < n) (hv : vs[i]? = some (x, y)) : Row2 ((w.setCell ⟨g, i * 2, none⟩ x).setCell ⟨g, i * 2 + 1, none⟩ y) g n (i + 1) ty vs := Row2.set (v := (x, y)) h hi hv
theorem row2_start (w : World) (z : Array Value) (n : Nat) (ty : TypeId) (vs : List (Value × Value)) : Row2 (w.alloc (.cells (madeCells z (n * 2)) ty)) w.heap.size n 0 ty vs :=
  ⟨_, heap_alloc_new _ _, size_madeCells _ _, fun j _ hj => absurd hj (Nat.not_lt_zero j)⟩
theorem below_set2 {B : Nat} {w w1 : World} (h : Below B w w1) {g i j : Nat} (hg : B ≤ g) (u v : Value) : Below B w ((w1.setCell ⟨g, i, none⟩ u).setCell ⟨g, j, none⟩ v) :=
  (h.setCell (p := ⟨g, i, none⟩) hg u).setCell (p := ⟨g, j, none⟩) hg v

theorem info57 : (Tryz.prog.info? 166).map (fun i => (i.zero, i.size, i.bytes)) = some (some (.agg #[.complex .f64 0 0, .complex .f64 0 0]), 2, 32) := by kernel_rfl
theorem run_make_sides (k : Nat) (hk : k ≤ 256) (w : World) : (Instr.makeSlice 142 (.int .i64 (k : Int)) (.int .i64 (k : Int))).run Tryz.prog w = .ok (.slice (some ⟨w.heap.size, 0, none⟩) k k) (w.alloc (.cells (madeCells #[.complex .f64 0 0, .complex .f64 0 0] (k * 2)) 166)) := by
  obtain ⟨i, hi, hzz⟩ := Option.map_eq_some_iff.1 info57
  simp only [Prod.mk.injEq] at hzz
  obtain ⟨hz, hs, hb⟩ := hzz
  have hr := run_make (P := Tryz.prog) w 142 166 i _ Tryz.underlying142 hi hz .i64 .i64 k k (by omega) (Int.le_refl _) (by rw [hb]; omega) (by omega)
  simp only [Int.toNat_natCast, hs] at hr
  exact hr

theorem store_complex (a : Addr) (x y : Nat) (m : Mode) (w : World) : (store a (.complex .f64 x y) m).run Tryz.prog w = stored Tryz.prog w a (.complex .f64 x y) m := run_store Tryz.prog w a _ m rfl

/-- Each point with the one ahead. -/
def chainL (p : Pt) : List Pt → List (Pt × Pt)
  | [] => []
  | q :: qs => (p, q) :: chainL q qs
def lastPt (ps : List Pt) : Pt := ps.getLast?.getD ⟨0, 0⟩
/-- The sides as the program has them: the last point is joined with the first. -/
def sidesL (ps : List Pt) : List (Pt × Pt) := chainL (lastPt ps) ps
/-- Two floats as a value. -/
def sdv (s : Pt × Pt) : Value × Value := (.complex .f64 (fb s.1.X) (fb s.1.Y), .complex .f64 (fb s.2.X) (fb s.2.Y))
theorem chainL_length (p : Pt) (qs : List Pt) : (chainL p qs).length = qs.length := by
  induction qs generalizing p with
  | nil => rfl
  | cons q qs ih => simp [chainL, ih]
theorem chainL_at {p : Pt} {qs : List Pt} {i : Nat} {r q : Pt} (h1 : qs[i]? = some q) (h2 : (p :: qs)[i]? = some r) : (chainL p qs)[i]? = some (r, q) := by
  induction qs generalizing p i with
  | nil => simp at h1
  | cons a qs ih =>
    cases i with
    | zero =>
      simp only [List.getElem?_cons_zero, Option.some.injEq] at h1 h2
      subst h1 h2
      rfl
    | succ i =>
      rw [List.getElem?_cons_succ] at h1 h2
      rw [chainL, List.getElem?_cons_succ]
      exact ih h1 h2
theorem chainL_mem {p : Pt} {qs : List Pt} {s : Pt × Pt} (h : s ∈ chainL p qs) : (s.1 = p ∨ s.1 ∈ qs) ∧ s.2 ∈ qs := by
  induction qs generalizing p with
  | nil => simp [chainL] at h
  | cons a qs ih =>
    rw [chainL, List.mem_cons] at h
    rcases h with rfl | h
    · exact ⟨.inl rfl, List.mem_cons_self⟩
    · obtain ⟨h1, h2⟩ := ih h
      refine ⟨.inr ?_, List.mem_cons_of_mem _ h2⟩
      rcases h1 with h1 | h1
      · rw [h1]; exact List.mem_cons_self
      · exact List.mem_cons_of_mem _ h1
theorem last_at {ps : List Pt} {n : Nat} (h : ps.length = n) (hn : 0 < n) : ps[n - 1]? = some (lastPt ps) := by
  subst h
  unfold lastPt
  rw [List.getLast?_eq_getElem?]
  rw [List.getElem?_eq_getElem (by omega)]
  rfl
theorem last_near {ps : List Pt} (h : ps.all near = true) (hn : 0 < ps.length) : near (lastPt ps) = true := by
  have := last_at (ps := ps) rfl hn
  exact List.all_eq_true.1 h _ (List.mem_of_getElem? this)
theorem sides_near {ps : List Pt} (h : ps.all near = true) (hn : 0 < ps.length) {s : Pt × Pt} (hs : s ∈ sidesL ps) : near s.1 = true ∧ near s.2 = true := by
  have k := chainL_mem hs
  have hl := last_near h hn
  refine ⟨?_, List.all_eq_true.1 h _ k.2⟩
  rcases k.1 with e | e
  · rw [e]; exact hl
  · exact List.all_eq_true.1 h _ e

/-- What sidesOf tells: the sides, in memory of its own. -/
def Sides (w : World) (ps : List Pt) (e : Ending) (w' : World) : Prop :=
  ∃ g, e = .returned (.slice (some ⟨g, 0, none⟩) ps.length ps.length) ∧ w.heap.size ≤ g ∧ Row2 w' g ps.length ps.length 166 ((sidesL ps).map sdv) ∧ Below w.heap.size w w'

set_option maxRecDepth 100000 in
set_option maxHeartbeats 1600000 in
theorem sides_any (w : World) (a : Option Addr) (n c : Nat) (ps : List Pt) (h : Pts w a n ps) (h0 : 1 ≤ n) (hn : n ≤ 256) :
    Calls Tryz.prog 108 #[.slice a n c] w (Sides w ps) := by
  obtain ⟨k, hk⟩ : ∃ k, k = n - 1 := ⟨_, rfl⟩
  obtain ⟨b, off, l, rfl, hl, _, c0, c1⟩ := h.at (i := k) (by omega)
  have hll : lastPt ps = l := by
    have := last_at h.1 (by omega)
    rw [← hk, hl] at this
    exact (Option.some.inj this).symm
  have hbl : b < w.heap.size := World.block_lt_of_cell? w _ c0
  have hmk := run_make_sides n hn
  have hb0 : Below w.heap.size w (w.alloc (.cells (madeCells #[.complex .f64 0 0, .complex .f64 0 0] (n * 2)) 166)) := (Below.refl _ _).alloc (Nat.le_refl _) _
  have HP := Lib.hid h
  have HB0 := Lib.hid hb0
  have HR0 := Lib.hid (row2_start w #[.complex .f64 0 0, .complex .f64 0 0] n 166 ((sidesL ps).map sdv))
  have d0 : (w.alloc (.cells (madeCells #[.complex .f64 0 0, .complex .f64 0 0] (n * 2)) 166)).cell? ⟨b, off + k * 2, none⟩ = some (.int .i64 l.X) := (World.cell?_of_block (w := w) (hb0.block b hbl)).trans c0
  have d1 : (w.alloc (.cells (madeCells #[.complex .f64 0 0, .complex .f64 0 0] (n * 2)) 166)).cell? ⟨b, off + k * 2 + 1, none⟩ = some (.int .i64 l.Y) := (World.cell?_of_block (w := w) (hb0.block b hbl)).trans c1
  have hk1 : IntKind.i64.wrap ((n : Int) - 1) = (k : Int) := by rw [wrap_i64 _ (by omega) (by omega)]; omega
  have hkk : k < n := by omega
  have HL := Lib.hid hll
  clear h hb0 c0 c1 hl hll hk
  go_enter Tryz.func108, Tryz.ntmps108
  go_wp2_with fail
  generalize w.alloc (.cells (madeCells #[.complex .f64 0 0, .complex .f64 0 0] (n * 2)) 166) = w1 at *
  refine (number_any w1 l).mono ?_
  rintro e w2 ⟨rfl, h2⟩
  have HB2 := Lib.hid (show Below w.heap.size w w2 by rw [h2]; exact HB0.out.alloc HB0.out.size _)
  have HR2 := Lib.hid (show Row2 w2 w.heap.size n 0 166 ((sidesL ps).map sdv) by rw [h2]; exact HR0.out.below ((Below.refl _ _).alloc (Nat.le_refl _) _))
  clear h2 HB0 HR0 d0 d1 hmk hk1 hkk
  go_wp2_with fail
  go_loopw [4, 20] (fun v cnt wr => ∃ (i : Nat) (r : Pt), i ≤ n ∧ cnt = .int .i64 i ∧ v = .complex .f64 (fb r.X) (fb r.Y) ∧ (lastPt ps :: ps)[i]? = some r ∧ Row2 wr w.heap.size n i 166 ((sidesL ps).map sdv) ∧ Below w.heap.size w wr) (fun _ cnt _ => n - (intOf cnt).toNat)
  case atStart => exact ⟨0, l, Nat.zero_le _, rfl, rfl, by rw [HL.out]; rfl, HR2.out, HB2.out⟩
  case round =>
    clear HR2 HB2
    obtain ⟨i, r, hi, rfl, rfl, hr, hrow, hb⟩ := hrel
    by_cases hlt : i < n
    · obtain ⟨b', off', p, hbb, hp, hfit, c0, c1⟩ := (HP.out.below hb).at hlt
      cases hbb
      have hsd : ((sidesL ps).map sdv)[i]? = some (Value.complex .f64 (fb r.X) (fb r.Y), Value.complex .f64 (fb p.X) (fb p.Y)) := by
        rw [List.getElem?_map]
        unfold sidesL
        rw [chainL_at hp hr]; rfl
      have HPP := Lib.hid hp
      have hb1 : Below w.heap.size w (wr.alloc (.cells #[.int .i64 p.X, .int .i64 p.Y] 80)) := hb.alloc hb.size _
      have hb2 : Below wr.heap.size wr ((wr.alloc (.cells #[.int .i64 p.X, .int .i64 p.Y] 80)).alloc (.cells #[.int .i64 p.X, .int .i64 p.Y] 80)) := ((Below.refl _ _).alloc (Nat.le_refl _) _).alloc (by simp) _
      have hrow2 := hrow.below hb2
      have hb3 : Below w.heap.size w ((wr.alloc (.cells #[.int .i64 p.X, .int .i64 p.Y] 80)).alloc (.cells #[.int .i64 p.X, .int .i64 p.Y] 80)) := hb1.alloc hb1.size _
      have CN := Lib.hid (number_any (wr.alloc (.cells #[.int .i64 p.X, .int .i64 p.Y] 80)) p)
      have X := Lib.hid (show ∀ W, W = (wr.alloc (.cells #[.int .i64 p.X, .int .i64 p.Y] 80)).alloc (.cells #[.int .i64 p.X, .int .i64 p.Y] 80) → Row2 W w.heap.size n i 166 ((sidesL ps).map sdv) ∧ Below w.heap.size w W from fun W e => by subst e; exact ⟨hrow2, hb3⟩)
      have HSD := Lib.hid hsd
      clear hb1 hb2 hb3 hrow2 hrow hb hp hfit hsd hr
      go_wp2_with fail
      refine CN.out.mono ?_
      rintro e w3 ⟨rfl, h3⟩
      have Y := Lib.hid (X.out w3 h3)
      clear h3 X CN c0 c1
      obtain ⟨v0, x0, y0⟩ := Y.out.1.spot (k := i * 2) (by omega)
      obtain ⟨v1, x1, y1⟩ := Y.out.1.spot (k := i * 2 + 1) (by omega)
      have hst := store_complex
      go_wp2_with fail
      go_roundw
      case rel =>
        refine ⟨i + 1, p, hlt, by go_num, rfl, by rw [List.getElem?_cons_succ]; exact HPP.out, ?_, ?_⟩
        · exact Y.out.1.put hlt HSD.out
        · exact below_set2 Y.out.2 (Nat.le_refl _) _ _
      case measure => simp [intOf]; omega
    · obtain rfl : i = n := by omega
      have X := Lib.hid (show Sides w ps (.returned (.slice (some ⟨w.heap.size, 0, none⟩) i i)) wr by
        refine ⟨_, by rw [HP.out.1], Nat.le_refl _, ?_, hb⟩
        rw [HP.out.1]; exact hrow)
      clear hrow hb hr
      go_wp2_with fail
      go_ret
      exact X.out
end Go.Proofs.YtfcpbpfemmdklaaGreat.La

/- Area. -/
namespace Go.Proofs.YtfcpbpfemmdklaaGreat.La
open Go.RowKit
set_option linter.unusedVariables false

def cr (s : Pt × Pt) : Int := s.1.X * s.2.Y - s.1.Y * s.2.X
def areaL : List (Pt × Pt) → Int
  | [] => 0
  | s :: ss => cr s + areaL ss
/-- Twice the area, as the program sums it up. -/
def areaZ (ps : List Pt) : Int := areaL (sidesL ps)
theorem areaL_append (xs ys : List (Pt × Pt)) : areaL (xs ++ ys) = areaL xs + areaL ys := by
  induction xs with
  | nil => simp [areaL]
  | cons x xs ih => rw [List.cons_append, areaL, areaL, ih]; omega
theorem areaL_more {ss : List (Pt × Pt)} {i : Nat} {s : Pt × Pt} (h : ss[i]? = some s) : areaL (ss.take (i + 1)) = areaL (ss.take i) + cr s := by
  rw [take_more h, areaL_append, areaL, areaL]; omega
theorem mul_coord {a b : Int} (ha : a.natAbs ≤ 2 ^ 20) (hb : b.natAbs ≤ 2 ^ 20) : (a * b).natAbs ≤ 2 ^ 40 := by
  rw [Int.natAbs_mul]
  exact Nat.le_trans (Nat.mul_le_mul ha hb) (by decide)
theorem cr_small {s : Pt × Pt} (h1 : near s.1 = true) (h2 : near s.2 = true) : (cr s).natAbs ≤ 2 ^ 41 := by
  have h1 := near_iff.1 h1
  have h2 := near_iff.1 h2
  unfold cr
  have k1 := mul_coord (a := s.1.X) (b := s.2.Y) (by omega) (by omega)
  have k2 := mul_coord (a := s.1.Y) (b := s.2.X) (by omega) (by omega)
  have k : (2 : Nat) ^ 41 = 2 * 2 ^ 40 := by decide
  omega
theorem areaL_small {ss : List (Pt × Pt)} (h : ∀ s ∈ ss, near s.1 = true ∧ near s.2 = true) : (areaL ss).natAbs ≤ ss.length * 2 ^ 41 := by
  induction ss with
  | nil => simp [areaL]
  | cons s ss ih =>
    have h1 := cr_small (h s List.mem_cons_self).1 (h s List.mem_cons_self).2
    have h2 := ih (fun s hs => h s (List.mem_cons_of_mem _ hs))
    rw [areaL, List.length_cons, Nat.succ_mul]
    omega
theorem areaZ_small {ps : List Pt} (h : shape ps = true) : (areaZ ps).natAbs ≤ 2 ^ 49 := by
  unfold shape at h
  simp only [Bool.and_eq_true, decide_eq_true_eq] at h
  have k := areaL_small (ss := sidesL ps) (fun s hs => sides_near h.2 (by omega) hs)
  unfold sidesL at k
  rw [chainL_length] at k
  have : ps.length * 2 ^ 41 ≤ 256 * 2 ^ 41 := Nat.mul_le_mul_right _ h.1.2
  have e : (256 : Nat) * 2 ^ 41 = 2 ^ 49 := by decide
  unfold areaZ sidesL
  omega

theorem shape_len {ps : List Pt} (h : shape ps = true) : 3 ≤ ps.length ∧ ps.length ≤ 256 ∧ ps.all near = true := by
  unfold shape at h
  simp only [Bool.and_eq_true, decide_eq_true_eq] at h
  exact ⟨h.1.1, h.1.2, h.2⟩

/-- A number and an error, and the old memory as it was. -/
def SaysNE (n : Int) (c : Int) (w : World) (e : Ending) (w' : World) : Prop := e = .returned (.tuple #[.int .i64 n, .int .i64 c]) ∧ Below w.heap.size w w'

end Go.Proofs.YtfcpbpfemmdklaaGreat.La

/- Within. -/
namespace Go.Proofs.YtfcpbpfemmdklaaGreat.La
open Go.RowKit
set_option linter.unusedVariables false

theorem cell_keep {w w' : World} {b o : Nat} {v : Value} (h : w.cell? ⟨b, o, none⟩ = some v) (hb : Below w.heap.size w w') : w'.cell? ⟨b, o, none⟩ = some v :=
  (World.cell?_of_block (w := w) (hb.block b (World.block_lt_of_cell? w _ h))).trans h
/-- Does a pixel's ray meet a side? -/
def metB (q : Pt) (s : Pt × Pt) : Bool := decide (0 < reachZ s.1 s.2 q)
/-- How many sides it meets. -/
def hits (ss : List (Pt × Pt)) (q : Pt) : Nat := ss.countP (metB q)
def insideB (ps : List Pt) (q : Pt) : Bool := decide (hits (sidesL ps) q % 2 = 1)
theorem hits_more {ss : List (Pt × Pt)} {i : Nat} {s : Pt × Pt} {q : Pt} (h : ss[i]? = some s) : hits (ss.take (i + 1)) q = hits (ss.take i) q + (if metB q s then 1 else 0) := by
  unfold hits
  rw [take_more h, List.countP_append, List.countP_singleton]
/-- A bool and an error, and the old memory as it was. -/
def SaysBE (b : Bool) (c : Int) (w : World) (e : Ending) (w' : World) : Prop := e = .returned (.tuple #[.bool b, .int .i64 c]) ∧ Below w.heap.size w w'
theorem one_point (w : World) (q : Pt) (hq : Fits q) : Pts (w.alloc (.cells #[.int .i64 q.X, .int .i64 q.Y] 80)) (some ⟨w.heap.size, 0, none⟩) 1 [q] := by
  refine ⟨rfl, fun p hp => by rw [List.mem_singleton] at hp; rw [hp]; exact hq, fun _ => ⟨_, _, rfl, fun i p hp => ?_⟩⟩
  cases i with
  | zero =>
    simp only [List.getElem?_cons_zero, Option.some.injEq] at hp
    subst hp
    exact ⟨by rw [World.cell?_alloc_mark]; rfl, by rw [World.cell?_alloc_mark]; rfl⟩
  | succ i => simp at hp

end Go.Proofs.YtfcpbpfemmdklaaGreat.La

/- The document's own functions: right points, shapes, what a ray meets, what lies within, products, areas. -/
namespace Go.Proofs.YtfcpbpfemmdklaaGreat.La
open Go.RowKit
set_option linter.unusedVariables false

theorem w64 (n : Int) (h0 : -9223372036854775808 ≤ n) (h1 : n ≤ 9223372036854775807) : wrap64 n = n := by unfold wrap64; omega

theorem right_any (w : World) (p : Pt) : Calls Tryz.prog 115 #[.agg #[.int .i64 p.X, .int .i64 p.Y]] w (Says (near p) w) := by
  obtain ⟨X, Y⟩ := p
  have HB := Lib.hid (show Below w.heap.size w (w.alloc (.cells #[.int .i64 X, .int .i64 Y] 81)) from (Below.refl _ _).alloc (Nat.le_refl _) _)
  unfold near nearC
  by_cases h1 : -1048576 ≤ X
  · have u1 : decide (-1048576 ≤ X) = true := by simpa using h1
    by_cases h2 : X ≤ 1048576
    · have u2 : decide (X ≤ 1048576) = true := by simpa using h2
      by_cases h3 : -1048576 ≤ Y
      · have u3 : decide (-1048576 ≤ Y) = true := by simpa using h3
        by_cases h4 : Y ≤ 1048576
        · have u4 : decide (Y ≤ 1048576) = true := by simpa using h4
          rw [u1, u2, u3, u4]
          go_enter Tryz.func115, Tryz.ntmps115
          go_wp2_with fail
          go_ret
          exact ⟨rfl, HB.out⟩
        · have u4 : decide (Y ≤ 1048576) = false := by simpa using h4
          rw [u1, u2, u3, u4]
          go_enter Tryz.func115, Tryz.ntmps115
          go_wp2_with fail
          go_ret
          exact ⟨rfl, HB.out⟩
      · have u3 : decide (-1048576 ≤ Y) = false := by simpa using h3
        rw [u1, u2, u3, Bool.false_and]
        go_enter Tryz.func115, Tryz.ntmps115
        go_wp2_with fail
        go_ret
        exact ⟨rfl, HB.out⟩
    · have u2 : decide (X ≤ 1048576) = false := by simpa using h2
      rw [u1, u2, Bool.and_false, Bool.false_and]
      go_enter Tryz.func115, Tryz.ntmps115
      go_wp2_with fail
      go_ret
      exact ⟨rfl, HB.out⟩
  · have u1 : decide (-1048576 ≤ X) = false := by simpa using h1
    rw [u1, Bool.false_and, Bool.false_and]
    go_enter Tryz.func115, Tryz.ntmps115
    go_wp2_with fail
    go_ret
    exact ⟨rfl, HB.out⟩

set_option maxRecDepth 100000 in
set_option maxHeartbeats 800000 in
theorem docShape_any (w : World) (a : Option Addr) (n c : Nat) (ps : List Pt) (h : Pts w a n ps) (hn : n ≤ 33554432) : Calls Tryz.prog 89 #[.slice a n c] w (Says (shape ps) w) := by
  have HP := Lib.hid h
  clear h
  go_enter Tryz.func89, Tryz.ntmps89
  go_wp2_with fail
  go_loopw [3] (fun cnt wr => ∃ i : Nat, i ≤ n ∧ cnt = .int .i64 i ∧ (ps.take i).all near = true ∧ Below w.heap.size w wr) (fun cnt _ => n - (intOf cnt).toNat)
  case atStart => exact ⟨0, Nat.zero_le _, rfl, by simp, Below.refl _ _⟩
  case round =>
    obtain ⟨i, hi, rfl, hal, hb⟩ := hrel
    by_cases hlt : i < n
    · obtain ⟨b, off, p, rfl, hp, hfit, c0, c1⟩ := (HP.out.below hb).at hlt
      have HAL := Lib.hid hal
      have HPP := Lib.hid hp
      have HB := Lib.hid hb
      clear hal hp hfit hb
      have C1 := Lib.hid (right_any wr p)
      generalize hnx : near p = nx at C1
      have HNX := Lib.hid hnx
      clear hnx
      go_wp2_with fail
      refine C1.out.mono ?_
      rintro e w1 ⟨rfl, hb⟩
      have HB1 := Lib.hid (below_more HB.out hb (Nat.le_refl _))
      clear hb HB C1 c0 c1
      cases nx with
      | false =>
        have E := Lib.hid (show shape ps = false by unfold shape; rw [all_no HPP.out HNX.out, Bool.and_false])
        go_wp2_with fail
        go_ret
        rw [E.out]
        exact ⟨rfl, HB1.out⟩
      | true =>
        have E := Lib.hid (all_more HPP.out HAL.out HNX.out)
        go_wp2_with fail
        go_roundw
        case rel => exact ⟨i + 1, hlt, by go_num, E.out, HB1.out⟩
        case measure => simp [intOf]; omega
    · obtain rfl : i = n := by omega
      have E0 : ps.all near = true := all_take hal (by rw [HP.out.1]; exact Nat.le_refl _)
      have hl := HP.out.1
      have HB := Lib.hid hb
      clear hal hb
      by_cases h3 : 3 ≤ i
      · have u3 : decide ((3 : Int) ≤ (i : Int)) = true := by simp; omega
        by_cases h4 : i ≤ 256
        · have u4 : decide ((i : Int) ≤ 256) = true := by simp; omega
          have E := Lib.hid (show shape ps = true by unfold shape; rw [E0, hl]; simp; omega)
          clear E0 hl
          go_wp2_with fail
          go_ret
          rw [E.out]
          exact ⟨rfl, HB.out⟩
        · have u4 : decide ((i : Int) ≤ 256) = false := by simp; omega
          have E := Lib.hid (show shape ps = false by unfold shape; rw [E0, hl]; simp; omega)
          clear E0 hl
          go_wp2_with fail
          go_ret
          rw [E.out]
          exact ⟨rfl, HB.out⟩
      · have u3 : decide ((3 : Int) ≤ (i : Int)) = false := by simp; omega
        have E := Lib.hid (show shape ps = false by unfold shape; rw [E0, hl]; simp; omega)
        clear E0 hl
        go_wp2_with fail
        go_ret
        rw [E.out]
        exact ⟨rfl, HB.out⟩

/-- The document's words: does the ray from a pixel's middle meet a side? -/
def nZ (q a b : Pt) : Int := (2 * b.X - 2 * a.X) * ((2 * q.Y + 1) - 2 * a.Y) + (2 * a.X - (2 * q.X + 1)) * (2 * b.Y - 2 * a.Y)
def metR (q : Pt) (s : Pt × Pt) : Bool :=
  if q.Y < s.1.Y then (if q.Y < s.2.Y then false else decide (nZ q s.1 s.2 < 0))
  else (if q.Y < s.2.Y then decide (0 < nZ q s.1 s.2) else false)

set_option maxRecDepth 100000 in
set_option maxHeartbeats 1600000 in
theorem met_true_true (w : World) (aX aY bX bY x y : Int) (ha : near ⟨aX, aY⟩ = true) (hb : near ⟨bX, bY⟩ = true) (hq : near ⟨x, y⟩ = true) (ca : y < aY) (cb : y < bY) :
    Calls Tryz.prog 116 #[.agg #[.int .i64 aX, .int .i64 aY], .agg #[.int .i64 bX, .int .i64 bY], .int .i64 x, .int .i64 y] w (Says (metR ⟨x, y⟩ (⟨aX, aY⟩, ⟨bX, bY⟩)) w) := by
    have ha := near_iff.1 ha
    have hb := near_iff.1 hb
    have hq := near_iff.1 hq
    simp only at ha hb hq
    have HB := Lib.hid (show Below w.heap.size w ((w.alloc (.cells #[.int .i64 aX, .int .i64 aY] 81)).alloc (.cells #[.int .i64 bX, .int .i64 bY] 81)) from ((Below.refl _ _).alloc (Nat.le_refl _) _).alloc (by simp) _)
    obtain ⟨pa, hpa⟩ : ∃ z, z = (2 * bX - 2 * aX) * ((2 * y + 1) - 2 * aY) := ⟨_, rfl⟩
    obtain ⟨pb, hpb⟩ : ∃ z, z = (2 * aX - (2 * x + 1)) * (2 * bY - 2 * aY) := ⟨_, rfl⟩
    have hh := And.intro (mul_small (a := 2 * bX - 2 * aX) (b := (2 * y + 1) - 2 * aY) (by omega) (by omega)) (mul_small (a := 2 * aX - (2 * x + 1)) (b := 2 * bY - 2 * aY) (by omega) (by omega))
    rw [← hpa, ← hpb] at hh
    obtain ⟨nn, hn⟩ : ∃ z, z = nZ ⟨x, y⟩ ⟨aX, aY⟩ ⟨bX, bY⟩ := ⟨_, rfl⟩
    have hn2 : pa + pb = nn := by rw [hn]; unfold nZ; rw [hpa, hpb]
    have k13 : wrap64 ((2 * bX - 2 * aX) * (2 * y + 1 - 2 * aY)) = pa := by rw [← hpa]; exact w64 pa (by omega) (by omega)
    have k14 : wrap64 ((2 * aX - (2 * x + 1)) * (2 * bY - 2 * aY)) = pb := by rw [← hpb]; exact w64 pb (by omega) (by omega)
    have k15 : wrap64 (pa + pb) = nn := by rw [hn2]; exact w64 nn (by omega) (by omega)
    have u1 : decide (2 * y + 1 < 2 * aY) = true := by simp; omega
    have u2 : decide (2 * y + 1 < 2 * bY) = true := by simp; omega
    clear hn2
    have hres : metR ⟨x, y⟩ (⟨aX, aY⟩, ⟨bX, bY⟩) = false := by
      unfold metR
      rw [if_pos (show y < aY by omega), if_pos (show y < bY by omega)]
    rw [hres]
    clear hres
    clear hn hh hpa hpb
    go_enter Tryz.func116, Tryz.ntmps116
    go_wp2_with fail
    go_ret
    exact ⟨rfl, HB.out⟩

set_option maxRecDepth 100000 in
set_option maxHeartbeats 1600000 in
theorem met_true_false (w : World) (aX aY bX bY x y : Int) (ha : near ⟨aX, aY⟩ = true) (hb : near ⟨bX, bY⟩ = true) (hq : near ⟨x, y⟩ = true) (ca : y < aY) (cb : ¬ y < bY) :
    Calls Tryz.prog 116 #[.agg #[.int .i64 aX, .int .i64 aY], .agg #[.int .i64 bX, .int .i64 bY], .int .i64 x, .int .i64 y] w (Says (metR ⟨x, y⟩ (⟨aX, aY⟩, ⟨bX, bY⟩)) w) := by
    have ha := near_iff.1 ha
    have hb := near_iff.1 hb
    have hq := near_iff.1 hq
    simp only at ha hb hq
    have HB := Lib.hid (show Below w.heap.size w ((w.alloc (.cells #[.int .i64 aX, .int .i64 aY] 81)).alloc (.cells #[.int .i64 bX, .int .i64 bY] 81)) from ((Below.refl _ _).alloc (Nat.le_refl _) _).alloc (by simp) _)
    obtain ⟨pa, hpa⟩ : ∃ z, z = (2 * bX - 2 * aX) * ((2 * y + 1) - 2 * aY) := ⟨_, rfl⟩
    obtain ⟨pb, hpb⟩ : ∃ z, z = (2 * aX - (2 * x + 1)) * (2 * bY - 2 * aY) := ⟨_, rfl⟩
    have hh := And.intro (mul_small (a := 2 * bX - 2 * aX) (b := (2 * y + 1) - 2 * aY) (by omega) (by omega)) (mul_small (a := 2 * aX - (2 * x + 1)) (b := 2 * bY - 2 * aY) (by omega) (by omega))
    rw [← hpa, ← hpb] at hh
    obtain ⟨nn, hn⟩ : ∃ z, z = nZ ⟨x, y⟩ ⟨aX, aY⟩ ⟨bX, bY⟩ := ⟨_, rfl⟩
    have hn2 : pa + pb = nn := by rw [hn]; unfold nZ; rw [hpa, hpb]
    have k13 : wrap64 ((2 * bX - 2 * aX) * (2 * y + 1 - 2 * aY)) = pa := by rw [← hpa]; exact w64 pa (by omega) (by omega)
    have k14 : wrap64 ((2 * aX - (2 * x + 1)) * (2 * bY - 2 * aY)) = pb := by rw [← hpb]; exact w64 pb (by omega) (by omega)
    have k15 : wrap64 (pa + pb) = nn := by rw [hn2]; exact w64 nn (by omega) (by omega)
    have u1 : decide (2 * y + 1 < 2 * aY) = true := by simp; omega
    have u2 : decide (2 * y + 1 < 2 * bY) = false := by simp; omega
    clear hn2
    have ud : decide (2 * bY - 2 * aY < 0) = true := by simp; omega
    have hres : metR ⟨x, y⟩ (⟨aX, aY⟩, ⟨bX, bY⟩) = decide (nn < 0) := by
      unfold metR
      rw [if_pos (show y < aY by omega), if_neg (show ¬ y < bY by omega), ← hn]
    rw [hres]
    clear hn hh hpa hpb hres
    by_cases hq : nn < 0
    · have uq : decide (nn < 0) = true := by simpa using hq
      rw [uq]
      go_enter Tryz.func116, Tryz.ntmps116
      go_wp2_with fail
      go_ret
      exact ⟨rfl, HB.out⟩
    · have uq : decide (nn < 0) = false := by simpa using hq
      rw [uq]
      go_enter Tryz.func116, Tryz.ntmps116
      go_wp2_with fail
      go_ret
      exact ⟨rfl, HB.out⟩

set_option maxRecDepth 100000 in
set_option maxHeartbeats 1600000 in
theorem met_false_true (w : World) (aX aY bX bY x y : Int) (ha : near ⟨aX, aY⟩ = true) (hb : near ⟨bX, bY⟩ = true) (hq : near ⟨x, y⟩ = true) (ca : ¬ y < aY) (cb : y < bY) :
    Calls Tryz.prog 116 #[.agg #[.int .i64 aX, .int .i64 aY], .agg #[.int .i64 bX, .int .i64 bY], .int .i64 x, .int .i64 y] w (Says (metR ⟨x, y⟩ (⟨aX, aY⟩, ⟨bX, bY⟩)) w) := by
    have ha := near_iff.1 ha
    have hb := near_iff.1 hb
    have hq := near_iff.1 hq
    simp only at ha hb hq
    have HB := Lib.hid (show Below w.heap.size w ((w.alloc (.cells #[.int .i64 aX, .int .i64 aY] 81)).alloc (.cells #[.int .i64 bX, .int .i64 bY] 81)) from ((Below.refl _ _).alloc (Nat.le_refl _) _).alloc (by simp) _)
    obtain ⟨pa, hpa⟩ : ∃ z, z = (2 * bX - 2 * aX) * ((2 * y + 1) - 2 * aY) := ⟨_, rfl⟩
    obtain ⟨pb, hpb⟩ : ∃ z, z = (2 * aX - (2 * x + 1)) * (2 * bY - 2 * aY) := ⟨_, rfl⟩
    have hh := And.intro (mul_small (a := 2 * bX - 2 * aX) (b := (2 * y + 1) - 2 * aY) (by omega) (by omega)) (mul_small (a := 2 * aX - (2 * x + 1)) (b := 2 * bY - 2 * aY) (by omega) (by omega))
    rw [← hpa, ← hpb] at hh
    obtain ⟨nn, hn⟩ : ∃ z, z = nZ ⟨x, y⟩ ⟨aX, aY⟩ ⟨bX, bY⟩ := ⟨_, rfl⟩
    have hn2 : pa + pb = nn := by rw [hn]; unfold nZ; rw [hpa, hpb]
    have k13 : wrap64 ((2 * bX - 2 * aX) * (2 * y + 1 - 2 * aY)) = pa := by rw [← hpa]; exact w64 pa (by omega) (by omega)
    have k14 : wrap64 ((2 * aX - (2 * x + 1)) * (2 * bY - 2 * aY)) = pb := by rw [← hpb]; exact w64 pb (by omega) (by omega)
    have k15 : wrap64 (pa + pb) = nn := by rw [hn2]; exact w64 nn (by omega) (by omega)
    have u1 : decide (2 * y + 1 < 2 * aY) = false := by simp; omega
    have u2 : decide (2 * y + 1 < 2 * bY) = true := by simp; omega
    clear hn2
    have ud : decide (2 * bY - 2 * aY < 0) = false := by simp; omega
    have hres : metR ⟨x, y⟩ (⟨aX, aY⟩, ⟨bX, bY⟩) = decide (0 < nn) := by
      unfold metR
      rw [if_neg (show ¬ y < aY by omega), if_pos (show y < bY by omega), ← hn]
    rw [hres]
    clear hn hh hpa hpb hres
    by_cases hq : 0 < nn
    · have uq : decide (0 < nn) = true := by simpa using hq
      rw [uq]
      go_enter Tryz.func116, Tryz.ntmps116
      go_wp2_with fail
      go_ret
      exact ⟨rfl, HB.out⟩
    · have uq : decide (0 < nn) = false := by simpa using hq
      rw [uq]
      go_enter Tryz.func116, Tryz.ntmps116
      go_wp2_with fail
      go_ret
      exact ⟨rfl, HB.out⟩

set_option maxRecDepth 100000 in
set_option maxHeartbeats 1600000 in
theorem met_false_false (w : World) (aX aY bX bY x y : Int) (ha : near ⟨aX, aY⟩ = true) (hb : near ⟨bX, bY⟩ = true) (hq : near ⟨x, y⟩ = true) (ca : ¬ y < aY) (cb : ¬ y < bY) :
    Calls Tryz.prog 116 #[.agg #[.int .i64 aX, .int .i64 aY], .agg #[.int .i64 bX, .int .i64 bY], .int .i64 x, .int .i64 y] w (Says (metR ⟨x, y⟩ (⟨aX, aY⟩, ⟨bX, bY⟩)) w) := by
    have ha := near_iff.1 ha
    have hb := near_iff.1 hb
    have hq := near_iff.1 hq
    simp only at ha hb hq
    have HB := Lib.hid (show Below w.heap.size w ((w.alloc (.cells #[.int .i64 aX, .int .i64 aY] 81)).alloc (.cells #[.int .i64 bX, .int .i64 bY] 81)) from ((Below.refl _ _).alloc (Nat.le_refl _) _).alloc (by simp) _)
    obtain ⟨pa, hpa⟩ : ∃ z, z = (2 * bX - 2 * aX) * ((2 * y + 1) - 2 * aY) := ⟨_, rfl⟩
    obtain ⟨pb, hpb⟩ : ∃ z, z = (2 * aX - (2 * x + 1)) * (2 * bY - 2 * aY) := ⟨_, rfl⟩
    have hh := And.intro (mul_small (a := 2 * bX - 2 * aX) (b := (2 * y + 1) - 2 * aY) (by omega) (by omega)) (mul_small (a := 2 * aX - (2 * x + 1)) (b := 2 * bY - 2 * aY) (by omega) (by omega))
    rw [← hpa, ← hpb] at hh
    obtain ⟨nn, hn⟩ : ∃ z, z = nZ ⟨x, y⟩ ⟨aX, aY⟩ ⟨bX, bY⟩ := ⟨_, rfl⟩
    have hn2 : pa + pb = nn := by rw [hn]; unfold nZ; rw [hpa, hpb]
    have k13 : wrap64 ((2 * bX - 2 * aX) * (2 * y + 1 - 2 * aY)) = pa := by rw [← hpa]; exact w64 pa (by omega) (by omega)
    have k14 : wrap64 ((2 * aX - (2 * x + 1)) * (2 * bY - 2 * aY)) = pb := by rw [← hpb]; exact w64 pb (by omega) (by omega)
    have k15 : wrap64 (pa + pb) = nn := by rw [hn2]; exact w64 nn (by omega) (by omega)
    have u1 : decide (2 * y + 1 < 2 * aY) = false := by simp; omega
    have u2 : decide (2 * y + 1 < 2 * bY) = false := by simp; omega
    clear hn2
    have hres : metR ⟨x, y⟩ (⟨aX, aY⟩, ⟨bX, bY⟩) = false := by
      unfold metR
      rw [if_neg (show ¬ y < aY by omega), if_neg (show ¬ y < bY by omega)]
    rw [hres]
    clear hres
    clear hn hh hpa hpb
    go_enter Tryz.func116, Tryz.ntmps116
    go_wp2_with fail
    go_ret
    exact ⟨rfl, HB.out⟩

theorem met_any (w : World) (a b q : Pt) (ha : near a = true) (hb : near b = true) (hq : near q = true) :
    Calls Tryz.prog 116 #[.agg #[.int .i64 a.X, .int .i64 a.Y], .agg #[.int .i64 b.X, .int .i64 b.Y], .int .i64 q.X, .int .i64 q.Y] w (Says (metR q (a, b)) w) := by
  by_cases ca : q.Y < a.Y
  · by_cases cb : q.Y < b.Y
    · exact met_true_true w a.X a.Y b.X b.Y q.X q.Y ha hb hq ca cb
    · exact met_true_false w a.X a.Y b.X b.Y q.X q.Y ha hb hq ca cb
  · by_cases cb : q.Y < b.Y
    · exact met_false_true w a.X a.Y b.X b.Y q.X q.Y ha hb hq ca cb
    · exact met_false_false w a.X a.Y b.X b.Y q.X q.Y ha hb hq ca cb
end Go.Proofs.YtfcpbpfemmdklaaGreat.La

/- Points as cells; append of one; the copy of points that the law makes. -/
namespace Go.Proofs.YtfcpbpfemmdklaaGreat.La
open Go.RowKit
set_option linter.unusedVariables false

/-- Points as cells. -/
def pcell (p : Pt) : List Value := [.int .i64 p.X, .int .i64 p.Y]
def pcells : List Pt → List Value
  | [] => []
  | p :: ps => pcell p ++ pcells ps
theorem pcells_cons (p : Pt) (ps : List Pt) : pcells (p :: ps) = pcell p ++ pcells ps := rfl
theorem pcells_length (ps : List Pt) : (pcells ps).length = ps.length * 2 := by
  induction ps with
  | nil => rfl
  | cons p ps ih => rw [pcells_cons, List.length_append, ih, List.length_cons]; simp [pcell]; omega
theorem pcells_append (ps qs : List Pt) : pcells (ps ++ qs) = pcells ps ++ pcells qs := by
  induction ps with
  | nil => rfl
  | cons p ps ih => rw [List.cons_append, pcells_cons, pcells_cons, ih, List.append_assoc]
theorem pcells_at {ps : List Pt} {i : Nat} {p : Pt} (h : ps[i]? = some p) (r : Nat) (hr : r < 2) : (pcells ps)[i * 2 + r]? = (pcell p)[r]? := by
  induction ps generalizing i with
  | nil => simp at h
  | cons u ps ih =>
    rw [pcells_cons]
    cases i with
    | zero =>
      simp only [List.getElem?_cons_zero, Option.some.injEq] at h
      subst h
      rw [Nat.zero_mul, Nat.zero_add, List.getElem?_append_left (by simp [pcell]; omega)]
    | succ i =>
      rw [List.getElem?_cons_succ] at h
      rw [List.getElem?_append_right (by simp [pcell]; omega), ← ih h]
      congr 1
      simp [pcell]
      omega
/-- Cells that hold points. -/
theorem pts_cells {w : World} {g : Nat} {cs : Array Value} {ty : TypeId} {fr : Nat × Nat} {ps : List Pt} {m : Nat} (hh : w.heap[g]? = some (.cells cs ty fr)) (hc : cs.toList.take m = pcells ps) (hf : ∀ p ∈ ps, Fits p) : Pts w (some ⟨g, 0, none⟩) ps.length ps := by
  refine ⟨rfl, hf, fun _ => ⟨g, 0, rfl, fun i p hp => ?_⟩⟩
  have key : ∀ r, r < 2 → ∀ v, (pcell p)[r]? = some v → w.cell? ⟨g, 0 + i * 2 + r, none⟩ = some v := by
    intro r hr v hv
    rw [← pcells_at hp r hr, ← hc] at hv
    have hm : i * 2 + r < m := by
      have := (List.getElem?_eq_some_iff.1 hv).1
      rw [List.length_take] at this
      omega
    rw [List.getElem?_take_of_lt hm] at hv
    have hv2 : cs[i * 2 + r]? = some v := by simpa using hv
    simp [World.cell?, hh, hv2]
  exact ⟨key 0 (by omega) _ rfl, key 1 (by omega) _ rfl⟩
theorem pts_lit (w : World) (cs : Array Value) (ty : TypeId) (ps : List Pt) (hc : cs.toList = pcells ps) (hf : ∀ p ∈ ps, Fits p) : Pts (w.alloc (.cells cs ty)) (some ⟨w.heap.size, 0, none⟩) ps.length ps :=
  pts_cells (m := cs.toList.length) (heap_alloc_new _ _) (by rw [List.take_length]; exact hc) hf
/-- Points of the call's own, read. -/
theorem pts_own {w : World} {B c n : Nat} {E : TypeId} {aa : Option Addr} {ps : List Pt} (h : w.ownsRow B E 2 (.slice aa n c) n (pcells ps)) (hf : ∀ p ∈ ps, Fits p) : Pts w aa n ps ∧ ps.length = n ∧ (∀ x, aa = some x → B ≤ x.block) ∧ n ≤ c ∧ (aa = none → n = 0 ∧ c = 0) := by
  obtain ⟨hl, h2⟩ := h
  rw [pcells_length] at hl
  have hl2 : ps.length = n := by omega
  subst hl2
  rcases h2 with ⟨e, e2⟩ | ⟨g, cap, cur, e, hB, hh, p1, p2, p3, p4⟩
  · have : ps = [] := List.eq_nil_of_length_eq_zero e2
    subst this
    cases e
    exact ⟨⟨rfl, fun p hp => (by cases hp), fun hp => absurd hp (by simp)⟩, rfl, fun x hx => (by cases hx), Nat.le_refl _, fun _ => ⟨rfl, rfl⟩⟩
  · cases e
    exact ⟨pts_cells hh p4 hf, rfl, fun x hx => (by cases hx; exact hB), p1, fun h => (by cases h)⟩

theorem info31 : (Tryz.prog.info? 81).map (fun i => (i.zero, i.size, i.bytes)) = some (some (.agg #[.int .i64 0, .int .i64 0]), 2, 16) := by kernel_rfl
theorem info37 : (Tryz.prog.info? 80).map (fun i => (i.zero, i.size, i.bytes)) = some (some (.agg #[.int .i64 0, .int .i64 0]), 2, 16) := by kernel_rfl

theorem run_append_pt (S E : TypeId) (hS : Tryz.prog.underlying S = some (.slice E)) (hE : (Tryz.prog.info? E).map (fun i => (i.zero, i.size, i.bytes)) = some (some (.agg #[.int .i64 0, .int .i64 0]), 2, 16))
    (w : World) (ty : TypeId) (base n : Nat) (v : Value) (ps : List Pt) (p : Pt) (hown : w.ownsRow base E 2 v n (pcells ps)) (g c : Nat) (h0 : OnePt w g 0 p) (hn : n ≤ 16777216) (hbase : base ≤ w.heap.size) :
    ∃ aa cap w', (Builtin.append_ #[S, S] ty #[v, .slice (some ⟨g, 0, none⟩) 1 c]).run Tryz.prog w = .ok (.slice aa (n + 1) cap) w' ∧
      w'.ownsRow base E 2 (.slice aa (n + 1) cap) (n + 1) (pcells (ps ++ [p])) ∧ w.grownBy w' v.ownBlock ∧ ((Value.slice aa (n + 1) cap).ownBlock = v.ownBlock ∨ (Value.slice aa (n + 1) cap).ownBlock = some w.heap.size) := by
  obtain ⟨i0, hi, hz0, hz1, hz2⟩ := info_parts hE
  obtain ⟨c0, c1⟩ := h0
  obtain ⟨v', w', hr, k1, k2, k4, k5⟩ := run_append_own_at (P := Tryz.prog) w base S ty E i0 (.agg #[.int .i64 0, .int .i64 0]) 2 16 hS hi hz0 hz1 hz2 rfl (by decide) v n _ hown ⟨g, 0, none⟩ 1 c (pcell p) rfl
    (by
      intro j u hj
      rw [add_spot]
      match j, hj with
      | 0, hj => cases hj; exact c0
      | 1, hj => cases hj; exact c1
      | j + 2, hj => simp [pcell] at hj)
    (by intro u hu; simp only [pcell, List.mem_cons, List.not_mem_nil, or_false] at hu; rcases hu with rfl | rfl <;> rfl) (by unfold maxLen; omega) (by omega) hbase
  have hv : ∃ aa cap, v' = .slice aa (n + 1) cap := by
    rcases k1.2 with ⟨e, e2⟩ | ⟨g, cap, _, e, _⟩
    · omega
    · exact ⟨_, _, e⟩
  obtain ⟨aa, cap, rfl⟩ := hv
  have e : pcells ps ++ pcell p = pcells (ps ++ [p]) := by rw [pcells_append]; simp [pcells]
  rw [e] at k1
  exact ⟨aa, cap, w', hr, k1, k2, k5⟩
theorem wpList_append_pt (S E : TypeId) (hS : Tryz.prog.underlying S = some (.slice E)) (hE : (Tryz.prog.info? E).map (fun i => (i.zero, i.size, i.bytes)) = some (some (.agg #[.int .i64 0, .int .i64 0]), 2, 16))
    {w : World} {ops : Array Oper} {rest : List Oper} {o : Oper} {a : Act} {Q : Exit → Act → World → Prop} (hgd : o.guard = none) (s x : Operand) (ho : o.op = .call { callee := .builtin .append, args := #[s, x], argTypes := #[S, S] })
    (base n : Nat) (v : Value) (ps : List Pt) (p : Pt) (hs : a.eval s = v) (hown : w.ownsRow base E 2 v n (pcells ps)) (g c : Nat) (hx : a.eval x = .slice (some ⟨g, 0, none⟩) 1 c) (h0 : OnePt w g 0 p) (hn : n ≤ 16777216) (hbase : base ≤ w.heap.size)
    (h : ∀ aa cap w', w'.ownsRow base E 2 (.slice aa (n + 1) cap) (n + 1) (pcells (ps ++ [p])) → w.grownBy w' v.ownBlock → ((Value.slice aa (n + 1) cap).ownBlock = v.ownBlock ∨ (Value.slice aa (n + 1) cap).ownBlock = some w.heap.size) → wpList Tryz.prog ops Q rest (a.put o.dst (.slice aa (n + 1) cap)) w') :
    wpList Tryz.prog ops Q (o :: rest) a w := by
  refine wpList_plain hgd fun K hK => ?_
  obtain ⟨aa, cap, w', hr, k1, k2, k3⟩ := run_append_pt S E hS hE w o.type base n v ps p hown g c h0 hn hbase
  unfold Oper.wp execOp
  simp only [ho, resolve, invoke, builtin, Sem.run_bind, Sem.run_pure, Result.andThen_ok, List.map_toArray, List.map_cons, List.map_nil, hs, hx, hr]
  exact hK _ _ (h aa cap w' k1 k2 k3)
theorem one_pt (w : World) (p : Pt) (ty : TypeId) : OnePt (w.alloc (.cells #[.int .i64 p.X, .int .i64 p.Y] ty)) w.heap.size 0 p := by
  refine ⟨?_, ?_⟩ <;> (rw [World.cell?_alloc_mark]; rfl)

/-- A row of points that a call grows. -/
structure GrowP (B : Nat) (E : TypeId) (w : World) (v : Value) (ps : List Pt) (w' : World) : Prop where
  own : w'.ownsRow B E 2 v ps.length (pcells ps)
  old : Below B w w'
  low : B ≤ w.heap.size
theorem GrowP.nil (w : World) (E : TypeId) : GrowP w.heap.size E w (.slice none 0 0) [] w := ⟨⟨rfl, .inl ⟨rfl, rfl⟩⟩, Below.refl _ _, Nat.le_refl _⟩
theorem own_lt {w : World} {B n e k : Nat} {v : Value} {xs : List Value} (h : w.ownsRow B e k v n xs) : ∀ g, v.ownBlock = some g → B ≤ g ∧ g < w.heap.size := by
  intro g hg
  rcases h.2 with ⟨rfl, _⟩ | ⟨g, cap, cur, rfl, hb, hh, _⟩
  · cases hg
  · cases hg
    exact ⟨hb, lt_of_block hh⟩
theorem own_kept {w w' : World} {B n e k : Nat} {v : Value} {xs : List Value} (h : w.ownsRow B e k v n xs) (hk : ∀ g, v.ownBlock = some g → w'.heap[g]? = w.heap[g]?) : w'.ownsRow B e k v n xs := by
  obtain ⟨h1, h2⟩ := h
  refine ⟨h1, ?_⟩
  rcases h2 with h2 | ⟨g, cap, cur, rfl, hg, hh, r⟩
  · exact Or.inl h2
  · exact Or.inr ⟨g, cap, cur, rfl, hg, (hk g rfl).trans hh, r⟩
theorem GrowP.later {B : Nat} {E : TypeId} {w w1 w2 : World} {v : Value} {ps : List Pt} (h : GrowP B E w v ps w1) (hb : Below w1.heap.size w1 w2) : GrowP B E w v ps w2 :=
  ⟨own_kept h.own (fun g hg => hb.block g (own_lt h.own g hg).2), below_more h.old hb h.low, h.low⟩
theorem GrowP.grown {B : Nat} {E : TypeId} {w w1 w2 : World} {v v2 : Value} {ps qs : List Pt} (h : GrowP B E w v ps w1) (ho : w2.ownsRow B E 2 v2 qs.length (pcells qs)) (hg : w1.grownBy w2 v.ownBlock) : GrowP B E w v2 qs w2 :=
  ⟨ho, h.old.trans ⟨hg.os, hg.tape, hg.output, hg.size, fun k hk => hg.block k (Nat.lt_of_lt_of_le hk (Nat.le_trans h.low h.old.size)) (fun e => by have := (own_lt h.own k e.symm).1; omega)⟩, h.low⟩

/-- What a call tells: points, in memory of its own. -/
def ToldP (w : World) (ps : List Pt) (e : Ending) (w' : World) : Prop :=
  ∃ aa c, e = .returned (.slice aa ps.length c) ∧ Pts w' aa ps.length ps ∧ (∀ x, aa = some x → w.heap.size ≤ x.block) ∧ ps.length ≤ c ∧ (aa = none → ps.length = 0 ∧ c = 0) ∧ Below w.heap.size w w'

end Go.Proofs.YtfcpbpfemmdklaaGreat.La

/- The document's Within, Area, Times. -/
namespace Go.Proofs.YtfcpbpfemmdklaaGreat.La
open Go.RowKit
set_option linter.unusedVariables false

/-- The sides as the document has them: each point with the next one, the last with the first. -/
def nextL : List Pt → List (Pt × Pt)
  | [] => []
  | p :: ps => chainL p (ps ++ [p])
theorem nextL_length (ps : List Pt) : (nextL ps).length = ps.length := by
  cases ps with
  | nil => rfl
  | cons p ps => rw [nextL, chainL_length, List.length_append]; rfl
theorem nextL_at {ps : List Pt} {i k : Nat} {p q : Pt} (hp : ps[i]? = some p) (hq : ps[k]? = some q) (hk : (i + 1 < ps.length ∧ k = i + 1) ∨ (i + 1 = ps.length ∧ k = 0)) : (nextL ps)[i]? = some (p, q) := by
  cases ps with
  | nil => simp at hp
  | cons h t =>
    rw [nextL]
    rw [List.length_cons] at hk
    refine chainL_at ?_ ?_
    · rcases hk with ⟨hl, rfl⟩ | ⟨hl, rfl⟩
      · rw [List.getElem?_cons_succ] at hq
        rw [List.getElem?_append_left (by omega)]
        exact hq
      · obtain rfl : i = t.length := by omega
        rw [List.getElem?_append_right (Nat.le_refl _), Nat.sub_self]
        exact hq
    · cases i with
      | zero => exact hp
      | succ i =>
        rw [List.getElem?_cons_succ] at hp ⊢
        have hil := (List.getElem?_eq_some_iff.1 hp).1
        rw [List.getElem?_append_left hil]
        exact hp

/-- How many sides the ray meets, in the document's words. -/
def docHits (ss : List (Pt × Pt)) (q : Pt) : Nat := ss.countP (metR q)
theorem docHits_more {ss : List (Pt × Pt)} {i : Nat} {s : Pt × Pt} {q : Pt} (h : ss[i]? = some s) : docHits (ss.take (i + 1)) q = docHits (ss.take i) q + (if metR q s then 1 else 0) := by
  unfold docHits
  rw [take_more h, List.countP_append, List.countP_singleton]
def docInside (ps : List Pt) (q : Pt) : Bool := decide (docHits (nextL ps) q % 2 = 1)
theorem odd_flip (m : Nat) (b : Bool) : decide ((m + (if b then 1 else 0)) % 2 = 1) = (if b then !decide (m % 2 = 1) else decide (m % 2 = 1)) := by
  cases b
  · simp
  · rcases Nat.mod_two_eq_zero_or_one m with h | h
    · have : (m + 1) % 2 = 1 := by omega
      simp [h, this]
    · have : (m + 1) % 2 = 0 := by omega
      simp [h, this]

set_option maxRecDepth 100000 in
set_option maxHeartbeats 3200000 in
theorem docWithin_any (w : World) (a : Option Addr) (n c : Nat) (ps : List Pt) (q : Pt) (h : Pts w a n ps) (hn : n ≤ 256) (hal : ps.all near = true) (hq : near q = true) :
    Calls Tryz.prog 90 #[.slice a n c, .int .i64 q.X, .int .i64 q.Y] w (Says (docInside ps q) w) := by
  have HP := Lib.hid h
  have HA := Lib.hid (And.intro hal hq)
  clear h hal hq
  go_enter Tryz.func90, Tryz.ntmps90
  go_wp2_with fail
  go_loopw [7, 8] (fun v cnt wr => ∃ (i : Nat) (b : Bool), i ≤ n ∧ cnt = .int .i64 i ∧ v = .bool b ∧ b = decide (docHits ((nextL ps).take i) q % 2 = 1) ∧ Below w.heap.size w wr) (fun _ cnt _ => n - (intOf cnt).toNat)
  case atStart => exact ⟨0, false, Nat.zero_le _, rfl, rfl, rfl, Below.refl _ _⟩
  case round =>
    obtain ⟨i, b, hi, rfl, rfl, hbb, hb⟩ := hrel
    by_cases hlt : i < n
    · have hpw := HP.out.below hb
      obtain ⟨k, hk, hkn⟩ : ∃ k, ((i + 1 < n ∧ k = i + 1) ∨ (i + 1 = n ∧ k = 0)) ∧ k < n := by
        by_cases hh : i + 1 < n
        · exact ⟨i + 1, .inl ⟨hh, rfl⟩, hh⟩
        · exact ⟨0, .inr ⟨by omega, rfl⟩, by omega⟩
      obtain ⟨bl, off, p, rfl, hp, hfp, c0, c1⟩ := hpw.at hlt
      obtain ⟨bl2, off2, p2, he, hp2, hfp2, d0, d1⟩ := hpw.at hkn
      cases he
      have hs := nextL_at hp hp2 (by rw [HP.out.1]; exact hk)
      have hm := docHits_more (q := q) hs
      have np := List.all_eq_true.1 HA.out.1 p (List.mem_of_getElem? hp)
      have np2 := List.all_eq_true.1 HA.out.1 p2 (List.mem_of_getElem? hp2)
      have hfl := odd_flip (docHits ((nextL ps).take i) q) (metR q (p, p2))
      rw [← hm, ← hbb] at hfl
      have CM := Lib.hid (met_any wr.drew p p2 q np np2 HA.out.2)
      have HF := Lib.hid hfl
      have HB := Lib.hid hb
      generalize metR q (p, p2) = m at *
      clear hs hm np np2 hfl hbb hfp hfp2 hp hp2 hpw hb
      rcases hk with ⟨hk1, hk2⟩ | ⟨hk1, rfl⟩
      · have i1 : IntKind.i64.wrap ((i : Int) + 1) = (k : Int) := by rw [wrap_i64 _ (by omega) (by omega)]; omega
        have u : ((k : Int) == (n : Int)) = false := by simp; omega
        have u2 : decide ((k : Int) = (n : Int)) = false := by simp; omega
        have u3 : (k : Int) < (n : Int) := by omega
        have u4 : (0 : Int) ≤ (k : Int) := by omega
        have HK2 := Lib.hid hk2
        clear hk1 hk2
        go_wp2
        go_still_tail 10, (by kernel_rfl)
        change wpList _ _ _ _ _ (World.drew _)
        go_wp2_with fail
        refine CM.out.mono ?_
        rintro e w1 ⟨rfl, hb1⟩
        clear i1
        have HB1 := Lib.hid (show Below w.heap.size w w1 from below_more (w1 := wr.drew) ⟨HB.out.os, HB.out.tape, HB.out.output, HB.out.size, HB.out.block⟩ hb1 (Nat.le_refl _))
        clear hb1 CM HB c0 c1 d0 d1
        cases m with
        | true =>
          go_wp2_with fail
          go_roundw
          case rel => exact ⟨i + 1, !b, hlt, by go_num, rfl, HF.out.symm, HB1.out⟩
          case measure => simp [intOf]; omega
        | false =>
          go_wp2_with fail
          go_roundw
          case rel => exact ⟨i + 1, b, hlt, by go_num, rfl, HF.out.symm, HB1.out⟩
          case measure => simp [intOf]; omega
      · have i1 : IntKind.i64.wrap ((i : Int) + 1) = (n : Int) := by rw [wrap_i64 _ (by omega) (by omega)]; omega
        have u3 : (0 : Int) < (n : Int) := by omega
        rw [Nat.zero_mul, Nat.add_zero] at d0 d1
        clear hk1
        go_wp2
        go_still_tail 10, (by kernel_rfl)
        change wpList _ _ _ _ _ (World.drew _)
        go_wp2_with fail
        refine CM.out.mono ?_
        rintro e w1 ⟨rfl, hb1⟩
        clear i1
        have HB1 := Lib.hid (show Below w.heap.size w w1 from below_more (w1 := wr.drew) ⟨HB.out.os, HB.out.tape, HB.out.output, HB.out.size, HB.out.block⟩ hb1 (Nat.le_refl _))
        clear hb1 CM HB c0 c1 d0 d1
        cases m with
        | true =>
          go_wp2_with fail
          go_roundw
          case rel => exact ⟨i + 1, !b, hlt, by go_num, rfl, HF.out.symm, HB1.out⟩
          case measure => simp [intOf]; omega
        | false =>
          go_wp2_with fail
          go_roundw
          case rel => exact ⟨i + 1, b, hlt, by go_num, rfl, HF.out.symm, HB1.out⟩
          case measure => simp [intOf]; omega
    · obtain rfl : i = n := by omega
      rw [List.take_of_length_le (by rw [nextL_length, HP.out.1]; exact Nat.le_refl _)] at hbb
      have X := Lib.hid hb
      have E := Lib.hid (show docInside ps q = b from hbb.symm)
      clear hb hbb
      go_wp2_with fail
      go_ret
      rw [E.out]
      exact ⟨rfl, X.out⟩
end Go.Proofs.YtfcpbpfemmdklaaGreat.La

/- The document's Area and Times. -/
namespace Go.Proofs.YtfcpbpfemmdklaaGreat.La
open Go.RowKit
set_option linter.unusedVariables false

/-- Twice the area, in the document's words. -/
def docAreaZ (ps : List Pt) : Int := areaL (nextL ps)
theorem nextL_near {ps : List Pt} (h : ps.all near = true) {s : Pt × Pt} (hs : s ∈ nextL ps) : near s.1 = true ∧ near s.2 = true := by
  cases ps with
  | nil => cases hs
  | cons p ps =>
    have k := chainL_mem hs
    have hall : ∀ r ∈ ps ++ [p], near r = true := by
      intro r hr
      rw [List.mem_append, List.mem_singleton] at hr
      rcases hr with hr | rfl
      · exact List.all_eq_true.1 h r (List.mem_cons_of_mem _ hr)
      · exact List.all_eq_true.1 h _ List.mem_cons_self
    refine ⟨?_, hall _ k.2⟩
    rcases k.1 with e | e
    · rw [e]; exact List.all_eq_true.1 h _ List.mem_cons_self
    · exact hall _ e
/-- A number, and the old memory as it was. -/
def SaysI (n : Int) (w : World) (e : Ending) (w' : World) : Prop := e = .returned (.int .i64 n) ∧ Below w.heap.size w w'

/-- The document's product of two points, plus a third. -/
def timesZ (p q r : Pt) : Pt := ⟨p.X * q.X - p.Y * q.Y + r.X, p.X * q.Y + p.Y * q.X + r.Y⟩
theorem times_fits {p q r : Pt} (hp : near p = true) (hq : near q = true) (hr : near r = true) : (timesZ p q r).X.natAbs ≤ 2 ^ 42 ∧ (timesZ p q r).Y.natAbs ≤ 2 ^ 42 := by
  have hp := near_iff.1 hp
  have hq := near_iff.1 hq
  have hr := near_iff.1 hr
  have b1 := mul_coord (a := p.X) (b := q.X) (by omega) (by omega)
  have b2 := mul_coord (a := p.Y) (b := q.Y) (by omega) (by omega)
  have b3 := mul_coord (a := p.X) (b := q.Y) (by omega) (by omega)
  have b4 := mul_coord (a := p.Y) (b := q.X) (by omega) (by omega)
  have e : (2 : Nat) ^ 42 = 4 * 2 ^ 40 := by decide
  unfold timesZ
  simp only
  omega
end Go.Proofs.YtfcpbpfemmdklaaGreat.La

/- Turn. -/
namespace Go.Proofs.YtfcpbpfemmdklaaGreat.La
open Go.RowKit
set_option linter.unusedVariables false

/-- A shape turned. -/
def turned (ps : List Pt) (q r : Pt) : List Pt := ps.map (fun p => timesZ p q r)
def pv (p : Pt) : Value × Value := (.int .i64 p.X, .int .i64 p.Y)
theorem turn_bits {p q r : Pt} (hp : near p = true) (hq : near q = true) (hr : near r = true) :
    ∃ u v x y, cMulBits (fb p.X) (fb p.Y) (fb q.X) (fb q.Y) = some (u, v) ∧ cSumBits .add .f64 u v (fb r.X) (fb r.Y) = some (x, y) ∧ floatToIntVal .f64 x .i64 = some (timesZ p q r).X ∧ floatToIntVal .f64 y .i64 = some (timesZ p q r).Y := by
  have t := times_fits hp hq hr
  have e : (2 : Nat) ^ 53 = 2048 * 2 ^ 42 := by decide
  have a1 := near_iff.1 hp
  have a2 := near_iff.1 hq
  have a3 := near_iff.1 hr
  have b1 := mul_coord (a := p.X) (b := q.X) (by omega) (by omega)
  have b2 := mul_coord (a := p.Y) (b := q.Y) (by omega) (by omega)
  have b3 := mul_coord (a := p.X) (b := q.Y) (by omega) (by omega)
  have b4 := mul_coord (a := p.Y) (b := q.X) (by omega) (by omega)
  have e2 : (2 : Nat) ^ 52 = 4096 * 2 ^ 40 := by decide
  unfold near at hp hq hr
  rw [Bool.and_eq_true] at hp hq hr
  obtain ⟨u, v, h1, f1, f2⟩ := cmul (fb_fl hp.1) (fb_fl hp.2) (fb_fl hq.1) (fb_fl hq.2) (by omega) (by omega) (by omega) (by omega)
  obtain ⟨x, y, h2, g1, g2⟩ := cadd f1 f2 (fb_fl hr.1) (fb_fl hr.2) (by unfold timesZ at t; simp only at t; omega) (by unfold timesZ at t; simp only at t; omega)
  exact ⟨u, v, x, y, h1, h2, g1.toInt (by unfold timesZ at t; simp only at t; omega), g2.toInt (by unfold timesZ at t; simp only at t; omega)⟩

theorem run_make_points (k : Nat) (hk : k ≤ 256) (w : World) : (Instr.makeSlice 34 (.int .i64 (k : Int)) (.int .i64 (k : Int))).run Tryz.prog w = .ok (.slice (some ⟨w.heap.size, 0, none⟩) k k) (w.alloc (.cells (madeCells #[.int .i64 0, .int .i64 0] (k * 2)) 80)) := by
  obtain ⟨i, hi, hzz⟩ := Option.map_eq_some_iff.1 info37
  simp only [Prod.mk.injEq] at hzz
  obtain ⟨hz, hs, hb⟩ := hzz
  have hr := run_make (P := Tryz.prog) w 34 80 i _ Tryz.underlying34 hi hz .i64 .i64 k k (by omega) (Int.le_refl _) (by rw [hb]; omega) (by omega)
  simp only [Int.toNat_natCast, hs] at hr
  exact hr
theorem Row2.pts {w : World} {g n : Nat} {ps : List Pt} (h : Row2 w g n n 80 (ps.map pv)) (hl : ps.length = n) (hf : ∀ p ∈ ps, Fits p) : Pts w (some ⟨g, 0, none⟩) n ps := by
  refine ⟨hl, hf, fun _ => ⟨g, 0, rfl, fun i p hp => ?_⟩⟩
  have hi : i < n := by have := (List.getElem?_eq_some_iff.1 hp).1; omega
  have k := h.at hi (by rw [List.getElem?_map, hp]; rfl)
  rw [Nat.zero_add]
  exact k

/-- What Turn tells when it refuses. -/
def Refused (w : World) (e : Ending) (w' : World) : Prop := e = .returned (.tuple #[.slice none 0 0, .int .i64 31]) ∧ Below w.heap.size w w'
/-- What it tells else: points, in memory of its own. -/
def ToldT (w : World) (ps : List Pt) (e : Ending) (w' : World) : Prop :=
  ∃ g, e = .returned (.tuple #[.slice (some ⟨g, 0, none⟩) ps.length ps.length, .int .i64 0]) ∧ Pts w' (some ⟨g, 0, none⟩) ps.length ps ∧ w.heap.size ≤ g ∧ Below w.heap.size w w'

theorem two_points (w : World) (p q : Pt) (hp : Fits p) (hq : Fits q) : Pts (w.alloc (.cells #[.int .i64 p.X, .int .i64 p.Y, .int .i64 q.X, .int .i64 q.Y] 80)) (some ⟨w.heap.size, 0, none⟩) 2 [p, q] :=
  pts_lit w #[.int .i64 p.X, .int .i64 p.Y, .int .i64 q.X, .int .i64 q.Y] 80 [p, q] rfl (by
    intro r hr
    simp only [List.mem_cons, List.not_mem_nil, or_false] at hr
    rcases hr with rfl | rfl
    · exact hp
    · exact hq)

/-- The six cells that Turn's body reads. -/
def Boxes (w : World) (B : Nat) (q r : Pt) : Prop :=
  w.cell? ⟨B, 0, none⟩ = some (.int .i64 q.X) ∧ w.cell? ⟨B, 1, none⟩ = some (.int .i64 q.Y) ∧ w.cell? ⟨B + 1, 0, none⟩ = some (.int .i64 r.X) ∧ w.cell? ⟨B + 1, 1, none⟩ = some (.int .i64 r.Y)
theorem Boxes.below {w w' : World} {B : Nat} {q r : Pt} (h : Boxes w B q r) (hb : Below w.heap.size w w') : Boxes w' B q r :=
  ⟨cell_keep h.1 hb, cell_keep h.2.1 hb, cell_keep h.2.2.1 hb, cell_keep h.2.2.2 hb⟩
theorem boxes_new (w : World) (q r : Pt) : Boxes ((w.alloc (.cells #[.int .i64 q.X, .int .i64 q.Y] 80)).alloc (.cells #[.int .i64 r.X, .int .i64 r.Y] 80)) w.heap.size q r := by
  have o1 := one_pt w q 80
  have o2 := one_pt (w.alloc (.cells #[.int .i64 q.X, .int .i64 q.Y] 80)) r 80
  have hs : (w.alloc (.cells #[.int .i64 q.X, .int .i64 q.Y] 80)).heap.size = w.heap.size + 1 := by simp
  rw [hs] at o2
  have b : Below (w.alloc (.cells #[.int .i64 q.X, .int .i64 q.Y] 80)).heap.size (w.alloc (.cells #[.int .i64 q.X, .int .i64 q.Y] 80)) ((w.alloc (.cells #[.int .i64 q.X, .int .i64 q.Y] 80)).alloc (.cells #[.int .i64 r.X, .int .i64 r.Y] 80)) := (Below.refl _ _).alloc (Nat.le_refl _) _
  exact ⟨cell_keep o1.1 b, cell_keep o1.2 b, o2.1, o2.2⟩

end Go.Proofs.YtfcpbpfemmdklaaGreat.La

/- Turn's loop. -/
namespace Go.Proofs.YtfcpbpfemmdklaaGreat.La
open Go.RowKit
set_option linter.unusedVariables false

/-- What Turn tells of a shape. -/
def TurnSays (ok : Bool) (w : World) (ts : List Pt) (e : Ending) (w' : World) : Prop := if ok then ToldT w ts e w' else Refused w e w'
theorem turn_ok {w : World} {ts : List Pt} {e : Ending} {w' : World} (h : ToldT w ts e w') : TurnSays true w ts e w' := h
theorem turn_bad {w : World} {ts : List Pt} {e : Ending} {w' : World} (h : Refused w e w') : TurnSays false w ts e w' := h
/-- What lies there while Turn's loop goes: its own row, so far; the old memory. -/
def Held (w : World) (g n i : Nat) (vs : List (Value × Value)) (w' : World) : Prop := Row2 w' g n i 80 vs ∧ Below w.heap.size w w' ∧ w.heap.size + 1 < g
theorem Held.below {w w1 w2 : World} {g n i : Nat} {vs : List (Value × Value)} (h : Held w g n i vs w1) (hb : Below w1.heap.size w1 w2) : Held w g n i vs w2 :=
  ⟨h.1.below hb, below_more h.2.1 hb (Nat.le_refl _), h.2.2⟩
theorem Held.drew {w w1 : World} {g n i : Nat} {vs : List (Value × Value)} (h : Held w g n i vs w1) : Held w g n i vs w1.drew :=
  h.below ⟨rfl, rfl, rfl, Nat.le_refl _, fun _ _ => rfl⟩
theorem Row2.keep {w : World} {g n i k : Nat} {ty : TypeId} {vs : List (Value × Value)} (h : Row2 w g n i ty vs) (hk : i * 2 ≤ k) (u : Value) : Row2 (w.setCell ⟨g, k, none⟩ u) g n i ty vs := by
  obtain ⟨cur, h1, h2, h3⟩ := h
  refine ⟨_, block_set h1 _, by simpa using h2, fun j v hj hv => ?_⟩
  obtain ⟨k1, k2⟩ := h3 j v hj hv
  exact ⟨by rw [Array.getElem?_setIfInBounds_ne (by omega)]; exact k1, by rw [Array.getElem?_setIfInBounds_ne (by omega)]; exact k2⟩
theorem Held.store {w w1 : World} {g n i : Nat} {vs : List (Value × Value)} (h : Held w g n i vs w1) (x y : Value) : Held w g n i vs ((w1.setCell ⟨g, i * 2, none⟩ x).setCell ⟨g, i * 2 + 1, none⟩ y) :=
  ⟨(h.1.keep (Nat.le_refl _) x).keep (Nat.le_succ _) y, below_set2 h.2.1 (by have := h.2.2; omega) x y, h.2.2⟩
theorem cell_set2 {w : World} {b o g i j : Nat} {v x y : Value} (h : w.cell? ⟨b, o, none⟩ = some v) (hb : b ≠ g) : ((w.setCell ⟨g, i, none⟩ x).setCell ⟨g, j, none⟩ y).cell? ⟨b, o, none⟩ = some v :=
  (World.cell?_of_block (w := w) ((Below.heap_setCell _ _ _ _ (by simpa using hb)).trans (Below.heap_setCell _ _ _ _ (by simpa using hb)))).trans h
/-- The condition on the world for the region. -/
def Six (B P : Nat) (p q r : Pt) (w' : World) : Prop :=
  w'.cell? ⟨P, 0, none⟩ = some (.int .i64 p.X) ∧ w'.cell? ⟨P, 1, none⟩ = some (.int .i64 p.Y) ∧ Boxes w' B q r

end Go.Proofs.YtfcpbpfemmdklaaGreat.La

/- The document's example, as the laws ask it first. -/
namespace Go.Proofs.YtfcpbpfemmdklaaGreat.La
open Go.RowKit
set_option linter.unusedVariables false

/-- A law's end: true, and the old memory as it was. -/
def Yes (w : World) (e : Ending) (w' : World) : Prop := e = .returned (.bool true) ∧ Below w.heap.size w w'
def ex : List Pt := [⟨0, 0⟩, ⟨4, 0⟩, ⟨4, 3⟩, ⟨0, 3⟩]
theorem ex_shape : shape ex = true := by decide +kernel
theorem ex_area : areaZ ex = 24 := by decide +kernel
theorem ex_in : insideB ex ⟨3, 2⟩ = true := by decide +kernel
theorem ex_fits : ∀ p ∈ ex, Fits p := by
  intro p hp
  simp only [ex, List.mem_cons, List.not_mem_nil, or_false] at hp
  rcases hp with rfl | rfl | rfl | rfl <;> (unfold Fits; simp)
theorem ex_near : (shape ex && (near ⟨0, 1⟩ && near ⟨0, 0⟩) && (turned ex ⟨0, 1⟩ ⟨0, 0⟩).all near) = true := by decide +kernel
theorem ex_turned : (turned ex ⟨0, 1⟩ ⟨0, 0⟩)[2]? = some ⟨-3, 4⟩ := rfl
theorem ex_length : (turned ex ⟨0, 1⟩ ⟨0, 0⟩).length = 4 := by decide +kernel

end Go.Proofs.YtfcpbpfemmdklaaGreat.La

/- The program's sides and the document's: the same rays met, the same area. -/
namespace Go.Proofs.YtfcpbpfemmdklaaGreat.La
open Go.RowKit
set_option linter.unusedVariables false

theorem tdiv_pos (A S : Int) (hS : 1 ≤ S) : 0 < (A + S - 1).tdiv S ↔ 0 < A := by
  constructor
  · intro h
    rcases Int.lt_or_le 0 A with h0 | h0
    · exact h0
    · exfalso
      rcases Int.le_total 0 (A + S - 1) with h1 | h1
      · rw [Int.tdiv_eq_ediv_of_nonneg h1, Int.ediv_eq_zero_of_lt h1 (by omega)] at h
        omega
      · obtain ⟨m, hm⟩ : ∃ m, m = -(A + S - 1) := ⟨_, rfl⟩
        have e : A + S - 1 = -m := by omega
        rw [e, Int.neg_tdiv] at h
        have := Int.tdiv_nonneg (a := m) (b := S) (by omega) (by omega)
        omega
  · intro h
    rw [Int.tdiv_eq_ediv_of_nonneg (by omega)]
    exact Int.lt_of_lt_of_le (by decide) ((Int.le_ediv_iff_mul_le (show 0 < S by omega)).2 (show 1 * S ≤ A + S - 1 by omega))
theorem halfZ_pos {l u q : Pt} (hl : l.Y ≤ q.Y) (hu : q.Y < u.Y) : 0 < halfZ l u q ↔ 0 < aheadZ l u q := by
  unfold halfZ
  rw [if_neg (by omega)]
  have hS : 1 ≤ stepZ l u := by unfold stepZ; omega
  rw [← tdiv_pos (aheadZ l u q) (stepZ l u) hS]
  omega
theorem ahead_n (a b q : Pt) : nZ q a b = aheadZ a b q := by
  unfold nZ aheadZ
  grind
theorem ahead_back (a b q : Pt) : aheadZ b a q = - aheadZ a b q := by
  unfold aheadZ
  grind
theorem met_same (q : Pt) (s : Pt × Pt) : metB q s = metR q s := by
  obtain ⟨a, b⟩ := s
  unfold metB metR reachZ
  simp only
  by_cases h1 : q.Y < a.Y
  · rw [if_pos h1]
    by_cases h2 : q.Y < b.Y
    · rw [if_pos h2]
      have z1 : halfZ b a q = 0 := by unfold halfZ; rw [if_pos (.inl h2)]
      have z2 : halfZ a b q = 0 := by unfold halfZ; rw [if_pos (.inl h1)]
      rw [z1, z2]
      simp
    · rw [if_neg h2, if_pos (show b.Y < a.Y by omega)]
      have k := halfZ_pos (l := b) (u := a) (q := q) (by omega) h1
      rw [ahead_back a b q, ← ahead_n a b q] at k
      by_cases h3 : nZ q a b < 0
      · have : 0 < halfZ b a q := k.2 (by omega)
        simp [h3, this]
      · have : ¬ 0 < halfZ b a q := fun h => by have := k.1 h; omega
        simp [h3, this]
  · rw [if_neg h1]
    by_cases h2 : q.Y < b.Y
    · rw [if_pos h2, if_neg (show ¬ b.Y < a.Y by omega)]
      have k := halfZ_pos (l := a) (u := b) (q := q) (by omega) h2
      rw [← ahead_n a b q] at k
      by_cases h3 : 0 < nZ q a b
      · have : 0 < halfZ a b q := k.2 h3
        simp [h3, this]
      · have : ¬ 0 < halfZ a b q := fun h => h3 (k.1 h)
        simp [h3, this]
    · rw [if_neg h2]
      have z1 : halfZ b a q = 0 := by unfold halfZ; rw [if_pos (.inr (by omega))]
      have z2 : halfZ a b q = 0 := by unfold halfZ; rw [if_pos (.inr (by omega))]
      rw [z1, z2]
      simp

theorem chainL_append (p : Pt) (xs : List Pt) (y : Pt) : chainL p (xs ++ [y]) = chainL p xs ++ [(lastPt (p :: xs), y)] := by
  induction xs generalizing p with
  | nil => rfl
  | cons x xs ih =>
    rw [List.cons_append, chainL, chainL, ih, List.cons_append]
    have : lastPt (p :: x :: xs) = lastPt (x :: xs) := by unfold lastPt; rw [List.getLast?_cons_cons]
    rw [this]
/-- The document's sides are the program's, begun one further on. -/
theorem next_sides (p : Pt) (ps : List Pt) : nextL (p :: ps) = chainL p ps ++ [(lastPt (p :: ps), p)] ∧ sidesL (p :: ps) = (lastPt (p :: ps), p) :: chainL p ps :=
  ⟨chainL_append p ps p, rfl⟩
theorem count_same (f : Pt × Pt → Bool) (ps : List Pt) : (nextL ps).countP f = (sidesL ps).countP f := by
  cases ps with
  | nil => rfl
  | cons p ps =>
    rw [(next_sides p ps).1, (next_sides p ps).2, List.countP_append, List.countP_singleton, List.countP_cons]
theorem area_same (ps : List Pt) : docAreaZ ps = areaZ ps := by
  unfold docAreaZ areaZ
  cases ps with
  | nil => rfl
  | cons p ps =>
    rw [(next_sides p ps).1, (next_sides p ps).2, areaL_append, areaL, areaL, areaL]; omega
theorem inside_same (ps : List Pt) (q : Pt) : docInside ps q = insideB ps q := by
  unfold docInside insideB docHits hits
  rw [count_same]
  have : metB q = metR q := funext fun s => met_same q s
  rw [this]
end Go.Proofs.YtfcpbpfemmdklaaGreat.La

/- Box. -/
namespace Go.Proofs.YtfcpbpfemmdklaaGreat.La
open Go.RowKit
set_option linter.unusedVariables false

theorem results_tmp5 {fn : Func} {t u v x y : Tmp} (h : fn.results = #[.tmp t, .tmp u, .tmp v, .tmp x, .tmp y]) (tmps : Array Value) (P : Program) (w : World) :
    (results fn tmps).run P w = .ok (.tuple #[tmps.getD t undef, tmps.getD u undef, tmps.getD v undef, tmps.getD x undef, tmps.getD y undef]) w := by
  simp [results, h]
/-- Five numbers, and the old memory as it was. -/
def Says5 (x y dx dy c : Int) (w : World) (e : Ending) (w' : World) : Prop := e = .returned (.tuple #[.int .i64 x, .int .i64 y, .int .i64 dx, .int .i64 dy, .int .i64 c]) ∧ Below w.heap.size w w'

/-- The least and greatest numbers of points. -/
structure Bnd (ps : List Pt) (lx ly mx my : Int) : Prop where
  all : ∀ p ∈ ps, (lx ≤ p.X ∧ p.X ≤ mx) ∧ (ly ≤ p.Y ∧ p.Y ≤ my)
  left : ∃ p ∈ ps, p.X = lx
  top : ∃ p ∈ ps, p.Y = ly
  right : ∃ p ∈ ps, p.X = mx
  low : ∃ p ∈ ps, p.Y = my
theorem Bnd.one (p : Pt) : Bnd [p] p.X p.Y p.X p.Y :=
  ⟨fun q hq => by rw [List.mem_singleton] at hq; subst hq; exact ⟨⟨Int.le_refl _, Int.le_refl _⟩, ⟨Int.le_refl _, Int.le_refl _⟩⟩, ⟨p, List.mem_singleton_self _, rfl⟩, ⟨p, List.mem_singleton_self _, rfl⟩, ⟨p, List.mem_singleton_self _, rfl⟩, ⟨p, List.mem_singleton_self _, rfl⟩⟩
theorem Bnd.more {ps : List Pt} {lx ly mx my l2 k2 m2 n2 : Int} (h : Bnd ps lx ly mx my) (p : Pt) (h1 : (if p.X < lx then p.X else lx) = l2) (h2 : (if p.Y < ly then p.Y else ly) = k2) (h3 : (if mx < p.X then p.X else mx) = m2) (h4 : (if my < p.Y then p.Y else my) = n2) : Bnd (ps ++ [p]) l2 k2 m2 n2 := by
  have old : ∀ {P : Pt → Prop}, (∃ q ∈ ps, P q) → ∃ q ∈ ps ++ [p], P q := fun ⟨q, hq, hp⟩ => ⟨q, List.mem_append_left _ hq, hp⟩
  have new : ∀ {P : Pt → Prop}, P p → ∃ q ∈ ps ++ [p], P q := fun hp => ⟨p, List.mem_append_right _ (List.mem_singleton_self _), hp⟩
  refine ⟨fun q hq => ?_, ?_, ?_, ?_, ?_⟩
  · rw [List.mem_append, List.mem_singleton] at hq
    rcases hq with hq | rfl
    · have k := h.all q hq
      split at h1 <;> split at h2 <;> split at h3 <;> split at h4 <;> omega
    · split at h1 <;> split at h2 <;> split at h3 <;> split at h4 <;> omega
  · split at h1
    · exact new h1
    · rw [← h1]; exact old h.left
  · split at h2
    · exact new h2
    · rw [← h2]; exact old h.top
  · split at h3
    · exact new h3
    · rw [← h3]; exact old h.right
  · split at h4
    · exact new h4
    · rw [← h4]; exact old h.low
theorem Bnd.same {ps qs : List Pt} {lx ly mx my : Int} (h : Bnd ps lx ly mx my) (hm : ∀ p, p ∈ ps ↔ p ∈ qs) : Bnd qs lx ly mx my := by
  have k : ∀ {P : Pt → Prop}, (∃ q ∈ ps, P q) → ∃ q ∈ qs, P q := fun ⟨q, hq, hp⟩ => ⟨q, (hm q).1 hq, hp⟩
  exact ⟨fun p hp => h.all p ((hm p).2 hp), k h.left, k h.top, k h.right, k h.low⟩

/-- A box of two numbers of the call's own. -/
def Box2 (w : World) (A : Nat) (x y : Int) : Prop := w.heap[A]? = some (.cells #[.int .i64 x, .int .i64 y] 80 (0, 0))
theorem Box2.cells {w : World} {A : Nat} {x y : Int} (h : Box2 w A x y) : (w.cell? ⟨A, 0, none⟩ = some (.int .i64 x) ∧ w.cell? ⟨A, 1, none⟩ = some (.int .i64 y)) ∧ (w.frozen? ⟨A, 0, none⟩ = false ∧ w.frozen? ⟨A, 1, none⟩ = false) := by
  unfold Box2 at h
  exact ⟨⟨by simp [World.cell?, h], by simp [World.cell?, h]⟩, by simp [World.frozen?, h], by simp [World.frozen?, h]⟩
theorem Box2.below {w w' : World} {A : Nat} {x y : Int} (h : Box2 w A x y) (hb : Below w.heap.size w w') : Box2 w' A x y := (hb.block A (lt_of_block h)).trans h
theorem Box2.set {w : World} {A : Nat} {x y : Int} (h : Box2 w A x y) (u v : Int) : Box2 ((w.setCell ⟨A, 0, none⟩ (.int .i64 u)).setCell ⟨A, 1, none⟩ (.int .i64 v)) A u v := by
  have := block_set (block_set (show w.heap[A]? = some (.cells #[.int .i64 x, .int .i64 y] 80 (0, 0)) from h) (i := 0) (.int .i64 u)) (i := 1) (.int .i64 v)
  unfold Box2
  simpa using this
theorem Box2.set_other {w : World} {A B : Nat} {x y : Int} (h : Box2 w A x y) (hAB : A ≠ B) (u v : Value) : Box2 ((w.setCell ⟨B, 0, none⟩ u).setCell ⟨B, 1, none⟩ v) A x y :=
  (Below.heap_setCell _ _ _ _ (by simpa using hAB)).trans ((Below.heap_setCell _ _ _ _ (by simpa using hAB)).trans h)
/-- The two boxes of the loop. -/
structure TwoB (w : World) (A B : Nat) (lx ly mx my : Int) (w' : World) : Prop where
  one : Box2 w' A lx ly
  two : Box2 w' B mx my
  old : Below w.heap.size w w'
theorem TwoB.below {w w1 w2 : World} {A B : Nat} {lx ly mx my : Int} (h : TwoB w A B lx ly mx my w1) (hb : Below w1.heap.size w1 w2) : TwoB w A B lx ly mx my w2 :=
  ⟨h.one.below hb, h.two.below hb, below_more h.old hb (Nat.le_refl _)⟩
theorem two_set {w w' : World} {A B : Nat} {lx ly mx my : Int} (h : TwoB w A B lx ly mx my w') (hAB : A ≠ B) (hA : w.heap.size ≤ A) (hB : w.heap.size ≤ B) {a b c d : Int} :
    TwoB w A B a b c d ((((w'.setCell ⟨A, 0, none⟩ (.int .i64 a)).setCell ⟨A, 1, none⟩ (.int .i64 b)).setCell ⟨B, 0, none⟩ (.int .i64 c)).setCell ⟨B, 1, none⟩ (.int .i64 d)) :=
  ⟨(h.one.set a b).set_other hAB _ _, (h.two.set_other hAB.symm _ _).set c d, below_set2 (below_set2 h.old hA _ _) hB _ _⟩
theorem Bnd.near {ps : List Pt} {lx ly mx my : Int} (h : Bnd ps lx ly mx my) (hn : ps.all near = true) : (-1048576 ≤ lx ∧ lx ≤ 1048576) ∧ (-1048576 ≤ ly ∧ ly ≤ 1048576) ∧ (-1048576 ≤ mx ∧ mx ≤ 1048576) ∧ (-1048576 ≤ my ∧ my ≤ 1048576) := by
  have k : ∀ p ∈ ps, _ := fun p hp => near_iff.1 (List.all_eq_true.1 hn p hp)
  obtain ⟨p, hp, e1⟩ := h.left
  obtain ⟨q, hq, e2⟩ := h.top
  obtain ⟨r, hr, e3⟩ := h.right
  obtain ⟨s, hs, e4⟩ := h.low
  have k1 := k p hp
  have k2 := k q hq
  have k3 := k r hr
  have k4 := k s hs
  omega
theorem two_new (w : World) (x y : Int) : (Box2 ((w.alloc (.cells #[.int .i64 x, .int .i64 y] 80)).alloc (.cells #[.int .i64 x, .int .i64 y] 80)).drew w.heap.size x y ∧ Box2 ((w.alloc (.cells #[.int .i64 x, .int .i64 y] 80)).alloc (.cells #[.int .i64 x, .int .i64 y] 80)).drew (w.heap.size + 1) x y) ∧ Below w.heap.size w ((w.alloc (.cells #[.int .i64 x, .int .i64 y] 80)).alloc (.cells #[.int .i64 x, .int .i64 y] 80)).drew := by
  have h1 : Box2 (w.alloc (.cells #[.int .i64 x, .int .i64 y] 80)) w.heap.size x y := heap_alloc_new _ _
  have h2 : Box2 ((w.alloc (.cells #[.int .i64 x, .int .i64 y] 80)).alloc (.cells #[.int .i64 x, .int .i64 y] 80)) (w.heap.size + 1) x y := by
    have := heap_alloc_new (w.alloc (.cells #[.int .i64 x, .int .i64 y] 80)) (.cells #[.int .i64 x, .int .i64 y] 80)
    unfold Box2
    simpa using this
  have b2 : Below (w.alloc (.cells #[.int .i64 x, .int .i64 y] 80)).heap.size (w.alloc (.cells #[.int .i64 x, .int .i64 y] 80)) ((w.alloc (.cells #[.int .i64 x, .int .i64 y] 80)).alloc (.cells #[.int .i64 x, .int .i64 y] 80)) := (Below.refl _ _).alloc (Nat.le_refl _) _
  have b1 : Below w.heap.size w (w.alloc (.cells #[.int .i64 x, .int .i64 y] 80)) := (Below.refl _ _).alloc (Nat.le_refl _) _
  have b3 := below_more b1 b2 (Nat.le_refl _)
  exact ⟨⟨show Box2 _ _ _ _ from (h1.below b2 : Box2 ((w.alloc (.cells #[.int .i64 x, .int .i64 y] 80)).alloc (.cells #[.int .i64 x, .int .i64 y] 80)) w.heap.size x y), h2⟩, ⟨b3.os, b3.tape, b3.output, b3.size, b3.block⟩⟩

/-- What Box tells of a shape. -/
def BoxSays (w : World) (ps : List Pt) (e : Ending) (w' : World) : Prop :=
  ∃ lx ly mx my, Bnd ps lx ly mx my ∧ Says5 lx ly (mx - lx) (my - ly) 0 w e w'

end Go.Proofs.YtfcpbpfemmdklaaGreat.La

/- What lies within lies in the box. -/
namespace Go.Proofs.YtfcpbpfemmdklaaGreat.La
open Go.RowKit
set_option linter.unusedVariables false

theorem lastPt_cons {p : Pt} {ps : List Pt} (h : ps ≠ []) : lastPt (p :: ps) = lastPt ps := by
  cases ps with
  | nil => exact absurd rfl h
  | cons q qs => unfold lastPt; rw [List.getLast?_cons_cons]
theorem lastPt_one (p : Pt) : lastPt [p] = p := rfl
theorem lastPt_mem {ps : List Pt} (h : ps ≠ []) : lastPt ps ∈ ps := by
  have : 0 < ps.length := by cases ps with | nil => exact absurd rfl h | cons q qs => simp
  exact List.mem_of_getElem? (last_at (ps := ps) rfl this)
/-- Along a chain of points what is one way or the other turns an even number of times if it ends as it began. -/
theorem par_chain (u : Pt → Bool) (p : Pt) (ps : List Pt) : (chainL p ps).countP (fun s => u s.1 != u s.2) % 2 = if u p == u (lastPt (p :: ps)) then 0 else 1 := by
  induction ps generalizing p with
  | nil => simp [chainL, lastPt_one]
  | cons q qs ih =>
    rw [chainL, List.countP_cons, lastPt_cons (by simp)]
    have k := ih q
    generalize (chainL q qs).countP (fun s => u s.1 != u s.2) = m at *
    cases h1 : u p <;> cases h2 : u q <;> cases h3 : u (lastPt (q :: qs)) <;> rw [h2, h3] at k <;> simp at k ⊢ <;> omega
theorem par_sides (u : Pt → Bool) (ps : List Pt) : (sidesL ps).countP (fun s => u s.1 != u s.2) % 2 = 0 := by
  cases ps with
  | nil => rfl
  | cons p ps =>
    unfold sidesL
    rw [par_chain, lastPt_cons (p := lastPt (p :: ps)) (ps := p :: ps) (by simp)]
    simp
theorem neg_mul_neg {a b : Int} (ha : a < 0) (hb : b < 0) : 0 < a * b := Int.mul_pos_of_neg_of_neg ha hb
theorem neg_mul_pos {a b : Int} (ha : a < 0) (hb : 0 < b) : a * b < 0 := Int.mul_neg_of_neg_of_pos ha hb
/-- A side that lies to the left isn't met. -/
theorem left_no {q a b : Pt} (ha : a.X ≤ q.X) (hb : b.X ≤ q.X) : metR q (a, b) = false := by
  unfold metR
  simp only
  by_cases h1 : q.Y < a.Y
  · rw [if_pos h1]
    by_cases h2 : q.Y < b.Y
    · rw [if_pos h2]
    · rw [if_neg h2, ahead_n]
      have k1 := neg_mul_neg (a := 2 * b.Y - (2 * q.Y + 1)) (b := 2 * a.X - (2 * q.X + 1)) (by omega) (by omega)
      have k2 := neg_mul_pos (a := 2 * b.X - (2 * q.X + 1)) (b := 2 * a.Y - (2 * q.Y + 1)) (by omega) (by omega)
      have e : aheadZ a b q = (2 * b.Y - (2 * q.Y + 1)) * (2 * a.X - (2 * q.X + 1)) - (2 * b.X - (2 * q.X + 1)) * (2 * a.Y - (2 * q.Y + 1)) := by unfold aheadZ; grind
      simp
      omega
  · rw [if_neg h1]
    by_cases h2 : q.Y < b.Y
    · rw [if_pos h2, ahead_n]
      have k1 := neg_mul_pos (a := 2 * a.X - (2 * q.X + 1)) (b := 2 * b.Y - (2 * q.Y + 1)) (by omega) (by omega)
      have k2 := neg_mul_neg (a := 2 * a.Y - (2 * q.Y + 1)) (b := 2 * b.X - (2 * q.X + 1)) (by omega) (by omega)
      unfold aheadZ
      simp
      omega
    · rw [if_neg h2]
/-- A side that lies to the right is met where its ends are not on one side. -/
theorem right_met {q a b : Pt} (ha : q.X < a.X) (hb : q.X < b.X) : metR q (a, b) = (decide (q.Y < a.Y) != decide (q.Y < b.Y)) := by
  unfold metR
  simp only
  by_cases h1 : q.Y < a.Y
  · rw [if_pos h1]
    by_cases h2 : q.Y < b.Y
    · rw [if_pos h2]; simp [h1, h2]
    · rw [if_neg h2, ahead_n]
      have k1 := neg_mul_pos (a := 2 * b.Y - (2 * q.Y + 1)) (b := 2 * a.X - (2 * q.X + 1)) (by omega) (by omega)
      have k2 := Int.mul_pos (a := 2 * b.X - (2 * q.X + 1)) (b := 2 * a.Y - (2 * q.Y + 1)) (by omega) (by omega)
      have e : aheadZ a b q = (2 * b.Y - (2 * q.Y + 1)) * (2 * a.X - (2 * q.X + 1)) - (2 * b.X - (2 * q.X + 1)) * (2 * a.Y - (2 * q.Y + 1)) := by unfold aheadZ; grind
      have : aheadZ a b q < 0 := by omega
      simp [h1, h2, this]
  · rw [if_neg h1]
    by_cases h2 : q.Y < b.Y
    · rw [if_pos h2, ahead_n]
      have k1 := Int.mul_pos (a := 2 * a.X - (2 * q.X + 1)) (b := 2 * b.Y - (2 * q.Y + 1)) (by omega) (by omega)
      have k2 := neg_mul_pos (a := 2 * a.Y - (2 * q.Y + 1)) (b := 2 * b.X - (2 * q.X + 1)) (by omega) (by omega)
      have : 0 < aheadZ a b q := by unfold aheadZ; omega
      simp [h1, h2, this]
    · rw [if_neg h2]; simp [h1, h2]
theorem met_height {q a b : Pt} (h : metR q (a, b) = true) : (a.Y ≤ q.Y ∧ q.Y < b.Y) ∨ (b.Y ≤ q.Y ∧ q.Y < a.Y) := by
  unfold metR at h
  simp only at h
  split at h
  · split at h
    · cases h
    · exact .inr ⟨by omega, by assumption⟩
  · split at h
    · exact .inl ⟨by omega, by assumption⟩
    · cases h
theorem sides_mem {ps : List Pt} {s : Pt × Pt} (h : s ∈ sidesL ps) : s.1 ∈ ps ∧ s.2 ∈ ps := by
  have hne : ps ≠ [] := by rintro rfl; simp [sidesL, chainL] at h
  have k := chainL_mem h
  refine ⟨?_, k.2⟩
  rcases k.1 with e | e
  · rw [e]; exact lastPt_mem hne
  · exact e
theorem inside_box {ps : List Pt} {q : Pt} {lx ly mx my : Int} (hb : Bnd ps lx ly mx my) (h : insideB ps q = true) : (lx ≤ q.X ∧ q.X < mx) ∧ (ly ≤ q.Y ∧ q.Y < my) := by
  have e : metB q = metR q := funext fun s => met_same q s
  unfold insideB hits at h
  rw [e, decide_eq_true_eq] at h
  have hex : ∃ s ∈ sidesL ps, metR q s = true := by
    have : 0 < (sidesL ps).countP (metR q) := by omega
    exact List.countP_pos_iff.1 this
  obtain ⟨⟨a, b⟩, hs, hm⟩ := hex
  have ms := sides_mem hs
  have ka := hb.all a ms.1
  have kb := hb.all b ms.2
  have hy := met_height hm
  refine ⟨⟨?_, ?_⟩, by omega, by omega⟩
  · rcases Int.lt_or_le q.X lx with hlt | hge
    · exfalso
      have hc : (sidesL ps).countP (metR q) = (sidesL ps).countP (fun s => decide (q.Y < s.1.Y) != decide (q.Y < s.2.Y)) := by
        apply List.countP_congr
        rintro ⟨c, d⟩ hcd
        have mc := sides_mem hcd
        have kc := hb.all c mc.1
        have kd := hb.all d mc.2
        rw [right_met (by omega) (by omega)]
      have k := par_sides (fun p => decide (q.Y < p.Y)) ps
      rw [← hc] at k
      omega
    · exact hge
  · rcases Int.lt_or_le q.X mx with hlt | hge
    · exact hlt
    · exfalso
      rw [left_no (by omega) (by omega)] at hm
      cases hm
end Go.Proofs.YtfcpbpfemmdklaaGreat.La

/- Rows of a mask: marks, and what comes of them; plain. -/
namespace Go.Proofs.YtfcpbpfemmdklaaGreat.La
open Go.RowKit
set_option linter.unusedVariables false

/-- A mask's bytes. -/
def byteB (b : Bool) : Int := if b then 255 else 0
theorem xor_bytes (a b : Bool) : bits .xor .u8 (byteB a) (byteB b) = byteB (a != b) := by
  cases a <;> cases b <;> decide +kernel
/-- How often a mark falls on a place, odd or even. -/
def markB (W : Nat) (rs : List Int) (j : Nat) : Bool := decide (rs.countP (fun r => decide (min r (W : Int) = (j : Int) + 1)) % 2 = 1)
/-- How many marks lie further to the right, odd or even. -/
def sufB (W : Nat) (rs : List Int) (j : Nat) : Bool := decide (rs.countP (fun r => decide ((j : Int) < min r (W : Int))) % 2 = 1)
theorem suf_end (W : Nat) (rs : List Int) : sufB W rs W = false := by
  unfold sufB
  have : rs.countP (fun r => decide ((W : Int) < min r (W : Int))) = 0 := by
    rw [List.countP_eq_zero]
    intro r _
    simp
    omega
  rw [this]; rfl
theorem countP_split (p q r : Int → Bool) (rs : List Int) (h : ∀ x, p x = (q x || r x)) (hd : ∀ x, (q x && r x) = false) : rs.countP p = rs.countP q + rs.countP r := by
  induction rs with
  | nil => rfl
  | cons x rs ih =>
    rw [List.countP_cons, List.countP_cons, List.countP_cons, ih, h x]
    have := hd x
    cases h1 : q x <;> cases h2 : r x <;> rw [h1, h2] at this <;> simp at this ⊢ <;> omega
theorem par_add (m n : Nat) : decide ((m + n) % 2 = 1) = (decide (m % 2 = 1) != decide (n % 2 = 1)) := by
  rcases Nat.mod_two_eq_zero_or_one m with h | h <;> rcases Nat.mod_two_eq_zero_or_one n with g | g
  · have : (m + n) % 2 = 0 := by omega
    simp [h, g, this]
  · have : (m + n) % 2 = 1 := by omega
    simp [h, g, this]
  · have : (m + n) % 2 = 1 := by omega
    simp [h, g, this]
  · have : (m + n) % 2 = 0 := by omega
    simp [h, g, this]
theorem suf_step (W : Nat) (rs : List Int) (j : Nat) : sufB W rs j = (sufB W rs (j + 1) != markB W rs j) := by
  unfold sufB markB
  rw [← par_add]
  congr 2
  rw [countP_split (fun r => decide ((j : Int) < min r (W : Int))) (fun r => decide (((j + 1 : Nat) : Int) < min r (W : Int))) (fun r => decide (min r (W : Int) = (j : Int) + 1)) rs]
  · intro x
    by_cases h1 : (j : Int) < min x (W : Int)
    · by_cases h2 : min x (W : Int) = (j : Int) + 1
      · simp [h2]; omega
      · have : ((j + 1 : Nat) : Int) < min x (W : Int) := by omega
        simp only [h1, this, h2, decide_true, decide_false, Bool.or_false]
    · have a1 : ¬ ((j + 1 : Nat) : Int) < min x (W : Int) := by omega
      have a2 : ¬ min x (W : Int) = (j : Int) + 1 := by omega
      simp only [h1, a1, a2, decide_false, Bool.or_false]
  · intro x
    by_cases h2 : min x (W : Int) = (j : Int) + 1
    · have a1 : ¬ ((j + 1 : Nat) : Int) < min x (W : Int) := by omega
      rw [decide_eq_false a1, Bool.false_and]
    · simp only [h2, decide_false, Bool.and_false]
theorem mark_more {W : Nat} {rs : List Int} {r : Int} {j : Nat} : markB W (rs ++ [r]) j = (markB W rs j != decide (min r (W : Int) = (j : Int) + 1)) := by
  unfold markB
  rw [List.countP_append, List.countP_singleton, par_add]
  congr 1
  by_cases h : min r (W : Int) = (j : Int) + 1 <;> simp [h]
theorem mark_nil (W j : Nat) : markB W [] j = false := rfl

/-- How the pixels of a row with a side to their right are counted. -/
theorem half_shift {l u : Pt} {x y : Int} (hx : 0 ≤ x) : x < halfZ l u ⟨0, y⟩ ↔ 0 < halfZ l u ⟨x, y⟩ := by
  by_cases h : y < l.Y ∨ u.Y ≤ y
  · have h1 : halfZ l u ⟨0, y⟩ = 0 := by unfold halfZ; rw [if_pos h]
    have h2 : halfZ l u ⟨x, y⟩ = 0 := by unfold halfZ; rw [if_pos h]
    rw [h1, h2]; omega
  · rw [halfZ_pos (l := l) (u := u) (q := ⟨x, y⟩) (by simp only; omega) (by simp only; omega)]
    have hS : 1 ≤ stepZ l u := by unfold stepZ; omega
    have hA : aheadZ l u ⟨x, y⟩ = aheadZ l u ⟨0, y⟩ - x * stepZ l u := by unfold aheadZ stepZ; grind
    have hz : halfZ l u ⟨0, y⟩ = max ((aheadZ l u ⟨0, y⟩ + stepZ l u - 1).tdiv (stepZ l u)) 0 := by unfold halfZ; rw [if_neg h]
    rw [hA, hz]
    generalize aheadZ l u ⟨0, y⟩ = A at *
    generalize stepZ l u = S at *
    have key : x < (A + S - 1).tdiv S ↔ x * S < A := by
      rcases Int.le_total 0 (A + S - 1) with h1 | h1
      · rw [Int.tdiv_eq_ediv_of_nonneg h1]
        have k := Int.le_ediv_iff_mul_le (a := x + 1) (b := A + S - 1) (show 0 < S by omega)
        rw [Int.add_mul, Int.one_mul] at k
        generalize x * S = X at *
        generalize (A + S - 1) / S = D at *
        constructor
        · intro q; have := k.1 (by omega); omega
        · intro q; have := k.2 (by omega); omega
      · have hx2 := Int.mul_nonneg hx (show 0 ≤ S by omega)
        obtain ⟨m, hm⟩ : ∃ m, m = -(A + S - 1) := ⟨_, rfl⟩
        have e : A + S - 1 = -m := by omega
        have t := Int.tdiv_nonneg (a := m) (b := S) (by omega) (by omega)
        rw [e, Int.neg_tdiv]
        generalize x * S = X at *
        generalize m.tdiv S = D at *
        omega
    generalize (A + S - 1).tdiv S = D at *
    omega
theorem reach_shift {a b : Pt} {x y : Int} (hx : 0 ≤ x) : x < reachZ a b ⟨0, y⟩ ↔ 0 < reachZ a b ⟨x, y⟩ := by
  unfold reachZ
  split
  · exact half_shift hx
  · exact half_shift hx
/-- What each side reaches to in a row. -/
def reachL (ss : List (Pt × Pt)) (y : Int) : List Int := ss.map (fun s => reachZ s.1 s.2 ⟨0, y⟩)
theorem suf_inside {ps : List Pt} {W x : Nat} {y : Int} (hx : x < W) : sufB W (reachL (sidesL ps) y) x = insideB ps ⟨x, y⟩ := by
  unfold sufB insideB hits reachL
  rw [List.countP_map]
  suffices e : ((fun r => decide ((x : Int) < min r (W : Int))) ∘ fun s : Pt × Pt => reachZ s.1 s.2 ⟨0, y⟩) = metB ⟨x, y⟩ by rw [e]
  funext s
  show decide ((x : Int) < min (reachZ s.1 s.2 ⟨0, y⟩) (W : Int)) = metB ⟨x, y⟩ s
  unfold metB
  have k := reach_shift (a := s.1) (b := s.2) (x := (x : Int)) (y := y) (by omega)
  by_cases h : (x : Int) < reachZ s.1 s.2 ⟨0, y⟩
  · have h1 : (x : Int) < min (reachZ s.1 s.2 ⟨0, y⟩) (W : Int) := by omega
    have h2 := k.1 h
    rw [decide_eq_true h1, decide_eq_true h2]
  · have h1 : ¬ (x : Int) < min (reachZ s.1 s.2 ⟨0, y⟩) (W : Int) := by omega
    have h2 : ¬ 0 < reachZ s.1 s.2 ⟨x, y⟩ := fun q => h (k.2 q)
    rw [decide_eq_false h1, decide_eq_false h2]
end Go.Proofs.YtfcpbpfemmdklaaGreat.La

/- A mask in memory; the walk of a row. -/
namespace Go.Proofs.YtfcpbpfemmdklaaGreat.La
open Go.RowKit
set_option linter.unusedVariables false

/-- A mask of N bytes. -/
def MaskB (w : World) (G N : Nat) (f : Nat → Bool) : Prop :=
  ∃ cur : Array Value, w.heap[G]? = some (.cells cur 5 (0, 0)) ∧ cur.size = N ∧ ∀ j, j < N → cur[j]? = some (.int .u8 (byteB (f j)))
theorem MaskB.lt {w : World} {G N : Nat} {f : Nat → Bool} (h : MaskB w G N f) : G < w.heap.size := by
  obtain ⟨cur, h1, _⟩ := h
  exact lt_of_block h1
theorem MaskB.below {w w' : World} {G N : Nat} {f : Nat → Bool} (h : MaskB w G N f) (hb : Below w.heap.size w w') : MaskB w' G N f := by
  have hl := h.lt
  obtain ⟨cur, h1, h2⟩ := h
  exact ⟨cur, (hb.block G hl).trans h1, h2⟩
theorem MaskB.cell {w : World} {G N j : Nat} {f : Nat → Bool} (h : MaskB w G N f) (hj : j < N) : w.cell? ⟨G, j, none⟩ = some (.int .u8 (byteB (f j))) ∧ w.frozen? ⟨G, j, none⟩ = false := by
  obtain ⟨cur, h1, h2, h3⟩ := h
  exact ⟨by simp [World.cell?, h1, h3 j hj], by simp [World.frozen?, h1]⟩
theorem MaskB.congr {w : World} {G N : Nat} {f f' : Nat → Bool} (h : MaskB w G N f) (he : ∀ j, j < N → f j = f' j) : MaskB w G N f' := by
  obtain ⟨cur, h1, h2, h3⟩ := h
  exact ⟨cur, h1, h2, fun j hj => by rw [← he j hj]; exact h3 j hj⟩
def upd (f : Nat → Bool) (k : Nat) (b : Bool) : Nat → Bool := fun j => if j = k then b else f j
theorem MaskB.set {w : World} {G N k : Nat} {f : Nat → Bool} (h : MaskB w G N f) (hk : k < N) (b : Bool) : MaskB (w.setCell ⟨G, k, none⟩ (.int .u8 (byteB b))) G N (upd f k b) := by
  obtain ⟨cur, h1, h2, h3⟩ := h
  refine ⟨_, block_set h1 _, by simpa using h2, fun j hj => ?_⟩
  unfold upd
  by_cases e : j = k
  · subst e
    rw [Array.getElem?_setIfInBounds_self_of_lt (by omega), if_pos rfl]
  · rw [Array.getElem?_setIfInBounds_ne (fun q => e q.symm), if_neg e]
    exact h3 j hj
theorem mask_new (w : World) (N : Nat) : MaskB (w.alloc (.cells (madeCells #[.int .u8 0] N) 5)) w.heap.size N (fun _ => false) := by
  refine ⟨_, heap_alloc_new _ _, size_madeCells _ _, fun j hj => ?_⟩
  simp [madeCells, hj, byteB, Nat.mod_one]

/-- All but one block are as they were. -/
structure But (G : Nat) (w w' : World) : Prop where
  os : w'.os = w.os
  tape : w'.tape = w.tape
  output : w'.output = w.output
  size : w.heap.size ≤ w'.heap.size
  block : ∀ k, k < w.heap.size → k ≠ G → w'.heap[k]? = w.heap[k]?
theorem But.refl (G : Nat) (w : World) : But G w w := ⟨rfl, rfl, rfl, Nat.le_refl _, fun _ _ _ => rfl⟩
theorem But.trans {G : Nat} {w w1 w2 : World} (h : But G w w1) (g : But G w1 w2) : But G w w2 :=
  ⟨g.os.trans h.os, g.tape.trans h.tape, g.output.trans h.output, Nat.le_trans h.size g.size, fun k hk hG => (g.block k (Nat.lt_of_lt_of_le hk h.size) hG).trans (h.block k hk hG)⟩
theorem But.of {G : Nat} {w w' : World} (h : Below w.heap.size w w') : But G w w' := ⟨h.os, h.tape, h.output, h.size, fun k hk _ => h.block k hk⟩
theorem But.set (G j : Nat) (w : World) (v : Value) : But G w (w.setCell ⟨G, j, none⟩ v) :=
  ⟨rfl, rfl, rfl, by simp [World.setCell], fun k hk hG => Below.heap_setCell _ _ _ _ (by simpa using hG)⟩
theorem But.row2 {G : Nat} {w w' : World} {g n i : Nat} {ty : TypeId} {vs : List (Value × Value)} (h : But G w w') (hr : Row2 w g n i ty vs) (hg : g ≠ G) : Row2 w' g n i ty vs := by
  have hl := hr.lt
  obtain ⟨cur, h1, h2⟩ := hr
  exact ⟨cur, (h.block g hl hg).trans h1, h2⟩
theorem But.below {G B : Nat} {w0 w w' : World} (h : But G w w') (h0 : Below B w0 w) (hG : B ≤ G) (hB : B ≤ w0.heap.size) : Below B w0 w' :=
  h0.trans ⟨h.os, h.tape, h.output, h.size, fun k hk => h.block k (Nat.lt_of_lt_of_le hk (Nat.le_trans hB h0.size)) (by omega)⟩

/-- The row while marks are laid; while they are told from the right. -/
def markF (O W : Nat) (rs : List Int) (f : Nat → Bool) : Nat → Bool := fun j => if O ≤ j ∧ j < O + W then markB W rs (j - O) else f j
def layF (O W m : Nat) (rs : List Int) (f : Nat → Bool) : Nat → Bool := fun j => if O ≤ j ∧ j < O + W then (if m ≤ j - O then sufB W rs (j - O) else markB W rs (j - O)) else f j
theorem mark_start {O W N : Nat} {f : Nat → Bool} (hz : ∀ j, j < W → f (O + j) = false) : ∀ j, j < N → f j = markF O W [] f j := by
  intro j _
  unfold markF
  split
  · rename_i h
    have := hz (j - O) (by omega)
    rw [show O + (j - O) = j by omega] at this
    rw [this]; rfl
  · rfl
theorem mark_set {O W N k : Nat} {rs : List Int} {r : Int} {f : Nat → Bool} (hk : k < W) (hr : min r (W : Int) = (k : Int) + 1) : ∀ j, j < N → upd (markF O W rs f) (O + k) (markF O W rs f (O + k) != true) j = markF O W (rs ++ [r]) f j := by
  intro j _
  unfold upd markF
  by_cases e : j = O + k
  · subst e
    rw [if_pos rfl, if_pos (by omega), if_pos (by omega), mark_more]
    have : decide (min r (W : Int) = ((O + k - O : Nat) : Int) + 1) = true := by
      rw [decide_eq_true_eq, hr]; omega
    rw [this]
  · rw [if_neg e]
    by_cases h : O ≤ j ∧ j < O + W
    · rw [if_pos h, if_pos h, mark_more]
      have : decide (min r (W : Int) = ((j - O : Nat) : Int) + 1) = false := by
        rw [decide_eq_false_iff_not, hr]; omega
      rw [this]
      simp
    · rw [if_neg h, if_neg h]
theorem mark_none {O W N : Nat} {rs : List Int} {r : Int} {f : Nat → Bool} (hr : ¬ 0 < min r (W : Int)) : ∀ j, j < N → markF O W rs f j = markF O W (rs ++ [r]) f j := by
  intro j _
  unfold markF
  split
  · rw [mark_more]
    have : decide (min r (W : Int) = ((j - O : Nat) : Int) + 1) = false := by
      rw [decide_eq_false_iff_not]; omega
    rw [this]
    simp
  · rfl
theorem lay_start {O W N : Nat} {rs : List Int} {f : Nat → Bool} : ∀ j, j < N → markF O W rs f j = layF O W W rs f j := by
  intro j _
  unfold markF layF
  split
  · rw [if_neg (by omega)]
  · rfl
theorem lay_set {O W N k : Nat} {rs : List Int} {f : Nat → Bool} (hk : k < W) : ∀ j, j < N → upd (layF O W (k + 1) rs f) (O + k) (sufB W rs (k + 1) != layF O W (k + 1) rs f (O + k)) j = layF O W k rs f j := by
  intro j _
  unfold upd layF
  by_cases e : j = O + k
  · subst e
    have c1 : O ≤ O + k ∧ O + k < O + W := by omega
    have c2 : ¬ (k + 1 ≤ O + k - O) := by omega
    have c3 : k ≤ O + k - O := by omega
    rw [if_pos rfl, if_pos c1, if_pos c1, if_neg c2, if_pos c3, show O + k - O = k by omega]
    exact (suf_step W rs k).symm
  · rw [if_neg e]
    by_cases h : O ≤ j ∧ j < O + W
    · rw [if_pos h, if_pos h]
      by_cases h2 : k + 1 ≤ j - O
      · rw [if_pos h2, if_pos (by omega)]
      · rw [if_neg h2, if_neg (by omega)]
    · rw [if_neg h, if_neg h]
theorem lay_value {O W k : Nat} {rs : List Int} {f : Nat → Bool} (hk : k < W) : (sufB W rs (k + 1) != layF O W (k + 1) rs f (O + k)) = sufB W rs k := by
  unfold layF
  rw [if_pos (by omega), if_neg (by omega), show O + k - O = k by omega]
  exact (suf_step W rs k).symm

set_option maxRecDepth 100000 in
set_option maxHeartbeats 3200000 in
theorem layRow_any (w : World) (G O W N cap g n : Nat) (ss : List (Pt × Pt)) (y : Int) (f : Nat → Bool) (hm : MaskB w G N f) (hO : O + W ≤ N) (hz : ∀ j, j < W → f (O + j) = false)
    (hr : Row2 w g n n 166 (ss.map sdv)) (hg : g ≠ G) (hl : ss.length = n) (hn : n ≤ 256) (hW : W ≤ 32768) (hnear : ∀ s ∈ ss, near s.1 = true ∧ near s.2 = true) (hy : near ⟨0, y⟩ = true) :
    Calls Tryz.prog 109 #[.slice (some ⟨G, O, none⟩) W cap, .slice (some ⟨g, 0, none⟩) n n, .int .i64 y] w (fun e w' => e = .returned (.tuple #[]) ∧ MaskB w' G N (layF O W 0 (reachL ss y) f) ∧ But G w w') := by
  have HM := Lib.hid (hm.congr (mark_start (N := N) hz))
  have HR := Lib.hid hr
  have HL := Lib.hid (And.intro hl (And.intro hnear hy))
  clear hm hz hr hl hnear hy
  go_enter Tryz.func109, Tryz.ntmps109
  go_wp2_with fail
  go_loopw [13] (fun cnt wr => ∃ i : Nat, i ≤ n ∧ cnt = .int .i64 i ∧ MaskB wr G N (markF O W ((reachL ss y).take i) f) ∧ But G w wr) (fun cnt _ => n - (intOf cnt).toNat)
  case atStart => exact ⟨0, Nat.zero_le _, rfl, HM.out, But.refl _ _⟩
  case round =>
    obtain ⟨i, hi, rfl, hmk, hb⟩ := hrel
    by_cases hlt : i < n
    · obtain ⟨s, hsi⟩ : ∃ s, ss[i]? = some s := ⟨_, List.getElem?_eq_getElem (by rw [HL.out.1]; exact hlt)⟩
      obtain ⟨c0, c1⟩ := (hb.row2 HR.out hg).at (j := i) (v := sdv s) hlt (by rw [List.getElem?_map, hsi]; rfl)
      unfold sdv at c0 c1
      simp only at c0 c1
      obtain ⟨n1, n2⟩ := HL.out.2.1 s (List.mem_of_getElem? hsi)
      have tk : (reachL ss y).take (i + 1) = (reachL ss y).take i ++ [reachZ s.1 s.2 ⟨0, y⟩] := take_more (by unfold reachL; rw [List.getElem?_map, hsi]; rfl)
      have ba : Below wr.heap.size wr (wr.alloc (.cells #[.complex .f64 (fb s.1.X) (fb s.1.Y), .complex .f64 (fb s.2.X) (fb s.2.Y)] 166)) := (Below.refl _ _).alloc (Nat.le_refl _) _
      have CR := Lib.hid (reach_any (wr.alloc (.cells #[.complex .f64 (fb s.1.X) (fb s.1.Y), .complex .f64 (fb s.2.X) (fb s.2.Y)] 166)) s.1 s.2 ⟨0, y⟩ n1 n2 HL.out.2.2)
      have HM2 := Lib.hid (And.intro (hmk.below ba) (hb.trans (But.of ba)))
      have hst := store_complex
      have TK := Lib.hid tk
      clear hmk hb n1 n2 hsi tk ba
      generalize fb s.1.X = p1 at *
      generalize fb s.1.Y = p2 at *
      generalize fb s.2.X = p3 at *
      generalize fb s.2.Y = p4 at *
      generalize reachZ s.1 s.2 ⟨0, y⟩ = R at *
      obtain ⟨M, hM⟩ : ∃ M, (if (W : Int) < R then (W : Int) else R) = M := ⟨_, rfl⟩
      have hMm : min R (W : Int) = M := by rw [← hM]; split <;> omega
      have hMW : M ≤ (W : Int) := by omega
      by_cases hpos : 0 < M
      · have u : decide (0 < M) = true := by simpa using hpos
        obtain ⟨k, hk⟩ : ∃ k : Nat, M = (k : Int) + 1 := ⟨(M - 1).toNat, by omega⟩
        have hkW : k < W := by omega
        have k1 : IntKind.i64.wrap (M - 1) = (k : Int) := by rw [wrap_i64 _ (by omega) (by omega)]; omega
        have HK := Lib.hid (show min R (W : Int) = (k : Int) + 1 by omega)
        clear hMm hk
        go_wp2_with fail
        refine CR.out.mono ?_
        rintro e w5 ⟨rfl, hb⟩
        have HM3 := Lib.hid (And.intro (HM2.out.1.below hb) (HM2.out.2.trans (But.of hb)))
        clear hb CR HM2 c0 c1
        obtain ⟨d0, d1⟩ := HM3.out.1.cell (j := O + k) (by omega)
        have hx : bits .xor .u8 (byteB (markF O W ((reachL ss y).take i) f (O + k))) 255 = byteB (markF O W ((reachL ss y).take i) f (O + k) != true) := xor_bytes _ true
        have Y := Lib.hid (And.intro ((HM3.out.1.set (k := O + k) (by omega) (markF O W ((reachL ss y).take i) f (O + k) != true)).congr (mark_set (r := R) hkW HK.out)) (HM3.out.2.trans (But.set G (O + k) w5 (.int .u8 (byteB (markF O W ((reachL ss y).take i) f (O + k) != true))))))
        rw [← TK.out] at Y
        generalize byteB (markF O W ((reachL ss y).take i) f (O + k) != true) = b2 at *
        generalize byteB (markF O W ((reachL ss y).take i) f (O + k)) = b1 at *
        clear HM3
        go_wp2_with fail
        go_roundw
        case rel => exact ⟨i + 1, hlt, by go_num, Y.out.1, Y.out.2⟩
        case measure => simp [intOf]; omega
      · have u : decide (0 < M) = false := by simpa using hpos
        have HK := Lib.hid (show ¬ 0 < min R (W : Int) by omega)
        clear hMm
        go_wp2_with fail
        refine CR.out.mono ?_
        rintro e w5 ⟨rfl, hb⟩
        have Y := Lib.hid (And.intro ((HM2.out.1.below hb).congr (mark_none (r := R) (by have := HK.out; omega))) (HM2.out.2.trans (But.of hb)))
        rw [← TK.out] at Y
        clear hb CR HM2 c0 c1
        go_wp2_with fail
        go_roundw
        case rel => exact ⟨i + 1, hlt, by go_num, Y.out.1, Y.out.2⟩
        case measure => simp [intOf]; omega
    · obtain rfl : i = n := by omega
      rw [List.take_of_length_le (by unfold reachL; rw [List.length_map, HL.out.1]; exact Nat.le_refl _)] at hmk
      have HM2 := Lib.hid (And.intro (hmk.congr lay_start) hb)
      clear hmk hb
      obtain ⟨rs, hrs⟩ : ∃ rs, rs = reachL ss y := ⟨_, rfl⟩
      rw [← hrs] at HM2
      have HRS := Lib.hid hrs
      clear hrs
      have HE := Lib.hid (suf_end W rs)
      go_wp2_with fail
      go_loopw [9, 10] (fun vo vx wl => ∃ (m : Nat) (x : Int), m ≤ W ∧ x = (m : Int) - 1 ∧ vx = .int .i64 x ∧ vo = .int .u8 (byteB (sufB W rs m)) ∧ MaskB wl G N (layF O W m rs f) ∧ But G w wl) (fun _ vx _ => ((intOf vx) + 1).toNat)
      case atStart => exact ⟨W, (W : Int) - 1, Nat.le_refl _, rfl, rfl, by rw [HE.out]; rfl, HM2.out.1, HM2.out.2⟩
      case round =>
        clear HM2
        obtain ⟨m, x, hm, hx, rfl, rfl, hmk, hb⟩ := hrel
        by_cases hpos : 0 ≤ x
        · obtain ⟨k, rfl⟩ := Int.eq_ofNat_of_zero_le hpos
          obtain rfl : m = k + 1 := by omega
          have hkW : k < W := by omega
          have u : decide (0 ≤ (k : Int)) = true := by simp
          obtain ⟨d0, d1⟩ := hmk.cell (j := O + k) (by omega)
          have hxo : bits .xor .u8 (byteB (sufB W rs (k + 1))) (byteB (layF O W (k + 1) rs f (O + k))) = byteB (sufB W rs k) := by rw [xor_bytes, lay_value hkW]
          have k1 : IntKind.i64.wrap ((k : Int) - 1) = (k : Int) - 1 := wrap_i64 _ (by omega) (by omega)
          have Y := Lib.hid (And.intro ((hmk.set (k := O + k) (by omega) (sufB W rs (k + 1) != layF O W (k + 1) rs f (O + k))).congr (lay_set hkW)) (hb.trans (But.set G (O + k) wr (.int .u8 (byteB (sufB W rs (k + 1) != layF O W (k + 1) rs f (O + k)))))))
          rw [lay_value hkW] at Y
          have hk0 : (k : Int) < (W : Int) := by omega
          clear hmk hb hx hpos
          generalize byteB (layF O W (k + 1) rs f (O + k)) = b1 at *
          generalize byteB (sufB W rs (k + 1)) = b2 at *
          generalize hb3 : byteB (sufB W rs k) = b3 at *
          go_wp2_with fail
          go_roundw
          case rel => exact ⟨k, (k : Int) - 1, by omega, rfl, rfl, by rw [hb3], Y.out.1, Y.out.2⟩
          case measure => first | (simp [intOf]; done) | (simp [intOf]; omega)
        · obtain rfl : m = 0 := by omega
          have X := Lib.hid (And.intro hmk hb)
          have u : decide (0 ≤ x) = false := by simpa using hpos
          clear hmk hb hx hpos
          go_wp2_with fail
          go_end0
          have k := X.out
          rw [HRS.out] at k
          exact ⟨rfl, k⟩
end Go.Proofs.YtfcpbpfemmdklaaGreat.La

/- Mask. -/
namespace Go.Proofs.YtfcpbpfemmdklaaGreat.La
open Go.RowKit
set_option linter.unusedVariables false

def sideB (n : Int) : Bool := decide (0 ≤ n) && decide (n ≤ 32768)
def areaB (w h : Int) : Bool := sideB w && sideB h && decide (w * h ≤ 4194304)
set_option maxRecDepth 100000 in
theorem side_any (w : World) (n : Int) : Calls Tryz.prog 132 #[.int .i64 n] w (fun e w' => e = .returned (.bool (sideB n)) ∧ w' = w) := by
  unfold sideB
  by_cases h1 : 0 ≤ n
  · have u1 : decide (0 ≤ n) = true := by simpa using h1
    rw [u1, Bool.true_and]
    by_cases h2 : n ≤ 32768
    · have u2 : decide (n ≤ 32768) = true := by simpa using h2
      rw [u2]
      go_enter Tryz.func132, Tryz.ntmps132
      go_wp2_with fail
      go_ret
      exact ⟨rfl, rfl⟩
    · have u2 : decide (n ≤ 32768) = false := by simpa using h2
      rw [u2]
      go_enter Tryz.func132, Tryz.ntmps132
      go_wp2_with fail
      go_ret
      exact ⟨rfl, rfl⟩
  · have u1 : decide (0 ≤ n) = false := by simpa using h1
    rw [u1, Bool.false_and]
    go_enter Tryz.func132, Tryz.ntmps132
    go_wp2_with fail
    go_ret
    exact ⟨rfl, rfl⟩
theorem side_iff {n : Int} : sideB n = true ↔ 0 ≤ n ∧ n ≤ 32768 := by simp [sideB]
set_option maxRecDepth 100000 in
theorem isArea_any (w : World) (m n : Int) : Calls Tryz.prog 107 #[.int .i64 m, .int .i64 n] w (fun e w' => e = .returned (.bool (areaB m n)) ∧ w' = w) := by
  have C1 := Lib.hid (side_any w m)
  have C2 := Lib.hid (side_any w n)
  unfold areaB
  cases h1 : sideB m with
  | false =>
    rw [h1] at C1
    rw [Bool.false_and, Bool.false_and]
    clear h1
    go_enter Tryz.func107, Tryz.ntmps107
    go_wp2_with fail
    refine C1.out.mono ?_
    rintro e w1 ⟨rfl, rfl⟩
    go_wp2_with fail
    go_ret
    exact ⟨rfl, rfl⟩
  | true =>
    rw [h1] at C1
    cases h2 : sideB n with
    | false =>
      rw [h2] at C2
      rw [Bool.and_false, Bool.false_and]
      clear h1 h2
      go_enter Tryz.func107, Tryz.ntmps107
      go_wp2_with fail
      refine C1.out.mono ?_
      rintro e w1 ⟨rfl, rfl⟩
      go_wp2_with fail
      refine C2.out.mono ?_
      rintro e w1 ⟨rfl, rfl⟩
      go_wp2_with fail
      go_ret
      exact ⟨rfl, rfl⟩
    | true =>
      rw [h2] at C2
      rw [Bool.true_and, Bool.true_and]
      have k1 := side_iff.1 h1
      have k2 := side_iff.1 h2
      have b : (m * n).natAbs ≤ 32768 * 32768 := by rw [Int.natAbs_mul]; exact Nat.mul_le_mul (by omega) (by omega)
      obtain ⟨p, hp⟩ : ∃ p, p = m * n := ⟨_, rfl⟩
      rw [← hp] at b ⊢
      have j1 : wrap64 (m * n) = p := by rw [← hp]; exact w64 p (by omega) (by omega)
      clear h1 h2 k1 k2 hp b
      by_cases h3 : p ≤ 4194304
      · have u : decide (p ≤ 4194304) = true := by simpa using h3
        rw [u]
        go_enter Tryz.func107, Tryz.ntmps107
        go_wp2_with fail
        refine C1.out.mono ?_
        rintro e w1 ⟨rfl, rfl⟩
        go_wp2_with fail
        refine C2.out.mono ?_
        rintro e w1 ⟨rfl, rfl⟩
        go_wp2_with fail
        go_ret
        exact ⟨rfl, rfl⟩
      · have u : decide (p ≤ 4194304) = false := by simpa using h3
        rw [u]
        go_enter Tryz.func107, Tryz.ntmps107
        go_wp2_with fail
        refine C1.out.mono ?_
        rintro e w1 ⟨rfl, rfl⟩
        go_wp2_with fail
        refine C2.out.mono ?_
        rintro e w1 ⟨rfl, rfl⟩
        go_wp2_with fail
        go_ret
        exact ⟨rfl, rfl⟩

theorem info5 : (Tryz.prog.info? 5).map (fun i => (i.zero, i.size, i.bytes)) = some (some (.int .u8 0), 1, 1) := by kernel_rfl
theorem run_make_bytes (k : Nat) (hk : k ≤ 4194304) (w : World) : (Instr.makeSlice 49 (.int .i64 (k : Int)) (.int .i64 (k : Int))).run Tryz.prog w = .ok (.slice (some ⟨w.heap.size, 0, none⟩) k k) (w.alloc (.cells (madeCells #[.int .u8 0] k) 5)) := by
  obtain ⟨i, hi, hzz⟩ := Option.map_eq_some_iff.1 info5
  simp only [Prod.mk.injEq] at hzz
  obtain ⟨hz, hs, hb⟩ := hzz
  have hr := run_make (P := Tryz.prog) w 49 5 i _ Tryz.underlying49 hi hz .i64 .i64 k k (by omega) (Int.le_refl _) (by rw [hb]; omega) (by omega)
  simp only [Int.toNat_natCast, hs, Nat.mul_one] at hr
  exact hr

set_option maxRecDepth 100000 in
set_option maxHeartbeats 1600000 in
theorem mask_no (w : World) (a : Option Addr) (n c : Nat) (ps : List Pt) (x y : Int) (h : Pts w a n ps) (hn : n ≤ 33554432) (hs : (shape ps && areaB x y) = false) :
    Calls Tryz.prog 85 #[.slice a n c, .int .i64 x, .int .i64 y] w (Refused w) := by
  have C := Lib.hid (shape_any w a n c ps h hn)
  clear h
  cases hsh : shape ps with
  | false =>
    rw [hsh] at C
    clear hs hsh
    go_enter Tryz.func85, Tryz.ntmps85
    go_wp2_with fail
    refine C.out.mono ?_
    rintro e w1 ⟨rfl, hb⟩
    have X := Lib.hid hb
    clear hb C
    go_wp2_with fail
    go_ret2
    exact ⟨rfl, X.out⟩
  | true =>
    rw [hsh] at C hs
    rw [Bool.true_and] at hs
    have CA := Lib.hid (fun w => isArea_any w x y)
    rw [hs] at CA
    clear hs hsh
    go_enter Tryz.func85, Tryz.ntmps85
    go_wp2_with fail
    refine C.out.mono ?_
    rintro e w1 ⟨rfl, hb⟩
    have X := Lib.hid hb
    clear hb C
    go_wp2_with fail
    refine (CA.out _).mono ?_
    rintro e w2 ⟨rfl, rfl⟩
    go_wp2_with fail
    go_ret2
    exact ⟨rfl, X.out⟩

/-- The mask as the document has it. -/
def maskF (ps : List Pt) (W : Nat) : Nat → Bool := fun j => insideB ps ⟨((j % W : Nat) : Int), ((j / W : Nat) : Int)⟩
def doneF (ps : List Pt) (W i : Nat) : Nat → Bool := fun j => if j < i * W then maskF ps W j else false
/-- What Mask tells. -/
def MaskSays (w : World) (ps : List Pt) (W H : Nat) (e : Ending) (w' : World) : Prop :=
  ∃ G, e = .returned (.tuple #[.slice (some ⟨G, 0, none⟩) (W * H) (W * H), .int .i64 0]) ∧ MaskB w' G (W * H) (maskF ps W) ∧ w.heap.size ≤ G ∧ Below w.heap.size w w'
theorem done_more {ps : List Pt} {W i N : Nat} : ∀ j, j < N → layF (i * W) W 0 (reachL (sidesL ps) (i : Int)) (doneF ps W i) j = doneF ps W (i + 1) j := by
  intro j _
  unfold layF doneF
  have e : (i + 1) * W = i * W + W := Nat.succ_mul i W
  by_cases h : i * W ≤ j ∧ j < i * W + W
  · rw [if_pos h, if_pos (Nat.zero_le _), if_pos (by omega), suf_inside (by omega)]
    unfold maskF
    have hW : 0 < W := by omega
    have e1 : j / W = i := Nat.div_eq_of_lt_le h.1 (by rw [e]; exact h.2)
    have e2 : j % W = j - i * W := by
      have := Nat.div_add_mod j W
      rw [e1, Nat.mul_comm] at this
      omega
    rw [e1, e2]
  · rw [if_neg h]
    by_cases h2 : j < i * W
    · rw [if_pos h2, if_pos (by omega)]
    · rw [if_neg h2, if_neg (by omega)]
end Go.Proofs.YtfcpbpfemmdklaaGreat.La

/- Mask, of a shape and sizes that are right. -/
namespace Go.Proofs.YtfcpbpfemmdklaaGreat.La
open Go.RowKit
set_option linter.unusedVariables false

theorem done_start {ps : List Pt} {W N : Nat} : ∀ j, j < N → (fun _ => false) j = doneF ps W 0 j := by
  intro j _
  unfold doneF
  rw [if_neg (by omega)]
theorem done_end {ps : List Pt} {W H : Nat} : ∀ j, j < W * H → doneF ps W H j = maskF ps W j := by
  intro j hj
  unfold doneF
  rw [Nat.mul_comm] at hj
  rw [if_pos hj]
theorem done_behind {ps : List Pt} {W i : Nat} : ∀ j, j < W → doneF ps W i (i * W + j) = false := by
  intro j _
  unfold doneF
  rw [if_neg (by omega)]

set_option maxRecDepth 100000 in
set_option maxHeartbeats 3200000 in
theorem mask_yes (w : World) (a : Option Addr) (n c : Nat) (ps : List Pt) (W H : Nat) (h : Pts w a n ps) (hs : shape ps = true) (hA : areaB (W : Int) (H : Int) = true) :
    Calls Tryz.prog 85 #[.slice a n c, .int .i64 (W : Int), .int .i64 (H : Int)] w (MaskSays w ps W H) := by
  obtain ⟨l1, l2, l3⟩ := shape_len hs
  have hl := h.1
  have hn1 : 1 ≤ n := by omega
  have hn2 : n ≤ 256 := by omega
  have kA := hA
  unfold areaB at kA
  rw [Bool.and_eq_true, Bool.and_eq_true, decide_eq_true_eq] at kA
  have kW := side_iff.1 kA.1.1
  have kH := side_iff.1 kA.1.2
  have hW : W ≤ 32768 := by omega
  have hH : H ≤ 32768 := by omega
  have e0 : (W : Int) * (H : Int) = ((W * H : Nat) : Int) := (Int.natCast_mul W H).symm
  obtain ⟨N, hNN⟩ : ∃ N, N = W * H := ⟨_, rfl⟩
  rw [← hNN] at e0
  have hN : N ≤ 4194304 := by omega
  have j1 : wrap64 ((W : Int) * (H : Int)) = (N : Int) := by rw [e0]; exact w64 _ (by omega) (by omega)
  have hmk := run_make_bytes N hN
  have C := Lib.hid (shape_any w a n c ps h (by omega))
  rw [hs] at C
  have CA := Lib.hid (fun w => isArea_any w (W : Int) (H : Int))
  rw [hA] at CA
  have HP := Lib.hid h
  have HN := Lib.hid (And.intro l3 (And.intro hl hNN))
  clear h hs l1 l2 l3 hl hA kA kW kH e0 hNN
  go_enter Tryz.func85, Tryz.ntmps85
  go_wp2_with fail
  refine C.out.mono ?_
  rintro e w1 ⟨rfl, hb⟩
  have H1 := Lib.hid (And.intro (HP.out.below hb) hb)
  clear hb C HP
  go_wp2_with fail
  refine (CA.out _).mono ?_
  rintro e w2 ⟨rfl, rfl⟩
  have CS := Lib.hid (sides_any w2 a n c ps H1.out.1 hn1 hn2)
  go_wp2_with fail
  refine CS.out.mono ?_
  rintro e w3 ⟨g, he, hg, hrow, hb⟩
  rw [HN.out.2.1] at he hrow
  subst he
  have hgl := hrow.lt
  have bA : Below w3.heap.size w3 (w3.alloc (.cells (madeCells #[.int .u8 0] N) 5)) := (Below.refl _ _).alloc (Nat.le_refl _) _
  have HR := Lib.hid (And.intro (hrow.below bA) hgl)
  have HB := Lib.hid (And.intro (below_more (below_more H1.out.2 hb (Nat.le_refl _)) bA (Nat.le_refl _)) (show w.heap.size ≤ w3.heap.size from (below_more H1.out.2 hb (Nat.le_refl _)).size))
  have HM := Lib.hid (mask_new w3 N)
  clear hb CS hrow H1 CA hgl hg bA
  go_wp2_with fail
  generalize w3.alloc (.cells (madeCells #[.int .u8 0] N) 5) = w4 at *
  clear hmk
  obtain ⟨G, hG⟩ : ∃ G, G = w3.heap.size := ⟨_, rfl⟩
  rw [← hG] at HM HR HB
  simp only [← hG, j1]
  clear hG j1
  go_loopw [27] (fun cnt wr => ∃ i : Nat, i ≤ H ∧ cnt = .int .i64 i ∧ MaskB wr G N (doneF ps W i) ∧ Row2 wr g n n 166 ((sidesL ps).map sdv) ∧ Below w.heap.size w wr) (fun cnt _ => H - (intOf cnt).toNat)
  case atStart => exact ⟨0, Nat.zero_le _, rfl, HM.out.congr (done_start (N := N)), HR.out.1, HB.out.1⟩
  case round =>
    clear HM
    obtain ⟨i, hi, rfl, hm, hrow, hb⟩ := hrel
    by_cases hlt : i < H
    · have hO : i * W + W ≤ N := by
        rw [HN.out.2.2, Nat.mul_comm W H, ← Nat.succ_mul]
        exact Nat.mul_le_mul_right _ hlt
      have hne : g ≠ G := by have := HR.out.2; omega
      have CL := Lib.hid (fun cap => layRow_any wr G (i * W) W N cap g n (sidesL ps) (i : Int) (doneF ps W i) hm hO done_behind hrow hne (by unfold sidesL; rw [chainL_length, HN.out.2.1]) hn2 hW (fun s hs => sides_near HN.out.1 (by rw [HN.out.2.1]; omega) hs) (near_iff.2 ⟨by simp only; omega, by simp only; omega⟩))
      have HRW := Lib.hid (And.intro hrow (And.intro hb hne))
      obtain ⟨O, hOO⟩ : ∃ O, O = i * W := ⟨_, rfl⟩
      obtain ⟨T, hT⟩ : ∃ T, T = O + W := ⟨_, rfl⟩
      have b1 : O ≤ T := by omega
      have b2 : T ≤ N := by omega
      have b3 : (O : Int) ≤ (T : Int) := by omega
      have b4 : (T : Int) ≤ (N : Int) := by omega
      have tw : T - O = W := by omega
      have z0 : N - O = 0 → O = 0 := by
        intro q
        have hW0 : W = 0 := by omega
        rw [hOO, hW0, Nat.mul_zero]
      have lo1 : -9223372036854775808 ≤ (O : Int) := by omega
      have hi1 : (O : Int) ≤ 9223372036854775807 := by omega
      have lo3 : -9223372036854775808 ≤ (T : Int) := by omega
      have hi3 : (T : Int) ≤ 9223372036854775807 := by omega
      have x1 : (i : Int) * (W : Int) = (O : Int) := by rw [hOO, ← Int.natCast_mul]
      have x3 : ((i : Int) + 1) * (W : Int) = (T : Int) := by rw [Int.add_mul, x1]; omega
      have m1 : wrap64 ((i : Int) * (W : Int)) = (O : Int) := by rw [x1]; exact w64 _ lo1 hi1
      have m3 : wrap64 (((i : Int) + 1) * (W : Int)) = (T : Int) := by rw [x3]; exact w64 _ lo3 hi3
      clear x1 x3
      clear lo1 hi1 lo3 hi3
      rw [← hOO] at CL
      have za : (if N = O then (some ⟨G, 0, none⟩ : Option Addr) else some ⟨G, O, none⟩) = some ⟨G, O, none⟩ := by
        split
        · rw [z0 (by omega)]
        · rfl
      clear z0
      have HD := Lib.hid (fun N => done_more (ps := ps) (W := W) (i := i) (N := N))
      rw [← hOO] at HD
      clear hm hrow hb hO hne hi hOO hT
      go_wp2_with fail
      · refine (CL.out _).mono ?_
        rintro e w5 ⟨rfl, hm2, hbut⟩
        have Y := Lib.hid (And.intro (hm2.congr (HD.out N)) (And.intro (hbut.row2 HRW.out.1 HRW.out.2.2) (hbut.below HRW.out.2.1 HB.out.2 (Nat.le_refl _))))
        clear hm2 hbut CL HRW
        go_wp2_with fail
        go_roundw
        case rel => exact ⟨i + 1, hlt, by go_num, Y.out.1, Y.out.2.1, Y.out.2.2⟩
        case measure => simp [intOf]; omega
    · obtain rfl : i = H := by omega
      have X := Lib.hid (show MaskSays w ps W i (.returned (.tuple #[.slice (some ⟨G, 0, none⟩) N N, .int .i64 0])) wr by
        refine ⟨G, by rw [HN.out.2.2], ?_, HB.out.2, hb⟩
        have k := hm
        rw [HN.out.2.2] at k
        exact k.congr done_end)
      clear hm hrow hb
      go_wp2_with fail
      go_ret2
      exact X.out
end Go.Proofs.YtfcpbpfemmdklaaGreat.La
