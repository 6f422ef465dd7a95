/- Maps of whole slopes and the area 1: their way back is exact, and what is seen lies in the box. -/
import Derived.Test.YtfcndldobjpbnaaLMA
import Derived.Test.YtfcndldobjpbnaaLDB
namespace Go.Proofs.Ytfcndldobjpbnaa
open Go.RowKit Go.Maps
set_option linter.unusedVariables false

namespace Af
/-- A map of whole slopes. -/
def fam (a b c d e f : Int) : M := ⟨65536 * a, 65536 * b, 65536 * c, 65536 * d, e, f⟩
def famBack (a b c d e f : Int) : M := ⟨65536 * d, -(65536 * b), -(65536 * c), 65536 * a, b * f - d * e, c * e - a * f⟩
def Few (n : Int) : Prop := -4 ≤ n ∧ n ≤ 4
def Near (n : Int) : Prop := -1310720 ≤ n ∧ n ≤ 1310720
structure FamOk (a b c d e f : Int) : Prop where
  det : a * d - b * c = 1
  a : Few a
  b : Few b
  c : Few c
  d : Few d
  e : Near e
  f : Near f
theorem few_near {n e : Int} (hn : Few n) (he : Near e) : -5242880 ≤ n * e ∧ n * e ≤ 5242880 := by
  have := up_mul (x := n) (y := e) (p := 4) (q := 1310720) hn he (by omega) (by omega)
  exact ⟨by have := this.1; omega, by have := this.2; omega⟩
theorem fam_ok {a b c d e f : Int} (h : FamOk a b c d e f) : (fam a b c d e f).ok := by
  obtain ⟨-, ⟨a0, a1⟩, ⟨b0, b1⟩, ⟨c0, c1⟩, ⟨d0, d1⟩, ⟨e0, e1⟩, f0, f1⟩ := h
  unfold M.ok Slope Shift fam
  simp only
  unfold Up
  omega
theorem famBack_ok {a b c d e f : Int} (h : FamOk a b c d e f) : (famBack a b c d e f).ok := by
  have h1 := few_near h.b h.f
  have h2 := few_near h.d h.e
  have h3 := few_near h.c h.e
  have h4 := few_near h.a h.f
  obtain ⟨-, ⟨a0, a1⟩, ⟨b0, b1⟩, ⟨c0, c1⟩, ⟨d0, d1⟩, -, -⟩ := h
  unfold M.ok Slope Shift famBack
  simp only
  unfold Up
  omega
theorem round_whole (n : Int) : round (65536 * n * 4294967296) 4294967296 = 65536 * n := by
  unfold round
  rw [if_neg (by omega)]
  omega
theorem fam_back {a b c d e f : Int} (h : FamOk a b c d e f) : backE (fam a b c d e f) = (famBack a b c d e f, 0) := by
  have ha : (fam a b c d e f).area = 4294967296 := by
    unfold M.area fam
    simp only
    have h1 : 65536 * a * (65536 * d) = 4294967296 * (a * d) := by grind
    have h2 : 65536 * b * (65536 * c) = 4294967296 * (b * c) := by grind
    have h3 := h.det
    rw [h1, h2]
    omega
  have e4 : (fam a b c d e f).back4 = ⟨65536 * d, -(65536 * b), -(65536 * c), 65536 * a, 0, 0⟩ := by
    unfold M.back4
    rw [ha]
    unfold fam
    simp only [M.mk.injEq, and_true]
    refine ⟨round_whole d, ?_, ?_, round_whole a⟩
    · rw [show -(65536 * b) = 65536 * (-b) by omega, round_whole]
    · rw [show -(65536 * c) = 65536 * (-c) by omega, round_whole]
  have eb : (fam a b c d e f).back = famBack a b c d e f := by
    unfold M.back
    rw [e4]
    unfold fam famBack near slopeU slopeV
    simp only [M.mk.injEq, true_and]
    have h1 : 65536 * d * e = 65536 * (d * e) := Int.mul_assoc _ _ _
    have h2 : -(65536 * b) * f = -(65536 * (b * f)) := by rw [Int.neg_mul, Int.mul_assoc]
    have h3 : -(65536 * c) * e = -(65536 * (c * e)) := by rw [Int.neg_mul, Int.mul_assoc]
    have h4 : 65536 * a * f = 65536 * (a * f) := Int.mul_assoc _ _ _
    rw [h1, h2, h3, h4]
    constructor <;> omega
  unfold backE
  rw [if_pos (fam_ok h), eb, if_pos ⟨by rw [ha]; decide, famBack_ok h⟩]
theorem fam_go (a b c d e f X Y : Int) : goU (famBack a b c d e f) X Y = d * (65536 * X + 32768 - e) - b * (65536 * Y + 32768 - f) ∧ goV (famBack a b c d e f) X Y = a * (65536 * Y + 32768 - f) - c * (65536 * X + 32768 - e) := by
  unfold goU goV slopeU slopeV famBack
  simp only
  have h1 : 65536 * d * (2 * X + 1) = 2 * (d * (65536 * X + 32768)) := by grind
  have h2 : -(65536 * b) * (2 * Y + 1) = 2 * (-(b * (65536 * Y + 32768))) := by grind
  have h3 : -(65536 * c) * (2 * X + 1) = 2 * (-(c * (65536 * X + 32768))) := by grind
  have h4 : 65536 * a * (2 * Y + 1) = 2 * (a * (65536 * Y + 32768)) := by grind
  rw [h1, h2, h3, h4]
  have k1 := Int.mul_sub d (65536 * X + 32768) e
  have k2 := Int.mul_sub b (65536 * Y + 32768) f
  have k3 := Int.mul_sub a (65536 * Y + 32768) f
  have k4 := Int.mul_sub c (65536 * X + 32768) e
  rw [k1, k2, k3, k4]
  constructor <;> omega
theorem fam_times {a b c d e f : Int} (h : FamOk a b c d e f) : FamOk b (-a) d (-c) e f ∧ timesE (fam a b c d e f) ⟨0, -65536, 65536, 0, 0, 0⟩ = (fam b (-a) d (-c) e f, 0) := by
  have h' : FamOk b (-a) d (-c) e f := by
    obtain ⟨det, ⟨a0, a1⟩, hb, ⟨c0, c1⟩, hd, he, hf⟩ := h
    refine ⟨?_, hb, ⟨by omega, by omega⟩, hd, ⟨by omega, by omega⟩, he, hf⟩
    rw [← det, Int.mul_neg, Int.neg_mul]
    omega
  have et : (fam a b c d e f).times ⟨0, -65536, 65536, 0, 0, 0⟩ = fam b (-a) d (-c) e f := by
    unfold M.times fam near slopeU slopeV
    simp only [M.mk.injEq]
    refine ⟨?_, ?_, ?_, ?_, ?_, ?_⟩ <;> omega
  refine ⟨h', ?_⟩
  unfold timesE
  rw [if_pos ⟨fam_ok h, by decide, by rw [et]; exact fam_ok h'⟩, et]
/-- What is seen lies near the picture. -/
theorem picAt_in {W H : Int} {zs : List Int} {x y : Int} (h : picAt W H zs x y ≠ 0) : 0 ≤ x ∧ x < W ∧ 0 ≤ y ∧ y < H := by
  unfold picAt at h
  by_cases g : x < 0 ∨ y < 0 ∨ W ≤ x ∨ H ≤ y
  · rw [if_pos g] at h; exact absurd rfl h
  · omega
theorem mixed_zero (s t : Int) : mixed s t 0 0 0 0 = 0 := by
  unfold mixed mixC p0 p1 p2 p3 join near
  simp
theorem look_sharp {W H : Int} {zs : List Int} {u v : Int} (h : look W H zs false u v ≠ 0) : 0 ≤ u ∧ u < 65536 * W ∧ 0 ≤ v ∧ v < 65536 * H := by
  have := picAt_in (show picAt W H zs (u / 65536) (v / 65536) ≠ 0 from h)
  omega
theorem look_soft {W H : Int} {zs : List Int} {u v : Int} (h : look W H zs true u v ≠ 0) : -32768 ≤ u ∧ u < 65536 * W + 32768 ∧ -32768 ≤ v ∧ v < 65536 * H + 32768 := by
  have h1 : smooth W H zs (u - 32768) (v - 32768) ≠ 0 := h
  unfold smooth at h1
  by_cases c1 : picAt W H zs ((u - 32768) / 65536) ((v - 32768) / 65536) = 0
  · by_cases c2 : picAt W H zs ((u - 32768) / 65536 + 1) ((v - 32768) / 65536) = 0
    · by_cases c3 : picAt W H zs ((u - 32768) / 65536) ((v - 32768) / 65536 + 1) = 0
      · by_cases c4 : picAt W H zs ((u - 32768) / 65536 + 1) ((v - 32768) / 65536 + 1) = 0
        · rw [c1, c2, c3, c4, mixed_zero] at h1
          exact absurd rfl h1
        · have := picAt_in c4; omega
      · have := picAt_in c3; omega
    · have := picAt_in c2; omega
  · have := picAt_in c1; omega
/-- A row of a quarter turn. -/
def Unit1 (a b : Int) : Prop := (a = 0 ∧ (b = 1 ∨ b = -1)) ∨ (b = 0 ∧ (a = 1 ∨ a = -1))
theorem mul_between (a : Int) {u U : Int} (h0 : 0 ≤ u) (h1 : u ≤ U) : min 0 (a * U) ≤ a * u ∧ a * u ≤ max 0 (a * U) := by
  rcases Int.le_total 0 a with h | h
  · have k1 := Int.mul_nonneg h h0
    have k2 := Int.mul_le_mul_of_nonneg_left h1 h
    omega
  · have k1 := Int.mul_nonneg (show 0 ≤ -a by omega) h0
    have k2 := Int.mul_le_mul_of_nonneg_left h1 (show 0 ≤ -a by omega)
    rw [Int.neg_mul] at k1
    rw [Int.neg_mul, Int.neg_mul] at k2
    omega
theorem row_sharp (a b e : Int) {u v U V : Int} (u0 : 0 ≤ u) (u1 : u ≤ U) (v0 : 0 ≤ v) (v1 : v ≤ V) :
    lo e (a * U + e) (b * V + e) (a * U + b * V + e) ≤ a * u + b * v + e ∧ a * u + b * v + e ≤ hi e (a * U + e) (b * V + e) (a * U + b * V + e) := by
  have h1 := mul_between a u0 u1
  have h2 := mul_between b v0 v1
  unfold lo hi
  generalize a * u = p at *
  generalize b * v = q at *
  generalize a * U = P at *
  generalize b * V = Q at *
  omega
theorem row_soft {a b : Int} (e : Int) (h : Unit1 a b) {u v U V : Int} (u0 : -32768 ≤ u) (u1 : u ≤ U + 32768) (v0 : -32768 ≤ v) (v1 : v ≤ V + 32768) (hU : 0 ≤ U) (hV : 0 ≤ V) :
    lo e (a * U + e) (b * V + e) (a * U + b * V + e) - 32768 ≤ a * u + b * v + e ∧ a * u + b * v + e ≤ hi e (a * U + e) (b * V + e) (a * U + b * V + e) + 32768 := by
  unfold lo hi
  rcases h with ⟨rfl, rfl | rfl⟩ | ⟨rfl, rfl | rfl⟩ <;> omega
theorem inv_row {a b c d : Int} (det : a * d - b * c = 1) (P Q : Int) : a * (d * P - b * Q) + b * (a * Q - c * P) = P ∧ c * (d * P - b * Q) + d * (a * Q - c * P) = Q := by
  have h1 : a * (d * P - b * Q) + b * (a * Q - c * P) = (a * d - b * c) * P := by grind
  have h2 : c * (d * P - b * Q) + d * (a * Q - c * P) = (a * d - b * c) * Q := by grind
  rw [h1, h2, det]
  omega
theorem lo_box {l X : Int} (h : l - 32768 ≤ 65536 * X + 32768) : l / 65536 - 1 ≤ X := by omega
theorem hi_box {l h X : Int} (k : 65536 * X + 32768 ≤ h + 32768) : X ≤ l / 65536 + (-(-h / 65536) - l / 65536) := by omega
theorem lo_up (e p q r s : Int) (h : r = s) : lo e p q r = lo e p q s := by rw [h]
/-- The corners of a picture, placed. -/
def bxU (m : M) (W H : Int) : Int := lo (placeU m 0 0) (placeU m (0 + W) 0) (placeU m 0 (0 + H)) (placeU m (0 + W) (0 + H))
def bxV (m : M) (W H : Int) : Int := lo (placeV m 0 0) (placeV m (0 + W) 0) (placeV m 0 (0 + H)) (placeV m (0 + W) (0 + H))
def byU (m : M) (W H : Int) : Int := hi (placeU m 0 0) (placeU m (0 + W) 0) (placeU m 0 (0 + H)) (placeU m (0 + W) (0 + H))
def byV (m : M) (W H : Int) : Int := hi (placeV m 0 0) (placeV m (0 + W) 0) (placeV m 0 (0 + H)) (placeV m (0 + W) (0 + H))
theorem corners (a b c d e f W H : Int) : bxU (fam a b c d e f) W H = lo e (a * (65536 * W) + e) (b * (65536 * H) + e) (a * (65536 * W) + b * (65536 * H) + e) ∧
    byU (fam a b c d e f) W H = hi e (a * (65536 * W) + e) (b * (65536 * H) + e) (a * (65536 * W) + b * (65536 * H) + e) ∧
    bxV (fam a b c d e f) W H = lo f (c * (65536 * W) + f) (d * (65536 * H) + f) (c * (65536 * W) + d * (65536 * H) + f) ∧
    byV (fam a b c d e f) W H = hi f (c * (65536 * W) + f) (d * (65536 * H) + f) (c * (65536 * W) + d * (65536 * H) + f) := by
  unfold bxU byU bxV byV placeU placeV slopeU slopeV fam
  simp only [Int.mul_zero, Int.zero_add, Int.add_zero]
  have h1 : 65536 * a * W = a * (65536 * W) := by grind
  have h2 : 65536 * b * H = b * (65536 * H) := by grind
  have h3 : 65536 * c * W = c * (65536 * W) := by grind
  have h4 : 65536 * d * H = d * (65536 * H) := by grind
  rw [h1, h2, h3, h4]
  exact ⟨rfl, rfl, rfl, rfl⟩
theorem inside {W H : Int} {zs : List Int} (hW : 0 ≤ W) (hH : 0 ≤ H) {a b c d e f : Int} (h : FamOk a b c d e f) (s : Bool) (hs : s = true → Unit1 a b ∧ Unit1 c d) {X Y : Int} (hv : seen W H zs (famBack a b c d e f) s X Y ≠ 0) :
    (bxU (fam a b c d e f) W H / 65536 - 1 ≤ X ∧ X ≤ bxU (fam a b c d e f) W H / 65536 + (-(-byU (fam a b c d e f) W H / 65536) - bxU (fam a b c d e f) W H / 65536)) ∧
    (bxV (fam a b c d e f) W H / 65536 - 1 ≤ Y ∧ Y ≤ bxV (fam a b c d e f) W H / 65536 + (-(-byV (fam a b c d e f) W H / 65536) - bxV (fam a b c d e f) W H / 65536)) := by
  obtain ⟨k1, k2, k3, k4⟩ := corners a b c d e f W H
  rw [k1, k2, k3, k4]
  obtain ⟨g1, g2⟩ := fam_go a b c d e f X Y
  obtain ⟨i1, i2⟩ := inv_row h.det (65536 * X + 32768 - e) (65536 * Y + 32768 - f)
  rw [← g1, ← g2] at i1 i2
  unfold seen at hv
  generalize goU (famBack a b c d e f) X Y = u at *
  generalize goV (famBack a b c d e f) X Y = v at *
  clear k1 k2 k3 k4 g1 g2
  cases s
  · obtain ⟨u0, u1, v0, v1⟩ := look_sharp hv
    have r1 := row_sharp a b e u0 (Int.le_of_lt u1) v0 (Int.le_of_lt v1)
    have r2 := row_sharp c d f u0 (Int.le_of_lt u1) v0 (Int.le_of_lt v1)
    refine ⟨⟨lo_box ?_, hi_box ?_⟩, lo_box ?_, hi_box ?_⟩ <;> omega
  · obtain ⟨u0, u1, v0, v1⟩ := look_soft hv
    obtain ⟨s1, s2⟩ := hs rfl
    have r1 := row_soft e s1 u0 (Int.le_of_lt u1) v0 (Int.le_of_lt v1) (by omega) (by omega)
    have r2 := row_soft f s2 u0 (Int.le_of_lt u1) v0 (Int.le_of_lt v1) (by omega) (by omega)
    refine ⟨⟨lo_box ?_, hi_box ?_⟩, lo_box ?_, hi_box ?_⟩ <;> omega
theorem unit_turn {a b : Int} (h : Unit1 a b) : Unit1 b (-a) := by
  unfold Unit1 at *
  omega
end Af
end Go.Proofs.Ytfcndldobjpbnaa
