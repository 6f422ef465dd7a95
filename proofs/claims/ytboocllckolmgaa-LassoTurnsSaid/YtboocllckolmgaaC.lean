/- How many pixels of a row send rays that meet a side. -/
import Derived.Test.YtboocllckolmgaaB
namespace Go.Proofs.Ytboocllckolmgaa
open Go.RowKit
set_option linter.unusedVariables false

theorem mul_small {a b : Int} (ha : a.natAbs ≤ 2 ^ 23) (hb : b.natAbs ≤ 2 ^ 23) : (a * b).natAbs < 2 ^ 52 := by
  rw [Int.natAbs_mul]
  exact Nat.lt_of_le_of_lt (Nat.mul_le_mul ha hb) (by decide)

theorem cmul {x y u v : Nat} {a b c d : Int} (hx : Fl x a) (hy : Fl y b) (hu : Fl u c) (hv : Fl v d) (h1 : (a * d).natAbs < 2 ^ 52) (h2 : (b * c).natAbs < 2 ^ 52) (h3 : (a * c).natAbs < 2 ^ 52) (h4 : (b * d).natAbs < 2 ^ 52) :
    ∃ r s, cMulBits x y u v = some (r, s) ∧ Fl r (a * c - b * d) ∧ Fl s (a * d + b * c) := by
  have k : (2 : Nat) ^ 53 = 2 * 2 ^ 52 := by decide
  obtain ⟨r1, q1, f1⟩ := hx.mul hu (by omega)
  obtain ⟨r2, q2, f2⟩ := hy.mul hv (by omega)
  obtain ⟨r3, q3, f3⟩ := f1.sub f2 (by omega)
  obtain ⟨r4, q4, f4⟩ := hx.mul hv (by omega)
  obtain ⟨r5, q5, f5⟩ := hy.mul hu (by omega)
  obtain ⟨r6, q6, f6⟩ := f4.add f5 (by omega)
  refine ⟨r3, r6, ?_, f3, f6⟩
  unfold cMulBits
  simp only [q1, q2, q3, q4, q5, q6, Option.bind_some]
theorem cadd {x y u v : Nat} {a b c d : Int} (hx : Fl x a) (hy : Fl y b) (hu : Fl u c) (hv : Fl v d) (h1 : (a + c).natAbs < 2 ^ 53) (h2 : (b + d).natAbs < 2 ^ 53) :
    ∃ r s, cSumBits .add .f64 x y u v = some (r, s) ∧ Fl r (a + c) ∧ Fl s (b + d) := by
  obtain ⟨r1, q1, f1⟩ := hx.add hu h1
  obtain ⟨r2, q2, f2⟩ := hy.add hv h2
  refine ⟨r1, r2, ?_, f1, f2⟩
  unfold cSumBits
  simp only [q1, q2, Option.bind_some]
theorem csub {x y u v : Nat} {a b c d : Int} (hx : Fl x a) (hy : Fl y b) (hu : Fl u c) (hv : Fl v d) (h1 : (a - c).natAbs < 2 ^ 53) (h2 : (b - d).natAbs < 2 ^ 53) :
    ∃ r s, cSumBits .sub .f64 x y u v = some (r, s) ∧ Fl r (a - c) ∧ Fl s (b - d) := by
  obtain ⟨r1, q1, f1⟩ := hx.sub hu h1
  obtain ⟨r2, q2, f2⟩ := hy.sub hv h2
  refine ⟨r1, r2, ?_, f1, f2⟩
  unfold cSumBits
  simp only [q1, q2, Option.bind_some]

theorem fl_two : Fl 4611686018427387904 2 := by
  have h := of_int 2 (by decide)
  have e : floatOfInt .f64 2 = 4611686018427387904 := by decide +kernel
  rwa [e] at h
theorem fl_one : Fl 4607182418800017408 1 := by
  have h := of_int 1 (by decide)
  have e : floatOfInt .f64 1 = 4607182418800017408 := by decide +kernel
  rwa [e] at h
theorem twice {x y : Nat} {a b : Int} (hx : Fl x a) (hy : Fl y b) (h1 : a.natAbs ≤ 2 ^ 23) (h2 : b.natAbs ≤ 2 ^ 23) :
    ∃ r s, cMulBits 4611686018427387904 0 x y = some (r, s) ∧ Fl r (2 * a) ∧ Fl s (2 * b) := by
  obtain ⟨r, s, h, f, g⟩ := cmul fl_two fl_zero hx hy (mul_small (by decide) h2) (mul_small (by decide) h1) (mul_small (by decide) h1) (mul_small (by decide) h2)
  refine ⟨r, s, h, ?_, ?_⟩
  · rwa [Int.zero_mul, Int.sub_zero] at f
  · rwa [Int.zero_mul, Int.add_zero] at g

/-- The product that tells on which side of a side a pixel's middle lies; how much it falls with each pixel. -/
def aheadZ (l u : Pt) (q : Pt) : Int := (2 * l.X - (2 * q.X + 1)) * (2 * u.Y - (2 * q.Y + 1)) - (2 * l.Y - (2 * q.Y + 1)) * (2 * u.X - (2 * q.X + 1))
def stepZ (l u : Pt) : Int := 4 * (u.Y - l.Y)
/-- Of a side that goes up. -/
def halfZ (l u : Pt) (q : Pt) : Int := if q.Y < l.Y ∨ u.Y ≤ q.Y then 0 else max ((aheadZ l u q + stepZ l u - 1).tdiv (stepZ l u)) 0
def reachZ (a b : Pt) (q : Pt) : Int := if b.Y < a.Y then halfZ b a q else halfZ a b q

/-- What the program has of a side, seen from a pixel's middle. -/
theorem seen {q p : Pt} (hq : near q = true) (hp : near p = true) {m1 m2 : Nat} (h1 : Fl m1 (2 * q.X + 1)) (h2 : Fl m2 (2 * q.Y + 1)) :
    ∃ r s u v, cMulBits 4611686018427387904 0 (fb p.X) (fb p.Y) = some (r, s) ∧ cSumBits .sub .f64 r s m1 m2 = some (u, v) ∧ Fl u (2 * p.X - (2 * q.X + 1)) ∧ Fl v (2 * p.Y - (2 * q.Y + 1)) := by
  have hq := near_iff.1 hq
  have hp' := near_iff.1 hp
  unfold near at hp
  rw [Bool.and_eq_true] at hp
  obtain ⟨r, s, e1, f1, f2⟩ := twice (fb_fl hp.1) (fb_fl hp.2) (by omega) (by omega)
  obtain ⟨u, v, e2, g1, g2⟩ := csub f1 f2 h1 h2 (by omega) (by omega)
  exact ⟨r, s, u, v, e1, e2, g1, g2⟩
theorem middle {q : Pt} (hq : near q = true) :
    ∃ r s u v, cMulBits 4611686018427387904 0 (fb q.X) (fb q.Y) = some (r, s) ∧ cSumBits .add .f64 r s 4607182418800017408 4607182418800017408 = some (u, v) ∧ Fl u (2 * q.X + 1) ∧ Fl v (2 * q.Y + 1) := by
  have hq' := near_iff.1 hq
  unfold near at hq
  rw [Bool.and_eq_true] at hq
  obtain ⟨r, s, e1, f1, f2⟩ := twice (fb_fl hq.1) (fb_fl hq.2) (by omega) (by omega)
  obtain ⟨u, v, e2, g1, g2⟩ := cadd f1 f2 fl_one fl_one (by omega) (by omega)
  exact ⟨r, s, u, v, e1, e2, g1, g2⟩

theorem order_gt {x y : Nat} {a b : Int} (h : Fl x a) (g : Fl y b) : (FloatKind.f64.format.order x y == some Ordering.gt) = decide (b < a) := h.gt g
theorem order_lt {x y : Nat} {a b : Int} (h : Fl x a) (g : Fl y b) : (FloatKind.f64.format.order x y == some Ordering.lt) = decide (a < b) := h.lt g

/-- a number and the old memory as it was -/
def SaysN (n : Int) (w : World) (e : Ending) (w' : World) : Prop := e = .returned (.int .i64 n) ∧ Below w.heap.size w w'

/-- The numbers at the end. -/
theorem tail_num {l u q : Pt} (hl : near l = true) (hu : near u = true) (hq : near q = true) (h1 : ¬ q.Y < l.Y) (h2 : ¬ u.Y ≤ q.Y) :
    halfZ l u q = max ((aheadZ l u q + stepZ l u - 1).tdiv (stepZ l u)) 0 ∧ 1 ≤ stepZ l u ∧ stepZ l u ≤ 33554432 ∧ (aheadZ l u q).natAbs < 2 ^ 53 := by
  have hl := near_iff.1 hl
  have hu := near_iff.1 hu
  have hq := near_iff.1 hq
  refine ⟨?_, ?_, ?_, ?_⟩
  · unfold halfZ; rw [if_neg (by omega)]
  · unfold stepZ; omega
  · unfold stepZ; omega
  · unfold aheadZ
    have k1 := mul_small (a := 2 * l.X - (2 * q.X + 1)) (b := 2 * u.Y - (2 * q.Y + 1)) (by omega) (by omega)
    have k2 := mul_small (a := 2 * l.Y - (2 * q.Y + 1)) (b := 2 * u.X - (2 * q.X + 1)) (by omega) (by omega)
    generalize (2 * l.X - (2 * q.X + 1)) * (2 * u.Y - (2 * q.Y + 1)) = z1 at *
    generalize (2 * l.Y - (2 * q.Y + 1)) * (2 * u.X - (2 * q.X + 1)) = z2 at *
    have k : (2 : Nat) ^ 53 = 2 * 2 ^ 52 := by decide
    omega

theorem below_drewN {B : Nat} {w w' : World} (h : Below B w w') (n : Nat) : Below B w (w'.drewN n) := ⟨h.os, h.tape, h.output, h.size, h.block⟩
theorem box_two (w : World) (u v : Value) (o1 o2 : Obj) : (((w.alloc (.cells #[u, v] 57)).alloc o1).alloc o2).cell? ⟨w.heap.size, 0, none⟩ = some u ∧ (((w.alloc (.cells #[u, v] 57)).alloc o1).alloc o2).cell? ⟨w.heap.size, 1, none⟩ = some v := by
  have h : ∀ k x, (w.alloc (.cells #[u, v] 57)).cell? ⟨w.heap.size, k, none⟩ = some x → (((w.alloc (.cells #[u, v] 57)).alloc o1).alloc o2).cell? ⟨w.heap.size, k, none⟩ = some x := by
    intro k x hx
    have b : Below (w.heap.size + 1) (w.alloc (.cells #[u, v] 57)) (((w.alloc (.cells #[u, v] 57)).alloc o1).alloc o2) := ((Below.refl _ _).alloc (by simp) _).alloc (by simp) _
    exact (World.cell?_of_block (w := w.alloc (.cells #[u, v] 57)) (b.block _ (by simp))).trans hx
  refine ⟨h 0 u ?_, h 1 v ?_⟩ <;> (rw [World.cell?_alloc_mark]; rfl)
theorem quo_small {n d : Int} (h0 : -4611686018427387904 ≤ n) (h1 : n ≤ 4611686018427387904) (hd : 1 ≤ d) : IntKind.i64.wrap (n.tdiv d) = n.tdiv d ∧ (-9223372036854775808 ≤ n.tdiv d ∧ n.tdiv d ≤ 9223372036854775807) := by
  have hb : -9223372036854775808 ≤ n.tdiv d ∧ n.tdiv d ≤ 9223372036854775807 := by
    have h2 : (n.tdiv d).natAbs ≤ n.natAbs := by
      rw [Int.natAbs_tdiv]; exact Nat.div_le_self _ _
    omega
  exact ⟨wrap_i64 _ hb.1 hb.2, hb⟩

theorem reach_plain (w : World) (a b q : Pt) (ha : near a = true) (hb : near b = true) (hq : near q = true) (hs : ¬ b.Y < a.Y) :
    Calls Try.prog 26 #[.agg #[.complex .f64 (fb a.X) (fb a.Y), .complex .f64 (fb b.X) (fb b.Y)], .agg #[.int .i64 q.X, .int .i64 q.Y]] w (SaysN (halfZ a b q) w) := by
  obtain ⟨r0, s0, m1, m2, e1, e2, M1, M2⟩ := middle hq
  obtain ⟨r1, s1, f1, f2, e3, e4, F1, F2⟩ := seen hq ha M1 M2
  obtain ⟨r2, s2, t1, t2, e5, e6, T1, T2⟩ := seen hq hb M1 M2
  have g1 : ∀ (t : TypeId) (w : World), (binOp .mul t (.complex .f64 4611686018427387904 0) (.complex .f64 (fb q.X) (fb q.Y))).run Try.prog w = .ok (.complex .f64 r0 s0) w := fun t w => run_complex_mul w t _ _ _ _ _ _ e1
  have g2 : ∀ (t : TypeId) (w : World), (binOp .add t (.complex .f64 r0 s0) (.complex .f64 4607182418800017408 4607182418800017408)).run Try.prog w = .ok (.complex .f64 m1 m2) w := fun t w => run_complex_sum w .add (.inl rfl) t _ _ _ _ _ _ _ e2
  have g3 : ∀ (t : TypeId) (w : World), (binOp .mul t (.complex .f64 4611686018427387904 0) (.complex .f64 (fb a.X) (fb a.Y))).run Try.prog w = .ok (.complex .f64 r1 s1) w := fun t w => run_complex_mul w t _ _ _ _ _ _ e3
  have g4 : ∀ (t : TypeId) (w : World), (binOp .sub t (.complex .f64 r1 s1) (.complex .f64 m1 m2)).run Try.prog w = .ok (.complex .f64 f1 f2) w := fun t w => run_complex_sum w .sub (.inr rfl) t _ _ _ _ _ _ _ e4
  have g5 : ∀ (t : TypeId) (w : World), (binOp .mul t (.complex .f64 4611686018427387904 0) (.complex .f64 (fb b.X) (fb b.Y))).run Try.prog w = .ok (.complex .f64 r2 s2) w := fun t w => run_complex_mul w t _ _ _ _ _ _ e5
  have g6 : ∀ (t : TypeId) (w : World), (binOp .sub t (.complex .f64 r2 s2) (.complex .f64 m1 m2)).run Try.prog w = .ok (.complex .f64 t1 t2) w := fun t w => run_complex_sum w .sub (.inr rfl) t _ _ _ _ _ _ _ e6
  have o1 : (FloatKind.f64.format.order f2 t2 == some Ordering.gt) = false := by rw [order_gt F2 T2]; simp; omega
  have CN := Lib.hid (number_any ((w.alloc (.cells #[.complex .f64 (fb a.X) (fb a.Y), .complex .f64 (fb b.X) (fb b.Y)] 57)).alloc (.cells #[.int .i64 q.X, .int .i64 q.Y] 37)) q)
  have HB := Lib.hid (show Below w.heap.size w (((w.alloc (.cells #[.complex .f64 (fb a.X) (fb a.Y), .complex .f64 (fb b.X) (fb b.Y)] 57)).alloc (.cells #[.int .i64 q.X, .int .i64 q.Y] 37)).alloc (.cells #[.int .i64 q.X, .int .i64 q.Y] 37)) from (((Below.refl _ _).alloc (Nat.le_refl _) _).alloc (by simp) _).alloc (by simp; omega) _)
  clear e1 e2 e3 e4 e5 e6 M1 M2
  by_cases h1 : q.Y < a.Y
  · have o2 : (FloatKind.f64.format.order f2 0 == some Ordering.gt) = true := by rw [order_gt F2 fl_zero]; simp; omega
    have hz : halfZ a b q = 0 := by unfold halfZ; rw [if_pos (.inl h1)]
    rw [hz]
    clear F1 F2 T1 T2 hz h1 hs ha hb hq
    go_enter Try.func26, Try.ntmps26
    go_wp2_with fail
    refine CN.out.mono ?_
    rintro e w4 ⟨rfl, h4⟩
    have HB4 := Lib.hid (show Below w.heap.size w w4 from h4 ▸ HB.out)
    have c0 : w4.cell? ⟨w.heap.size, 0, none⟩ = some (.complex .f64 (fb a.X) (fb a.Y)) := by rw [h4]; exact (box_two w _ _ _ _).1
    have c1 : w4.cell? ⟨w.heap.size, 1, none⟩ = some (.complex .f64 (fb b.X) (fb b.Y)) := by rw [h4]; exact (box_two w _ _ _ _).2
    clear h4 HB CN
    go_wp2_with fail
    go_quiet (fail)
    clear c0 c1 g1 g2 g3 g4 g5 g6
    go_wp2_with fail
    go_ret
    exact ⟨rfl, below_drewN HB4.out _⟩
  · have o2 : (FloatKind.f64.format.order f2 0 == some Ordering.gt) = false := by rw [order_gt F2 fl_zero]; simp; omega
    by_cases h2 : b.Y ≤ q.Y
    · have o3 : (FloatKind.f64.format.order t2 0 == some Ordering.lt) = true := by rw [order_lt T2 fl_zero]; simp; omega
      have hz : halfZ a b q = 0 := by unfold halfZ; rw [if_pos (.inr h2)]
      rw [hz]
      clear F1 F2 T1 T2 hz h1 h2 hs ha hb hq
      go_enter Try.func26, Try.ntmps26
      go_wp2_with fail
      refine CN.out.mono ?_
      rintro e w4 ⟨rfl, h4⟩
      have HB4 := Lib.hid (show Below w.heap.size w w4 from h4 ▸ HB.out)
      have c0 : w4.cell? ⟨w.heap.size, 0, none⟩ = some (.complex .f64 (fb a.X) (fb a.Y)) := by rw [h4]; exact (box_two w _ _ _ _).1
      have c1 : w4.cell? ⟨w.heap.size, 1, none⟩ = some (.complex .f64 (fb b.X) (fb b.Y)) := by rw [h4]; exact (box_two w _ _ _ _).2
      clear h4 HB CN
      go_wp2_with fail
      go_quiet (fail)
      clear c0 c1 g1 g2 g3 g4 g5 g6
      go_wp2_with fail
      go_ret
      exact ⟨rfl, below_drewN HB4.out _⟩
    · have o3 : (FloatKind.f64.format.order t2 0 == some Ordering.lt) = false := by rw [order_lt T2 fl_zero]; simp; omega
      obtain ⟨hz, st1, st2, ah⟩ := tail_num (l := a) (u := b) (q := q) ha hb hq h1 h2
      rw [hz]
      have na := near_iff.1 ha
      have nb := near_iff.1 hb
      have nq := near_iff.1 hq
      obtain ⟨d1, d2, e7, D1, D2⟩ := csub T1 T2 F1 F2 (by omega) (by omega)
      obtain ⟨d3, e8, D3⟩ := fl_two.mul D2 (by omega)
      have D4 : Fl d3 (stepZ a b) := by
        have : 2 * ((2 * b.Y - (2 * q.Y + 1)) - (2 * a.Y - (2 * q.Y + 1))) = stepZ a b := by unfold stepZ; omega
        rwa [this] at D3
      obtain ⟨r, R, CA⟩ : ∃ r, Fl r (aheadZ a b q) ∧ ∀ w, Calls Try.prog 32 #[.complex .f64 f1 f2, .complex .f64 t1 t2] w (fun e w' => e = .returned (.float .f64 r) ∧ w' = w) := by
        exact across_any f1 f2 t1 t2 _ _ _ _ F1 F2 T1 T2 (mul_small (by omega) (by omega)) (mul_small (by omega) (by omega)) (mul_small (by omega) (by omega)) (mul_small (by omega) (by omega))
      have v1 := R.toInt ah
      have v2 := D4.toInt (by omega)
      have g7 : ∀ (t : TypeId) (w : World), (binOp .sub t (.complex .f64 t1 t2) (.complex .f64 f1 f2)).run Try.prog w = .ok (.complex .f64 d1 d2) w := fun t w => run_complex_sum w .sub (.inr rfl) t _ _ _ _ _ _ _ e7
      have g8 : ∀ (t : TypeId) (w : World), (binOp .mul t (.float .f64 4611686018427387904) (.float .f64 d2)).run Try.prog w = .ok (.float .f64 d3) w := fun t w => run_float_arith w .mul t .f64 _ _ _ e8
      have g9 : ∀ w : World, (convert 64 3 (.float .f64 r)).run Try.prog w = .ok (.int .i64 (aheadZ a b q)) w := fun w => run_convert_float_int w 64 3 .f64 .i64 r _ (by kernel_rfl) Try.underlying3 v1
      have g10 : ∀ w : World, (convert 64 3 (.float .f64 d3)).run Try.prog w = .ok (.int .i64 (stepZ a b)) w := fun w => run_convert_float_int w 64 3 .f64 .i64 d3 _ (by kernel_rfl) Try.underlying3 v2
      clear F1 F2 T1 T2 hz h1 h2 hs ha hb hq v1 v2 e7 e8 D1 D2 D3 D4 R na nb nq
      generalize aheadZ a b q = A at *
      generalize stepZ a b = S at *
      have q1 : IntKind.i64.wrap (A + S) = A + S := wrap_i64 _ (by omega) (by omega)
      have q2 : IntKind.i64.wrap (A + S - 1) = A + S - 1 := wrap_i64 _ (by omega) (by omega)
      obtain ⟨q3, q4⟩ := quo_small (n := A + S - 1) (d := S) (by omega) (by omega) (by omega)
      have q5 : ¬ S = 0 := by omega
      clear st2 ah
      generalize hQ : (A + S - 1).tdiv S = Q at *
      have CAH := Lib.hid CA
      clear CA
      go_enter Try.func26, Try.ntmps26
      go_wp2_with fail
      refine CN.out.mono ?_
      rintro e w4 ⟨rfl, h4⟩
      have HB4 := Lib.hid (show Below w.heap.size w w4 from h4 ▸ HB.out)
      have c0 : w4.cell? ⟨w.heap.size, 0, none⟩ = some (.complex .f64 (fb a.X) (fb a.Y)) := by rw [h4]; exact (box_two w _ _ _ _).1
      have c1 : w4.cell? ⟨w.heap.size, 1, none⟩ = some (.complex .f64 (fb b.X) (fb b.Y)) := by rw [h4]; exact (box_two w _ _ _ _).2
      clear h4 HB CN
      go_wp2_with fail
      go_quiet (fail)
      clear c0 c1 g1 g2 g3 g4 g5 g6
      go_wp2_with fail
      refine (CAH.out _).mono ?_
      rintro e w5 ⟨rfl, rfl⟩
      go_wp2_with fail
      · rw [show max Q 0 = 0 by omega]
        go_ret
        exact ⟨rfl, below_drewN HB4.out _⟩
      · rw [show max Q 0 = Q by omega]
        go_ret
        exact ⟨rfl, below_drewN HB4.out _⟩

theorem reach_swap (w : World) (a b q : Pt) (ha : near a = true) (hb : near b = true) (hq : near q = true) (hs : b.Y < a.Y) :
    Calls Try.prog 26 #[.agg #[.complex .f64 (fb a.X) (fb a.Y), .complex .f64 (fb b.X) (fb b.Y)], .agg #[.int .i64 q.X, .int .i64 q.Y]] w (SaysN (halfZ b a q) w) := by
  obtain ⟨r0, s0, m1, m2, e1, e2, M1, M2⟩ := middle hq
  obtain ⟨r1, s1, f1, f2, e3, e4, F1, F2⟩ := seen hq ha M1 M2
  obtain ⟨r2, s2, t1, t2, e5, e6, T1, T2⟩ := seen hq hb M1 M2
  have g1 : ∀ (t : TypeId) (w : World), (binOp .mul t (.complex .f64 4611686018427387904 0) (.complex .f64 (fb q.X) (fb q.Y))).run Try.prog w = .ok (.complex .f64 r0 s0) w := fun t w => run_complex_mul w t _ _ _ _ _ _ e1
  have g2 : ∀ (t : TypeId) (w : World), (binOp .add t (.complex .f64 r0 s0) (.complex .f64 4607182418800017408 4607182418800017408)).run Try.prog w = .ok (.complex .f64 m1 m2) w := fun t w => run_complex_sum w .add (.inl rfl) t _ _ _ _ _ _ _ e2
  have g3 : ∀ (t : TypeId) (w : World), (binOp .mul t (.complex .f64 4611686018427387904 0) (.complex .f64 (fb a.X) (fb a.Y))).run Try.prog w = .ok (.complex .f64 r1 s1) w := fun t w => run_complex_mul w t _ _ _ _ _ _ e3
  have g4 : ∀ (t : TypeId) (w : World), (binOp .sub t (.complex .f64 r1 s1) (.complex .f64 m1 m2)).run Try.prog w = .ok (.complex .f64 f1 f2) w := fun t w => run_complex_sum w .sub (.inr rfl) t _ _ _ _ _ _ _ e4
  have g5 : ∀ (t : TypeId) (w : World), (binOp .mul t (.complex .f64 4611686018427387904 0) (.complex .f64 (fb b.X) (fb b.Y))).run Try.prog w = .ok (.complex .f64 r2 s2) w := fun t w => run_complex_mul w t _ _ _ _ _ _ e5
  have g6 : ∀ (t : TypeId) (w : World), (binOp .sub t (.complex .f64 r2 s2) (.complex .f64 m1 m2)).run Try.prog w = .ok (.complex .f64 t1 t2) w := fun t w => run_complex_sum w .sub (.inr rfl) t _ _ _ _ _ _ _ e6
  have o1 : (FloatKind.f64.format.order f2 t2 == some Ordering.gt) = true := by rw [order_gt F2 T2]; simp; omega
  have CN := Lib.hid (number_any ((w.alloc (.cells #[.complex .f64 (fb a.X) (fb a.Y), .complex .f64 (fb b.X) (fb b.Y)] 57)).alloc (.cells #[.int .i64 q.X, .int .i64 q.Y] 37)) q)
  have HB := Lib.hid (show Below w.heap.size w (((w.alloc (.cells #[.complex .f64 (fb a.X) (fb a.Y), .complex .f64 (fb b.X) (fb b.Y)] 57)).alloc (.cells #[.int .i64 q.X, .int .i64 q.Y] 37)).alloc (.cells #[.int .i64 q.X, .int .i64 q.Y] 37)) from (((Below.refl _ _).alloc (Nat.le_refl _) _).alloc (by simp) _).alloc (by simp; omega) _)
  clear e1 e2 e3 e4 e5 e6 M1 M2
  by_cases h1 : q.Y < b.Y
  · have o2 : (FloatKind.f64.format.order t2 0 == some Ordering.gt) = true := by rw [order_gt T2 fl_zero]; simp; omega
    have hz : halfZ b a q = 0 := by unfold halfZ; rw [if_pos (.inl h1)]
    rw [hz]
    clear F1 F2 T1 T2 hz h1 hs ha hb hq
    go_enter Try.func26, Try.ntmps26
    go_wp2_with fail
    refine CN.out.mono ?_
    rintro e w4 ⟨rfl, h4⟩
    have HB4 := Lib.hid (show Below w.heap.size w w4 from h4 ▸ HB.out)
    have c0 : w4.cell? ⟨w.heap.size, 0, none⟩ = some (.complex .f64 (fb a.X) (fb a.Y)) := by rw [h4]; exact (box_two w _ _ _ _).1
    have c1 : w4.cell? ⟨w.heap.size, 1, none⟩ = some (.complex .f64 (fb b.X) (fb b.Y)) := by rw [h4]; exact (box_two w _ _ _ _).2
    clear h4 HB CN
    go_wp2_with fail
    go_quiet (fail)
    clear c0 c1 g1 g2 g3 g4 g5 g6
    go_wp2_with fail
    go_ret
    exact ⟨rfl, below_drewN HB4.out _⟩
  · have o2 : (FloatKind.f64.format.order t2 0 == some Ordering.gt) = false := by rw [order_gt T2 fl_zero]; simp; omega
    by_cases h2 : a.Y ≤ q.Y
    · have o3 : (FloatKind.f64.format.order f2 0 == some Ordering.lt) = true := by rw [order_lt F2 fl_zero]; simp; omega
      have hz : halfZ b a q = 0 := by unfold halfZ; rw [if_pos (.inr h2)]
      rw [hz]
      clear F1 F2 T1 T2 hz h1 h2 hs ha hb hq
      go_enter Try.func26, Try.ntmps26
      go_wp2_with fail
      refine CN.out.mono ?_
      rintro e w4 ⟨rfl, h4⟩
      have HB4 := Lib.hid (show Below w.heap.size w w4 from h4 ▸ HB.out)
      have c0 : w4.cell? ⟨w.heap.size, 0, none⟩ = some (.complex .f64 (fb a.X) (fb a.Y)) := by rw [h4]; exact (box_two w _ _ _ _).1
      have c1 : w4.cell? ⟨w.heap.size, 1, none⟩ = some (.complex .f64 (fb b.X) (fb b.Y)) := by rw [h4]; exact (box_two w _ _ _ _).2
      clear h4 HB CN
      go_wp2_with fail
      go_quiet (fail)
      clear c0 c1 g1 g2 g3 g4 g5 g6
      go_wp2_with fail
      go_ret
      exact ⟨rfl, below_drewN HB4.out _⟩
    · have o3 : (FloatKind.f64.format.order f2 0 == some Ordering.lt) = false := by rw [order_lt F2 fl_zero]; simp; omega
      obtain ⟨hz, st1, st2, ah⟩ := tail_num (l := b) (u := a) (q := q) hb ha hq h1 h2
      rw [hz]
      have na := near_iff.1 ha
      have nb := near_iff.1 hb
      have nq := near_iff.1 hq
      obtain ⟨d1, d2, e7, D1, D2⟩ := csub F1 F2 T1 T2 (by omega) (by omega)
      obtain ⟨d3, e8, D3⟩ := fl_two.mul D2 (by omega)
      have D4 : Fl d3 (stepZ b a) := by
        have : 2 * ((2 * a.Y - (2 * q.Y + 1)) - (2 * b.Y - (2 * q.Y + 1))) = stepZ b a := by unfold stepZ; omega
        rwa [this] at D3
      obtain ⟨r, R, CA⟩ : ∃ r, Fl r (aheadZ b a q) ∧ ∀ w, Calls Try.prog 32 #[.complex .f64 t1 t2, .complex .f64 f1 f2] w (fun e w' => e = .returned (.float .f64 r) ∧ w' = w) := by
        exact across_any t1 t2 f1 f2 _ _ _ _ T1 T2 F1 F2 (mul_small (by omega) (by omega)) (mul_small (by omega) (by omega)) (mul_small (by omega) (by omega)) (mul_small (by omega) (by omega))
      have v1 := R.toInt ah
      have v2 := D4.toInt (by omega)
      have g7 : ∀ (t : TypeId) (w : World), (binOp .sub t (.complex .f64 f1 f2) (.complex .f64 t1 t2)).run Try.prog w = .ok (.complex .f64 d1 d2) w := fun t w => run_complex_sum w .sub (.inr rfl) t _ _ _ _ _ _ _ e7
      have g8 : ∀ (t : TypeId) (w : World), (binOp .mul t (.float .f64 4611686018427387904) (.float .f64 d2)).run Try.prog w = .ok (.float .f64 d3) w := fun t w => run_float_arith w .mul t .f64 _ _ _ e8
      have g9 : ∀ w : World, (convert 64 3 (.float .f64 r)).run Try.prog w = .ok (.int .i64 (aheadZ b a q)) w := fun w => run_convert_float_int w 64 3 .f64 .i64 r _ (by kernel_rfl) Try.underlying3 v1
      have g10 : ∀ w : World, (convert 64 3 (.float .f64 d3)).run Try.prog w = .ok (.int .i64 (stepZ b a)) w := fun w => run_convert_float_int w 64 3 .f64 .i64 d3 _ (by kernel_rfl) Try.underlying3 v2
      clear F1 F2 T1 T2 hz h1 h2 hs ha hb hq v1 v2 e7 e8 D1 D2 D3 D4 R na nb nq
      generalize aheadZ b a q = A at *
      generalize stepZ b a = S at *
      have q1 : IntKind.i64.wrap (A + S) = A + S := wrap_i64 _ (by omega) (by omega)
      have q2 : IntKind.i64.wrap (A + S - 1) = A + S - 1 := wrap_i64 _ (by omega) (by omega)
      obtain ⟨q3, q4⟩ := quo_small (n := A + S - 1) (d := S) (by omega) (by omega) (by omega)
      have q5 : ¬ S = 0 := by omega
      clear st2 ah
      generalize hQ : (A + S - 1).tdiv S = Q at *
      have CAH := Lib.hid CA
      clear CA
      go_enter Try.func26, Try.ntmps26
      go_wp2_with fail
      refine CN.out.mono ?_
      rintro e w4 ⟨rfl, h4⟩
      have HB4 := Lib.hid (show Below w.heap.size w w4 from h4 ▸ HB.out)
      have c0 : w4.cell? ⟨w.heap.size, 0, none⟩ = some (.complex .f64 (fb a.X) (fb a.Y)) := by rw [h4]; exact (box_two w _ _ _ _).1
      have c1 : w4.cell? ⟨w.heap.size, 1, none⟩ = some (.complex .f64 (fb b.X) (fb b.Y)) := by rw [h4]; exact (box_two w _ _ _ _).2
      clear h4 HB CN
      go_wp2_with fail
      go_quiet (fail)
      clear c0 c1 g1 g2 g3 g4 g5 g6
      go_wp2_with fail
      refine (CAH.out _).mono ?_
      rintro e w5 ⟨rfl, rfl⟩
      go_wp2_with fail
      · rw [show max Q 0 = 0 by omega]
        go_ret
        exact ⟨rfl, below_drewN HB4.out _⟩
      · rw [show max Q 0 = Q by omega]
        go_ret
        exact ⟨rfl, below_drewN HB4.out _⟩

theorem reach_any (w : World) (a b q : Pt) (ha : near a = true) (hb : near b = true) (hq : near q = true) :
    Calls Try.prog 26 #[.agg #[.complex .f64 (fb a.X) (fb a.Y), .complex .f64 (fb b.X) (fb b.Y)], .agg #[.int .i64 q.X, .int .i64 q.Y]] w (SaysN (reachZ a b q) w) := by
  by_cases hs : b.Y < a.Y
  · have h := reach_swap w a b q ha hb hq hs
    unfold reachZ
    rwa [if_pos hs]
  · have h := reach_plain w a b q ha hb hq hs
    unfold reachZ
    rwa [if_neg hs]
end Go.Proofs.Ytboocllckolmgaa
