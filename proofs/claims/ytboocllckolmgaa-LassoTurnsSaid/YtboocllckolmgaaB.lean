/- A point as a complex number, and back; across. -/
import Derived.Test.YtboocllckolmgaaA
namespace Go.Proofs.Ytboocllckolmgaa
open Go.RowKit
set_option linter.unusedVariables false

/-- The float of a whole number. -/
def fb (n : Int) : Nat := floatOfInt .f64 n
theorem fb_fl {n : Int} (h : nearC n = true) : Fl (fb n) n := of_int n (by have := nearC_iff.1 h; omega)
/-- A point as a value. -/
def ptv (p : Pt) : Value := .agg #[.int .i64 p.X, .int .i64 p.Y]
/-- A point as a complex number. -/
def cx (p : Pt) : Value := .complex .f64 (fb p.X) (fb p.Y)
/-- A point as a block. -/
def ptb (p : Pt) : Obj := .cells #[.int .i64 p.X, .int .i64 p.Y] 37

theorem number_any (w : World) (p : Pt) : Calls Try.prog 31 #[.agg #[.int .i64 p.X, .int .i64 p.Y]] w (fun e w' => e = .returned (.complex .f64 (fb p.X) (fb p.Y)) ∧ w' = w.alloc (.cells #[.int .i64 p.X, .int .i64 p.Y] 37)) := by
  go_enter Try.func31, Try.ntmps31
  go_wp2_with fail
  go_ret
  exact ⟨rfl, rfl⟩

theorem neg_float (x : Nat) : Op.unary .neg (.float .f64 x) = pure (.float .f64 (Op.negFloat .f64 x)) := rfl

theorem back_any (w : World) (x y : Nat) : Calls Try.prog 35 #[.complex .f64 x y] w (fun e w' => e = .returned (.complex .f64 x (Op.negFloat .f64 y)) ∧ w' = w) := by
  have hn := neg_float y
  go_enter Try.func35, Try.ntmps35
  go_wp2_with fail
  go_ret
  exact ⟨rfl, rfl⟩

theorem point_any (w : World) (x y : Nat) (a b : Int) (hx : floatToIntVal .f64 x .i64 = some a) (hy : floatToIntVal .f64 y .i64 = some b) : Calls Try.prog 30 #[.complex .f64 x y] w (fun e w' => e = .returned (.agg #[.int .i64 a, .int .i64 b]) ∧ Below w.heap.size w w') := by
  have HB := Lib.hid (show Below w.heap.size w (w.alloc (.cells #[.int .i64 a, .int .i64 b] 37)) from (Below.refl _ _).alloc (Nat.le_refl _) _)
  have h1 : ∀ w : World, (convert 64 3 (.float .f64 x)).run Try.prog w = .ok (.int .i64 a) w := fun w => run_convert_float_int w 64 3 .f64 .i64 x a (by kernel_rfl) Try.underlying3 hx
  have h2 : ∀ w : World, (convert 64 3 (.float .f64 y)).run Try.prog w = .ok (.int .i64 b) w := fun w => run_convert_float_int w 64 3 .f64 .i64 y b (by kernel_rfl) Try.underlying3 hy
  go_enter Try.func30, Try.ntmps30
  go_wp2_with fail
  refine bodyPost_ret (results_cell_row rfl _ _ w.heap.size 37 #[.int .i64 a, .int .i64 b] (0, 0) _ rfl ?hg Try.underlying37 rfl (by kernel_rfl)) rfl ?_
  case hg => exact heap_alloc_new _ _
  exact ⟨rfl, HB.out⟩

/-- across, of floats that are whole numbers. -/
theorem across_any (x y u v : Nat) (a b c d : Int) (hx : Fl x a) (hy : Fl y b) (hu : Fl u c) (hv : Fl v d) (h1 : (a * d).natAbs < 2 ^ 52) (h2 : (b * c).natAbs < 2 ^ 52) (h3 : (a * c).natAbs < 2 ^ 52) (h4 : (b * d).natAbs < 2 ^ 52) :
    ∃ r, Fl r (a * d - b * c) ∧ ∀ w : World, Calls Try.prog 32 #[.complex .f64 x y, .complex .f64 u v] w (fun e w' => e = .returned (.float .f64 r) ∧ w' = w) := by
  have k : (2 : Nat) ^ 53 = 2 * 2 ^ 52 := by decide
  have e1 : (-b * c) = -(b * c) := Int.neg_mul ..
  have e2 : (-b * d) = -(b * d) := Int.neg_mul ..
  obtain ⟨r1, q1, f1⟩ := hx.mul hu (by omega)
  obtain ⟨r2, q2, f2⟩ := hy.neg.mul hv (by omega)
  obtain ⟨r3, q3, f3⟩ := f1.sub f2 (by omega)
  obtain ⟨r4, q4, f4⟩ := hx.mul hv (by omega)
  obtain ⟨r5, q5, f5⟩ := hy.neg.mul hu (by omega)
  obtain ⟨r6, q6, f6⟩ := f4.add f5 (by omega)
  refine ⟨r6, by rw [e1] at f6; exact f6, fun w => ?_⟩
  have hm : cMulBits x (Op.negFloat .f64 y) u v = some (r3, r6) := by
    unfold cMulBits
    simp only [q1, q2, q3, q4, q5, q6, Option.bind_some]
  have hr : ∀ (t : TypeId) (w : World), (binOp .mul t (.complex .f64 x (Op.negFloat .f64 y)) (.complex .f64 u v)).run Try.prog w = .ok (.complex .f64 r3 r6) w := fun t w => run_complex_mul w t _ _ _ _ _ _ hm
  have C := Lib.hid (back_any w x y)
  clear q1 q2 q3 q4 q5 q6 f1 f2 f3 f4 f5 f6 hm h1 h2 h3 h4 e1 e2 k hx hy hu hv
  generalize Op.negFloat .f64 y = z at *
  go_enter Try.func32, Try.ntmps32
  go_wp2_with fail
  refine C.out.mono ?_
  rintro e w1 ⟨rfl, rfl⟩
  go_wp2_with fail
  go_ret
  exact ⟨rfl, rfl⟩
end Go.Proofs.Ytboocllckolmgaa
