/- A pixel's numbers added, weighted; the mixture of four. -/
import Derived.Test.YtfcndldobjpbnaaR
namespace Go.Proofs.Ytfcndldobjpbnaa
open Go.RowKit Go.Maps
set_option linter.unusedVariables false

theorem at39_0 (x y z a : Int) (w : World) : (Instr.index 39 (.agg #[.int .i64 x, .int .i64 y, .int .i64 z, .int .i64 a]) (.int .i64 0)).run Try.prog w = .ok (.int .i64 x) w := by kernel_rfl
theorem at39_1 (x y z a : Int) (w : World) : (Instr.index 39 (.agg #[.int .i64 x, .int .i64 y, .int .i64 z, .int .i64 a]) (.int .i64 1)).run Try.prog w = .ok (.int .i64 y) w := by kernel_rfl
theorem at39_2 (x y z a : Int) (w : World) : (Instr.index 39 (.agg #[.int .i64 x, .int .i64 y, .int .i64 z, .int .i64 a]) (.int .i64 2)).run Try.prog w = .ok (.int .i64 z) w := by kernel_rfl
theorem at39_3 (x y z a : Int) (w : World) : (Instr.index 39 (.agg #[.int .i64 x, .int .i64 y, .int .i64 z, .int .i64 a]) (.int .i64 3)).run Try.prog w = .ok (.int .i64 a) w := by kernel_rfl
/-- Just the block S has been written. -/
abbrev Just (S : Nat) : Nat → Prop := fun k => k = S
theorem Four.just {w w' : World} {B S : Nat} {x y z a : Int} (h : Four w B x y z a) (k : Keeps (Just S) w w') (hn : B ≠ S) : Four w' B x y z a := (k.block B h.lt hn).trans h
theorem PicB.just {w w' : World} {B S ty : Nat} {W H : Int} {a : Option Addr} {n c : Nat} (h : PicB w B ty W H a n c) (k : Keeps (Just S) w w') (hn : B ≠ S) : PicB w' B ty W H a n c := (k.block B h.lt hn).trans h
def AddM (w : World) (S : Nat) (x y z a : Int) (wr : World) : Prop := Four wr S x y z a ∧ Keeps (Just S) w wr
theorem Four.drop {w w' : World} {B : Nat} {x y z a : Int} (h : Four w B x y z a) (k : Keeps none' w w') : Four w' B x y z a := h.later k
theorem keeps_just {S : Nat} {w w' : World} (k : Keeps none' w w') : Keeps (Just S) w w' := ⟨k.os, k.tape, k.output, k.size, fun i hi _ => k.later i hi⟩
def Room (x : Int) : Prop := 0 ≤ x ∧ x ≤ 1099511627776
def Added (S : Nat) (x y z a : Int) (w : World) (e : Ending) (w' : World) : Prop := e = .returned (.tuple #[]) ∧ AddM w S x y z a w'
set_option maxHeartbeats 1600000 in
theorem add_any (w : World) (S : Nat) (x y z a v k : Int) (hF : Four w S x y z a) (hv : Af.Num v) (hk : 0 ≤ k ∧ k ≤ 65536) (hx : Room x) (hy : Room y) (hz : Room z) (ha : Room a) :
    Calls Try.prog 47 #[.pointer (some ⟨S, 0, none⟩), .int .i64 v, .int .i64 k] w (Added S (x + Af.p0 v * k) (y + Af.p1 v * k) (z + Af.p2 v * k) (a + Af.p3 v * k) w) := by
  have SP := Lib.hid (split_any v hv w)
  have r0 := Af.p0_byte v
  have r1 := Af.p1_byte v
  have r2 := Af.p2_byte v
  have r3 := Af.p3_byte v
  have s0 : 0 ≤ Af.p0 v * k ∧ Af.p0 v * k ≤ 16711680 := ⟨Int.mul_nonneg r0.1 hk.1, by have := Int.mul_le_mul r0.2 hk.2 hk.1 (by omega); omega⟩
  have s1 : 0 ≤ Af.p1 v * k ∧ Af.p1 v * k ≤ 16711680 := ⟨Int.mul_nonneg r1.1 hk.1, by have := Int.mul_le_mul r1.2 hk.2 hk.1 (by omega); omega⟩
  have s2 : 0 ≤ Af.p2 v * k ∧ Af.p2 v * k ≤ 16711680 := ⟨Int.mul_nonneg r2.1 hk.1, by have := Int.mul_le_mul r2.2 hk.2 hk.1 (by omega); omega⟩
  have s3 : 0 ≤ Af.p3 v * k ∧ Af.p3 v * k ≤ 16711680 := ⟨Int.mul_nonneg r3.1 hk.1, by have := Int.mul_le_mul r3.2 hk.2 hk.1 (by omega); omega⟩
  generalize Af.p0 v = q0 at *
  generalize Af.p1 v = q1 at *
  generalize Af.p2 v = q2 at *
  generalize Af.p3 v = q3 at *
  have m0 := wrap_i64 (q0 * k) (by omega) (by omega)
  have n0 := wrap_i64 (x + q0 * k) (by unfold Room at *; omega) (by unfold Room at *; omega)
  have m1 := wrap_i64 (q1 * k) (by omega) (by omega)
  have n1 := wrap_i64 (y + q1 * k) (by unfold Room at *; omega) (by unfold Room at *; omega)
  have m2 := wrap_i64 (q2 * k) (by omega) (by omega)
  have n2 := wrap_i64 (z + q2 * k) (by unfold Room at *; omega) (by unfold Room at *; omega)
  have m3 := wrap_i64 (q3 * k) (by omega) (by omega)
  have n3 := wrap_i64 (a + q3 * k) (by unfold Room at *; omega) (by unfold Room at *; omega)
  clear r0 r1 r2 r3 s0 s1 s2 s3 hk hx hy hz ha hv
  have HF := Lib.hid hF
  clear hF
  go_enter Try.func47, Try.ntmps47
  go_wp2_with fail
  refine SP.out.mono ?_
  rintro e w1 ⟨rfl, hk1⟩
  have A0 := Lib.hid (show AddM w S x y z a w1 from ⟨HF.out.later hk1, keeps_just hk1⟩)
  clear hk1 SP HF
  go_wp2_with fail
  go_loopw [10] (Cnt4 (AddM w S x y z a) (AddM w S (x + q0 * k) y z a) (AddM w S (x + q0 * k) (y + q1 * k) z a) (AddM w S (x + q0 * k) (y + q1 * k) (z + q2 * k) a) (AddM w S (x + q0 * k) (y + q1 * k) (z + q2 * k) (a + q3 * k))) (fun cnt _ => 4 - (intOf cnt).toNat)
  case atStart => exact .inl ⟨rfl, A0.out⟩
  case round =>
    rcases hrel with ⟨rfl, hW⟩ | ⟨rfl, hW⟩ | ⟨rfl, hW⟩ | ⟨rfl, hW⟩ | ⟨rfl, hW⟩
    · have c0 := hW.1.c0
      have f0 := hW.1.fr (i := 0)
      have hix := at39_0 q0 q1 q2 q3 wr
      have X := Lib.hid (show AddM w S (x + q0 * k) y z a (wr.drew.setCell ⟨S, 0, none⟩ (.int .i64 (x + q0 * k))) from ⟨Four.s0 (w := wr.drew) hW.1 _, hW.2.drew.setCell (fun _ => rfl) _⟩)
      clear hW
      have g1 : IntKind.i64.wrap 0 = 0 := by decide
      go_wp2_with fail
      go_still_tail 11, (by kernel_rfl)
      repeat still_step
      try refine wpStill_nil ?_
      change wpList _ _ _ _ _ wr.drew
      go_wp2_with fail
      go_roundw
      case rel => exact .inr (.inl ⟨rfl, X.out⟩)
      case measure => decide
    · have c0 := hW.1.c1
      have f0 := hW.1.fr (i := 1)
      have hix := at39_1 q0 q1 q2 q3 wr
      have X := Lib.hid (show AddM w S (x + q0 * k) (y + q1 * k) z a (wr.drew.setCell ⟨S, 1, none⟩ (.int .i64 (y + q1 * k))) from ⟨Four.s1 (w := wr.drew) hW.1 _, hW.2.drew.setCell (fun _ => rfl) _⟩)
      clear hW
      have g1 : IntKind.i64.wrap 1 = 1 := by decide
      go_wp2_with fail
      go_still_tail 11, (by kernel_rfl)
      repeat still_step
      try refine wpStill_nil ?_
      change wpList _ _ _ _ _ wr.drew
      go_wp2_with fail
      go_roundw
      case rel => exact .inr (.inr (.inl ⟨rfl, X.out⟩))
      case measure => decide
    · have c0 := hW.1.c2
      have f0 := hW.1.fr (i := 2)
      have hix := at39_2 q0 q1 q2 q3 wr
      have X := Lib.hid (show AddM w S (x + q0 * k) (y + q1 * k) (z + q2 * k) a (wr.drew.setCell ⟨S, 2, none⟩ (.int .i64 (z + q2 * k))) from ⟨Four.s2 (w := wr.drew) hW.1 _, hW.2.drew.setCell (fun _ => rfl) _⟩)
      clear hW
      have g1 : IntKind.i64.wrap 2 = 2 := by decide
      go_wp2_with fail
      go_still_tail 11, (by kernel_rfl)
      repeat still_step
      try refine wpStill_nil ?_
      change wpList _ _ _ _ _ wr.drew
      go_wp2_with fail
      go_roundw
      case rel => exact .inr (.inr (.inr (.inl ⟨rfl, X.out⟩)))
      case measure => decide
    · have c0 := hW.1.c3
      have f0 := hW.1.fr (i := 3)
      have hix := at39_3 q0 q1 q2 q3 wr
      have X := Lib.hid (show AddM w S (x + q0 * k) (y + q1 * k) (z + q2 * k) (a + q3 * k) (wr.drew.setCell ⟨S, 3, none⟩ (.int .i64 (a + q3 * k))) from ⟨Four.s3 (w := wr.drew) hW.1 _, hW.2.drew.setCell (fun _ => rfl) _⟩)
      clear hW
      have g1 : IntKind.i64.wrap 3 = 3 := by decide
      go_wp2_with fail
      go_still_tail 11, (by kernel_rfl)
      repeat still_step
      try refine wpStill_nil ?_
      change wpList _ _ _ _ _ wr.drew
      go_wp2_with fail
      go_roundw
      case rel => exact .inr (.inr (.inr (.inr (⟨rfl, X.out⟩))))
      case measure => decide
    · have X := Lib.hid hW
      clear hW
      go_wp2_with fail
      exact bodyPost_ret (results_none rfl _ _ _) rfl ⟨rfl, X.out⟩
end Go.Proofs.Ytfcndldobjpbnaa
