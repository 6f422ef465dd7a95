/- A pixel of a picture, which may lie outside. -/
import Derived.Test.YtfcndldobjpbnaaP
namespace Go.Proofs.Ytfcndldobjpbnaa
open Go.RowKit Go.Maps
set_option linter.unusedVariables false

namespace Af
/-- The pixel at a place; 0 outside. -/
def picAt (W H : Int) (zs : List Int) (x y : Int) : Int := if x < 0 ∨ y < 0 ∨ W ≤ x ∨ H ≤ y then 0 else zs.getD (y * W + x).toNat 0
end Af
theorem picAt_num {W H : Int} {zs : List Int} (h : PicOk W H zs) (x y : Int) : Af.Num (Af.picAt W H zs x y) := by
  unfold Af.picAt
  split
  · decide
  · rw [List.getD_eq_getElem?_getD]
    cases hz : zs[(y * W + x).toNat]? with
    | none => exact (by decide : Af.Num 0)
    | some z => exact h.2.2.2 z (List.mem_of_getElem? hz)
def SaysI (v : Int) (w : World) (e : Ending) (w' : World) : Prop := e = .returned (.int .i64 v) ∧ Keeps none' w w'
def Far (x : Int) : Prop := -4398046511104 ≤ x ∧ x ≤ 4398046511104
theorem place_bounds {W y : Int} (hW : Side W) (hy : Far y) : -144115188075855872 ≤ y * W ∧ y * W ≤ 144115188075855872 := by
  have := Af.up_mul (x := y) (y := W) (p := 4398046511104) (q := 32768) ⟨hy.1, hy.2⟩ ⟨by have := hW.1; omega, hW.2⟩ (by omega) (by omega)
  unfold Af.Up at this
  omega
/-- Inside: which pixel it is. -/
theorem place_in {W H x y : Int} (hW : Side W) (x0 : 0 ≤ x) (x1 : x < W) (y0 : 0 ≤ y) (y1 : y < H) : 0 ≤ y * W + x ∧ y * W + x < W * H := by
  have h1 := Int.mul_nonneg y0 hW.1
  have h2 : (y + 1) * W ≤ H * W := Int.mul_le_mul_of_nonneg_right (by omega) hW.1
  rw [Int.add_mul, Int.one_mul, Int.mul_comm H W] at h2
  omega
theorem place_above {W x y : Int} (hW : Side W) (x1 : x < W) (y0 : y < 0) : y * W + x < 0 := by
  have h2 : (y + 1) * W ≤ 0 * W := Int.mul_le_mul_of_nonneg_right (by omega) hW.1
  rw [Int.add_mul, Int.one_mul, Int.zero_mul] at h2
  omega
theorem place_below {W H x y : Int} (hW : Side W) (x0 : 0 ≤ x) (y1 : H ≤ y) : W * H ≤ y * W + x := by
  have h2 : H * W ≤ y * W := Int.mul_le_mul_of_nonneg_right y1 hW.1
  rw [Int.mul_comm H W] at h2
  omega

set_option maxHeartbeats 1600000 in
theorem pixel_any (W H : Int) (a : Option Addr) (n c : Nat) (zs : List Int) (x y : Int) (w : World) (hz : Ints w a n zs) (hp : PicOk W H zs) (hx : Far x) (hy : Far y) :
    Calls Try.prog 43 #[.agg #[.int .i64 W, .int .i64 H, .slice a n c], .int .i64 x, .int .i64 y] w (SaysI (Af.picAt W H zs x y) w) := by
  have P0 := Lib.hid (PicB.new w 44 W H a n c)
  have K0 := Lib.hid (keeps_alloc (w := w) (o := .cells #[.int .i64 W, .int .i64 H, .slice a n c] 44) rfl)
  have Z0 := Lib.hid (hz.later K0.out)
  have HL := Lib.hid (show (n : Int) = W * H from by rw [← hz.1]; exact hp.2.2.1)
  have HV := Lib.hid (show Af.picAt W H zs x y = if x < 0 ∨ y < 0 ∨ W ≤ x ∨ H ≤ y then 0 else zs.getD (y * W + x).toNat 0 from rfl)
  generalize Af.picAt W H zs x y = v at *
  obtain ⟨b0, b1⟩ := place_bounds hp.1 hy
  obtain ⟨x0, x1⟩ := hx
  have w1 := wrap_i64 (y * W) (by omega) (by omega)
  have w2 := wrap_i64 (y * W + x) (by omega) (by omega)
  have HS := Lib.hid hp.1
  have HS2 := Lib.hid hp.2.1
  have HB := Lib.hid (And.intro b0 b1)
  clear hz hp hy b0 b1 x0 x1
  go_enter Try.func43, Try.ntmps43
  go_upto_region 1 with (fail)
  generalize w.alloc (.cells #[.int .i64 W, .int .i64 H, .slice a n c] 44) = wa at *
  generalize w.heap.size = B at *
  have c0 := P0.out.c0
  have c1 := P0.out.c1
  have c2 := P0.out.c2
  by_cases hx0 : x < 0
  · have t1 : decide (x < 0) = true := by simpa using hx0
    have hv : v = 0 := by rw [HV.out, if_pos (.inl hx0)]
    subst hv
    clear hx0
    go_wp2_with fail
    go_ret
    exact ⟨rfl, K0.out⟩
  have t1 : decide (x < 0) = false := by simpa using hx0
  by_cases hx1 : W ≤ x
  · have t2 : decide (W ≤ x) = true := by simpa using hx1
    have hv : v = 0 := by rw [HV.out, if_pos (.inr (.inr (.inl hx1)))]
    subst hv
    clear hx0 hx1
    go_wp2_with fail
    go_ret
    exact ⟨rfl, K0.out⟩
  have t2 : decide (W ≤ x) = false := by simpa using hx1
  by_cases hy0 : y < 0
  · have t3 : decide (y * W + x < 0) = true := by simpa using place_above HS.out (by omega) hy0
    have hv : v = 0 := by rw [HV.out, if_pos (.inr (.inl hy0))]
    subst hv
    clear hx0 hx1 hy0
    go_wp2_with fail
    go_ret
    exact ⟨rfl, K0.out⟩
  by_cases hy1 : H ≤ y
  · have t3 : decide (y * W + x < 0) = false := by
      have := place_below HS.out (x := x) (by omega) hy1
      have := (area_side HS.out HS2.out).1
      simp; omega
    have t4 : decide ((n : Int) ≤ y * W + x) = true := by
      have := place_below HS.out (x := x) (by omega) hy1
      have := HL.out
      simp; omega
    have hv : v = 0 := by rw [HV.out, if_pos (.inr (.inr (.inr hy1)))]
    subst hv
    clear hx0 hx1 hy0 hy1
    go_wp2_with fail
    go_ret
    exact ⟨rfl, K0.out⟩
  have hin := place_in HS.out (x := x) (y := y) (H := H) (by omega) (by omega) (by omega) (by omega)
  obtain ⟨k, hk⟩ : ∃ k : Nat, y * W + x = (k : Int) := ⟨(y * W + x).toNat, by omega⟩
  have hv : v = zs.getD k 0 := by
    rw [HV.out, if_neg (by omega), hk]
    simp
  have hkn : k < n := by have := HL.out; omega
  obtain ⟨bb, off, z, rfl, hzz, hfit, hc⟩ := Z0.out.at hkn
  rw [List.getD_eq_getElem?_getD, hzz] at hv
  simp only [Option.getD_some] at hv
  subst hv
  have w3 : IntKind.i64.wrap (y * W + x) = (k : Int) := w2.trans hk
  clear w2
  have kn : (k : Int) < n := by omega
  have t5 : decide ((n : Int) ≤ (k : Int)) = false := by simp; omega
  have t6 : decide (n ≤ k) = false := by simp; omega
  clear hx0 hx1 hy0 hy1 hin hk hfit hzz
  go_wp2_with fail
  go_ret
  exact ⟨rfl, K0.out⟩
set_option maxHeartbeats 1600000 in
theorem docAt_any (W H : Int) (a : Option Addr) (n c : Nat) (zs : List Int) (x y : Int) (w : World) (hz : Ints w a n zs) (hp : PicOk W H zs) (hx : Far x) (hy : Far y) :
    Calls Try.prog 29 #[.agg #[.int .i64 W, .int .i64 H, .slice a n c], .int .i64 x, .int .i64 y] w (SaysI (Af.picAt W H zs x y) w) := by
  have P0 := Lib.hid (PicB.new w 47 W H a n c)
  have K0 := Lib.hid (keeps_alloc (w := w) (o := .cells #[.int .i64 W, .int .i64 H, .slice a n c] 47) rfl)
  have Z0 := Lib.hid (hz.later K0.out)
  have HL := Lib.hid (show (n : Int) = W * H from by rw [← hz.1]; exact hp.2.2.1)
  have HV := Lib.hid (show Af.picAt W H zs x y = if x < 0 ∨ y < 0 ∨ W ≤ x ∨ H ≤ y then 0 else zs.getD (y * W + x).toNat 0 from rfl)
  generalize Af.picAt W H zs x y = v at *
  obtain ⟨b0, b1⟩ := place_bounds hp.1 hy
  obtain ⟨x0, x1⟩ := hx
  have w1 := wrap_i64 (y * W) (by omega) (by omega)
  have w2 := wrap_i64 (y * W + x) (by omega) (by omega)
  have HS := Lib.hid hp.1
  clear hz hp hy b0 b1 x0 x1
  go_enter Try.func29, Try.ntmps29
  go_upto_region 1 with (fail)
  generalize w.alloc (.cells #[.int .i64 W, .int .i64 H, .slice a n c] 47) = wa at *
  generalize w.heap.size = B at *
  have c0 := P0.out.c0
  have c1 := P0.out.c1
  have c2 := P0.out.c2
  by_cases hx0 : x < 0
  · have t1 : decide (x < 0) = true := by simpa using hx0
    have hv : v = 0 := by rw [HV.out, if_pos (.inl hx0)]
    subst hv
    clear hx0
    go_wp2_with fail
    go_ret
    exact ⟨rfl, K0.out⟩
  have t1 : decide (x < 0) = false := by simpa using hx0
  by_cases hy0 : y < 0
  · have t2 : decide (y < 0) = true := by simpa using hy0
    have hv : v = 0 := by rw [HV.out, if_pos (.inr (.inl hy0))]
    subst hv
    clear hx0 hy0
    go_wp2_with fail
    go_ret
    exact ⟨rfl, K0.out⟩
  have t2 : decide (y < 0) = false := by simpa using hy0
  by_cases hx1 : W ≤ x
  · have t3 : decide (W ≤ x) = true := by simpa using hx1
    have hv : v = 0 := by rw [HV.out, if_pos (.inr (.inr (.inl hx1)))]
    subst hv
    clear hx0 hx1 hy0
    go_wp2_with fail
    go_ret
    exact ⟨rfl, K0.out⟩
  have t3 : decide (W ≤ x) = false := by simpa using hx1
  by_cases hy1 : H ≤ y
  · have t4 : decide (H ≤ y) = true := by simpa using hy1
    have hv : v = 0 := by rw [HV.out, if_pos (.inr (.inr (.inr hy1)))]
    subst hv
    clear hx0 hx1 hy0 hy1
    go_wp2_with fail
    go_ret
    exact ⟨rfl, K0.out⟩
  have t4 : decide (H ≤ y) = false := by simpa using hy1
  have hin := place_in HS.out (x := x) (y := y) (H := H) (by omega) (by omega) (by omega) (by omega)
  obtain ⟨k, hk⟩ : ∃ k : Nat, y * W + x = (k : Int) := ⟨(y * W + x).toNat, by omega⟩
  have hv : v = zs.getD k 0 := by
    rw [HV.out, if_neg (by omega), hk]
    simp
  have hkn : k < n := by have := HL.out; omega
  obtain ⟨bb, off, z, rfl, hzz, hfit, hc⟩ := Z0.out.at hkn
  rw [List.getD_eq_getElem?_getD, hzz] at hv
  simp only [Option.getD_some] at hv
  subst hv
  have w3 : IntKind.i64.wrap (y * W + x) = (k : Int) := w2.trans hk
  clear w2
  have kn : (k : Int) < n := by omega
  clear hx0 hx1 hy0 hy1 hin hk hfit hzz
  go_wp2_with fail
  go_ret
  exact ⟨rfl, K0.out⟩
end Go.Proofs.Ytfcndldobjpbnaa
