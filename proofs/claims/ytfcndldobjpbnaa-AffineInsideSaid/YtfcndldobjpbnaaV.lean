/- The pixel that is seen at a place. (printed by genV.py) -/
import Derived.Test.YtfcndldobjpbnaaU
namespace Go.Proofs.Ytfcndldobjpbnaa
open Go.RowKit Go.Maps
set_option linter.unusedVariables false

namespace Af
/-- Where a pixel's middle goes by a back map. -/
def goU (b : M) (x y : Int) : Int := slopeU b (2 * x + 1) (2 * y + 1) / 2 + b.e
def goV (b : M) (x y : Int) : Int := slopeV b (2 * x + 1) (2 * y + 1) / 2 + b.f
def look (W H : Int) (zs : List Int) (smoothly : Bool) (u v : Int) : Int := if smoothly then smooth W H zs (u - 32768) (v - 32768) else picAt W H zs (u / 65536) (v / 65536)
/-- The pixel that is seen at a place. -/
def seen (W H : Int) (zs : List Int) (b : M) (smoothly : Bool) (x y : Int) : Int := look W H zs smoothly (goU b x y) (goV b x y)
end Af
def Up3 (n : Int) : Prop := -2302102470656 ≤ n ∧ n ≤ 2302102470656
def Spot (x : Int) : Prop := -65536 ≤ x ∧ x ≤ 65536
theorem go_far {b : Af.M} (hb : b.ok) {x y : Int} (hx : Spot x) (hy : Spot y) :
    (-4466765987840 ≤ Af.slopeU b (2 * x + 1) (2 * y + 1) ∧ Af.slopeU b (2 * x + 1) (2 * y + 1) ≤ 4466765987840) ∧ (-4466765987840 ≤ Af.slopeV b (2 * x + 1) (2 * y + 1) ∧ Af.slopeV b (2 * x + 1) (2 * y + 1) ≤ 4466765987840) ∧
    Up3 (Af.goU b x y) ∧ Up3 (Af.goV b x y) := by
  have h := Af.slope_up hb (x := 2 * x + 1) (y := 2 * y + 1) (q := 131073) ⟨by unfold Spot at hx; omega, by unfold Spot at hx; omega⟩ ⟨by unfold Spot at hy; omega, by unfold Spot at hy; omega⟩ (by omega)
  obtain ⟨-, -, -, -, ⟨e0, e1⟩, f0, f1⟩ := hb
  unfold Af.goU Af.goV Up3
  unfold Af.Up at *
  omega
theorem seen_num {W H : Int} {zs : List Int} (h : PicOk W H zs) (b : Af.M) (s : Bool) (x y : Int) : Af.Num (Af.seen W H zs b s x y) := by
  unfold Af.seen Af.look
  cases s
  · exact picAt_num h _ _
  · exact Af.smooth_num _ _ _ _ _
structure Eye (w : World) (A B : Nat) (W H : Int) (a : Option Addr) (n c : Nat) (b : Af.M) (w' : World) : Prop where
  pic : PicB w' A 44 W H a n c
  map : Six w' B 23 b
  keeps : Keeps none' w w'
theorem Eye.later {w w1 w2 : World} {A B : Nat} {W H : Int} {a : Option Addr} {n c : Nat} {b : Af.M} (h : Eye w A B W H a n c b w1) (k : Keeps none' w1 w2) : Eye w A B W H a n c b w2 := ⟨h.pic.later k, h.map.later k, h.keeps.next k⟩
theorem Eye.new (w : World) (W H : Int) (a : Option Addr) (n c : Nat) (b : Af.M) : Eye w w.heap.size (w.heap.size + 1) W H a n c b ((w.alloc (.cells #[.int .i64 W, .int .i64 H, .slice a n c] 44)).alloc (.cells #[.int .i64 b.a, .int .i64 b.b, .int .i64 b.c, .int .i64 b.d, .int .i64 b.e, .int .i64 b.f] 23)) := by
  refine ⟨(PicB.new _ _ _ _ _ _ _).alloc _, ?_, ((Keeps.refl _ _).alloc _).alloc _⟩
  have := Six.new (w.alloc (.cells #[.int .i64 W, .int .i64 H, .slice a n c] 44)) 23 b
  simpa using this
set_option maxRecDepth 100000 in
set_option maxHeartbeats 3200000 in
theorem at_true (W H : Int) (a : Option Addr) (n c : Nat) (zs : List Int) (b : Af.M) (x y : Int) (w : World) (hz : Ints w a n zs) (hp : PicOk W H zs) (hb : b.ok) (hx : Spot x) (hy : Spot y) :
    Calls Try.prog 26 #[.agg #[.int .i64 W, .int .i64 H, .slice a n c], .agg #[.int .i64 b.a, .int .i64 b.b, .int .i64 b.c, .int .i64 b.d, .int .i64 b.e, .int .i64 b.f], .int .i64 x, .int .i64 y, .bool true] w (SaysI (Af.seen W H zs b true x y) w) := by
  have HE := Lib.hid (show Af.seen W H zs b true x y = Af.look W H zs true (Af.goU b x y) (Af.goV b x y) from rfl)
  generalize Af.seen W H zs b true x y = res at *
  obtain ⟨⟨g0, g1⟩, ⟨g2, g3⟩, ⟨g4, g5⟩, g6, g7⟩ := go_far hb hx hy
  have SL := Lib.hid (fun w => slope_any b (2 * x + 1) (2 * y + 1) 131073 hb ⟨by unfold Spot at hx; omega, by unfold Spot at hx; omega⟩ ⟨by unfold Spot at hy; omega, by unfold Spot at hy; omega⟩ (by omega) (by omega) w)
  have eu : Af.slopeU b (2 * x + 1) (2 * y + 1) / 2 + b.e = Af.goU b x y := rfl
  have ev : Af.slopeV b (2 * x + 1) (2 * y + 1) / 2 + b.f = Af.goV b x y := rfl
  obtain ⟨-, -, -, -, ⟨be0, be1⟩, bf0, bf1⟩ := hb
  generalize Af.goU b x y = u at *
  generalize Af.goV b x y = v at *
  generalize Af.slopeU b (2 * x + 1) (2 * y + 1) = p at *
  generalize Af.slopeV b (2 * x + 1) (2 * y + 1) = q at *
  have wu : IntKind.i64.wrap (p / 2 + b.e) = u := by rw [eu]; exact wrap_i64 _ (by omega) (by omega)
  have wv : IntKind.i64.wrap (q / 2 + b.f) = v := by rw [ev]; exact wrap_i64 _ (by omega) (by omega)
  have wp := wrap_i64 (p / 2) (by omega) (by omega)
  have wq := wrap_i64 (q / 2) (by omega) (by omega)
  have MX := Lib.hid (fun w' (k : Keeps none' w w') => mixed_any W H a n c zs (u - 32768) (v - 32768) w' (hz.later k) hp (by unfold Far; omega) (by unfold Far; omega))
  have HR := Lib.hid (show res = Af.smooth W H zs (u - 32768) (v - 32768) from HE.out)
  unfold Spot at hx hy
  obtain ⟨x0, x1⟩ := hx
  obtain ⟨y0, y1⟩ := hy
  have E0 := Lib.hid (Eye.new w W H a n c b)
  clear HE eu ev hz hp g0 g1 g2 g3 be0 be1 bf0 bf1
  go_enter Try.func26, Try.ntmps26
  go_upto_region 1 with (fail)
  obtain ⟨A, hA⟩ : ∃ A, A = w.heap.size := ⟨_, rfl⟩
  obtain ⟨B, hB⟩ : ∃ B, B = A + 1 := ⟨_, rfl⟩
  rw [← hA, ← hB] at E0
  rw [← hA, ← hB]
  clear hA hB
  generalize (w.alloc (.cells #[.int .i64 W, .int .i64 H, .slice a n c] 44)).alloc (.cells #[.int .i64 b.a, .int .i64 b.b, .int .i64 b.c, .int .i64 b.d, .int .i64 b.e, .int .i64 b.f] 23) = w1 at *
  have c0 := E0.out.map.c0
  have c1 := E0.out.map.c1
  have c2 := E0.out.map.c2
  have c3 := E0.out.map.c3
  have c4 := E0.out.map.c4
  have c5 := E0.out.map.c5
  go_wp2_with fail
  refine (SL.out _).mono ?_
  rintro e w2 ⟨rfl, hk⟩
  have E1 := Lib.hid (E0.out.later hk)
  clear hk E0 SL c0 c1 c2 c3 c4 c5
  have c4 := E1.out.map.c4
  have c5 := E1.out.map.c5
  go_upto_region 2 with (fail)
  go_quiet (fail)
  have E2 := Lib.hid (E1.out.later ((Keeps.refl none' w2).drewN nq))
  clear E1 c4 c5 wu wv wp wq x0 x1 y0 y1
  generalize w2.drewN nq = w3 at *
  have c0 := E2.out.pic.c0
  have c1 := E2.out.pic.c1
  have c2 := E2.out.pic.c2
  go_wp2_with fail
  refine (MX.out _ E2.out.keeps).mono ?_
  rintro e w4 ⟨rfl, hk⟩
  have E3 := Lib.hid (E2.out.keeps.next hk)
  clear hk E2 c0 c1 c2 MX
  go_wp2_with fail
  go_ret
  exact ⟨by rw [HR.out]; rfl, E3.out⟩
set_option maxRecDepth 100000 in
set_option maxHeartbeats 3200000 in
theorem at_false (W H : Int) (a : Option Addr) (n c : Nat) (zs : List Int) (b : Af.M) (x y : Int) (w : World) (hz : Ints w a n zs) (hp : PicOk W H zs) (hb : b.ok) (hx : Spot x) (hy : Spot y) :
    Calls Try.prog 26 #[.agg #[.int .i64 W, .int .i64 H, .slice a n c], .agg #[.int .i64 b.a, .int .i64 b.b, .int .i64 b.c, .int .i64 b.d, .int .i64 b.e, .int .i64 b.f], .int .i64 x, .int .i64 y, .bool false] w (SaysI (Af.seen W H zs b false x y) w) := by
  have HE := Lib.hid (show Af.seen W H zs b false x y = Af.look W H zs false (Af.goU b x y) (Af.goV b x y) from rfl)
  generalize Af.seen W H zs b false x y = res at *
  obtain ⟨⟨g0, g1⟩, ⟨g2, g3⟩, ⟨g4, g5⟩, g6, g7⟩ := go_far hb hx hy
  have SL := Lib.hid (fun w => slope_any b (2 * x + 1) (2 * y + 1) 131073 hb ⟨by unfold Spot at hx; omega, by unfold Spot at hx; omega⟩ ⟨by unfold Spot at hy; omega, by unfold Spot at hy; omega⟩ (by omega) (by omega) w)
  have eu : Af.slopeU b (2 * x + 1) (2 * y + 1) / 2 + b.e = Af.goU b x y := rfl
  have ev : Af.slopeV b (2 * x + 1) (2 * y + 1) / 2 + b.f = Af.goV b x y := rfl
  obtain ⟨-, -, -, -, ⟨be0, be1⟩, bf0, bf1⟩ := hb
  generalize Af.goU b x y = u at *
  generalize Af.goV b x y = v at *
  generalize Af.slopeU b (2 * x + 1) (2 * y + 1) = p at *
  generalize Af.slopeV b (2 * x + 1) (2 * y + 1) = q at *
  have wu : IntKind.i64.wrap (p / 2 + b.e) = u := by rw [eu]; exact wrap_i64 _ (by omega) (by omega)
  have wv : IntKind.i64.wrap (q / 2 + b.f) = v := by rw [ev]; exact wrap_i64 _ (by omega) (by omega)
  have wp := wrap_i64 (p / 2) (by omega) (by omega)
  have wq := wrap_i64 (q / 2) (by omega) (by omega)
  have D1 := Lib.hid (fun w => down_any u (by unfold Int62; omega) w)
  have D2 := Lib.hid (fun w => down_any v (by unfold Int62; omega) w)
  have PX := Lib.hid (fun w' (k : Keeps none' w w') => pixel_any W H a n c zs (u / 65536) (v / 65536) w' (hz.later k) hp (by unfold Far; omega) (by unfold Far; omega))
  have HR := Lib.hid (show res = Af.picAt W H zs (u / 65536) (v / 65536) from HE.out)
  unfold Spot at hx hy
  obtain ⟨x0, x1⟩ := hx
  obtain ⟨y0, y1⟩ := hy
  have E0 := Lib.hid (Eye.new w W H a n c b)
  clear HE eu ev hz hp g0 g1 g2 g3 be0 be1 bf0 bf1
  go_enter Try.func26, Try.ntmps26
  go_upto_region 1 with (fail)
  obtain ⟨A, hA⟩ : ∃ A, A = w.heap.size := ⟨_, rfl⟩
  obtain ⟨B, hB⟩ : ∃ B, B = A + 1 := ⟨_, rfl⟩
  rw [← hA, ← hB] at E0
  rw [← hA, ← hB]
  clear hA hB
  generalize (w.alloc (.cells #[.int .i64 W, .int .i64 H, .slice a n c] 44)).alloc (.cells #[.int .i64 b.a, .int .i64 b.b, .int .i64 b.c, .int .i64 b.d, .int .i64 b.e, .int .i64 b.f] 23) = w1 at *
  have c0 := E0.out.map.c0
  have c1 := E0.out.map.c1
  have c2 := E0.out.map.c2
  have c3 := E0.out.map.c3
  have c4 := E0.out.map.c4
  have c5 := E0.out.map.c5
  go_wp2_with fail
  refine (SL.out _).mono ?_
  rintro e w2 ⟨rfl, hk⟩
  have E1 := Lib.hid (E0.out.later hk)
  clear hk E0 SL c0 c1 c2 c3 c4 c5
  have c4 := E1.out.map.c4
  have c5 := E1.out.map.c5
  go_upto_region 2 with (fail)
  go_quiet (fail)
  have E2 := Lib.hid (E1.out.later ((Keeps.refl none' w2).drewN nq))
  clear E1 c4 c5 wu wv wp wq x0 x1 y0 y1
  generalize w2.drewN nq = w3 at *
  have c0 := E2.out.pic.c0
  have c1 := E2.out.pic.c1
  have c2 := E2.out.pic.c2
  have E3 := Lib.hid (E2.out.later (Keeps.refl none' w3).drew)
  go_wp2_with fail
  go_still_tail 5, (by kernel_rfl)
  still_call (D1.out _)
  repeat still_step
  still_call (D2.out _)
  repeat still_step
  try refine wpStill_nil ?_
  change wpList _ _ _ _ _ w3.drew
  go_wp2_with fail
  refine (PX.out _ E3.out.keeps).mono ?_
  rintro e w4 ⟨rfl, hk⟩
  have E4 := Lib.hid (E3.out.keeps.next hk)
  clear hk E2 E3 c0 c1 c2 PX
  go_wp2_with fail
  go_ret
  exact ⟨by rw [HR.out]; rfl, E4.out⟩
theorem at_any (W H : Int) (a : Option Addr) (n c : Nat) (zs : List Int) (b : Af.M) (x y : Int) (s : Bool) (w : World) (hz : Ints w a n zs) (hp : PicOk W H zs) (hb : b.ok) (hx : Spot x) (hy : Spot y) :
    Calls Try.prog 26 #[.agg #[.int .i64 W, .int .i64 H, .slice a n c], .agg #[.int .i64 b.a, .int .i64 b.b, .int .i64 b.c, .int .i64 b.d, .int .i64 b.e, .int .i64 b.f], .int .i64 x, .int .i64 y, .bool s] w (SaysI (Af.seen W H zs b s x y) w) := by
  cases s
  · exact at_false W H a n c zs b x y w hz hp hb hx hy
  · exact at_true W H a n c zs b x y w hz hp hb hx hy
end Go.Proofs.Ytfcndldobjpbnaa
