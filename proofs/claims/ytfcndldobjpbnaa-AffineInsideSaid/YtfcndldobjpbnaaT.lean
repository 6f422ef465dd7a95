/- The mixture of four pixels. (printed by genT.py) -/
import Derived.Test.YtfcndldobjpbnaaS
namespace Go.Proofs.Ytfcndldobjpbnaa
open Go.RowKit Go.Maps
set_option linter.unusedVariables false

namespace Af
def mixC (s t p q r m : Int) : Int := near (p * ((256 - s) * (256 - t)) + q * (s * (256 - t)) + r * ((256 - s) * t) + m * (s * t))
def mixed (s t p q r m : Int) : Int := join (mixC s t (p0 p) (p0 q) (p0 r) (p0 m)) (mixC s t (p1 p) (p1 q) (p1 r) (p1 m)) (mixC s t (p2 p) (p2 q) (p2 r) (p2 m)) (mixC s t (p3 p) (p3 q) (p3 r) (p3 m))
/-- The pixels around a place, mixed. -/
def smooth (W H : Int) (zs : List Int) (u v : Int) : Int :=
  mixed (u / 256 % 256) (v / 256 % 256) (picAt W H zs (u / 65536) (v / 65536)) (picAt W H zs (u / 65536 + 1) (v / 65536)) (picAt W H zs (u / 65536) (v / 65536 + 1)) (picAt W H zs (u / 65536 + 1) (v / 65536 + 1))
def Wt (k : Int) : Prop := 0 ≤ k ∧ k ≤ 65536
theorem weights {s t : Int} (hs : Byte s) (ht : Byte t) : Wt ((256 - s) * (256 - t)) ∧ Wt (s * (256 - t)) ∧ Wt ((256 - s) * t) ∧ Wt (s * t) ∧
    (256 - s) * (256 - t) + s * (256 - t) + (256 - s) * t + s * t = 65536 := by
  obtain ⟨s0, s1⟩ := hs
  obtain ⟨t0, t1⟩ := ht
  have a := Int.mul_nonneg (show 0 ≤ 256 - s by omega) (show 0 ≤ 256 - t by omega)
  have b := Int.mul_nonneg s0 (show 0 ≤ 256 - t by omega)
  have c := Int.mul_nonneg (show 0 ≤ 256 - s by omega) t0
  have d := Int.mul_nonneg s0 t0
  have e : (256 - s) * (256 - t) + s * (256 - t) + (256 - s) * t + s * t = 65536 := by
    rw [← Int.add_mul, Int.add_assoc, ← Int.add_mul, show 256 - s + s = 256 by omega]; omega
  unfold Wt
  omega
theorem part_up {p k : Int} (hp : Byte p) (hk : Wt k) : 0 ≤ p * k ∧ p * k ≤ 255 * k :=
  ⟨Int.mul_nonneg hp.1 hk.1, Int.mul_le_mul_of_nonneg_right hp.2 hk.1⟩
theorem mix_byte {s t p q r m : Int} (hs : Byte s) (ht : Byte t) (hp : Byte p) (hq : Byte q) (hr : Byte r) (hm : Byte m) : Byte (mixC s t p q r m) := by
  obtain ⟨h1, h2, h3, h4, h5⟩ := weights hs ht
  have a := part_up hp h1
  have b := part_up hq h2
  have c := part_up hr h3
  have d := part_up hm h4
  unfold mixC near Byte
  omega
theorem mixed_num {s t : Int} (hs : Byte s) (ht : Byte t) (p q r m : Int) : Num (mixed s t p q r m) :=
  join_num (mix_byte hs ht (p0_byte _) (p0_byte _) (p0_byte _) (p0_byte _)) (mix_byte hs ht (p1_byte _) (p1_byte _) (p1_byte _) (p1_byte _)) (mix_byte hs ht (p2_byte _) (p2_byte _) (p2_byte _) (p2_byte _)) (mix_byte hs ht (p3_byte _) (p3_byte _) (p3_byte _) (p3_byte _))
theorem low_byte (u : Int) : Byte (u / 256 % 256) := by unfold Byte; omega
theorem smooth_num (W H : Int) (zs : List Int) (u v : Int) : Num (smooth W H zs u v) := mixed_num (low_byte u) (low_byte v) _ _ _ _
end Af

/-- The mixture under way. -/
structure Mix (w : World) (B S : Nat) (W H : Int) (a : Option Addr) (n c : Nat) (x y z b : Int) (w' : World) : Prop where
  pic : PicB w' B 44 W H a n c
  sum : Four w' S x y z b
  keeps : Keeps none' w w'
  apart : B ≠ S ∧ w.heap.size ≤ S
theorem Mix.later {w w1 w2 : World} {B S : Nat} {W H : Int} {a : Option Addr} {n c : Nat} {x y z b : Int} (h : Mix w B S W H a n c x y z b w1) (k : Keeps none' w1 w2) : Mix w B S W H a n c x y z b w2 :=
  ⟨h.pic.later k, h.sum.later k, h.keeps.next k, h.apart⟩
theorem Mix.add {w w1 w2 : World} {B S : Nat} {W H : Int} {a : Option Addr} {n c : Nat} {x y z b x' y' z' b' : Int} (h : Mix w B S W H a n c x y z b w1) (k : AddM w1 S x' y' z' b' w2) : Mix w B S W H a n c x' y' z' b' w2 :=
  ⟨h.pic.just k.2 h.apart.1, k.1, h.keeps.trans k.2 (fun i hi e => by have := h.apart.2; simp only [Just] at e; omega), h.apart⟩
theorem Mix.new (w : World) (W H : Int) (a : Option Addr) (n c : Nat) : Mix w w.heap.size (w.heap.size + 1) W H a n c 0 0 0 0 ((w.alloc (.cells #[.int .i64 W, .int .i64 H, .slice a n c] 44)).alloc (.cells #[.int .i64 0, .int .i64 0, .int .i64 0, .int .i64 0] 39)) := by
  refine ⟨(PicB.new _ _ _ _ _ _ _).alloc _, ?_, ((Keeps.refl _ _).alloc _).alloc _, by omega, by omega⟩
  have := Four.new (w.alloc (.cells #[.int .i64 W, .int .i64 H, .slice a n c] 44)) 0 0 0 0
  simpa using this
theorem Mix.s0 {w w1 : World} {B S : Nat} {W H : Int} {a : Option Addr} {n c : Nat} {x y z b : Int} (h : Mix w B S W H a n c x y z b w1) (v : Int) : Mix w B S W H a n c v y z b (w1.setCell ⟨S, 0, none⟩ (.int .i64 v)) :=
  ⟨h.pic.set h.apart.1 _, h.sum.s0 v, h.keeps.setCell (fun e => by have := h.apart.2; simp only at e; omega) _, h.apart⟩
theorem Mix.s1 {w w1 : World} {B S : Nat} {W H : Int} {a : Option Addr} {n c : Nat} {x y z b : Int} (h : Mix w B S W H a n c x y z b w1) (v : Int) : Mix w B S W H a n c x v z b (w1.setCell ⟨S, 1, none⟩ (.int .i64 v)) :=
  ⟨h.pic.set h.apart.1 _, h.sum.s1 v, h.keeps.setCell (fun e => by have := h.apart.2; simp only at e; omega) _, h.apart⟩
theorem Mix.s2 {w w1 : World} {B S : Nat} {W H : Int} {a : Option Addr} {n c : Nat} {x y z b : Int} (h : Mix w B S W H a n c x y z b w1) (v : Int) : Mix w B S W H a n c x y v b (w1.setCell ⟨S, 2, none⟩ (.int .i64 v)) :=
  ⟨h.pic.set h.apart.1 _, h.sum.s2 v, h.keeps.setCell (fun e => by have := h.apart.2; simp only at e; omega) _, h.apart⟩
theorem Mix.s3 {w w1 : World} {B S : Nat} {W H : Int} {a : Option Addr} {n c : Nat} {x y z b : Int} (h : Mix w B S W H a n c x y z b w1) (v : Int) : Mix w B S W H a n c x y z v (w1.setCell ⟨S, 3, none⟩ (.int .i64 v)) :=
  ⟨h.pic.set h.apart.1 _, h.sum.s3 v, h.keeps.setCell (fun e => by have := h.apart.2; simp only at e; omega) _, h.apart⟩
set_option maxRecDepth 100000 in
set_option maxHeartbeats 3200000 in
theorem mixed_any (W H : Int) (a : Option Addr) (n c : Nat) (zs : List Int) (u v : Int) (w : World) (hz : Ints w a n zs) (hp : PicOk W H zs) (hu : Far u) (hv : Far v) :
    Calls Try.prog 42 #[.agg #[.int .i64 W, .int .i64 H, .slice a n c], .int .i64 u, .int .i64 v] w (SaysI (Af.smooth W H zs u v) w) := by
  have HE := Lib.hid (show Af.smooth W H zs u v = Af.mixed (u / 256 % 256) (v / 256 % 256) (Af.picAt W H zs (u / 65536) (v / 65536)) (Af.picAt W H zs (u / 65536 + 1) (v / 65536)) (Af.picAt W H zs (u / 65536) (v / 65536 + 1)) (Af.picAt W H zs (u / 65536 + 1) (v / 65536 + 1)) from rfl)
  generalize Af.smooth W H zs u v = res at *
  have D1 := Lib.hid (fun w => down_any u (by unfold Far at hu; unfold Int62; omega) w)
  have D2 := Lib.hid (fun w => down_any v (by unfold Far at hv; unfold Int62; omega) w)
  have W1 := Lib.hid (fun w => weight_any u (by unfold Far at hu; unfold Int62; omega) w)
  have W2 := Lib.hid (fun w => weight_any v (by unfold Far at hv; unfold Int62; omega) w)
  have fx : Far (u / 65536) := by unfold Far at *; omega
  have fx1 : Far (u / 65536 + 1) := by unfold Far at *; omega
  have fy : Far (v / 65536) := by unfold Far at *; omega
  have fy1 : Far (v / 65536 + 1) := by unfold Far at *; omega
  have bx : -67108864 ≤ u / 65536 ∧ u / 65536 ≤ 67108864 := by unfold Far at hu; omega
  have by' : -67108864 ≤ v / 65536 ∧ v / 65536 ≤ 67108864 := by unfold Far at hv; omega
  have P1 := Lib.hid (fun w' (k : Keeps none' w w') => pixel_any W H a n c zs (u / 65536) (v / 65536) w' (hz.later k) hp fx fy)
  have P2 := Lib.hid (fun w' (k : Keeps none' w w') => pixel_any W H a n c zs (u / 65536 + 1) (v / 65536) w' (hz.later k) hp fx1 fy)
  have P3 := Lib.hid (fun w' (k : Keeps none' w w') => pixel_any W H a n c zs (u / 65536) (v / 65536 + 1) w' (hz.later k) hp fx fy1)
  have P4 := Lib.hid (fun w' (k : Keeps none' w w') => pixel_any W H a n c zs (u / 65536 + 1) (v / 65536 + 1) w' (hz.later k) hp fx1 fy1)
  have N1 := picAt_num hp (u / 65536) (v / 65536)
  have N2 := picAt_num hp (u / 65536 + 1) (v / 65536)
  have N3 := picAt_num hp (u / 65536) (v / 65536 + 1)
  have N4 := picAt_num hp (u / 65536 + 1) (v / 65536 + 1)
  have bs := Af.low_byte u
  have bt := Af.low_byte v
  generalize Af.picAt W H zs (u / 65536) (v / 65536) = v1 at *
  generalize Af.picAt W H zs (u / 65536 + 1) (v / 65536) = v2 at *
  generalize Af.picAt W H zs (u / 65536) (v / 65536 + 1) = v3 at *
  generalize Af.picAt W H zs (u / 65536 + 1) (v / 65536 + 1) = v4 at *
  generalize u / 256 % 256 = s at *
  generalize v / 256 % 256 = t at *
  generalize u / 65536 = x at *
  generalize v / 65536 = y at *
  obtain ⟨x0, x1⟩ := bx
  obtain ⟨y0, y1⟩ := by'
  obtain ⟨k1, k2, k3, k4, k5⟩ := Af.weights bs bt
  have B0 := Lib.hid (Af.mix_byte bs bt (Af.p0_byte v1) (Af.p0_byte v2) (Af.p0_byte v3) (Af.p0_byte v4))
  have h01 := Af.part_up (Af.p0_byte v1) k1
  have h02 := Af.part_up (Af.p0_byte v2) k2
  have h03 := Af.part_up (Af.p0_byte v3) k3
  have h04 := Af.part_up (Af.p0_byte v4) k4
  have B1 := Lib.hid (Af.mix_byte bs bt (Af.p1_byte v1) (Af.p1_byte v2) (Af.p1_byte v3) (Af.p1_byte v4))
  have h11 := Af.part_up (Af.p1_byte v1) k1
  have h12 := Af.part_up (Af.p1_byte v2) k2
  have h13 := Af.part_up (Af.p1_byte v3) k3
  have h14 := Af.part_up (Af.p1_byte v4) k4
  have B2 := Lib.hid (Af.mix_byte bs bt (Af.p2_byte v1) (Af.p2_byte v2) (Af.p2_byte v3) (Af.p2_byte v4))
  have h21 := Af.part_up (Af.p2_byte v1) k1
  have h22 := Af.part_up (Af.p2_byte v2) k2
  have h23 := Af.part_up (Af.p2_byte v3) k3
  have h24 := Af.part_up (Af.p2_byte v4) k4
  have B3 := Lib.hid (Af.mix_byte bs bt (Af.p3_byte v1) (Af.p3_byte v2) (Af.p3_byte v3) (Af.p3_byte v4))
  have h31 := Af.part_up (Af.p3_byte v1) k1
  have h32 := Af.part_up (Af.p3_byte v2) k2
  have h33 := Af.part_up (Af.p3_byte v3) k3
  have h34 := Af.part_up (Af.p3_byte v4) k4
  have HM := Lib.hid (show Af.mixed s t v1 v2 v3 v4 = Af.join (Af.mixC s t (Af.p0 v1) (Af.p0 v2) (Af.p0 v3) (Af.p0 v4)) (Af.mixC s t (Af.p1 v1) (Af.p1 v2) (Af.p1 v3) (Af.p1 v4)) (Af.mixC s t (Af.p2 v1) (Af.p2 v2) (Af.p2 v3) (Af.p2 v4)) (Af.mixC s t (Af.p3 v1) (Af.p3 v2) (Af.p3 v3) (Af.p3 v4)) from rfl)
  unfold Af.mixC at B0 B1 B2 B3 HM
  generalize he1 : (256 - s) * (256 - t) = e1 at *
  have q1 : IntKind.i64.wrap ((256 - s) * (256 - t)) = e1 := by rw [he1]; exact wrap_i64 _ (by unfold Af.Wt at *; omega) (by unfold Af.Wt at *; omega)
  clear he1
  generalize he2 : s * (256 - t) = e2 at *
  have q2 : IntKind.i64.wrap (s * (256 - t)) = e2 := by rw [he2]; exact wrap_i64 _ (by unfold Af.Wt at *; omega) (by unfold Af.Wt at *; omega)
  clear he2
  generalize he3 : (256 - s) * t = e3 at *
  have q3 : IntKind.i64.wrap ((256 - s) * t) = e3 := by rw [he3]; exact wrap_i64 _ (by unfold Af.Wt at *; omega) (by unfold Af.Wt at *; omega)
  clear he3
  generalize he4 : s * t = e4 at *
  have q4 : IntKind.i64.wrap (s * t) = e4 := by rw [he4]; exact wrap_i64 _ (by unfold Af.Wt at *; omega) (by unfold Af.Wt at *; omega)
  clear he4
  have A1 := Lib.hid (fun w S (hF : Four w S (0) (0) (0) (0)) => add_any w S (0) (0) (0) (0) v1 e1 hF N1 k1 (by unfold Room Af.Wt at *; omega) (by unfold Room Af.Wt at *; omega) (by unfold Room Af.Wt at *; omega) (by unfold Room Af.Wt at *; omega))
  have A2 := Lib.hid (fun w S (hF : Four w S (Af.p0 v1 * e1) (Af.p1 v1 * e1) (Af.p2 v1 * e1) (Af.p3 v1 * e1)) => add_any w S (Af.p0 v1 * e1) (Af.p1 v1 * e1) (Af.p2 v1 * e1) (Af.p3 v1 * e1) v2 e2 hF N2 k2 (by unfold Room Af.Wt at *; omega) (by unfold Room Af.Wt at *; omega) (by unfold Room Af.Wt at *; omega) (by unfold Room Af.Wt at *; omega))
  have A3 := Lib.hid (fun w S (hF : Four w S (Af.p0 v1 * e1 + Af.p0 v2 * e2) (Af.p1 v1 * e1 + Af.p1 v2 * e2) (Af.p2 v1 * e1 + Af.p2 v2 * e2) (Af.p3 v1 * e1 + Af.p3 v2 * e2)) => add_any w S (Af.p0 v1 * e1 + Af.p0 v2 * e2) (Af.p1 v1 * e1 + Af.p1 v2 * e2) (Af.p2 v1 * e1 + Af.p2 v2 * e2) (Af.p3 v1 * e1 + Af.p3 v2 * e2) v3 e3 hF N3 k3 (by unfold Room Af.Wt at *; omega) (by unfold Room Af.Wt at *; omega) (by unfold Room Af.Wt at *; omega) (by unfold Room Af.Wt at *; omega))
  have A4 := Lib.hid (fun w S (hF : Four w S (Af.p0 v1 * e1 + Af.p0 v2 * e2 + Af.p0 v3 * e3) (Af.p1 v1 * e1 + Af.p1 v2 * e2 + Af.p1 v3 * e3) (Af.p2 v1 * e1 + Af.p2 v2 * e2 + Af.p2 v3 * e3) (Af.p3 v1 * e1 + Af.p3 v2 * e2 + Af.p3 v3 * e3)) => add_any w S (Af.p0 v1 * e1 + Af.p0 v2 * e2 + Af.p0 v3 * e3) (Af.p1 v1 * e1 + Af.p1 v2 * e2 + Af.p1 v3 * e3) (Af.p2 v1 * e1 + Af.p2 v2 * e2 + Af.p2 v3 * e3) (Af.p3 v1 * e1 + Af.p3 v2 * e2 + Af.p3 v3 * e3) v4 e4 hF N4 k4 (by unfold Room Af.Wt at *; omega) (by unfold Room Af.Wt at *; omega) (by unfold Room Af.Wt at *; omega) (by unfold Room Af.Wt at *; omega))
  simp only [Int.zero_add] at A1
  have U0 := Lib.hid (fun w => near_any (Af.p0 v1 * e1 + Af.p0 v2 * e2 + Af.p0 v3 * e3 + Af.p0 v4 * e4) (by unfold Up2; unfold Af.Wt at *; omega) w)
  have U1 := Lib.hid (fun w => near_any (Af.p1 v1 * e1 + Af.p1 v2 * e2 + Af.p1 v3 * e3 + Af.p1 v4 * e4) (by unfold Up2; unfold Af.Wt at *; omega) w)
  have U2 := Lib.hid (fun w => near_any (Af.p2 v1 * e1 + Af.p2 v2 * e2 + Af.p2 v3 * e3 + Af.p2 v4 * e4) (by unfold Up2; unfold Af.Wt at *; omega) w)
  have U3 := Lib.hid (fun w => near_any (Af.p3 v1 * e1 + Af.p3 v2 * e2 + Af.p3 v3 * e3 + Af.p3 v4 * e4) (by unfold Up2; unfold Af.Wt at *; omega) w)
  generalize Af.near (Af.p0 v1 * e1 + Af.p0 v2 * e2 + Af.p0 v3 * e3 + Af.p0 v4 * e4) = m0 at *
  generalize Af.near (Af.p1 v1 * e1 + Af.p1 v2 * e2 + Af.p1 v3 * e3 + Af.p1 v4 * e4) = m1 at *
  generalize Af.near (Af.p2 v1 * e1 + Af.p2 v2 * e2 + Af.p2 v3 * e3 + Af.p2 v4 * e4) = m2 at *
  generalize Af.near (Af.p3 v1 * e1 + Af.p3 v2 * e2 + Af.p3 v3 * e3 + Af.p3 v4 * e4) = m3 at *
  have J := Lib.hid (fun w => join_any m0 m1 m2 m3 B0.out B1.out B2.out B3.out w)
  have HR := Lib.hid (HE.out.trans HM.out)
  obtain ⟨s0, s1⟩ := bs
  obtain ⟨t0, t1⟩ := bt
  clear HE HM B0 B1 B2 B3 hu hv fx fx1 fy fy1 N1 N2 N3 N4 k1 k2 k3 k4 k5 h01 h02 h03 h04 h11 h12 h13 h14 h21 h22 h23 h24 h31 h32 h33 h34 hz hp
  go_enter Try.func42, Try.ntmps42
  go_wp2_with fail
  refine (D1.out _).mono ?_
  rintro e w1 ⟨rfl, rfl⟩
  go_wp2_with fail
  refine (D2.out _).mono ?_
  rintro e w1 ⟨rfl, rfl⟩
  go_wp2_with fail
  refine (W1.out _).mono ?_
  rintro e w1 ⟨rfl, rfl⟩
  go_wp2_with fail
  refine (W2.out _).mono ?_
  rintro e w1 ⟨rfl, rfl⟩
  go_upto_region 5 with (fail)
  have M0 := Lib.hid (Mix.new w W H a n c)
  obtain ⟨B, hB⟩ : ∃ B, B = w.heap.size := ⟨_, rfl⟩
  obtain ⟨S, hS⟩ : ∃ S, S = B + 1 := ⟨_, rfl⟩
  rw [← hB, ← hS] at M0
  rw [← hB, ← hS]
  clear hB hS D1 D2 W1 W2
  generalize (w.alloc (.cells #[.int .i64 W, .int .i64 H, .slice a n c] 44)).alloc (.cells #[.int .i64 0, .int .i64 0, .int .i64 0, .int .i64 0] 39) = w1 at *
  have c0 := M0.out.pic.c0
  have c1 := M0.out.pic.c1
  have c2 := M0.out.pic.c2
  go_wp2_with fail
  refine (P1.out _ M0.out.keeps).mono ?_
  rintro e w2 ⟨rfl, hk⟩
  have M1 := Lib.hid (M0.out.later hk)
  clear hk M0 c0 c1 c2 P1
  go_wp2_with fail
  refine (A1.out _ S M1.out.sum).mono ?_
  rintro e w3 ⟨rfl, hk⟩
  have M2 := Lib.hid (M1.out.add hk)
  clear hk M1 A1
  have c0 := M2.out.pic.c0
  have c1 := M2.out.pic.c1
  have c2 := M2.out.pic.c2
  go_wp2_with fail
  refine (P2.out _ M2.out.keeps).mono ?_
  rintro e w4 ⟨rfl, hk⟩
  have M3 := Lib.hid (M2.out.later hk)
  clear hk M2 c0 c1 c2 P2
  go_wp2_with fail
  refine (A2.out _ S M3.out.sum).mono ?_
  rintro e w5 ⟨rfl, hk⟩
  have M4 := Lib.hid (M3.out.add hk)
  clear hk M3 A2
  have c0 := M4.out.pic.c0
  have c1 := M4.out.pic.c1
  have c2 := M4.out.pic.c2
  go_wp2_with fail
  refine (P3.out _ M4.out.keeps).mono ?_
  rintro e w6 ⟨rfl, hk⟩
  have M5 := Lib.hid (M4.out.later hk)
  clear hk M4 c0 c1 c2 P3
  go_wp2_with fail
  refine (A3.out _ S M5.out.sum).mono ?_
  rintro e w7 ⟨rfl, hk⟩
  have M6 := Lib.hid (M5.out.add hk)
  clear hk M5 A3
  have c0 := M6.out.pic.c0
  have c1 := M6.out.pic.c1
  have c2 := M6.out.pic.c2
  go_wp2_with fail
  refine (P4.out _ M6.out.keeps).mono ?_
  rintro e w8 ⟨rfl, hk⟩
  have M7 := Lib.hid (M6.out.later hk)
  clear hk M6 c0 c1 c2 P4
  go_wp2_with fail
  refine (A4.out _ S M7.out.sum).mono ?_
  rintro e w9 ⟨rfl, hk⟩
  have M8 := Lib.hid (M7.out.add hk)
  clear hk M7 A4
  go_wp2_with fail
  clear q1 q2 q3 q4 x0 x1 y0 y1 s0 s1 t0 t1
  go_loopw [63] (Cnt4 (Mix w B S W H a n c (Af.p0 v1 * e1 + Af.p0 v2 * e2 + Af.p0 v3 * e3 + Af.p0 v4 * e4) (Af.p1 v1 * e1 + Af.p1 v2 * e2 + Af.p1 v3 * e3 + Af.p1 v4 * e4) (Af.p2 v1 * e1 + Af.p2 v2 * e2 + Af.p2 v3 * e3 + Af.p2 v4 * e4) (Af.p3 v1 * e1 + Af.p3 v2 * e2 + Af.p3 v3 * e3 + Af.p3 v4 * e4)) (Mix w B S W H a n c m0 (Af.p1 v1 * e1 + Af.p1 v2 * e2 + Af.p1 v3 * e3 + Af.p1 v4 * e4) (Af.p2 v1 * e1 + Af.p2 v2 * e2 + Af.p2 v3 * e3 + Af.p2 v4 * e4) (Af.p3 v1 * e1 + Af.p3 v2 * e2 + Af.p3 v3 * e3 + Af.p3 v4 * e4)) (Mix w B S W H a n c m0 m1 (Af.p2 v1 * e1 + Af.p2 v2 * e2 + Af.p2 v3 * e3 + Af.p2 v4 * e4) (Af.p3 v1 * e1 + Af.p3 v2 * e2 + Af.p3 v3 * e3 + Af.p3 v4 * e4)) (Mix w B S W H a n c m0 m1 m2 (Af.p3 v1 * e1 + Af.p3 v2 * e2 + Af.p3 v3 * e3 + Af.p3 v4 * e4)) (Mix w B S W H a n c m0 m1 m2 m3)) (fun cnt _ => 4 - (intOf cnt).toNat)
  case atStart => exact .inl ⟨rfl, M8.out⟩
  case round =>
    rcases hrel with ⟨rfl, hW⟩ | ⟨rfl, hW⟩ | ⟨rfl, hW⟩ | ⟨rfl, hW⟩ | ⟨rfl, hW⟩
    · have c0 := hW.sum.c0
      have f0 := hW.sum.fr (i := 0)
      have X := Lib.hid (hW.s0 m0)
      clear hW M8
      go_wp2_with fail
      refine (U0.out _).mono ?_
      rintro e wr ⟨rfl, rfl⟩
      go_wp2_with fail
      go_roundw
      case rel => exact .inr (.inl ⟨rfl, X.out⟩)
      case measure => decide
    · have c0 := hW.sum.c1
      have f0 := hW.sum.fr (i := 1)
      have X := Lib.hid (hW.s1 m1)
      clear hW M8
      go_wp2_with fail
      refine (U1.out _).mono ?_
      rintro e wr ⟨rfl, rfl⟩
      go_wp2_with fail
      go_roundw
      case rel => exact .inr (.inr (.inl ⟨rfl, X.out⟩))
      case measure => decide
    · have c0 := hW.sum.c2
      have f0 := hW.sum.fr (i := 2)
      have X := Lib.hid (hW.s2 m2)
      clear hW M8
      go_wp2_with fail
      refine (U2.out _).mono ?_
      rintro e wr ⟨rfl, rfl⟩
      go_wp2_with fail
      go_roundw
      case rel => exact .inr (.inr (.inr (.inl ⟨rfl, X.out⟩)))
      case measure => decide
    · have c0 := hW.sum.c3
      have f0 := hW.sum.fr (i := 3)
      have X := Lib.hid (hW.s3 m3)
      clear hW M8
      go_wp2_with fail
      refine (U3.out _).mono ?_
      rintro e wr ⟨rfl, rfl⟩
      go_wp2_with fail
      go_roundw
      case rel => exact .inr (.inr (.inr (.inr (⟨rfl, X.out⟩))))
      case measure => decide
    · have c0 := hW.sum.c0
      have c1 := hW.sum.c1
      have c2 := hW.sum.c2
      have c3 := hW.sum.c3
      have X := Lib.hid hW
      clear hW M8
      go_wp2_with fail
      refine (J.out _).mono ?_
      rintro e w9 ⟨rfl, hk⟩
      have Y := Lib.hid (X.out.keeps.next hk)
      clear hk c0 c1 c2 c3 X
      go_wp2_with fail
      go_ret
      exact ⟨by rw [HR.out]; rfl, Y.out⟩
end Go.Proofs.Ytfcndldobjpbnaa
