/- The document's mixture. (printed by genU.py) -/
import Derived.Test.YtfcndldobjpbnaaT
namespace Go.Proofs.Ytfcndldobjpbnaa
open Go.RowKit Go.Maps
set_option linter.unusedVariables false

/-- The document's mixture under way: what is told so far, of the first k numbers. -/
def DocMix (w : World) (B : Nat) (W H : Int) (a : Option Addr) (n c : Nat) (wr : World) : Prop := PicB wr B 47 W H a n c ∧ Keeps none' w wr
theorem DocMix.later {w w1 w2 : World} {B : Nat} {W H : Int} {a : Option Addr} {n c : Nat} (h : DocMix w B W H a n c w1) (k : Keeps none' w1 w2) : DocMix w B W H a n c w2 := ⟨h.1.later k, h.2.next k⟩
def Rounds (o0 o1 o2 o3 o4 : Int) (P : World → Prop) (out cnt : Value) (wr : World) : Prop :=
  (cnt = .int .i64 0 ∧ out = .int .i64 o0 ∧ P wr) ∨ (cnt = .int .i64 1 ∧ out = .int .i64 o1 ∧ P wr) ∨ (cnt = .int .i64 2 ∧ out = .int .i64 o2 ∧ P wr) ∨ (cnt = .int .i64 3 ∧ out = .int .i64 o3 ∧ P wr) ∨ (cnt = .int .i64 4 ∧ out = .int .i64 o4 ∧ P wr)
theorem Af.near_def (n : Int) : (n + 32768) / 65536 = Af.near n := rfl
set_option maxRecDepth 100000 in
set_option maxHeartbeats 6400000 in
theorem docSmooth_any (W H : Int) (a : Option Addr) (n c : Nat) (zs : List Int) (u0 v0 : Int) (w : World) (hz : Ints w a n zs) (hp : PicOk W H zs) (hu0 : Far (u0 - 32768)) (hv0 : Far (v0 - 32768)) :
    Calls Try.prog 41 #[.agg #[.int .i64 W, .int .i64 H, .slice a n c], .int .i64 u0, .int .i64 v0] w (SaysI (Af.smooth W H zs (u0 - 32768) (v0 - 32768)) w) := by
  have r0 := wrap_i64 (u0 - 32768) (by unfold Far at hu0; omega) (by unfold Far at hu0; omega)
  have r1 := wrap_i64 (v0 - 32768) (by unfold Far at hv0; omega) (by unfold Far at hv0; omega)
  obtain ⟨u, hu1⟩ : ∃ u, u0 - 32768 = u := ⟨_, rfl⟩
  obtain ⟨v, hv1⟩ : ∃ v, v0 - 32768 = v := ⟨_, rfl⟩
  have r2 : IntKind.i64.wrap (u0 - 32768) = u := r0.trans hu1
  have r3 : IntKind.i64.wrap (v0 - 32768) = v := r1.trans hv1
  have hu : Far u := by rw [← hu1]; exact hu0
  have hv : Far v := by rw [← hv1]; exact hv0
  rw [hu1, hv1]
  clear r0 r1 hu1 hv1 hu0 hv0
  have HE := Lib.hid (show Af.smooth W H zs u v = Af.mixed (u / 256 % 256) (v / 256 % 256) (Af.picAt W H zs (u / 65536) (v / 65536)) (Af.picAt W H zs (u / 65536 + 1) (v / 65536)) (Af.picAt W H zs (u / 65536) (v / 65536 + 1)) (Af.picAt W H zs (u / 65536 + 1) (v / 65536 + 1)) from rfl)
  generalize Af.smooth W H zs u v = res at *
  have D1 := Lib.hid (fun w => docDown_any u 65536 (by unfold Far at hu; unfold Up'; omega) (by omega) (by omega) w)
  have D2 := Lib.hid (fun w => docDown_any v 65536 (by unfold Far at hv; unfold Up'; omega) (by omega) (by omega) w)
  have a1 := wrap_i64 (65536 * (u / 65536)) (by unfold Far at hu; omega) (by unfold Far at hu; omega)
  have a2 := wrap_i64 (65536 * (v / 65536)) (by unfold Far at hv; omega) (by unfold Far at hv; omega)
  have a3 : IntKind.i64.wrap (u - 65536 * (u / 65536)) = u % 65536 := by rw [show u - 65536 * (u / 65536) = u % 65536 by omega]; exact wrap_i64 _ (by omega) (by omega)
  have a4 : IntKind.i64.wrap (v - 65536 * (v / 65536)) = v % 65536 := by rw [show v - 65536 * (v / 65536) = v % 65536 by omega]; exact wrap_i64 _ (by omega) (by omega)
  have ds : (u % 65536).tdiv 256 = u / 256 % 256 := by rw [Int.tdiv_eq_ediv_of_nonneg (by omega)]; omega
  have dt : (v % 65536).tdiv 256 = v / 256 % 256 := by rw [Int.tdiv_eq_ediv_of_nonneg (by omega)]; omega
  have fx : Far (u / 65536) := by unfold Far at *; omega
  have fx1 : Far (u / 65536 + 1) := by unfold Far at *; omega
  have fy : Far (v / 65536) := by unfold Far at *; omega
  have fy1 : Far (v / 65536 + 1) := by unfold Far at *; omega
  have bx : -67108864 ≤ u / 65536 ∧ u / 65536 ≤ 67108864 := by unfold Far at hu; omega
  have by' : -67108864 ≤ v / 65536 ∧ v / 65536 ≤ 67108864 := by unfold Far at hv; omega
  have P1 := Lib.hid (fun w' (k : Keeps none' w w') => docAt_any W H a n c zs (u / 65536) (v / 65536) w' (hz.later k) hp fx fy)
  have P2 := Lib.hid (fun w' (k : Keeps none' w w') => docAt_any W H a n c zs (u / 65536 + 1) (v / 65536) w' (hz.later k) hp fx1 fy)
  have P3 := Lib.hid (fun w' (k : Keeps none' w w') => docAt_any W H a n c zs (u / 65536) (v / 65536 + 1) w' (hz.later k) hp fx fy1)
  have P4 := Lib.hid (fun w' (k : Keeps none' w w') => docAt_any W H a n c zs (u / 65536 + 1) (v / 65536 + 1) w' (hz.later k) hp fx1 fy1)
  have N1 := picAt_num hp (u / 65536) (v / 65536)
  have N2 := picAt_num hp (u / 65536 + 1) (v / 65536)
  have N3 := picAt_num hp (u / 65536) (v / 65536 + 1)
  have N4 := picAt_num hp (u / 65536 + 1) (v / 65536 + 1)
  have bs := Af.low_byte u
  have bt := Af.low_byte v
  generalize Af.picAt W H zs (u / 65536) (v / 65536) = v1 at *
  generalize Af.picAt W H zs (u / 65536 + 1) (v / 65536) = v2 at *
  generalize Af.picAt W H zs (u / 65536) (v / 65536 + 1) = v3 at *
  generalize Af.picAt W H zs (u / 65536 + 1) (v / 65536 + 1) = v4 at *
  generalize u / 256 % 256 = s at *
  generalize v / 256 % 256 = t at *
  generalize u / 65536 = x at *
  generalize v / 65536 = y at *
  generalize u % 65536 = du at *
  generalize v % 65536 = dv at *
  obtain ⟨x0, x1⟩ := bx
  obtain ⟨y0, y1⟩ := by'
  obtain ⟨k1, k2, k3, k4, k5⟩ := Af.weights bs bt
  have B0 := Lib.hid (Af.mix_byte bs bt (Af.p0_byte v1) (Af.p0_byte v2) (Af.p0_byte v3) (Af.p0_byte v4))
  have h01 := Af.part_up (Af.p0_byte v1) k1
  have h02 := Af.part_up (Af.p0_byte v2) k2
  have h03 := Af.part_up (Af.p0_byte v3) k3
  have h04 := Af.part_up (Af.p0_byte v4) k4
  have hh01 := Af.part_up (Af.p0_byte v1) (k := (256 - s)) (by unfold Af.Wt; unfold Af.Byte at *; omega)
  have ma01 : Af.p0 v1 * (256 - s) * (256 - t) = Af.p0 v1 * ((256 - s) * (256 - t)) := Int.mul_assoc _ _ _
  have hh02 := Af.part_up (Af.p0_byte v2) (k := s) (by unfold Af.Wt; unfold Af.Byte at *; omega)
  have ma02 : Af.p0 v2 * s * (256 - t) = Af.p0 v2 * (s * (256 - t)) := Int.mul_assoc _ _ _
  have hh03 := Af.part_up (Af.p0_byte v3) (k := (256 - s)) (by unfold Af.Wt; unfold Af.Byte at *; omega)
  have ma03 : Af.p0 v3 * (256 - s) * t = Af.p0 v3 * ((256 - s) * t) := Int.mul_assoc _ _ _
  have hh04 := Af.part_up (Af.p0_byte v4) (k := s) (by unfold Af.Wt; unfold Af.Byte at *; omega)
  have ma04 : Af.p0 v4 * s * t = Af.p0 v4 * (s * t) := Int.mul_assoc _ _ _
  have B1 := Lib.hid (Af.mix_byte bs bt (Af.p1_byte v1) (Af.p1_byte v2) (Af.p1_byte v3) (Af.p1_byte v4))
  have h11 := Af.part_up (Af.p1_byte v1) k1
  have h12 := Af.part_up (Af.p1_byte v2) k2
  have h13 := Af.part_up (Af.p1_byte v3) k3
  have h14 := Af.part_up (Af.p1_byte v4) k4
  have hh11 := Af.part_up (Af.p1_byte v1) (k := (256 - s)) (by unfold Af.Wt; unfold Af.Byte at *; omega)
  have ma11 : Af.p1 v1 * (256 - s) * (256 - t) = Af.p1 v1 * ((256 - s) * (256 - t)) := Int.mul_assoc _ _ _
  have hh12 := Af.part_up (Af.p1_byte v2) (k := s) (by unfold Af.Wt; unfold Af.Byte at *; omega)
  have ma12 : Af.p1 v2 * s * (256 - t) = Af.p1 v2 * (s * (256 - t)) := Int.mul_assoc _ _ _
  have hh13 := Af.part_up (Af.p1_byte v3) (k := (256 - s)) (by unfold Af.Wt; unfold Af.Byte at *; omega)
  have ma13 : Af.p1 v3 * (256 - s) * t = Af.p1 v3 * ((256 - s) * t) := Int.mul_assoc _ _ _
  have hh14 := Af.part_up (Af.p1_byte v4) (k := s) (by unfold Af.Wt; unfold Af.Byte at *; omega)
  have ma14 : Af.p1 v4 * s * t = Af.p1 v4 * (s * t) := Int.mul_assoc _ _ _
  have B2 := Lib.hid (Af.mix_byte bs bt (Af.p2_byte v1) (Af.p2_byte v2) (Af.p2_byte v3) (Af.p2_byte v4))
  have h21 := Af.part_up (Af.p2_byte v1) k1
  have h22 := Af.part_up (Af.p2_byte v2) k2
  have h23 := Af.part_up (Af.p2_byte v3) k3
  have h24 := Af.part_up (Af.p2_byte v4) k4
  have hh21 := Af.part_up (Af.p2_byte v1) (k := (256 - s)) (by unfold Af.Wt; unfold Af.Byte at *; omega)
  have ma21 : Af.p2 v1 * (256 - s) * (256 - t) = Af.p2 v1 * ((256 - s) * (256 - t)) := Int.mul_assoc _ _ _
  have hh22 := Af.part_up (Af.p2_byte v2) (k := s) (by unfold Af.Wt; unfold Af.Byte at *; omega)
  have ma22 : Af.p2 v2 * s * (256 - t) = Af.p2 v2 * (s * (256 - t)) := Int.mul_assoc _ _ _
  have hh23 := Af.part_up (Af.p2_byte v3) (k := (256 - s)) (by unfold Af.Wt; unfold Af.Byte at *; omega)
  have ma23 : Af.p2 v3 * (256 - s) * t = Af.p2 v3 * ((256 - s) * t) := Int.mul_assoc _ _ _
  have hh24 := Af.part_up (Af.p2_byte v4) (k := s) (by unfold Af.Wt; unfold Af.Byte at *; omega)
  have ma24 : Af.p2 v4 * s * t = Af.p2 v4 * (s * t) := Int.mul_assoc _ _ _
  have B3 := Lib.hid (Af.mix_byte bs bt (Af.p3_byte v1) (Af.p3_byte v2) (Af.p3_byte v3) (Af.p3_byte v4))
  have h31 := Af.part_up (Af.p3_byte v1) k1
  have h32 := Af.part_up (Af.p3_byte v2) k2
  have h33 := Af.part_up (Af.p3_byte v3) k3
  have h34 := Af.part_up (Af.p3_byte v4) k4
  have hh31 := Af.part_up (Af.p3_byte v1) (k := (256 - s)) (by unfold Af.Wt; unfold Af.Byte at *; omega)
  have ma31 : Af.p3 v1 * (256 - s) * (256 - t) = Af.p3 v1 * ((256 - s) * (256 - t)) := Int.mul_assoc _ _ _
  have hh32 := Af.part_up (Af.p3_byte v2) (k := s) (by unfold Af.Wt; unfold Af.Byte at *; omega)
  have ma32 : Af.p3 v2 * s * (256 - t) = Af.p3 v2 * (s * (256 - t)) := Int.mul_assoc _ _ _
  have hh33 := Af.part_up (Af.p3_byte v3) (k := (256 - s)) (by unfold Af.Wt; unfold Af.Byte at *; omega)
  have ma33 : Af.p3 v3 * (256 - s) * t = Af.p3 v3 * ((256 - s) * t) := Int.mul_assoc _ _ _
  have hh34 := Af.part_up (Af.p3_byte v4) (k := s) (by unfold Af.Wt; unfold Af.Byte at *; omega)
  have ma34 : Af.p3 v4 * s * t = Af.p3 v4 * (s * t) := Int.mul_assoc _ _ _
  have T01 := Lib.hid (fun w => part_0 v1 N1 w)
  have T02 := Lib.hid (fun w => part_0 v2 N2 w)
  have T03 := Lib.hid (fun w => part_0 v3 N3 w)
  have T04 := Lib.hid (fun w => part_0 v4 N4 w)
  have T11 := Lib.hid (fun w => part_1 v1 N1 w)
  have T12 := Lib.hid (fun w => part_1 v2 N2 w)
  have T13 := Lib.hid (fun w => part_1 v3 N3 w)
  have T14 := Lib.hid (fun w => part_1 v4 N4 w)
  have T21 := Lib.hid (fun w => part_2 v1 N1 w)
  have T22 := Lib.hid (fun w => part_2 v2 N2 w)
  have T23 := Lib.hid (fun w => part_2 v3 N3 w)
  have T24 := Lib.hid (fun w => part_2 v4 N4 w)
  have T31 := Lib.hid (fun w => part_3 v1 N1 w)
  have T32 := Lib.hid (fun w => part_3 v2 N2 w)
  have T33 := Lib.hid (fun w => part_3 v3 N3 w)
  have T34 := Lib.hid (fun w => part_3 v4 N4 w)
  have HM := Lib.hid (show Af.mixed s t v1 v2 v3 v4 = Af.join (Af.mixC s t (Af.p0 v1) (Af.p0 v2) (Af.p0 v3) (Af.p0 v4)) (Af.mixC s t (Af.p1 v1) (Af.p1 v2) (Af.p1 v3) (Af.p1 v4)) (Af.mixC s t (Af.p2 v1) (Af.p2 v2) (Af.p2 v3) (Af.p2 v4)) (Af.mixC s t (Af.p3 v1) (Af.p3 v2) (Af.p3 v3) (Af.p3 v4)) from rfl)
  unfold Af.mixC at B0 B1 B2 B3 HM
  generalize (256 - s) * (256 - t) = e1 at *
  generalize s * (256 - t) = e2 at *
  generalize (256 - s) * t = e3 at *
  generalize s * t = e4 at *
  have wa01 := wrap_i64 (Af.p0 v1 * (256 - s)) (by unfold Af.Byte at *; omega) (by unfold Af.Byte at *; omega)
  have wb01 : IntKind.i64.wrap (Af.p0 v1 * (256 - s) * (256 - t)) = Af.p0 v1 * e1 := by rw [ma01]; exact wrap_i64 _ (by unfold Af.Wt at *; omega) (by unfold Af.Wt at *; omega)
  have wa02 := wrap_i64 (Af.p0 v2 * s) (by unfold Af.Byte at *; omega) (by unfold Af.Byte at *; omega)
  have wb02 : IntKind.i64.wrap (Af.p0 v2 * s * (256 - t)) = Af.p0 v2 * e2 := by rw [ma02]; exact wrap_i64 _ (by unfold Af.Wt at *; omega) (by unfold Af.Wt at *; omega)
  have wc02 := wrap_i64 (Af.p0 v1 * e1 + Af.p0 v2 * e2) (by unfold Af.Wt at *; omega) (by unfold Af.Wt at *; omega)
  have wa03 := wrap_i64 (Af.p0 v3 * (256 - s)) (by unfold Af.Byte at *; omega) (by unfold Af.Byte at *; omega)
  have wb03 : IntKind.i64.wrap (Af.p0 v3 * (256 - s) * t) = Af.p0 v3 * e3 := by rw [ma03]; exact wrap_i64 _ (by unfold Af.Wt at *; omega) (by unfold Af.Wt at *; omega)
  have wc03 := wrap_i64 (Af.p0 v1 * e1 + Af.p0 v2 * e2 + Af.p0 v3 * e3) (by unfold Af.Wt at *; omega) (by unfold Af.Wt at *; omega)
  have wa04 := wrap_i64 (Af.p0 v4 * s) (by unfold Af.Byte at *; omega) (by unfold Af.Byte at *; omega)
  have wb04 : IntKind.i64.wrap (Af.p0 v4 * s * t) = Af.p0 v4 * e4 := by rw [ma04]; exact wrap_i64 _ (by unfold Af.Wt at *; omega) (by unfold Af.Wt at *; omega)
  have wc04 := wrap_i64 (Af.p0 v1 * e1 + Af.p0 v2 * e2 + Af.p0 v3 * e3 + Af.p0 v4 * e4) (by unfold Af.Wt at *; omega) (by unfold Af.Wt at *; omega)
  have wd0 := wrap_i64 (Af.p0 v1 * e1 + Af.p0 v2 * e2 + Af.p0 v3 * e3 + Af.p0 v4 * e4 + 32768) (by unfold Af.Wt at *; omega) (by unfold Af.Wt at *; omega)
  have wf0 : (Af.p0 v1 * e1 + Af.p0 v2 * e2 + Af.p0 v3 * e3 + Af.p0 v4 * e4 + 32768).tdiv 65536 = Af.near (Af.p0 v1 * e1 + Af.p0 v2 * e2 + Af.p0 v3 * e3 + Af.p0 v4 * e4) := by rw [Int.tdiv_eq_ediv_of_nonneg (by omega)]; rfl
  have wa11 := wrap_i64 (Af.p1 v1 * (256 - s)) (by unfold Af.Byte at *; omega) (by unfold Af.Byte at *; omega)
  have wb11 : IntKind.i64.wrap (Af.p1 v1 * (256 - s) * (256 - t)) = Af.p1 v1 * e1 := by rw [ma11]; exact wrap_i64 _ (by unfold Af.Wt at *; omega) (by unfold Af.Wt at *; omega)
  have wa12 := wrap_i64 (Af.p1 v2 * s) (by unfold Af.Byte at *; omega) (by unfold Af.Byte at *; omega)
  have wb12 : IntKind.i64.wrap (Af.p1 v2 * s * (256 - t)) = Af.p1 v2 * e2 := by rw [ma12]; exact wrap_i64 _ (by unfold Af.Wt at *; omega) (by unfold Af.Wt at *; omega)
  have wc12 := wrap_i64 (Af.p1 v1 * e1 + Af.p1 v2 * e2) (by unfold Af.Wt at *; omega) (by unfold Af.Wt at *; omega)
  have wa13 := wrap_i64 (Af.p1 v3 * (256 - s)) (by unfold Af.Byte at *; omega) (by unfold Af.Byte at *; omega)
  have wb13 : IntKind.i64.wrap (Af.p1 v3 * (256 - s) * t) = Af.p1 v3 * e3 := by rw [ma13]; exact wrap_i64 _ (by unfold Af.Wt at *; omega) (by unfold Af.Wt at *; omega)
  have wc13 := wrap_i64 (Af.p1 v1 * e1 + Af.p1 v2 * e2 + Af.p1 v3 * e3) (by unfold Af.Wt at *; omega) (by unfold Af.Wt at *; omega)
  have wa14 := wrap_i64 (Af.p1 v4 * s) (by unfold Af.Byte at *; omega) (by unfold Af.Byte at *; omega)
  have wb14 : IntKind.i64.wrap (Af.p1 v4 * s * t) = Af.p1 v4 * e4 := by rw [ma14]; exact wrap_i64 _ (by unfold Af.Wt at *; omega) (by unfold Af.Wt at *; omega)
  have wc14 := wrap_i64 (Af.p1 v1 * e1 + Af.p1 v2 * e2 + Af.p1 v3 * e3 + Af.p1 v4 * e4) (by unfold Af.Wt at *; omega) (by unfold Af.Wt at *; omega)
  have wd1 := wrap_i64 (Af.p1 v1 * e1 + Af.p1 v2 * e2 + Af.p1 v3 * e3 + Af.p1 v4 * e4 + 32768) (by unfold Af.Wt at *; omega) (by unfold Af.Wt at *; omega)
  have wf1 : (Af.p1 v1 * e1 + Af.p1 v2 * e2 + Af.p1 v3 * e3 + Af.p1 v4 * e4 + 32768).tdiv 65536 = Af.near (Af.p1 v1 * e1 + Af.p1 v2 * e2 + Af.p1 v3 * e3 + Af.p1 v4 * e4) := by rw [Int.tdiv_eq_ediv_of_nonneg (by omega)]; rfl
  have wa21 := wrap_i64 (Af.p2 v1 * (256 - s)) (by unfold Af.Byte at *; omega) (by unfold Af.Byte at *; omega)
  have wb21 : IntKind.i64.wrap (Af.p2 v1 * (256 - s) * (256 - t)) = Af.p2 v1 * e1 := by rw [ma21]; exact wrap_i64 _ (by unfold Af.Wt at *; omega) (by unfold Af.Wt at *; omega)
  have wa22 := wrap_i64 (Af.p2 v2 * s) (by unfold Af.Byte at *; omega) (by unfold Af.Byte at *; omega)
  have wb22 : IntKind.i64.wrap (Af.p2 v2 * s * (256 - t)) = Af.p2 v2 * e2 := by rw [ma22]; exact wrap_i64 _ (by unfold Af.Wt at *; omega) (by unfold Af.Wt at *; omega)
  have wc22 := wrap_i64 (Af.p2 v1 * e1 + Af.p2 v2 * e2) (by unfold Af.Wt at *; omega) (by unfold Af.Wt at *; omega)
  have wa23 := wrap_i64 (Af.p2 v3 * (256 - s)) (by unfold Af.Byte at *; omega) (by unfold Af.Byte at *; omega)
  have wb23 : IntKind.i64.wrap (Af.p2 v3 * (256 - s) * t) = Af.p2 v3 * e3 := by rw [ma23]; exact wrap_i64 _ (by unfold Af.Wt at *; omega) (by unfold Af.Wt at *; omega)
  have wc23 := wrap_i64 (Af.p2 v1 * e1 + Af.p2 v2 * e2 + Af.p2 v3 * e3) (by unfold Af.Wt at *; omega) (by unfold Af.Wt at *; omega)
  have wa24 := wrap_i64 (Af.p2 v4 * s) (by unfold Af.Byte at *; omega) (by unfold Af.Byte at *; omega)
  have wb24 : IntKind.i64.wrap (Af.p2 v4 * s * t) = Af.p2 v4 * e4 := by rw [ma24]; exact wrap_i64 _ (by unfold Af.Wt at *; omega) (by unfold Af.Wt at *; omega)
  have wc24 := wrap_i64 (Af.p2 v1 * e1 + Af.p2 v2 * e2 + Af.p2 v3 * e3 + Af.p2 v4 * e4) (by unfold Af.Wt at *; omega) (by unfold Af.Wt at *; omega)
  have wd2 := wrap_i64 (Af.p2 v1 * e1 + Af.p2 v2 * e2 + Af.p2 v3 * e3 + Af.p2 v4 * e4 + 32768) (by unfold Af.Wt at *; omega) (by unfold Af.Wt at *; omega)
  have wf2 : (Af.p2 v1 * e1 + Af.p2 v2 * e2 + Af.p2 v3 * e3 + Af.p2 v4 * e4 + 32768).tdiv 65536 = Af.near (Af.p2 v1 * e1 + Af.p2 v2 * e2 + Af.p2 v3 * e3 + Af.p2 v4 * e4) := by rw [Int.tdiv_eq_ediv_of_nonneg (by omega)]; rfl
  have wa31 := wrap_i64 (Af.p3 v1 * (256 - s)) (by unfold Af.Byte at *; omega) (by unfold Af.Byte at *; omega)
  have wb31 : IntKind.i64.wrap (Af.p3 v1 * (256 - s) * (256 - t)) = Af.p3 v1 * e1 := by rw [ma31]; exact wrap_i64 _ (by unfold Af.Wt at *; omega) (by unfold Af.Wt at *; omega)
  have wa32 := wrap_i64 (Af.p3 v2 * s) (by unfold Af.Byte at *; omega) (by unfold Af.Byte at *; omega)
  have wb32 : IntKind.i64.wrap (Af.p3 v2 * s * (256 - t)) = Af.p3 v2 * e2 := by rw [ma32]; exact wrap_i64 _ (by unfold Af.Wt at *; omega) (by unfold Af.Wt at *; omega)
  have wc32 := wrap_i64 (Af.p3 v1 * e1 + Af.p3 v2 * e2) (by unfold Af.Wt at *; omega) (by unfold Af.Wt at *; omega)
  have wa33 := wrap_i64 (Af.p3 v3 * (256 - s)) (by unfold Af.Byte at *; omega) (by unfold Af.Byte at *; omega)
  have wb33 : IntKind.i64.wrap (Af.p3 v3 * (256 - s) * t) = Af.p3 v3 * e3 := by rw [ma33]; exact wrap_i64 _ (by unfold Af.Wt at *; omega) (by unfold Af.Wt at *; omega)
  have wc33 := wrap_i64 (Af.p3 v1 * e1 + Af.p3 v2 * e2 + Af.p3 v3 * e3) (by unfold Af.Wt at *; omega) (by unfold Af.Wt at *; omega)
  have wa34 := wrap_i64 (Af.p3 v4 * s) (by unfold Af.Byte at *; omega) (by unfold Af.Byte at *; omega)
  have wb34 : IntKind.i64.wrap (Af.p3 v4 * s * t) = Af.p3 v4 * e4 := by rw [ma34]; exact wrap_i64 _ (by unfold Af.Wt at *; omega) (by unfold Af.Wt at *; omega)
  have wc34 := wrap_i64 (Af.p3 v1 * e1 + Af.p3 v2 * e2 + Af.p3 v3 * e3 + Af.p3 v4 * e4) (by unfold Af.Wt at *; omega) (by unfold Af.Wt at *; omega)
  have wd3 := wrap_i64 (Af.p3 v1 * e1 + Af.p3 v2 * e2 + Af.p3 v3 * e3 + Af.p3 v4 * e4 + 32768) (by unfold Af.Wt at *; omega) (by unfold Af.Wt at *; omega)
  have wf3 : (Af.p3 v1 * e1 + Af.p3 v2 * e2 + Af.p3 v3 * e3 + Af.p3 v4 * e4 + 32768).tdiv 65536 = Af.near (Af.p3 v1 * e1 + Af.p3 v2 * e2 + Af.p3 v3 * e3 + Af.p3 v4 * e4) := by rw [Int.tdiv_eq_ediv_of_nonneg (by omega)]; rfl
  generalize Af.near (Af.p0 v1 * e1 + Af.p0 v2 * e2 + Af.p0 v3 * e3 + Af.p0 v4 * e4) = m0 at *
  generalize Af.near (Af.p1 v1 * e1 + Af.p1 v2 * e2 + Af.p1 v3 * e3 + Af.p1 v4 * e4) = m1 at *
  generalize Af.near (Af.p2 v1 * e1 + Af.p2 v2 * e2 + Af.p2 v3 * e3 + Af.p2 v4 * e4) = m2 at *
  generalize Af.near (Af.p3 v1 * e1 + Af.p3 v2 * e2 + Af.p3 v3 * e3 + Af.p3 v4 * e4) = m3 at *
  obtain ⟨b00, b01⟩ := B0.out
  obtain ⟨b10, b11⟩ := B1.out
  obtain ⟨b20, b21⟩ := B2.out
  obtain ⟨b30, b31⟩ := B3.out
  have HR := Lib.hid (show res = 256 * (256 * (256 * m0 + m1) + m2) + m3 from by rw [HE.out, HM.out]; unfold Af.join; omega)
  obtain ⟨s0, s1⟩ := bs
  obtain ⟨t0, t1⟩ := bt
  clear HE HM B0 B1 B2 B3 hu hv fx fx1 fy fy1 N1 N2 N3 N4 k1 k2 k3 k4 k5 hz hp h01 hh01 ma01 h02 hh02 ma02 h03 hh03 ma03 h04 hh04 ma04 h11 hh11 ma11 h12 hh12 ma12 h13 hh13 ma13 h14 hh14 ma14 h21 hh21 ma21 h22 hh22 ma22 h23 hh23 ma23 h24 hh24 ma24 h31 hh31 ma31 h32 hh32 ma32 h33 hh33 ma33 h34 hh34 ma34
  have K0 := Lib.hid (keeps_alloc (w := w) (o := .cells #[.int .i64 W, .int .i64 H, .slice a n c] 47) rfl)
  have P0 := Lib.hid (PicB.new w 47 W H a n c)
  go_enter Try.func41, Try.ntmps41
  go_upto_region 1 with (fail)
  generalize w.alloc (.cells #[.int .i64 W, .int .i64 H, .slice a n c] 47) = wa at *
  generalize w.heap.size = B at *
  have M0 := Lib.hid (show DocMix w B W H a n c wa from ⟨P0.out, K0.out⟩)
  clear K0 P0
  go_wp2_with fail
  refine (D1.out _).mono ?_
  rintro e wa ⟨rfl, rfl⟩
  go_wp2_with fail
  refine (D2.out _).mono ?_
  rintro e wa ⟨rfl, rfl⟩
  go_wp2_with fail
  clear D1 D2 a1 a2 a3 a4 ds dt r2 r3
  go_loopw [11, 12] (Rounds 0 m0 (256 * m0 + m1) (256 * (256 * m0 + m1) + m2) (256 * (256 * (256 * m0 + m1) + m2) + m3) (DocMix w B W H a n c)) (fun _ cnt _ => 4 - (intOf cnt).toNat)
  case atStart => exact .inl ⟨rfl, rfl, M0.out⟩
  case round =>
    rcases hrel with ⟨rfl, rfl, hW⟩ | ⟨rfl, rfl, hW⟩ | ⟨rfl, rfl, hW⟩ | ⟨rfl, rfl, hW⟩ | ⟨rfl, rfl, hW⟩
    · have V0 := Lib.hid hW
      clear hW M0 wa11 wb11 wa12 wb12 wc12 wa13 wb13 wc13 wa14 wb14 wc14 wa21 wb21 wa22 wb22 wc22 wa23 wb23 wc23 wa24 wb24 wc24 wa31 wb31 wa32 wb32 wc32 wa33 wb33 wc33 wa34 wb34 wc34 wd1 wf1 wd2 wf2 wd3 wf3
      have c0 := V0.out.1.c0
      have c1 := V0.out.1.c1
      have c2 := V0.out.1.c2
      go_wp2_with fail
      refine (P1.out _ V0.out.2).mono ?_
      rintro e w1 ⟨rfl, hk⟩
      have V1 := Lib.hid (V0.out.later hk)
      clear hk V0 c0 c1 c2
      go_wp2_with fail
      refine (T01.out _).mono ?_
      rintro e w1 ⟨rfl, rfl⟩
      have c0 := V1.out.1.c0
      have c1 := V1.out.1.c1
      have c2 := V1.out.1.c2
      go_wp2_with fail
      refine (P2.out _ V1.out.2).mono ?_
      rintro e w2 ⟨rfl, hk⟩
      have V2 := Lib.hid (V1.out.later hk)
      clear hk V1 c0 c1 c2
      go_wp2_with fail
      refine (T02.out _).mono ?_
      rintro e w2 ⟨rfl, rfl⟩
      have c0 := V2.out.1.c0
      have c1 := V2.out.1.c1
      have c2 := V2.out.1.c2
      go_wp2_with fail
      refine (P3.out _ V2.out.2).mono ?_
      rintro e w3 ⟨rfl, hk⟩
      have V3 := Lib.hid (V2.out.later hk)
      clear hk V2 c0 c1 c2
      go_wp2_with fail
      refine (T03.out _).mono ?_
      rintro e w3 ⟨rfl, rfl⟩
      have c0 := V3.out.1.c0
      have c1 := V3.out.1.c1
      have c2 := V3.out.1.c2
      go_wp2_with fail
      refine (P4.out _ V3.out.2).mono ?_
      rintro e w4 ⟨rfl, hk⟩
      have V4 := Lib.hid (V3.out.later hk)
      clear hk V3 c0 c1 c2
      go_wp2_with fail
      refine (T04.out _).mono ?_
      rintro e w4 ⟨rfl, rfl⟩
      go_wp2_with fail
      go_roundw
      case rel => exact .inr (.inl ⟨rfl, rfl, V4.out⟩)
      case measure => decide
    · have V0 := Lib.hid hW
      clear hW M0 wa01 wb01 wa02 wb02 wc02 wa03 wb03 wc03 wa04 wb04 wc04 wa21 wb21 wa22 wb22 wc22 wa23 wb23 wc23 wa24 wb24 wc24 wa31 wb31 wa32 wb32 wc32 wa33 wb33 wc33 wa34 wb34 wc34 wd0 wf0 wd2 wf2 wd3 wf3
      have c0 := V0.out.1.c0
      have c1 := V0.out.1.c1
      have c2 := V0.out.1.c2
      go_wp2_with fail
      refine (P1.out _ V0.out.2).mono ?_
      rintro e w1 ⟨rfl, hk⟩
      have V1 := Lib.hid (V0.out.later hk)
      clear hk V0 c0 c1 c2
      go_wp2_with fail
      refine (T11.out _).mono ?_
      rintro e w1 ⟨rfl, rfl⟩
      have c0 := V1.out.1.c0
      have c1 := V1.out.1.c1
      have c2 := V1.out.1.c2
      go_wp2_with fail
      refine (P2.out _ V1.out.2).mono ?_
      rintro e w2 ⟨rfl, hk⟩
      have V2 := Lib.hid (V1.out.later hk)
      clear hk V1 c0 c1 c2
      go_wp2_with fail
      refine (T12.out _).mono ?_
      rintro e w2 ⟨rfl, rfl⟩
      have c0 := V2.out.1.c0
      have c1 := V2.out.1.c1
      have c2 := V2.out.1.c2
      go_wp2_with fail
      refine (P3.out _ V2.out.2).mono ?_
      rintro e w3 ⟨rfl, hk⟩
      have V3 := Lib.hid (V2.out.later hk)
      clear hk V2 c0 c1 c2
      go_wp2_with fail
      refine (T13.out _).mono ?_
      rintro e w3 ⟨rfl, rfl⟩
      have c0 := V3.out.1.c0
      have c1 := V3.out.1.c1
      have c2 := V3.out.1.c2
      go_wp2_with fail
      refine (P4.out _ V3.out.2).mono ?_
      rintro e w4 ⟨rfl, hk⟩
      have V4 := Lib.hid (V3.out.later hk)
      clear hk V3 c0 c1 c2
      go_wp2_with fail
      refine (T14.out _).mono ?_
      rintro e w4 ⟨rfl, rfl⟩
      go_wp2_with fail
      go_roundw
      case rel => exact .inr (.inr (.inl ⟨rfl, rfl, V4.out⟩))
      case measure => decide
    · have V0 := Lib.hid hW
      clear hW M0 wa01 wb01 wa02 wb02 wc02 wa03 wb03 wc03 wa04 wb04 wc04 wa11 wb11 wa12 wb12 wc12 wa13 wb13 wc13 wa14 wb14 wc14 wa31 wb31 wa32 wb32 wc32 wa33 wb33 wc33 wa34 wb34 wc34 wd0 wf0 wd1 wf1 wd3 wf3
      have c0 := V0.out.1.c0
      have c1 := V0.out.1.c1
      have c2 := V0.out.1.c2
      go_wp2_with fail
      refine (P1.out _ V0.out.2).mono ?_
      rintro e w1 ⟨rfl, hk⟩
      have V1 := Lib.hid (V0.out.later hk)
      clear hk V0 c0 c1 c2
      go_wp2_with fail
      refine (T21.out _).mono ?_
      rintro e w1 ⟨rfl, rfl⟩
      have c0 := V1.out.1.c0
      have c1 := V1.out.1.c1
      have c2 := V1.out.1.c2
      go_wp2_with fail
      refine (P2.out _ V1.out.2).mono ?_
      rintro e w2 ⟨rfl, hk⟩
      have V2 := Lib.hid (V1.out.later hk)
      clear hk V1 c0 c1 c2
      go_wp2_with fail
      refine (T22.out _).mono ?_
      rintro e w2 ⟨rfl, rfl⟩
      have c0 := V2.out.1.c0
      have c1 := V2.out.1.c1
      have c2 := V2.out.1.c2
      go_wp2_with fail
      refine (P3.out _ V2.out.2).mono ?_
      rintro e w3 ⟨rfl, hk⟩
      have V3 := Lib.hid (V2.out.later hk)
      clear hk V2 c0 c1 c2
      go_wp2_with fail
      refine (T23.out _).mono ?_
      rintro e w3 ⟨rfl, rfl⟩
      have c0 := V3.out.1.c0
      have c1 := V3.out.1.c1
      have c2 := V3.out.1.c2
      go_wp2_with fail
      refine (P4.out _ V3.out.2).mono ?_
      rintro e w4 ⟨rfl, hk⟩
      have V4 := Lib.hid (V3.out.later hk)
      clear hk V3 c0 c1 c2
      go_wp2_with fail
      refine (T24.out _).mono ?_
      rintro e w4 ⟨rfl, rfl⟩
      go_wp2_with fail
      go_roundw
      case rel => exact .inr (.inr (.inr (.inl ⟨rfl, rfl, V4.out⟩)))
      case measure => decide
    · have V0 := Lib.hid hW
      clear hW M0 wa01 wb01 wa02 wb02 wc02 wa03 wb03 wc03 wa04 wb04 wc04 wa11 wb11 wa12 wb12 wc12 wa13 wb13 wc13 wa14 wb14 wc14 wa21 wb21 wa22 wb22 wc22 wa23 wb23 wc23 wa24 wb24 wc24 wd0 wf0 wd1 wf1 wd2 wf2
      have c0 := V0.out.1.c0
      have c1 := V0.out.1.c1
      have c2 := V0.out.1.c2
      go_wp2_with fail
      refine (P1.out _ V0.out.2).mono ?_
      rintro e w1 ⟨rfl, hk⟩
      have V1 := Lib.hid (V0.out.later hk)
      clear hk V0 c0 c1 c2
      go_wp2_with fail
      refine (T31.out _).mono ?_
      rintro e w1 ⟨rfl, rfl⟩
      have c0 := V1.out.1.c0
      have c1 := V1.out.1.c1
      have c2 := V1.out.1.c2
      go_wp2_with fail
      refine (P2.out _ V1.out.2).mono ?_
      rintro e w2 ⟨rfl, hk⟩
      have V2 := Lib.hid (V1.out.later hk)
      clear hk V1 c0 c1 c2
      go_wp2_with fail
      refine (T32.out _).mono ?_
      rintro e w2 ⟨rfl, rfl⟩
      have c0 := V2.out.1.c0
      have c1 := V2.out.1.c1
      have c2 := V2.out.1.c2
      go_wp2_with fail
      refine (P3.out _ V2.out.2).mono ?_
      rintro e w3 ⟨rfl, hk⟩
      have V3 := Lib.hid (V2.out.later hk)
      clear hk V2 c0 c1 c2
      go_wp2_with fail
      refine (T33.out _).mono ?_
      rintro e w3 ⟨rfl, rfl⟩
      have c0 := V3.out.1.c0
      have c1 := V3.out.1.c1
      have c2 := V3.out.1.c2
      go_wp2_with fail
      refine (P4.out _ V3.out.2).mono ?_
      rintro e w4 ⟨rfl, hk⟩
      have V4 := Lib.hid (V3.out.later hk)
      clear hk V3 c0 c1 c2
      go_wp2_with fail
      refine (T34.out _).mono ?_
      rintro e w4 ⟨rfl, rfl⟩
      go_wp2_with fail
      go_roundw
      case rel => exact .inr (.inr (.inr (.inr (⟨rfl, rfl, V4.out⟩))))
      case measure => decide
    · have V0 := Lib.hid hW
      clear hW
      go_wp2_with fail
      go_ret
      exact ⟨by rw [HR.out]; rfl, V0.out.2⟩
end Go.Proofs.Ytfcndldobjpbnaa
