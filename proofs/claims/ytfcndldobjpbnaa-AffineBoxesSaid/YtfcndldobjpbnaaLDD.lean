/- AffineBoxes: the box as it stands. (printed by genLF.py) -/
import Derived.Test.YtfcndldobjpbnaaLDC
namespace Go.Proofs.Ytfcndldobjpbnaa
open Go.RowKit Go.Maps
set_option linter.unusedVariables false

set_option maxRecDepth 100000 in
set_option maxHeartbeats 6400000 in
theorem boxes_good (m : Af.M) (x y pw ph : Int) (w : World) (hb : BoxOk m x y pw ph) : Calls Try.prog 6 #[.agg #[.int .i64 m.a, .int .i64 m.b, .int .i64 m.c, .int .i64 m.d, .int .i64 m.e, .int .i64 m.f], .int .i64 x, .int .i64 y, .int .i64 pw, .int .i64 ph] w (Yes w) := by
  have BG := fun w => box_good m x y pw ph w hb
  have C := Lib.hid (fun w => docRight_yes hb.1 w)
  obtain ⟨hm, ⟨x0, x1⟩, ⟨y0, y1⟩, ⟨a0, a1⟩, b0, b1⟩ := hb
  have t10 : decide (pw ≥ 0) = true := by simpa using a0
  have t11 : decide (ph ≥ 0) = true := by simpa using b0
  have hv0 : Af.Up x 32768 := ⟨x0, x1⟩
  have hv1 : Af.Up y 32768 := ⟨y0, y1⟩
  have hv2 : Af.Up pw 32768 := ⟨by omega, a1⟩
  have hv3 : Af.Up ph 32768 := ⟨by omega, b1⟩
  obtain ⟨⟨r0, s0⟩, t0, q0⟩ := place_up hm (x := x) (y := y) ⟨by omega, by omega⟩ ⟨by omega, by omega⟩
  have EU0 : m.a * x + m.b * y + m.e = Af.placeU m x y := rfl
  have EV0 : m.c * x + m.d * y + m.f = Af.placeV m x y := rfl
  obtain ⟨⟨r1, s1⟩, t1, q1⟩ := place_up hm (x := (x + pw)) (y := y) ⟨by omega, by omega⟩ ⟨by omega, by omega⟩
  have EU1 : m.a * (x + pw) + m.b * y + m.e = Af.placeU m (x + pw) y := rfl
  have EV1 : m.c * (x + pw) + m.d * y + m.f = Af.placeV m (x + pw) y := rfl
  obtain ⟨⟨r2, s2⟩, t2, q2⟩ := place_up hm (x := x) (y := (y + ph)) ⟨by omega, by omega⟩ ⟨by omega, by omega⟩
  have EU2 : m.a * x + m.b * (y + ph) + m.e = Af.placeU m x (y + ph) := rfl
  have EV2 : m.c * x + m.d * (y + ph) + m.f = Af.placeV m x (y + ph) := rfl
  obtain ⟨⟨r3, s3⟩, t3, q3⟩ := place_up hm (x := (x + pw)) (y := (y + ph)) ⟨by omega, by omega⟩ ⟨by omega, by omega⟩
  have EU3 : m.a * (x + pw) + m.b * (y + ph) + m.e = Af.placeU m (x + pw) (y + ph) := rfl
  have EV3 : m.c * (x + pw) + m.d * (y + ph) + m.f = Af.placeV m (x + pw) (y + ph) := rfl
  generalize Af.placeU m x y = u0 at *
  generalize Af.placeV m x y = v0 at *
  generalize Af.placeU m (x + pw) y = u1 at *
  generalize Af.placeV m (x + pw) y = v1 at *
  generalize Af.placeU m x (y + ph) = u2 at *
  generalize Af.placeV m x (y + ph) = v2 at *
  generalize Af.placeU m (x + pw) (y + ph) = u3 at *
  generalize Af.placeV m (x + pw) (y + ph) = v3 at *
  have mu1 := min_if u0 u1
  have mu2 := min_if (min u0 u1) u2
  have mu3 := min_if (min (min u0 u1) u2) u3
  have nu1 := max_if u0 u1
  have nu2 := max_if (max u0 u1) u2
  have nu3 := max_if (max (max u0 u1) u2) u3
  have lu : -2267742732288 ≤ Af.lo u0 u1 u2 u3 ∧ Af.lo u0 u1 u2 u3 ≤ 2267742732288 := by unfold Af.lo; omega
  have gu : -2267742732288 ≤ Af.hi u0 u1 u2 u3 ∧ Af.hi u0 u1 u2 u3 ≤ 2267742732288 := by unfold Af.hi; omega
  rw [show min (min (min u0 u1) u2) u3 = Af.lo u0 u1 u2 u3 from rfl] at mu3
  rw [show max (max (max u0 u1) u2) u3 = Af.hi u0 u1 u2 u3 from rfl] at nu3
  generalize Af.lo u0 u1 u2 u3 = Lu at *
  generalize Af.hi u0 u1 u2 u3 = Gu at *
  generalize min (min u0 u1) u2 = Mu2 at *
  generalize min u0 u1 = Mu1 at *
  generalize max (max u0 u1) u2 = Nu2 at *
  generalize max u0 u1 = Nu1 at *
  obtain ⟨lu0, lu1⟩ := lu
  obtain ⟨gu0, gu1⟩ := gu
  have Du := Lib.hid (fun w => docDown_any Lu 65536 (show Up' Lu from ⟨by omega, by omega⟩) (by omega) (by omega) w)
  have Uu := Lib.hid (fun w => docDown_any (-Gu) 65536 (show Up' (-Gu) from ⟨by omega, by omega⟩) (by omega) (by omega) w)
  have mv1 := min_if v0 v1
  have mv2 := min_if (min v0 v1) v2
  have mv3 := min_if (min (min v0 v1) v2) v3
  have nv1 := max_if v0 v1
  have nv2 := max_if (max v0 v1) v2
  have nv3 := max_if (max (max v0 v1) v2) v3
  have lv : -2267742732288 ≤ Af.lo v0 v1 v2 v3 ∧ Af.lo v0 v1 v2 v3 ≤ 2267742732288 := by unfold Af.lo; omega
  have gv : -2267742732288 ≤ Af.hi v0 v1 v2 v3 ∧ Af.hi v0 v1 v2 v3 ≤ 2267742732288 := by unfold Af.hi; omega
  rw [show min (min (min v0 v1) v2) v3 = Af.lo v0 v1 v2 v3 from rfl] at mv3
  rw [show max (max (max v0 v1) v2) v3 = Af.hi v0 v1 v2 v3 from rfl] at nv3
  generalize Af.lo v0 v1 v2 v3 = Lv at *
  generalize Af.hi v0 v1 v2 v3 = Gv at *
  generalize min (min v0 v1) v2 = Mv2 at *
  generalize min v0 v1 = Mv1 at *
  generalize max (max v0 v1) v2 = Nv2 at *
  generalize max v0 v1 = Nv1 at *
  obtain ⟨lv0, lv1⟩ := lv
  obtain ⟨gv0, gv1⟩ := gv
  have Dv := Lib.hid (fun w => docDown_any Lv 65536 (show Up' Lv from ⟨by omega, by omega⟩) (by omega) (by omega) w)
  have Uv := Lib.hid (fun w => docDown_any (-Gv) 65536 (show Up' (-Gv) from ⟨by omega, by omega⟩) (by omega) (by omega) w)
  obtain ⟨ha, hbb, hc, hd, -⟩ := hm
  have Wp00 : IntKind.i64.wrap (m.a * x) = m.a * x := by
    have := Af.up_mul ha (show Af.Up x 65536 from ⟨by omega, by omega⟩) (by omega) (by omega)
    exact wrap_i64 _ (by have := this.1; omega) (by have := this.2; omega)
  have Wp01 : IntKind.i64.wrap (m.a * (x + pw)) = m.a * (x + pw) := by
    have := Af.up_mul ha (show Af.Up (x + pw) 65536 from ⟨by omega, by omega⟩) (by omega) (by omega)
    exact wrap_i64 _ (by have := this.1; omega) (by have := this.2; omega)
  have Wq00 : IntKind.i64.wrap (m.b * y) = m.b * y := by
    have := Af.up_mul hbb (show Af.Up y 65536 from ⟨by omega, by omega⟩) (by omega) (by omega)
    exact wrap_i64 _ (by have := this.1; omega) (by have := this.2; omega)
  have Wq01 : IntKind.i64.wrap (m.b * (y + ph)) = m.b * (y + ph) := by
    have := Af.up_mul hbb (show Af.Up (y + ph) 65536 from ⟨by omega, by omega⟩) (by omega) (by omega)
    exact wrap_i64 _ (by have := this.1; omega) (by have := this.2; omega)
  have Wp10 : IntKind.i64.wrap (m.c * x) = m.c * x := by
    have := Af.up_mul hc (show Af.Up x 65536 from ⟨by omega, by omega⟩) (by omega) (by omega)
    exact wrap_i64 _ (by have := this.1; omega) (by have := this.2; omega)
  have Wp11 : IntKind.i64.wrap (m.c * (x + pw)) = m.c * (x + pw) := by
    have := Af.up_mul hc (show Af.Up (x + pw) 65536 from ⟨by omega, by omega⟩) (by omega) (by omega)
    exact wrap_i64 _ (by have := this.1; omega) (by have := this.2; omega)
  have Wq10 : IntKind.i64.wrap (m.d * y) = m.d * y := by
    have := Af.up_mul hd (show Af.Up y 65536 from ⟨by omega, by omega⟩) (by omega) (by omega)
    exact wrap_i64 _ (by have := this.1; omega) (by have := this.2; omega)
  have Wq11 : IntKind.i64.wrap (m.d * (y + ph)) = m.d * (y + ph) := by
    have := Af.up_mul hd (show Af.Up (y + ph) 65536 from ⟨by omega, by omega⟩) (by omega) (by omega)
    exact wrap_i64 _ (by have := this.1; omega) (by have := this.2; omega)
  have B00 : -9223372036854775808 ≤ m.a * x + m.b * y ∧ m.a * x + m.b * y ≤ 9223372036854775807 := by
    have h1 := Af.up_mul ha (show Af.Up x 65536 from ⟨by omega, by omega⟩) (by omega) (by omega)
    have h2 := Af.up_mul hbb (show Af.Up y 65536 from ⟨by omega, by omega⟩) (by omega) (by omega)
    unfold Af.Up at h1 h2
    omega
  have A00 : IntKind.i64.wrap (m.a * x + m.b * y) = m.a * x + m.b * y := wrap_i64 _ B00.1 B00.2
  have R00 : IntKind.i64.wrap (m.a * x + m.b * y + m.e) = u0 := by rw [EU0]; exact wrap_i64 _ (by omega) (by omega)
  have B01 : -9223372036854775808 ≤ m.a * (x + pw) + m.b * y ∧ m.a * (x + pw) + m.b * y ≤ 9223372036854775807 := by
    have h1 := Af.up_mul ha (show Af.Up (x + pw) 65536 from ⟨by omega, by omega⟩) (by omega) (by omega)
    have h2 := Af.up_mul hbb (show Af.Up y 65536 from ⟨by omega, by omega⟩) (by omega) (by omega)
    unfold Af.Up at h1 h2
    omega
  have A01 : IntKind.i64.wrap (m.a * (x + pw) + m.b * y) = m.a * (x + pw) + m.b * y := wrap_i64 _ B01.1 B01.2
  have R01 : IntKind.i64.wrap (m.a * (x + pw) + m.b * y + m.e) = u1 := by rw [EU1]; exact wrap_i64 _ (by omega) (by omega)
  have B02 : -9223372036854775808 ≤ m.a * x + m.b * (y + ph) ∧ m.a * x + m.b * (y + ph) ≤ 9223372036854775807 := by
    have h1 := Af.up_mul ha (show Af.Up x 65536 from ⟨by omega, by omega⟩) (by omega) (by omega)
    have h2 := Af.up_mul hbb (show Af.Up (y + ph) 65536 from ⟨by omega, by omega⟩) (by omega) (by omega)
    unfold Af.Up at h1 h2
    omega
  have A02 : IntKind.i64.wrap (m.a * x + m.b * (y + ph)) = m.a * x + m.b * (y + ph) := wrap_i64 _ B02.1 B02.2
  have R02 : IntKind.i64.wrap (m.a * x + m.b * (y + ph) + m.e) = u2 := by rw [EU2]; exact wrap_i64 _ (by omega) (by omega)
  have B03 : -9223372036854775808 ≤ m.a * (x + pw) + m.b * (y + ph) ∧ m.a * (x + pw) + m.b * (y + ph) ≤ 9223372036854775807 := by
    have h1 := Af.up_mul ha (show Af.Up (x + pw) 65536 from ⟨by omega, by omega⟩) (by omega) (by omega)
    have h2 := Af.up_mul hbb (show Af.Up (y + ph) 65536 from ⟨by omega, by omega⟩) (by omega) (by omega)
    unfold Af.Up at h1 h2
    omega
  have A03 : IntKind.i64.wrap (m.a * (x + pw) + m.b * (y + ph)) = m.a * (x + pw) + m.b * (y + ph) := wrap_i64 _ B03.1 B03.2
  have R03 : IntKind.i64.wrap (m.a * (x + pw) + m.b * (y + ph) + m.e) = u3 := by rw [EU3]; exact wrap_i64 _ (by omega) (by omega)
  have Z00 := Lib.hid (And.intro Wp00 (And.intro Wq00 (And.intro A00 R00)))
  have Z01 := Lib.hid (And.intro Wp01 (And.intro Wq00 (And.intro A01 R01)))
  have Z02 := Lib.hid (And.intro Wp00 (And.intro Wq01 (And.intro A02 R02)))
  have Z03 := Lib.hid (And.intro Wp01 (And.intro Wq01 (And.intro A03 R03)))
  have B10 : -9223372036854775808 ≤ m.c * x + m.d * y ∧ m.c * x + m.d * y ≤ 9223372036854775807 := by
    have h1 := Af.up_mul hc (show Af.Up x 65536 from ⟨by omega, by omega⟩) (by omega) (by omega)
    have h2 := Af.up_mul hd (show Af.Up y 65536 from ⟨by omega, by omega⟩) (by omega) (by omega)
    unfold Af.Up at h1 h2
    omega
  have A10 : IntKind.i64.wrap (m.c * x + m.d * y) = m.c * x + m.d * y := wrap_i64 _ B10.1 B10.2
  have R10 : IntKind.i64.wrap (m.c * x + m.d * y + m.f) = v0 := by rw [EV0]; exact wrap_i64 _ (by omega) (by omega)
  have B11 : -9223372036854775808 ≤ m.c * (x + pw) + m.d * y ∧ m.c * (x + pw) + m.d * y ≤ 9223372036854775807 := by
    have h1 := Af.up_mul hc (show Af.Up (x + pw) 65536 from ⟨by omega, by omega⟩) (by omega) (by omega)
    have h2 := Af.up_mul hd (show Af.Up y 65536 from ⟨by omega, by omega⟩) (by omega) (by omega)
    unfold Af.Up at h1 h2
    omega
  have A11 : IntKind.i64.wrap (m.c * (x + pw) + m.d * y) = m.c * (x + pw) + m.d * y := wrap_i64 _ B11.1 B11.2
  have R11 : IntKind.i64.wrap (m.c * (x + pw) + m.d * y + m.f) = v1 := by rw [EV1]; exact wrap_i64 _ (by omega) (by omega)
  have B12 : -9223372036854775808 ≤ m.c * x + m.d * (y + ph) ∧ m.c * x + m.d * (y + ph) ≤ 9223372036854775807 := by
    have h1 := Af.up_mul hc (show Af.Up x 65536 from ⟨by omega, by omega⟩) (by omega) (by omega)
    have h2 := Af.up_mul hd (show Af.Up (y + ph) 65536 from ⟨by omega, by omega⟩) (by omega) (by omega)
    unfold Af.Up at h1 h2
    omega
  have A12 : IntKind.i64.wrap (m.c * x + m.d * (y + ph)) = m.c * x + m.d * (y + ph) := wrap_i64 _ B12.1 B12.2
  have R12 : IntKind.i64.wrap (m.c * x + m.d * (y + ph) + m.f) = v2 := by rw [EV2]; exact wrap_i64 _ (by omega) (by omega)
  have B13 : -9223372036854775808 ≤ m.c * (x + pw) + m.d * (y + ph) ∧ m.c * (x + pw) + m.d * (y + ph) ≤ 9223372036854775807 := by
    have h1 := Af.up_mul hc (show Af.Up (x + pw) 65536 from ⟨by omega, by omega⟩) (by omega) (by omega)
    have h2 := Af.up_mul hd (show Af.Up (y + ph) 65536 from ⟨by omega, by omega⟩) (by omega) (by omega)
    unfold Af.Up at h1 h2
    omega
  have A13 : IntKind.i64.wrap (m.c * (x + pw) + m.d * (y + ph)) = m.c * (x + pw) + m.d * (y + ph) := wrap_i64 _ B13.1 B13.2
  have R13 : IntKind.i64.wrap (m.c * (x + pw) + m.d * (y + ph) + m.f) = v3 := by rw [EV3]; exact wrap_i64 _ (by omega) (by omega)
  have Z10 := Lib.hid (And.intro Wp10 (And.intro Wq10 (And.intro A10 R10)))
  have Z11 := Lib.hid (And.intro Wp11 (And.intro Wq10 (And.intro A11 R11)))
  have Z12 := Lib.hid (And.intro Wp10 (And.intro Wq11 (And.intro A12 R12)))
  have Z13 := Lib.hid (And.intro Wp11 (And.intro Wq11 (And.intro A13 R13)))
  have wzu : IntKind.i64.wrap (Lu / 65536 + (-(-Gu / 65536) - Lu / 65536)) = -(-Gu / 65536) := by rw [show Lu / 65536 + (-(-Gu / 65536) - Lu / 65536) = -(-Gu / 65536) by omega]; exact wrap_i64 _ (by omega) (by omega)
  have wnu : IntKind.i64.wrap (-Gu) = -Gu := wrap_i64 _ (by omega) (by omega)
  have wdu : IntKind.i64.wrap (-(-Gu / 65536)) = -(-Gu / 65536) := wrap_i64 _ (by omega) (by omega)
  have Hu := Lib.hid (And.intro mu1 (And.intro mu2 (And.intro mu3 (And.intro nu1 (And.intro nu2 nu3)))))
  have WZu := Lib.hid (And.intro wzu (And.intro wnu wdu))
  have wzv : IntKind.i64.wrap (Lv / 65536 + (-(-Gv / 65536) - Lv / 65536)) = -(-Gv / 65536) := by rw [show Lv / 65536 + (-(-Gv / 65536) - Lv / 65536) = -(-Gv / 65536) by omega]; exact wrap_i64 _ (by omega) (by omega)
  have wnv : IntKind.i64.wrap (-Gv) = -Gv := wrap_i64 _ (by omega) (by omega)
  have wdv : IntKind.i64.wrap (-(-Gv / 65536)) = -(-Gv / 65536) := wrap_i64 _ (by omega) (by omega)
  have Hv := Lib.hid (And.intro mv1 (And.intro mv2 (And.intro mv3 (And.intro nv1 (And.intro nv2 nv3)))))
  have WZv := Lib.hid (And.intro wzv (And.intro wnv wdv))
  have PX := Lib.hid (show IntKind.i64.wrap (x + pw) = x + pw from wrap_i64 _ (by omega) (by omega))
  have PY := Lib.hid (show IntKind.i64.wrap (y + ph) = y + ph from wrap_i64 _ (by omega) (by omega))
  have PZ := Lib.hid (And.intro (show IntKind.i64.wrap x = x from wrap_i64 _ (by omega) (by omega)) (And.intro (show IntKind.i64.wrap y = y from wrap_i64 _ (by omega) (by omega)) (And.intro (show IntKind.i64.wrap pw = pw from wrap_i64 _ (by omega) (by omega)) (show IntKind.i64.wrap ph = ph from wrap_i64 _ (by omega) (by omega)))))
  clear Wp00 Wp01 Wq00 Wq01 B00 B01 B02 B03 A00 A01 A02 A03 R00 R01 R02 R03 Wp10 Wp11 Wq10 Wq11 B10 B11 B12 B13 A10 A11 A12 A13 R10 R11 R12 R13 mu1 mu2 mu3 nu1 nu2 nu3 wzu wnu wdu lu0 lu1 gu0 gu1 mv1 mv2 mv3 nv1 nv2 nv3 wzv wnv wdv lv0 lv1 gv0 gv1 r0 s0 t0 q0 EU0 EV0 r1 s1 t1 q1 EU1 EV1 r2 s2 t2 q2 EU2 EV2 r3 s3 t3 q3 EU3 EV3 ha hbb hc hd x0 x1 y0 y1 a0 a1 b0 b1
  have F0 := Lib.hid (Six.new w 23 m)
  have K0 := Lib.hid (keeps_alloc (w := w) (o := .cells #[.int .i64 m.a, .int .i64 m.b, .int .i64 m.c, .int .i64 m.d, .int .i64 m.e, .int .i64 m.f] 23) rfl)
  have BX := Lib.hid (fun w => BG w)
  go_enter Try.func6, Try.ntmps6
  go_upto_region 1 with (fail)
  generalize w.alloc (.cells #[.int .i64 m.a, .int .i64 m.b, .int .i64 m.c, .int .i64 m.d, .int .i64 m.e, .int .i64 m.f] 23) = wa at *
  generalize w.heap.size = B at *
  go_wp2_with fail
  refine (anchor_any _).mono ?_
  rintro e w2 ⟨rfl, hk⟩
  have F1 := Lib.hid (F0.out.later hk)
  have K1 := Lib.hid (K0.out.next hk)
  clear hk F0 K0
  have c0 := F1.out.c0
  have c1 := F1.out.c1
  have c2 := F1.out.c2
  have c3 := F1.out.c3
  have c4 := F1.out.c4
  have c5 := F1.out.c5
  go_upto_region 3 with (fail)
  go_wp2_with fail
  refine (BX.out _).mono ?_
  rintro e w3 ⟨rfl, hk⟩
  have F2 := Lib.hid (F1.out.later hk)
  have K2 := Lib.hid (K1.out.next hk)
  clear hk F1 K1 c0 c1 c2 c3 c4 c5 BX
  have c0 := F2.out.c0
  have c1 := F2.out.c1
  have c2 := F2.out.c2
  have c3 := F2.out.c3
  have c4 := F2.out.c4
  have c5 := F2.out.c5
  go_wp2_with fail
  clear BG
  refine (C.out _).mono ?_
  rintro e w4 ⟨rfl, hk⟩
  have F3 := Lib.hid (F2.out.later hk)
  have K3 := Lib.hid (K2.out.next hk)
  clear hk F2 K2 c0 c1 c2 c3 c4 c5
  go_wp2_with fail
  go_loopw [16, 55] (fun r cnt wr => (cnt = .int .i64 0 ∧ r = .bool true ∧ wr = w4) ∨ (cnt = .int .i64 1 ∧ r = .bool true ∧ wr = w4) ∨ (cnt = .int .i64 2 ∧ r = .bool true ∧ wr = w4) ∨ (cnt = .int .i64 3 ∧ r = .bool true ∧ wr = w4) ∨ (cnt = .int .i64 4 ∧ r = .bool true ∧ wr = w4)) (fun _ cnt _ => 4 - (intOf cnt).toNat)
  case atStart => exact .inl ⟨rfl, rfl, rfl⟩
  case round =>
    rcases hrel with ⟨rfl, rfl, hwr⟩ | ⟨rfl, rfl, hwr⟩ | ⟨rfl, rfl, hwr⟩ | ⟨rfl, rfl, hwr⟩ | ⟨rfl, rfl, hwr⟩
    · subst hwr
      have hix := box39_0 x y pw ph wr
      have t1 : decide (x ≥ -32768) = true := by have := hv0.1; simp; omega
      have t2 : decide (x ≤ 32768) = true := by have := hv0.2; simp; omega
      go_wp2_with fail
      go_roundw
      case rel => exact .inr (.inl ⟨rfl, rfl, trivial⟩)
      case measure => decide
    · subst hwr
      have hix := box39_1 x y pw ph wr
      have t1 : decide (y ≥ -32768) = true := by have := hv1.1; simp; omega
      have t2 : decide (y ≤ 32768) = true := by have := hv1.2; simp; omega
      go_wp2_with fail
      go_roundw
      case rel => exact .inr (.inr (.inl ⟨rfl, rfl, trivial⟩))
      case measure => decide
    · subst hwr
      have hix := box39_2 x y pw ph wr
      have t1 : decide (pw ≥ -32768) = true := by have := hv2.1; simp; omega
      have t2 : decide (pw ≤ 32768) = true := by have := hv2.2; simp; omega
      go_wp2_with fail
      go_roundw
      case rel => exact .inr (.inr (.inr (.inl ⟨rfl, rfl, trivial⟩)))
      case measure => decide
    · subst hwr
      have hix := box39_3 x y pw ph wr
      have t1 : decide (ph ≥ -32768) = true := by have := hv3.1; simp; omega
      have t2 : decide (ph ≤ 32768) = true := by have := hv3.2; simp; omega
      go_wp2_with fail
      go_roundw
      case rel => exact .inr (.inr (.inr (.inr (⟨rfl, rfl, trivial⟩))))
      case measure => decide
    · subst hwr
      have K4 := Lib.hid K3.out
      have F4 := Lib.hid F3.out
      clear K3 F3 hv0 hv1 hv2 hv3 t10 t11 C
      go_wp2_with fail
      go_loopw [19] (fun cnt wq => (cnt = .int .i64 0 ∧ Six wq B 23 m ∧ Keeps none' w wq) ∨ (cnt = .int .i64 1 ∧ Six wq B 23 m ∧ Keeps none' w wq) ∨ (cnt = .int .i64 2 ∧ Six wq B 23 m ∧ Keeps none' w wq)) (fun cnt _ => 2 - (intOf cnt).toNat)
      case atStart => exact .inl ⟨rfl, F4.out, K4.out⟩
      case round =>
        clear F4 K4
        rcases hrel with ⟨rfl, hF, hK⟩ | ⟨rfl, hF, hK⟩ | ⟨rfl, hF, hK⟩
        · have F5 := Lib.hid hF
          have K5 := Lib.hid hK
          clear hF hK
          go_wp2_with fail
          go_loopw [22, 23, 24] (fun a b cnt wi => (cnt = .int .i64 0 ∧ a = .int .i64 0 ∧ b = .int .i64 0 ∧ Six wi B 23 m ∧ Keeps none' w wi) ∨ (cnt = .int .i64 1 ∧ a = .int .i64 u0 ∧ b = .int .i64 u0 ∧ Six wi B 23 m ∧ Keeps none' w wi) ∨ (cnt = .int .i64 2 ∧ a = .int .i64 Mu1 ∧ b = .int .i64 Nu1 ∧ Six wi B 23 m ∧ Keeps none' w wi) ∨ (cnt = .int .i64 3 ∧ a = .int .i64 Mu2 ∧ b = .int .i64 Nu2 ∧ Six wi B 23 m ∧ Keeps none' w wi) ∨ (cnt = .int .i64 4 ∧ a = .int .i64 Lu ∧ b = .int .i64 Gu ∧ Six wi B 23 m ∧ Keeps none' w wi)) (fun _ _ cnt _ => 4 - (intOf cnt).toNat)
          case atStart => exact .inl ⟨rfl, rfl, rfl, F5.out, K5.out⟩
          case round =>
            clear F5 K5
            rcases hrel with ⟨rfl, rfl, rfl, hF, hK⟩ | ⟨rfl, rfl, rfl, hF, hK⟩ | ⟨rfl, rfl, rfl, hF, hK⟩ | ⟨rfl, rfl, rfl, hF, hK⟩ | ⟨rfl, rfl, rfl, hF, hK⟩
            · have F6 := Lib.hid hF
              have K6 := Lib.hid hK
              clear hF hK
              have c0 := F6.out.c0
              have c1 := F6.out.c1
              have c2 := F6.out.c2
              have c3 := F6.out.c3
              have c4 := F6.out.c4
              have c5 := F6.out.c5
              obtain ⟨z1, z2, z3, z4⟩ := Z00.out
              have z5 := PX.out
              have z6 := PY.out
              obtain ⟨z7, z8, z9, z10⟩ := PZ.out
              go_upto_region 24 with (fail)
              go_quiet (fail)
              clear z1 z2 z3 z4 z5 z6 z7 z8 z9 z10 c0 c1 c2 c3 c4 c5
              go_wp2_with fail
              go_roundw
              case rel => exact .inr (.inl ⟨rfl, rfl, rfl, F6.out.later ((Keeps.refl _ _).drewN _), K6.out.drewN _⟩)
              case measure => decide
            · have F6 := Lib.hid hF
              have K6 := Lib.hid hK
              clear hF hK
              have c0 := F6.out.c0
              have c1 := F6.out.c1
              have c2 := F6.out.c2
              have c3 := F6.out.c3
              have c4 := F6.out.c4
              have c5 := F6.out.c5
              obtain ⟨z1, z2, z3, z4⟩ := Z01.out
              have z5 := PX.out
              have z6 := PY.out
              obtain ⟨z7, z8, z9, z10⟩ := PZ.out
              go_upto_region 24 with (fail)
              go_quiet (fail)
              clear z1 z2 z3 z4 z5 z6 z7 z8 z9 z10 c0 c1 c2 c3 c4 c5
              have e1 := Hu.out.1
              have e2 := Hu.out.2.2.2.1
              by_cases d1 : u1 < u0 <;> by_cases d2 : u0 < u1
              · have t1 : decide (u1 < u0) = true := by simpa using d1
                have t2 : decide (u1 > u0) = true := by simpa using d2
                have t3 : decide (u0 < u1) = true := by simpa using d2
                rw [if_pos d1] at e1
                rw [if_pos d2] at e2
                have E := Lib.hid (And.intro e1 e2)
                clear d1 d2 e1 e2
                go_wp2_with fail
                go_roundw
                case rel => exact .inr (.inr (.inl ⟨rfl, by rw [E.out.1], by rw [E.out.2], F6.out.later ((Keeps.refl _ _).drewN _), K6.out.drewN _⟩))
                case measure => decide
              · have t1 : decide (u1 < u0) = true := by simpa using d1
                have t2 : decide (u1 > u0) = false := by simpa using d2
                have t3 : decide (u0 < u1) = false := by simpa using d2
                rw [if_pos d1] at e1
                rw [if_neg d2] at e2
                have E := Lib.hid (And.intro e1 e2)
                clear d1 d2 e1 e2
                go_wp2_with fail
                go_roundw
                case rel => exact .inr (.inr (.inl ⟨rfl, by rw [E.out.1], by rw [E.out.2], F6.out.later ((Keeps.refl _ _).drewN _), K6.out.drewN _⟩))
                case measure => decide
              · have t1 : decide (u1 < u0) = false := by simpa using d1
                have t2 : decide (u1 > u0) = true := by simpa using d2
                have t3 : decide (u0 < u1) = true := by simpa using d2
                rw [if_neg d1] at e1
                rw [if_pos d2] at e2
                have E := Lib.hid (And.intro e1 e2)
                clear d1 d2 e1 e2
                go_wp2_with fail
                go_roundw
                case rel => exact .inr (.inr (.inl ⟨rfl, by rw [E.out.1], by rw [E.out.2], F6.out.later ((Keeps.refl _ _).drewN _), K6.out.drewN _⟩))
                case measure => decide
              · have t1 : decide (u1 < u0) = false := by simpa using d1
                have t2 : decide (u1 > u0) = false := by simpa using d2
                have t3 : decide (u0 < u1) = false := by simpa using d2
                rw [if_neg d1] at e1
                rw [if_neg d2] at e2
                have E := Lib.hid (And.intro e1 e2)
                clear d1 d2 e1 e2
                go_wp2_with fail
                go_roundw
                case rel => exact .inr (.inr (.inl ⟨rfl, by rw [E.out.1], by rw [E.out.2], F6.out.later ((Keeps.refl _ _).drewN _), K6.out.drewN _⟩))
                case measure => decide
            · have F6 := Lib.hid hF
              have K6 := Lib.hid hK
              clear hF hK
              have c0 := F6.out.c0
              have c1 := F6.out.c1
              have c2 := F6.out.c2
              have c3 := F6.out.c3
              have c4 := F6.out.c4
              have c5 := F6.out.c5
              obtain ⟨z1, z2, z3, z4⟩ := Z02.out
              have z5 := PX.out
              have z6 := PY.out
              obtain ⟨z7, z8, z9, z10⟩ := PZ.out
              go_upto_region 24 with (fail)
              go_quiet (fail)
              clear z1 z2 z3 z4 z5 z6 z7 z8 z9 z10 c0 c1 c2 c3 c4 c5
              have e1 := Hu.out.2.1
              have e2 := Hu.out.2.2.2.2.1
              by_cases d1 : u2 < Mu1 <;> by_cases d2 : Nu1 < u2
              · have t1 : decide (u2 < Mu1) = true := by simpa using d1
                have t2 : decide (u2 > Nu1) = true := by simpa using d2
                have t3 : decide (Nu1 < u2) = true := by simpa using d2
                rw [if_pos d1] at e1
                rw [if_pos d2] at e2
                have E := Lib.hid (And.intro e1 e2)
                clear d1 d2 e1 e2
                go_wp2_with fail
                go_roundw
                case rel => exact .inr (.inr (.inr (.inl ⟨rfl, by rw [E.out.1], by rw [E.out.2], F6.out.later ((Keeps.refl _ _).drewN _), K6.out.drewN _⟩)))
                case measure => decide
              · have t1 : decide (u2 < Mu1) = true := by simpa using d1
                have t2 : decide (u2 > Nu1) = false := by simpa using d2
                have t3 : decide (Nu1 < u2) = false := by simpa using d2
                rw [if_pos d1] at e1
                rw [if_neg d2] at e2
                have E := Lib.hid (And.intro e1 e2)
                clear d1 d2 e1 e2
                go_wp2_with fail
                go_roundw
                case rel => exact .inr (.inr (.inr (.inl ⟨rfl, by rw [E.out.1], by rw [E.out.2], F6.out.later ((Keeps.refl _ _).drewN _), K6.out.drewN _⟩)))
                case measure => decide
              · have t1 : decide (u2 < Mu1) = false := by simpa using d1
                have t2 : decide (u2 > Nu1) = true := by simpa using d2
                have t3 : decide (Nu1 < u2) = true := by simpa using d2
                rw [if_neg d1] at e1
                rw [if_pos d2] at e2
                have E := Lib.hid (And.intro e1 e2)
                clear d1 d2 e1 e2
                go_wp2_with fail
                go_roundw
                case rel => exact .inr (.inr (.inr (.inl ⟨rfl, by rw [E.out.1], by rw [E.out.2], F6.out.later ((Keeps.refl _ _).drewN _), K6.out.drewN _⟩)))
                case measure => decide
              · have t1 : decide (u2 < Mu1) = false := by simpa using d1
                have t2 : decide (u2 > Nu1) = false := by simpa using d2
                have t3 : decide (Nu1 < u2) = false := by simpa using d2
                rw [if_neg d1] at e1
                rw [if_neg d2] at e2
                have E := Lib.hid (And.intro e1 e2)
                clear d1 d2 e1 e2
                go_wp2_with fail
                go_roundw
                case rel => exact .inr (.inr (.inr (.inl ⟨rfl, by rw [E.out.1], by rw [E.out.2], F6.out.later ((Keeps.refl _ _).drewN _), K6.out.drewN _⟩)))
                case measure => decide
            · have F6 := Lib.hid hF
              have K6 := Lib.hid hK
              clear hF hK
              have c0 := F6.out.c0
              have c1 := F6.out.c1
              have c2 := F6.out.c2
              have c3 := F6.out.c3
              have c4 := F6.out.c4
              have c5 := F6.out.c5
              obtain ⟨z1, z2, z3, z4⟩ := Z03.out
              have z5 := PX.out
              have z6 := PY.out
              obtain ⟨z7, z8, z9, z10⟩ := PZ.out
              go_upto_region 24 with (fail)
              go_quiet (fail)
              clear z1 z2 z3 z4 z5 z6 z7 z8 z9 z10 c0 c1 c2 c3 c4 c5
              have e1 := Hu.out.2.2.1
              have e2 := Hu.out.2.2.2.2.2
              by_cases d1 : u3 < Mu2 <;> by_cases d2 : Nu2 < u3
              · have t1 : decide (u3 < Mu2) = true := by simpa using d1
                have t2 : decide (u3 > Nu2) = true := by simpa using d2
                have t3 : decide (Nu2 < u3) = true := by simpa using d2
                rw [if_pos d1] at e1
                rw [if_pos d2] at e2
                have E := Lib.hid (And.intro e1 e2)
                clear d1 d2 e1 e2
                go_wp2_with fail
                go_roundw
                case rel => exact .inr (.inr (.inr (.inr (⟨rfl, by rw [E.out.1], by rw [E.out.2], F6.out.later ((Keeps.refl _ _).drewN _), K6.out.drewN _⟩))))
                case measure => decide
              · have t1 : decide (u3 < Mu2) = true := by simpa using d1
                have t2 : decide (u3 > Nu2) = false := by simpa using d2
                have t3 : decide (Nu2 < u3) = false := by simpa using d2
                rw [if_pos d1] at e1
                rw [if_neg d2] at e2
                have E := Lib.hid (And.intro e1 e2)
                clear d1 d2 e1 e2
                go_wp2_with fail
                go_roundw
                case rel => exact .inr (.inr (.inr (.inr (⟨rfl, by rw [E.out.1], by rw [E.out.2], F6.out.later ((Keeps.refl _ _).drewN _), K6.out.drewN _⟩))))
                case measure => decide
              · have t1 : decide (u3 < Mu2) = false := by simpa using d1
                have t2 : decide (u3 > Nu2) = true := by simpa using d2
                have t3 : decide (Nu2 < u3) = true := by simpa using d2
                rw [if_neg d1] at e1
                rw [if_pos d2] at e2
                have E := Lib.hid (And.intro e1 e2)
                clear d1 d2 e1 e2
                go_wp2_with fail
                go_roundw
                case rel => exact .inr (.inr (.inr (.inr (⟨rfl, by rw [E.out.1], by rw [E.out.2], F6.out.later ((Keeps.refl _ _).drewN _), K6.out.drewN _⟩))))
                case measure => decide
              · have t1 : decide (u3 < Mu2) = false := by simpa using d1
                have t2 : decide (u3 > Nu2) = false := by simpa using d2
                have t3 : decide (Nu2 < u3) = false := by simpa using d2
                rw [if_neg d1] at e1
                rw [if_neg d2] at e2
                have E := Lib.hid (And.intro e1 e2)
                clear d1 d2 e1 e2
                go_wp2_with fail
                go_roundw
                case rel => exact .inr (.inr (.inr (.inr (⟨rfl, by rw [E.out.1], by rw [E.out.2], F6.out.later ((Keeps.refl _ _).drewN _), K6.out.drewN _⟩))))
                case measure => decide
            · have F6 := Lib.hid hF
              have K6 := Lib.hid hK
              clear hF hK
              obtain ⟨z1, z2, z3⟩ := WZu.out
              go_wp2_with fail
              refine (Du.out _).mono ?_
              rintro e wr ⟨rfl, rfl⟩
              go_wp2_with fail
              refine (Uu.out _).mono ?_
              rintro e wr ⟨rfl, rfl⟩
              go_wp2_with fail
              go_roundw
              case rel => exact .inr (.inl ⟨rfl, F6.out, K6.out⟩)
              case measure => decide
        · have F5 := Lib.hid hF
          have K5 := Lib.hid hK
          clear hF hK
          go_wp2_with fail
          go_loopw [22, 23, 24] (fun a b cnt wi => (cnt = .int .i64 0 ∧ a = .int .i64 0 ∧ b = .int .i64 0 ∧ Six wi B 23 m ∧ Keeps none' w wi) ∨ (cnt = .int .i64 1 ∧ a = .int .i64 v0 ∧ b = .int .i64 v0 ∧ Six wi B 23 m ∧ Keeps none' w wi) ∨ (cnt = .int .i64 2 ∧ a = .int .i64 Mv1 ∧ b = .int .i64 Nv1 ∧ Six wi B 23 m ∧ Keeps none' w wi) ∨ (cnt = .int .i64 3 ∧ a = .int .i64 Mv2 ∧ b = .int .i64 Nv2 ∧ Six wi B 23 m ∧ Keeps none' w wi) ∨ (cnt = .int .i64 4 ∧ a = .int .i64 Lv ∧ b = .int .i64 Gv ∧ Six wi B 23 m ∧ Keeps none' w wi)) (fun _ _ cnt _ => 4 - (intOf cnt).toNat)
          case atStart => exact .inl ⟨rfl, rfl, rfl, F5.out, K5.out⟩
          case round =>
            clear F5 K5
            rcases hrel with ⟨rfl, rfl, rfl, hF, hK⟩ | ⟨rfl, rfl, rfl, hF, hK⟩ | ⟨rfl, rfl, rfl, hF, hK⟩ | ⟨rfl, rfl, rfl, hF, hK⟩ | ⟨rfl, rfl, rfl, hF, hK⟩
            · have F6 := Lib.hid hF
              have K6 := Lib.hid hK
              clear hF hK
              have c0 := F6.out.c0
              have c1 := F6.out.c1
              have c2 := F6.out.c2
              have c3 := F6.out.c3
              have c4 := F6.out.c4
              have c5 := F6.out.c5
              obtain ⟨z1, z2, z3, z4⟩ := Z10.out
              have z5 := PX.out
              have z6 := PY.out
              obtain ⟨z7, z8, z9, z10⟩ := PZ.out
              go_upto_region 24 with (fail)
              go_quiet (fail)
              clear z1 z2 z3 z4 z5 z6 z7 z8 z9 z10 c0 c1 c2 c3 c4 c5
              go_wp2_with fail
              go_roundw
              case rel => exact .inr (.inl ⟨rfl, rfl, rfl, F6.out.later ((Keeps.refl _ _).drewN _), K6.out.drewN _⟩)
              case measure => decide
            · have F6 := Lib.hid hF
              have K6 := Lib.hid hK
              clear hF hK
              have c0 := F6.out.c0
              have c1 := F6.out.c1
              have c2 := F6.out.c2
              have c3 := F6.out.c3
              have c4 := F6.out.c4
              have c5 := F6.out.c5
              obtain ⟨z1, z2, z3, z4⟩ := Z11.out
              have z5 := PX.out
              have z6 := PY.out
              obtain ⟨z7, z8, z9, z10⟩ := PZ.out
              go_upto_region 24 with (fail)
              go_quiet (fail)
              clear z1 z2 z3 z4 z5 z6 z7 z8 z9 z10 c0 c1 c2 c3 c4 c5
              have e1 := Hv.out.1
              have e2 := Hv.out.2.2.2.1
              by_cases d1 : v1 < v0 <;> by_cases d2 : v0 < v1
              · have t1 : decide (v1 < v0) = true := by simpa using d1
                have t2 : decide (v1 > v0) = true := by simpa using d2
                have t3 : decide (v0 < v1) = true := by simpa using d2
                rw [if_pos d1] at e1
                rw [if_pos d2] at e2
                have E := Lib.hid (And.intro e1 e2)
                clear d1 d2 e1 e2
                go_wp2_with fail
                go_roundw
                case rel => exact .inr (.inr (.inl ⟨rfl, by rw [E.out.1], by rw [E.out.2], F6.out.later ((Keeps.refl _ _).drewN _), K6.out.drewN _⟩))
                case measure => decide
              · have t1 : decide (v1 < v0) = true := by simpa using d1
                have t2 : decide (v1 > v0) = false := by simpa using d2
                have t3 : decide (v0 < v1) = false := by simpa using d2
                rw [if_pos d1] at e1
                rw [if_neg d2] at e2
                have E := Lib.hid (And.intro e1 e2)
                clear d1 d2 e1 e2
                go_wp2_with fail
                go_roundw
                case rel => exact .inr (.inr (.inl ⟨rfl, by rw [E.out.1], by rw [E.out.2], F6.out.later ((Keeps.refl _ _).drewN _), K6.out.drewN _⟩))
                case measure => decide
              · have t1 : decide (v1 < v0) = false := by simpa using d1
                have t2 : decide (v1 > v0) = true := by simpa using d2
                have t3 : decide (v0 < v1) = true := by simpa using d2
                rw [if_neg d1] at e1
                rw [if_pos d2] at e2
                have E := Lib.hid (And.intro e1 e2)
                clear d1 d2 e1 e2
                go_wp2_with fail
                go_roundw
                case rel => exact .inr (.inr (.inl ⟨rfl, by rw [E.out.1], by rw [E.out.2], F6.out.later ((Keeps.refl _ _).drewN _), K6.out.drewN _⟩))
                case measure => decide
              · have t1 : decide (v1 < v0) = false := by simpa using d1
                have t2 : decide (v1 > v0) = false := by simpa using d2
                have t3 : decide (v0 < v1) = false := by simpa using d2
                rw [if_neg d1] at e1
                rw [if_neg d2] at e2
                have E := Lib.hid (And.intro e1 e2)
                clear d1 d2 e1 e2
                go_wp2_with fail
                go_roundw
                case rel => exact .inr (.inr (.inl ⟨rfl, by rw [E.out.1], by rw [E.out.2], F6.out.later ((Keeps.refl _ _).drewN _), K6.out.drewN _⟩))
                case measure => decide
            · have F6 := Lib.hid hF
              have K6 := Lib.hid hK
              clear hF hK
              have c0 := F6.out.c0
              have c1 := F6.out.c1
              have c2 := F6.out.c2
              have c3 := F6.out.c3
              have c4 := F6.out.c4
              have c5 := F6.out.c5
              obtain ⟨z1, z2, z3, z4⟩ := Z12.out
              have z5 := PX.out
              have z6 := PY.out
              obtain ⟨z7, z8, z9, z10⟩ := PZ.out
              go_upto_region 24 with (fail)
              go_quiet (fail)
              clear z1 z2 z3 z4 z5 z6 z7 z8 z9 z10 c0 c1 c2 c3 c4 c5
              have e1 := Hv.out.2.1
              have e2 := Hv.out.2.2.2.2.1
              by_cases d1 : v2 < Mv1 <;> by_cases d2 : Nv1 < v2
              · have t1 : decide (v2 < Mv1) = true := by simpa using d1
                have t2 : decide (v2 > Nv1) = true := by simpa using d2
                have t3 : decide (Nv1 < v2) = true := by simpa using d2
                rw [if_pos d1] at e1
                rw [if_pos d2] at e2
                have E := Lib.hid (And.intro e1 e2)
                clear d1 d2 e1 e2
                go_wp2_with fail
                go_roundw
                case rel => exact .inr (.inr (.inr (.inl ⟨rfl, by rw [E.out.1], by rw [E.out.2], F6.out.later ((Keeps.refl _ _).drewN _), K6.out.drewN _⟩)))
                case measure => decide
              · have t1 : decide (v2 < Mv1) = true := by simpa using d1
                have t2 : decide (v2 > Nv1) = false := by simpa using d2
                have t3 : decide (Nv1 < v2) = false := by simpa using d2
                rw [if_pos d1] at e1
                rw [if_neg d2] at e2
                have E := Lib.hid (And.intro e1 e2)
                clear d1 d2 e1 e2
                go_wp2_with fail
                go_roundw
                case rel => exact .inr (.inr (.inr (.inl ⟨rfl, by rw [E.out.1], by rw [E.out.2], F6.out.later ((Keeps.refl _ _).drewN _), K6.out.drewN _⟩)))
                case measure => decide
              · have t1 : decide (v2 < Mv1) = false := by simpa using d1
                have t2 : decide (v2 > Nv1) = true := by simpa using d2
                have t3 : decide (Nv1 < v2) = true := by simpa using d2
                rw [if_neg d1] at e1
                rw [if_pos d2] at e2
                have E := Lib.hid (And.intro e1 e2)
                clear d1 d2 e1 e2
                go_wp2_with fail
                go_roundw
                case rel => exact .inr (.inr (.inr (.inl ⟨rfl, by rw [E.out.1], by rw [E.out.2], F6.out.later ((Keeps.refl _ _).drewN _), K6.out.drewN _⟩)))
                case measure => decide
              · have t1 : decide (v2 < Mv1) = false := by simpa using d1
                have t2 : decide (v2 > Nv1) = false := by simpa using d2
                have t3 : decide (Nv1 < v2) = false := by simpa using d2
                rw [if_neg d1] at e1
                rw [if_neg d2] at e2
                have E := Lib.hid (And.intro e1 e2)
                clear d1 d2 e1 e2
                go_wp2_with fail
                go_roundw
                case rel => exact .inr (.inr (.inr (.inl ⟨rfl, by rw [E.out.1], by rw [E.out.2], F6.out.later ((Keeps.refl _ _).drewN _), K6.out.drewN _⟩)))
                case measure => decide
            · have F6 := Lib.hid hF
              have K6 := Lib.hid hK
              clear hF hK
              have c0 := F6.out.c0
              have c1 := F6.out.c1
              have c2 := F6.out.c2
              have c3 := F6.out.c3
              have c4 := F6.out.c4
              have c5 := F6.out.c5
              obtain ⟨z1, z2, z3, z4⟩ := Z13.out
              have z5 := PX.out
              have z6 := PY.out
              obtain ⟨z7, z8, z9, z10⟩ := PZ.out
              go_upto_region 24 with (fail)
              go_quiet (fail)
              clear z1 z2 z3 z4 z5 z6 z7 z8 z9 z10 c0 c1 c2 c3 c4 c5
              have e1 := Hv.out.2.2.1
              have e2 := Hv.out.2.2.2.2.2
              by_cases d1 : v3 < Mv2 <;> by_cases d2 : Nv2 < v3
              · have t1 : decide (v3 < Mv2) = true := by simpa using d1
                have t2 : decide (v3 > Nv2) = true := by simpa using d2
                have t3 : decide (Nv2 < v3) = true := by simpa using d2
                rw [if_pos d1] at e1
                rw [if_pos d2] at e2
                have E := Lib.hid (And.intro e1 e2)
                clear d1 d2 e1 e2
                go_wp2_with fail
                go_roundw
                case rel => exact .inr (.inr (.inr (.inr (⟨rfl, by rw [E.out.1], by rw [E.out.2], F6.out.later ((Keeps.refl _ _).drewN _), K6.out.drewN _⟩))))
                case measure => decide
              · have t1 : decide (v3 < Mv2) = true := by simpa using d1
                have t2 : decide (v3 > Nv2) = false := by simpa using d2
                have t3 : decide (Nv2 < v3) = false := by simpa using d2
                rw [if_pos d1] at e1
                rw [if_neg d2] at e2
                have E := Lib.hid (And.intro e1 e2)
                clear d1 d2 e1 e2
                go_wp2_with fail
                go_roundw
                case rel => exact .inr (.inr (.inr (.inr (⟨rfl, by rw [E.out.1], by rw [E.out.2], F6.out.later ((Keeps.refl _ _).drewN _), K6.out.drewN _⟩))))
                case measure => decide
              · have t1 : decide (v3 < Mv2) = false := by simpa using d1
                have t2 : decide (v3 > Nv2) = true := by simpa using d2
                have t3 : decide (Nv2 < v3) = true := by simpa using d2
                rw [if_neg d1] at e1
                rw [if_pos d2] at e2
                have E := Lib.hid (And.intro e1 e2)
                clear d1 d2 e1 e2
                go_wp2_with fail
                go_roundw
                case rel => exact .inr (.inr (.inr (.inr (⟨rfl, by rw [E.out.1], by rw [E.out.2], F6.out.later ((Keeps.refl _ _).drewN _), K6.out.drewN _⟩))))
                case measure => decide
              · have t1 : decide (v3 < Mv2) = false := by simpa using d1
                have t2 : decide (v3 > Nv2) = false := by simpa using d2
                have t3 : decide (Nv2 < v3) = false := by simpa using d2
                rw [if_neg d1] at e1
                rw [if_neg d2] at e2
                have E := Lib.hid (And.intro e1 e2)
                clear d1 d2 e1 e2
                go_wp2_with fail
                go_roundw
                case rel => exact .inr (.inr (.inr (.inr (⟨rfl, by rw [E.out.1], by rw [E.out.2], F6.out.later ((Keeps.refl _ _).drewN _), K6.out.drewN _⟩))))
                case measure => decide
            · have F6 := Lib.hid hF
              have K6 := Lib.hid hK
              clear hF hK
              obtain ⟨z1, z2, z3⟩ := WZv.out
              go_wp2_with fail
              refine (Dv.out _).mono ?_
              rintro e wr ⟨rfl, rfl⟩
              go_wp2_with fail
              refine (Uv.out _).mono ?_
              rintro e wr ⟨rfl, rfl⟩
              go_wp2_with fail
              go_roundw
              case rel => exact .inr (.inr (⟨rfl, F6.out, K6.out⟩))
              case measure => decide
        · have K5 := Lib.hid hK
          clear hF hK
          go_wp2_with fail
          go_ret
          exact ⟨rfl, K5.out⟩
end Go.Proofs.Ytfcndldobjpbnaa
