/- The document's product of two maps. (printed by genJ.py) -/
import Derived.Test.YtfcndldobjpbnaaJ
namespace Go.Proofs.Ytfcndldobjpbnaa
open Go.RowKit
set_option linter.unusedVariables false

set_option maxRecDepth 100000 in
set_option maxHeartbeats 3200000 in
theorem docTimes_good (m n : Af.M) (hm : m.ok) (hn : n.ok) (w : World) : Calls Try.prog 14 #[.agg #[.int .i64 m.a, .int .i64 m.b, .int .i64 m.c, .int .i64 m.d, .int .i64 m.e, .int .i64 m.f], .agg #[.int .i64 n.a, .int .i64 n.b, .int .i64 n.c, .int .i64 n.d, .int .i64 n.e, .int .i64 n.f]] w (Told (Af.timesE m n).1 (Af.timesE m n).2 w) := by
  have T0 : Trio w w.heap.size (w.heap.size + 1) (w.heap.size + 1 + 1) m n Af.zero (((w.alloc (.cells #[.int .i64 m.a, .int .i64 m.b, .int .i64 m.c, .int .i64 m.d, .int .i64 m.e, .int .i64 m.f] 28)).alloc (.cells #[.int .i64 n.a, .int .i64 n.b, .int .i64 n.c, .int .i64 n.d, .int .i64 n.e, .int .i64 n.f] 28)).alloc (.cells #[.int .i64 0, .int .i64 0, .int .i64 0, .int .i64 0, .int .i64 0, .int .i64 0] 28)) := Trio.new w m n Af.zero
  have C := Lib.hid (fun w => docRight_yes hm w)
  have D := Lib.hid (fun w => docRight_yes hn w)
  obtain ⟨p0, q0⟩ := Af.up_mul hm.1 hn.1 (by omega) (by omega)
  obtain ⟨p1, q1⟩ := Af.up_mul hm.2.1 hn.2.2.1 (by omega) (by omega)
  obtain ⟨p2, q2⟩ := Af.up_mul hm.1 hn.2.1 (by omega) (by omega)
  obtain ⟨p3, q3⟩ := Af.up_mul hm.2.1 hn.2.2.2.1 (by omega) (by omega)
  obtain ⟨p4, q4⟩ := Af.up_mul hm.2.2.1 hn.1 (by omega) (by omega)
  obtain ⟨p5, q5⟩ := Af.up_mul hm.2.2.2.1 hn.2.2.1 (by omega) (by omega)
  obtain ⟨p6, q6⟩ := Af.up_mul hm.2.2.1 hn.2.1 (by omega) (by omega)
  obtain ⟨p7, q7⟩ := Af.up_mul hm.2.2.2.1 hn.2.2.2.1 (by omega) (by omega)
  obtain ⟨p8, q8⟩ := Af.up_mul hm.1 hn.2.2.2.2.1 (by omega) (by omega)
  obtain ⟨p9, q9⟩ := Af.up_mul hm.2.1 hn.2.2.2.2.2 (by omega) (by omega)
  obtain ⟨p10, q10⟩ := Af.up_mul hm.2.2.1 hn.2.2.2.2.1 (by omega) (by omega)
  obtain ⟨p11, q11⟩ := Af.up_mul hm.2.2.2.1 hn.2.2.2.2.2 (by omega) (by omega)
  obtain ⟨⟨e0, e1⟩, f0, f1⟩ := hm.2.2.2.2
  have w0 := wrap_i64 (m.a * n.a) (by omega) (by omega)
  have w1 := wrap_i64 (m.b * n.c) (by omega) (by omega)
  have w2 := wrap_i64 (m.a * n.b) (by omega) (by omega)
  have w3 := wrap_i64 (m.b * n.d) (by omega) (by omega)
  have w4 := wrap_i64 (m.c * n.a) (by omega) (by omega)
  have w5 := wrap_i64 (m.d * n.c) (by omega) (by omega)
  have w6 := wrap_i64 (m.c * n.b) (by omega) (by omega)
  have w7 := wrap_i64 (m.d * n.d) (by omega) (by omega)
  have w8 := wrap_i64 (m.a * n.e) (by omega) (by omega)
  have w9 := wrap_i64 (m.b * n.f) (by omega) (by omega)
  have w10 := wrap_i64 (m.c * n.e) (by omega) (by omega)
  have w11 := wrap_i64 (m.d * n.f) (by omega) (by omega)
  have x0 := wrap_i64 (m.a * n.a + m.b * n.c) (by omega) (by omega)
  have x1 := wrap_i64 (m.a * n.b + m.b * n.d) (by omega) (by omega)
  have x2 := wrap_i64 (m.c * n.a + m.d * n.c) (by omega) (by omega)
  have x3 := wrap_i64 (m.c * n.b + m.d * n.d) (by omega) (by omega)
  have x4 := wrap_i64 (m.a * n.e + m.b * n.f) (by omega) (by omega)
  have y4 := wrap_i64 (m.e * 65536) (by omega) (by omega)
  have z4 := wrap_i64 (m.a * n.e + m.b * n.f + m.e * 65536) (by omega) (by omega)
  have x5 := wrap_i64 (m.c * n.e + m.d * n.f) (by omega) (by omega)
  have y5 := wrap_i64 (m.f * 65536) (by omega) (by omega)
  have z5 := wrap_i64 (m.c * n.e + m.d * n.f + m.f * 65536) (by omega) (by omega)
  have N0 := Lib.hid (fun w => docNear_any (m.a * n.a + m.b * n.c) (by unfold Up2; omega) w)
  have N1 := Lib.hid (fun w => docNear_any (m.a * n.b + m.b * n.d) (by unfold Up2; omega) w)
  have N2 := Lib.hid (fun w => docNear_any (m.c * n.a + m.d * n.c) (by unfold Up2; omega) w)
  have N3 := Lib.hid (fun w => docNear_any (m.c * n.b + m.d * n.d) (by unfold Up2; omega) w)
  have N4 := Lib.hid (fun w => docNear_any (m.a * n.e + m.b * n.f + m.e * 65536) (by unfold Up2; omega) w)
  have N5 := Lib.hid (fun w => docNear_any (m.c * n.e + m.d * n.f + m.f * 65536) (by unfold Up2; omega) w)
  have HT := Lib.hid (show Af.timesE m n = if (m.times n).ok then (m.times n, 0) else (Af.zero, 31) by unfold Af.timesE; simp [hm, hn])
  have HE : m.times n = ⟨Af.near (m.a * n.a + m.b * n.c), Af.near (m.a * n.b + m.b * n.d), Af.near (m.c * n.a + m.d * n.c), Af.near (m.c * n.b + m.d * n.d), Af.near (m.a * n.e + m.b * n.f + m.e * 65536), Af.near (m.c * n.e + m.d * n.f + m.f * 65536)⟩ := rfl
  rw [HE] at HT
  generalize Af.timesE m n = Z at *
  generalize Af.near (m.a * n.a + m.b * n.c) = r0 at *
  generalize Af.near (m.a * n.b + m.b * n.d) = r1 at *
  generalize Af.near (m.c * n.a + m.d * n.c) = r2 at *
  generalize Af.near (m.c * n.b + m.d * n.d) = r3 at *
  generalize Af.near (m.a * n.e + m.b * n.f + m.e * 65536) = r4 at *
  generalize Af.near (m.c * n.e + m.d * n.f + m.f * 65536) = r5 at *
  clear HE hm hn e0 e1 f0 f1 p0 q0 p1 q1 p2 q2 p3 q3 p4 q4 p5 q5 p6 q6 p7 q7 p8 q8 p9 q9 p10 q10 p11 q11
  go_enter Try.func14, Try.ntmps14
  go_upto_region 1 with (fail)
  generalize ((w.alloc (.cells #[.int .i64 m.a, .int .i64 m.b, .int .i64 m.c, .int .i64 m.d, .int .i64 m.e, .int .i64 m.f] 28)).alloc (.cells #[.int .i64 n.a, .int .i64 n.b, .int .i64 n.c, .int .i64 n.d, .int .i64 n.e, .int .i64 n.f] 28)).alloc (.cells #[.int .i64 0, .int .i64 0, .int .i64 0, .int .i64 0, .int .i64 0, .int .i64 0] 28) = w1 at *
  obtain ⟨A, hA⟩ : ∃ A, A = w.heap.size := ⟨_, rfl⟩
  obtain ⟨B, hB⟩ : ∃ B, B = A + 1 := ⟨_, rfl⟩
  obtain ⟨R, hR⟩ : ∃ R, R = B + 1 := ⟨_, rfl⟩
  rw [← hA, ← hB, ← hR] at T0
  rw [← hA, ← hB, ← hR]
  clear hA hB hR
  have T := Lib.hid T0
  clear T0
  have c0 := T.out.one.c0
  have c1 := T.out.one.c1
  have c2 := T.out.one.c2
  have c3 := T.out.one.c3
  have c4 := T.out.one.c4
  have c5 := T.out.one.c5
  go_wp2_with fail
  refine (C.out _).mono ?_
  rintro e w2 ⟨rfl, hk⟩
  have T2 := Lib.hid (T.out.later hk)
  clear hk T c0 c1 c2 c3 c4 c5 C
  have c0 := T2.out.two.c0
  have c1 := T2.out.two.c1
  have c2 := T2.out.two.c2
  have c3 := T2.out.two.c3
  have c4 := T2.out.two.c4
  have c5 := T2.out.two.c5
  go_wp2_with fail
  refine (D.out _).mono ?_
  rintro e w3 ⟨rfl, hk⟩
  have T3 := Lib.hid (T2.out.later hk)
  clear hk T2 c0 c1 c2 c3 c4 c5 D
  go_upto_region 4 with (fail)
  have U := Lib.hid (Quad.new T3.out Af.zero)
  clear T3
  have U0 : Quad w A B R w3.heap.size m n Af.zero Af.zero (w3.alloc (.cells #[.int .i64 0, .int .i64 0, .int .i64 0, .int .i64 0, .int .i64 0, .int .i64 0] 28)) := U.out
  clear U
  generalize w3.alloc (.cells #[.int .i64 0, .int .i64 0, .int .i64 0, .int .i64 0, .int .i64 0, .int .i64 0] 28) = w4 at *
  generalize w3.heap.size = G at *
  have U := Lib.hid U0
  clear U0
  go_wp2_with fail
  go_loopw [7] (Cnt2' (Quad w A B R G m n Af.zero ⟨0, 0, 0, 0, 0, 0⟩) (Quad w A B R G m n Af.zero ⟨r0, r1, 0, 0, r4, 0⟩) (Quad w A B R G m n Af.zero ⟨r0, r1, r2, r3, r4, r5⟩)) (fun cnt _ => 2 - (intOf cnt).toNat)
  case atStart => exact .inl ⟨rfl, U.out⟩
  case round =>
    rcases hrel with ⟨rfl, hW⟩ | ⟨rfl, hW⟩ | ⟨rfl, hW⟩
    · obtain ⟨wo, hwo⟩ : ∃ wo : World, wo = wr := ⟨_, rfl⟩
      rw [← hwo]
      rw [← hwo] at hW
      clear hwo
      have HW := Lib.hid hW
      clear hW
      go_wp2_with fail
      go_loopw [8] (Cnt2' (Quad w A B R G m n Af.zero ⟨0, 0, 0, 0, 0, 0⟩) (Quad w A B R G m n Af.zero ⟨r0, 0, 0, 0, 0, 0⟩) (Quad w A B R G m n Af.zero ⟨r0, r1, 0, 0, 0, 0⟩)) (fun cnt _ => 2 - (intOf cnt).toNat)
      case atStart => exact .inl ⟨rfl, HW.out⟩
      case round =>
        rcases hrel with ⟨rfl, hV⟩ | ⟨rfl, hV⟩ | ⟨rfl, hV⟩
        · have V := Lib.hid hV
          clear hV
          have a0 := V.out.trio.one.c0
          have a1 := V.out.trio.one.c1
          have b0 := V.out.trio.two.c0
          have b2 := V.out.trio.two.c2
          have o0 := V.out.own.c0
          have o1 := V.out.own.fr (i := 0)
          have X := Lib.hid (V.out.s0 r0)
          clear V
          have g0 : IntKind.i64.wrap 0 = 0 := by decide
          have g1 : IntKind.i64.wrap 1 = 1 := by decide
          have g2 : IntKind.i64.wrap 2 = 2 := by decide
          have g3 : IntKind.i64.wrap 3 = 3 := by decide
          have g4 : IntKind.i64.wrap 4 = 4 := by decide
          have g5 : IntKind.i64.wrap 5 = 5 := by decide
          go_wp2_with fail
          go_still_tail 24, (by kernel_rfl)
          still_call (N0.out _)
          repeat still_step
          try refine wpStill_nil ?_
          change wpList _ _ _ _ _ wr.drew
          go_wp2_with fail
          go_roundw
          case rel => exact .inr (.inl ⟨rfl, X.out⟩)
          case measure => decide
        · have V := Lib.hid hV
          clear hV
          have a0 := V.out.trio.one.c0
          have a1 := V.out.trio.one.c1
          have b1 := V.out.trio.two.c1
          have b3 := V.out.trio.two.c3
          have o0 := V.out.own.c1
          have o1 := V.out.own.fr (i := 1)
          have X := Lib.hid (V.out.s1 r1)
          clear V
          have g0 : IntKind.i64.wrap 0 = 0 := by decide
          have g1 : IntKind.i64.wrap 1 = 1 := by decide
          have g2 : IntKind.i64.wrap 2 = 2 := by decide
          have g3 : IntKind.i64.wrap 3 = 3 := by decide
          have g4 : IntKind.i64.wrap 4 = 4 := by decide
          have g5 : IntKind.i64.wrap 5 = 5 := by decide
          go_wp2_with fail
          go_still_tail 24, (by kernel_rfl)
          still_call (N1.out _)
          repeat still_step
          try refine wpStill_nil ?_
          change wpList _ _ _ _ _ wr.drew
          go_wp2_with fail
          go_roundw
          case rel => exact .inr (.inr ⟨rfl, X.out⟩)
          case measure => decide
        · have V := Lib.hid hV
          clear hV
          have a0 := V.out.trio.one.c0
          have a1 := V.out.trio.one.c1
          have a4 := V.out.trio.one.c4
          have b4 := V.out.trio.two.c4
          have b5 := V.out.trio.two.c5
          have o0 := V.out.own.c4
          have o1 := V.out.own.fr (i := 4)
          have X := Lib.hid (V.out.s4 r4)
          clear V
          have g0 : IntKind.i64.wrap 0 = 0 := by decide
          have g1 : IntKind.i64.wrap 1 = 1 := by decide
          have g2 : IntKind.i64.wrap 2 = 2 := by decide
          have g3 : IntKind.i64.wrap 3 = 3 := by decide
          have g4 : IntKind.i64.wrap 4 = 4 := by decide
          have g5 : IntKind.i64.wrap 5 = 5 := by decide
          go_wp2_with fail
          go_still_tail 25, (by kernel_rfl)
          still_call (N4.out _)
          repeat still_step
          try refine wpStill_nil ?_
          change wpList _ _ _ _ _ wr.drew
          go_wp2_with fail
          go_roundw
          case rel => exact .inr (.inl ⟨rfl, X.out⟩)
          case measure => decide
    · obtain ⟨wo, hwo⟩ : ∃ wo : World, wo = wr := ⟨_, rfl⟩
      rw [← hwo]
      rw [← hwo] at hW
      clear hwo
      have HW := Lib.hid hW
      clear hW
      go_wp2_with fail
      go_loopw [8] (Cnt2' (Quad w A B R G m n Af.zero ⟨r0, r1, 0, 0, r4, 0⟩) (Quad w A B R G m n Af.zero ⟨r0, r1, r2, 0, r4, 0⟩) (Quad w A B R G m n Af.zero ⟨r0, r1, r2, r3, r4, 0⟩)) (fun cnt _ => 2 - (intOf cnt).toNat)
      case atStart => exact .inl ⟨rfl, HW.out⟩
      case round =>
        rcases hrel with ⟨rfl, hV⟩ | ⟨rfl, hV⟩ | ⟨rfl, hV⟩
        · have V := Lib.hid hV
          clear hV
          have a2 := V.out.trio.one.c2
          have a3 := V.out.trio.one.c3
          have b0 := V.out.trio.two.c0
          have b2 := V.out.trio.two.c2
          have o0 := V.out.own.c2
          have o1 := V.out.own.fr (i := 2)
          have X := Lib.hid (V.out.s2 r2)
          clear V
          have g0 : IntKind.i64.wrap 0 = 0 := by decide
          have g1 : IntKind.i64.wrap 1 = 1 := by decide
          have g2 : IntKind.i64.wrap 2 = 2 := by decide
          have g3 : IntKind.i64.wrap 3 = 3 := by decide
          have g4 : IntKind.i64.wrap 4 = 4 := by decide
          have g5 : IntKind.i64.wrap 5 = 5 := by decide
          go_wp2_with fail
          go_still_tail 24, (by kernel_rfl)
          still_call (N2.out _)
          repeat still_step
          try refine wpStill_nil ?_
          change wpList _ _ _ _ _ wr.drew
          go_wp2_with fail
          go_roundw
          case rel => exact .inr (.inl ⟨rfl, X.out⟩)
          case measure => decide
        · have V := Lib.hid hV
          clear hV
          have a2 := V.out.trio.one.c2
          have a3 := V.out.trio.one.c3
          have b1 := V.out.trio.two.c1
          have b3 := V.out.trio.two.c3
          have o0 := V.out.own.c3
          have o1 := V.out.own.fr (i := 3)
          have X := Lib.hid (V.out.s3 r3)
          clear V
          have g0 : IntKind.i64.wrap 0 = 0 := by decide
          have g1 : IntKind.i64.wrap 1 = 1 := by decide
          have g2 : IntKind.i64.wrap 2 = 2 := by decide
          have g3 : IntKind.i64.wrap 3 = 3 := by decide
          have g4 : IntKind.i64.wrap 4 = 4 := by decide
          have g5 : IntKind.i64.wrap 5 = 5 := by decide
          go_wp2_with fail
          go_still_tail 24, (by kernel_rfl)
          still_call (N3.out _)
          repeat still_step
          try refine wpStill_nil ?_
          change wpList _ _ _ _ _ wr.drew
          go_wp2_with fail
          go_roundw
          case rel => exact .inr (.inr ⟨rfl, X.out⟩)
          case measure => decide
        · have V := Lib.hid hV
          clear hV
          have a2 := V.out.trio.one.c2
          have a3 := V.out.trio.one.c3
          have a5 := V.out.trio.one.c5
          have b4 := V.out.trio.two.c4
          have b5 := V.out.trio.two.c5
          have o0 := V.out.own.c5
          have o1 := V.out.own.fr (i := 5)
          have X := Lib.hid (V.out.s5 r5)
          clear V
          have g0 : IntKind.i64.wrap 0 = 0 := by decide
          have g1 : IntKind.i64.wrap 1 = 1 := by decide
          have g2 : IntKind.i64.wrap 2 = 2 := by decide
          have g3 : IntKind.i64.wrap 3 = 3 := by decide
          have g4 : IntKind.i64.wrap 4 = 4 := by decide
          have g5 : IntKind.i64.wrap 5 = 5 := by decide
          go_wp2_with fail
          go_still_tail 25, (by kernel_rfl)
          still_call (N5.out _)
          repeat still_step
          try refine wpStill_nil ?_
          change wpList _ _ _ _ _ wr.drew
          go_wp2_with fail
          go_roundw
          case rel => exact .inr (.inr ⟨rfl, X.out⟩)
          case measure => decide
    · have V := Lib.hid hW
      clear hW U N0 x0 N1 x1 N2 x2 N3 x3 N4 x4 N5 x5 w0 w1 w2 w3 w4 w5 w6 w7 w8 w9 w10 w11 y4 z4 y5 z5
      by_cases hP : Af.M.ok ⟨r0, r1, r2, r3, r4, r5⟩
      · have RN := Lib.hid (fun w => docRight_yes hP w)
        have HZ := Lib.hid (show Z = (⟨r0, r1, r2, r3, r4, r5⟩, 0) from HT.out.trans (if_pos hP))
        clear hP HT
        have c0 := V.out.own.c0
        have c1 := V.out.own.c1
        have c2 := V.out.own.c2
        have c3 := V.out.own.c3
        have c4 := V.out.own.c4
        have c5 := V.out.own.c5
        go_wp2_with fail
        refine (RN.out _).mono ?_
        rintro e wb ⟨rfl, hk⟩
        have V2 := Lib.hid (V.out.later hk)
        have X2 := Lib.hid V2.out.trio
        clear hk V c0 c1 c2 c3 c4 c5
        have c0 := V2.out.own.c0
        have c1 := V2.out.own.c1
        have c2 := V2.out.own.c2
        have c3 := V2.out.own.c3
        have c4 := V2.out.own.c4
        have c5 := V2.out.own.c5
        have k0 := X2.out.res.c0
        have k1 := X2.out.res.c1
        have k2 := X2.out.res.c2
        have k3 := X2.out.res.c3
        have k4 := X2.out.res.c4
        have k5 := X2.out.res.c5
        have f0 := X2.out.res.fr (i := 0)
        have f1 := X2.out.res.fr (i := 1)
        have f2 := X2.out.res.fr (i := 2)
        have f3 := X2.out.res.fr (i := 3)
        have f4 := X2.out.res.fr (i := 4)
        have f5 := X2.out.res.fr (i := 5)
        have X := Lib.hid (block_all X2.out.res ⟨r0, r1, r2, r3, r4, r5⟩)
        have Y := Lib.hid (X2.out.keeps.all X2.out.low ⟨r0, r1, r2, r3, r4, r5⟩)
        go_wp2_with fail
        refine bodyPost_ret (results_cell_row2 rfl _ _ R 28 #[.int .i64 r0, .int .i64 r1, .int .i64 r2, .int .i64 r3, .int .i64 r4, .int .i64 r5] (0, 0) _ rfl X.out Try.underlying28 rfl (by kernel_rfl)) rfl ?_
        exact ⟨by rw [HZ.out]; rfl, Y.out⟩
      · have RN := Lib.hid (fun w => docRight_no hP w)
        have HZ := Lib.hid (show Z = (Af.zero, 31) from HT.out.trans (if_neg hP))
        clear hP HT
        have c0 := V.out.own.c0
        have c1 := V.out.own.c1
        have c2 := V.out.own.c2
        have c3 := V.out.own.c3
        have c4 := V.out.own.c4
        have c5 := V.out.own.c5
        go_wp2_with fail
        refine (RN.out _).mono ?_
        rintro e wb ⟨rfl, hk⟩
        have X2 := Lib.hid (V.out.trio.later hk)
        clear hk V c0 c1 c2 c3 c4 c5
        have k0 := X2.out.res.c0
        have k1 := X2.out.res.c1
        have k2 := X2.out.res.c2
        have k3 := X2.out.res.c3
        have k4 := X2.out.res.c4
        have k5 := X2.out.res.c5
        have f0 := X2.out.res.fr (i := 0)
        have f1 := X2.out.res.fr (i := 1)
        have f2 := X2.out.res.fr (i := 2)
        have f3 := X2.out.res.fr (i := 3)
        have f4 := X2.out.res.fr (i := 4)
        have f5 := X2.out.res.fr (i := 5)
        have X := Lib.hid (block_all X2.out.res Af.zero)
        have Y := Lib.hid (X2.out.keeps.all X2.out.low Af.zero)
        go_wp2_with fail
        refine bodyPost_ret (results_cell_row2 rfl _ _ R 28 #[.int .i64 0, .int .i64 0, .int .i64 0, .int .i64 0, .int .i64 0, .int .i64 0] (0, 0) _ rfl X.out Try.underlying28 rfl (by kernel_rfl)) rfl ?_
        exact ⟨by rw [HZ.out]; rfl, Y.out⟩

theorem docTimes_any (m n : Af.M) (w : World) : Calls Try.prog 14 #[.agg #[.int .i64 m.a, .int .i64 m.b, .int .i64 m.c, .int .i64 m.d, .int .i64 m.e, .int .i64 m.f], .agg #[.int .i64 n.a, .int .i64 n.b, .int .i64 n.c, .int .i64 n.d, .int .i64 n.e, .int .i64 n.f]] w (Told (Af.timesE m n).1 (Af.timesE m n).2 w) := by
  by_cases hm : m.ok
  · by_cases hn : n.ok
    · exact docTimes_good m n hm hn w
    · rw [show Af.timesE m n = (Af.zero, 31) by unfold Af.timesE; simp [hn]]
      exact docTimes_bad2 m n hm hn w
  · rw [show Af.timesE m n = (Af.zero, 31) by unfold Af.timesE; simp [hm]]
    exact docTimes_bad1 m n hm w
end Go.Proofs.Ytfcndldobjpbnaa
