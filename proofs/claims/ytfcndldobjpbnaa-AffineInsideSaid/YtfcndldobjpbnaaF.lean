/- The product of two maps. -/
import Derived.Test.YtfcndldobjpbnaaE
namespace Go.Proofs.Ytfcndldobjpbnaa
open Go.RowKit
set_option linter.unusedVariables false

set_option maxRecDepth 100000 in
set_option maxHeartbeats 3200000 in
theorem times_good (m n : Af.M) (hm : m.ok) (hn : n.ok) (w : World) : Calls Try.prog 13 #[.agg #[.int .i64 m.a, .int .i64 m.b, .int .i64 m.c, .int .i64 m.d, .int .i64 m.e, .int .i64 m.f], .agg #[.int .i64 n.a, .int .i64 n.b, .int .i64 n.c, .int .i64 n.d, .int .i64 n.e, .int .i64 n.f]] w (Told (Af.timesE m n).1 (Af.timesE m n).2 w) := by
  have T0 : Tri w w.heap.size (w.heap.size + 1) (w.heap.size + 1 + 1) m n Af.zero (((w.alloc (.cells #[.int .i64 m.a, .int .i64 m.b, .int .i64 m.c, .int .i64 m.d, .int .i64 m.e, .int .i64 m.f] 23)).alloc (.cells #[.int .i64 n.a, .int .i64 n.b, .int .i64 n.c, .int .i64 n.d, .int .i64 n.e, .int .i64 n.f] 23)).alloc (.cells #[.int .i64 0, .int .i64 0, .int .i64 0, .int .i64 0, .int .i64 0, .int .i64 0] 23)) := Tri.new w m n Af.zero
  have C := Lib.hid (fun w => right_yes hm w)
  have D := Lib.hid (fun w => right_yes hn w)
  have n1 : Af.Up n.a 16777216 := hn.1
  have S1 := Lib.hid (fun w => slope_any m n.a n.c 16777216 hm hn.1 hn.2.2.1 (by omega) (by omega) w)
  have S2 := Lib.hid (fun w => slope_any m n.b n.d 16777216 hm hn.2.1 hn.2.2.2.1 (by omega) (by omega) w)
  have S3 := Lib.hid (fun w => slope_any m n.e n.f 68719476736 hm hn.2.2.2.2.1 hn.2.2.2.2.2 (by omega) (by omega) w)
  have u1 := Af.slope_up hm (show Af.Up n.a 16777216 from hn.1) hn.2.2.1 (by omega)
  have u2 := Af.slope_up hm (show Af.Up n.b 16777216 from hn.2.1) hn.2.2.2.1 (by omega)
  have u3 := Af.slope_up hm (show Af.Up n.e 68719476736 from hn.2.2.2.2.1) hn.2.2.2.2.2 (by omega)
  obtain ⟨⟨e0, e1⟩, f0, f1⟩ := hm.2.2.2.2
  have HE := Lib.hid (show m.times n = ⟨Af.near (Af.slopeU m n.a n.c), Af.near (Af.slopeU m n.b n.d), Af.near (Af.slopeV m n.a n.c), Af.near (Af.slopeV m n.b n.d), Af.near (Af.slopeU m n.e n.f + m.e * 65536), Af.near (Af.slopeV m n.e n.f + m.f * 65536)⟩ from rfl)
  have HT := Lib.hid (show Af.timesE m n = if (m.times n).ok then (m.times n, 0) else (Af.zero, 31) by unfold Af.timesE; simp [hm, hn])
  generalize m.times n = P at *
  generalize Af.timesE m n = Z at *
  generalize Af.slopeU m n.a n.c = s1 at *
  generalize Af.slopeV m n.a n.c = s2 at *
  generalize Af.slopeU m n.b n.d = s3 at *
  generalize Af.slopeV m n.b n.d = s4 at *
  generalize Af.slopeU m n.e n.f = s5 at *
  generalize Af.slopeV m n.e n.f = s6 at *
  obtain ⟨⟨x1, y1⟩, x2, y2⟩ := u1
  obtain ⟨⟨x3, y3⟩, x4, y4⟩ := u2
  obtain ⟨⟨x5, y5⟩, x6, y6⟩ := u3
  have N1 := Lib.hid (fun w => near_any s1 (by unfold Up2; omega) w)
  have N2 := Lib.hid (fun w => near_any s2 (by unfold Up2; omega) w)
  have N3 := Lib.hid (fun w => near_any s3 (by unfold Up2; omega) w)
  have N4 := Lib.hid (fun w => near_any s4 (by unfold Up2; omega) w)
  have N5 := Lib.hid (fun w => near_any (s5 + m.e * 65536) (by unfold Up2; omega) w)
  have N6 := Lib.hid (fun w => near_any (s6 + m.f * 65536) (by unfold Up2; omega) w)
  have v1 := wrap_i64 (m.e * 65536) (by omega) (by omega)
  have v2 := wrap_i64 (m.f * 65536) (by omega) (by omega)
  have v3 := wrap_i64 (s5 + m.e * 65536) (by omega) (by omega)
  have v4 := wrap_i64 (s6 + m.f * 65536) (by omega) (by omega)
  obtain ⟨NR, hNR⟩ : ∃ NR : Af.M, NR = P := ⟨_, rfl⟩
  have RY := Lib.hid (fun (h : P.ok) w => right_yes h w)
  have RN := Lib.hid (fun (h : ¬ P.ok) w => right_no h w)
  obtain rfl := HE.out
  clear HE hNR
  clear hm hn n1 x1 y1 x2 y2 x3 y3 x4 y4 x5 y5 x6 y6 e0 e1 f0 f1
  go_enter Try.func13, Try.ntmps13
  go_upto_region 1 with (fail)
  generalize ((w.alloc (.cells #[.int .i64 m.a, .int .i64 m.b, .int .i64 m.c, .int .i64 m.d, .int .i64 m.e, .int .i64 m.f] 23)).alloc (.cells #[.int .i64 n.a, .int .i64 n.b, .int .i64 n.c, .int .i64 n.d, .int .i64 n.e, .int .i64 n.f] 23)).alloc (.cells #[.int .i64 0, .int .i64 0, .int .i64 0, .int .i64 0, .int .i64 0, .int .i64 0] 23) = w1 at *
  obtain ⟨A, hA⟩ : ∃ A, A = w.heap.size := ⟨_, rfl⟩
  obtain ⟨B, hB⟩ : ∃ B, B = A + 1 := ⟨_, rfl⟩
  obtain ⟨R, hR⟩ : ∃ R, R = B + 1 := ⟨_, rfl⟩
  rw [← hA, ← hB, ← hR] at T0
  rw [← hA, ← hB, ← hR]
  clear hA hB hR
  have T := Lib.hid T0
  clear T0
  have c0 := T.out.one.c0
  have c1 := T.out.one.c1
  have c2 := T.out.one.c2
  have c3 := T.out.one.c3
  have c4 := T.out.one.c4
  have c5 := T.out.one.c5
  go_wp2_with fail
  refine (C.out _).mono ?_
  rintro e w2 ⟨rfl, hk⟩
  have T2 := Lib.hid (T.out.later hk)
  clear hk T c0 c1 c2 c3 c4 c5 C
  have c0 := T2.out.two.c0
  have c1 := T2.out.two.c1
  have c2 := T2.out.two.c2
  have c3 := T2.out.two.c3
  have c4 := T2.out.two.c4
  have c5 := T2.out.two.c5
  go_wp2_with fail
  refine (D.out _).mono ?_
  rintro e w3 ⟨rfl, hk⟩
  have T3 := Lib.hid (T2.out.later hk)
  clear hk T2 c0 c1 c2 c3 c4 c5 D
  have c0 := T3.out.one.c0
  have c1 := T3.out.one.c1
  have c2 := T3.out.one.c2
  have c3 := T3.out.one.c3
  have c4 := T3.out.one.c4
  have c5 := T3.out.one.c5
  have d0 := T3.out.two.c0
  have d1 := T3.out.two.c1
  have d2 := T3.out.two.c2
  have d3 := T3.out.two.c3
  have d4 := T3.out.two.c4
  have d5 := T3.out.two.c5
  go_wp2_with fail
  refine (S1.out _).mono ?_
  rintro e w4 ⟨rfl, hk⟩
  have T4 := Lib.hid (T3.out.later hk)
  clear hk T3 c0 c1 c2 c3 c4 c5 d0 d1 d2 d3 d4 d5 S1
  have c0 := T4.out.one.c0
  have c1 := T4.out.one.c1
  have c2 := T4.out.one.c2
  have c3 := T4.out.one.c3
  have c4 := T4.out.one.c4
  have c5 := T4.out.one.c5
  have d0 := T4.out.two.c0
  have d1 := T4.out.two.c1
  have d2 := T4.out.two.c2
  have d3 := T4.out.two.c3
  have d4 := T4.out.two.c4
  have d5 := T4.out.two.c5
  go_wp2_with fail
  refine (S2.out _).mono ?_
  rintro e w5 ⟨rfl, hk⟩
  have T5 := Lib.hid (T4.out.later hk)
  clear hk T4 c0 c1 c2 c3 c4 c5 d0 d1 d2 d3 d4 d5 S2
  have c0 := T5.out.one.c0
  have c1 := T5.out.one.c1
  have c2 := T5.out.one.c2
  have c3 := T5.out.one.c3
  have c4 := T5.out.one.c4
  have c5 := T5.out.one.c5
  have d0 := T5.out.two.c0
  have d1 := T5.out.two.c1
  have d2 := T5.out.two.c2
  have d3 := T5.out.two.c3
  have d4 := T5.out.two.c4
  have d5 := T5.out.two.c5
  go_wp2_with fail
  refine (S3.out _).mono ?_
  rintro e w6 ⟨rfl, hk⟩
  have T6 := Lib.hid (T5.out.later hk)
  clear hk T5 c0 c1 c2 c3 c4 c5 d0 d1 d2 d3 d4 d5 S3
  have c4 := T6.out.one.c4
  have c5 := T6.out.one.c5
  have d4 := (T6.out.one.alloc (.cells #[.int .i64 0, .int .i64 0, .int .i64 0, .int .i64 0, .int .i64 0, .int .i64 0] 23)).c4
  have d5 := (T6.out.one.alloc (.cells #[.int .i64 0, .int .i64 0, .int .i64 0, .int .i64 0, .int .i64 0, .int .i64 0] 23)).c5
  go_upto_region 6 with (fail)
  go_region_held3 (fun w' => w'.cell? ⟨A, 4, none⟩ = some (.int .i64 m.e) ∧ w'.cell? ⟨A, 5, none⟩ = some (.int .i64 m.f)) (go_keep)
    (first
    | (go_at_call 31; with_reducible refine (N1.out _).mono ?_; rintro e w' ⟨rfl, rfl⟩)
    | (go_at_call 31; with_reducible refine (N2.out _).mono ?_; rintro e w' ⟨rfl, rfl⟩)
    | (go_at_call 31; with_reducible refine (N3.out _).mono ?_; rintro e w' ⟨rfl, rfl⟩)
    | (go_at_call 31; with_reducible refine (N4.out _).mono ?_; rintro e w' ⟨rfl, rfl⟩)
    | (go_at_call 31; with_reducible refine (N5.out _).mono ?_; rintro e w' ⟨rfl, rfl⟩)
    | (go_at_call 31; with_reducible refine (N6.out _).mono ?_; rintro e w' ⟨rfl, rfl⟩))
  all_goals
    have X := Lib.hid (show Tri w A B R m n Af.zero (w6.alloc (.cells #[.int .i64 (Af.near s1), .int .i64 (Af.near s3), .int .i64 (Af.near s2), .int .i64 (Af.near s4), .int .i64 (Af.near (s5 + m.e * 65536)), .int .i64 (Af.near (s6 + m.f * 65536))] 23)).drew from
      ⟨T6.out.one.alloc _, T6.out.two.alloc _, T6.out.res.alloc _, (T6.out.keeps.alloc _).drew, T6.out.low⟩)
    have Y := Lib.hid (show Six (w6.alloc (.cells #[.int .i64 (Af.near s1), .int .i64 (Af.near s3), .int .i64 (Af.near s2), .int .i64 (Af.near s4), .int .i64 (Af.near (s5 + m.e * 65536)), .int .i64 (Af.near (s6 + m.f * 65536))] 23)).drew w6.heap.size 23 ⟨Af.near s1, Af.near s3, Af.near s2, Af.near s4, Af.near (s5 + m.e * 65536), Af.near (s6 + m.f * 65536)⟩ from Six.new w6 23 ⟨Af.near s1, Af.near s3, Af.near s2, Af.near s4, Af.near (s5 + m.e * 65536), Af.near (s6 + m.f * 65536)⟩)
    clear T6 c4 c5 d4 d5 N1 N2 N3 N4 N5 N6 v1 v2 v3 v4
    rename_i hH
    clear hH
    generalize (w6.alloc (.cells #[.int .i64 (Af.near s1), .int .i64 (Af.near s3), .int .i64 (Af.near s2), .int .i64 (Af.near s4), .int .i64 (Af.near (s5 + m.e * 65536)), .int .i64 (Af.near (s6 + m.f * 65536))] 23)).drew = w7 at *
    generalize w6.heap.size = D at *
    generalize Af.near s1 = r1 at *
    generalize Af.near s3 = r2 at *
    generalize Af.near s2 = r3 at *
    generalize Af.near s4 = r4 at *
    generalize Af.near (s5 + m.e * 65536) = r5 at *
    generalize Af.near (s6 + m.f * 65536) = r6 at *
    by_cases hP : Af.M.ok ⟨r1, r2, r3, r4, r5, r6⟩
    · have CR := Lib.hid (RY.out hP)
      have HZ := Lib.hid (show Z = (⟨r1, r2, r3, r4, r5, r6⟩, 0) from HT.out.trans (if_pos hP))
      clear hP RY RN HT
      have c0 := Y.out.c0
      have c1 := Y.out.c1
      have c2 := Y.out.c2
      have c3 := Y.out.c3
      have c4 := Y.out.c4
      have c5 := Y.out.c5
      go_wp2_with fail
      refine (CR.out _).mono ?_
      rintro e w8 ⟨rfl, hk⟩
      have X2 := Lib.hid (X.out.later hk)
      have Y2 := Lib.hid (Y.out.later hk)
      clear hk X Y c0 c1 c2 c3 c4 c5
      have c0 := Y2.out.c0
      have c1 := Y2.out.c1
      have c2 := Y2.out.c2
      have c3 := Y2.out.c3
      have c4 := Y2.out.c4
      have c5 := Y2.out.c5
      have q0 := X2.out.res.c0
      have q1 := X2.out.res.c1
      have q2 := X2.out.res.c2
      have q3 := X2.out.res.c3
      have q4 := X2.out.res.c4
      have q5 := X2.out.res.c5
      have f0 := X2.out.res.fr (i := 0)
      have f1 := X2.out.res.fr (i := 1)
      have f2 := X2.out.res.fr (i := 2)
      have f3 := X2.out.res.fr (i := 3)
      have f4 := X2.out.res.fr (i := 4)
      have f5 := X2.out.res.fr (i := 5)
      have U := Lib.hid (block_all X2.out.res ⟨r1, r2, r3, r4, r5, r6⟩)
      have V := Lib.hid (X2.out.keeps.all X2.out.low ⟨r1, r2, r3, r4, r5, r6⟩)
      go_wp2_with fail
      refine bodyPost_ret (results_cell_row2 rfl _ _ R 23 #[.int .i64 r1, .int .i64 r2, .int .i64 r3, .int .i64 r4, .int .i64 r5, .int .i64 r6] (0, 0) _ rfl U.out Try.underlying23 rfl (by kernel_rfl)) rfl ?_
      exact ⟨by rw [HZ.out]; rfl, V.out⟩
    · have CR := Lib.hid (RN.out hP)
      have HZ := Lib.hid (show Z = (Af.zero, 31) from HT.out.trans (if_neg hP))
      clear hP RY RN HT
      have c0 := Y.out.c0
      have c1 := Y.out.c1
      have c2 := Y.out.c2
      have c3 := Y.out.c3
      have c4 := Y.out.c4
      have c5 := Y.out.c5
      go_wp2_with fail
      refine (CR.out _).mono ?_
      rintro e w8 ⟨rfl, hk⟩
      have X2 := Lib.hid (X.out.later hk)
      clear hk X Y c0 c1 c2 c3 c4 c5
      have q0 := X2.out.res.c0
      have q1 := X2.out.res.c1
      have q2 := X2.out.res.c2
      have q3 := X2.out.res.c3
      have q4 := X2.out.res.c4
      have q5 := X2.out.res.c5
      have f0 := X2.out.res.fr (i := 0)
      have f1 := X2.out.res.fr (i := 1)
      have f2 := X2.out.res.fr (i := 2)
      have f3 := X2.out.res.fr (i := 3)
      have f4 := X2.out.res.fr (i := 4)
      have f5 := X2.out.res.fr (i := 5)
      have U := Lib.hid (block_all X2.out.res Af.zero)
      have V := Lib.hid (X2.out.keeps.all X2.out.low Af.zero)
      go_wp2_with fail
      refine bodyPost_ret (results_cell_row2 rfl _ _ R 23 #[.int .i64 0, .int .i64 0, .int .i64 0, .int .i64 0, .int .i64 0, .int .i64 0] (0, 0) _ rfl U.out Try.underlying23 rfl (by kernel_rfl)) rfl ?_
      exact ⟨by rw [HZ.out]; rfl, V.out⟩
end Go.Proofs.Ytfcndldobjpbnaa
