/- The back map: where its slopes are right. (printed by genH.py) -/
import Derived.Test.YtfcndldobjpbnaaH
import Derived.Test.YtfcndldobjpbnaaF
namespace Go.Proofs.Ytfcndldobjpbnaa
open Go.RowKit
set_option linter.unusedVariables false

set_option maxRecDepth 100000 in
set_option maxHeartbeats 3200000 in
theorem back_good (m : Af.M) (hm : m.ok) (hz : m.area ≠ 0) (hb : m.back4.ok) (w : World) : Calls Try.prog 18 #[.agg #[.int .i64 m.a, .int .i64 m.b, .int .i64 m.c, .int .i64 m.d, .int .i64 m.e, .int .i64 m.f]] w (Told (Af.backE m).1 (Af.backE m).2 w) := by
  have T0 : Duo w w.heap.size (w.heap.size + 1) m Af.zero ((w.alloc (.cells #[.int .i64 m.a, .int .i64 m.b, .int .i64 m.c, .int .i64 m.d, .int .i64 m.e, .int .i64 m.f] 23)).alloc (.cells #[.int .i64 0, .int .i64 0, .int .i64 0, .int .i64 0, .int .i64 0, .int .i64 0] 23)) := Duo.new w m Af.zero
  have C := Lib.hid (fun w => right_yes hm w)
  have au := Af.area_up hm
  obtain ⟨⟨a0, a1⟩, b0, b1⟩ := area_parts hm
  have z1 := wrap_i64 (m.a * m.d) (by omega) (by omega)
  have z2 := wrap_i64 (m.b * m.c) (by omega) (by omega)
  have z3 : IntKind.i64.wrap (m.a * m.d - m.b * m.c) = m.area := wrap_i64 (m.a * m.d - m.b * m.c) (by omega) (by omega)
  have z4 : (m.area == 0) = false := by simpa using hz
  have HT := Lib.hid (show Af.backE m = if m.back.ok then (m.back, 0) else (Af.zero, 33) by unfold Af.backE; simp [hm, hz])
  have SH := hm.2.2.2.2
  obtain ⟨⟨ma0, ma1⟩, ⟨mb0, mb1⟩, ⟨mc0, mc1⟩, ⟨md0, md1⟩, -⟩ := hm
  have N1 := Lib.hid (fun w => share_any m.d m.area ⟨by omega, by omega⟩ au hz w)
  have N2 := Lib.hid (fun w => share_any (-m.b) m.area ⟨by omega, by omega⟩ au hz w)
  have N3 := Lib.hid (fun w => share_any (-m.c) m.area ⟨by omega, by omega⟩ au hz w)
  have N4 := Lib.hid (fun w => share_any m.a m.area ⟨by omega, by omega⟩ au hz w)
  have v1 := wrap_i64 (-m.b) (by omega) (by omega)
  have v2 := wrap_i64 (-m.c) (by omega) (by omega)
  have HB : m.back4 = ⟨Af.round (m.d * 4294967296) m.area, Af.round (-m.b * 4294967296) m.area, Af.round (-m.c * 4294967296) m.area, Af.round (m.a * 4294967296) m.area, 0, 0⟩ := rfl
  have su := Af.slope_up hb (show Af.Up m.e 68719476736 from SH.1) (show Af.Up m.f 68719476736 from SH.2) (by omega)
  have SL := Lib.hid (fun w => slope_any m.back4 m.e m.f 68719476736 hb SH.1 SH.2 (by omega) (by omega) w)
  have HK : m.back = ⟨m.back4.a, m.back4.b, m.back4.c, m.back4.d, Af.near (-(Af.slopeU m.back4 m.e m.f)), Af.near (-(Af.slopeV m.back4 m.e m.f))⟩ := rfl
  rw [HK] at HT
  clear HK
  generalize Af.slopeU m.back4 m.e m.f = u at *
  generalize Af.slopeV m.back4 m.e m.f = v at *
  obtain ⟨⟨u0, u1⟩, v0, v1'⟩ := su
  have NU := Lib.hid (fun w => near_any (-u) (by unfold Up2; omega) w)
  have NV := Lib.hid (fun w => near_any (-v) (by unfold Up2; omega) w)
  have v3 := wrap_i64 (-u) (by omega) (by omega)
  have v4 := wrap_i64 (-v) (by omega) (by omega)
  generalize Af.backE m = Z at *
  rw [HB] at HT SL
  simp only at HT SL
  clear hb SH u0 u1 v0 v1' HB
  generalize m.area = D at *
  generalize Af.round (m.d * 4294967296) D = r1 at *
  generalize Af.round (-m.b * 4294967296) D = r2 at *
  generalize Af.round (-m.c * 4294967296) D = r3 at *
  generalize Af.round (m.a * 4294967296) D = r4 at *
  clear au hz a0 a1 b0 b1 ma0 ma1 mb0 mb1 mc0 mc1 md0 md1
  go_enter Try.func18, Try.ntmps18
  go_upto_region 1 with (fail)
  generalize (w.alloc (.cells #[.int .i64 m.a, .int .i64 m.b, .int .i64 m.c, .int .i64 m.d, .int .i64 m.e, .int .i64 m.f] 23)).alloc (.cells #[.int .i64 0, .int .i64 0, .int .i64 0, .int .i64 0, .int .i64 0, .int .i64 0] 23) = w1 at *
  obtain ⟨A, hA⟩ : ∃ A, A = w.heap.size := ⟨_, rfl⟩
  obtain ⟨R, hR⟩ : ∃ R, R = A + 1 := ⟨_, rfl⟩
  rw [← hA, ← hR] at T0
  rw [← hA, ← hR]
  clear hA hR
  have T := Lib.hid T0
  clear T0
  have c0 := T.out.one.c0
  have c1 := T.out.one.c1
  have c2 := T.out.one.c2
  have c3 := T.out.one.c3
  have c4 := T.out.one.c4
  have c5 := T.out.one.c5
  go_wp2_with fail
  refine (C.out _).mono ?_
  rintro e w2 ⟨rfl, hk⟩
  have T2 := Lib.hid (T.out.later hk)
  clear hk T c0 c1 c2 c3 c4 c5
  have c0 := T2.out.one.c0
  have c1 := T2.out.one.c1
  have c2 := T2.out.one.c2
  have c3 := T2.out.one.c3
  have c4 := T2.out.one.c4
  have c5 := T2.out.one.c5
  go_upto_region 6 with (fail)
  clear z1 z2 z3 z4 C
  go_region_held3 (fun w' => w'.cell? ⟨A, 0, none⟩ = some (.int .i64 m.a) ∧ w'.cell? ⟨A, 1, none⟩ = some (.int .i64 m.b) ∧ w'.cell? ⟨A, 2, none⟩ = some (.int .i64 m.c) ∧ w'.cell? ⟨A, 3, none⟩ = some (.int .i64 m.d)) (go_keep)
    (first
    | (go_at_call 34; with_reducible refine (N1.out _).mono ?_; rintro e w' ⟨rfl, rfl⟩)
    | (go_at_call 34; with_reducible refine (N2.out _).mono ?_; rintro e w' ⟨rfl, rfl⟩)
    | (go_at_call 34; with_reducible refine (N3.out _).mono ?_; rintro e w' ⟨rfl, rfl⟩)
    | (go_at_call 34; with_reducible refine (N4.out _).mono ?_; rintro e w' ⟨rfl, rfl⟩))
  all_goals
    have X := Lib.hid (show Duo w A R m Af.zero (w2.alloc (.cells #[.int .i64 r1, .int .i64 r2, .int .i64 r3, .int .i64 r4, .int .i64 0, .int .i64 0] 23)).drew from
      ⟨T2.out.one.alloc _, T2.out.res.alloc _, (T2.out.keeps.alloc _).drew, T2.out.low⟩)
    have Y := Lib.hid (show Six (w2.alloc (.cells #[.int .i64 r1, .int .i64 r2, .int .i64 r3, .int .i64 r4, .int .i64 0, .int .i64 0] 23)).drew w2.heap.size 23 ⟨r1, r2, r3, r4, 0, 0⟩ from Six.new w2 23 ⟨r1, r2, r3, r4, 0, 0⟩)
    have LW := Lib.hid (show w.heap.size ≤ w2.heap.size from T2.out.keeps.size)
    have HAS := Lib.hid (show A < w2.heap.size from T2.out.one.lt)
    have HRS := Lib.hid (show R < w2.heap.size from T2.out.res.lt)
    rename_i hH
    clear T2 N1 N2 N3 N4 v1 v2 hH c0 c1 c2 c3 c4 c5
    generalize (w2.alloc (.cells #[.int .i64 r1, .int .i64 r2, .int .i64 r3, .int .i64 r4, .int .i64 0, .int .i64 0] 23)).drew = w7 at *
    generalize w2.heap.size = G at *
    have d0 := X.out.one.c0
    have d1 := X.out.one.c1
    have d2 := X.out.one.c2
    have d3 := X.out.one.c3
    have d4 := X.out.one.c4
    have d5 := X.out.one.c5
    have c0 := Y.out.c0
    have c1 := Y.out.c1
    have c2 := Y.out.c2
    have c3 := Y.out.c3
    have c4 := Y.out.c4
    have c5 := Y.out.c5
    go_wp2_with fail
    refine (SL.out _).mono ?_
    rintro e w8 ⟨rfl, hk⟩
    have X2 := Lib.hid (X.out.later hk)
    have Y2 := Lib.hid (Y.out.later hk)
    clear hk X Y c0 c1 c2 c3 c4 c5 d0 d1 d2 d3 d4 d5
    have c0 := Y2.out.c0
    have c1 := Y2.out.c1
    have c2 := Y2.out.c2
    have c3 := Y2.out.c3
    have c4 := Y2.out.c4
    have c5 := Y2.out.c5
    have e4 := Y2.out.fr (i := 4)
    have e5 := Y2.out.fr (i := 5)
    go_wp2_with fail
    refine (NU.out _).mono ?_
    rintro e w8 ⟨rfl, rfl⟩
    go_wp2_with fail
    refine (NV.out _).mono ?_
    rintro e w8 ⟨rfl, rfl⟩
    clear NU NV v3 v4
    generalize Af.near (-u) = p at *
    generalize Af.near (-v) = q at *
    have X3 := Lib.hid (X2.out.s45 (G := G) (by have := HAS.out; omega) (by have := HRS.out; omega) LW.out p q)
    have Y3 := Lib.hid (Y2.out.s45 p q)
    go_upto_region 9 with (fail)
    clear X2 Y2 c0 c1 c2 c3 c4 c5 e4 e5
    generalize (w8.setCell ⟨G, 4, none⟩ (.int .i64 p)).setCell ⟨G, 5, none⟩ (.int .i64 q) = wa at *

    by_cases hP : Af.M.ok ⟨r1, r2, r3, r4, p, q⟩
    · have RN := Lib.hid (fun w => right_yes hP w)
      have HZ := Lib.hid (show Z = (⟨r1, r2, r3, r4, p, q⟩, 0) from HT.out.trans (if_pos hP))
      clear hP HT
      have c0 := Y3.out.c0
      have c1 := Y3.out.c1
      have c2 := Y3.out.c2
      have c3 := Y3.out.c3
      have c4 := Y3.out.c4
      have c5 := Y3.out.c5
      go_wp2_with fail
      refine (RN.out _).mono ?_
      rintro e wb ⟨rfl, hk⟩
      have X4 := Lib.hid (X3.out.later hk)
      have Y4 := Lib.hid (Y3.out.later hk)
      clear hk X3 Y3 c0 c1 c2 c3 c4 c5
      have c0 := Y4.out.c0
      have c1 := Y4.out.c1
      have c2 := Y4.out.c2
      have c3 := Y4.out.c3
      have c4 := Y4.out.c4
      have c5 := Y4.out.c5
      have k0 := X4.out.res.c0
      have k1 := X4.out.res.c1
      have k2 := X4.out.res.c2
      have k3 := X4.out.res.c3
      have k4 := X4.out.res.c4
      have k5 := X4.out.res.c5
      have f0 := X4.out.res.fr (i := 0)
      have f1 := X4.out.res.fr (i := 1)
      have f2 := X4.out.res.fr (i := 2)
      have f3 := X4.out.res.fr (i := 3)
      have f4 := X4.out.res.fr (i := 4)
      have f5 := X4.out.res.fr (i := 5)
      have X := Lib.hid (block_all X4.out.res ⟨r1, r2, r3, r4, p, q⟩)
      have Y := Lib.hid (X4.out.keeps.all X4.out.low ⟨r1, r2, r3, r4, p, q⟩)
      go_wp2_with fail
      refine bodyPost_ret (results_cell_row2 rfl _ _ R 23 #[.int .i64 r1, .int .i64 r2, .int .i64 r3, .int .i64 r4, .int .i64 p, .int .i64 q] (0, 0) _ rfl X.out Try.underlying23 rfl (by kernel_rfl)) rfl ?_
      exact ⟨by rw [HZ.out]; rfl, Y.out⟩
    · have RN := Lib.hid (fun w => right_no hP w)
      have HZ := Lib.hid (show Z = (Af.zero, 33) from HT.out.trans (if_neg hP))
      clear hP HT
      have c0 := Y3.out.c0
      have c1 := Y3.out.c1
      have c2 := Y3.out.c2
      have c3 := Y3.out.c3
      have c4 := Y3.out.c4
      have c5 := Y3.out.c5
      go_wp2_with fail
      refine (RN.out _).mono ?_
      rintro e wb ⟨rfl, hk⟩
      have X4 := Lib.hid (X3.out.later hk)
      clear hk X3 Y3 c0 c1 c2 c3 c4 c5
      have k0 := X4.out.res.c0
      have k1 := X4.out.res.c1
      have k2 := X4.out.res.c2
      have k3 := X4.out.res.c3
      have k4 := X4.out.res.c4
      have k5 := X4.out.res.c5
      have f0 := X4.out.res.fr (i := 0)
      have f1 := X4.out.res.fr (i := 1)
      have f2 := X4.out.res.fr (i := 2)
      have f3 := X4.out.res.fr (i := 3)
      have f4 := X4.out.res.fr (i := 4)
      have f5 := X4.out.res.fr (i := 5)
      have X := Lib.hid (block_all X4.out.res Af.zero)
      have Y := Lib.hid (X4.out.keeps.all X4.out.low Af.zero)
      go_wp2_with fail
      refine bodyPost_ret (results_cell_row2 rfl _ _ R 23 #[.int .i64 0, .int .i64 0, .int .i64 0, .int .i64 0, .int .i64 0, .int .i64 0] (0, 0) _ rfl X.out Try.underlying23 rfl (by kernel_rfl)) rfl ?_
      exact ⟨by rw [HZ.out]; rfl, Y.out⟩

theorem back_any (m : Af.M) (w : World) : Calls Try.prog 18 #[.agg #[.int .i64 m.a, .int .i64 m.b, .int .i64 m.c, .int .i64 m.d, .int .i64 m.e, .int .i64 m.f]] w (Told (Af.backE m).1 (Af.backE m).2 w) := by
  by_cases hm : m.ok
  · by_cases hz : m.area = 0
    · rw [show Af.backE m = (Af.zero, 33) by unfold Af.backE; simp [hz, hm]]
      exact back_flat m hm hz w
    · by_cases hb : m.back4.ok
      · exact back_good m hm hz hb w
      · have hk : ¬ m.back.ok := fun h => hb ⟨h.1, h.2.1, h.2.2.1, h.2.2.2.1, (show Af.Up 0 68719476736 by decide), (show Af.Up 0 68719476736 by decide)⟩
        rw [show Af.backE m = (Af.zero, 33) by unfold Af.backE; simp [hk, hm]]
        exact back_wild m hm hz hb w
  · rw [show Af.backE m = (Af.zero, 31) by unfold Af.backE; simp [hm]]
    exact back_bad m hm w
theorem times_any (m n : Af.M) (w : World) : Calls Try.prog 13 #[.agg #[.int .i64 m.a, .int .i64 m.b, .int .i64 m.c, .int .i64 m.d, .int .i64 m.e, .int .i64 m.f], .agg #[.int .i64 n.a, .int .i64 n.b, .int .i64 n.c, .int .i64 n.d, .int .i64 n.e, .int .i64 n.f]] w (Told (Af.timesE m n).1 (Af.timesE m n).2 w) := by
  by_cases hm : m.ok
  · by_cases hn : n.ok
    · exact times_good m n hm hn w
    · rw [show Af.timesE m n = (Af.zero, 31) by unfold Af.timesE; simp [hn]]
      exact times_bad2 m n hm hn w
  · rw [show Af.timesE m n = (Af.zero, 31) by unfold Af.timesE; simp [hm]]
    exact times_bad1 m n hm w
end Go.Proofs.Ytfcndldobjpbnaa
