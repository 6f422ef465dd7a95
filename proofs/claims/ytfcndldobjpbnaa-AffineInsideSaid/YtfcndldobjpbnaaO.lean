/- The document's back map: where its slopes are right. (printed by genL.py) -/
import Derived.Test.YtfcndldobjpbnaaL
namespace Go.Proofs.Ytfcndldobjpbnaa
open Go.RowKit
set_option linter.unusedVariables false

set_option maxRecDepth 100000 in
set_option maxHeartbeats 3200000 in
theorem docBack_good (m : Af.M) (hm : m.ok) (hz : m.area ≠ 0) (hb : m.back4.ok) (w : World) : Calls Try.prog 19 #[.agg #[.int .i64 m.a, .int .i64 m.b, .int .i64 m.c, .int .i64 m.d, .int .i64 m.e, .int .i64 m.f]] w (Told (Af.backE m).1 (Af.backE m).2 w) := by
  have T0 : Dua w w.heap.size (w.heap.size + 1) m Af.zero ((w.alloc (.cells #[.int .i64 m.a, .int .i64 m.b, .int .i64 m.c, .int .i64 m.d, .int .i64 m.e, .int .i64 m.f] 28)).alloc (.cells #[.int .i64 0, .int .i64 0, .int .i64 0, .int .i64 0, .int .i64 0, .int .i64 0] 28)) := Dua.new w m Af.zero
  have C := Lib.hid (fun w => docRight_yes hm w)
  have au := Af.area_up hm
  obtain ⟨⟨a0, a1⟩, b0, b1⟩ := area_parts hm
  have z1 := wrap_i64 (m.a * m.d) (by omega) (by omega)
  have z2 := wrap_i64 (m.b * m.c) (by omega) (by omega)
  have z3 : IntKind.i64.wrap (m.a * m.d - m.b * m.c) = m.area := wrap_i64 (m.a * m.d - m.b * m.c) (by omega) (by omega)
  have z4 : (m.area == 0) = false := by simpa using hz
  have HT := Lib.hid (show Af.backE m = if m.back.ok then (m.back, 0) else (Af.zero, 33) by unfold Af.backE; simp [hm, hz])
  have SH := hm.2.2.2.2
  obtain ⟨⟨ma0, ma1⟩, ⟨mb0, mb1⟩, ⟨mc0, mc1⟩, ⟨md0, md1⟩, -⟩ := hm
  have N1 := Lib.hid (fun w => docRound_any m.d m.area ⟨by omega, by omega⟩ au hz w)
  have N2 := Lib.hid (fun w => docRound_any (-m.b) m.area ⟨by omega, by omega⟩ au hz w)
  have N3 := Lib.hid (fun w => docRound_any (-m.c) m.area ⟨by omega, by omega⟩ au hz w)
  have N4 := Lib.hid (fun w => docRound_any m.a m.area ⟨by omega, by omega⟩ au hz w)
  have v1 := wrap_i64 (-m.b) (by omega) (by omega)
  have v2 := wrap_i64 (-m.c) (by omega) (by omega)
  have y1 := wrap_i64 (m.d * 4294967296) (by omega) (by omega)
  have y2 := wrap_i64 (-m.b * 4294967296) (by omega) (by omega)
  have y3 := wrap_i64 (-m.c * 4294967296) (by omega) (by omega)
  have y4 := wrap_i64 (m.a * 4294967296) (by omega) (by omega)
  have HB : m.back4 = ⟨Af.round (m.d * 4294967296) m.area, Af.round (-m.b * 4294967296) m.area, Af.round (-m.c * 4294967296) m.area, Af.round (m.a * 4294967296) m.area, 0, 0⟩ := rfl
  have RY := Lib.hid (fun w => docRight_yes hb w)
  have h1 := Af.up_mul hb.1 (show Af.Up m.e 68719476736 from SH.1) (by omega) (by omega)
  have h2 := Af.up_mul hb.2.1 (show Af.Up m.f 68719476736 from SH.2) (by omega) (by omega)
  have h3 := Af.up_mul hb.2.2.1 (show Af.Up m.e 68719476736 from SH.1) (by omega) (by omega)
  have h4 := Af.up_mul hb.2.2.2.1 (show Af.Up m.f 68719476736 from SH.2) (by omega) (by omega)
  have HK : m.back = ⟨m.back4.a, m.back4.b, m.back4.c, m.back4.d, Af.near (-(m.back4.a * m.e + m.back4.b * m.f)), Af.near (-(m.back4.c * m.e + m.back4.d * m.f))⟩ := rfl
  rw [HK] at HT
  clear HK
  generalize Af.backE m = Z at *
  clear hb
  rw [HB] at HT RY h1 h2 h3 h4
  simp only at HT RY h1 h2 h3 h4
  clear SH HB
  generalize m.area = D at *
  generalize Af.round (m.d * 4294967296) D = r1 at *
  generalize Af.round (-m.b * 4294967296) D = r2 at *
  generalize Af.round (-m.c * 4294967296) D = r3 at *
  generalize Af.round (m.a * 4294967296) D = r4 at *
  obtain ⟨h10, h11⟩ := h1
  obtain ⟨h20, h21⟩ := h2
  obtain ⟨h30, h31⟩ := h3
  obtain ⟨h40, h41⟩ := h4
  have NU := Lib.hid (fun w => docNear_any (-(r1 * m.e + r2 * m.f)) (by unfold Up2; omega) w)
  have NV := Lib.hid (fun w => docNear_any (-(r3 * m.e + r4 * m.f)) (by unfold Up2; omega) w)
  have k1 := wrap_i64 (r1 * m.e) (by omega) (by omega)
  have k2 := wrap_i64 (r2 * m.f) (by omega) (by omega)
  have k3 := wrap_i64 (r3 * m.e) (by omega) (by omega)
  have k4 := wrap_i64 (r4 * m.f) (by omega) (by omega)
  have k5 := wrap_i64 (r1 * m.e + r2 * m.f) (by omega) (by omega)
  have k6 := wrap_i64 (r3 * m.e + r4 * m.f) (by omega) (by omega)
  have k7 := wrap_i64 (-(r1 * m.e + r2 * m.f)) (by omega) (by omega)
  have k8 := wrap_i64 (-(r3 * m.e + r4 * m.f)) (by omega) (by omega)
  clear h10 h11 h20 h21 h30 h31 h40 h41 au hz a0 a1 b0 b1 ma0 ma1 mb0 mb1 mc0 mc1 md0 md1
  go_enter Try.func19, Try.ntmps19
  go_upto_region 1 with (fail)
  generalize (w.alloc (.cells #[.int .i64 m.a, .int .i64 m.b, .int .i64 m.c, .int .i64 m.d, .int .i64 m.e, .int .i64 m.f] 28)).alloc (.cells #[.int .i64 0, .int .i64 0, .int .i64 0, .int .i64 0, .int .i64 0, .int .i64 0] 28) = w1 at *
  obtain ⟨A, hA⟩ : ∃ A, A = w.heap.size := ⟨_, rfl⟩
  obtain ⟨R, hR⟩ : ∃ R, R = A + 1 := ⟨_, rfl⟩
  rw [← hA, ← hR] at T0
  rw [← hA, ← hR]
  clear hA hR
  have T := Lib.hid T0
  clear T0
  have c0 := T.out.one.c0
  have c1 := T.out.one.c1
  have c2 := T.out.one.c2
  have c3 := T.out.one.c3
  have c4 := T.out.one.c4
  have c5 := T.out.one.c5
  go_wp2_with fail
  refine (C.out _).mono ?_
  rintro e w2 ⟨rfl, hk⟩
  have T2 := Lib.hid (T.out.later hk)
  clear hk T c0 c1 c2 c3 c4 c5
  have c0 := T2.out.one.c0
  have c1 := T2.out.one.c1
  have c2 := T2.out.one.c2
  have c3 := T2.out.one.c3
  have c4 := T2.out.one.c4
  have c5 := T2.out.one.c5
  go_upto_region 7 with (fail)
  clear z1 z2 z3 z4 C
  go_region_held3 (fun w' => w'.cell? ⟨A, 0, none⟩ = some (.int .i64 m.a) ∧ w'.cell? ⟨A, 1, none⟩ = some (.int .i64 m.b) ∧ w'.cell? ⟨A, 2, none⟩ = some (.int .i64 m.c) ∧ w'.cell? ⟨A, 3, none⟩ = some (.int .i64 m.d)) (go_keep)
    (first
    | (go_at_call 35; with_reducible refine (N1.out _).mono ?_; rintro e w' ⟨rfl, rfl⟩)
    | (go_at_call 35; with_reducible refine (N2.out _).mono ?_; rintro e w' ⟨rfl, rfl⟩)
    | (go_at_call 35; with_reducible refine (N3.out _).mono ?_; rintro e w' ⟨rfl, rfl⟩)
    | (go_at_call 35; with_reducible refine (N4.out _).mono ?_; rintro e w' ⟨rfl, rfl⟩))
  all_goals
    have X := Lib.hid (show Dua w A R m Af.zero (w2.alloc (.cells #[.int .i64 r1, .int .i64 r2, .int .i64 r3, .int .i64 r4, .int .i64 0, .int .i64 0] 28)).drew from
      ⟨T2.out.one.alloc _, T2.out.res.alloc _, (T2.out.keeps.alloc _).drew, T2.out.low⟩)
    have Y := Lib.hid (show Six (w2.alloc (.cells #[.int .i64 r1, .int .i64 r2, .int .i64 r3, .int .i64 r4, .int .i64 0, .int .i64 0] 28)).drew w2.heap.size 28 ⟨r1, r2, r3, r4, 0, 0⟩ from Six.new w2 28 ⟨r1, r2, r3, r4, 0, 0⟩)
    have LW := Lib.hid (show w.heap.size ≤ w2.heap.size from T2.out.keeps.size)
    have HAS := Lib.hid (show A < w2.heap.size from T2.out.one.lt)
    have HRS := Lib.hid (show R < w2.heap.size from T2.out.res.lt)
    rename_i hH
    clear T2 N1 N2 N3 N4 v1 v2 y1 y2 y3 y4 hH c0 c1 c2 c3 c4 c5
    generalize (w2.alloc (.cells #[.int .i64 r1, .int .i64 r2, .int .i64 r3, .int .i64 r4, .int .i64 0, .int .i64 0] 28)).drew = w7 at *
    generalize w2.heap.size = G at *
    have d0 := X.out.one.c0
    have d1 := X.out.one.c1
    have d2 := X.out.one.c2
    have d3 := X.out.one.c3
    have d4 := X.out.one.c4
    have d5 := X.out.one.c5
    have c0 := Y.out.c0
    have c1 := Y.out.c1
    have c2 := Y.out.c2
    have c3 := Y.out.c3
    have c4 := Y.out.c4
    have c5 := Y.out.c5
    go_wp2_with fail
    refine (RY.out _).mono ?_
    rintro e w8 ⟨rfl, hk⟩
    have X2 := Lib.hid (X.out.later hk)
    have Y2 := Lib.hid (Y.out.later hk)
    clear hk X Y c0 c1 c2 c3 c4 c5 d0 d1 d2 d3 d4 d5
    have c0 := Y2.out.c0
    have c1 := Y2.out.c1
    have c2 := Y2.out.c2
    have c3 := Y2.out.c3
    have c4 := Y2.out.c4
    have c5 := Y2.out.c5
    have d0 := X2.out.one.c0
    have d1 := X2.out.one.c1
    have d2 := X2.out.one.c2
    have d3 := X2.out.one.c3
    have d4 := X2.out.one.c4
    have d5 := X2.out.one.c5
    have e4 := Y2.out.fr (i := 4)
    go_wp2_with fail
    refine (NU.out _).mono ?_
    rintro e w8 ⟨rfl, rfl⟩
    go_upto_region 11 with (fail)
    generalize Af.near (-(r1 * m.e + r2 * m.f)) = p at *
    have X3 := Lib.hid (X2.out.set1 (G := G) (by have := HAS.out; omega) (by have := HRS.out; omega) LW.out 4 (.int .i64 p))
    have Y3 := Lib.hid (Y2.out.s4 p)
    clear NU X2 Y2 c0 c1 c2 c3 c4 c5 d0 d1 d2 d3 d4 d5 e4
    generalize w8.setCell ⟨G, 4, none⟩ (.int .i64 p) = w9 at *
    have c0 := Y3.out.c0
    have c1 := Y3.out.c1
    have c2 := Y3.out.c2
    have c3 := Y3.out.c3
    have c4 := Y3.out.c4
    have c5 := Y3.out.c5
    have d0 := X3.out.one.c0
    have d1 := X3.out.one.c1
    have d2 := X3.out.one.c2
    have d3 := X3.out.one.c3
    have d4 := X3.out.one.c4
    have d5 := X3.out.one.c5
    have e5 := Y3.out.fr (i := 5)
    go_wp2_with fail
    refine (NV.out _).mono ?_
    rintro e w9 ⟨rfl, rfl⟩
    go_upto_region 12 with (fail)
    generalize Af.near (-(r3 * m.e + r4 * m.f)) = q at *
    have X5 := Lib.hid (X3.out.set1 (G := G) (by have := HAS.out; omega) (by have := HRS.out; omega) LW.out 5 (.int .i64 q))
    have Y5 := Lib.hid (Y3.out.s5 q)
    clear NV X3 Y3 c0 c1 c2 c3 c4 c5 d0 d1 d2 d3 d4 d5 e5
    generalize w9.setCell ⟨G, 5, none⟩ (.int .i64 q) = wa at *
    have Y3 := Lib.hid (show Six wa G 28 ⟨r1, r2, r3, r4, p, q⟩ from Y5.out)
    have X3 := Lib.hid X5.out
    clear X5 Y5
    by_cases hP : Af.M.ok ⟨r1, r2, r3, r4, p, q⟩
    · have RN := Lib.hid (fun w => docRight_yes hP w)
      have HZ := Lib.hid (show Z = (⟨r1, r2, r3, r4, p, q⟩, 0) from HT.out.trans (if_pos hP))
      clear hP HT
      have c0 := Y3.out.c0
      have c1 := Y3.out.c1
      have c2 := Y3.out.c2
      have c3 := Y3.out.c3
      have c4 := Y3.out.c4
      have c5 := Y3.out.c5
      go_wp2_with fail
      refine (RN.out _).mono ?_
      rintro e wb ⟨rfl, hk⟩
      have X4 := Lib.hid (X3.out.later hk)
      have Y4 := Lib.hid (Y3.out.later hk)
      clear hk X3 Y3 c0 c1 c2 c3 c4 c5
      have c0 := Y4.out.c0
      have c1 := Y4.out.c1
      have c2 := Y4.out.c2
      have c3 := Y4.out.c3
      have c4 := Y4.out.c4
      have c5 := Y4.out.c5
      have k0 := X4.out.res.c0
      have k1 := X4.out.res.c1
      have k2 := X4.out.res.c2
      have k3 := X4.out.res.c3
      have k4 := X4.out.res.c4
      have k5 := X4.out.res.c5
      have f0 := X4.out.res.fr (i := 0)
      have f1 := X4.out.res.fr (i := 1)
      have f2 := X4.out.res.fr (i := 2)
      have f3 := X4.out.res.fr (i := 3)
      have f4 := X4.out.res.fr (i := 4)
      have f5 := X4.out.res.fr (i := 5)
      have X := Lib.hid (block_all X4.out.res ⟨r1, r2, r3, r4, p, q⟩)
      have Y := Lib.hid (X4.out.keeps.all X4.out.low ⟨r1, r2, r3, r4, p, q⟩)
      go_wp2_with fail
      refine bodyPost_ret (results_cell_row2 rfl _ _ R 28 #[.int .i64 r1, .int .i64 r2, .int .i64 r3, .int .i64 r4, .int .i64 p, .int .i64 q] (0, 0) _ rfl X.out Try.underlying28 rfl (by kernel_rfl)) rfl ?_
      exact ⟨by rw [HZ.out]; rfl, Y.out⟩
    · have RN := Lib.hid (fun w => docRight_no hP w)
      have HZ := Lib.hid (show Z = (Af.zero, 33) from HT.out.trans (if_neg hP))
      clear hP HT
      have c0 := Y3.out.c0
      have c1 := Y3.out.c1
      have c2 := Y3.out.c2
      have c3 := Y3.out.c3
      have c4 := Y3.out.c4
      have c5 := Y3.out.c5
      go_wp2_with fail
      refine (RN.out _).mono ?_
      rintro e wb ⟨rfl, hk⟩
      have X4 := Lib.hid (X3.out.later hk)
      clear hk X3 Y3 c0 c1 c2 c3 c4 c5
      have k0 := X4.out.res.c0
      have k1 := X4.out.res.c1
      have k2 := X4.out.res.c2
      have k3 := X4.out.res.c3
      have k4 := X4.out.res.c4
      have k5 := X4.out.res.c5
      have f0 := X4.out.res.fr (i := 0)
      have f1 := X4.out.res.fr (i := 1)
      have f2 := X4.out.res.fr (i := 2)
      have f3 := X4.out.res.fr (i := 3)
      have f4 := X4.out.res.fr (i := 4)
      have f5 := X4.out.res.fr (i := 5)
      have X := Lib.hid (block_all X4.out.res Af.zero)
      have Y := Lib.hid (X4.out.keeps.all X4.out.low Af.zero)
      go_wp2_with fail
      refine bodyPost_ret (results_cell_row2 rfl _ _ R 28 #[.int .i64 0, .int .i64 0, .int .i64 0, .int .i64 0, .int .i64 0, .int .i64 0] (0, 0) _ rfl X.out Try.underlying28 rfl (by kernel_rfl)) rfl ?_
      exact ⟨by rw [HZ.out]; rfl, Y.out⟩

theorem docBack_any (m : Af.M) (w : World) : Calls Try.prog 19 #[.agg #[.int .i64 m.a, .int .i64 m.b, .int .i64 m.c, .int .i64 m.d, .int .i64 m.e, .int .i64 m.f]] w (Told (Af.backE m).1 (Af.backE m).2 w) := by
  by_cases hm : m.ok
  · by_cases hz : m.area = 0
    · rw [show Af.backE m = (Af.zero, 33) by unfold Af.backE; simp [hz, hm]]
      exact docBack_flat m hm hz w
    · by_cases hb : m.back4.ok
      · exact docBack_good m hm hz hb w
      · have hk : ¬ m.back.ok := fun h => hb ⟨h.1, h.2.1, h.2.2.1, h.2.2.2.1, (show Af.Up 0 68719476736 by decide), (show Af.Up 0 68719476736 by decide)⟩
        rw [show Af.backE m = (Af.zero, 33) by unfold Af.backE; simp [hk, hm]]
        exact docBack_wild m hm hz hb w
  · rw [show Af.backE m = (Af.zero, 31) by unfold Af.backE; simp [hm]]
    exact docBack_bad m hm w
end Go.Proofs.Ytfcndldobjpbnaa
