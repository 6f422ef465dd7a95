/- The document's back map. (printed by genL.py) -/
import Derived.Test.YtfcndldobjpbnaaJ
import Derived.Test.YtfcndldobjpbnaaH
namespace Go.Proofs.Ytfcndldobjpbnaa
open Go.RowKit
set_option linter.unusedVariables false

structure Dua (w : World) (A R : Nat) (m r : Af.M) (w' : World) : Prop where
  one : Six w' A 28 m
  res : Six w' R 28 r
  keeps : Keeps none' w w'
  low : w.heap.size ≤ R
theorem Dua.later {w w1 w2 : World} {A R : Nat} {m r : Af.M} (h : Dua w A R m r w1) (k : Keeps none' w1 w2) : Dua w A R m r w2 :=
  ⟨h.one.later k, h.res.later k, h.keeps.next k, h.low⟩
theorem Dua.new (w : World) (m r : Af.M) : Dua w w.heap.size (w.heap.size + 1) m r ((w.alloc (.cells #[.int .i64 m.a, .int .i64 m.b, .int .i64 m.c, .int .i64 m.d, .int .i64 m.e, .int .i64 m.f] 28)).alloc (.cells #[.int .i64 r.a, .int .i64 r.b, .int .i64 r.c, .int .i64 r.d, .int .i64 r.e, .int .i64 r.f] 28)) := by
  refine ⟨(Six.new _ _ _).alloc _, ?_, ((Keeps.refl _ _).alloc _).alloc _, by omega⟩
  have := Six.new (w.alloc (.cells #[.int .i64 m.a, .int .i64 m.b, .int .i64 m.c, .int .i64 m.d, .int .i64 m.e, .int .i64 m.f] 28)) 28 r
  simpa using this
theorem Dua.set1 {w w1 : World} {A R G : Nat} {m r : Af.M} (h : Dua w A R m r w1) (hA : A ≠ G) (hR : R ≠ G) (hw : w.heap.size ≤ G) (i : Nat) (v : Value) :
    Dua w A R m r (w1.setCell ⟨G, i, none⟩ v) :=
  ⟨h.one.set hA _, h.res.set hR _, h.keeps.setCell (fun e => by simp only at e; omega) _, h.low⟩
set_option maxHeartbeats 800000 in
theorem docBack_bad (m : Af.M) (hm : ¬ m.ok) (w : World) : Calls Try.prog 19 #[.agg #[.int .i64 m.a, .int .i64 m.b, .int .i64 m.c, .int .i64 m.d, .int .i64 m.e, .int .i64 m.f]] w (Told Af.zero 31 w) := by
  have T0 : Dua w w.heap.size (w.heap.size + 1) m Af.zero ((w.alloc (.cells #[.int .i64 m.a, .int .i64 m.b, .int .i64 m.c, .int .i64 m.d, .int .i64 m.e, .int .i64 m.f] 28)).alloc (.cells #[.int .i64 0, .int .i64 0, .int .i64 0, .int .i64 0, .int .i64 0, .int .i64 0] 28)) := Dua.new w m Af.zero
  have C := Lib.hid (fun w => docRight_no hm w)
  clear hm
  go_enter Try.func19, Try.ntmps19
  go_upto_region 1 with (fail)
  generalize (w.alloc (.cells #[.int .i64 m.a, .int .i64 m.b, .int .i64 m.c, .int .i64 m.d, .int .i64 m.e, .int .i64 m.f] 28)).alloc (.cells #[.int .i64 0, .int .i64 0, .int .i64 0, .int .i64 0, .int .i64 0, .int .i64 0] 28) = w1 at *
  obtain ⟨A, hA⟩ : ∃ A, A = w.heap.size := ⟨_, rfl⟩
  obtain ⟨R, hR⟩ : ∃ R, R = A + 1 := ⟨_, rfl⟩
  rw [← hA, ← hR] at T0
  rw [← hA, ← hR]
  clear hA hR
  have T := Lib.hid T0
  clear T0
  have c0 := T.out.one.c0
  have c1 := T.out.one.c1
  have c2 := T.out.one.c2
  have c3 := T.out.one.c3
  have c4 := T.out.one.c4
  have c5 := T.out.one.c5
  go_wp2_with fail
  refine (C.out _).mono ?_
  rintro e w2 ⟨rfl, hk⟩
  have T2 := Lib.hid (T.out.later hk)
  clear hk T c0 c1 c2 c3 c4 c5
  have k0 := T2.out.res.c0
  have k1 := T2.out.res.c1
  have k2 := T2.out.res.c2
  have k3 := T2.out.res.c3
  have k4 := T2.out.res.c4
  have k5 := T2.out.res.c5
  have f0 := T2.out.res.fr (i := 0)
  have f1 := T2.out.res.fr (i := 1)
  have f2 := T2.out.res.fr (i := 2)
  have f3 := T2.out.res.fr (i := 3)
  have f4 := T2.out.res.fr (i := 4)
  have f5 := T2.out.res.fr (i := 5)
  have X := Lib.hid (block_all T2.out.res Af.zero)
  have Y := Lib.hid (T2.out.keeps.all T2.out.low Af.zero)
  go_wp2_with fail
  refine bodyPost_ret (results_cell_row2 rfl _ _ R 28 #[.int .i64 0, .int .i64 0, .int .i64 0, .int .i64 0, .int .i64 0, .int .i64 0] (0, 0) _ rfl X.out Try.underlying28 rfl (by kernel_rfl)) rfl ?_
  exact ⟨rfl, Y.out⟩

set_option maxHeartbeats 800000 in
theorem docBack_flat (m : Af.M) (hm : m.ok) (hz : m.area = 0) (w : World) : Calls Try.prog 19 #[.agg #[.int .i64 m.a, .int .i64 m.b, .int .i64 m.c, .int .i64 m.d, .int .i64 m.e, .int .i64 m.f]] w (Told Af.zero 33 w) := by
  have T0 : Dua w w.heap.size (w.heap.size + 1) m Af.zero ((w.alloc (.cells #[.int .i64 m.a, .int .i64 m.b, .int .i64 m.c, .int .i64 m.d, .int .i64 m.e, .int .i64 m.f] 28)).alloc (.cells #[.int .i64 0, .int .i64 0, .int .i64 0, .int .i64 0, .int .i64 0, .int .i64 0] 28)) := Dua.new w m Af.zero
  have C := Lib.hid (fun w => docRight_yes hm w)
  obtain ⟨⟨a0, a1⟩, b0, b1⟩ := area_parts hm
  have z1 := wrap_i64 (m.a * m.d) (by omega) (by omega)
  have z2 := wrap_i64 (m.b * m.c) (by omega) (by omega)
  have z3 : IntKind.i64.wrap (m.a * m.d - m.b * m.c) = 0 := by rw [show m.a * m.d - m.b * m.c = 0 from hz]; rfl
  clear hm hz a0 a1 b0 b1
  go_enter Try.func19, Try.ntmps19
  go_upto_region 1 with (fail)
  generalize (w.alloc (.cells #[.int .i64 m.a, .int .i64 m.b, .int .i64 m.c, .int .i64 m.d, .int .i64 m.e, .int .i64 m.f] 28)).alloc (.cells #[.int .i64 0, .int .i64 0, .int .i64 0, .int .i64 0, .int .i64 0, .int .i64 0] 28) = w1 at *
  obtain ⟨A, hA⟩ : ∃ A, A = w.heap.size := ⟨_, rfl⟩
  obtain ⟨R, hR⟩ : ∃ R, R = A + 1 := ⟨_, rfl⟩
  rw [← hA, ← hR] at T0
  rw [← hA, ← hR]
  clear hA hR
  have T := Lib.hid T0
  clear T0
  have c0 := T.out.one.c0
  have c1 := T.out.one.c1
  have c2 := T.out.one.c2
  have c3 := T.out.one.c3
  have c4 := T.out.one.c4
  have c5 := T.out.one.c5
  go_wp2_with fail
  refine (C.out _).mono ?_
  rintro e w2 ⟨rfl, hk⟩
  have T2 := Lib.hid (T.out.later hk)
  clear hk T c0 c1 c2 c3 c4 c5
  have c0 := T2.out.one.c0
  have c1 := T2.out.one.c1
  have c2 := T2.out.one.c2
  have c3 := T2.out.one.c3
  have c4 := T2.out.one.c4
  have c5 := T2.out.one.c5
  have k0 := T2.out.res.c0
  have k1 := T2.out.res.c1
  have k2 := T2.out.res.c2
  have k3 := T2.out.res.c3
  have k4 := T2.out.res.c4
  have k5 := T2.out.res.c5
  have f0 := T2.out.res.fr (i := 0)
  have f1 := T2.out.res.fr (i := 1)
  have f2 := T2.out.res.fr (i := 2)
  have f3 := T2.out.res.fr (i := 3)
  have f4 := T2.out.res.fr (i := 4)
  have f5 := T2.out.res.fr (i := 5)
  have X := Lib.hid (block_all T2.out.res Af.zero)
  have Y := Lib.hid (T2.out.keeps.all T2.out.low Af.zero)
  go_wp2_with fail
  refine bodyPost_ret (results_cell_row2 rfl _ _ R 28 #[.int .i64 0, .int .i64 0, .int .i64 0, .int .i64 0, .int .i64 0, .int .i64 0] (0, 0) _ rfl X.out Try.underlying28 rfl (by kernel_rfl)) rfl ?_
  exact ⟨rfl, Y.out⟩

set_option maxRecDepth 100000 in
set_option maxHeartbeats 3200000 in
theorem docBack_wild (m : Af.M) (hm : m.ok) (hz : m.area ≠ 0) (hb : ¬ m.back4.ok) (w : World) : Calls Try.prog 19 #[.agg #[.int .i64 m.a, .int .i64 m.b, .int .i64 m.c, .int .i64 m.d, .int .i64 m.e, .int .i64 m.f]] w (Told Af.zero 33 w) := by
  have T0 : Dua w w.heap.size (w.heap.size + 1) m Af.zero ((w.alloc (.cells #[.int .i64 m.a, .int .i64 m.b, .int .i64 m.c, .int .i64 m.d, .int .i64 m.e, .int .i64 m.f] 28)).alloc (.cells #[.int .i64 0, .int .i64 0, .int .i64 0, .int .i64 0, .int .i64 0, .int .i64 0] 28)) := Dua.new w m Af.zero
  have C := Lib.hid (fun w => docRight_yes hm w)
  have au := Af.area_up hm
  obtain ⟨⟨a0, a1⟩, b0, b1⟩ := area_parts hm
  have z1 := wrap_i64 (m.a * m.d) (by omega) (by omega)
  have z2 := wrap_i64 (m.b * m.c) (by omega) (by omega)
  have z3 : IntKind.i64.wrap (m.a * m.d - m.b * m.c) = m.area := wrap_i64 (m.a * m.d - m.b * m.c) (by omega) (by omega)
  have z4 : (m.area == 0) = false := by simpa using hz
  obtain ⟨⟨ma0, ma1⟩, ⟨mb0, mb1⟩, ⟨mc0, mc1⟩, ⟨md0, md1⟩, -⟩ := hm
  have N1 := Lib.hid (fun w => docRound_any m.d m.area ⟨by omega, by omega⟩ au hz w)
  have N2 := Lib.hid (fun w => docRound_any (-m.b) m.area ⟨by omega, by omega⟩ au hz w)
  have N3 := Lib.hid (fun w => docRound_any (-m.c) m.area ⟨by omega, by omega⟩ au hz w)
  have N4 := Lib.hid (fun w => docRound_any m.a m.area ⟨by omega, by omega⟩ au hz w)
  have v1 := wrap_i64 (-m.b) (by omega) (by omega)
  have v2 := wrap_i64 (-m.c) (by omega) (by omega)
  have y1 := wrap_i64 (m.d * 4294967296) (by omega) (by omega)
  have y2 := wrap_i64 (-m.b * 4294967296) (by omega) (by omega)
  have y3 := wrap_i64 (-m.c * 4294967296) (by omega) (by omega)
  have y4 := wrap_i64 (m.a * 4294967296) (by omega) (by omega)
  have HB : m.back4 = ⟨Af.round (m.d * 4294967296) m.area, Af.round (-m.b * 4294967296) m.area, Af.round (-m.c * 4294967296) m.area, Af.round (m.a * 4294967296) m.area, 0, 0⟩ := rfl
  have HW := Lib.hid hb
  clear hb
  rw [HB] at HW
  clear HB
  generalize m.area = D at *
  generalize Af.round (m.d * 4294967296) D = r1 at *
  generalize Af.round (-m.b * 4294967296) D = r2 at *
  generalize Af.round (-m.c * 4294967296) D = r3 at *
  generalize Af.round (m.a * 4294967296) D = r4 at *
  clear au hz a0 a1 b0 b1 ma0 ma1 mb0 mb1 mc0 mc1 md0 md1
  go_enter Try.func19, Try.ntmps19
  go_upto_region 1 with (fail)
  generalize (w.alloc (.cells #[.int .i64 m.a, .int .i64 m.b, .int .i64 m.c, .int .i64 m.d, .int .i64 m.e, .int .i64 m.f] 28)).alloc (.cells #[.int .i64 0, .int .i64 0, .int .i64 0, .int .i64 0, .int .i64 0, .int .i64 0] 28) = w1 at *
  obtain ⟨A, hA⟩ : ∃ A, A = w.heap.size := ⟨_, rfl⟩
  obtain ⟨R, hR⟩ : ∃ R, R = A + 1 := ⟨_, rfl⟩
  rw [← hA, ← hR] at T0
  rw [← hA, ← hR]
  clear hA hR
  have T := Lib.hid T0
  clear T0
  have c0 := T.out.one.c0
  have c1 := T.out.one.c1
  have c2 := T.out.one.c2
  have c3 := T.out.one.c3
  have c4 := T.out.one.c4
  have c5 := T.out.one.c5
  go_wp2_with fail
  refine (C.out _).mono ?_
  rintro e w2 ⟨rfl, hk⟩
  have T2 := Lib.hid (T.out.later hk)
  clear hk T c0 c1 c2 c3 c4 c5
  have c0 := T2.out.one.c0
  have c1 := T2.out.one.c1
  have c2 := T2.out.one.c2
  have c3 := T2.out.one.c3
  have c4 := T2.out.one.c4
  have c5 := T2.out.one.c5
  go_upto_region 7 with (fail)
  clear z1 z2 z3 z4 C
  go_region_held3 (fun w' => w'.cell? ⟨A, 0, none⟩ = some (.int .i64 m.a) ∧ w'.cell? ⟨A, 1, none⟩ = some (.int .i64 m.b) ∧ w'.cell? ⟨A, 2, none⟩ = some (.int .i64 m.c) ∧ w'.cell? ⟨A, 3, none⟩ = some (.int .i64 m.d)) (go_keep)
    (first
    | (go_at_call 35; with_reducible refine (N1.out _).mono ?_; rintro e w' ⟨rfl, rfl⟩)
    | (go_at_call 35; with_reducible refine (N2.out _).mono ?_; rintro e w' ⟨rfl, rfl⟩)
    | (go_at_call 35; with_reducible refine (N3.out _).mono ?_; rintro e w' ⟨rfl, rfl⟩)
    | (go_at_call 35; with_reducible refine (N4.out _).mono ?_; rintro e w' ⟨rfl, rfl⟩))
  all_goals
    have X := Lib.hid (show Dua w A R m Af.zero (w2.alloc (.cells #[.int .i64 r1, .int .i64 r2, .int .i64 r3, .int .i64 r4, .int .i64 0, .int .i64 0] 28)).drew from
      ⟨T2.out.one.alloc _, T2.out.res.alloc _, (T2.out.keeps.alloc _).drew, T2.out.low⟩)
    have Y := Lib.hid (show Six (w2.alloc (.cells #[.int .i64 r1, .int .i64 r2, .int .i64 r3, .int .i64 r4, .int .i64 0, .int .i64 0] 28)).drew w2.heap.size 28 ⟨r1, r2, r3, r4, 0, 0⟩ from Six.new w2 28 ⟨r1, r2, r3, r4, 0, 0⟩)
    have LW := Lib.hid (show w.heap.size ≤ w2.heap.size from T2.out.keeps.size)
    have HAS := Lib.hid (show A < w2.heap.size from T2.out.one.lt)
    have HRS := Lib.hid (show R < w2.heap.size from T2.out.res.lt)
    rename_i hH
    clear T2 N1 N2 N3 N4 v1 v2 y1 y2 y3 y4 hH c0 c1 c2 c3 c4 c5
    generalize (w2.alloc (.cells #[.int .i64 r1, .int .i64 r2, .int .i64 r3, .int .i64 r4, .int .i64 0, .int .i64 0] 28)).drew = w7 at *
    generalize w2.heap.size = G at *
    have d0 := X.out.one.c0
    have d1 := X.out.one.c1
    have d2 := X.out.one.c2
    have d3 := X.out.one.c3
    have d4 := X.out.one.c4
    have d5 := X.out.one.c5
    have c0 := Y.out.c0
    have c1 := Y.out.c1
    have c2 := Y.out.c2
    have c3 := Y.out.c3
    have c4 := Y.out.c4
    have c5 := Y.out.c5
    go_wp2_with fail
    have RN := Lib.hid (fun w => docRight_no HW.out w)
    refine (RN.out _).mono ?_
    rintro e wb ⟨rfl, hk⟩
    have X4 := Lib.hid (X.out.later hk)
    clear hk X Y HW c0 c1 c2 c3 c4 c5 d0 d1 d2 d3 d4 d5
    have k0 := X4.out.res.c0
    have k1 := X4.out.res.c1
    have k2 := X4.out.res.c2
    have k3 := X4.out.res.c3
    have k4 := X4.out.res.c4
    have k5 := X4.out.res.c5
    have f0 := X4.out.res.fr (i := 0)
    have f1 := X4.out.res.fr (i := 1)
    have f2 := X4.out.res.fr (i := 2)
    have f3 := X4.out.res.fr (i := 3)
    have f4 := X4.out.res.fr (i := 4)
    have f5 := X4.out.res.fr (i := 5)
    have X := Lib.hid (block_all X4.out.res Af.zero)
    have Y := Lib.hid (X4.out.keeps.all X4.out.low Af.zero)
    go_wp2_with fail
    refine bodyPost_ret (results_cell_row2 rfl _ _ R 28 #[.int .i64 0, .int .i64 0, .int .i64 0, .int .i64 0, .int .i64 0, .int .i64 0] (0, 0) _ rfl X.out Try.underlying28 rfl (by kernel_rfl)) rfl ?_
    exact ⟨rfl, Y.out⟩
end Go.Proofs.Ytfcndldobjpbnaa
