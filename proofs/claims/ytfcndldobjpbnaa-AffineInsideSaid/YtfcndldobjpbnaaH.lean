/- The back map. (printed by genH.py) -/
import Derived.Test.YtfcndldobjpbnaaG
namespace Go.Proofs.Ytfcndldobjpbnaa
open Go.RowKit
set_option linter.unusedVariables false

theorem Six.s45 {w : World} {B ty : Nat} {m : Af.M} (h : Six w B ty m) (p q : Int) : Six ((w.setCell ⟨B, 4, none⟩ (.int .i64 p)).setCell ⟨B, 5, none⟩ (.int .i64 q)) B ty ⟨m.a, m.b, m.c, m.d, p, q⟩ := by
  unfold Six at *
  simp [World.setCell, Array.getElem?_modify, h]
structure Duo (w : World) (A R : Nat) (m r : Af.M) (w' : World) : Prop where
  one : Six w' A 23 m
  res : Six w' R 23 r
  keeps : Keeps none' w w'
  low : w.heap.size ≤ R
theorem Duo.later {w w1 w2 : World} {A R : Nat} {m r : Af.M} (h : Duo w A R m r w1) (k : Keeps none' w1 w2) : Duo w A R m r w2 :=
  ⟨h.one.later k, h.res.later k, h.keeps.next k, h.low⟩
theorem Duo.new (w : World) (m r : Af.M) : Duo w w.heap.size (w.heap.size + 1) m r ((w.alloc (.cells #[.int .i64 m.a, .int .i64 m.b, .int .i64 m.c, .int .i64 m.d, .int .i64 m.e, .int .i64 m.f] 23)).alloc (.cells #[.int .i64 r.a, .int .i64 r.b, .int .i64 r.c, .int .i64 r.d, .int .i64 r.e, .int .i64 r.f] 23)) := by
  refine ⟨(Six.new _ _ _).alloc _, ?_, ((Keeps.refl _ _).alloc _).alloc _, by omega⟩
  have := Six.new (w.alloc (.cells #[.int .i64 m.a, .int .i64 m.b, .int .i64 m.c, .int .i64 m.d, .int .i64 m.e, .int .i64 m.f] 23)) 23 r
  simpa using this
theorem Duo.s45 {w w1 : World} {A R G : Nat} {m r : Af.M} (h : Duo w A R m r w1) (hA : A ≠ G) (hR : R ≠ G) (hw : w.heap.size ≤ G) (p q : Int) :
    Duo w A R m r ((w1.setCell ⟨G, 4, none⟩ (.int .i64 p)).setCell ⟨G, 5, none⟩ (.int .i64 q)) :=
  ⟨(h.one.set hA _).set hA _, (h.res.set hR _).set hR _, (h.keeps.setCell (fun e => by simp only at e; omega) _).setCell (fun e => by simp only at e; omega) _, h.low⟩
set_option maxHeartbeats 800000 in
theorem back_bad (m : Af.M) (hm : ¬ m.ok) (w : World) : Calls Try.prog 18 #[.agg #[.int .i64 m.a, .int .i64 m.b, .int .i64 m.c, .int .i64 m.d, .int .i64 m.e, .int .i64 m.f]] w (Told Af.zero 31 w) := by
  have T0 : Duo w w.heap.size (w.heap.size + 1) m Af.zero ((w.alloc (.cells #[.int .i64 m.a, .int .i64 m.b, .int .i64 m.c, .int .i64 m.d, .int .i64 m.e, .int .i64 m.f] 23)).alloc (.cells #[.int .i64 0, .int .i64 0, .int .i64 0, .int .i64 0, .int .i64 0, .int .i64 0] 23)) := Duo.new w m Af.zero
  have C := Lib.hid (fun w => right_no hm w)
  clear hm
  go_enter Try.func18, Try.ntmps18
  go_upto_region 1 with (fail)
  generalize (w.alloc (.cells #[.int .i64 m.a, .int .i64 m.b, .int .i64 m.c, .int .i64 m.d, .int .i64 m.e, .int .i64 m.f] 23)).alloc (.cells #[.int .i64 0, .int .i64 0, .int .i64 0, .int .i64 0, .int .i64 0, .int .i64 0] 23) = w1 at *
  obtain ⟨A, hA⟩ : ∃ A, A = w.heap.size := ⟨_, rfl⟩
  obtain ⟨R, hR⟩ : ∃ R, R = A + 1 := ⟨_, rfl⟩
  rw [← hA, ← hR] at T0
  rw [← hA, ← hR]
  clear hA hR
  have T := Lib.hid T0
  clear T0
  have c0 := T.out.one.c0
  have c1 := T.out.one.c1
  have c2 := T.out.one.c2
  have c3 := T.out.one.c3
  have c4 := T.out.one.c4
  have c5 := T.out.one.c5
  go_wp2_with fail
  refine (C.out _).mono ?_
  rintro e w2 ⟨rfl, hk⟩
  have T2 := Lib.hid (T.out.later hk)
  clear hk T c0 c1 c2 c3 c4 c5
  have k0 := T2.out.res.c0
  have k1 := T2.out.res.c1
  have k2 := T2.out.res.c2
  have k3 := T2.out.res.c3
  have k4 := T2.out.res.c4
  have k5 := T2.out.res.c5
  have f0 := T2.out.res.fr (i := 0)
  have f1 := T2.out.res.fr (i := 1)
  have f2 := T2.out.res.fr (i := 2)
  have f3 := T2.out.res.fr (i := 3)
  have f4 := T2.out.res.fr (i := 4)
  have f5 := T2.out.res.fr (i := 5)
  have X := Lib.hid (block_all T2.out.res Af.zero)
  have Y := Lib.hid (T2.out.keeps.all T2.out.low Af.zero)
  go_wp2_with fail
  refine bodyPost_ret (results_cell_row2 rfl _ _ R 23 #[.int .i64 0, .int .i64 0, .int .i64 0, .int .i64 0, .int .i64 0, .int .i64 0] (0, 0) _ rfl X.out Try.underlying23 rfl (by kernel_rfl)) rfl ?_
  exact ⟨rfl, Y.out⟩

/-- What its numbers are. -/
theorem area_parts {m : Af.M} (hm : m.ok) : (-281474976710656 ≤ m.a * m.d ∧ m.a * m.d ≤ 281474976710656) ∧ (-281474976710656 ≤ m.b * m.c ∧ m.b * m.c ≤ 281474976710656) := by
  obtain ⟨ha, hb, hc, hd, -⟩ := hm
  have h1 := Af.up_mul ha hd (by omega) (by omega)
  have h2 := Af.up_mul hb hc (by omega) (by omega)
  unfold Af.Up at *
  omega
set_option maxHeartbeats 800000 in
theorem back_flat (m : Af.M) (hm : m.ok) (hz : m.area = 0) (w : World) : Calls Try.prog 18 #[.agg #[.int .i64 m.a, .int .i64 m.b, .int .i64 m.c, .int .i64 m.d, .int .i64 m.e, .int .i64 m.f]] w (Told Af.zero 33 w) := by
  have T0 : Duo w w.heap.size (w.heap.size + 1) m Af.zero ((w.alloc (.cells #[.int .i64 m.a, .int .i64 m.b, .int .i64 m.c, .int .i64 m.d, .int .i64 m.e, .int .i64 m.f] 23)).alloc (.cells #[.int .i64 0, .int .i64 0, .int .i64 0, .int .i64 0, .int .i64 0, .int .i64 0] 23)) := Duo.new w m Af.zero
  have C := Lib.hid (fun w => right_yes hm w)
  obtain ⟨⟨a0, a1⟩, b0, b1⟩ := area_parts hm
  have z1 := wrap_i64 (m.a * m.d) (by omega) (by omega)
  have z2 := wrap_i64 (m.b * m.c) (by omega) (by omega)
  have z3 : IntKind.i64.wrap (m.a * m.d - m.b * m.c) = 0 := by rw [show m.a * m.d - m.b * m.c = 0 from hz]; rfl
  clear hm hz a0 a1 b0 b1
  go_enter Try.func18, Try.ntmps18
  go_upto_region 1 with (fail)
  generalize (w.alloc (.cells #[.int .i64 m.a, .int .i64 m.b, .int .i64 m.c, .int .i64 m.d, .int .i64 m.e, .int .i64 m.f] 23)).alloc (.cells #[.int .i64 0, .int .i64 0, .int .i64 0, .int .i64 0, .int .i64 0, .int .i64 0] 23) = w1 at *
  obtain ⟨A, hA⟩ : ∃ A, A = w.heap.size := ⟨_, rfl⟩
  obtain ⟨R, hR⟩ : ∃ R, R = A + 1 := ⟨_, rfl⟩
  rw [← hA, ← hR] at T0
  rw [← hA, ← hR]
  clear hA hR
  have T := Lib.hid T0
  clear T0
  have c0 := T.out.one.c0
  have c1 := T.out.one.c1
  have c2 := T.out.one.c2
  have c3 := T.out.one.c3
  have c4 := T.out.one.c4
  have c5 := T.out.one.c5
  go_wp2_with fail
  refine (C.out _).mono ?_
  rintro e w2 ⟨rfl, hk⟩
  have T2 := Lib.hid (T.out.later hk)
  clear hk T c0 c1 c2 c3 c4 c5
  have c0 := T2.out.one.c0
  have c1 := T2.out.one.c1
  have c2 := T2.out.one.c2
  have c3 := T2.out.one.c3
  have c4 := T2.out.one.c4
  have c5 := T2.out.one.c5
  have k0 := T2.out.res.c0
  have k1 := T2.out.res.c1
  have k2 := T2.out.res.c2
  have k3 := T2.out.res.c3
  have k4 := T2.out.res.c4
  have k5 := T2.out.res.c5
  have f0 := T2.out.res.fr (i := 0)
  have f1 := T2.out.res.fr (i := 1)
  have f2 := T2.out.res.fr (i := 2)
  have f3 := T2.out.res.fr (i := 3)
  have f4 := T2.out.res.fr (i := 4)
  have f5 := T2.out.res.fr (i := 5)
  have X := Lib.hid (block_all T2.out.res Af.zero)
  have Y := Lib.hid (T2.out.keeps.all T2.out.low Af.zero)
  go_wp2_with fail
  refine bodyPost_ret (results_cell_row2 rfl _ _ R 23 #[.int .i64 0, .int .i64 0, .int .i64 0, .int .i64 0, .int .i64 0, .int .i64 0] (0, 0) _ rfl X.out Try.underlying23 rfl (by kernel_rfl)) rfl ?_
  exact ⟨rfl, Y.out⟩

set_option maxRecDepth 100000 in
set_option maxHeartbeats 3200000 in
theorem back_wild (m : Af.M) (hm : m.ok) (hz : m.area ≠ 0) (hb : ¬ m.back4.ok) (w : World) : Calls Try.prog 18 #[.agg #[.int .i64 m.a, .int .i64 m.b, .int .i64 m.c, .int .i64 m.d, .int .i64 m.e, .int .i64 m.f]] w (Told Af.zero 33 w) := by
  have T0 : Duo w w.heap.size (w.heap.size + 1) m Af.zero ((w.alloc (.cells #[.int .i64 m.a, .int .i64 m.b, .int .i64 m.c, .int .i64 m.d, .int .i64 m.e, .int .i64 m.f] 23)).alloc (.cells #[.int .i64 0, .int .i64 0, .int .i64 0, .int .i64 0, .int .i64 0, .int .i64 0] 23)) := Duo.new w m Af.zero
  have C := Lib.hid (fun w => right_yes hm w)
  have au := Af.area_up hm
  obtain ⟨⟨a0, a1⟩, b0, b1⟩ := area_parts hm
  have z1 := wrap_i64 (m.a * m.d) (by omega) (by omega)
  have z2 := wrap_i64 (m.b * m.c) (by omega) (by omega)
  have z3 : IntKind.i64.wrap (m.a * m.d - m.b * m.c) = m.area := wrap_i64 (m.a * m.d - m.b * m.c) (by omega) (by omega)
  have z4 : (m.area == 0) = false := by simpa using hz
  obtain ⟨⟨ma0, ma1⟩, ⟨mb0, mb1⟩, ⟨mc0, mc1⟩, ⟨md0, md1⟩, -⟩ := hm
  have N1 := Lib.hid (fun w => share_any m.d m.area ⟨by omega, by omega⟩ au hz w)
  have N2 := Lib.hid (fun w => share_any (-m.b) m.area ⟨by omega, by omega⟩ au hz w)
  have N3 := Lib.hid (fun w => share_any (-m.c) m.area ⟨by omega, by omega⟩ au hz w)
  have N4 := Lib.hid (fun w => share_any m.a m.area ⟨by omega, by omega⟩ au hz w)
  have v1 := wrap_i64 (-m.b) (by omega) (by omega)
  have v2 := wrap_i64 (-m.c) (by omega) (by omega)
  have HB : m.back4 = ⟨Af.round (m.d * 4294967296) m.area, Af.round (-m.b * 4294967296) m.area, Af.round (-m.c * 4294967296) m.area, Af.round (m.a * 4294967296) m.area, 0, 0⟩ := rfl
  have HW := Lib.hid (fun p q => show ¬ Af.M.ok ⟨m.back4.a, m.back4.b, m.back4.c, m.back4.d, p, q⟩ from fun h => hb ⟨h.1, h.2.1, h.2.2.1, h.2.2.2.1, (show Af.Up 0 68719476736 by decide), (show Af.Up 0 68719476736 by decide)⟩)
  clear hb
  rw [HB] at HW
  clear HB
  simp only at HW
  generalize m.area = D at *
  generalize Af.round (m.d * 4294967296) D = r1 at *
  generalize Af.round (-m.b * 4294967296) D = r2 at *
  generalize Af.round (-m.c * 4294967296) D = r3 at *
  generalize Af.round (m.a * 4294967296) D = r4 at *
  clear au hz a0 a1 b0 b1 ma0 ma1 mb0 mb1 mc0 mc1 md0 md1
  go_enter Try.func18, Try.ntmps18
  go_upto_region 1 with (fail)
  generalize (w.alloc (.cells #[.int .i64 m.a, .int .i64 m.b, .int .i64 m.c, .int .i64 m.d, .int .i64 m.e, .int .i64 m.f] 23)).alloc (.cells #[.int .i64 0, .int .i64 0, .int .i64 0, .int .i64 0, .int .i64 0, .int .i64 0] 23) = w1 at *
  obtain ⟨A, hA⟩ : ∃ A, A = w.heap.size := ⟨_, rfl⟩
  obtain ⟨R, hR⟩ : ∃ R, R = A + 1 := ⟨_, rfl⟩
  rw [← hA, ← hR] at T0
  rw [← hA, ← hR]
  clear hA hR
  have T := Lib.hid T0
  clear T0
  have c0 := T.out.one.c0
  have c1 := T.out.one.c1
  have c2 := T.out.one.c2
  have c3 := T.out.one.c3
  have c4 := T.out.one.c4
  have c5 := T.out.one.c5
  go_wp2_with fail
  refine (C.out _).mono ?_
  rintro e w2 ⟨rfl, hk⟩
  have T2 := Lib.hid (T.out.later hk)
  clear hk T c0 c1 c2 c3 c4 c5
  have c0 := T2.out.one.c0
  have c1 := T2.out.one.c1
  have c2 := T2.out.one.c2
  have c3 := T2.out.one.c3
  have c4 := T2.out.one.c4
  have c5 := T2.out.one.c5
  go_upto_region 6 with (fail)
  clear z1 z2 z3 z4 C
  go_region_held3 (fun w' => w'.cell? ⟨A, 0, none⟩ = some (.int .i64 m.a) ∧ w'.cell? ⟨A, 1, none⟩ = some (.int .i64 m.b) ∧ w'.cell? ⟨A, 2, none⟩ = some (.int .i64 m.c) ∧ w'.cell? ⟨A, 3, none⟩ = some (.int .i64 m.d)) (go_keep)
    (first
    | (go_at_call 34; with_reducible refine (N1.out _).mono ?_; rintro e w' ⟨rfl, rfl⟩)
    | (go_at_call 34; with_reducible refine (N2.out _).mono ?_; rintro e w' ⟨rfl, rfl⟩)
    | (go_at_call 34; with_reducible refine (N3.out _).mono ?_; rintro e w' ⟨rfl, rfl⟩)
    | (go_at_call 34; with_reducible refine (N4.out _).mono ?_; rintro e w' ⟨rfl, rfl⟩))
  all_goals
    have X := Lib.hid (show Duo w A R m Af.zero (w2.alloc (.cells #[.int .i64 r1, .int .i64 r2, .int .i64 r3, .int .i64 r4, .int .i64 0, .int .i64 0] 23)).drew from
      ⟨T2.out.one.alloc _, T2.out.res.alloc _, (T2.out.keeps.alloc _).drew, T2.out.low⟩)
    have Y := Lib.hid (show Six (w2.alloc (.cells #[.int .i64 r1, .int .i64 r2, .int .i64 r3, .int .i64 r4, .int .i64 0, .int .i64 0] 23)).drew w2.heap.size 23 ⟨r1, r2, r3, r4, 0, 0⟩ from Six.new w2 23 ⟨r1, r2, r3, r4, 0, 0⟩)
    have LW := Lib.hid (show w.heap.size ≤ w2.heap.size from T2.out.keeps.size)
    have HAS := Lib.hid (show A < w2.heap.size from T2.out.one.lt)
    have HRS := Lib.hid (show R < w2.heap.size from T2.out.res.lt)
    rename_i hH
    clear T2 N1 N2 N3 N4 v1 v2 hH c0 c1 c2 c3 c4 c5
    generalize (w2.alloc (.cells #[.int .i64 r1, .int .i64 r2, .int .i64 r3, .int .i64 r4, .int .i64 0, .int .i64 0] 23)).drew = w7 at *
    generalize w2.heap.size = G at *
    have d0 := X.out.one.c0
    have d1 := X.out.one.c1
    have d2 := X.out.one.c2
    have d3 := X.out.one.c3
    have d4 := X.out.one.c4
    have d5 := X.out.one.c5
    have c0 := Y.out.c0
    have c1 := Y.out.c1
    have c2 := Y.out.c2
    have c3 := Y.out.c3
    have c4 := Y.out.c4
    have c5 := Y.out.c5
    go_wp2_with fail
    refine (slope_wild ⟨r1, r2, r3, r4, 0, 0⟩ m.e m.f _).mono ?_
    rintro e w8 ⟨u, v, rfl, hk⟩
    have X2 := Lib.hid (X.out.later hk)
    have Y2 := Lib.hid (Y.out.later hk)
    clear hk X Y c0 c1 c2 c3 c4 c5 d0 d1 d2 d3 d4 d5
    have c0 := Y2.out.c0
    have c1 := Y2.out.c1
    have c2 := Y2.out.c2
    have c3 := Y2.out.c3
    have c4 := Y2.out.c4
    have c5 := Y2.out.c5
    have e4 := Y2.out.fr (i := 4)
    have e5 := Y2.out.fr (i := 5)
    go_wp2_with fail
    refine (near_wild _ _).mono ?_
    rintro e w8 ⟨p, rfl, rfl⟩
    go_wp2_with fail
    refine (near_wild _ _).mono ?_
    rintro e w8 ⟨q, rfl, rfl⟩
    have X3 := Lib.hid (X2.out.s45 (G := G) (by have := HAS.out; omega) (by have := HRS.out; omega) LW.out p q)
    have Y3 := Lib.hid (Y2.out.s45 p q)
    go_upto_region 9 with (fail)
    clear X2 Y2 c0 c1 c2 c3 c4 c5 e4 e5
    generalize (w8.setCell ⟨G, 4, none⟩ (.int .i64 p)).setCell ⟨G, 5, none⟩ (.int .i64 q) = wa at *

    have c0 := Y3.out.c0
    have c1 := Y3.out.c1
    have c2 := Y3.out.c2
    have c3 := Y3.out.c3
    have c4 := Y3.out.c4
    have c5 := Y3.out.c5
    have RN := Lib.hid (fun w => right_no (HW.out p q) w)
    clear HW
    go_wp2_with fail
    refine (RN.out _).mono ?_
    rintro e wb ⟨rfl, hk⟩
    have X4 := Lib.hid (X3.out.later hk)
    clear hk X3 Y3 c0 c1 c2 c3 c4 c5
    have k0 := X4.out.res.c0
    have k1 := X4.out.res.c1
    have k2 := X4.out.res.c2
    have k3 := X4.out.res.c3
    have k4 := X4.out.res.c4
    have k5 := X4.out.res.c5
    have f0 := X4.out.res.fr (i := 0)
    have f1 := X4.out.res.fr (i := 1)
    have f2 := X4.out.res.fr (i := 2)
    have f3 := X4.out.res.fr (i := 3)
    have f4 := X4.out.res.fr (i := 4)
    have f5 := X4.out.res.fr (i := 5)
    have X := Lib.hid (block_all X4.out.res Af.zero)
    have Y := Lib.hid (X4.out.keeps.all X4.out.low Af.zero)
    go_wp2_with fail
    refine bodyPost_ret (results_cell_row2 rfl _ _ R 23 #[.int .i64 0, .int .i64 0, .int .i64 0, .int .i64 0, .int .i64 0, .int .i64 0] (0, 0) _ rfl X.out Try.underlying23 rfl (by kernel_rfl)) rfl ?_
    exact ⟨rfl, Y.out⟩
end Go.Proofs.Ytfcndldobjpbnaa
