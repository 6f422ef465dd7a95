/- The box of a rectangle inside the limits. (printed by genLD.py) -/
import Derived.Test.YtfcndldobjpbnaaLDA
namespace Go.Proofs.Ytfcndldobjpbnaa
open Go.RowKit Go.Maps
set_option linter.unusedVariables false

namespace Af
def lo (u0 u1 u2 u3 : Int) : Int := min (min (min u0 u1) u2) u3
def hi (u0 u1 u2 u3 : Int) : Int := max (max (max u0 u1) u2) u3
end Af
theorem two0 (w : World) (a b : Int) : (w.alloc (.cells #[.int .i64 a, .int .i64 b] 62)).cell? ⟨w.heap.size, 0, none⟩ = some (.int .i64 a) := by rw [World.cell?, heap_alloc_new]; rfl
theorem two1 (w : World) (a b : Int) : (w.alloc (.cells #[.int .i64 a, .int .i64 b] 62)).cell? ⟨w.heap.size, 1, none⟩ = some (.int .i64 b) := by rw [World.cell?, heap_alloc_new]; rfl
theorem at63_0 (a b c d e f : Int) (w : World) : (Instr.index 63 (.agg #[.int .i64 a, .int .i64 b, .int .i64 c, .int .i64 d, .int .i64 e, .int .i64 f]) (.int .i64 0)).run Try.prog w = .ok (.agg #[.int .i64 a, .int .i64 b]) w := by kernel_rfl
theorem at63_1 (a b c d e f : Int) (w : World) : (Instr.index 63 (.agg #[.int .i64 a, .int .i64 b, .int .i64 c, .int .i64 d, .int .i64 e, .int .i64 f]) (.int .i64 1)).run Try.prog w = .ok (.agg #[.int .i64 c, .int .i64 d]) w := by kernel_rfl
theorem at63_2 (a b c d e f : Int) (w : World) : (Instr.index 63 (.agg #[.int .i64 a, .int .i64 b, .int .i64 c, .int .i64 d, .int .i64 e, .int .i64 f]) (.int .i64 2)).run Try.prog w = .ok (.agg #[.int .i64 e, .int .i64 f]) w := by kernel_rfl
theorem min_if (a b : Int) : (if b < a then b else a) = min a b := by omega
theorem max_if (a b : Int) : (if a < b then b else a) = max a b := by omega
set_option maxRecDepth 100000 in
set_option maxHeartbeats 6400000 in
theorem box_good (m : Af.M) (x y pw ph : Int) (w : World) (hb : BoxOk m x y pw ph) : Calls Try.prog 20 #[.agg #[.int .i64 m.a, .int .i64 m.b, .int .i64 m.c, .int .i64 m.d, .int .i64 m.e, .int .i64 m.f], .int .i64 x, .int .i64 y, .int .i64 pw, .int .i64 ph] w (Five (Af.lo (Af.placeU m x y) (Af.placeU m (x + pw) y) (Af.placeU m x (y + ph)) (Af.placeU m (x + pw) (y + ph)) / 65536) (Af.lo (Af.placeV m x y) (Af.placeV m (x + pw) y) (Af.placeV m x (y + ph)) (Af.placeV m (x + pw) (y + ph)) / 65536) (-(-Af.hi (Af.placeU m x y) (Af.placeU m (x + pw) y) (Af.placeU m x (y + ph)) (Af.placeU m (x + pw) (y + ph)) / 65536) - Af.lo (Af.placeU m x y) (Af.placeU m (x + pw) y) (Af.placeU m x (y + ph)) (Af.placeU m (x + pw) (y + ph)) / 65536) (-(-Af.hi (Af.placeV m x y) (Af.placeV m (x + pw) y) (Af.placeV m x (y + ph)) (Af.placeV m (x + pw) (y + ph)) / 65536) - Af.lo (Af.placeV m x y) (Af.placeV m (x + pw) y) (Af.placeV m x (y + ph)) (Af.placeV m (x + pw) (y + ph)) / 65536) 0 w) := by
  have F0 := Lib.hid (Six.new w 23 m)
  have K0 := Lib.hid (keeps_alloc (w := w) (o := .cells #[.int .i64 m.a, .int .i64 m.b, .int .i64 m.c, .int .i64 m.d, .int .i64 m.e, .int .i64 m.f] 23) rfl)
  have C0 := Lib.hid (fun w => right_yes hb.1 w)
  have C1 := Lib.hid (fun w => up_yes (by omega) (by omega) hb.2.1 w)
  have C2 := Lib.hid (fun w => up_yes (by omega) (by omega) hb.2.2.1 w)
  have C3 := Lib.hid (fun w => side_yes hb.2.2.2.1 w)
  have C4 := Lib.hid (fun w => side_yes hb.2.2.2.2 w)
  obtain ⟨hm, ⟨x0, x1⟩, ⟨y0, y1⟩, ⟨a0, a1⟩, b0, b1⟩ := hb
  have P0 := Lib.hid (fun w => place_any m x y hm ⟨by omega, by omega⟩ ⟨by omega, by omega⟩ w)
  obtain ⟨⟨r0, s0⟩, t0, q0⟩ := place_up hm (x := x) (y := y) ⟨by omega, by omega⟩ ⟨by omega, by omega⟩
  have P1 := Lib.hid (fun w => place_any m (x + pw) y hm ⟨by omega, by omega⟩ ⟨by omega, by omega⟩ w)
  obtain ⟨⟨r1, s1⟩, t1, q1⟩ := place_up hm (x := (x + pw)) (y := y) ⟨by omega, by omega⟩ ⟨by omega, by omega⟩
  have P2 := Lib.hid (fun w => place_any m x (y + ph) hm ⟨by omega, by omega⟩ ⟨by omega, by omega⟩ w)
  obtain ⟨⟨r2, s2⟩, t2, q2⟩ := place_up hm (x := x) (y := (y + ph)) ⟨by omega, by omega⟩ ⟨by omega, by omega⟩
  have P3 := Lib.hid (fun w => place_any m (x + pw) (y + ph) hm ⟨by omega, by omega⟩ ⟨by omega, by omega⟩ w)
  obtain ⟨⟨r3, s3⟩, t3, q3⟩ := place_up hm (x := (x + pw)) (y := (y + ph)) ⟨by omega, by omega⟩ ⟨by omega, by omega⟩
  generalize Af.placeU m x y = u0 at *
  generalize Af.placeV m x y = v0 at *
  generalize Af.placeU m (x + pw) y = u1 at *
  generalize Af.placeV m (x + pw) y = v1 at *
  generalize Af.placeU m x (y + ph) = u2 at *
  generalize Af.placeV m x (y + ph) = v2 at *
  generalize Af.placeU m (x + pw) (y + ph) = u3 at *
  generalize Af.placeV m (x + pw) (y + ph) = v3 at *
  have mu1 := min_if u0 u1
  have mu2 := min_if (min u0 u1) u2
  have mu3 := min_if (min (min u0 u1) u2) u3
  have nu1 := max_if u0 u1
  have nu2 := max_if (max u0 u1) u2
  have nu3 := max_if (max (max u0 u1) u2) u3
  have lu : -2267742732288 ≤ Af.lo u0 u1 u2 u3 ∧ Af.lo u0 u1 u2 u3 ≤ 2267742732288 := by unfold Af.lo; omega
  have gu : -2267742732288 ≤ Af.hi u0 u1 u2 u3 ∧ Af.hi u0 u1 u2 u3 ≤ 2267742732288 := by unfold Af.hi; omega
  rw [show min (min (min u0 u1) u2) u3 = Af.lo u0 u1 u2 u3 from rfl] at mu3
  rw [show max (max (max u0 u1) u2) u3 = Af.hi u0 u1 u2 u3 from rfl] at nu3
  generalize Af.lo u0 u1 u2 u3 = Lu at *
  generalize Af.hi u0 u1 u2 u3 = Gu at *
  generalize min (min u0 u1) u2 = Mu2 at *
  generalize min u0 u1 = Mu1 at *
  generalize max (max u0 u1) u2 = Nu2 at *
  generalize max u0 u1 = Nu1 at *
  obtain ⟨lu0, lu1⟩ := lu
  obtain ⟨gu0, gu1⟩ := gu
  have Du := Lib.hid (fun w => down_any Lu (by unfold Int62; omega) w)
  have Uu := Lib.hid (fun w => up_any Gu (by unfold Up'; omega) w)
  have mv1 := min_if v0 v1
  have mv2 := min_if (min v0 v1) v2
  have mv3 := min_if (min (min v0 v1) v2) v3
  have nv1 := max_if v0 v1
  have nv2 := max_if (max v0 v1) v2
  have nv3 := max_if (max (max v0 v1) v2) v3
  have lv : -2267742732288 ≤ Af.lo v0 v1 v2 v3 ∧ Af.lo v0 v1 v2 v3 ≤ 2267742732288 := by unfold Af.lo; omega
  have gv : -2267742732288 ≤ Af.hi v0 v1 v2 v3 ∧ Af.hi v0 v1 v2 v3 ≤ 2267742732288 := by unfold Af.hi; omega
  rw [show min (min (min v0 v1) v2) v3 = Af.lo v0 v1 v2 v3 from rfl] at mv3
  rw [show max (max (max v0 v1) v2) v3 = Af.hi v0 v1 v2 v3 from rfl] at nv3
  generalize Af.lo v0 v1 v2 v3 = Lv at *
  generalize Af.hi v0 v1 v2 v3 = Gv at *
  generalize min (min v0 v1) v2 = Mv2 at *
  generalize min v0 v1 = Mv1 at *
  generalize max (max v0 v1) v2 = Nv2 at *
  generalize max v0 v1 = Nv1 at *
  obtain ⟨lv0, lv1⟩ := lv
  obtain ⟨gv0, gv1⟩ := gv
  have Dv := Lib.hid (fun w => down_any Lv (by unfold Int62; omega) w)
  have Uv := Lib.hid (fun w => up_any Gv (by unfold Up'; omega) w)
  clear r0 s0 t0 q0 r1 s1 t1 q1 r2 s2 t2 q2 r3 s3 t3 q3 hm
  have Hm := Lib.hid (And.intro mu1 (And.intro mu2 (And.intro mu3 (And.intro nu1 (And.intro nu2 nu3)))))
  have Hn := Lib.hid (And.intro mv1 (And.intro mv2 (And.intro mv3 (And.intro nv1 (And.intro nv2 nv3)))))
  clear mu1 mu2 mu3 nu1 nu2 nu3 mv1 mv2 mv3 nv1 nv2 nv3
  go_enter Try.func20, Try.ntmps20
  go_upto_region 1 with (fail)
  generalize w.alloc (.cells #[.int .i64 m.a, .int .i64 m.b, .int .i64 m.c, .int .i64 m.d, .int .i64 m.e, .int .i64 m.f] 23) = wa at *
  generalize w.heap.size = B at *
  have c0 := F0.out.c0
  have c1 := F0.out.c1
  have c2 := F0.out.c2
  have c3 := F0.out.c3
  have c4 := F0.out.c4
  have c5 := F0.out.c5
  go_wp2_with fail
  refine (C0.out _).mono ?_
  rintro e wb ⟨rfl, hk⟩
  have K1 := Lib.hid (K0.out.next hk)
  have F1 := Lib.hid (F0.out.later hk)
  clear hk K0 F0 c0 c1 c2 c3 c4 c5
  go_wp2_with fail
  refine (C1.out _).mono ?_
  rintro e wb ⟨rfl, rfl⟩
  go_wp2_with fail
  refine (C2.out _).mono ?_
  rintro e wb ⟨rfl, rfl⟩
  go_wp2_with fail
  refine (C3.out _).mono ?_
  rintro e wb ⟨rfl, rfl⟩
  go_wp2_with fail
  refine (C4.out _).mono ?_
  rintro e wb ⟨rfl, rfl⟩
  have c0 := F1.out.c0
  have c1 := F1.out.c1
  have c2 := F1.out.c2
  have c3 := F1.out.c3
  have c4 := F1.out.c4
  have c5 := F1.out.c5
  go_wp2_with fail
  refine (P0.out _).mono ?_
  rintro e wd ⟨rfl, hk⟩
  have K2 := Lib.hid (K1.out.next hk)
  have F2 := Lib.hid (F1.out.later hk)
  clear hk K1 F1 c0 c1 c2 c3 c4 c5 P0 C0 C1 C2 C3 C4
  go_wp2_with fail
  go_loopw [15, 16, 17, 18, 73] (fun l t r b cnt wr => (cnt = .int .i64 0 ∧ l = .int .i64 u0 ∧ t = .int .i64 v0 ∧ r = .int .i64 u0 ∧ b = .int .i64 v0 ∧ Six wr B 23 m ∧ Keeps none' w wr) ∨ (cnt = .int .i64 1 ∧ l = .int .i64 Mu1 ∧ t = .int .i64 Mv1 ∧ r = .int .i64 Nu1 ∧ b = .int .i64 Nv1 ∧ Six wr B 23 m ∧ Keeps none' w wr) ∨ (cnt = .int .i64 2 ∧ l = .int .i64 Mu2 ∧ t = .int .i64 Mv2 ∧ r = .int .i64 Nu2 ∧ b = .int .i64 Nv2 ∧ Six wr B 23 m ∧ Keeps none' w wr) ∨ (cnt = .int .i64 3 ∧ l = .int .i64 Lu ∧ t = .int .i64 Lv ∧ r = .int .i64 Gu ∧ b = .int .i64 Gv ∧ Six wr B 23 m ∧ Keeps none' w wr)) (fun _ _ _ _ cnt _ => 3 - (intOf cnt).toNat)
  case atStart => exact .inl ⟨rfl, rfl, rfl, rfl, rfl, F2.out, K2.out⟩
  case round =>
    clear K2 F2
    rcases hrel with ⟨rfl, rfl, rfl, rfl, rfl, hF, hK⟩ | ⟨rfl, rfl, rfl, rfl, rfl, hF, hK⟩ | ⟨rfl, rfl, rfl, rfl, rfl, hF, hK⟩ | ⟨rfl, rfl, rfl, rfl, rfl, hF, hK⟩
    · have hix := at63_0 (x + pw) y x (y + ph) (x + pw) (y + ph) wr
      have c0 := hF.c0
      have c1 := hF.c1
      have c2 := hF.c2
      have c3 := hF.c3
      have c4 := hF.c4
      have c5 := hF.c5
      have K3 := Lib.hid (hK.next (keeps_alloc (w := wr) (o := .cells #[.int .i64 (x + pw), .int .i64 y] 62) rfl))
      have F3 := Lib.hid (hF.later (keeps_alloc (w := wr) (o := .cells #[.int .i64 (x + pw), .int .i64 y] 62) rfl))
      have d0 := two0 wr (x + pw) y
      have d1 := two1 wr (x + pw) y
      have cc0 := F3.out.c0
      have cc1 := F3.out.c1
      have cc2 := F3.out.c2
      have cc3 := F3.out.c3
      have cc4 := F3.out.c4
      have cc5 := F3.out.c5
      clear hF hK
      go_wp2_with fail
      refine (P1.out _).mono ?_
      rintro e ws ⟨rfl, hk⟩
      have K4 := Lib.hid (K3.out.next hk)
      have F4 := Lib.hid (F3.out.later hk)
      clear hk K3 F3 c0 c1 c2 c3 c4 c5 cc0 cc1 cc2 cc3 cc4 cc5 d0 d1 hix
      have hm1 := Hm.out.1
      have hm2 := Hm.out.2.2.2.1
      have hn1 := Hn.out.1
      have hn2 := Hn.out.2.2.2.1
      go_wp2_with fail
      go_roundw
      case rel => exact .inr (.inl ⟨rfl, rfl, rfl, rfl, rfl, F4.out, K4.out⟩)
      case measure => decide
    · have hix := at63_1 (x + pw) y x (y + ph) (x + pw) (y + ph) wr
      have c0 := hF.c0
      have c1 := hF.c1
      have c2 := hF.c2
      have c3 := hF.c3
      have c4 := hF.c4
      have c5 := hF.c5
      have K3 := Lib.hid (hK.next (keeps_alloc (w := wr) (o := .cells #[.int .i64 x, .int .i64 (y + ph)] 62) rfl))
      have F3 := Lib.hid (hF.later (keeps_alloc (w := wr) (o := .cells #[.int .i64 x, .int .i64 (y + ph)] 62) rfl))
      have d0 := two0 wr x (y + ph)
      have d1 := two1 wr x (y + ph)
      have cc0 := F3.out.c0
      have cc1 := F3.out.c1
      have cc2 := F3.out.c2
      have cc3 := F3.out.c3
      have cc4 := F3.out.c4
      have cc5 := F3.out.c5
      clear hF hK
      go_wp2_with fail
      refine (P2.out _).mono ?_
      rintro e ws ⟨rfl, hk⟩
      have K4 := Lib.hid (K3.out.next hk)
      have F4 := Lib.hid (F3.out.later hk)
      clear hk K3 F3 c0 c1 c2 c3 c4 c5 cc0 cc1 cc2 cc3 cc4 cc5 d0 d1 hix
      have hm1 := Hm.out.2.1
      have hm2 := Hm.out.2.2.2.2.1
      have hn1 := Hn.out.2.1
      have hn2 := Hn.out.2.2.2.2.1
      go_wp2_with fail
      go_roundw
      case rel => exact .inr (.inr (.inl ⟨rfl, rfl, rfl, rfl, rfl, F4.out, K4.out⟩))
      case measure => decide
    · have hix := at63_2 (x + pw) y x (y + ph) (x + pw) (y + ph) wr
      have c0 := hF.c0
      have c1 := hF.c1
      have c2 := hF.c2
      have c3 := hF.c3
      have c4 := hF.c4
      have c5 := hF.c5
      have K3 := Lib.hid (hK.next (keeps_alloc (w := wr) (o := .cells #[.int .i64 (x + pw), .int .i64 (y + ph)] 62) rfl))
      have F3 := Lib.hid (hF.later (keeps_alloc (w := wr) (o := .cells #[.int .i64 (x + pw), .int .i64 (y + ph)] 62) rfl))
      have d0 := two0 wr (x + pw) (y + ph)
      have d1 := two1 wr (x + pw) (y + ph)
      have cc0 := F3.out.c0
      have cc1 := F3.out.c1
      have cc2 := F3.out.c2
      have cc3 := F3.out.c3
      have cc4 := F3.out.c4
      have cc5 := F3.out.c5
      clear hF hK
      go_wp2_with fail
      refine (P3.out _).mono ?_
      rintro e ws ⟨rfl, hk⟩
      have K4 := Lib.hid (K3.out.next hk)
      have F4 := Lib.hid (F3.out.later hk)
      clear hk K3 F3 c0 c1 c2 c3 c4 c5 cc0 cc1 cc2 cc3 cc4 cc5 d0 d1 hix
      have hm1 := Hm.out.2.2.1
      have hm2 := Hm.out.2.2.2.2.2
      have hn1 := Hn.out.2.2.1
      have hn2 := Hn.out.2.2.2.2.2
      go_wp2_with fail
      go_roundw
      case rel => exact .inr (.inr (.inr (⟨rfl, rfl, rfl, rfl, rfl, F4.out, K4.out⟩)))
      case measure => decide
    · have K5 := Lib.hid hK
      have wu : IntKind.i64.wrap (-(-Gu / 65536) - Lu / 65536) = -(-Gu / 65536) - Lu / 65536 := wrap_i64 _ (by omega) (by omega)
      have wv : IntKind.i64.wrap (-(-Gv / 65536) - Lv / 65536) = -(-Gv / 65536) - Lv / 65536 := wrap_i64 _ (by omega) (by omega)
      clear hF hK
      go_wp2_with fail
      refine (Du.out _).mono ?_
      rintro e wr ⟨rfl, rfl⟩
      go_wp2_with fail
      refine (Dv.out _).mono ?_
      rintro e wr ⟨rfl, rfl⟩
      go_wp2_with fail
      refine (Uu.out _).mono ?_
      rintro e wr ⟨rfl, rfl⟩
      go_wp2_with fail
      refine (Uv.out _).mono ?_
      rintro e wr ⟨rfl, rfl⟩
      go_wp2_with fail
      refine bodyPost_ret (results_tmp5 rfl _ _ _) rfl ?_
      exact ⟨rfl, K5.out⟩
end Go.Proofs.Ytfcndldobjpbnaa
