/- The box of a rectangle. (printed by genLD.py) -/
import Derived.Test.YtfcndldobjpbnaaLA
namespace Go.Proofs.Ytfcndldobjpbnaa
open Go.RowKit Go.Maps
set_option linter.unusedVariables false

namespace Af
def placeU (m : M) (x y : Int) : Int := slopeU m x y + m.e
def placeV (m : M) (x y : Int) : Int := slopeV m x y + m.f
end Af
theorem place_up {m : Af.M} (hm : m.ok) {x y : Int} (hx : Af.Up x 65536) (hy : Af.Up y 65536) : (-2267742732288 ≤ Af.placeU m x y ∧ Af.placeU m x y ≤ 2267742732288) ∧ (-2267742732288 ≤ Af.placeV m x y ∧ Af.placeV m x y ≤ 2267742732288) := by
  have h := Af.slope_up hm hx hy (by omega)
  obtain ⟨-, -, -, -, ⟨e0, e1⟩, f0, f1⟩ := hm
  unfold Af.placeU Af.placeV
  unfold Af.Up at h
  omega
set_option maxHeartbeats 1600000 in
theorem place_any (m : Af.M) (x y : Int) (hm : m.ok) (hx : Af.Up x 65536) (hy : Af.Up y 65536) (w : World) : Calls Try.prog 37 #[.agg #[.int .i64 m.a, .int .i64 m.b, .int .i64 m.c, .int .i64 m.d, .int .i64 m.e, .int .i64 m.f], .int .i64 x, .int .i64 y] w (Both (Af.placeU m x y) (Af.placeV m x y) w) := by
  have SL := Lib.hid (fun w => slope_any m x y 65536 hm hx hy (by omega) (by omega) w)
  obtain ⟨⟨p0, p1⟩, p2, p3⟩ := place_up hm hx hy
  have HE := Lib.hid (And.intro (show Af.placeU m x y = Af.slopeU m x y + m.e from rfl) (show Af.placeV m x y = Af.slopeV m x y + m.f from rfl))
  have w1 : IntKind.i64.wrap (Af.slopeU m x y + m.e) = Af.placeU m x y := wrap_i64 (Af.placeU m x y) (by omega) (by omega)
  have w2 : IntKind.i64.wrap (Af.slopeV m x y + m.f) = Af.placeV m x y := wrap_i64 (Af.placeV m x y) (by omega) (by omega)
  generalize Af.placeU m x y = u at *
  generalize Af.placeV m x y = v at *
  generalize Af.slopeU m x y = su at *
  generalize Af.slopeV m x y = sv at *
  clear p0 p1 p2 p3 hm hx hy HE
  have F0 := Lib.hid (Six.new w 23 m)
  have K0 := Lib.hid (keeps_alloc (w := w) (o := .cells #[.int .i64 m.a, .int .i64 m.b, .int .i64 m.c, .int .i64 m.d, .int .i64 m.e, .int .i64 m.f] 23) rfl)
  go_enter Try.func37, Try.ntmps37
  go_upto_region 1 with (fail)
  generalize w.alloc (.cells #[.int .i64 m.a, .int .i64 m.b, .int .i64 m.c, .int .i64 m.d, .int .i64 m.e, .int .i64 m.f] 23) = wa at *
  generalize w.heap.size = B at *
  have c0 := F0.out.c0
  have c1 := F0.out.c1
  have c2 := F0.out.c2
  have c3 := F0.out.c3
  have c4 := F0.out.c4
  have c5 := F0.out.c5
  go_wp2_with fail
  refine (SL.out _).mono ?_
  rintro e wb ⟨rfl, hk⟩
  have F1 := Lib.hid (F0.out.later hk)
  have K1 := Lib.hid (K0.out.next hk)
  clear hk F0 K0 c0 c1 c2 c3 c4 c5
  have c4 := F1.out.c4
  have c5 := F1.out.c5
  go_upto_region 2 with (fail)
  go_quiet (fail)
  go_wp2_with fail
  go_ret2
  exact ⟨rfl, K1.out.drewN _⟩
theorem results_tmp5 {fn : Func} {t u v x y : Tmp} (h : fn.results = #[.tmp t, .tmp u, .tmp v, .tmp x, .tmp y]) (tmps : Array Value) (P : Program) (w : World) :
    (results fn tmps).run P w = .ok (.tuple #[tmps.getD t undef, tmps.getD u undef, tmps.getD v undef, tmps.getD x undef, tmps.getD y undef]) w := by
  simp [results, h]
def Five (x y p q c : Int) (w : World) (e : Ending) (w' : World) : Prop := e = .returned (.tuple #[.int .i64 x, .int .i64 y, .int .i64 p, .int .i64 q, .int .i64 c]) ∧ Keeps none' w w'
def BoxOk (m : Af.M) (x y pw ph : Int) : Prop := m.ok ∧ Af.Up x 32768 ∧ Af.Up y 32768 ∧ Side pw ∧ Side ph
instance (m : Af.M) (x y pw ph : Int) : Decidable (BoxOk m x y pw ph) := inferInstanceAs (Decidable (_ ∧ _ ∧ _ ∧ _ ∧ _))
set_option maxRecDepth 100000 in
set_option maxHeartbeats 6400000 in
theorem box_bad (m : Af.M) (x y pw ph : Int) (w : World) (hb : ¬ BoxOk m x y pw ph) : Calls Try.prog 20 #[.agg #[.int .i64 m.a, .int .i64 m.b, .int .i64 m.c, .int .i64 m.d, .int .i64 m.e, .int .i64 m.f], .int .i64 x, .int .i64 y, .int .i64 pw, .int .i64 ph] w (Five 0 0 0 0 31 w) := by
  have F0 := Lib.hid (Six.new w 23 m)
  have K0 := Lib.hid (keeps_alloc (w := w) (o := .cells #[.int .i64 m.a, .int .i64 m.b, .int .i64 m.c, .int .i64 m.d, .int .i64 m.e, .int .i64 m.f] 23) rfl)
  go_enter Try.func20, Try.ntmps20
  go_upto_region 1 with (fail)
  generalize w.alloc (.cells #[.int .i64 m.a, .int .i64 m.b, .int .i64 m.c, .int .i64 m.d, .int .i64 m.e, .int .i64 m.f] 23) = wa at *
  generalize w.heap.size = B at *
  have c0 := F0.out.c0
  have c1 := F0.out.c1
  have c2 := F0.out.c2
  have c3 := F0.out.c3
  have c4 := F0.out.c4
  have c5 := F0.out.c5
  by_cases h0 : m.ok
  · have C0 := Lib.hid (fun w => right_yes h0 w)
    by_cases h1 : Af.Up x 32768
    · have C1 := Lib.hid (fun w => up_yes (by omega) (by omega) h1 w)
      by_cases h2 : Af.Up y 32768
      · have C2 := Lib.hid (fun w => up_yes (by omega) (by omega) h2 w)
        by_cases h3 : Side pw
        · have C3 := Lib.hid (fun w => side_yes h3 w)
          by_cases h4 : Side ph
          · have C4 := Lib.hid (fun w => side_yes h4 w)
            exact absurd ⟨h0, h1, h2, h3, h4⟩ hb
          · have C4 := Lib.hid (fun w => side_no h4 w)
            clear hb h0 h1 h2 h3 h4
            go_wp2_with fail
            refine (C0.out _).mono ?_
            rintro e wb ⟨rfl, hk⟩
            have K1 := Lib.hid (K0.out.next hk)
            clear hk K0 F0 c0 c1 c2 c3 c4 c5
            go_wp2_with fail
            refine (C1.out _).mono ?_
            rintro e wb ⟨rfl, rfl⟩
            go_wp2_with fail
            refine (C2.out _).mono ?_
            rintro e wb ⟨rfl, rfl⟩
            go_wp2_with fail
            refine (C3.out _).mono ?_
            rintro e wb ⟨rfl, rfl⟩
            go_wp2_with fail
            refine (C4.out _).mono ?_
            rintro e wb ⟨rfl, rfl⟩
            go_wp2_with fail
            refine bodyPost_ret (results_tmp5 rfl _ _ _) rfl ?_
            exact ⟨rfl, K1.out⟩
        · have C3 := Lib.hid (fun w => side_no h3 w)
          clear hb h0 h1 h2 h3
          go_wp2_with fail
          refine (C0.out _).mono ?_
          rintro e wb ⟨rfl, hk⟩
          have K1 := Lib.hid (K0.out.next hk)
          clear hk K0 F0 c0 c1 c2 c3 c4 c5
          go_wp2_with fail
          refine (C1.out _).mono ?_
          rintro e wb ⟨rfl, rfl⟩
          go_wp2_with fail
          refine (C2.out _).mono ?_
          rintro e wb ⟨rfl, rfl⟩
          go_wp2_with fail
          refine (C3.out _).mono ?_
          rintro e wb ⟨rfl, rfl⟩
          go_wp2_with fail
          refine bodyPost_ret (results_tmp5 rfl _ _ _) rfl ?_
          exact ⟨rfl, K1.out⟩
      · have C2 := Lib.hid (fun w => up_no (by omega) (by omega) h2 w)
        clear hb h0 h1 h2
        go_wp2_with fail
        refine (C0.out _).mono ?_
        rintro e wb ⟨rfl, hk⟩
        have K1 := Lib.hid (K0.out.next hk)
        clear hk K0 F0 c0 c1 c2 c3 c4 c5
        go_wp2_with fail
        refine (C1.out _).mono ?_
        rintro e wb ⟨rfl, rfl⟩
        go_wp2_with fail
        refine (C2.out _).mono ?_
        rintro e wb ⟨rfl, rfl⟩
        go_wp2_with fail
        refine bodyPost_ret (results_tmp5 rfl _ _ _) rfl ?_
        exact ⟨rfl, K1.out⟩
    · have C1 := Lib.hid (fun w => up_no (by omega) (by omega) h1 w)
      clear hb h0 h1
      go_wp2_with fail
      refine (C0.out _).mono ?_
      rintro e wb ⟨rfl, hk⟩
      have K1 := Lib.hid (K0.out.next hk)
      clear hk K0 F0 c0 c1 c2 c3 c4 c5
      go_wp2_with fail
      refine (C1.out _).mono ?_
      rintro e wb ⟨rfl, rfl⟩
      go_wp2_with fail
      refine bodyPost_ret (results_tmp5 rfl _ _ _) rfl ?_
      exact ⟨rfl, K1.out⟩
  · have C0 := Lib.hid (fun w => right_no h0 w)
    clear hb h0
    go_wp2_with fail
    refine (C0.out _).mono ?_
    rintro e wb ⟨rfl, hk⟩
    have K1 := Lib.hid (K0.out.next hk)
    clear hk K0 F0 c0 c1 c2 c3 c4 c5
    go_wp2_with fail
    refine bodyPost_ret (results_tmp5 rfl _ _ _) rfl ?_
    exact ⟨rfl, K1.out⟩
end Go.Proofs.Ytfcndldobjpbnaa
