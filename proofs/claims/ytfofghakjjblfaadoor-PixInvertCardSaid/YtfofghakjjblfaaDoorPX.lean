/- PixWays. -/
import Derived.Test.YtfofghakjjblfaaDoorPW
namespace Go.Proofs.YtfofghakjjblfaaDoor
open Go.RowKit
set_option linter.unusedVariables false

theorem pixel_no' {p : Px.Pix} (h : ¬ p.ok) (w : World) : Calls Tryd.prog 18 #[.agg #[.int .i64 p.r, .int .i64 p.g, .int .i64 p.b, .int .i64 p.a]] w fun e w' => e = .returned (.bool false) ∧ Keeps none' w w' :=
  (pixel_no h w).mono (fun _ _ ⟨h1, h2⟩ => ⟨h1, by rw [h2]; exact (Keeps.refl _ _).alloc _⟩)
/-- Two pixels that came in, laid. -/
theorem two_new (w : World) (s d : Px.Pix) : Four ((w.alloc (.cells #[.int .i64 s.r, .int .i64 s.g, .int .i64 s.b, .int .i64 s.a] 26)).alloc (.cells #[.int .i64 d.r, .int .i64 d.g, .int .i64 d.b, .int .i64 d.a] 26)) w.heap.size s.r s.g s.b s.a ∧ Four ((w.alloc (.cells #[.int .i64 s.r, .int .i64 s.g, .int .i64 s.b, .int .i64 s.a] 26)).alloc (.cells #[.int .i64 d.r, .int .i64 d.g, .int .i64 d.b, .int .i64 d.a] 26)) (w.heap.size + 1) d.r d.g d.b d.a ∧ Keeps none' w ((w.alloc (.cells #[.int .i64 s.r, .int .i64 s.g, .int .i64 s.b, .int .i64 s.a] 26)).alloc (.cells #[.int .i64 d.r, .int .i64 d.g, .int .i64 d.b, .int .i64 d.a] 26)) := by
  refine ⟨(Four.new _ _ _ _ _).alloc _, ?_, ((Keeps.refl _ _).alloc _).alloc _⟩
  have := Four.new (w.alloc (.cells #[.int .i64 s.r, .int .i64 s.g, .int .i64 s.b, .int .i64 s.a] 26)) d.r d.g d.b d.a
  simpa using this
theorem ways_bad1 (k : Int) (s d : Px.Pix) (hs : ¬ s.ok) (w : World) (hW : Ways w) : Calls Tryd.prog 4 #[.int .i64 k, .agg #[.int .i64 s.r, .int .i64 s.g, .int .i64 s.b, .int .i64 s.a], .agg #[.int .i64 d.r, .int .i64 d.g, .int .i64 d.b, .int .i64 d.a]] w (Yes w) := by
  obtain ⟨F1, F2, K0⟩ := two_new w s d
  obtain ⟨w1, hw1⟩ : ∃ w1, w1 = ((w.alloc (.cells #[.int .i64 s.r, .int .i64 s.g, .int .i64 s.b, .int .i64 s.a] 26)).alloc (.cells #[.int .i64 d.r, .int .i64 d.g, .int .i64 d.b, .int .i64 d.a] 26)) := ⟨_, rfl⟩
  obtain ⟨P, hP⟩ : ∃ P, P = w.heap.size := ⟨_, rfl⟩
  obtain ⟨Q, hQ⟩ : ∃ Q, Q = P + 1 := ⟨_, rfl⟩
  rw [← hw1] at F1 F2 K0
  rw [← hP] at F1 F2
  rw [← hQ] at F2
  have A := Lib.hid (anchor_any w1 (hW.later K0))
  have CS := Lib.hid (fun w => pixel_no' hs w)
  clear hs hW
  have G1 := Lib.hid F1
  have G2 := Lib.hid F2
  have G3 := Lib.hid K0
  clear F1 F2 K0
  go_enter Tryd.func4, Tryd.ntmps4
  go_wp2_with fail
  rw [← hw1, ← hP, ← hQ]
  clear hw1 hP hQ
  refine A.out.mono ?_
  rintro e w2 ⟨rfl, hk⟩
  have H1 := Lib.hid (G1.out.later hk)
  have H2 := Lib.hid (G2.out.later hk)
  have H3 := Lib.hid (G3.out.next hk)
  clear hk G1 G2 G3
  have c0 := H1.out.c0
  have c1 := H1.out.c1
  have c2 := H1.out.c2
  have c3 := H1.out.c3
  go_wp2_with fail
  refine (CS.out _).mono ?_
  rintro e w3 ⟨rfl, hk⟩
  have I1 := Lib.hid (H1.out.later hk)
  have I2 := Lib.hid (H2.out.later hk)
  have I3 := Lib.hid (H3.out.next hk)
  clear hk H1 H2 H3 c0 c1 c2 c3
  go_wp2_with fail
  go_ret
  exact ⟨rfl, I3.out⟩
theorem ways_bad2 (k : Int) (s d : Px.Pix) (hs : s.ok) (hd : ¬ d.ok) (w : World) (hW : Ways w) : Calls Tryd.prog 4 #[.int .i64 k, .agg #[.int .i64 s.r, .int .i64 s.g, .int .i64 s.b, .int .i64 s.a], .agg #[.int .i64 d.r, .int .i64 d.g, .int .i64 d.b, .int .i64 d.a]] w (Yes w) := by
  obtain ⟨F1, F2, K0⟩ := two_new w s d
  obtain ⟨w1, hw1⟩ : ∃ w1, w1 = ((w.alloc (.cells #[.int .i64 s.r, .int .i64 s.g, .int .i64 s.b, .int .i64 s.a] 26)).alloc (.cells #[.int .i64 d.r, .int .i64 d.g, .int .i64 d.b, .int .i64 d.a] 26)) := ⟨_, rfl⟩
  obtain ⟨P, hP⟩ : ∃ P, P = w.heap.size := ⟨_, rfl⟩
  obtain ⟨Q, hQ⟩ : ∃ Q, Q = P + 1 := ⟨_, rfl⟩
  rw [← hw1] at F1 F2 K0
  rw [← hP] at F1 F2
  rw [← hQ] at F2
  have A := Lib.hid (anchor_any w1 (hW.later K0))
  have CS := Lib.hid (fun w => pixel_yes' hs w)
  have CD := Lib.hid (fun w => pixel_no' hd w)
  clear hs hd hW
  have G1 := Lib.hid F1
  have G2 := Lib.hid F2
  have G3 := Lib.hid K0
  clear F1 F2 K0
  go_enter Tryd.func4, Tryd.ntmps4
  go_wp2_with fail
  rw [← hw1, ← hP, ← hQ]
  clear hw1 hP hQ
  refine A.out.mono ?_
  rintro e w2 ⟨rfl, hk⟩
  have H1 := Lib.hid (G1.out.later hk)
  have H2 := Lib.hid (G2.out.later hk)
  have H3 := Lib.hid (G3.out.next hk)
  clear hk G1 G2 G3
  have c0 := H1.out.c0
  have c1 := H1.out.c1
  have c2 := H1.out.c2
  have c3 := H1.out.c3
  go_wp2_with fail
  refine (CS.out _).mono ?_
  rintro e w3 ⟨rfl, hk⟩
  have I1 := Lib.hid (H1.out.later hk)
  have I2 := Lib.hid (H2.out.later hk)
  have I3 := Lib.hid (H3.out.next hk)
  clear hk H1 H2 H3 c0 c1 c2 c3
  have d0 := I2.out.c0
  have d1 := I2.out.c1
  have d2 := I2.out.c2
  have d3 := I2.out.c3
  go_wp2_with fail
  refine (CD.out _).mono ?_
  rintro e w4 ⟨rfl, hk⟩
  have J1 := Lib.hid (I1.out.later hk)
  have J2 := Lib.hid (I2.out.later hk)
  have J3 := Lib.hid (I3.out.next hk)
  clear hk I1 I2 I3 d0 d1 d2 d3
  go_wp2_with fail
  go_ret
  exact ⟨rfl, J3.out⟩
set_option maxRecDepth 100000 in
set_option maxHeartbeats 3200000 in
theorem ways_good (k : Int) (s d : Px.Pix) (hs : s.ok) (hd : d.ok) (w : World) (hW : Ways w) : Calls Tryd.prog 4 #[.int .i64 k, .agg #[.int .i64 s.r, .int .i64 s.g, .int .i64 s.b, .int .i64 s.a], .agg #[.int .i64 d.r, .int .i64 d.g, .int .i64 d.b, .int .i64 d.a]] w (Yes w) := by
  obtain ⟨F1, F2, K0⟩ := two_new w s d
  obtain ⟨w1, hw1⟩ : ∃ w1, w1 = ((w.alloc (.cells #[.int .i64 s.r, .int .i64 s.g, .int .i64 s.b, .int .i64 s.a] 26)).alloc (.cells #[.int .i64 d.r, .int .i64 d.g, .int .i64 d.b, .int .i64 d.a] 26)) := ⟨_, rfl⟩
  obtain ⟨P, hP⟩ : ∃ P, P = w.heap.size := ⟨_, rfl⟩
  obtain ⟨Q, hQ⟩ : ∃ Q, Q = P + 1 := ⟨_, rfl⟩
  rw [← hw1] at F1 F2 K0
  rw [← hP] at F1 F2
  rw [← hQ] at F2
  have A := Lib.hid (anchor_any w1 (hW.later K0))
  have CS := Lib.hid (fun w => pixel_yes' hs w)
  have CD := Lib.hid (fun w => pixel_yes' hd w)
  have CW := Lib.hid (fun w h => way_any k s d hs.bytes hd.bytes w h)
  have CE := Lib.hid (fun w => docWay_any k s d hs.bytes hd.bytes w)
  have CV := Lib.hid (fun w => pixel_yes' (Px.way_ok (k := k) hs hd) w)
  generalize Px.way k s d = v at *
  have EQ := fun w => eq26_self v.r v.g v.b v.a w
  have WW := Lib.hid hW
  clear hs hd hW
  have G1 := Lib.hid F1
  have G2 := Lib.hid F2
  have G3 := Lib.hid K0
  clear F1 F2 K0
  go_enter Tryd.func4, Tryd.ntmps4
  go_wp2_with fail
  rw [← hw1, ← hP, ← hQ]
  clear hw1 hP hQ
  refine A.out.mono ?_
  rintro e w2 ⟨rfl, hk⟩
  have H1 := Lib.hid (G1.out.later hk)
  have H2 := Lib.hid (G2.out.later hk)
  have H3 := Lib.hid (G3.out.next hk)
  clear hk G1 G2 G3
  have c0 := H1.out.c0
  have c1 := H1.out.c1
  have c2 := H1.out.c2
  have c3 := H1.out.c3
  go_wp2_with fail
  refine (CS.out _).mono ?_
  rintro e w3 ⟨rfl, hk⟩
  have I1 := Lib.hid (H1.out.later hk)
  have I2 := Lib.hid (H2.out.later hk)
  have I3 := Lib.hid (H3.out.next hk)
  clear hk H1 H2 H3 c0 c1 c2 c3
  have d0 := I2.out.c0
  have d1 := I2.out.c1
  have d2 := I2.out.c2
  have d3 := I2.out.c3
  go_wp2_with fail
  refine (CD.out _).mono ?_
  rintro e w4 ⟨rfl, hk⟩
  have J1 := Lib.hid (I1.out.later hk)
  have J2 := Lib.hid (I2.out.later hk)
  have J3 := Lib.hid (I3.out.next hk)
  clear hk I1 I2 I3 d0 d1 d2 d3
  have c0 := J1.out.c0
  have c1 := J1.out.c1
  have c2 := J1.out.c2
  have c3 := J1.out.c3
  have d0 := J2.out.c0
  have d1 := J2.out.c1
  have d2 := J2.out.c2
  have d3 := J2.out.c3
  go_wp2_with fail
  refine (CW.out _ (WW.out.later J3.out)).mono ?_
  rintro e w5 ⟨rfl, hk⟩
  have L1 := Lib.hid ((J1.out.later hk).alloc (.cells #[.int .i64 v.r, .int .i64 v.g, .int .i64 v.b, .int .i64 v.a] 26))
  have L2 := Lib.hid ((J2.out.later hk).alloc (.cells #[.int .i64 v.r, .int .i64 v.g, .int .i64 v.b, .int .i64 v.a] 26))
  have L3 := Lib.hid ((J3.out.next hk).alloc (.cells #[.int .i64 v.r, .int .i64 v.g, .int .i64 v.b, .int .i64 v.a] 26))
  have L4 := Lib.hid (Four.new w5 v.r v.g v.b v.a)
  clear hk J1 J2 J3 c0 c1 c2 c3 d0 d1 d2 d3 WW A
  go_wp2_with fail
  generalize w5.alloc (.cells #[.int .i64 v.r, .int .i64 v.g, .int .i64 v.b, .int .i64 v.a] 26) = w6 at *
  generalize w5.heap.size = T at *
  have c0 := L1.out.c0
  have c1 := L1.out.c1
  have c2 := L1.out.c2
  have c3 := L1.out.c3
  have d0 := L2.out.c0
  have d1 := L2.out.c1
  have d2 := L2.out.c2
  have d3 := L2.out.c3
  have t0 := L4.out.c0
  have t1 := L4.out.c1
  have t2 := L4.out.c2
  have t3 := L4.out.c3
  have OW := Lib.hid (Keeps.refl none' w6)
  have OD := Lib.hid ((Keeps.refl none' w6).drew)
  have CALL1 : ∀ w', (w'.cell? ⟨P, 0, none⟩ = some (.int .i64 s.r) ∧ w'.cell? ⟨P, 1, none⟩ = some (.int .i64 s.g) ∧ w'.cell? ⟨P, 2, none⟩ = some (.int .i64 s.b) ∧ w'.cell? ⟨P, 3, none⟩ = some (.int .i64 s.a) ∧ w'.cell? ⟨Q, 0, none⟩ = some (.int .i64 d.r) ∧ w'.cell? ⟨Q, 1, none⟩ = some (.int .i64 d.g) ∧ w'.cell? ⟨Q, 2, none⟩ = some (.int .i64 d.b) ∧ w'.cell? ⟨Q, 3, none⟩ = some (.int .i64 d.a) ∧ w'.cell? ⟨T, 0, none⟩ = some (.int .i64 v.r) ∧ w'.cell? ⟨T, 1, none⟩ = some (.int .i64 v.g) ∧ w'.cell? ⟨T, 2, none⟩ = some (.int .i64 v.b) ∧ w'.cell? ⟨T, 3, none⟩ = some (.int .i64 v.a) ∧ Keeps none' w6 w') → Calls Tryd.prog 20 #[.int .i64 k, .agg #[.int .i64 s.r, .int .i64 s.g, .int .i64 s.b, .int .i64 s.a], .agg #[.int .i64 d.r, .int .i64 d.g, .int .i64 d.b, .int .i64 d.a]] w' fun e w'' => e = .returned (.agg #[.int .i64 v.r, .int .i64 v.g, .int .i64 v.b, .int .i64 v.a]) ∧ (w''.cell? ⟨P, 0, none⟩ = some (.int .i64 s.r) ∧ w''.cell? ⟨P, 1, none⟩ = some (.int .i64 s.g) ∧ w''.cell? ⟨P, 2, none⟩ = some (.int .i64 s.b) ∧ w''.cell? ⟨P, 3, none⟩ = some (.int .i64 s.a) ∧ w''.cell? ⟨Q, 0, none⟩ = some (.int .i64 d.r) ∧ w''.cell? ⟨Q, 1, none⟩ = some (.int .i64 d.g) ∧ w''.cell? ⟨Q, 2, none⟩ = some (.int .i64 d.b) ∧ w''.cell? ⟨Q, 3, none⟩ = some (.int .i64 d.a) ∧ w''.cell? ⟨T, 0, none⟩ = some (.int .i64 v.r) ∧ w''.cell? ⟨T, 1, none⟩ = some (.int .i64 v.g) ∧ w''.cell? ⟨T, 2, none⟩ = some (.int .i64 v.b) ∧ w''.cell? ⟨T, 3, none⟩ = some (.int .i64 v.a) ∧ Keeps none' w6 w'') := by
    rintro w' ⟨h0, h1, h2, h3, h4, h5, h6, h7, h8, h9, h10, h11, h12⟩
    refine (CE.out w').mono ?_
    rintro e w'' ⟨rfl, k⟩
    exact ⟨rfl, k.cell h0, k.cell h1, k.cell h2, k.cell h3, k.cell h4, k.cell h5, k.cell h6, k.cell h7, k.cell h8, k.cell h9, k.cell h10, k.cell h11, h12.next k⟩
  have CALL1 := Lib.hid CALL1
  have CALL2 : ∀ w', (w'.cell? ⟨P, 0, none⟩ = some (.int .i64 s.r) ∧ w'.cell? ⟨P, 1, none⟩ = some (.int .i64 s.g) ∧ w'.cell? ⟨P, 2, none⟩ = some (.int .i64 s.b) ∧ w'.cell? ⟨P, 3, none⟩ = some (.int .i64 s.a) ∧ w'.cell? ⟨Q, 0, none⟩ = some (.int .i64 d.r) ∧ w'.cell? ⟨Q, 1, none⟩ = some (.int .i64 d.g) ∧ w'.cell? ⟨Q, 2, none⟩ = some (.int .i64 d.b) ∧ w'.cell? ⟨Q, 3, none⟩ = some (.int .i64 d.a) ∧ w'.cell? ⟨T, 0, none⟩ = some (.int .i64 v.r) ∧ w'.cell? ⟨T, 1, none⟩ = some (.int .i64 v.g) ∧ w'.cell? ⟨T, 2, none⟩ = some (.int .i64 v.b) ∧ w'.cell? ⟨T, 3, none⟩ = some (.int .i64 v.a) ∧ Keeps none' w6 w') → Calls Tryd.prog 18 #[.agg #[.int .i64 v.r, .int .i64 v.g, .int .i64 v.b, .int .i64 v.a]] w' fun e w'' => e = .returned (.bool true) ∧ (w''.cell? ⟨P, 0, none⟩ = some (.int .i64 s.r) ∧ w''.cell? ⟨P, 1, none⟩ = some (.int .i64 s.g) ∧ w''.cell? ⟨P, 2, none⟩ = some (.int .i64 s.b) ∧ w''.cell? ⟨P, 3, none⟩ = some (.int .i64 s.a) ∧ w''.cell? ⟨Q, 0, none⟩ = some (.int .i64 d.r) ∧ w''.cell? ⟨Q, 1, none⟩ = some (.int .i64 d.g) ∧ w''.cell? ⟨Q, 2, none⟩ = some (.int .i64 d.b) ∧ w''.cell? ⟨Q, 3, none⟩ = some (.int .i64 d.a) ∧ w''.cell? ⟨T, 0, none⟩ = some (.int .i64 v.r) ∧ w''.cell? ⟨T, 1, none⟩ = some (.int .i64 v.g) ∧ w''.cell? ⟨T, 2, none⟩ = some (.int .i64 v.b) ∧ w''.cell? ⟨T, 3, none⟩ = some (.int .i64 v.a) ∧ Keeps none' w6 w'') := by
    rintro w' ⟨h0, h1, h2, h3, h4, h5, h6, h7, h8, h9, h10, h11, h12⟩
    refine (CV.out w').mono ?_
    rintro e w'' ⟨rfl, k⟩
    exact ⟨rfl, k.cell h0, k.cell h1, k.cell h2, k.cell h3, k.cell h4, k.cell h5, k.cell h6, k.cell h7, k.cell h8, k.cell h9, k.cell h10, k.cell h11, h12.next k⟩
  have CALL2 := Lib.hid CALL2
  go_region_held3 (fun w' => w'.cell? ⟨P, 0, none⟩ = some (.int .i64 s.r) ∧ w'.cell? ⟨P, 1, none⟩ = some (.int .i64 s.g) ∧ w'.cell? ⟨P, 2, none⟩ = some (.int .i64 s.b) ∧ w'.cell? ⟨P, 3, none⟩ = some (.int .i64 s.a) ∧ w'.cell? ⟨Q, 0, none⟩ = some (.int .i64 d.r) ∧ w'.cell? ⟨Q, 1, none⟩ = some (.int .i64 d.g) ∧ w'.cell? ⟨Q, 2, none⟩ = some (.int .i64 d.b) ∧ w'.cell? ⟨Q, 3, none⟩ = some (.int .i64 d.a) ∧ w'.cell? ⟨T, 0, none⟩ = some (.int .i64 v.r) ∧ w'.cell? ⟨T, 1, none⟩ = some (.int .i64 v.g) ∧ w'.cell? ⟨T, 2, none⟩ = some (.int .i64 v.b) ∧ w'.cell? ⟨T, 3, none⟩ = some (.int .i64 v.a) ∧ Keeps none' w6 w') (first | exact ⟨c0, c1, c2, c3, d0, d1, d2, d3, t0, t1, t2, t3, OW.out⟩ | exact ⟨c0, c1, c2, c3, d0, d1, d2, d3, t0, t1, t2, t3, OD.out⟩ | (refine ⟨‹_›, ‹_›, ‹_›, ‹_›, ‹_›, ‹_›, ‹_›, ‹_›, ‹_›, ‹_›, ‹_›, ‹_›, ‹_›⟩) | go_keep) (first | (go_at_call 20; refine (CALL1.out _ ⟨‹_›, ‹_›, ‹_›, ‹_›, ‹_›, ‹_›, ‹_›, ‹_›, ‹_›, ‹_›, ‹_›, ‹_›, ‹_›⟩).mono ?_; rintro e w' ⟨rfl, k0, k1, k2, k3, k4, k5, k6, k7, k8, k9, k10, k11, k12⟩) | (go_at_call 18; refine (CALL2.out _ ⟨‹_›, ‹_›, ‹_›, ‹_›, ‹_›, ‹_›, ‹_›, ‹_›, ‹_›, ‹_›, ‹_›, ‹_›, ‹_›⟩).mono ?_; rintro e w' ⟨rfl, k0, k1, k2, k3, k4, k5, k6, k7, k8, k9, k10, k11, k12⟩))
  all_goals go_wp2_with fail
  all_goals go_ret
  all_goals exact ⟨rfl, L3.out.next (by assumption)⟩
theorem ways_walk (k : Int) (s d : Px.Pix) (w : World) (hW : Ways w) : Calls Tryd.prog 4 #[.int .i64 k, .agg #[.int .i64 s.r, .int .i64 s.g, .int .i64 s.b, .int .i64 s.a], .agg #[.int .i64 d.r, .int .i64 d.g, .int .i64 d.b, .int .i64 d.a]] w (Yes w) := by
  by_cases hs : s.ok
  · by_cases hd : d.ok
    · exact ways_good k s d hs hd w hW
    · exact ways_bad2 k s d hs hd w hW
  · exact ways_bad1 k s d hs w hW
end Go.Proofs.YtfofghakjjblfaaDoor
