/- PixBack. -/
import Derived.Test.YtfofghakjjblfaaDoorPG
namespace Go.Proofs.YtfofghakjjblfaaDoor
open Go.RowKit
set_option linter.unusedVariables false

theorem Keeps.cell {w w' : World} (h : Keeps none' w w') {a : Addr} {v : Value} (hc : w.cell? a = some v) : w'.cell? a = some v :=
  (World.cell?_of_block (w := w) (h.later _ (World.block_lt_of_cell? w _ hc))).trans hc
/-- Two blocks of four that stay. -/
structure Both (w : World) (P T : Nat) (p u : Px.Pix) (wr : World) : Prop where
  one : Four wr P p.r p.g p.b p.a
  two : Four wr T u.r u.g u.b u.a
  keeps : Keeps none' w wr
theorem Both.drewN {w wr : World} {P T : Nat} {p u : Px.Pix} (h : Both w P T p u wr) (n : Nat) : Both w P T p u (wr.drewN n) := ⟨h.one, h.two, h.keeps.drewN n⟩
theorem Both.next {w wr w' : World} {P T : Nat} {p u : Px.Pix} (h : Both w P T p u wr) (k : Keeps none' wr w') : Both w P T p u w' := ⟨h.one.later k, h.two.later k, h.keeps.next k⟩
theorem pixel_yes {p : Px.Pix} (h : p.ok) (w : World) : Calls Tryd.prog 18 #[.agg #[.int .i64 p.r, .int .i64 p.g, .int .i64 p.b, .int .i64 p.a]] w fun e w' => e = .returned (.bool true) ∧ w' = w.alloc (.cells #[.int .i64 p.r, .int .i64 p.g, .int .i64 p.b, .int .i64 p.a] 26) := by
  have := pixel_any p w
  rwa [decide_eq_true h] at this
theorem pixel_no {p : Px.Pix} (h : ¬ p.ok) (w : World) : Calls Tryd.prog 18 #[.agg #[.int .i64 p.r, .int .i64 p.g, .int .i64 p.b, .int .i64 p.a]] w fun e w' => e = .returned (.bool false) ∧ w' = w.alloc (.cells #[.int .i64 p.r, .int .i64 p.g, .int .i64 p.b, .int .i64 p.a] 26) := by
  have := pixel_any p w
  rwa [decide_eq_false h] at this
theorem pixel_yes' {p : Px.Pix} (h : p.ok) (w : World) : Calls Tryd.prog 18 #[.agg #[.int .i64 p.r, .int .i64 p.g, .int .i64 p.b, .int .i64 p.a]] w fun e w' => e = .returned (.bool true) ∧ Keeps none' w w' :=
  (pixel_yes h w).mono (fun _ _ ⟨h1, h2⟩ => ⟨h1, by rw [h2]; exact (Keeps.refl _ _).alloc _⟩)

set_option maxRecDepth 100000 in
set_option maxHeartbeats 1600000 in
theorem back_good (p : Px.Pix) (hp : p.ok) (w : World) (hW : Ways w) : Calls Tryd.prog 8 #[.agg #[.int .i64 p.r, .int .i64 p.g, .int .i64 p.b, .int .i64 p.a]] w (Yes w) := by
  have F0 := Four.new w p.r p.g p.b p.a
  have K0 := (Keeps.refl none' w).alloc (.cells #[.int .i64 p.r, .int .i64 p.g, .int .i64 p.b, .int .i64 p.a] 26)
  obtain ⟨w1, hw1⟩ : ∃ w1, w1 = w.alloc (.cells #[.int .i64 p.r, .int .i64 p.g, .int .i64 p.b, .int .i64 p.a] 26) := ⟨_, rfl⟩
  obtain ⟨P, hP⟩ : ∃ P, P = w.heap.size := ⟨_, rfl⟩
  rw [← hw1] at F0 K0
  rw [← hP] at F0
  have A := Lib.hid (anchor_any w1 (hW.later K0))
  have CP := Lib.hid (fun w => pixel_yes' hp w)
  have CU := Lib.hid (fun w => unmultiply_any p hp.bytes w)
  have CM := Lib.hid (fun w => multiply_any (Px.unmul p) (Px.unmul_bytes hp.bytes) w)
  rw [Px.mult_unmul hp] at CM
  have D0 := Lib.hid (fun w => docBare_any hp.1 hp.2.2.2.1 w)
  have D1 := Lib.hid (fun w => docBare_any hp.2.1 hp.2.2.2.1 w)
  have D2 := Lib.hid (fun w => docBare_any hp.2.2.1 hp.2.2.2.1 w)
  obtain ⟨u, hu⟩ : ∃ u, Px.unmul p = u := ⟨_, rfl⟩
  have U0 : Px.bare p.r p.a = u.r := by rw [← hu]; rfl
  have U1 : Px.bare p.g p.a = u.g := by rw [← hu]; rfl
  have U2 : Px.bare p.b p.a = u.b := by rw [← hu]; rfl
  have U3 : u.a = p.a := by rw [← hu]; rfl
  rw [hu] at CU CM
  rw [U0] at D0
  rw [U1] at D1
  rw [U2] at D2
  obtain ⟨ur, ug, ub, ua⟩ := u
  obtain ⟨pr, pg, pb, pa⟩ := p
  simp only at *
  subst U3
  clear U0 U1 U2 hu hp hW
  have HF := Lib.hid F0
  have HK := Lib.hid K0
  have HP := Lib.hid hP
  have c0 := F0.c0
  have c1 := F0.c1
  have c2 := F0.c2
  have c3 := F0.c3
  clear F0 K0
  go_enter Tryd.func8, Tryd.ntmps8
  go_wp2_with fail
  rw [← hw1, ← hP]
  clear hw1 hP
  refine A.out.mono ?_
  rintro e w2 ⟨rfl, hk⟩
  have HF2 := Lib.hid (HF.out.later hk)
  have HK2 := Lib.hid (HK.out.next hk)
  clear c0 c1 c2 c3 hk
  have c0 := HF2.out.c0
  have c1 := HF2.out.c1
  have c2 := HF2.out.c2
  have c3 := HF2.out.c3
  go_wp2_with fail
  refine (CP.out _).mono ?_
  rintro e w3 ⟨rfl, hk⟩
  have HF3 := Lib.hid (HF2.out.later hk)
  have HK3 := Lib.hid (HK2.out.next hk)
  clear c0 c1 c2 c3 hk
  have c0 := HF3.out.c0
  have c1 := HF3.out.c1
  have c2 := HF3.out.c2
  have c3 := HF3.out.c3
  go_wp2_with fail
  refine (CU.out _).mono ?_
  rintro e w4 ⟨rfl, hk⟩
  have HB := Lib.hid (show Both w P w4.heap.size ⟨pr, pg, pb, ua⟩ ⟨ur, ug, ub, ua⟩ (w4.alloc (.cells #[.int .i64 ur, .int .i64 ug, .int .i64 ub, .int .i64 ua] 26)) from
    ⟨(HF3.out.later hk).alloc _, Four.new _ _ _ _ _, (HK3.out.next hk).alloc _⟩)
  clear c0 c1 c2 c3 hk
  go_wp2_with fail
  generalize w4.alloc (.cells #[.int .i64 ur, .int .i64 ug, .int .i64 ub, .int .i64 ua] 26) = w5 at *
  generalize w4.heap.size = T at *
  go_loopw [4] (Cnt3 (Both w P T ⟨pr, pg, pb, ua⟩ ⟨ur, ug, ub, ua⟩) (Both w P T ⟨pr, pg, pb, ua⟩ ⟨ur, ug, ub, ua⟩) (Both w P T ⟨pr, pg, pb, ua⟩ ⟨ur, ug, ub, ua⟩) (Both w P T ⟨pr, pg, pb, ua⟩ ⟨ur, ug, ub, ua⟩)) (fun cnt _ => 3 - (intOf cnt).toNat)
  case atStart => exact .inl ⟨rfl, HB.out⟩
  case round =>
    rcases hrel with ⟨rfl, hW⟩ | ⟨rfl, hW⟩ | ⟨rfl, hW⟩ | ⟨rfl, hW⟩
    · have p0 := hW.one.c0
      have q0 := hW.two.c0
      have p1 := hW.one.c1
      have q1 := hW.two.c1
      have p2 := hW.one.c2
      have q2 := hW.two.c2
      have p3 := hW.one.c3
      have q3 := hW.two.c3
      have HW := Lib.hid hW
      clear hW
      go_wp2_with fail
      go_quiet ((go_at_call 17; refine Calls.quiet_of_same (D0.out _)))
      go_wp2_with fail
      go_roundw
      case rel => exact .inr (.inl ⟨rfl, HW.out.drewN _⟩)
      case measure => decide
    · have p0 := hW.one.c0
      have q0 := hW.two.c0
      have p1 := hW.one.c1
      have q1 := hW.two.c1
      have p2 := hW.one.c2
      have q2 := hW.two.c2
      have p3 := hW.one.c3
      have q3 := hW.two.c3
      have HW := Lib.hid hW
      clear hW
      go_wp2_with fail
      go_quiet ((go_at_call 17; refine Calls.quiet_of_same (D1.out _)))
      go_wp2_with fail
      go_roundw
      case rel => exact .inr (.inr (.inl ⟨rfl, HW.out.drewN _⟩))
      case measure => decide
    · have p0 := hW.one.c0
      have q0 := hW.two.c0
      have p1 := hW.one.c1
      have q1 := hW.two.c1
      have p2 := hW.one.c2
      have q2 := hW.two.c2
      have p3 := hW.one.c3
      have q3 := hW.two.c3
      have HW := Lib.hid hW
      clear hW
      go_wp2_with fail
      go_quiet ((go_at_call 17; refine Calls.quiet_of_same (D2.out _)))
      go_wp2_with fail
      go_roundw
      case rel => exact .inr (.inr (.inr (⟨rfl, HW.out.drewN _⟩)))
      case measure => decide
    · have p0 := hW.one.c0
      have q0 := hW.two.c0
      have p1 := hW.one.c1
      have q1 := hW.two.c1
      have p2 := hW.one.c2
      have q2 := hW.two.c2
      have p3 := hW.one.c3
      have q3 := hW.two.c3
      have HW := Lib.hid hW
      clear hW
      have OW := Lib.hid (Keeps.refl none' wr)
      have OD := Lib.hid ((Keeps.refl none' wr).drew)
      have CALL : ∀ w', (w'.cell? ⟨P, 0, none⟩ = some (.int .i64 pr) ∧ w'.cell? ⟨P, 1, none⟩ = some (.int .i64 pg) ∧ w'.cell? ⟨P, 2, none⟩ = some (.int .i64 pb) ∧ w'.cell? ⟨P, 3, none⟩ = some (.int .i64 ua) ∧ w'.cell? ⟨T, 0, none⟩ = some (.int .i64 ur) ∧ w'.cell? ⟨T, 1, none⟩ = some (.int .i64 ug) ∧ w'.cell? ⟨T, 2, none⟩ = some (.int .i64 ub) ∧ w'.cell? ⟨T, 3, none⟩ = some (.int .i64 ua) ∧ Keeps none' wr w') → Calls Tryd.prog 27 #[.agg #[.int .i64 ur, .int .i64 ug, .int .i64 ub, .int .i64 ua]] w' fun e w'' => e = .returned (.agg #[.int .i64 pr, .int .i64 pg, .int .i64 pb, .int .i64 ua]) ∧ (w''.cell? ⟨P, 0, none⟩ = some (.int .i64 pr) ∧ w''.cell? ⟨P, 1, none⟩ = some (.int .i64 pg) ∧ w''.cell? ⟨P, 2, none⟩ = some (.int .i64 pb) ∧ w''.cell? ⟨P, 3, none⟩ = some (.int .i64 ua) ∧ w''.cell? ⟨T, 0, none⟩ = some (.int .i64 ur) ∧ w''.cell? ⟨T, 1, none⟩ = some (.int .i64 ug) ∧ w''.cell? ⟨T, 2, none⟩ = some (.int .i64 ub) ∧ w''.cell? ⟨T, 3, none⟩ = some (.int .i64 ua) ∧ Keeps none' wr w'') := by
        rintro w' ⟨h0, h1, h2, h3, h4, h5, h6, h7, h8⟩
        refine (CM.out w').mono ?_
        rintro e w'' ⟨rfl, k⟩
        exact ⟨rfl, k.cell h0, k.cell h1, k.cell h2, k.cell h3, k.cell h4, k.cell h5, k.cell h6, k.cell h7, h8.next k⟩
      have CALL := Lib.hid CALL
      have EQ := fun w => eq26_self pr pg pb ua w
      go_wp2_with fail
      go_region_held3 (fun w' => w'.cell? ⟨P, 0, none⟩ = some (.int .i64 pr) ∧ w'.cell? ⟨P, 1, none⟩ = some (.int .i64 pg) ∧ w'.cell? ⟨P, 2, none⟩ = some (.int .i64 pb) ∧ w'.cell? ⟨P, 3, none⟩ = some (.int .i64 ua) ∧ w'.cell? ⟨T, 0, none⟩ = some (.int .i64 ur) ∧ w'.cell? ⟨T, 1, none⟩ = some (.int .i64 ug) ∧ w'.cell? ⟨T, 2, none⟩ = some (.int .i64 ub) ∧ w'.cell? ⟨T, 3, none⟩ = some (.int .i64 ua) ∧ Keeps none' wr w') (first | exact ⟨p0, p1, p2, p3, q0, q1, q2, q3, OW.out⟩ | exact ⟨p0, p1, p2, p3, q0, q1, q2, q3, OD.out⟩ | (refine ⟨‹_›, ‹_›, ‹_›, ‹_›, ‹_›, ‹_›, ‹_›, ‹_›, ‹_›⟩) | go_keep) (first | (go_at_call 27; refine (CALL.out _ ⟨‹_›, ‹_›, ‹_›, ‹_›, ‹_›, ‹_›, ‹_›, ‹_›, ‹_›⟩).mono ?_; rintro e w' ⟨rfl, k0, k1, k2, k3, k4, k5, k6, k7, k8⟩))
      go_wp2_with fail
      go_ret
      exact ⟨rfl, HW.out.keeps.next k8⟩
theorem back_bad (p : Px.Pix) (hp : ¬ p.ok) (w : World) (hW : Ways w) : Calls Tryd.prog 8 #[.agg #[.int .i64 p.r, .int .i64 p.g, .int .i64 p.b, .int .i64 p.a]] w (Yes w) := by
  have F0 := Four.new w p.r p.g p.b p.a
  have K0 := (Keeps.refl none' w).alloc (.cells #[.int .i64 p.r, .int .i64 p.g, .int .i64 p.b, .int .i64 p.a] 26)
  obtain ⟨w1, hw1⟩ : ∃ w1, w1 = w.alloc (.cells #[.int .i64 p.r, .int .i64 p.g, .int .i64 p.b, .int .i64 p.a] 26) := ⟨_, rfl⟩
  obtain ⟨P, hP⟩ : ∃ P, P = w.heap.size := ⟨_, rfl⟩
  rw [← hw1] at F0 K0
  rw [← hP] at F0
  have A := Lib.hid (anchor_any w1 (hW.later K0))
  have CP := Lib.hid (fun w => pixel_no hp w)
  have HF := Lib.hid F0
  have HK := Lib.hid K0
  clear F0 K0 hW hp
  go_enter Tryd.func8, Tryd.ntmps8
  go_wp2_with fail
  rw [← hw1, ← hP]
  clear hw1 hP
  refine A.out.mono ?_
  rintro e w2 ⟨rfl, hk⟩
  have HF2 := Lib.hid (HF.out.later hk)
  have HK2 := Lib.hid (HK.out.next hk)
  clear hk
  have c0 := HF2.out.c0
  have c1 := HF2.out.c1
  have c2 := HF2.out.c2
  have c3 := HF2.out.c3
  go_wp2_with fail
  refine (CP.out _).mono ?_
  rintro e w3 ⟨rfl, hk⟩
  have HK3 := Lib.hid (show Keeps none' w w3 by rw [hk]; exact HK2.out.alloc _)
  clear hk
  go_wp2_with fail
  go_ret
  exact ⟨rfl, HK3.out⟩
theorem back_walk (p : Px.Pix) (w : World) (hW : Ways w) : Calls Tryd.prog 8 #[.agg #[.int .i64 p.r, .int .i64 p.g, .int .i64 p.b, .int .i64 p.a]] w (Yes w) := by
  by_cases hp : p.ok
  · exact back_good p hp w hW
  · exact back_bad p hp w hW
end Go.Proofs.YtfofghakjjblfaaDoor
