/- PixModes. -/
import Derived.Test.YtfofghakjjblfaaDoorPY
namespace Go.Proofs.YtfofghakjjblfaaDoor
open Go.RowKit
set_option linter.unusedVariables false

theorem full_blend (m x y : Int) (hx : Px.Byte x) (hy : Px.Byte y) : Px.blend m ⟨y, y, y, 255⟩ ⟨x, x, x, 255⟩ = ⟨Px.mixed m x y, Px.mixed m x y, Px.mixed m x y, 255⟩ := by
  unfold Px.blend
  simp only [Px.blended_full hx hy]
  have : Px.whole 255 255 = 255 := by decide
  rw [this]
theorem full_any (m x y : Int) (hx : Px.Byte x) (hy : Px.Byte y) (w : World) : Calls Tryd.prog 21 #[.int .i64 m, .agg #[.int .i64 y, .int .i64 y, .int .i64 y, .int .i64 255], .agg #[.int .i64 x, .int .i64 x, .int .i64 x, .int .i64 255]] w fun e w' => e = .returned (.agg #[.int .i64 (Px.mixed m x y), .int .i64 (Px.mixed m x y), .int .i64 (Px.mixed m x y), .int .i64 255]) ∧ Keeps none' w w' := by
  have := blend_any m ⟨y, y, y, 255⟩ ⟨x, x, x, 255⟩ ⟨hy, hy, hy, show Px.Byte 255 by decide⟩ ⟨hx, hx, hx, show Px.Byte 255 by decide⟩ w
  rw [full_blend m x y hx hy] at this
  exact this
theorem modes_bad1 (k x y : Int) (hx : ¬ Px.Byte x) (w : World) (hW : Ways w) : Calls Tryd.prog 10 #[.int .i64 k, .int .i64 x, .int .i64 y] w (Yes w) := by
  have A := Lib.hid (anchor_any w hW)
  have C := Lib.hid (fun w => byteful_no hx w)
  clear hx hW
  go_enter Tryd.func10, Tryd.ntmps10
  go_wp2_with fail
  refine A.out.mono ?_
  rintro e w2 ⟨rfl, hk⟩
  have HK := Lib.hid hk
  clear hk
  go_wp2_with fail
  refine (C.out _).mono ?_
  rintro e w' ⟨rfl, rfl⟩
  go_wp2_with fail
  go_ret
  exact ⟨rfl, HK.out⟩
theorem modes_bad2 (k x y : Int) (hx : Px.Byte x) (hy : ¬ Px.Byte y) (w : World) (hW : Ways w) : Calls Tryd.prog 10 #[.int .i64 k, .int .i64 x, .int .i64 y] w (Yes w) := by
  have A := Lib.hid (anchor_any w hW)
  have C := Lib.hid (fun w => byteful_yes hx w)
  have D := Lib.hid (fun w => byteful_no hy w)
  clear hx hy hW
  go_enter Tryd.func10, Tryd.ntmps10
  go_wp2_with fail
  refine A.out.mono ?_
  rintro e w2 ⟨rfl, hk⟩
  have HK := Lib.hid hk
  clear hk
  go_wp2_with fail
  refine (C.out _).mono ?_
  rintro e w' ⟨rfl, rfl⟩
  go_wp2_with fail
  refine (D.out _).mono ?_
  rintro e w' ⟨rfl, rfl⟩
  go_wp2_with fail
  go_ret
  exact ⟨rfl, HK.out⟩
set_option maxRecDepth 100000 in
set_option maxHeartbeats 6400000 in
theorem modes_good (k x y : Int) (hx : Px.Byte x) (hy : Px.Byte y) (w : World) (hW : Ways w) : Calls Tryd.prog 10 #[.int .i64 k, .int .i64 x, .int .i64 y] w (Yes w) := by
  have A := Lib.hid (anchor_any w hW)
  have C := Lib.hid (fun w => byteful_yes hx w)
  have D := Lib.hid (fun w => byteful_yes hy w)
  have M := Lib.hid (fun w => full_any k x y hx hy w)
  have B := Lib.hid (fun w => B_any (m := k) hx hy w)
  have EK := fun w => eq26_self (Px.mixed k x y) (Px.mixed k x y) (Px.mixed k x y) 255 w
  have s9 : Px.mixed 9 y x = Px.mixed 9 x y := by show max y x - min y x = max x y - min x y; omega
  have s1 : Px.mixed 1 y x = Px.mixed 1 x y := Px.mul_comm y x
  have s2 : Px.mixed 2 y x = Px.mixed 2 x y := by show y + x - Px.mul y x = x + y - Px.mul x y; rw [Px.mul_comm y x]; omega
  have s3 : Px.mixed 8 y x = Px.mixed 3 x y := rfl
  have E9 := fun w => eq26_self (Px.mixed 9 x y) (Px.mixed 9 x y) (Px.mixed 9 x y) 255 w
  have E1 := fun w => eq26_self (Px.mixed 1 x y) (Px.mixed 1 x y) (Px.mixed 1 x y) 255 w
  have E2 := fun w => eq26_self (Px.mixed 2 x y) (Px.mixed 2 x y) (Px.mixed 2 x y) 255 w
  have E3 := fun w => eq26_self (Px.mixed 3 x y) (Px.mixed 3 x y) (Px.mixed 3 x y) 255 w
  have E0 := fun w => eq26_self y y y 255 w
  have s0 : Px.mixed 0 x y = y := rfl
  have SS := Lib.hid (And.intro s9 (And.intro s1 (And.intro s2 (And.intro s3 s0))))
  clear s9 s1 s2 s3 s0
  clear hW
  go_enter Tryd.func10, Tryd.ntmps10
  go_wp2_with fail
  refine A.out.mono ?_
  rintro e w2 ⟨rfl, hk⟩
  have HK := Lib.hid hk
  clear hk A
  go_wp2_with fail
  refine (C.out _).mono ?_
  rintro e w2 ⟨rfl, rfl⟩
  go_wp2_with fail
  refine (D.out _).mono ?_
  rintro e w2 ⟨rfl, rfl⟩
  go_wp2_with fail
  have G1 := Lib.hid ((Four.new w2 x x x 255).alloc (.cells #[.int .i64 y, .int .i64 y, .int .i64 y, .int .i64 255] 26))
  have G2 := Lib.hid (Four.new (w2.alloc (.cells #[.int .i64 x, .int .i64 x, .int .i64 x, .int .i64 255] 26)) y y y 255)
  have G3 := Lib.hid ((HK.out.alloc (.cells #[.int .i64 x, .int .i64 x, .int .i64 x, .int .i64 255] 26)).alloc (.cells #[.int .i64 y, .int .i64 y, .int .i64 y, .int .i64 255] 26))
  obtain ⟨S, hS⟩ : ∃ S, S = (w2.alloc (.cells #[.int .i64 x, .int .i64 x, .int .i64 x, .int .i64 255] 26)).heap.size := ⟨_, rfl⟩
  rw [← hS] at G2
  rw [show (w2.alloc (.cells #[.int .i64 x, .int .i64 x, .int .i64 x, .int .i64 255] 26)).heap.size = w2.heap.size + 1 by simp] at hS
  rw [← hS]
  clear hS
  generalize (w2.alloc (.cells #[.int .i64 x, .int .i64 x, .int .i64 x, .int .i64 255] 26)).alloc (.cells #[.int .i64 y, .int .i64 y, .int .i64 y, .int .i64 255] 26) = w3 at *
  generalize w2.heap.size = D at *
  refine (M.out _).mono ?_
  rintro e w4 ⟨rfl, hk⟩
  have H1 := Lib.hid ((G1.out.later hk).alloc (.cells #[.int .i64 (Px.mixed k x y), .int .i64 (Px.mixed k x y), .int .i64 (Px.mixed k x y), .int .i64 255] 26))
  have H2 := Lib.hid ((G2.out.later hk).alloc (.cells #[.int .i64 (Px.mixed k x y), .int .i64 (Px.mixed k x y), .int .i64 (Px.mixed k x y), .int .i64 255] 26))
  have H3 := Lib.hid ((G3.out.next hk).alloc (.cells #[.int .i64 (Px.mixed k x y), .int .i64 (Px.mixed k x y), .int .i64 (Px.mixed k x y), .int .i64 255] 26))
  have H4 := Lib.hid (Four.new w4 (Px.mixed k x y) (Px.mixed k x y) (Px.mixed k x y) 255)
  clear hk G1 G2 G3
  have e0 := H4.out.c0
  have e1 := H4.out.c1
  have e2 := H4.out.c2
  have e3 := H4.out.c3
  go_wp2_with fail
  refine (B.out _).mono ?_
  rintro e w6 ⟨hee, hw6⟩
  subst hee
  rw [← hw6] at H1 H2 H3 H4 e0 e1 e2 e3
  clear hw6
  go_wp2_with fail
  clear e0 e1 e2 e3 H4
  have c0 := H2.out.c0
  have c1 := H2.out.c1
  have c2 := H2.out.c2
  have c3 := H2.out.c3
  have d0 := H1.out.c0
  have d1 := H1.out.c1
  have d2 := H1.out.c2
  have d3 := H1.out.c3
  have OW := Lib.hid (Keeps.refl none' w6)
  have OD := Lib.hid ((Keeps.refl none' w6).drew)
  have CALL : ∀ (m p q : Int), Px.Byte p → Px.Byte q → ∀ w', (w'.cell? ⟨D, 0, none⟩ = some (.int .i64 x) ∧ w'.cell? ⟨D, 1, none⟩ = some (.int .i64 x) ∧ w'.cell? ⟨D, 2, none⟩ = some (.int .i64 x) ∧ w'.cell? ⟨D, 3, none⟩ = some (.int .i64 255) ∧ w'.cell? ⟨S, 0, none⟩ = some (.int .i64 y) ∧ w'.cell? ⟨S, 1, none⟩ = some (.int .i64 y) ∧ w'.cell? ⟨S, 2, none⟩ = some (.int .i64 y) ∧ w'.cell? ⟨S, 3, none⟩ = some (.int .i64 255) ∧ Keeps none' w6 w') → Calls Tryd.prog 21 #[.int .i64 m, .agg #[.int .i64 q, .int .i64 q, .int .i64 q, .int .i64 255], .agg #[.int .i64 p, .int .i64 p, .int .i64 p, .int .i64 255]] w' fun e w'' => e = .returned (.agg #[.int .i64 (Px.mixed m p q), .int .i64 (Px.mixed m p q), .int .i64 (Px.mixed m p q), .int .i64 255]) ∧ (w''.cell? ⟨D, 0, none⟩ = some (.int .i64 x) ∧ w''.cell? ⟨D, 1, none⟩ = some (.int .i64 x) ∧ w''.cell? ⟨D, 2, none⟩ = some (.int .i64 x) ∧ w''.cell? ⟨D, 3, none⟩ = some (.int .i64 255) ∧ w''.cell? ⟨S, 0, none⟩ = some (.int .i64 y) ∧ w''.cell? ⟨S, 1, none⟩ = some (.int .i64 y) ∧ w''.cell? ⟨S, 2, none⟩ = some (.int .i64 y) ∧ w''.cell? ⟨S, 3, none⟩ = some (.int .i64 255) ∧ Keeps none' w6 w'') := by
    rintro m p q hp hq w' ⟨h0, h1, h2, h3, h4, h5, h6, h7, h8⟩
    refine (full_any m p q hp hq w').mono ?_
    rintro e w'' ⟨rfl, k⟩
    exact ⟨rfl, k.cell h0, k.cell h1, k.cell h2, k.cell h3, k.cell h4, k.cell h5, k.cell h6, k.cell h7, h8.next k⟩
  have CALL := Lib.hid CALL
  obtain ⟨s9, s1, s2, s3, s0⟩ := SS.out
  go_region_held3 (fun w' => w'.cell? ⟨D, 0, none⟩ = some (.int .i64 x) ∧ w'.cell? ⟨D, 1, none⟩ = some (.int .i64 x) ∧ w'.cell? ⟨D, 2, none⟩ = some (.int .i64 x) ∧ w'.cell? ⟨D, 3, none⟩ = some (.int .i64 255) ∧ w'.cell? ⟨S, 0, none⟩ = some (.int .i64 y) ∧ w'.cell? ⟨S, 1, none⟩ = some (.int .i64 y) ∧ w'.cell? ⟨S, 2, none⟩ = some (.int .i64 y) ∧ w'.cell? ⟨S, 3, none⟩ = some (.int .i64 255) ∧ Keeps none' w6 w') (first | exact ⟨d0, d1, d2, d3, c0, c1, c2, c3, OW.out⟩ | exact ⟨d0, d1, d2, d3, c0, c1, c2, c3, OD.out⟩ | (refine ⟨‹_›, ‹_›, ‹_›, ‹_›, ‹_›, ‹_›, ‹_›, ‹_›, ‹_›⟩) | go_keep) (first | (go_at_call 21; (with_reducible refine (CALL.out _ _ _ ?_ ?_ _ ?_).mono ?_); (first | exact hx | exact hy); (first | exact hx | exact hy); (first | exact ⟨‹_›, ‹_›, ‹_›, ‹_›, ‹_›, ‹_›, ‹_›, ‹_›, ‹_›⟩ | exact ⟨d0, d1, d2, d3, c0, c1, c2, c3, OD.out⟩); rintro e w' ⟨rfl, k0, k1, k2, k3, k4, k5, k6, k7, k8⟩))
  obtain ⟨w7, hw7⟩ : ∃ w7, w7 = w' := ⟨_, rfl⟩
  have KK := Lib.hid (H3.out.next k8)
  clear k8 d0 d1 d2 d3 c0 c1 c2 c3 OW OD CALL H1 H2 H3 s9 s1 s2 s3 E9 E1 E2 E3 M B EK
  rw [← hw7] at KK k0 k1 k2 k3 k4 k5 k6 k7
  rw [← hw7]
  clear hw7
  have OW := Lib.hid (Keeps.refl none' w7)
  have OD := Lib.hid ((Keeps.refl none' w7).drew)
  have CALL2 : ∀ (m p q : Int), Px.Byte p → Px.Byte q → ∀ w', (w'.cell? ⟨D, 0, none⟩ = some (.int .i64 x) ∧ w'.cell? ⟨D, 1, none⟩ = some (.int .i64 x) ∧ w'.cell? ⟨D, 2, none⟩ = some (.int .i64 x) ∧ w'.cell? ⟨D, 3, none⟩ = some (.int .i64 255) ∧ w'.cell? ⟨S, 0, none⟩ = some (.int .i64 y) ∧ w'.cell? ⟨S, 1, none⟩ = some (.int .i64 y) ∧ w'.cell? ⟨S, 2, none⟩ = some (.int .i64 y) ∧ w'.cell? ⟨S, 3, none⟩ = some (.int .i64 255) ∧ Keeps none' w7 w') → Calls Tryd.prog 21 #[.int .i64 m, .agg #[.int .i64 q, .int .i64 q, .int .i64 q, .int .i64 255], .agg #[.int .i64 p, .int .i64 p, .int .i64 p, .int .i64 255]] w' fun e w'' => e = .returned (.agg #[.int .i64 (Px.mixed m p q), .int .i64 (Px.mixed m p q), .int .i64 (Px.mixed m p q), .int .i64 255]) ∧ (w''.cell? ⟨D, 0, none⟩ = some (.int .i64 x) ∧ w''.cell? ⟨D, 1, none⟩ = some (.int .i64 x) ∧ w''.cell? ⟨D, 2, none⟩ = some (.int .i64 x) ∧ w''.cell? ⟨D, 3, none⟩ = some (.int .i64 255) ∧ w''.cell? ⟨S, 0, none⟩ = some (.int .i64 y) ∧ w''.cell? ⟨S, 1, none⟩ = some (.int .i64 y) ∧ w''.cell? ⟨S, 2, none⟩ = some (.int .i64 y) ∧ w''.cell? ⟨S, 3, none⟩ = some (.int .i64 255) ∧ Keeps none' w7 w'') := by
    rintro m p q hp hq w' ⟨h0, h1, h2, h3, h4, h5, h6, h7, h8⟩
    refine (full_any m p q hp hq w').mono ?_
    rintro e w'' ⟨rfl, k⟩
    exact ⟨rfl, k.cell h0, k.cell h1, k.cell h2, k.cell h3, k.cell h4, k.cell h5, k.cell h6, k.cell h7, h8.next k⟩
  have CALL2 := Lib.hid CALL2
  have q4 := fun w => at26_0 (Px.mixed 4 x y) (Px.mixed 4 x y) (Px.mixed 4 x y) 255 w
  have q5 := fun w => at26_0 (Px.mixed 5 x y) (Px.mixed 5 x y) (Px.mixed 5 x y) 255 w
  have m4 : (if y < x then y else x) = Px.mixed 4 x y := by show _ = min x y; omega
  have m5 : (if x < y then y else x) = Px.mixed 5 x y := by show _ = max x y; omega
  go_wp2_with fail
  go_region_held3 (fun w' => w'.cell? ⟨D, 0, none⟩ = some (.int .i64 x) ∧ w'.cell? ⟨D, 1, none⟩ = some (.int .i64 x) ∧ w'.cell? ⟨D, 2, none⟩ = some (.int .i64 x) ∧ w'.cell? ⟨D, 3, none⟩ = some (.int .i64 255) ∧ w'.cell? ⟨S, 0, none⟩ = some (.int .i64 y) ∧ w'.cell? ⟨S, 1, none⟩ = some (.int .i64 y) ∧ w'.cell? ⟨S, 2, none⟩ = some (.int .i64 y) ∧ w'.cell? ⟨S, 3, none⟩ = some (.int .i64 255) ∧ Keeps none' w7 w') (first | exact ⟨k0, k1, k2, k3, k4, k5, k6, k7, OW.out⟩ | exact ⟨k0, k1, k2, k3, k4, k5, k6, k7, OD.out⟩ | (refine ⟨‹_›, ‹_›, ‹_›, ‹_›, ‹_›, ‹_›, ‹_›, ‹_›, ‹_›⟩) | go_keep) (first | (go_at_call 21; (with_reducible refine (CALL2.out _ _ _ ?_ ?_ _ ?_).mono ?_); (first | exact hx | exact hy); (first | exact hx | exact hy); (first | exact ⟨‹_›, ‹_›, ‹_›, ‹_›, ‹_›, ‹_›, ‹_›, ‹_›, ‹_›⟩ | exact ⟨k0, k1, k2, k3, k4, k5, k6, k7, OD.out⟩); rintro e w' ⟨rfl, j0, j1, j2, j3, j4, j5, j6, j7, j8⟩))
  all_goals try go_wp2_with fail
  all_goals go_ret
  all_goals exact ⟨rfl, KK.out.next j8⟩
theorem modes_walk (k x y : Int) (w : World) (hW : Ways w) : Calls Tryd.prog 10 #[.int .i64 k, .int .i64 x, .int .i64 y] w (Yes w) := by
  by_cases hx : Px.Byte x
  · by_cases hy : Px.Byte y
    · exact modes_good k x y hx hy w hW
    · exact modes_bad2 k x y hx hy w hW
  · exact modes_bad1 k x y hx w hW
end Go.Proofs.YtfofghakjjblfaaDoor
