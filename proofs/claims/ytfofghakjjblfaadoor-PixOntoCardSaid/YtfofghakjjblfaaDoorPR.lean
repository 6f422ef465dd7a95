/- PixOnto. -/
import Derived.Test.YtfofghakjjblfaaDoorPX
namespace Go.Proofs.YtfofghakjjblfaaDoor
open Go.RowKit
set_option linter.unusedVariables false

namespace Px
theorem byte_min {c : Int} (h : Byte c) : min c 255 = c := by unfold Byte at h; omega
theorem laid_all {k A S s d : Int} (hs : Byte s) (h1 : F k A = 255) (h2 : mul d (G k S) = 0) : laid k A S s d = s := by
  unfold laid; rw [h1, h2, mul_full, Int.add_zero, byte_min hs]
theorem laid_gnd {k A S s d : Int} (hd : Byte d) (h1 : mul s (F k A) = 0) (h2 : G k S = 255) : laid k A S s d = d := by
  unfold laid; rw [h1, h2, mul_full, Int.zero_add, byte_min hd]
theorem laid_none {k A S s d : Int} (h1 : mul s (F k A) = 0) (h2 : mul d (G k S) = 0) : laid k A S s d = 0 := by
  unfold laid; rw [h1, h2]; decide
theorem o1 (d : Pix) (h : d.ok) : way 3 nothing d = d := by
  obtain ⟨h1, h2, h3, h4, -⟩ := h
  unfold way nothing
  simp only [laid_gnd h1 (k := 3) (S := 0) (zero_mul _) (show G 3 0 = 255 from rfl), laid_gnd h2 (k := 3) (S := 0) (zero_mul _) (show G 3 0 = 255 from rfl), laid_gnd h3 (k := 3) (S := 0) (zero_mul _) (show G 3 0 = 255 from rfl), laid_gnd h4 (k := 3) (S := 0) (zero_mul _) (show G 3 0 = 255 from rfl)]
theorem on_none {k : Int} (s : Pix) (h : s.ok) (hF : F k 0 = 255) : way k s nothing = s := by
  obtain ⟨h1, h2, h3, h4, -⟩ := h
  unfold way nothing
  simp only [laid_all h1 hF (zero_mul _), laid_all h2 hF (zero_mul _), laid_all h3 hF (zero_mul _), laid_all h4 hF (zero_mul _)]
theorem o4 (s : Pix) : way 5 s nothing = nothing := by
  unfold way nothing
  have e : ∀ c : Int, mul c (F 5 0) = 0 := fun c => by rw [show F 5 0 = 0 from rfl, mul_zero]
  simp only [laid_none (e _) (zero_mul _)]
theorem o6 (s d : Pix) : way 0 s d = nothing := by
  unfold way nothing
  have e : ∀ c A : Int, mul c (F 0 A) = 0 := fun c A => by rw [show F 0 A = 0 from rfl, mul_zero]
  have g : ∀ c A : Int, mul c (G 0 A) = 0 := fun c A => by rw [show G 0 A = 0 from rfl, mul_zero]
  simp only [laid_none (e _ _) (g _ _)]
theorem o7 (s d : Pix) (h : s.ok) : way 1 s d = s := by
  obtain ⟨h1, h2, h3, h4, -⟩ := h
  unfold way
  have g : ∀ c A : Int, mul c (G 1 A) = 0 := fun c A => by rw [show G 1 A = 0 from rfl, mul_zero]
  simp only [laid_all h1 (show F 1 d.a = 255 from rfl) (g _ _), laid_all h2 (show F 1 d.a = 255 from rfl) (g _ _), laid_all h3 (show F 1 d.a = 255 from rfl) (g _ _), laid_all h4 (show F 1 d.a = 255 from rfl) (g _ _)]
theorem o8 (s d : Pix) (h : d.ok) : way 2 s d = d := by
  obtain ⟨h1, h2, h3, h4, -⟩ := h
  unfold way
  have g : ∀ c A : Int, mul c (F 2 A) = 0 := fun c A => by rw [show F 2 A = 0 from rfl, mul_zero]
  simp only [laid_gnd h1 (g _ _) (show G 2 s.a = 255 from rfl), laid_gnd h2 (g _ _) (show G 2 s.a = 255 from rfl), laid_gnd h3 (g _ _) (show G 2 s.a = 255 from rfl), laid_gnd h4 (g _ _) (show G 2 s.a = 255 from rfl)]
theorem full3 (S : Int) (h : Byte S) : laid 3 255 S S 255 = 255 := by
  unfold laid; rw [show F 3 255 = 255 from rfl, show G 3 S = 255 - S from rfl, mul_full, full_mul]; omega
theorem full9 (S : Int) (h : Byte S) : laid 9 255 S S 255 = 255 := by
  unfold laid; rw [show F 9 255 = 255 from rfl, show G 9 S = 255 - S from rfl, mul_full, full_mul]; omega
end Px
theorem onto_bad1 (s d : Px.Pix) (hs : ¬ s.ok) (w : World) (hW : Ways w) : Calls Tryd.prog 9 #[.agg #[.int .i64 s.r, .int .i64 s.g, .int .i64 s.b, .int .i64 s.a], .agg #[.int .i64 d.r, .int .i64 d.g, .int .i64 d.b, .int .i64 d.a]] w (Yes w) := by
  obtain ⟨F1, F2, K0⟩ := two_new w s d
  obtain ⟨w1, hw1⟩ : ∃ w1, w1 = ((w.alloc (.cells #[.int .i64 s.r, .int .i64 s.g, .int .i64 s.b, .int .i64 s.a] 26)).alloc (.cells #[.int .i64 d.r, .int .i64 d.g, .int .i64 d.b, .int .i64 d.a] 26)) := ⟨_, rfl⟩
  obtain ⟨P, hP⟩ : ∃ P, P = w.heap.size := ⟨_, rfl⟩
  obtain ⟨Q, hQ⟩ : ∃ Q, Q = P + 1 := ⟨_, rfl⟩
  rw [← hw1] at F1 F2 K0
  rw [← hP] at F1 F2
  rw [← hQ] at F2
  have A := Lib.hid (anchor_any w1 (hW.later K0))
  have CS := Lib.hid (fun w => pixel_no' hs w)
  clear hs hW
  have G1 := Lib.hid F1
  have G2 := Lib.hid F2
  have G3 := Lib.hid K0
  clear F1 F2 K0
  go_enter Tryd.func9, Tryd.ntmps9
  go_wp2_with fail
  rw [← hw1, ← hP, ← hQ]
  clear hw1 hP hQ
  refine A.out.mono ?_
  rintro e w2 ⟨rfl, hk⟩
  have H1 := Lib.hid (G1.out.later hk)
  have H2 := Lib.hid (G2.out.later hk)
  have H3 := Lib.hid (G3.out.next hk)
  clear hk G1 G2 G3
  have c0 := H1.out.c0
  have c1 := H1.out.c1
  have c2 := H1.out.c2
  have c3 := H1.out.c3
  go_wp2_with fail
  refine (CS.out _).mono ?_
  rintro e w3 ⟨rfl, hk⟩
  have I1 := Lib.hid (H1.out.later hk)
  have I2 := Lib.hid (H2.out.later hk)
  have I3 := Lib.hid (H3.out.next hk)
  clear hk H1 H2 H3 c0 c1 c2 c3
  go_wp2_with fail
  go_ret
  exact ⟨rfl, I3.out⟩
theorem onto_bad2 (s d : Px.Pix) (hs : s.ok) (hd : ¬ d.ok) (w : World) (hW : Ways w) : Calls Tryd.prog 9 #[.agg #[.int .i64 s.r, .int .i64 s.g, .int .i64 s.b, .int .i64 s.a], .agg #[.int .i64 d.r, .int .i64 d.g, .int .i64 d.b, .int .i64 d.a]] w (Yes w) := by
  obtain ⟨F1, F2, K0⟩ := two_new w s d
  obtain ⟨w1, hw1⟩ : ∃ w1, w1 = ((w.alloc (.cells #[.int .i64 s.r, .int .i64 s.g, .int .i64 s.b, .int .i64 s.a] 26)).alloc (.cells #[.int .i64 d.r, .int .i64 d.g, .int .i64 d.b, .int .i64 d.a] 26)) := ⟨_, rfl⟩
  obtain ⟨P, hP⟩ : ∃ P, P = w.heap.size := ⟨_, rfl⟩
  obtain ⟨Q, hQ⟩ : ∃ Q, Q = P + 1 := ⟨_, rfl⟩
  rw [← hw1] at F1 F2 K0
  rw [← hP] at F1 F2
  rw [← hQ] at F2
  have A := Lib.hid (anchor_any w1 (hW.later K0))
  have CS := Lib.hid (fun w => pixel_yes' hs w)
  have CD := Lib.hid (fun w => pixel_no' hd w)
  clear hs hd hW
  have G1 := Lib.hid F1
  have G2 := Lib.hid F2
  have G3 := Lib.hid K0
  clear F1 F2 K0
  go_enter Tryd.func9, Tryd.ntmps9
  go_wp2_with fail
  rw [← hw1, ← hP, ← hQ]
  clear hw1 hP hQ
  refine A.out.mono ?_
  rintro e w2 ⟨rfl, hk⟩
  have H1 := Lib.hid (G1.out.later hk)
  have H2 := Lib.hid (G2.out.later hk)
  have H3 := Lib.hid (G3.out.next hk)
  clear hk G1 G2 G3
  have c0 := H1.out.c0
  have c1 := H1.out.c1
  have c2 := H1.out.c2
  have c3 := H1.out.c3
  go_wp2_with fail
  refine (CS.out _).mono ?_
  rintro e w3 ⟨rfl, hk⟩
  have I1 := Lib.hid (H1.out.later hk)
  have I2 := Lib.hid (H2.out.later hk)
  have I3 := Lib.hid (H3.out.next hk)
  clear hk H1 H2 H3 c0 c1 c2 c3
  have d0 := I2.out.c0
  have d1 := I2.out.c1
  have d2 := I2.out.c2
  have d3 := I2.out.c3
  go_wp2_with fail
  refine (CD.out _).mono ?_
  rintro e w4 ⟨rfl, hk⟩
  have J1 := Lib.hid (I1.out.later hk)
  have J2 := Lib.hid (I2.out.later hk)
  have J3 := Lib.hid (I3.out.next hk)
  clear hk I1 I2 I3 d0 d1 d2 d3
  go_wp2_with fail
  go_ret
  exact ⟨rfl, J3.out⟩
theorem turn_at : ∀ (n : Nat), n < 12 → ∀ w : World, (Instr.index 37 (.agg #[.int .i64 0, .int .i64 2, .int .i64 1, .int .i64 4, .int .i64 3, .int .i64 6, .int .i64 5, .int .i64 8, .int .i64 7, .int .i64 10, .int .i64 9, .int .i64 11]) (.int .i64 (n : Int))).run Tryd.prog w = .ok (.int .i64 (Px.turned n : Int)) w
  | 0, _, w => by kernel_rfl
  | 1, _, w => by kernel_rfl
  | 2, _, w => by kernel_rfl
  | 3, _, w => by kernel_rfl
  | 4, _, w => by kernel_rfl
  | 5, _, w => by kernel_rfl
  | 6, _, w => by kernel_rfl
  | 7, _, w => by kernel_rfl
  | 8, _, w => by kernel_rfl
  | 9, _, w => by kernel_rfl
  | 10, _, w => by kernel_rfl
  | 11, _, w => by kernel_rfl
  | n + 12, h, w => absurd h (by omega)
set_option maxRecDepth 100000 in
set_option maxHeartbeats 6400000 in
theorem onto_good (s d : Px.Pix) (hs : s.ok) (hd : d.ok) (w : World) (hW : Ways w) : Calls Tryd.prog 9 #[.agg #[.int .i64 s.r, .int .i64 s.g, .int .i64 s.b, .int .i64 s.a], .agg #[.int .i64 d.r, .int .i64 d.g, .int .i64 d.b, .int .i64 d.a]] w (Yes w) := by
  obtain ⟨F1, F2, K0⟩ := two_new w s d
  obtain ⟨w1, hw1⟩ : ∃ w1, w1 = ((w.alloc (.cells #[.int .i64 s.r, .int .i64 s.g, .int .i64 s.b, .int .i64 s.a] 26)).alloc (.cells #[.int .i64 d.r, .int .i64 d.g, .int .i64 d.b, .int .i64 d.a] 26)) := ⟨_, rfl⟩
  obtain ⟨P, hP⟩ : ∃ P, P = w.heap.size := ⟨_, rfl⟩
  obtain ⟨Q, hQ⟩ : ∃ Q, Q = P + 1 := ⟨_, rfl⟩
  rw [← hw1] at F1 F2 K0
  rw [← hP] at F1 F2
  rw [← hQ] at F2
  have A := Lib.hid (anchor_any w1 (hW.later K0))
  have CS := Lib.hid (fun w => pixel_yes' hs w)
  have CD := Lib.hid (fun w => pixel_yes' hd w)
  have Y1 := fun w h => way_any 3 Px.nothing d Px.nothing_ok.bytes hd.bytes w h
  rw [Px.o1 d hd] at Y1
  have Y2 := fun w h => way_any 3 s Px.nothing hs.bytes Px.nothing_ok.bytes w h
  rw [Px.on_none s hs rfl] at Y2
  have Y3 := fun w h => way_any 4 s Px.nothing hs.bytes Px.nothing_ok.bytes w h
  rw [Px.on_none s hs rfl] at Y3
  have Y4 := fun w h => way_any 5 s Px.nothing hs.bytes Px.nothing_ok.bytes w h
  rw [Px.o4 s] at Y4
  have Y5 := fun w h => way_any 7 s Px.nothing hs.bytes Px.nothing_ok.bytes w h
  rw [Px.on_none s hs rfl] at Y5
  have Y6 := fun w h => way_any 0 s d hs.bytes hd.bytes w h
  rw [Px.o6 s d] at Y6
  have Y7 := fun w h => way_any 1 s d hs.bytes hd.bytes w h
  rw [Px.o7 s d hs] at Y7
  have Y8 := fun w h => way_any 2 s d hs.bytes hd.bytes w h
  rw [Px.o8 s d hd] at Y8
  simp only [Px.nothing] at Y1 Y2 Y3 Y4 Y5 Y6 Y7 Y8
  have C1 := Lib.hid Y1
  have C2 := Lib.hid Y2
  have C3 := Lib.hid Y3
  have C4 := Lib.hid Y4
  have C5 := Lib.hid Y5
  have C6 := Lib.hid Y6
  have C7 := Lib.hid Y7
  have C8 := Lib.hid Y8
  clear Y1 Y2 Y3 Y4 Y5 Y6 Y7 Y8
  have EQ1 := fun w => eq26_self s.r s.g s.b s.a w
  have EQ2 := fun w => eq26_self d.r d.g d.b d.a w
  have EQ3 := fun w => eq26_self 0 0 0 0 w
  have HS := Lib.hid hs
  have HD := Lib.hid hd
  have WW := Lib.hid hW
  have LOW := Lib.hid (show w.heap.size ≤ P ∧ P < Q by omega)
  clear hs hd hW
  have G1 := Lib.hid F1
  have G2 := Lib.hid F2
  have G3 := Lib.hid K0
  clear F1 F2 K0
  go_enter Tryd.func9, Tryd.ntmps9
  go_wp2_with fail
  rw [← hw1, ← hP, ← hQ]
  clear hw1 hP hQ
  refine A.out.mono ?_
  rintro e w2 ⟨rfl, hk⟩
  have H1 := Lib.hid (G1.out.later hk)
  have H2 := Lib.hid (G2.out.later hk)
  have H3 := Lib.hid (G3.out.next hk)
  clear hk G1 G2 G3
  have c0 := H1.out.c0
  have c1 := H1.out.c1
  have c2 := H1.out.c2
  have c3 := H1.out.c3
  go_wp2_with fail
  refine (CS.out _).mono ?_
  rintro e w3 ⟨rfl, hk⟩
  have I1 := Lib.hid (H1.out.later hk)
  have I2 := Lib.hid (H2.out.later hk)
  have I3 := Lib.hid (H3.out.next hk)
  clear hk H1 H2 H3 c0 c1 c2 c3
  have d0 := I2.out.c0
  have d1 := I2.out.c1
  have d2 := I2.out.c2
  have d3 := I2.out.c3
  go_wp2_with fail
  refine (CD.out _).mono ?_
  rintro e w4 ⟨rfl, hk⟩
  have J1 := Lib.hid (I1.out.later hk)
  have J2 := Lib.hid (I2.out.later hk)
  have J3 := Lib.hid (I3.out.next hk)
  clear hk I1 I2 I3 d0 d1 d2 d3
  have L1 := Lib.hid (J1.out.alloc (.cells #[.int .i64 0, .int .i64 0, .int .i64 0, .int .i64 0] 26))
  have L2 := Lib.hid (J2.out.alloc (.cells #[.int .i64 0, .int .i64 0, .int .i64 0, .int .i64 0] 26))
  have L3 := Lib.hid (J3.out.alloc (.cells #[.int .i64 0, .int .i64 0, .int .i64 0, .int .i64 0] 26))
  have L4 := Lib.hid (Four.new w4 0 0 0 0)
  clear J1 J2 J3 A CS CD
  go_wp2_with fail
  generalize w4.alloc (.cells #[.int .i64 0, .int .i64 0, .int .i64 0, .int .i64 0] 26) = w6 at *
  generalize w4.heap.size = Z at *
  have c0 := L1.out.c0
  have c1 := L1.out.c1
  have c2 := L1.out.c2
  have c3 := L1.out.c3
  have d0 := L2.out.c0
  have d1 := L2.out.c1
  have d2 := L2.out.c2
  have d3 := L2.out.c3
  have z0 := L4.out.c0
  have z1 := L4.out.c1
  have z2 := L4.out.c2
  have z3 := L4.out.c3
  have OW := Lib.hid (Keeps.refl none' w6)
  have OD := Lib.hid ((Keeps.refl none' w6).drew)
  have D1 : ∀ w', (w'.cell? ⟨P, 0, none⟩ = some (.int .i64 s.r) ∧ w'.cell? ⟨P, 1, none⟩ = some (.int .i64 s.g) ∧ w'.cell? ⟨P, 2, none⟩ = some (.int .i64 s.b) ∧ w'.cell? ⟨P, 3, none⟩ = some (.int .i64 s.a) ∧ w'.cell? ⟨Q, 0, none⟩ = some (.int .i64 d.r) ∧ w'.cell? ⟨Q, 1, none⟩ = some (.int .i64 d.g) ∧ w'.cell? ⟨Q, 2, none⟩ = some (.int .i64 d.b) ∧ w'.cell? ⟨Q, 3, none⟩ = some (.int .i64 d.a) ∧ w'.cell? ⟨Z, 0, none⟩ = some (.int .i64 0) ∧ w'.cell? ⟨Z, 1, none⟩ = some (.int .i64 0) ∧ w'.cell? ⟨Z, 2, none⟩ = some (.int .i64 0) ∧ w'.cell? ⟨Z, 3, none⟩ = some (.int .i64 0) ∧ Keeps none' w6 w') → Calls Tryd.prog 19 #[.int .i64 3, .agg #[.int .i64 0, .int .i64 0, .int .i64 0, .int .i64 0], .agg #[.int .i64 d.r, .int .i64 d.g, .int .i64 d.b, .int .i64 d.a]] w' fun e w'' => e = .returned (.agg #[.int .i64 d.r, .int .i64 d.g, .int .i64 d.b, .int .i64 d.a]) ∧ (w''.cell? ⟨P, 0, none⟩ = some (.int .i64 s.r) ∧ w''.cell? ⟨P, 1, none⟩ = some (.int .i64 s.g) ∧ w''.cell? ⟨P, 2, none⟩ = some (.int .i64 s.b) ∧ w''.cell? ⟨P, 3, none⟩ = some (.int .i64 s.a) ∧ w''.cell? ⟨Q, 0, none⟩ = some (.int .i64 d.r) ∧ w''.cell? ⟨Q, 1, none⟩ = some (.int .i64 d.g) ∧ w''.cell? ⟨Q, 2, none⟩ = some (.int .i64 d.b) ∧ w''.cell? ⟨Q, 3, none⟩ = some (.int .i64 d.a) ∧ w''.cell? ⟨Z, 0, none⟩ = some (.int .i64 0) ∧ w''.cell? ⟨Z, 1, none⟩ = some (.int .i64 0) ∧ w''.cell? ⟨Z, 2, none⟩ = some (.int .i64 0) ∧ w''.cell? ⟨Z, 3, none⟩ = some (.int .i64 0) ∧ Keeps none' w6 w'') := by
    rintro w' ⟨h0, h1, h2, h3, h4, h5, h6, h7, h8, h9, h10, h11, h12⟩
    refine (C1.out w' (WW.out.later (L3.out.next h12))).mono ?_
    rintro e w'' ⟨rfl, k⟩
    exact ⟨rfl, k.cell h0, k.cell h1, k.cell h2, k.cell h3, k.cell h4, k.cell h5, k.cell h6, k.cell h7, k.cell h8, k.cell h9, k.cell h10, k.cell h11, h12.next k⟩
  have D1 := Lib.hid D1
  have D2 : ∀ w', (w'.cell? ⟨P, 0, none⟩ = some (.int .i64 s.r) ∧ w'.cell? ⟨P, 1, none⟩ = some (.int .i64 s.g) ∧ w'.cell? ⟨P, 2, none⟩ = some (.int .i64 s.b) ∧ w'.cell? ⟨P, 3, none⟩ = some (.int .i64 s.a) ∧ w'.cell? ⟨Q, 0, none⟩ = some (.int .i64 d.r) ∧ w'.cell? ⟨Q, 1, none⟩ = some (.int .i64 d.g) ∧ w'.cell? ⟨Q, 2, none⟩ = some (.int .i64 d.b) ∧ w'.cell? ⟨Q, 3, none⟩ = some (.int .i64 d.a) ∧ w'.cell? ⟨Z, 0, none⟩ = some (.int .i64 0) ∧ w'.cell? ⟨Z, 1, none⟩ = some (.int .i64 0) ∧ w'.cell? ⟨Z, 2, none⟩ = some (.int .i64 0) ∧ w'.cell? ⟨Z, 3, none⟩ = some (.int .i64 0) ∧ Keeps none' w6 w') → Calls Tryd.prog 19 #[.int .i64 3, .agg #[.int .i64 s.r, .int .i64 s.g, .int .i64 s.b, .int .i64 s.a], .agg #[.int .i64 0, .int .i64 0, .int .i64 0, .int .i64 0]] w' fun e w'' => e = .returned (.agg #[.int .i64 s.r, .int .i64 s.g, .int .i64 s.b, .int .i64 s.a]) ∧ (w''.cell? ⟨P, 0, none⟩ = some (.int .i64 s.r) ∧ w''.cell? ⟨P, 1, none⟩ = some (.int .i64 s.g) ∧ w''.cell? ⟨P, 2, none⟩ = some (.int .i64 s.b) ∧ w''.cell? ⟨P, 3, none⟩ = some (.int .i64 s.a) ∧ w''.cell? ⟨Q, 0, none⟩ = some (.int .i64 d.r) ∧ w''.cell? ⟨Q, 1, none⟩ = some (.int .i64 d.g) ∧ w''.cell? ⟨Q, 2, none⟩ = some (.int .i64 d.b) ∧ w''.cell? ⟨Q, 3, none⟩ = some (.int .i64 d.a) ∧ w''.cell? ⟨Z, 0, none⟩ = some (.int .i64 0) ∧ w''.cell? ⟨Z, 1, none⟩ = some (.int .i64 0) ∧ w''.cell? ⟨Z, 2, none⟩ = some (.int .i64 0) ∧ w''.cell? ⟨Z, 3, none⟩ = some (.int .i64 0) ∧ Keeps none' w6 w'') := by
    rintro w' ⟨h0, h1, h2, h3, h4, h5, h6, h7, h8, h9, h10, h11, h12⟩
    refine (C2.out w' (WW.out.later (L3.out.next h12))).mono ?_
    rintro e w'' ⟨rfl, k⟩
    exact ⟨rfl, k.cell h0, k.cell h1, k.cell h2, k.cell h3, k.cell h4, k.cell h5, k.cell h6, k.cell h7, k.cell h8, k.cell h9, k.cell h10, k.cell h11, h12.next k⟩
  have D2 := Lib.hid D2
  have D3 : ∀ w', (w'.cell? ⟨P, 0, none⟩ = some (.int .i64 s.r) ∧ w'.cell? ⟨P, 1, none⟩ = some (.int .i64 s.g) ∧ w'.cell? ⟨P, 2, none⟩ = some (.int .i64 s.b) ∧ w'.cell? ⟨P, 3, none⟩ = some (.int .i64 s.a) ∧ w'.cell? ⟨Q, 0, none⟩ = some (.int .i64 d.r) ∧ w'.cell? ⟨Q, 1, none⟩ = some (.int .i64 d.g) ∧ w'.cell? ⟨Q, 2, none⟩ = some (.int .i64 d.b) ∧ w'.cell? ⟨Q, 3, none⟩ = some (.int .i64 d.a) ∧ w'.cell? ⟨Z, 0, none⟩ = some (.int .i64 0) ∧ w'.cell? ⟨Z, 1, none⟩ = some (.int .i64 0) ∧ w'.cell? ⟨Z, 2, none⟩ = some (.int .i64 0) ∧ w'.cell? ⟨Z, 3, none⟩ = some (.int .i64 0) ∧ Keeps none' w6 w') → Calls Tryd.prog 19 #[.int .i64 4, .agg #[.int .i64 s.r, .int .i64 s.g, .int .i64 s.b, .int .i64 s.a], .agg #[.int .i64 0, .int .i64 0, .int .i64 0, .int .i64 0]] w' fun e w'' => e = .returned (.agg #[.int .i64 s.r, .int .i64 s.g, .int .i64 s.b, .int .i64 s.a]) ∧ (w''.cell? ⟨P, 0, none⟩ = some (.int .i64 s.r) ∧ w''.cell? ⟨P, 1, none⟩ = some (.int .i64 s.g) ∧ w''.cell? ⟨P, 2, none⟩ = some (.int .i64 s.b) ∧ w''.cell? ⟨P, 3, none⟩ = some (.int .i64 s.a) ∧ w''.cell? ⟨Q, 0, none⟩ = some (.int .i64 d.r) ∧ w''.cell? ⟨Q, 1, none⟩ = some (.int .i64 d.g) ∧ w''.cell? ⟨Q, 2, none⟩ = some (.int .i64 d.b) ∧ w''.cell? ⟨Q, 3, none⟩ = some (.int .i64 d.a) ∧ w''.cell? ⟨Z, 0, none⟩ = some (.int .i64 0) ∧ w''.cell? ⟨Z, 1, none⟩ = some (.int .i64 0) ∧ w''.cell? ⟨Z, 2, none⟩ = some (.int .i64 0) ∧ w''.cell? ⟨Z, 3, none⟩ = some (.int .i64 0) ∧ Keeps none' w6 w'') := by
    rintro w' ⟨h0, h1, h2, h3, h4, h5, h6, h7, h8, h9, h10, h11, h12⟩
    refine (C3.out w' (WW.out.later (L3.out.next h12))).mono ?_
    rintro e w'' ⟨rfl, k⟩
    exact ⟨rfl, k.cell h0, k.cell h1, k.cell h2, k.cell h3, k.cell h4, k.cell h5, k.cell h6, k.cell h7, k.cell h8, k.cell h9, k.cell h10, k.cell h11, h12.next k⟩
  have D3 := Lib.hid D3
  have D4 : ∀ w', (w'.cell? ⟨P, 0, none⟩ = some (.int .i64 s.r) ∧ w'.cell? ⟨P, 1, none⟩ = some (.int .i64 s.g) ∧ w'.cell? ⟨P, 2, none⟩ = some (.int .i64 s.b) ∧ w'.cell? ⟨P, 3, none⟩ = some (.int .i64 s.a) ∧ w'.cell? ⟨Q, 0, none⟩ = some (.int .i64 d.r) ∧ w'.cell? ⟨Q, 1, none⟩ = some (.int .i64 d.g) ∧ w'.cell? ⟨Q, 2, none⟩ = some (.int .i64 d.b) ∧ w'.cell? ⟨Q, 3, none⟩ = some (.int .i64 d.a) ∧ w'.cell? ⟨Z, 0, none⟩ = some (.int .i64 0) ∧ w'.cell? ⟨Z, 1, none⟩ = some (.int .i64 0) ∧ w'.cell? ⟨Z, 2, none⟩ = some (.int .i64 0) ∧ w'.cell? ⟨Z, 3, none⟩ = some (.int .i64 0) ∧ Keeps none' w6 w') → Calls Tryd.prog 19 #[.int .i64 5, .agg #[.int .i64 s.r, .int .i64 s.g, .int .i64 s.b, .int .i64 s.a], .agg #[.int .i64 0, .int .i64 0, .int .i64 0, .int .i64 0]] w' fun e w'' => e = .returned (.agg #[.int .i64 0, .int .i64 0, .int .i64 0, .int .i64 0]) ∧ (w''.cell? ⟨P, 0, none⟩ = some (.int .i64 s.r) ∧ w''.cell? ⟨P, 1, none⟩ = some (.int .i64 s.g) ∧ w''.cell? ⟨P, 2, none⟩ = some (.int .i64 s.b) ∧ w''.cell? ⟨P, 3, none⟩ = some (.int .i64 s.a) ∧ w''.cell? ⟨Q, 0, none⟩ = some (.int .i64 d.r) ∧ w''.cell? ⟨Q, 1, none⟩ = some (.int .i64 d.g) ∧ w''.cell? ⟨Q, 2, none⟩ = some (.int .i64 d.b) ∧ w''.cell? ⟨Q, 3, none⟩ = some (.int .i64 d.a) ∧ w''.cell? ⟨Z, 0, none⟩ = some (.int .i64 0) ∧ w''.cell? ⟨Z, 1, none⟩ = some (.int .i64 0) ∧ w''.cell? ⟨Z, 2, none⟩ = some (.int .i64 0) ∧ w''.cell? ⟨Z, 3, none⟩ = some (.int .i64 0) ∧ Keeps none' w6 w'') := by
    rintro w' ⟨h0, h1, h2, h3, h4, h5, h6, h7, h8, h9, h10, h11, h12⟩
    refine (C4.out w' (WW.out.later (L3.out.next h12))).mono ?_
    rintro e w'' ⟨rfl, k⟩
    exact ⟨rfl, k.cell h0, k.cell h1, k.cell h2, k.cell h3, k.cell h4, k.cell h5, k.cell h6, k.cell h7, k.cell h8, k.cell h9, k.cell h10, k.cell h11, h12.next k⟩
  have D4 := Lib.hid D4
  have D5 : ∀ w', (w'.cell? ⟨P, 0, none⟩ = some (.int .i64 s.r) ∧ w'.cell? ⟨P, 1, none⟩ = some (.int .i64 s.g) ∧ w'.cell? ⟨P, 2, none⟩ = some (.int .i64 s.b) ∧ w'.cell? ⟨P, 3, none⟩ = some (.int .i64 s.a) ∧ w'.cell? ⟨Q, 0, none⟩ = some (.int .i64 d.r) ∧ w'.cell? ⟨Q, 1, none⟩ = some (.int .i64 d.g) ∧ w'.cell? ⟨Q, 2, none⟩ = some (.int .i64 d.b) ∧ w'.cell? ⟨Q, 3, none⟩ = some (.int .i64 d.a) ∧ w'.cell? ⟨Z, 0, none⟩ = some (.int .i64 0) ∧ w'.cell? ⟨Z, 1, none⟩ = some (.int .i64 0) ∧ w'.cell? ⟨Z, 2, none⟩ = some (.int .i64 0) ∧ w'.cell? ⟨Z, 3, none⟩ = some (.int .i64 0) ∧ Keeps none' w6 w') → Calls Tryd.prog 19 #[.int .i64 7, .agg #[.int .i64 s.r, .int .i64 s.g, .int .i64 s.b, .int .i64 s.a], .agg #[.int .i64 0, .int .i64 0, .int .i64 0, .int .i64 0]] w' fun e w'' => e = .returned (.agg #[.int .i64 s.r, .int .i64 s.g, .int .i64 s.b, .int .i64 s.a]) ∧ (w''.cell? ⟨P, 0, none⟩ = some (.int .i64 s.r) ∧ w''.cell? ⟨P, 1, none⟩ = some (.int .i64 s.g) ∧ w''.cell? ⟨P, 2, none⟩ = some (.int .i64 s.b) ∧ w''.cell? ⟨P, 3, none⟩ = some (.int .i64 s.a) ∧ w''.cell? ⟨Q, 0, none⟩ = some (.int .i64 d.r) ∧ w''.cell? ⟨Q, 1, none⟩ = some (.int .i64 d.g) ∧ w''.cell? ⟨Q, 2, none⟩ = some (.int .i64 d.b) ∧ w''.cell? ⟨Q, 3, none⟩ = some (.int .i64 d.a) ∧ w''.cell? ⟨Z, 0, none⟩ = some (.int .i64 0) ∧ w''.cell? ⟨Z, 1, none⟩ = some (.int .i64 0) ∧ w''.cell? ⟨Z, 2, none⟩ = some (.int .i64 0) ∧ w''.cell? ⟨Z, 3, none⟩ = some (.int .i64 0) ∧ Keeps none' w6 w'') := by
    rintro w' ⟨h0, h1, h2, h3, h4, h5, h6, h7, h8, h9, h10, h11, h12⟩
    refine (C5.out w' (WW.out.later (L3.out.next h12))).mono ?_
    rintro e w'' ⟨rfl, k⟩
    exact ⟨rfl, k.cell h0, k.cell h1, k.cell h2, k.cell h3, k.cell h4, k.cell h5, k.cell h6, k.cell h7, k.cell h8, k.cell h9, k.cell h10, k.cell h11, h12.next k⟩
  have D5 := Lib.hid D5
  have D6 : ∀ w', (w'.cell? ⟨P, 0, none⟩ = some (.int .i64 s.r) ∧ w'.cell? ⟨P, 1, none⟩ = some (.int .i64 s.g) ∧ w'.cell? ⟨P, 2, none⟩ = some (.int .i64 s.b) ∧ w'.cell? ⟨P, 3, none⟩ = some (.int .i64 s.a) ∧ w'.cell? ⟨Q, 0, none⟩ = some (.int .i64 d.r) ∧ w'.cell? ⟨Q, 1, none⟩ = some (.int .i64 d.g) ∧ w'.cell? ⟨Q, 2, none⟩ = some (.int .i64 d.b) ∧ w'.cell? ⟨Q, 3, none⟩ = some (.int .i64 d.a) ∧ w'.cell? ⟨Z, 0, none⟩ = some (.int .i64 0) ∧ w'.cell? ⟨Z, 1, none⟩ = some (.int .i64 0) ∧ w'.cell? ⟨Z, 2, none⟩ = some (.int .i64 0) ∧ w'.cell? ⟨Z, 3, none⟩ = some (.int .i64 0) ∧ Keeps none' w6 w') → Calls Tryd.prog 19 #[.int .i64 0, .agg #[.int .i64 s.r, .int .i64 s.g, .int .i64 s.b, .int .i64 s.a], .agg #[.int .i64 d.r, .int .i64 d.g, .int .i64 d.b, .int .i64 d.a]] w' fun e w'' => e = .returned (.agg #[.int .i64 0, .int .i64 0, .int .i64 0, .int .i64 0]) ∧ (w''.cell? ⟨P, 0, none⟩ = some (.int .i64 s.r) ∧ w''.cell? ⟨P, 1, none⟩ = some (.int .i64 s.g) ∧ w''.cell? ⟨P, 2, none⟩ = some (.int .i64 s.b) ∧ w''.cell? ⟨P, 3, none⟩ = some (.int .i64 s.a) ∧ w''.cell? ⟨Q, 0, none⟩ = some (.int .i64 d.r) ∧ w''.cell? ⟨Q, 1, none⟩ = some (.int .i64 d.g) ∧ w''.cell? ⟨Q, 2, none⟩ = some (.int .i64 d.b) ∧ w''.cell? ⟨Q, 3, none⟩ = some (.int .i64 d.a) ∧ w''.cell? ⟨Z, 0, none⟩ = some (.int .i64 0) ∧ w''.cell? ⟨Z, 1, none⟩ = some (.int .i64 0) ∧ w''.cell? ⟨Z, 2, none⟩ = some (.int .i64 0) ∧ w''.cell? ⟨Z, 3, none⟩ = some (.int .i64 0) ∧ Keeps none' w6 w'') := by
    rintro w' ⟨h0, h1, h2, h3, h4, h5, h6, h7, h8, h9, h10, h11, h12⟩
    refine (C6.out w' (WW.out.later (L3.out.next h12))).mono ?_
    rintro e w'' ⟨rfl, k⟩
    exact ⟨rfl, k.cell h0, k.cell h1, k.cell h2, k.cell h3, k.cell h4, k.cell h5, k.cell h6, k.cell h7, k.cell h8, k.cell h9, k.cell h10, k.cell h11, h12.next k⟩
  have D6 := Lib.hid D6
  have D7 : ∀ w', (w'.cell? ⟨P, 0, none⟩ = some (.int .i64 s.r) ∧ w'.cell? ⟨P, 1, none⟩ = some (.int .i64 s.g) ∧ w'.cell? ⟨P, 2, none⟩ = some (.int .i64 s.b) ∧ w'.cell? ⟨P, 3, none⟩ = some (.int .i64 s.a) ∧ w'.cell? ⟨Q, 0, none⟩ = some (.int .i64 d.r) ∧ w'.cell? ⟨Q, 1, none⟩ = some (.int .i64 d.g) ∧ w'.cell? ⟨Q, 2, none⟩ = some (.int .i64 d.b) ∧ w'.cell? ⟨Q, 3, none⟩ = some (.int .i64 d.a) ∧ w'.cell? ⟨Z, 0, none⟩ = some (.int .i64 0) ∧ w'.cell? ⟨Z, 1, none⟩ = some (.int .i64 0) ∧ w'.cell? ⟨Z, 2, none⟩ = some (.int .i64 0) ∧ w'.cell? ⟨Z, 3, none⟩ = some (.int .i64 0) ∧ Keeps none' w6 w') → Calls Tryd.prog 19 #[.int .i64 1, .agg #[.int .i64 s.r, .int .i64 s.g, .int .i64 s.b, .int .i64 s.a], .agg #[.int .i64 d.r, .int .i64 d.g, .int .i64 d.b, .int .i64 d.a]] w' fun e w'' => e = .returned (.agg #[.int .i64 s.r, .int .i64 s.g, .int .i64 s.b, .int .i64 s.a]) ∧ (w''.cell? ⟨P, 0, none⟩ = some (.int .i64 s.r) ∧ w''.cell? ⟨P, 1, none⟩ = some (.int .i64 s.g) ∧ w''.cell? ⟨P, 2, none⟩ = some (.int .i64 s.b) ∧ w''.cell? ⟨P, 3, none⟩ = some (.int .i64 s.a) ∧ w''.cell? ⟨Q, 0, none⟩ = some (.int .i64 d.r) ∧ w''.cell? ⟨Q, 1, none⟩ = some (.int .i64 d.g) ∧ w''.cell? ⟨Q, 2, none⟩ = some (.int .i64 d.b) ∧ w''.cell? ⟨Q, 3, none⟩ = some (.int .i64 d.a) ∧ w''.cell? ⟨Z, 0, none⟩ = some (.int .i64 0) ∧ w''.cell? ⟨Z, 1, none⟩ = some (.int .i64 0) ∧ w''.cell? ⟨Z, 2, none⟩ = some (.int .i64 0) ∧ w''.cell? ⟨Z, 3, none⟩ = some (.int .i64 0) ∧ Keeps none' w6 w'') := by
    rintro w' ⟨h0, h1, h2, h3, h4, h5, h6, h7, h8, h9, h10, h11, h12⟩
    refine (C7.out w' (WW.out.later (L3.out.next h12))).mono ?_
    rintro e w'' ⟨rfl, k⟩
    exact ⟨rfl, k.cell h0, k.cell h1, k.cell h2, k.cell h3, k.cell h4, k.cell h5, k.cell h6, k.cell h7, k.cell h8, k.cell h9, k.cell h10, k.cell h11, h12.next k⟩
  have D7 := Lib.hid D7
  have D8 : ∀ w', (w'.cell? ⟨P, 0, none⟩ = some (.int .i64 s.r) ∧ w'.cell? ⟨P, 1, none⟩ = some (.int .i64 s.g) ∧ w'.cell? ⟨P, 2, none⟩ = some (.int .i64 s.b) ∧ w'.cell? ⟨P, 3, none⟩ = some (.int .i64 s.a) ∧ w'.cell? ⟨Q, 0, none⟩ = some (.int .i64 d.r) ∧ w'.cell? ⟨Q, 1, none⟩ = some (.int .i64 d.g) ∧ w'.cell? ⟨Q, 2, none⟩ = some (.int .i64 d.b) ∧ w'.cell? ⟨Q, 3, none⟩ = some (.int .i64 d.a) ∧ w'.cell? ⟨Z, 0, none⟩ = some (.int .i64 0) ∧ w'.cell? ⟨Z, 1, none⟩ = some (.int .i64 0) ∧ w'.cell? ⟨Z, 2, none⟩ = some (.int .i64 0) ∧ w'.cell? ⟨Z, 3, none⟩ = some (.int .i64 0) ∧ Keeps none' w6 w') → Calls Tryd.prog 19 #[.int .i64 2, .agg #[.int .i64 s.r, .int .i64 s.g, .int .i64 s.b, .int .i64 s.a], .agg #[.int .i64 d.r, .int .i64 d.g, .int .i64 d.b, .int .i64 d.a]] w' fun e w'' => e = .returned (.agg #[.int .i64 d.r, .int .i64 d.g, .int .i64 d.b, .int .i64 d.a]) ∧ (w''.cell? ⟨P, 0, none⟩ = some (.int .i64 s.r) ∧ w''.cell? ⟨P, 1, none⟩ = some (.int .i64 s.g) ∧ w''.cell? ⟨P, 2, none⟩ = some (.int .i64 s.b) ∧ w''.cell? ⟨P, 3, none⟩ = some (.int .i64 s.a) ∧ w''.cell? ⟨Q, 0, none⟩ = some (.int .i64 d.r) ∧ w''.cell? ⟨Q, 1, none⟩ = some (.int .i64 d.g) ∧ w''.cell? ⟨Q, 2, none⟩ = some (.int .i64 d.b) ∧ w''.cell? ⟨Q, 3, none⟩ = some (.int .i64 d.a) ∧ w''.cell? ⟨Z, 0, none⟩ = some (.int .i64 0) ∧ w''.cell? ⟨Z, 1, none⟩ = some (.int .i64 0) ∧ w''.cell? ⟨Z, 2, none⟩ = some (.int .i64 0) ∧ w''.cell? ⟨Z, 3, none⟩ = some (.int .i64 0) ∧ Keeps none' w6 w'') := by
    rintro w' ⟨h0, h1, h2, h3, h4, h5, h6, h7, h8, h9, h10, h11, h12⟩
    refine (C8.out w' (WW.out.later (L3.out.next h12))).mono ?_
    rintro e w'' ⟨rfl, k⟩
    exact ⟨rfl, k.cell h0, k.cell h1, k.cell h2, k.cell h3, k.cell h4, k.cell h5, k.cell h6, k.cell h7, k.cell h8, k.cell h9, k.cell h10, k.cell h11, h12.next k⟩
  have D8 := Lib.hid D8
  go_region_held3 (fun w' => w'.cell? ⟨P, 0, none⟩ = some (.int .i64 s.r) ∧ w'.cell? ⟨P, 1, none⟩ = some (.int .i64 s.g) ∧ w'.cell? ⟨P, 2, none⟩ = some (.int .i64 s.b) ∧ w'.cell? ⟨P, 3, none⟩ = some (.int .i64 s.a) ∧ w'.cell? ⟨Q, 0, none⟩ = some (.int .i64 d.r) ∧ w'.cell? ⟨Q, 1, none⟩ = some (.int .i64 d.g) ∧ w'.cell? ⟨Q, 2, none⟩ = some (.int .i64 d.b) ∧ w'.cell? ⟨Q, 3, none⟩ = some (.int .i64 d.a) ∧ w'.cell? ⟨Z, 0, none⟩ = some (.int .i64 0) ∧ w'.cell? ⟨Z, 1, none⟩ = some (.int .i64 0) ∧ w'.cell? ⟨Z, 2, none⟩ = some (.int .i64 0) ∧ w'.cell? ⟨Z, 3, none⟩ = some (.int .i64 0) ∧ Keeps none' w6 w') (first | exact ⟨c0, c1, c2, c3, d0, d1, d2, d3, z0, z1, z2, z3, OW.out⟩ | exact ⟨c0, c1, c2, c3, d0, d1, d2, d3, z0, z1, z2, z3, OD.out⟩ | (refine ⟨‹_›, ‹_›, ‹_›, ‹_›, ‹_›, ‹_›, ‹_›, ‹_›, ‹_›, ‹_›, ‹_›, ‹_›, ‹_›⟩) | go_keep) (first | (go_at_call 19; first | ((with_reducible refine (D1.out _ ?_).mono ?_); (first | exact ⟨‹_›, ‹_›, ‹_›, ‹_›, ‹_›, ‹_›, ‹_›, ‹_›, ‹_›, ‹_›, ‹_›, ‹_›, ‹_›⟩ | exact ⟨c0, c1, c2, c3, d0, d1, d2, d3, z0, z1, z2, z3, OD.out⟩); rintro e w' ⟨rfl, k0, k1, k2, k3, k4, k5, k6, k7, k8, k9, k10, k11, k12⟩) | ((with_reducible refine (D2.out _ ?_).mono ?_); (first | exact ⟨‹_›, ‹_›, ‹_›, ‹_›, ‹_›, ‹_›, ‹_›, ‹_›, ‹_›, ‹_›, ‹_›, ‹_›, ‹_›⟩ | exact ⟨c0, c1, c2, c3, d0, d1, d2, d3, z0, z1, z2, z3, OD.out⟩); rintro e w' ⟨rfl, k0, k1, k2, k3, k4, k5, k6, k7, k8, k9, k10, k11, k12⟩) | ((with_reducible refine (D3.out _ ?_).mono ?_); (first | exact ⟨‹_›, ‹_›, ‹_›, ‹_›, ‹_›, ‹_›, ‹_›, ‹_›, ‹_›, ‹_›, ‹_›, ‹_›, ‹_›⟩ | exact ⟨c0, c1, c2, c3, d0, d1, d2, d3, z0, z1, z2, z3, OD.out⟩); rintro e w' ⟨rfl, k0, k1, k2, k3, k4, k5, k6, k7, k8, k9, k10, k11, k12⟩) | ((with_reducible refine (D4.out _ ?_).mono ?_); (first | exact ⟨‹_›, ‹_›, ‹_›, ‹_›, ‹_›, ‹_›, ‹_›, ‹_›, ‹_›, ‹_›, ‹_›, ‹_›, ‹_›⟩ | exact ⟨c0, c1, c2, c3, d0, d1, d2, d3, z0, z1, z2, z3, OD.out⟩); rintro e w' ⟨rfl, k0, k1, k2, k3, k4, k5, k6, k7, k8, k9, k10, k11, k12⟩) | ((with_reducible refine (D5.out _ ?_).mono ?_); (first | exact ⟨‹_›, ‹_›, ‹_›, ‹_›, ‹_›, ‹_›, ‹_›, ‹_›, ‹_›, ‹_›, ‹_›, ‹_›, ‹_›⟩ | exact ⟨c0, c1, c2, c3, d0, d1, d2, d3, z0, z1, z2, z3, OD.out⟩); rintro e w' ⟨rfl, k0, k1, k2, k3, k4, k5, k6, k7, k8, k9, k10, k11, k12⟩) | ((with_reducible refine (D6.out _ ?_).mono ?_); (first | exact ⟨‹_›, ‹_›, ‹_›, ‹_›, ‹_›, ‹_›, ‹_›, ‹_›, ‹_›, ‹_›, ‹_›, ‹_›, ‹_›⟩ | exact ⟨c0, c1, c2, c3, d0, d1, d2, d3, z0, z1, z2, z3, OD.out⟩); rintro e w' ⟨rfl, k0, k1, k2, k3, k4, k5, k6, k7, k8, k9, k10, k11, k12⟩) | ((with_reducible refine (D7.out _ ?_).mono ?_); (first | exact ⟨‹_›, ‹_›, ‹_›, ‹_›, ‹_›, ‹_›, ‹_›, ‹_›, ‹_›, ‹_›, ‹_›, ‹_›, ‹_›⟩ | exact ⟨c0, c1, c2, c3, d0, d1, d2, d3, z0, z1, z2, z3, OD.out⟩); rintro e w' ⟨rfl, k0, k1, k2, k3, k4, k5, k6, k7, k8, k9, k10, k11, k12⟩) | ((with_reducible refine (D8.out _ ?_).mono ?_); (first | exact ⟨‹_›, ‹_›, ‹_›, ‹_›, ‹_›, ‹_›, ‹_›, ‹_›, ‹_›, ‹_›, ‹_›, ‹_›, ‹_›⟩ | exact ⟨c0, c1, c2, c3, d0, d1, d2, d3, z0, z1, z2, z3, OD.out⟩); rintro e w' ⟨rfl, k0, k1, k2, k3, k4, k5, k6, k7, k8, k9, k10, k11, k12⟩)))
  go_wp2_with fail
  have M1 := Lib.hid (show Four w' P s.r s.g s.b s.a from L1.out.later k12)
  have M2 := Lib.hid (show Four w' Q d.r d.g d.b d.a from L2.out.later k12)
  have M3 := Lib.hid (L3.out.next k12)
  clear k0 k1 k2 k3 k4 k5 k6 k7 k8 k9 k10 k11 k12 c0 c1 c2 c3 d0 d1 d2 d3 z0 z1 z2 z3 L1 L2 L3 L4 OW OD D1 D2 D3 D4 D5 D6 D7 D8 C1 C2 C3 C4 C5 C6 C7 C8 EQ1 EQ2 EQ3
  go_loopw [6] (fun cnt wr => ∃ n : Nat, n ≤ 12 ∧ cnt = .int .i64 n ∧ Four wr P s.r s.g s.b s.a ∧ Four wr Q d.r d.g d.b d.a ∧ Keeps none' w wr) (fun cnt _ => 12 - (intOf cnt).toNat)
  case atStart => exact ⟨0, by omega, rfl, M1.out, M2.out, M3.out⟩
  case round =>
    obtain ⟨n, hn, rfl, hP, hQ, hK⟩ := hrel
    have HP := Lib.hid hP
    have HQ := Lib.hid hQ
    have HK := Lib.hid hK
    have c0 := hP.c0
    have c1 := hP.c1
    have c2 := hP.c2
    have c3 := hP.c3
    have d0 := hQ.c0
    have d1 := hQ.c1
    have d2 := hQ.c2
    have d3 := hQ.c3
    clear hP hQ hK
    by_cases hlt : n < 12
    · have tt := turn_at n hlt wr
      have t1 : decide ((n : Int) < 12) = true := by simp; omega
      have Y1 := fun w h => way_any (n : Int) s d HS.out.bytes HD.out.bytes w h
      have Y2 := fun w h => way_any (Px.turned n : Int) d s HD.out.bytes HS.out.bytes w h
      rw [← Px.way_turned n hlt s d] at Y2
      generalize Px.way (n : Int) s d = v at *
      generalize Px.turned n = tn at *
      have C1 := Lib.hid Y1
      have C2 := Lib.hid Y2
      clear Y1 Y2
      have EQ := fun w => eq26_self v.r v.g v.b v.a w
      have OW2 := Lib.hid (Keeps.refl none' wr)
      have OD2 := Lib.hid ((Keeps.refl none' wr).drew)
      have T1 : ∀ w', (w'.cell? ⟨P, 0, none⟩ = some (.int .i64 s.r) ∧ w'.cell? ⟨P, 1, none⟩ = some (.int .i64 s.g) ∧ w'.cell? ⟨P, 2, none⟩ = some (.int .i64 s.b) ∧ w'.cell? ⟨P, 3, none⟩ = some (.int .i64 s.a) ∧ w'.cell? ⟨Q, 0, none⟩ = some (.int .i64 d.r) ∧ w'.cell? ⟨Q, 1, none⟩ = some (.int .i64 d.g) ∧ w'.cell? ⟨Q, 2, none⟩ = some (.int .i64 d.b) ∧ w'.cell? ⟨Q, 3, none⟩ = some (.int .i64 d.a) ∧ Keeps none' wr w') → Calls Tryd.prog 19 #[.int .i64 (n : Int), .agg #[.int .i64 s.r, .int .i64 s.g, .int .i64 s.b, .int .i64 s.a], .agg #[.int .i64 d.r, .int .i64 d.g, .int .i64 d.b, .int .i64 d.a]] w' fun e w'' => e = .returned (.agg #[.int .i64 v.r, .int .i64 v.g, .int .i64 v.b, .int .i64 v.a]) ∧ (w''.cell? ⟨P, 0, none⟩ = some (.int .i64 s.r) ∧ w''.cell? ⟨P, 1, none⟩ = some (.int .i64 s.g) ∧ w''.cell? ⟨P, 2, none⟩ = some (.int .i64 s.b) ∧ w''.cell? ⟨P, 3, none⟩ = some (.int .i64 s.a) ∧ w''.cell? ⟨Q, 0, none⟩ = some (.int .i64 d.r) ∧ w''.cell? ⟨Q, 1, none⟩ = some (.int .i64 d.g) ∧ w''.cell? ⟨Q, 2, none⟩ = some (.int .i64 d.b) ∧ w''.cell? ⟨Q, 3, none⟩ = some (.int .i64 d.a) ∧ Keeps none' wr w'') := by
        rintro w' ⟨h0, h1, h2, h3, h4, h5, h6, h7, h8⟩
        refine (C1.out w' (WW.out.later (HK.out.next h8))).mono ?_
        rintro e w'' ⟨rfl, k⟩
        exact ⟨rfl, k.cell h0, k.cell h1, k.cell h2, k.cell h3, k.cell h4, k.cell h5, k.cell h6, k.cell h7, h8.next k⟩
      have T1 := Lib.hid T1
      have T2 : ∀ w', (w'.cell? ⟨P, 0, none⟩ = some (.int .i64 s.r) ∧ w'.cell? ⟨P, 1, none⟩ = some (.int .i64 s.g) ∧ w'.cell? ⟨P, 2, none⟩ = some (.int .i64 s.b) ∧ w'.cell? ⟨P, 3, none⟩ = some (.int .i64 s.a) ∧ w'.cell? ⟨Q, 0, none⟩ = some (.int .i64 d.r) ∧ w'.cell? ⟨Q, 1, none⟩ = some (.int .i64 d.g) ∧ w'.cell? ⟨Q, 2, none⟩ = some (.int .i64 d.b) ∧ w'.cell? ⟨Q, 3, none⟩ = some (.int .i64 d.a) ∧ Keeps none' wr w') → Calls Tryd.prog 19 #[.int .i64 (tn : Int), .agg #[.int .i64 d.r, .int .i64 d.g, .int .i64 d.b, .int .i64 d.a], .agg #[.int .i64 s.r, .int .i64 s.g, .int .i64 s.b, .int .i64 s.a]] w' fun e w'' => e = .returned (.agg #[.int .i64 v.r, .int .i64 v.g, .int .i64 v.b, .int .i64 v.a]) ∧ (w''.cell? ⟨P, 0, none⟩ = some (.int .i64 s.r) ∧ w''.cell? ⟨P, 1, none⟩ = some (.int .i64 s.g) ∧ w''.cell? ⟨P, 2, none⟩ = some (.int .i64 s.b) ∧ w''.cell? ⟨P, 3, none⟩ = some (.int .i64 s.a) ∧ w''.cell? ⟨Q, 0, none⟩ = some (.int .i64 d.r) ∧ w''.cell? ⟨Q, 1, none⟩ = some (.int .i64 d.g) ∧ w''.cell? ⟨Q, 2, none⟩ = some (.int .i64 d.b) ∧ w''.cell? ⟨Q, 3, none⟩ = some (.int .i64 d.a) ∧ Keeps none' wr w'') := by
        rintro w' ⟨h0, h1, h2, h3, h4, h5, h6, h7, h8⟩
        refine (C2.out w' (WW.out.later (HK.out.next h8))).mono ?_
        rintro e w'' ⟨rfl, k⟩
        exact ⟨rfl, k.cell h0, k.cell h1, k.cell h2, k.cell h3, k.cell h4, k.cell h5, k.cell h6, k.cell h7, h8.next k⟩
      have T2 := Lib.hid T2
      go_wp2_with fail
      go_region_held3 (fun w' => w'.cell? ⟨P, 0, none⟩ = some (.int .i64 s.r) ∧ w'.cell? ⟨P, 1, none⟩ = some (.int .i64 s.g) ∧ w'.cell? ⟨P, 2, none⟩ = some (.int .i64 s.b) ∧ w'.cell? ⟨P, 3, none⟩ = some (.int .i64 s.a) ∧ w'.cell? ⟨Q, 0, none⟩ = some (.int .i64 d.r) ∧ w'.cell? ⟨Q, 1, none⟩ = some (.int .i64 d.g) ∧ w'.cell? ⟨Q, 2, none⟩ = some (.int .i64 d.b) ∧ w'.cell? ⟨Q, 3, none⟩ = some (.int .i64 d.a) ∧ Keeps none' wr w') (first | exact ⟨c0, c1, c2, c3, d0, d1, d2, d3, OW2.out⟩ | exact ⟨c0, c1, c2, c3, d0, d1, d2, d3, OD2.out⟩ | (refine ⟨‹_›, ‹_›, ‹_›, ‹_›, ‹_›, ‹_›, ‹_›, ‹_›, ‹_›⟩) | go_keep) (first | (go_at_call 19; first | ((with_reducible refine (T1.out _ ?_).mono ?_); (first | exact ⟨‹_›, ‹_›, ‹_›, ‹_›, ‹_›, ‹_›, ‹_›, ‹_›, ‹_›⟩ | exact ⟨c0, c1, c2, c3, d0, d1, d2, d3, OD2.out⟩); rintro e w' ⟨rfl, j0, j1, j2, j3, j4, j5, j6, j7, j8⟩) | ((with_reducible refine (T2.out _ ?_).mono ?_); (first | exact ⟨‹_›, ‹_›, ‹_›, ‹_›, ‹_›, ‹_›, ‹_›, ‹_›, ‹_›⟩ | exact ⟨c0, c1, c2, c3, d0, d1, d2, d3, OD2.out⟩); rintro e w' ⟨rfl, j0, j1, j2, j3, j4, j5, j6, j7, j8⟩)))
      all_goals try go_wp2_with fail
      all_goals go_roundw
      all_goals first | exact ⟨n + 1, by omega, by go_num, HP.out.later j8, HQ.out.later j8, HK.out.next j8⟩ | (simp [intOf]; omega)
    · obtain rfl : n = 12 := by omega
      have f3 := HQ.out.fr (i := 3)
      have hPQ : P ≠ Q := by have := LOW.out; omega
      have hQP : Q ≠ P := fun e => hPQ e.symm
      have X1 := Lib.hid (HP.out.set (R := Q) (i := 3) hPQ (.int .i64 255))
      have X2 := Lib.hid (HQ.out.s3 255)
      have X3 := Lib.hid (HK.out.setCell (p := ⟨Q, 3, none⟩) (fun e => by have := LOW.out; simp only at e; omega) (.int .i64 255))
      have db : (⟨d.r, d.g, d.b, 255⟩ : Px.Pix).bytes := ⟨HD.out.1, HD.out.2.1, HD.out.2.2.1, show Px.Byte 255 by decide⟩
      have Y1 := fun w h => way_any 3 s ⟨d.r, d.g, d.b, 255⟩ HS.out.bytes db w h
      have Y2 := fun w h => way_any 9 s ⟨d.r, d.g, d.b, 255⟩ HS.out.bytes db w h
      rw [show (Px.way 3 s ⟨d.r, d.g, d.b, 255⟩).a = 255 from Px.full3 s.a HS.out.2.2.2.1] at Y1
      rw [show (Px.way 9 s ⟨d.r, d.g, d.b, 255⟩).a = 255 from Px.full9 s.a HS.out.2.2.2.1] at Y2
      generalize Px.way 3 s ⟨d.r, d.g, d.b, 255⟩ = v at *
      generalize Px.way 9 s ⟨d.r, d.g, d.b, 255⟩ = u at *
      have C1 := Lib.hid Y1
      have C2 := Lib.hid Y2
      clear Y1 Y2 db
      have q1 := fun w => at26_3 v.r v.g v.b 255 w
      have q2 := fun w => at26_3 u.r u.g u.b 255 w
      go_wp2_with fail
      refine (C1.out _ (WW.out.later X3.out)).mono ?_
      rintro e w7 ⟨rfl, hk⟩
      have V1 := Lib.hid (X1.out.later hk)
      have V2 := Lib.hid (X2.out.later hk)
      have V3 := Lib.hid (X3.out.next hk)
      clear hk c0 c1 c2 c3 d0 d1 d2 d3 f3
      have c0 := V1.out.c0
      have c1 := V1.out.c1
      have c2 := V1.out.c2
      have c3 := V1.out.c3
      have d0 := V2.out.c0
      have d1 := V2.out.c1
      have d2 := V2.out.c2
      have d3 := V2.out.c3
      go_wp2_with fail
      refine (C2.out _ (WW.out.later V3.out)).mono ?_
      rintro e w8 ⟨rfl, hk⟩
      have U3 := Lib.hid (V3.out.next hk)
      clear hk
      go_wp2_with fail
      go_ret
      exact ⟨rfl, U3.out⟩
theorem onto_walk (s d : Px.Pix) (w : World) (hW : Ways w) : Calls Tryd.prog 9 #[.agg #[.int .i64 s.r, .int .i64 s.g, .int .i64 s.b, .int .i64 s.a], .agg #[.int .i64 d.r, .int .i64 d.g, .int .i64 d.b, .int .i64 d.a]] w (Yes w) := by
  by_cases hs : s.ok
  · by_cases hd : d.ok
    · exact onto_good s d hs hd w hW
    · exact onto_bad2 s d hs hd w hW
  · exact onto_bad1 s d hs w hW
end Go.Proofs.YtfofghakjjblfaaDoor
