/- The document's modes. -/
import Derived.Test.YtfofghakjjblfaaDoorPB
namespace Go.Proofs.YtfofghakjjblfaaDoor
open Go.RowKit
set_option linter.unusedVariables false

theorem B_1 {x y : Int} (hx : Px.Byte x) (hy : Px.Byte y) (w : World) : Calls Tryd.prog 28 #[.int .i64 1, .int .i64 x, .int .i64 y] w fun e w' => e = .returned (.int .i64 (Px.mixed 1 x y)) ∧ w' = w := by
  have C := Lib.hid (docMul_any hx hy w)
  rw [show Px.mixed 1 x y = Px.mul x y from rfl]
  go_enter Tryd.func28, Tryd.ntmps28
  go_wp2_with fail
  refine C.out.mono ?_
  rintro e w' ⟨rfl, rfl⟩
  go_wp2_with fail
  go_ret
  exact ⟨rfl, rfl⟩
theorem B_2 {x y : Int} (hx : Px.Byte x) (hy : Px.Byte y) (w : World) : Calls Tryd.prog 28 #[.int .i64 2, .int .i64 x, .int .i64 y] w fun e w' => e = .returned (.int .i64 (Px.mixed 2 x y)) ∧ w' = w := by
  have C := Lib.hid (docMul_any hx hy w)
  obtain ⟨m0, m1⟩ := Px.mul_byte hx hy
  rw [show Px.mixed 2 x y = x + y - Px.mul x y from rfl]
  generalize Px.mul x y = q at *
  obtain ⟨a0, a1⟩ := hx
  obtain ⟨b0, b1⟩ := hy
  go_enter Tryd.func28, Tryd.ntmps28
  go_wp2_with fail
  refine C.out.mono ?_
  rintro e w' ⟨rfl, rfl⟩
  go_wp2_with fail
  go_ret
  exact ⟨rfl, rfl⟩
theorem B_8 {x y : Int} (hx : Px.Byte x) (hy : Px.Byte y) (w : World) : Calls Tryd.prog 28 #[.int .i64 8, .int .i64 x, .int .i64 y] w fun e w' => e = .returned (.int .i64 (Px.mixed 8 x y)) ∧ w' = w := by
  have C := Lib.hid (docMul_any hx hy w)
  by_cases h : y ≤ 127
  · have D := Lib.hid (docMul_any hx (b := 2 * y) (by unfold Px.Byte at *; omega) w)
    rw [show Px.mixed 8 x y = Px.mul x (2 * y) by show Px.hardLit x y = _; unfold Px.hardLit; rw [if_pos h]]
    have t : decide (y < 128) = true := by simp; omega
    obtain ⟨a0, a1⟩ := hx
    obtain ⟨b0, b1⟩ := hy
    clear h
    go_enter Tryd.func28, Tryd.ntmps28
    go_wp2_with fail
    refine C.out.mono ?_
    rintro e w' ⟨rfl, rfl⟩
    go_wp2_with fail
    refine D.out.mono ?_
    rintro e w' ⟨rfl, rfl⟩
    go_wp2_with fail
    go_ret
    exact ⟨rfl, rfl⟩
  · have D := Lib.hid (B_2 hx (y := 2 * y - 255) (by unfold Px.Byte at *; omega) w)
    rw [show Px.mixed 2 x (2 * y - 255) = Px.screened x (2 * y - 255) from rfl] at D
    rw [show Px.mixed 8 x y = Px.screened x (2 * y - 255) by show Px.hardLit x y = _; unfold Px.hardLit; rw [if_neg h]]
    have t : decide (y < 128) = false := by simp; omega
    obtain ⟨a0, a1⟩ := hx
    obtain ⟨b0, b1⟩ := hy
    clear h
    go_enter Tryd.func28, Tryd.ntmps28
    go_wp2_with fail
    refine C.out.mono ?_
    rintro e w' ⟨rfl, rfl⟩
    go_wp2_with fail
    refine D.out.mono ?_
    rintro e w' ⟨rfl, rfl⟩
    go_wp2_with fail
    go_ret
    exact ⟨rfl, rfl⟩
theorem B_3 {x y : Int} (hx : Px.Byte x) (hy : Px.Byte y) (w : World) : Calls Tryd.prog 28 #[.int .i64 3, .int .i64 x, .int .i64 y] w fun e w' => e = .returned (.int .i64 (Px.mixed 3 x y)) ∧ w' = w := by
  have C := Lib.hid (docMul_any hx hy w)
  have D := Lib.hid (B_8 hy hx w)
  rw [show Px.mixed 8 y x = Px.hardLit y x from rfl] at D
  rw [show Px.mixed 3 x y = Px.hardLit y x from rfl]
  go_enter Tryd.func28, Tryd.ntmps28
  go_wp2_with fail
  refine C.out.mono ?_
  rintro e w' ⟨rfl, rfl⟩
  go_wp2_with fail
  refine D.out.mono ?_
  rintro e w' ⟨rfl, rfl⟩
  go_wp2_with fail
  go_ret
  exact ⟨rfl, rfl⟩
theorem B_4 {x y : Int} (hx : Px.Byte x) (hy : Px.Byte y) (w : World) : Calls Tryd.prog 28 #[.int .i64 4, .int .i64 x, .int .i64 y] w fun e w' => e = .returned (.int .i64 (Px.mixed 4 x y)) ∧ w' = w := by
  have C := Lib.hid (docMul_any hx hy w)
  have D := Lib.hid (least_any x y w)
  rw [show Px.mixed 4 x y = min x y from rfl]
  generalize min x y = z at *
  go_enter Tryd.func28, Tryd.ntmps28
  go_wp2_with fail
  refine C.out.mono ?_
  rintro e w' ⟨rfl, rfl⟩
  go_wp2_with fail
  refine D.out.mono ?_
  rintro e w' ⟨rfl, rfl⟩
  go_wp2_with fail
  go_ret
  exact ⟨rfl, rfl⟩
theorem B_5 {x y : Int} (hx : Px.Byte x) (hy : Px.Byte y) (w : World) : Calls Tryd.prog 28 #[.int .i64 5, .int .i64 x, .int .i64 y] w fun e w' => e = .returned (.int .i64 (Px.mixed 5 x y)) ∧ w' = w := by
  have C := Lib.hid (docMul_any hx hy w)
  have D := Lib.hid (most_any x y w)
  rw [show Px.mixed 5 x y = max x y from rfl]
  generalize max x y = z at *
  go_enter Tryd.func28, Tryd.ntmps28
  go_wp2_with fail
  refine C.out.mono ?_
  rintro e w' ⟨rfl, rfl⟩
  go_wp2_with fail
  refine D.out.mono ?_
  rintro e w' ⟨rfl, rfl⟩
  go_wp2_with fail
  go_ret
  exact ⟨rfl, rfl⟩
theorem B_9 {x y : Int} (hx : Px.Byte x) (hy : Px.Byte y) (w : World) : Calls Tryd.prog 28 #[.int .i64 9, .int .i64 x, .int .i64 y] w fun e w' => e = .returned (.int .i64 (Px.mixed 9 x y)) ∧ w' = w := by
  have C := Lib.hid (docMul_any hx hy w)
  have D1 := Lib.hid (most_any x y w)
  have D2 := Lib.hid (least_any x y w)
  rw [show Px.mixed 9 x y = max x y - min x y from rfl]
  obtain ⟨a0, a1⟩ := hx
  obtain ⟨b0, b1⟩ := hy
  have l0 : 0 ≤ min x y := by omega
  have l1 : min x y ≤ 255 := by omega
  have g0 : 0 ≤ max x y := by omega
  have g1 : max x y ≤ 255 := by omega
  generalize min x y = p at *
  generalize max x y = q at *
  go_enter Tryd.func28, Tryd.ntmps28
  go_wp2_with fail
  refine C.out.mono ?_
  rintro e w' ⟨rfl, rfl⟩
  go_wp2_with fail
  refine D1.out.mono ?_
  rintro e w' ⟨rfl, rfl⟩
  go_wp2_with fail
  refine D2.out.mono ?_
  rintro e w' ⟨rfl, rfl⟩
  go_wp2_with fail
  go_ret
  exact ⟨rfl, rfl⟩
theorem B_10 {x y : Int} (hx : Px.Byte x) (hy : Px.Byte y) (w : World) : Calls Tryd.prog 28 #[.int .i64 10, .int .i64 x, .int .i64 y] w fun e w' => e = .returned (.int .i64 (Px.mixed 10 x y)) ∧ w' = w := by
  have C := Lib.hid (docMul_any hx hy w)
  obtain ⟨m0, m1⟩ := Px.mul_byte hx hy
  rw [show Px.mixed 10 x y = x + y - 2 * Px.mul x y from rfl]
  generalize Px.mul x y = q at *
  obtain ⟨a0, a1⟩ := hx
  obtain ⟨b0, b1⟩ := hy
  go_enter Tryd.func28, Tryd.ntmps28
  go_wp2_with fail
  refine C.out.mono ?_
  rintro e w' ⟨rfl, rfl⟩
  go_wp2_with fail
  go_ret
  exact ⟨rfl, rfl⟩
theorem B_11 {x y : Int} (hx : Px.Byte x) (hy : Px.Byte y) (w : World) : Calls Tryd.prog 28 #[.int .i64 11, .int .i64 x, .int .i64 y] w fun e w' => e = .returned (.int .i64 (Px.mixed 11 x y)) ∧ w' = w := by
  have C := Lib.hid (docMul_any hx hy w)
  have s1 := Px.mul_byte hx hx
  have C1 := Lib.hid (docMul_any hx hx w)
  have C3 := Lib.hid (docMul_any s1 hy w)
  obtain ⟨m0, m1⟩ := Px.mul_byte hx hy
  obtain ⟨p0, p1⟩ := Px.mul_byte s1 hy
  obtain ⟨n0, n1⟩ := s1
  obtain ⟨a0, a1⟩ := hx
  obtain ⟨b0, b1⟩ := hy
  have HE := Lib.hid (show Px.mixed 11 x y = min 255 (max 0 (Px.mul x x + 2 * Px.mul x y - 2 * Px.mul (Px.mul x x) y)) by show min (max _ 0) 255 = _; omega)
  generalize Px.mixed 11 x y = z at *
  generalize Px.mul x y = m at *
  generalize Px.mul (Px.mul x x) y = p at *
  generalize Px.mul x x = n at *
  have D1 := Lib.hid (most_any 0 (n + 2 * m - 2 * p) w)
  have D2 := Lib.hid (least_any 255 (max 0 (n + 2 * m - 2 * p)) w)
  obtain ⟨v, hv⟩ : ∃ v, max 0 (n + 2 * m - 2 * p) = v := ⟨_, rfl⟩
  rw [hv] at D1 D2 HE
  have v0 : 0 ≤ v := by omega
  have v1 : v ≤ 765 := by omega
  clear hv
  obtain ⟨u, hu⟩ : ∃ u, min 255 v = u := ⟨_, rfl⟩
  rw [hu] at D2 HE
  clear hu
  go_enter Tryd.func28, Tryd.ntmps28
  go_wp2_with fail
  refine C.out.mono ?_
  rintro e w' ⟨rfl, rfl⟩
  go_wp2_with fail
  refine C1.out.mono ?_
  rintro e w' ⟨rfl, rfl⟩
  go_wp2_with fail
  refine C3.out.mono ?_
  rintro e w' ⟨rfl, rfl⟩
  go_wp2_with fail
  refine D1.out.mono ?_
  rintro e w' ⟨rfl, rfl⟩
  go_wp2_with fail
  refine D2.out.mono ?_
  rintro e w' ⟨rfl, rfl⟩
  go_wp2_with fail
  go_ret
  refine ⟨?_, rfl⟩
  rw [HE.out]
  rfl
theorem B_6 {x y : Int} (hx : Px.Byte x) (hy : Px.Byte y) (w : World) : Calls Tryd.prog 28 #[.int .i64 6, .int .i64 x, .int .i64 y] w fun e w' => e = .returned (.int .i64 (Px.mixed 6 x y)) ∧ w' = w := by
  have C := Lib.hid (docMul_any hx hy w)
  obtain ⟨a0, a1⟩ := hx
  obtain ⟨b0, b1⟩ := hy
  rw [show Px.mixed 6 x y = Px.dodged x y from rfl]
  by_cases h : x = 0
  · subst h
    rw [show Px.dodged 0 y = 0 from rfl]
    go_enter Tryd.func28, Tryd.ntmps28
    go_wp2_with fail
    refine C.out.mono ?_
    rintro e w' ⟨rfl, rfl⟩
    go_wp2_with fail
    go_ret
    exact ⟨rfl, rfl⟩
  · have t : (x == 0) = false := by simpa using h
    by_cases h2 : y = 255
    · rw [show Px.dodged x y = 255 by unfold Px.dodged; rw [if_neg h, if_pos h2]]
      subst h2
      clear h
      go_enter Tryd.func28, Tryd.ntmps28
      go_wp2_with fail
      refine C.out.mono ?_
      rintro e w' ⟨rfl, rfl⟩
      go_wp2_with fail
      go_ret
      exact ⟨rfl, rfl⟩
    · have t2 : (y == 255) = false := by simpa using h2
      have hp : 0 < 255 - y := by omega
      obtain ⟨q0, q1⟩ := div_facts (p := 255 * x) (q := 255 - y) (by omega) (by omega) hp
      have D := Lib.hid (least_any 255 (255 * x / (255 - y)) w)
      have HE := Lib.hid (show Px.dodged x y = min 255 (255 * x / (255 - y)) by unfold Px.dodged; rw [if_neg h, if_neg h2]; omega)
      clear h h2
      obtain ⟨u, hu⟩ : ∃ u, min 255 (255 * x / (255 - y)) = u := ⟨_, rfl⟩
      rw [hu] at D HE
      clear hu
      go_enter Tryd.func28, Tryd.ntmps28
      go_wp2_with fail
      refine C.out.mono ?_
      rintro e w' ⟨rfl, rfl⟩
      go_wp2_with fail
      refine D.out.mono ?_
      rintro e w' ⟨rfl, rfl⟩
      go_wp2_with fail
      go_ret
      exact ⟨by rw [HE.out]; rfl, rfl⟩
theorem B_7 {x y : Int} (hx : Px.Byte x) (hy : Px.Byte y) (w : World) : Calls Tryd.prog 28 #[.int .i64 7, .int .i64 x, .int .i64 y] w fun e w' => e = .returned (.int .i64 (Px.mixed 7 x y)) ∧ w' = w := by
  have C := Lib.hid (docMul_any hx hy w)
  obtain ⟨a0, a1⟩ := hx
  obtain ⟨b0, b1⟩ := hy
  rw [show Px.mixed 7 x y = Px.burnt x y from rfl]
  by_cases h : x = 255
  · subst h
    rw [show Px.burnt 255 y = 255 from rfl]
    go_enter Tryd.func28, Tryd.ntmps28
    go_wp2_with fail
    refine C.out.mono ?_
    rintro e w' ⟨rfl, rfl⟩
    go_wp2_with fail
    go_ret
    exact ⟨rfl, rfl⟩
  · have t : (x == 255) = false := by simpa using h
    by_cases h2 : y = 0
    · rw [show Px.burnt x y = 0 by unfold Px.burnt; rw [if_neg h, if_pos h2]]
      subst h2
      clear h
      go_enter Tryd.func28, Tryd.ntmps28
      go_wp2_with fail
      refine C.out.mono ?_
      rintro e w' ⟨rfl, rfl⟩
      go_wp2_with fail
      go_ret
      exact ⟨rfl, rfl⟩
    · have t2 : (y == 0) = false := by simpa using h2
      have hp : 0 < y := by omega
      obtain ⟨q0, q1⟩ := div_facts (p := 255 * (255 - x)) (q := y) (by omega) (by omega) hp
      have D := Lib.hid (least_any 255 (255 * (255 - x) / y) w)
      have HE := Lib.hid (show Px.burnt x y = 255 - min 255 (255 * (255 - x) / y) by unfold Px.burnt; rw [if_neg h, if_neg h2]; omega)
      clear h h2
      obtain ⟨u, hu⟩ : ∃ u, min 255 (255 * (255 - x) / y) = u := ⟨_, rfl⟩
      have u0 : 0 ≤ u := by omega
      have u1 : u ≤ 255 := by omega
      rw [hu] at D HE
      clear hu
      go_enter Tryd.func28, Tryd.ntmps28
      go_wp2_with fail
      refine C.out.mono ?_
      rintro e w' ⟨rfl, rfl⟩
      go_wp2_with fail
      refine D.out.mono ?_
      rintro e w' ⟨rfl, rfl⟩
      go_wp2_with fail
      go_ret
      exact ⟨by rw [HE.out]; rfl, rfl⟩
theorem B_other {m x y : Int} (hx : Px.Byte x) (hy : Px.Byte y) (hm : ¬ (1 ≤ m ∧ m ≤ 11)) (w : World) : Calls Tryd.prog 28 #[.int .i64 m, .int .i64 x, .int .i64 y] w fun e w' => e = .returned (.int .i64 (Px.mixed m x y)) ∧ w' = w := by
  rw [show Px.mixed m x y = y by unfold Px.mixed; iterate 11 rw [if_neg (by omega)]]
  have t1 : (m == 1) = false := by simp; omega
  have t2 : (m == 2) = false := by simp; omega
  have t3 : (m == 3) = false := by simp; omega
  have t4 : (m == 4) = false := by simp; omega
  have t5 : (m == 5) = false := by simp; omega
  have t6 : (m == 6) = false := by simp; omega
  have t7 : (m == 7) = false := by simp; omega
  have t8 : (m == 8) = false := by simp; omega
  have t9 : (m == 9) = false := by simp; omega
  have t10 : (m == 10) = false := by simp; omega
  have t11 : (m == 11) = false := by simp; omega
  have C := Lib.hid (docMul_any hx hy w)
  clear hm
  go_enter Tryd.func28, Tryd.ntmps28
  go_wp2_with fail
  refine C.out.mono ?_
  rintro e w' ⟨rfl, rfl⟩
  go_wp2_with fail
  go_ret
  exact ⟨rfl, rfl⟩
theorem B_any {m x y : Int} (hx : Px.Byte x) (hy : Px.Byte y) (w : World) : Calls Tryd.prog 28 #[.int .i64 m, .int .i64 x, .int .i64 y] w fun e w' => e = .returned (.int .i64 (Px.mixed m x y)) ∧ w' = w := by
  by_cases hm : 1 ≤ m ∧ m ≤ 11
  · have hc : m = 1 ∨ m = 2 ∨ m = 3 ∨ m = 4 ∨ m = 5 ∨ m = 6 ∨ m = 7 ∨ m = 8 ∨ m = 9 ∨ m = 10 ∨ m = 11 := by omega
    rcases hc with rfl | rfl | rfl | rfl | rfl | rfl | rfl | rfl | rfl | rfl | rfl
    · exact B_1 hx hy w
    · exact B_2 hx hy w
    · exact B_3 hx hy w
    · exact B_4 hx hy w
    · exact B_5 hx hy w
    · exact B_6 hx hy w
    · exact B_7 hx hy w
    · exact B_8 hx hy w
    · exact B_9 hx hy w
    · exact B_10 hx hy w
    · exact B_11 hx hy w
  · exact B_other hx hy hm w
end Go.Proofs.YtfofghakjjblfaaDoor
