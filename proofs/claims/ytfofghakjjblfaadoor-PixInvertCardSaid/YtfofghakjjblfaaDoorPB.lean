/- Contracts of the small functions of pixels: numbers alone. -/
import Derived.Test.YtfofghakjjblfaaDoorPA
import Derived.Test.YtfofghakjjblfaaDoorProg
import Derived.WalkKit
import Derived.WalkLawsBesides
import Derived.OneCell
import Derived.Outline
import Derived.Lib.Hide
import Derived.StillTailTactics
import Derived.BigQuiet
import Derived.BigRegion
import Derived.LoopTactic
import Derived.RegionTactic
import Derived.Deep.DeepMust
import Derived.Deep.QuietTactic
import Derived.Deep.LoopGhost
import Derived.Deep.OwnRows
import Derived.Deep.RegionHeld3
import Derived.Deep.RegionLaw
import Derived.Laws.BitsAllLaws
namespace Go.Proofs.YtfofghakjjblfaaDoor
open Go.RowKit
set_option linter.unusedVariables false

theorem wrap_i64 (n : Int) (h0 : -9223372036854775808 ≤ n) (h1 : n ≤ 9223372036854775807) : IntKind.i64.wrap n = n := by
  simp [IntKind.wrap, IntKind.bits, IntKind.signed]
  omega
theorem mul_any {a b : Int} (ha : Px.Byte a) (hb : Px.Byte b) (w : World) : Calls Tryd.prog 14 #[.int .i64 a, .int .i64 b] w fun e w' => e = .returned (.int .i64 (Px.mul a b)) ∧ w' = w := by
  obtain ⟨h0, h1⟩ := Px.prod ha hb
  clear ha hb
  go_enter Tryd.func14, Tryd.ntmps14
  go_wp2
  go_ret
  exact ⟨rfl, rfl⟩
theorem docMul_any {a b : Int} (ha : Px.Byte a) (hb : Px.Byte b) (w : World) : Calls Tryd.prog 15 #[.int .i64 a, .int .i64 b] w fun e w' => e = .returned (.int .i64 (Px.mul a b)) ∧ w' = w := by
  obtain ⟨h0, h1⟩ := Px.prod ha hb
  have HQ := Px.docNear_eq (a * b)
  unfold Px.docNear at HQ
  clear ha hb
  by_cases h2 : 255 < 2 * (a * b - 255 * (a * b / 255))
  · rw [if_pos h2] at HQ
    have HD := Lib.hid (show Px.mul a b = a * b / 255 + 1 from HQ.symm)
    clear HQ
    have t : decide (255 < 2 * (a * b - 255 * (a * b / 255))) = true := by simpa using h2
    go_enter Tryd.func15, Tryd.ntmps15
    go_wp2
    go_ret
    exact ⟨by rw [HD.out]; rfl, rfl⟩
  · rw [if_neg h2] at HQ
    have HD := Lib.hid (show Px.mul a b = a * b / 255 from HQ.symm)
    clear HQ
    have t : decide (255 < 2 * (a * b - 255 * (a * b / 255))) = false := by simpa using h2
    go_enter Tryd.func15, Tryd.ntmps15
    go_wp2
    go_ret
    exact ⟨by rw [HD.out]; rfl, rfl⟩
theorem dec_byte (a : Int) : decide (Px.Byte a) = (decide (0 ≤ a) && decide (a ≤ 255)) := by
  by_cases h0 : 0 ≤ a <;> by_cases h1 : a ≤ 255 <;> simp [Px.Byte, h0, h1]
theorem byteful_any (a : Int) (w : World) : Calls Tryd.prog 13 #[.int .i64 a] w fun e w' => e = .returned (.bool (decide (Px.Byte a))) ∧ w' = w := by
  rw [dec_byte]
  by_cases h0 : 0 ≤ a
  · have t : decide (0 ≤ a) = true := by simpa using h0
    rw [t, Bool.true_and]
    generalize hb : decide (a ≤ 255) = b
    go_enter Tryd.func13, Tryd.ntmps13
    go_wp2
    go_ret
    exact ⟨rfl, rfl⟩
  · have t : decide (0 ≤ a) = false := by simpa using h0
    rw [t, Bool.false_and]
    go_enter Tryd.func13, Tryd.ntmps13
    go_wp2
    go_ret
    exact ⟨rfl, rfl⟩
theorem quot_facts {c a : Int} (hc : Px.Byte c) (ha : Px.Byte a) (h : a ≠ 0) : 0 ≤ (255 * c + a / 2) / a ∧ (255 * c + a / 2) / a ≤ 255 * c + a / 2 ∧ 0 < a := by
  obtain ⟨c0, c1⟩ := hc
  obtain ⟨a0, a1⟩ := ha
  exact ⟨Int.ediv_nonneg (by omega) (by omega), Int.ediv_le_self _ (by omega), by omega⟩
theorem bare_any {c a : Int} (hc : Px.Byte c) (ha : Px.Byte a) (w : World) : Calls Tryd.prog 16 #[.int .i64 c, .int .i64 a] w fun e w' => e = .returned (.int .i64 (Px.bare c a)) ∧ w' = w := by
  by_cases h : a = 0
  · subst h
    obtain ⟨c0, c1⟩ := hc
    go_enter Tryd.func16, Tryd.ntmps16
    go_wp2
    go_ret
    exact ⟨rfl, rfl⟩
  · have t : (a == 0) = false := by simpa using h
    obtain ⟨h0, h1, h2⟩ := quot_facts hc ha h
    obtain ⟨c0, c1⟩ := hc
    obtain ⟨a0, a1⟩ := ha
    have HE := Lib.hid (show Px.bare c a = min ((255 * c + a / 2) / a) 255 from by unfold Px.bare; rw [if_neg h])
    clear h
    by_cases h3 : 255 < (255 * c + a / 2) / a
    · have e := Lib.hid (show min ((255 * c + a / 2) / a) 255 = 255 by omega)
      go_enter Tryd.func16, Tryd.ntmps16
      go_wp2
      go_ret
      exact ⟨by rw [HE.out, e.out]; rfl, rfl⟩
    · have e := Lib.hid (show min ((255 * c + a / 2) / a) 255 = (255 * c + a / 2) / a by omega)
      go_enter Tryd.func16, Tryd.ntmps16
      go_wp2
      go_ret
      exact ⟨by rw [HE.out, e.out]; rfl, rfl⟩
theorem docBare_any {c a : Int} (hc : Px.Byte c) (ha : Px.Byte a) (w : World) : Calls Tryd.prog 17 #[.int .i64 c, .int .i64 a] w fun e w' => e = .returned (.int .i64 (Px.bare c a)) ∧ w' = w := by
  by_cases h : a = 0
  · subst h
    obtain ⟨c0, c1⟩ := hc
    go_enter Tryd.func17, Tryd.ntmps17
    go_wp2
    go_ret
    exact ⟨rfl, rfl⟩
  · have t : (a == 0) = false := by simpa using h
    obtain ⟨h0, h1, h2⟩ := quot_facts hc ha h
    obtain ⟨c0, c1⟩ := hc
    obtain ⟨a0, a1⟩ := ha
    have HE := Lib.hid (show Px.bare c a = min ((255 * c + a / 2) / a) 255 from by unfold Px.bare; rw [if_neg h])
    clear h
    by_cases h3 : 255 < (255 * c + a / 2) / a
    · have e := Lib.hid (show min ((255 * c + a / 2) / a) 255 = 255 by omega)
      go_enter Tryd.func17, Tryd.ntmps17
      go_wp2
      go_ret
      exact ⟨by rw [HE.out, e.out]; rfl, rfl⟩
    · have e := Lib.hid (show min ((255 * c + a / 2) / a) 255 = (255 * c + a / 2) / a by omega)
      go_enter Tryd.func17, Tryd.ntmps17
      go_wp2
      go_ret
      exact ⟨by rw [HE.out, e.out]; rfl, rfl⟩
theorem share_any {k o : Int} (ho : Px.Byte o) (w : World) : Calls Tryd.prog 29 #[.int .i64 k, .int .i64 o] w fun e w' => e = .returned (.int .i64 (Px.shareOf k o)) ∧ w' = w := by
  obtain ⟨o0, o1⟩ := ho
  unfold Px.shareOf
  by_cases h1 : k = 1
  · subst h1
    go_enter Tryd.func29, Tryd.ntmps29
    go_wp2
    go_ret
    exact ⟨rfl, rfl⟩
  · by_cases h2 : k = 2
    · subst h2
      go_enter Tryd.func29, Tryd.ntmps29
      go_wp2
      go_ret
      exact ⟨rfl, rfl⟩
    · by_cases h3 : k = 3
      · subst h3
        go_enter Tryd.func29, Tryd.ntmps29
        go_wp2
        go_ret
        exact ⟨rfl, rfl⟩
      · rw [if_neg h1, if_neg h2, if_neg h3]
        have t1 : (k == 1) = false := by simpa using h1
        have t2 : (k == 2) = false := by simpa using h2
        have t3 : (k == 3) = false := by simpa using h3
        clear h1 h2 h3
        go_enter Tryd.func29, Tryd.ntmps29
        go_wp2
        go_ret
        exact ⟨rfl, rfl⟩
theorem least_any (a b : Int) (w : World) : Calls Tryd.prog 32 #[.int .i64 a, .int .i64 b] w fun e w' => e = .returned (.int .i64 (min a b)) ∧ w' = w := by
  by_cases h : a < b
  · have e := Lib.hid (show min a b = a by omega)
    go_enter Tryd.func32, Tryd.ntmps32
    go_wp2
    go_ret
    exact ⟨by rw [e.out]; rfl, rfl⟩
  · have e := Lib.hid (show min a b = b by omega)
    go_enter Tryd.func32, Tryd.ntmps32
    go_wp2
    go_ret
    exact ⟨by rw [e.out]; rfl, rfl⟩
theorem most_any (a b : Int) (w : World) : Calls Tryd.prog 37 #[.int .i64 a, .int .i64 b] w fun e w' => e = .returned (.int .i64 (max a b)) ∧ w' = w := by
  by_cases h : b < a
  · have e := Lib.hid (show max a b = a by omega)
    go_enter Tryd.func37, Tryd.ntmps37
    go_wp2
    go_ret
    exact ⟨by rw [e.out]; rfl, rfl⟩
  · have e := Lib.hid (show max a b = b by omega)
    go_enter Tryd.func37, Tryd.ntmps37
    go_wp2
    go_ret
    exact ⟨by rw [e.out]; rfl, rfl⟩
theorem screened_any {a b : Int} (ha : Px.Byte a) (hb : Px.Byte b) (w : World) : Calls Tryd.prog 30 #[.int .i64 a, .int .i64 b] w fun e w' => e = .returned (.int .i64 (Px.screened a b)) ∧ w' = w := by
  have C := Lib.hid (mul_any ha hb w)
  obtain ⟨m0, m1⟩ := Px.mul_byte ha hb
  obtain ⟨a0, a1⟩ := ha
  obtain ⟨b0, b1⟩ := hb
  unfold Px.screened
  generalize Px.mul a b = m at *
  go_enter Tryd.func30, Tryd.ntmps30
  go_wp2_with (first | (go_at_call 14; refine C.out.mono ?_; rintro e w' ⟨rfl, rfl⟩))
  go_ret
  exact ⟨rfl, rfl⟩
theorem hardLit_any {x y : Int} (hx : Px.Byte x) (hy : Px.Byte y) (w : World) : Calls Tryd.prog 38 #[.int .i64 x, .int .i64 y] w fun e w' => e = .returned (.int .i64 (Px.hardLit x y)) ∧ w' = w := by
  unfold Px.hardLit
  by_cases h : y ≤ 127
  · rw [if_pos h]
    have C := Lib.hid (mul_any hx (b := 2 * y) (by unfold Px.Byte at *; omega) w)
    obtain ⟨a0, a1⟩ := hx
    obtain ⟨b0, b1⟩ := hy
    go_enter Tryd.func38, Tryd.ntmps38
    go_wp2_with (first | (go_at_call 14; refine C.out.mono ?_; rintro e w' ⟨rfl, rfl⟩))
    go_ret
    exact ⟨rfl, rfl⟩
  · rw [if_neg h]
    have C := Lib.hid (screened_any hx (b := 2 * y - 255) (by unfold Px.Byte at *; omega) w)
    obtain ⟨a0, a1⟩ := hx
    obtain ⟨b0, b1⟩ := hy
    go_enter Tryd.func38, Tryd.ntmps38
    go_wp2_with (first | (go_at_call 30; refine C.out.mono ?_; rintro e w' ⟨rfl, rfl⟩))
    go_ret
    exact ⟨rfl, rfl⟩
theorem div_facts {p q : Int} (hp : 0 ≤ p) (hp2 : p ≤ 65025) (hq : 0 < q) : 0 ≤ p / q ∧ p / q ≤ 65025 :=
  ⟨Int.ediv_nonneg hp (by omega), by have := Int.ediv_le_self q hp; omega⟩
theorem dodged_any {x y : Int} (hx : Px.Byte x) (hy : Px.Byte y) (w : World) : Calls Tryd.prog 39 #[.int .i64 x, .int .i64 y] w fun e w' => e = .returned (.int .i64 (Px.dodged x y)) ∧ w' = w := by
  obtain ⟨a0, a1⟩ := hx
  obtain ⟨b0, b1⟩ := hy
  unfold Px.dodged
  by_cases h : x = 0
  · subst h
    go_enter Tryd.func39, Tryd.ntmps39
    go_wp2
    go_ret
    exact ⟨rfl, rfl⟩
  · rw [if_neg h]
    have t : (x == 0) = false := by simpa using h
    clear h
    by_cases h : y = 255
    · subst h
      go_enter Tryd.func39, Tryd.ntmps39
      go_wp2
      go_ret
      exact ⟨rfl, rfl⟩
    · rw [if_neg h]
      have t2 : (y == 255) = false := by simpa using h
      have hp : 0 < 255 - y := by omega
      obtain ⟨q0, q1⟩ := div_facts (p := 255 * x) (q := 255 - y) (by omega) (by omega) hp
      clear h
      by_cases h3 : 255 < 255 * x / (255 - y)
      · have e := Lib.hid (show min (255 * x / (255 - y)) 255 = 255 by omega)
        go_enter Tryd.func39, Tryd.ntmps39
        go_wp2
        go_ret
        exact ⟨by rw [e.out]; rfl, rfl⟩
      · have e := Lib.hid (show min (255 * x / (255 - y)) 255 = 255 * x / (255 - y) by omega)
        go_enter Tryd.func39, Tryd.ntmps39
        go_wp2
        go_ret
        exact ⟨by rw [e.out]; rfl, rfl⟩
theorem burnt_any {x y : Int} (hx : Px.Byte x) (hy : Px.Byte y) (w : World) : Calls Tryd.prog 40 #[.int .i64 x, .int .i64 y] w fun e w' => e = .returned (.int .i64 (Px.burnt x y)) ∧ w' = w := by
  obtain ⟨a0, a1⟩ := hx
  obtain ⟨b0, b1⟩ := hy
  unfold Px.burnt
  by_cases h : x = 255
  · subst h
    go_enter Tryd.func40, Tryd.ntmps40
    go_wp2
    go_ret
    exact ⟨rfl, rfl⟩
  · rw [if_neg h]
    have t : (x == 255) = false := by simpa using h
    clear h
    by_cases h : y = 0
    · subst h
      go_enter Tryd.func40, Tryd.ntmps40
      go_wp2
      go_ret
      exact ⟨rfl, rfl⟩
    · rw [if_neg h]
      have t2 : (y == 0) = false := by simpa using h
      have hp : 0 < y := by omega
      obtain ⟨q0, q1⟩ := div_facts (p := 255 * (255 - x)) (q := y) (by omega) (by omega) hp
      clear h
      by_cases h3 : 255 < 255 * (255 - x) / y
      · have e := Lib.hid (show min (255 * (255 - x) / y) 255 = 255 by omega)
        go_enter Tryd.func40, Tryd.ntmps40
        go_wp2
        go_ret
        exact ⟨by rw [e.out]; rfl, rfl⟩
      · have e := Lib.hid (show min (255 * (255 - x) / y) 255 = 255 * (255 - x) / y by omega)
        go_enter Tryd.func40, Tryd.ntmps40
        go_wp2
        go_ret
        exact ⟨by rw [e.out]; rfl, rfl⟩
theorem softLit_any {x y : Int} (hx : Px.Byte x) (hy : Px.Byte y) (w : World) : Calls Tryd.prog 41 #[.int .i64 x, .int .i64 y] w fun e w' => e = .returned (.int .i64 (Px.softLit x y)) ∧ w' = w := by
  have s1 := Px.mul_byte hx hx
  have C1 := Lib.hid (mul_any hx hx w)
  have C2 := Lib.hid (mul_any hx hy w)
  have C3 := Lib.hid (mul_any s1 hy w)
  obtain ⟨m0, m1⟩ := Px.mul_byte hx hy
  obtain ⟨p0, p1⟩ := Px.mul_byte s1 hy
  obtain ⟨n0, n1⟩ := s1
  obtain ⟨a0, a1⟩ := hx
  obtain ⟨b0, b1⟩ := hy
  have HE := Lib.hid (show Px.softLit x y = min (max (Px.mul x x + 2 * Px.mul x y - 2 * Px.mul (Px.mul x x) y) 0) 255 from rfl)
  generalize Px.softLit x y = z at *
  generalize Px.mul x y = m at *
  generalize Px.mul (Px.mul x x) y = p at *
  generalize Px.mul x x = n at *
  go_enter Tryd.func41, Tryd.ntmps41
  go_wp2_with fail
  refine C1.out.mono ?_
  rintro e w' ⟨rfl, rfl⟩
  go_wp2_with fail
  refine C2.out.mono ?_
  rintro e w' ⟨rfl, rfl⟩
  go_wp2_with fail
  refine C3.out.mono ?_
  rintro e w' ⟨rfl, rfl⟩
  go_wp2_with fail
  all_goals go_ret
  all_goals refine ⟨?_, rfl⟩
  all_goals rw [HE.out]
  all_goals refine congrArg (fun q => Ending.returned (.int .i64 q)) ?_
  all_goals omega
theorem mixed_1 {x y : Int} (hx : Px.Byte x) (hy : Px.Byte y) (w : World) : Calls Tryd.prog 31 #[.int .i64 1, .int .i64 x, .int .i64 y] w fun e w' => e = .returned (.int .i64 (Px.mixed 1 x y)) ∧ w' = w := by
  have C := Lib.hid (mul_any hx hy w)
  rw [show Px.mixed 1 x y = Px.mul x y from rfl]
  go_enter Tryd.func31, Tryd.ntmps31
  go_wp2_with fail
  refine C.out.mono ?_
  rintro e w' ⟨rfl, rfl⟩
  go_wp2_with fail
  go_ret
  exact ⟨rfl, rfl⟩
theorem mixed_2 {x y : Int} (hx : Px.Byte x) (hy : Px.Byte y) (w : World) : Calls Tryd.prog 31 #[.int .i64 2, .int .i64 x, .int .i64 y] w fun e w' => e = .returned (.int .i64 (Px.mixed 2 x y)) ∧ w' = w := by
  have C := Lib.hid (screened_any hx hy w)
  rw [show Px.mixed 2 x y = Px.screened x y from rfl]
  go_enter Tryd.func31, Tryd.ntmps31
  go_wp2_with fail
  refine C.out.mono ?_
  rintro e w' ⟨rfl, rfl⟩
  go_wp2_with fail
  go_ret
  exact ⟨rfl, rfl⟩
theorem mixed_3 {x y : Int} (hx : Px.Byte x) (hy : Px.Byte y) (w : World) : Calls Tryd.prog 31 #[.int .i64 3, .int .i64 x, .int .i64 y] w fun e w' => e = .returned (.int .i64 (Px.mixed 3 x y)) ∧ w' = w := by
  have C := Lib.hid (hardLit_any hy hx w)
  rw [show Px.mixed 3 x y = Px.hardLit y x from rfl]
  go_enter Tryd.func31, Tryd.ntmps31
  go_wp2_with fail
  refine C.out.mono ?_
  rintro e w' ⟨rfl, rfl⟩
  go_wp2_with fail
  go_ret
  exact ⟨rfl, rfl⟩
theorem mixed_4 {x y : Int} (hx : Px.Byte x) (hy : Px.Byte y) (w : World) : Calls Tryd.prog 31 #[.int .i64 4, .int .i64 x, .int .i64 y] w fun e w' => e = .returned (.int .i64 (Px.mixed 4 x y)) ∧ w' = w := by
  have HE := Lib.hid (show Px.mixed 4 x y = min x y from rfl)
  generalize Px.mixed 4 x y = z at *
  obtain ⟨a0, a1⟩ := hx
  obtain ⟨b0, b1⟩ := hy
  go_enter Tryd.func31, Tryd.ntmps31
  go_wp2_with fail
  all_goals go_ret
  all_goals refine ⟨?_, rfl⟩
  all_goals rw [HE.out]
  all_goals refine congrArg (fun q => Ending.returned (.int .i64 q)) ?_
  all_goals omega
theorem mixed_5 {x y : Int} (hx : Px.Byte x) (hy : Px.Byte y) (w : World) : Calls Tryd.prog 31 #[.int .i64 5, .int .i64 x, .int .i64 y] w fun e w' => e = .returned (.int .i64 (Px.mixed 5 x y)) ∧ w' = w := by
  have HE := Lib.hid (show Px.mixed 5 x y = max x y from rfl)
  generalize Px.mixed 5 x y = z at *
  obtain ⟨a0, a1⟩ := hx
  obtain ⟨b0, b1⟩ := hy
  go_enter Tryd.func31, Tryd.ntmps31
  go_wp2_with fail
  all_goals go_ret
  all_goals refine ⟨?_, rfl⟩
  all_goals rw [HE.out]
  all_goals refine congrArg (fun q => Ending.returned (.int .i64 q)) ?_
  all_goals omega
theorem mixed_6 {x y : Int} (hx : Px.Byte x) (hy : Px.Byte y) (w : World) : Calls Tryd.prog 31 #[.int .i64 6, .int .i64 x, .int .i64 y] w fun e w' => e = .returned (.int .i64 (Px.mixed 6 x y)) ∧ w' = w := by
  have C := Lib.hid (dodged_any hx hy w)
  rw [show Px.mixed 6 x y = Px.dodged x y from rfl]
  go_enter Tryd.func31, Tryd.ntmps31
  go_wp2_with fail
  refine C.out.mono ?_
  rintro e w' ⟨rfl, rfl⟩
  go_wp2_with fail
  go_ret
  exact ⟨rfl, rfl⟩
theorem mixed_7 {x y : Int} (hx : Px.Byte x) (hy : Px.Byte y) (w : World) : Calls Tryd.prog 31 #[.int .i64 7, .int .i64 x, .int .i64 y] w fun e w' => e = .returned (.int .i64 (Px.mixed 7 x y)) ∧ w' = w := by
  have C := Lib.hid (burnt_any hx hy w)
  rw [show Px.mixed 7 x y = Px.burnt x y from rfl]
  go_enter Tryd.func31, Tryd.ntmps31
  go_wp2_with fail
  refine C.out.mono ?_
  rintro e w' ⟨rfl, rfl⟩
  go_wp2_with fail
  go_ret
  exact ⟨rfl, rfl⟩
theorem mixed_8 {x y : Int} (hx : Px.Byte x) (hy : Px.Byte y) (w : World) : Calls Tryd.prog 31 #[.int .i64 8, .int .i64 x, .int .i64 y] w fun e w' => e = .returned (.int .i64 (Px.mixed 8 x y)) ∧ w' = w := by
  have C := Lib.hid (hardLit_any hx hy w)
  rw [show Px.mixed 8 x y = Px.hardLit x y from rfl]
  go_enter Tryd.func31, Tryd.ntmps31
  go_wp2_with fail
  refine C.out.mono ?_
  rintro e w' ⟨rfl, rfl⟩
  go_wp2_with fail
  go_ret
  exact ⟨rfl, rfl⟩
theorem mixed_9 {x y : Int} (hx : Px.Byte x) (hy : Px.Byte y) (w : World) : Calls Tryd.prog 31 #[.int .i64 9, .int .i64 x, .int .i64 y] w fun e w' => e = .returned (.int .i64 (Px.mixed 9 x y)) ∧ w' = w := by
  have HE := Lib.hid (show Px.mixed 9 x y = max x y - min x y from rfl)
  generalize Px.mixed 9 x y = z at *
  obtain ⟨a0, a1⟩ := hx
  obtain ⟨b0, b1⟩ := hy
  go_enter Tryd.func31, Tryd.ntmps31
  go_wp2_with fail
  all_goals go_ret
  all_goals refine ⟨?_, rfl⟩
  all_goals rw [HE.out]
  all_goals refine congrArg (fun q => Ending.returned (.int .i64 q)) ?_
  all_goals omega
theorem mixed_10 {x y : Int} (hx : Px.Byte x) (hy : Px.Byte y) (w : World) : Calls Tryd.prog 31 #[.int .i64 10, .int .i64 x, .int .i64 y] w fun e w' => e = .returned (.int .i64 (Px.mixed 10 x y)) ∧ w' = w := by
  have C := Lib.hid (mul_any hx hy w)
  obtain ⟨m0, m1⟩ := Px.mul_byte hx hy
  rw [show Px.mixed 10 x y = x + y - 2 * Px.mul x y from rfl]
  generalize Px.mul x y = q at *
  obtain ⟨a0, a1⟩ := hx
  obtain ⟨b0, b1⟩ := hy
  go_enter Tryd.func31, Tryd.ntmps31
  go_wp2_with fail
  refine C.out.mono ?_
  rintro e w' ⟨rfl, rfl⟩
  go_wp2_with fail
  go_ret
  exact ⟨rfl, rfl⟩
theorem mixed_11 {x y : Int} (hx : Px.Byte x) (hy : Px.Byte y) (w : World) : Calls Tryd.prog 31 #[.int .i64 11, .int .i64 x, .int .i64 y] w fun e w' => e = .returned (.int .i64 (Px.mixed 11 x y)) ∧ w' = w := by
  have C := Lib.hid (softLit_any hx hy w)
  rw [show Px.mixed 11 x y = Px.softLit x y from rfl]
  go_enter Tryd.func31, Tryd.ntmps31
  go_wp2_with fail
  refine C.out.mono ?_
  rintro e w' ⟨rfl, rfl⟩
  go_wp2_with fail
  go_ret
  exact ⟨rfl, rfl⟩
theorem mixed_other {m x y : Int} (hx : Px.Byte x) (hy : Px.Byte y) (hm : ¬ (1 ≤ m ∧ m ≤ 11)) (w : World) : Calls Tryd.prog 31 #[.int .i64 m, .int .i64 x, .int .i64 y] w fun e w' => e = .returned (.int .i64 (Px.mixed m x y)) ∧ w' = w := by
  rw [show Px.mixed m x y = y by unfold Px.mixed; iterate 11 rw [if_neg (by omega)]]
  have t1 : (m == 1) = false := by simp; omega
  have t2 : (m == 2) = false := by simp; omega
  have t3 : (m == 3) = false := by simp; omega
  have t4 : (m == 4) = false := by simp; omega
  have t5 : (m == 5) = false := by simp; omega
  have t6 : (m == 6) = false := by simp; omega
  have t7 : (m == 7) = false := by simp; omega
  have t8 : (m == 8) = false := by simp; omega
  have t9 : (m == 9) = false := by simp; omega
  have t10 : (m == 10) = false := by simp; omega
  have t11 : (m == 11) = false := by simp; omega
  clear hm
  go_enter Tryd.func31, Tryd.ntmps31
  go_wp2_with fail
  go_ret
  exact ⟨rfl, rfl⟩
theorem mixed_any {m x y : Int} (hx : Px.Byte x) (hy : Px.Byte y) (w : World) : Calls Tryd.prog 31 #[.int .i64 m, .int .i64 x, .int .i64 y] w fun e w' => e = .returned (.int .i64 (Px.mixed m x y)) ∧ w' = w := by
  by_cases hm : 1 ≤ m ∧ m ≤ 11
  · have hc : m = 1 ∨ m = 2 ∨ m = 3 ∨ m = 4 ∨ m = 5 ∨ m = 6 ∨ m = 7 ∨ m = 8 ∨ m = 9 ∨ m = 10 ∨ m = 11 := by omega
    rcases hc with rfl | rfl | rfl | rfl | rfl | rfl | rfl | rfl | rfl | rfl | rfl
    · exact mixed_1 hx hy w
    · exact mixed_2 hx hy w
    · exact mixed_3 hx hy w
    · exact mixed_4 hx hy w
    · exact mixed_5 hx hy w
    · exact mixed_6 hx hy w
    · exact mixed_7 hx hy w
    · exact mixed_8 hx hy w
    · exact mixed_9 hx hy w
    · exact mixed_10 hx hy w
    · exact mixed_11 hx hy w
  · exact mixed_other hx hy hm w
end Go.Proofs.YtfofghakjjblfaaDoor
