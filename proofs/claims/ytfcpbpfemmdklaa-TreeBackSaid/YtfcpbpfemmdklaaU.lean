/- Small functions: numbers up to (46), sides, areas (29, 16), New (7), the map that does nothing (66), copies of documents (18), all deeds (17), Parent (11). -/
import Derived.Test.YtfcpbpfemmdklaaS
import Derived.Test.YtfcpbpfemmdklaaR
namespace Go.Proofs.Ytfcpbpfemmdklaa
open Go.RowKit Go.Lib
set_option linter.unusedSimpArgs false
set_option linter.unusedVariables false

theorem wrap64_id (n : Int) (h0 : -9223372036854775808 ≤ n) (h1 : n ≤ 9223372036854775807) : wrap64 n = n := by
  unfold wrap64
  omega
set_option maxHeartbeats 400000 in
theorem upto46 (n m : Int) (w : World) : Calls Try.prog 46 #[.int .i64 n, .int .i64 m] w fun e w' => e = .returned (.bool (decide (0 ≤ n) && decide (n ≤ m))) ∧ w' = w := by
  by_cases h : 0 ≤ n
  · have a1 : decide (n ≥ 0) = true := by simpa using h
    by_cases h2 : n ≤ m
    · have b1 : decide (n ≤ m) = true := by simpa using h2
      go_enter Try.func46, Try.ntmps46
      go_wp2
      go_ret
      exact ⟨by simp [h, h2], rfl⟩
    · have b1 : decide (n ≤ m) = false := by simpa using h2
      go_enter Try.func46, Try.ntmps46
      go_wp2
      go_ret
      exact ⟨by simp [h, h2], rfl⟩
  · have a1 : decide (n ≥ 0) = false := by simpa using h
    go_enter Try.func46, Try.ntmps46
    go_wp2
    go_ret
    exact ⟨by simp [h], rfl⟩
set_option maxHeartbeats 400000 in
theorem side29 (n : Int) (w : World) : Calls Try.prog 29 #[.int .i64 n] w fun e w' => e = .returned (.bool (sideP n)) ∧ w' = w := by
  unfold sideP
  by_cases h : 1 ≤ n
  · have a1 : decide (n ≥ 1) = true := by simpa using h
    by_cases h2 : n ≤ 32768
    · have b1 : decide (n ≤ 32768) = true := by simpa using h2
      go_enter Try.func29, Try.ntmps29
      go_wp2
      go_ret
      exact ⟨by simp [h, h2], rfl⟩
    · have b1 : decide (n ≤ 32768) = false := by simpa using h2
      go_enter Try.func29, Try.ntmps29
      go_wp2
      go_ret
      exact ⟨by simp [h, h2], rfl⟩
  · have a1 : decide (n ≥ 1) = false := by simpa using h
    go_enter Try.func29, Try.ntmps29
    go_wp2
    go_ret
    exact ⟨by simp [h], rfl⟩
theorem side_bounds {n : Int} (h : sideP n = true) : 1 ≤ n ∧ n ≤ 32768 := by unfold sideP at h; simpa using h
set_option maxHeartbeats 400000 in
theorem area16 (x y : Int) (w : World) : Calls Try.prog 16 #[.int .i64 x, .int .i64 y] w fun e w' => e = .returned (.bool (areaP x y)) ∧ w' = w := by
  unfold areaP
  cases h1 : sideP x with
  | false =>
    go_enter Try.func16, Try.ntmps16
    go_wp2_with (refine (side29 x w).mono ?_; rw [h1]; rintro e w2 ⟨rfl, rfl⟩)
    go_ret
    exact ⟨rfl, rfl⟩
  | true =>
    cases h2 : sideP y with
    | false =>
      go_enter Try.func16, Try.ntmps16
      go_wp2_with (first
        | (refine (side29 x w).mono ?_; rw [h1]; rintro e w2 ⟨rfl, hw⟩; subst hw)
        | (refine (side29 y w2).mono ?_; rw [h2]; rintro e w3 ⟨rfl, hw⟩; subst hw))
      go_ret
      exact ⟨rfl, rfl⟩
    | true =>
      have bx := side_bounds h1
      have bY := side_bounds h2
      have hm0 : 0 ≤ x * y := Int.mul_nonneg (by omega) (by omega)
      have hm1 : x * y ≤ 32768 * 32768 := Int.mul_le_mul bx.2 bY.2 (by omega) (by omega)
      have wm : IntKind.i64.wrap (x * y) = x * y := wrap_i64 _ (by omega) (by omega)
      have wm2 : wrap64 (x * y) = x * y := wrap64_id _ (by omega) (by omega)
      clear bx bY hm0 hm1
      by_cases h3 : x * y ≤ 4194304
      · have b1 : decide (x * y ≤ 4194304) = true := by simpa using h3
        go_enter Try.func16, Try.ntmps16
        go_wp2_with (first
          | (refine (side29 x w).mono ?_; rw [h1]; rintro e w2 ⟨rfl, hw⟩; subst hw)
          | (refine (side29 y w2).mono ?_; rw [h2]; rintro e w3 ⟨rfl, hw⟩; subst hw))
        go_ret
        exact ⟨by simp [h3, wm2], rfl⟩
      · have b1 : decide (x * y ≤ 4194304) = false := by simpa using h3
        go_enter Try.func16, Try.ntmps16
        go_wp2_with (first
          | (refine (side29 x w).mono ?_; rw [h1]; rintro e w2 ⟨rfl, hw⟩; subst hw)
          | (refine (side29 y w2).mono ?_; rw [h2]; rintro e w3 ⟨rfl, hw⟩; subst hw))
        go_ret
        exact ⟨by simp [h3, wm2], rfl⟩
end Go.Proofs.Ytfcpbpfemmdklaa
