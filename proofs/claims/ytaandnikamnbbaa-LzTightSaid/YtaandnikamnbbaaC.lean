/- The contract of stands. -/
import Derived.Test.YtaandnikamnbbaaB
namespace Go.Proofs.Ytaandnikamnbbaa
open Go.RowKit
set_option linter.unusedVariables false

/-- A bool, and the old memory as it was. -/
def Says (b : Bool) (w : World) (e : Ending) (w' : World) : Prop := e = .returned (.bool b) ∧ Below w.heap.size w w'

set_option maxRecDepth 100000 in
set_option maxHeartbeats 800000 in
theorem stands_any (w : World) (t : Tok) (n : Nat) (h : Fits t) (hn : n ≤ 33554432) : Calls Try.prog 13 #[.agg #[.int .i64 t.L, .int .i64 t.D, .int .u8 (t.X : Nat)], .int .i64 (n : Nat)] w (Says (may t n) w) := by
  obtain ⟨L, D, X⟩ := t
  obtain ⟨⟨l1, l2⟩, ⟨d1, d2⟩, hx⟩ := h
  simp only at l1 l2 d1 d2 hx ⊢
  have hb : Below w.heap.size w (w.alloc (.cells #[.int .i64 L, .int .i64 D, .int .u8 (X : Nat)] 27)) := (Below.refl _ _).alloc (Nat.le_refl _) _
  have HB := Lib.hid hb
  clear hb
  by_cases h0 : L = 0
  · subst h0
    have e : may ⟨0, D, X⟩ n = true := by simp [may]
    rw [e]
    go_enter Try.func13, Try.ntmps13
    go_wp2_with fail
    go_ret
    exact ⟨rfl, HB.out⟩
  · have u0 : (L == 0) = false := by simpa using h0
    have u0' : decide (L = 0) = false := by simpa using h0
    by_cases h1 : 3 ≤ L
    · have u1 : decide (3 ≤ L) = true := by simpa using h1
      by_cases h2 : L ≤ 258
      · have u2 : decide (L ≤ 258) = true := by simpa using h2
        by_cases h3 : 1 ≤ D
        · have u3 : decide (1 ≤ D) = true := by simpa using h3
          by_cases hs : n < 32768
          · by_cases h4 : D ≤ (n : Int)
            · have u4 : decide (D ≤ (n : Int)) = true := by simpa using h4
              have e : may ⟨L, D, X⟩ n = true := by simp [may]; omega
              rw [e]
              go_enter Try.func13, Try.ntmps13
              go_wp2_with fail
              go_ret
              exact ⟨rfl, HB.out⟩
            · have u4 : decide (D ≤ (n : Int)) = false := by simpa using h4
              have e : may ⟨L, D, X⟩ n = false := by simp [may]; omega
              rw [e]
              go_enter Try.func13, Try.ntmps13
              go_wp2_with fail
              go_ret
              exact ⟨rfl, HB.out⟩
          · by_cases h4 : D ≤ 32768
            · have u4 : decide (D ≤ 32768) = true := by simpa using h4
              have e : may ⟨L, D, X⟩ n = true := by simp [may]; omega
              rw [e]
              go_enter Try.func13, Try.ntmps13
              go_wp2_with fail
              go_ret
              exact ⟨rfl, HB.out⟩
            · have u4 : decide (D ≤ 32768) = false := by simpa using h4
              have e : may ⟨L, D, X⟩ n = false := by simp [may]; omega
              rw [e]
              go_enter Try.func13, Try.ntmps13
              go_wp2_with fail
              go_ret
              exact ⟨rfl, HB.out⟩
        · have u3 : decide (1 ≤ D) = false := by simpa using h3
          have e : may ⟨L, D, X⟩ n = false := by simp [may]; omega
          rw [e]
          go_enter Try.func13, Try.ntmps13
          go_wp2_with fail
          go_ret
          exact ⟨rfl, HB.out⟩
      · have u2 : decide (L ≤ 258) = false := by simpa using h2
        have e : may ⟨L, D, X⟩ n = false := by simp [may]; omega
        rw [e]
        go_enter Try.func13, Try.ntmps13
        go_wp2_with fail
        go_ret
        exact ⟨rfl, HB.out⟩
    · have u1 : decide (3 ≤ L) = false := by simpa using h1
      have e : may ⟨L, D, X⟩ n = false := by simp [may]; omega
      rw [e]
      go_enter Try.func13, Try.ntmps13
      go_wp2_with fail
      go_ret
      exact ⟨rfl, HB.out⟩
end Go.Proofs.Ytaandnikamnbbaa
