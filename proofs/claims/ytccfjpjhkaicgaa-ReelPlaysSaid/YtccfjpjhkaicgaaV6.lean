/- Every step of a play. -/
import Derived.Test.YtccfjpjhkaicgaaV5
namespace Go.Proofs.Ytccfjpjhkaicgaa
open Go.RowKit

theorem step_any (w W : World) (R T : Nat) (m : M) (h : Both w R m T m W) (kind N K : Int) (hN : -9223372036854775808 ≤ N ∧ N ≤ 9223372036854775807) (a : Option Addr) (n c : Nat) (ys : List Int) (ho : Opnd w a n c ys) :
    Calls Try.prog 10 #[.pointer (some ⟨R, 0, none⟩), .pointer (some ⟨T, 0, none⟩), .agg #[.int .i64 kind, .int .i64 N, .int .i64 K, .slice a n c]] W (Stepped w R T) := by
  by_cases k1 : kind = 1
  · subst k1
    by_cases hd : m.down = true
    · exact step_append_down w W R T m h N K a n c ys ho hd
    · have hd' : m.down = false := by simpa using hd
      by_cases hr : m.cap < (m.xs.length : Int) + n
      · exact step_append_full w W R T m h N K a n c ys ho hd' hr
      · exact step_append_fits w W R T m h N K a n c ys ho hd' (by omega)
  by_cases k2 : kind = 2
  · subst k2; exact step_sync w W R T m h N K a n c
  by_cases k3 : kind = 3
  · subst k3
    by_cases hd : m.down = true
    · exact step_cut_down w W R T m h N K a n c hd
    · have hd' : m.down = false := by simpa using hd
      by_cases hr : N < 0 ∨ (m.xs.length : Int) < N
      · exact step_cut_range w W R T m h N K a n c hd' hr
      · obtain ⟨k, rfl⟩ := Int.eq_ofNat_of_zero_le (show 0 ≤ N by omega)
        exact step_cut_ok w W R T m h k K a n c hd' (by omega)
  by_cases k4 : kind = 4
  · subst k4
    by_cases hd : m.down = true
    · exact step_read_down w W R T m h N K a n c hd
    · have hd' : m.down = false := by simpa using hd
      by_cases hr : N < 0 ∨ K < 0 ∨ (m.xs.length : Int) - N < K
      · exact step_read_range w W R T m h N K hN.1 hN.2 a n c hd' hr
      · obtain ⟨p, rfl⟩ := Int.eq_ofNat_of_zero_le (show 0 ≤ N by omega)
        obtain ⟨q, rfl⟩ := Int.eq_ofNat_of_zero_le (show 0 ≤ K by omega)
        exact step_read_ok w W R T m h p q a n c hd' (by omega)
  by_cases k5 : kind = 5
  · subst k5; exact step_arm w W R T m h N K hN.2 a n c
  by_cases k6 : kind = 6
  · subst k6; exact step_crash w W R T m h N K hN.1 hN.2 a n c ys ho
  exact step_none w W R T m h kind N K a n c (by simpa using k1) (by simpa using k2) (by simpa using k3) (by simpa using k4) (by simpa using k5) (by simpa using k6)
end Go.Proofs.Ytccfjpjhkaicgaa
