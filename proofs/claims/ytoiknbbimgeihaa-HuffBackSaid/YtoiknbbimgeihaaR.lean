/- HuffLeast where the counts or the greatest length aren't right. -/
import Derived.Test.YtoiknbbimgeihaaQ
namespace Go.Proofs.Ytoiknbbimgeihaa
open Go.RowKit
set_option linter.unusedVariables false

theorem not_good {zs : List Int} {most : Int} (h : ¬ (1 ≤ most ∧ most ≤ 16 ∧ zs.length ≤ 300)) : good zs most = false := by
  unfold good
  simp only [decide_eq_false_iff_not]
  rintro ⟨h1, h2, h3, _⟩
  exact h ⟨h1, h2, h3⟩

set_option maxRecDepth 100000 in
set_option maxHeartbeats 2000000 in
theorem huffLeast_wrong (HA : AnchorSays) (HL : LengthsSays) (w : World) (a : Option Addr) (n c : Nat) (zs : List Int) (most : Int) (hm0 : -9223372036854775808 ≤ most ∧ most ≤ 9223372036854775807) (h : n ≤ 1000) (hz : Ints w a n zs) (hno : ¬ (1 ≤ most ∧ most ≤ 16 ∧ n ≤ 300)) : Calls Try.prog 3 #[.slice a n c, .int .i64 most] w (Yes w) := by
  have A := Lib.hid (HA w)
  have HZ := Lib.hid hz
  have HL := Lib.hid HL
  have t0 : decide ((1000 : Int) < n) = false := by simp; omega
  have HNG := Lib.hid (not_good (zs := zs) (most := most) (by rw [hz.1]; exact hno))
  clear hz HA
  go_enter Try.func3, Try.ntmps3
  go_wp2_with fail
  refine A.out.mono ?_
  rintro e w1 ⟨rfl, hk⟩
  have Z1 := Lib.hid (HZ.out.below hk)
  have K1 := Lib.hid hk
  clear hk
  by_cases c1 : 1 ≤ most
  · by_cases c2 : most ≤ 16
    · have c3 : ¬ n ≤ 300 := fun h => hno ⟨c1, c2, h⟩
      clear hno
      go_wp2
      go_loopw [5, 6, 34] (fun rv nv cnt wr => ∃ i : Nat, i ≤ n ∧ cnt = .int .i64 i ∧ rv = .bool false ∧ nv = .int .i64 (above zs i : Nat) ∧ wr = w1) (fun _ _ cnt _ => n - (intOf cnt).toNat)
      case atStart => exact ⟨0, Nat.zero_le _, rfl, by rw [show decide ((n : Int) ≤ 300) = false by simp; omega], rfl, rfl⟩
      case round =>
        obtain ⟨i, hi, rfl, rfl, rfl, rfl⟩ := hrel
        by_cases hlt : i < n
        · obtain ⟨b0, o0, z, rfl, hz, hzb, hcz⟩ := Z1.out.at hlt
          have hab := above_succ zs i
          rw [getD_of hz] at hab
          have hal := above_le zs i
          obtain ⟨k, hk⟩ : ∃ k, k = above zs i := ⟨_, rfl⟩
          rw [← hk] at hab hal ⊢
          obtain ⟨k', hk'⟩ : ∃ k', k' = above zs (i + 1) := ⟨_, rfl⟩
          rw [← hk'] at hab
          have HK' := Lib.hid hk'
          clear hk hk' hz
          by_cases hp : 0 < z
          · rw [if_pos hp] at hab
            have HAB := Lib.hid hab
            clear hab
            go_wp2
            go_roundw
            case rel => exact ⟨i + 1, by omega, by go_num, rfl, by rw [← HK'.out, HAB.out]; simp, trivial⟩
            case measure => simp [intOf]; omega
          · rw [if_neg hp] at hab
            have HAB := Lib.hid hab
            clear hab
            go_wp2
            go_roundw
            case rel => exact ⟨i + 1, by omega, by go_num, rfl, by rw [← HK'.out, HAB.out]; simp, trivial⟩
            case measure => simp [intOf]; omega
        · obtain rfl : i = n := by omega
          generalize above zs i = k at *
          have C1 := Lib.hid (HL.out wr a i c zs most Z1.out (by omega) hm0.1 hm0.2)
          go_wp2_with fail
          refine C1.out.mono ?_
          rintro e w2 ht
          unfold LengthsSay at ht
          rw [HNG.out] at ht
          simp only [Bool.false_eq_true, if_false] at ht
          obtain ⟨aa, cap, rfl, hk⟩ := ht
          have K2 := Lib.hid (below_more K1.out hk (Nat.le_refl _))
          clear hk
          go_wp2
          go_ret
          exact ⟨rfl, K2.out⟩
    · clear hno
      go_wp2
      go_loopw [5, 6, 34] (fun rv nv cnt wr => ∃ i : Nat, i ≤ n ∧ cnt = .int .i64 i ∧ rv = .bool false ∧ nv = .int .i64 (above zs i : Nat) ∧ wr = w1) (fun _ _ cnt _ => n - (intOf cnt).toNat)
      case atStart => exact ⟨0, Nat.zero_le _, rfl, rfl, rfl, rfl⟩
      case round =>
        obtain ⟨i, hi, rfl, rfl, rfl, rfl⟩ := hrel
        by_cases hlt : i < n
        · obtain ⟨b0, o0, z, rfl, hz, hzb, hcz⟩ := Z1.out.at hlt
          have hab := above_succ zs i
          rw [getD_of hz] at hab
          have hal := above_le zs i
          obtain ⟨k, hk⟩ : ∃ k, k = above zs i := ⟨_, rfl⟩
          rw [← hk] at hab hal ⊢
          obtain ⟨k', hk'⟩ : ∃ k', k' = above zs (i + 1) := ⟨_, rfl⟩
          rw [← hk'] at hab
          have HK' := Lib.hid hk'
          clear hk hk' hz
          by_cases hp : 0 < z
          · rw [if_pos hp] at hab
            have HAB := Lib.hid hab
            clear hab
            go_wp2
            go_roundw
            case rel => exact ⟨i + 1, by omega, by go_num, rfl, by rw [← HK'.out, HAB.out]; simp, trivial⟩
            case measure => simp [intOf]; omega
          · rw [if_neg hp] at hab
            have HAB := Lib.hid hab
            clear hab
            go_wp2
            go_roundw
            case rel => exact ⟨i + 1, by omega, by go_num, rfl, by rw [← HK'.out, HAB.out]; simp, trivial⟩
            case measure => simp [intOf]; omega
        · obtain rfl : i = n := by omega
          generalize above zs i = k at *
          have C1 := Lib.hid (HL.out wr a i c zs most Z1.out (by omega) hm0.1 hm0.2)
          go_wp2_with fail
          refine C1.out.mono ?_
          rintro e w2 ht
          unfold LengthsSay at ht
          rw [HNG.out] at ht
          simp only [Bool.false_eq_true, if_false] at ht
          obtain ⟨aa, cap, rfl, hk⟩ := ht
          have K2 := Lib.hid (below_more K1.out hk (Nat.le_refl _))
          clear hk
          go_wp2
          go_ret
          exact ⟨rfl, K2.out⟩
  · clear hno
    go_wp2
    go_loopw [5, 6, 34] (fun rv nv cnt wr => ∃ i : Nat, i ≤ n ∧ cnt = .int .i64 i ∧ rv = .bool false ∧ nv = .int .i64 (above zs i : Nat) ∧ wr = w1) (fun _ _ cnt _ => n - (intOf cnt).toNat)
    case atStart => exact ⟨0, Nat.zero_le _, rfl, rfl, rfl, rfl⟩
    case round =>
      obtain ⟨i, hi, rfl, rfl, rfl, rfl⟩ := hrel
      by_cases hlt : i < n
      · obtain ⟨b0, o0, z, rfl, hz, hzb, hcz⟩ := Z1.out.at hlt
        have hab := above_succ zs i
        rw [getD_of hz] at hab
        have hal := above_le zs i
        obtain ⟨k, hk⟩ : ∃ k, k = above zs i := ⟨_, rfl⟩
        rw [← hk] at hab hal ⊢
        obtain ⟨k', hk'⟩ : ∃ k', k' = above zs (i + 1) := ⟨_, rfl⟩
        rw [← hk'] at hab
        have HK' := Lib.hid hk'
        clear hk hk' hz
        by_cases hp : 0 < z
        · rw [if_pos hp] at hab
          have HAB := Lib.hid hab
          clear hab
          go_wp2
          go_roundw
          case rel => exact ⟨i + 1, by omega, by go_num, rfl, by rw [← HK'.out, HAB.out]; simp, trivial⟩
          case measure => simp [intOf]; omega
        · rw [if_neg hp] at hab
          have HAB := Lib.hid hab
          clear hab
          go_wp2
          go_roundw
          case rel => exact ⟨i + 1, by omega, by go_num, rfl, by rw [← HK'.out, HAB.out]; simp, trivial⟩
          case measure => simp [intOf]; omega
      · obtain rfl : i = n := by omega
        generalize above zs i = k at *
        have C1 := Lib.hid (HL.out wr a i c zs most Z1.out (by omega) hm0.1 hm0.2)
        go_wp2_with fail
        refine C1.out.mono ?_
        rintro e w2 ht
        unfold LengthsSay at ht
        rw [HNG.out] at ht
        simp only [Bool.false_eq_true, if_false] at ht
        obtain ⟨aa, cap, rfl, hk⟩ := ht
        have K2 := Lib.hid (below_more K1.out hk (Nat.le_refl _))
        clear hk
        go_wp2
        go_ret
        exact ⟨rfl, K2.out⟩
end Go.Proofs.Ytoiknbbimgeihaa
