/- HuffLeast where most and the number of counts are right and yet no lengths are there. -/
import Derived.Test.YtoiknbbimgeihaaR
namespace Go.Proofs.Ytoiknbbimgeihaa
open Go.RowKit
set_option linter.unusedVariables false

theorem rightN_not {zs : List Int} {most : Int} {k : Nat} (h : ¬ (0 ≤ zs.getD k 0 ∧ zs.getD k 0 ≤ 1099511627776)) : rightN zs most (k + 1) = false := by
  rw [rightN_succ, decide_eq_false h, Bool.and_false]
theorem rightN_yes {zs : List Int} {most : Int} {k : Nat} (h : 0 ≤ zs.getD k 0 ∧ zs.getD k 0 ≤ 1099511627776) : rightN zs most (k + 1) = rightN zs most k := by
  rw [rightN_succ, decide_eq_true h, Bool.and_true]
theorem rightN_zero {zs : List Int} {most : Int} (h : 1 ≤ most ∧ most ≤ 16 ∧ zs.length ≤ 300) : rightN zs most 0 = true := by
  unfold rightN
  rw [decide_eq_true h]
  rfl

theorem wrap_pow_all : ∀ m : Fin 17, wrap64 (2 ^ m.val) = ((2 ^ m.val : Nat) : Int) := by decide +kernel
theorem wrap_pow {m : Nat} (h : m ≤ 16) : wrap64 (2 ^ m) = ((2 ^ m : Nat) : Int) := wrap_pow_all ⟨m, by omega⟩

set_option maxRecDepth 100000 in
set_option maxHeartbeats 2000000 in
theorem huffLeast_bad (HA : AnchorSays) (HL : LengthsSays) (w : World) (a : Option Addr) (n c : Nat) (zs : List Int) (most : Int) (hz : Ints w a n zs) (h1 : 1 ≤ most) (h2 : most ≤ 16) (h3 : n ≤ 300) (hng : good zs most = false) : Calls Try.prog 3 #[.slice a n c, .int .i64 most] w (Yes w) := by
  have A := Lib.hid (HA w)
  have HZ := Lib.hid hz
  have HL := Lib.hid HL
  have t0 : decide ((1000 : Int) < n) = false := by simp; omega
  have d3 : decide ((n : Int) ≤ 300) = true := by simp; omega
  have hln : zs.length = n := hz.1
  have HR0 := Lib.hid (rightN_zero (zs := zs) (most := most) ⟨h1, h2, by omega⟩)
  have HNG := Lib.hid hng
  have HGR := Lib.hid (good_right zs most)
  have HAA := Lib.hid (above_all zs)
  have HLN := Lib.hid hln
  clear hz HA hng hln
  go_enter Try.func3, Try.ntmps3
  go_wp2_with fail
  refine A.out.mono ?_
  rintro e w1 ⟨rfl, hk⟩
  have Z1 := Lib.hid (HZ.out.below hk)
  have K1 := Lib.hid hk
  clear hk
  go_wp2
  go_loopw [5, 6, 34] (fun rv nv cnt wr => ∃ i : Nat, i ≤ n ∧ cnt = .int .i64 i ∧ rv = .bool (rightN zs most i) ∧ nv = .int .i64 (above zs i : Nat) ∧ wr = w1) (fun _ _ cnt _ => n - (intOf cnt).toNat)
  case atStart => exact ⟨0, Nat.zero_le _, rfl, by rw [HR0.out], rfl, rfl⟩
  case round =>
    obtain ⟨i, hi, rfl, rfl, rfl, rfl⟩ := hrel
    by_cases hlt : i < n
    · obtain ⟨b0, o0, z, rfl, hz, hzb, hcz⟩ := Z1.out.at hlt
      have hab := above_succ zs i
      rw [getD_of hz] at hab
      have hal := above_le zs i
      have hRN : (¬ (0 ≤ z ∧ z ≤ 1099511627776) → rightN zs most (i + 1) = false) ∧ ((0 ≤ z ∧ z ≤ 1099511627776) → rightN zs most (i + 1) = rightN zs most i) := by
        have e := getD_of hz
        exact ⟨fun h => rightN_not (by rw [e]; exact h), fun h => rightN_yes (by rw [e]; exact h)⟩
      obtain ⟨k, hk⟩ : ∃ k, k = above zs i := ⟨_, rfl⟩
      rw [← hk] at hab hal ⊢
      obtain ⟨k', hk'⟩ : ∃ k', k' = above zs (i + 1) := ⟨_, rfl⟩
      rw [← hk'] at hab
      obtain ⟨r, hr⟩ : ∃ r, r = rightN zs most i := ⟨_, rfl⟩
      obtain ⟨r', hr'⟩ : ∃ r', r' = rightN zs most (i + 1) := ⟨_, rfl⟩
      rw [← hr, ← hr'] at hRN
      rw [← hr]
      have HK' := Lib.hid hk'
      have HR' := Lib.hid hr'
      have HRN := Lib.hid hRN
      clear hk hk' hz hr hr' hRN
      by_cases hp : 0 < z
      · rw [if_pos hp] at hab
        have HAB := Lib.hid hab
        clear hab
        cases r with
        | false =>
          have hf : r' = false := by
            by_cases hin : 0 ≤ z ∧ z ≤ 1099511627776
            · exact HRN.out.2 hin
            · exact HRN.out.1 hin
          have HF := Lib.hid hf
          clear HRN hf
          go_wp2
          go_roundw
          case rel => exact ⟨i + 1, by omega, by go_num, by rw [← HR'.out, HF.out], by rw [← HK'.out, HAB.out]; simp, trivial⟩
          case measure => simp [intOf]; omega
        | true =>
          by_cases hle : z ≤ 1099511627776
          · have HF := Lib.hid (HRN.out.2 ⟨by omega, hle⟩)
            clear HRN
            go_wp2
            go_roundw
            case rel => exact ⟨i + 1, by omega, by go_num, by rw [← HR'.out, HF.out], by rw [← HK'.out, HAB.out]; simp, trivial⟩
            case measure => simp [intOf]; omega
          · have HF := Lib.hid (HRN.out.1 (fun h => hle h.2))
            clear HRN
            go_wp2
            go_roundw
            case rel => exact ⟨i + 1, by omega, by go_num, by rw [← HR'.out, HF.out], by rw [← HK'.out, HAB.out]; simp, trivial⟩
            case measure => simp [intOf]; omega
      · rw [if_neg hp] at hab
        have HAB := Lib.hid hab
        clear hab
        cases r with
        | false =>
          have hf : r' = false := by
            by_cases hin : 0 ≤ z ∧ z ≤ 1099511627776
            · exact HRN.out.2 hin
            · exact HRN.out.1 hin
          have HF := Lib.hid hf
          clear HRN hf
          go_wp2
          go_roundw
          case rel => exact ⟨i + 1, by omega, by go_num, by rw [← HR'.out, HF.out], by rw [← HK'.out, HAB.out]; simp, trivial⟩
          case measure => simp [intOf]; omega
        | true =>
          by_cases hge : 0 ≤ z
          · have hle : z ≤ 1099511627776 := by omega
            have HF := Lib.hid (HRN.out.2 ⟨hge, hle⟩)
            clear HRN
            go_wp2
            go_roundw
            case rel => exact ⟨i + 1, by omega, by go_num, by rw [← HR'.out, HF.out], by rw [← HK'.out, HAB.out]; simp, trivial⟩
            case measure => simp [intOf]; omega
          · have HF := Lib.hid (HRN.out.1 (fun h => hge h.1))
            clear HRN
            go_wp2
            go_roundw
            case rel => exact ⟨i + 1, by omega, by go_num, by rw [← HR'.out, HF.out], by rw [← HK'.out, HAB.out]; simp, trivial⟩
            case measure => simp [intOf]; omega
    · obtain rfl : i = n := by omega
      have C1 := Lib.hid (HL.out wr a i c zs most Z1.out (by omega) (by omega) (by omega))
      have hgr : rightN zs most i = true → 2 ^ most.toNat < above zs i := by
        intro hR
        have := HGR.out
        rw [HNG.out, HLN.out, hR, Bool.true_and] at this
        have := of_decide_eq_false this.symm
        have e := HAA.out
        rw [HLN.out] at e
        omega
      obtain ⟨k, hk⟩ : ∃ k, k = above zs i := ⟨_, rfl⟩
      obtain ⟨r, hr⟩ : ∃ r, r = rightN zs most i := ⟨_, rfl⟩
      have hal := above_le zs i
      rw [← hk, ← hr] at hgr
      rw [← hk] at hal
      rw [← hk, ← hr]
      clear hk hr HGR HAA
      have HG := Lib.hid hgr
      clear hgr
      go_wp2_with fail
      refine C1.out.mono ?_
      rintro e w2 ht
      unfold LengthsSay at ht
      rw [HNG.out] at ht
      simp only [Bool.false_eq_true, if_false] at ht
      obtain ⟨aa, cap, rfl, hk⟩ := ht
      have K2 := Lib.hid (below_more K1.out hk (Nat.le_refl _))
      clear hk C1
      cases r with
      | false =>
        go_wp2
        go_ret
        exact ⟨rfl, K2.out⟩
      | true =>
        have hgt := HG.out rfl
        clear HG
        have hs1 : wrap64 (2 ^ most.toNat) < (k : Int) := by rw [wrap_pow (by omega)]; omega
        have hs2 : decide (wrap64 (2 ^ most.toNat) < (k : Int)) = true := decide_eq_true hs1
        clear hgt
        go_wp2
        go_ret
        exact ⟨rfl, K2.out⟩
end Go.Proofs.Ytoiknbbimgeihaa
