/- The walk of LzLimits. -/
import Derived.Test.YtaandnikamnbbaaO
namespace Go.Proofs.Ytaandnikamnbbaa
open Go.RowKit
set_option linter.unusedVariables false

set_option maxRecDepth 100000 in
set_option maxHeartbeats 1600000 in
theorem limits_out (w : World) (a : Option Addr) (n c : Nat) (effort less : Int) (h : 3000 < n ∨ less < 0 ∨ (n : Int) < less) :
    Calls Try.prog 6 #[.slice a n c, .int .i64 effort, .int .i64 less] w (Yes w) := by
  have CA := Lib.hid (anchor_any w)
  by_cases h1 : 3000 < n
  · have u1 : decide ((3000 : Int) < (n : Int)) = true := by simp; omega
    go_enter Try.func6, Try.ntmps6
    go_wp2_with fail
    refine CA.out.mono ?_
    rintro e w1 ⟨rfl, hb⟩
    have X := Lib.hid hb
    clear hb
    go_wp2_with fail
    go_ret
    exact ⟨rfl, X.out⟩
  · have u1 : decide ((3000 : Int) < (n : Int)) = false := by simp; omega
    by_cases h2 : less < 0
    · have u2 : decide (less < 0) = true := by simpa using h2
      go_enter Try.func6, Try.ntmps6
      go_wp2_with fail
      refine CA.out.mono ?_
      rintro e w1 ⟨rfl, hb⟩
      have X := Lib.hid hb
      clear hb
      go_wp2_with fail
      go_ret
      exact ⟨rfl, X.out⟩
    · have u2 : decide (less < 0) = false := by simpa using h2
      have u3 : decide ((n : Int) < less) = true := by simp; omega
      go_enter Try.func6, Try.ntmps6
      go_wp2_with fail
      refine CA.out.mono ?_
      rintro e w1 ⟨rfl, hb⟩
      have X := Lib.hid hb
      clear hb
      go_wp2_with fail
      go_ret
      exact ⟨rfl, X.out⟩

set_option maxRecDepth 100000 in
set_option maxHeartbeats 1600000 in
theorem limits_good (w : World) (a : Option Addr) (n c : Nat) (ys : List Nat) (effort : Int) (k : Nat) (h : Arg w a n c ys) (he : -9223372036854775808 ≤ effort ∧ effort ≤ 9223372036854775807) (hn : n ≤ 3000) (hk : k ≤ n) :
    Calls Try.prog 6 #[.slice a n c, .int .i64 effort, .int .i64 k] w (Yes w) := by
  have CA := Lib.hid (anchor_any w)
  have u1 : decide ((3000 : Int) < (n : Int)) = false := by simp; omega
  have u2 : decide ((k : Int) < 0) = false := by simp
  have u3 : decide (n < k) = false := by simp; omega
  have hyl : ys.length = n := h.1.1
  have HF := Lib.hid (found_all h.1.2.1 effort)
  have HYL := Lib.hid hyl
  have HA := Lib.hid h
  clear h hyl
  go_enter Try.func6, Try.ntmps6
  go_wp2_with fail
  refine CA.out.mono ?_
  rintro e w1 ⟨rfl, hb⟩
  have HW := Lib.hid hb
  have A1 := Lib.hid (HA.out.below hb)
  have C2 := Lib.hid (find_any w1 a n c ys effort (HA.out.below hb) (by omega) he)
  clear hb CA HA
  generalize found ys effort = ts at *
  go_wp2_with fail
  refine C2.out.mono ?_
  rintro e w2 ⟨al, cl, rfl, htk, _, hb2⟩
  obtain ⟨q, hq⟩ : ∃ q : Nat, q = n - k := ⟨_, rfl⟩
  have hqk : (n : Int) - (k : Int) = (q : Int) := by omega
  have CB := Lib.hid (bytes_any w2 al ts.length cl ts q htk (by have := HF.out.few; rw [HYL.out] at this; omega) (by omega))
  have A2 := Lib.hid (A1.out.below hb2)
  have H2 := Lib.hid (below_more HW.out hb2 (Nat.le_refl _))
  have HQ := Lib.hid hq
  clear htk hb2 hq C2
  by_cases hk0 : k = 0
  · have E := Lib.hid (show brings (q : Int) [] ts = (0, ys) by
      have := HF.out.brings
      rw [HYL.out] at this
      rw [HQ.out, hk0, Nat.sub_zero]
      exact this)
    obtain rfl : n = q := by have := HQ.out; omega
    subst hk0
    clear hqk
    go_wp2_with fail
    refine CB.out.mono ?_
    rintro e w3 ⟨bb, c3, he3, hg3⟩
    rw [E.out] at he3 hg3
    have hyl := HYL.out
    simp only [hyl] at he3
    subst he3
    have ga : Arg w3 bb n c3 ys := by have := hg3.arg; rwa [hyl] at this
    have s1 := conv_arg (A2.out.below hg3.old)
    have s2 := conv_arg ga
    generalize strOf ys = sx at *
    have H3 := Lib.hid (below_more H2.out hg3.old (Nat.le_refl _))
    clear hg3 hyl ga CB
    go_wp2_with fail
    go_ret
    exact ⟨rfl, H3.out⟩
  · have E := Lib.hid (show brings (q : Int) [] ts = (24, []) from HF.out.short q (by omega) (by rw [HYL.out, HQ.out]; omega))
    have u4 : ((k : Int) == 0) = false := by simp; omega
    go_wp2_with fail
    refine CB.out.mono ?_
    rintro e w3 ⟨bb, c3, he3, hg3⟩
    rw [E.out] at he3 hg3
    subst he3
    have H3 := Lib.hid (below_more H2.out hg3.old (Nat.le_refl _))
    clear hg3 CB
    go_wp2_with fail
    go_ret
    exact ⟨rfl, H3.out⟩
theorem limits_law (w : World) (a : Option Addr) (n c : Nat) (ys : List Nat) (effort less : Int) (h : Arg w a n c ys) (he : -9223372036854775808 ≤ effort ∧ effort ≤ 9223372036854775807) (hl : -9223372036854775808 ≤ less ∧ less ≤ 9223372036854775807) :
    Calls Try.prog 6 #[.slice a n c, .int .i64 effort, .int .i64 less] w (Yes w) := by
  by_cases hh : 3000 < n ∨ less < 0 ∨ (n : Int) < less
  · exact limits_out w a n c effort less hh
  · obtain ⟨k, rfl⟩ := Int.eq_ofNat_of_zero_le (show 0 ≤ less by omega)
    exact limits_good w a n c ys effort k h he (by omega) (by omega)
end Go.Proofs.Ytaandnikamnbbaa
