/- The walks of common, sortedPlaces and backs. -/
import Derived.Test.YtaandnikamnbbaaI
import Derived.Test.YtaandnikamnbbaaPB
namespace Go.Proofs.Ytaandnikamnbbaa
open Go.RowKit
set_option linter.unusedVariables false

/-- How many bytes that one row begins with another has, too. -/
def common : List Nat → List Nat → Nat
  | x :: xs, z :: zs => if x = z then common xs zs + 1 else 0
  | _, _ => 0
theorem common_stop {xs zs : List Nat} {i x z : Nat} (h : xs.take i = zs.take i) (hx : xs[i]? = some x) (hz : zs[i]? = some z) (hne : x ≠ z) : common xs zs = i := by
  induction i generalizing xs zs with
  | zero =>
    cases xs with
    | nil => simp at hx
    | cons a xs =>
      cases zs with
      | nil => simp at hz
      | cons b zs =>
        simp only [List.getElem?_cons_zero, Option.some.injEq] at hx hz
        subst hx hz
        simp [common, hne]
  | succ i ih =>
    cases xs with
    | nil => simp at hx
    | cons a xs =>
      cases zs with
      | nil => simp at hz
      | cons b zs =>
        rw [List.take_succ_cons, List.take_succ_cons, List.cons.injEq] at h
        rw [List.getElem?_cons_succ] at hx hz
        rw [common, if_pos h.1, ih h.2 hx hz]
theorem common_all {xs zs : List Nat} (h : xs = zs.take xs.length) : common xs zs = xs.length := by
  induction xs generalizing zs with
  | nil => cases zs <;> rfl
  | cons a xs ih =>
    cases zs with
    | nil => simp at h
    | cons b zs =>
      rw [List.length_cons, List.take_succ_cons, List.cons.injEq] at h
      rw [common, if_pos h.1, ih h.2, List.length_cons]
theorem common_le (xs zs : List Nat) : common xs zs ≤ xs.length := by
  induction xs generalizing zs with
  | nil => cases zs <;> exact Nat.zero_le _
  | cons a xs ih =>
    cases zs with
    | nil => exact Nat.zero_le _
    | cons b zs =>
      rw [common]
      split
      · have := ih zs; rw [List.length_cons]; omega
      · omega
theorem common_same (xs zs : List Nat) (j : Nat) (h : j < common xs zs) : xs[j]? = zs[j]? := by
  induction xs generalizing zs j with
  | nil => cases zs <;> simp [common] at h
  | cons a xs ih =>
    cases zs with
    | nil => simp [common] at h
    | cons b zs =>
      rw [common] at h
      split at h
      · rename_i e
        subst e
        cases j with
        | zero => rfl
        | succ j => rw [List.getElem?_cons_succ, List.getElem?_cons_succ]; exact ih zs j (by omega)
      · omega

set_option maxHeartbeats 800000 in
theorem common_any (w : World) (a : Option Addr) (n c : Nat) (xs : List Nat) (b : Option Addr) (m e : Nat) (zs : List Nat) (hx : Bytes w a n xs) (hz : Bytes w b m zs) (hnm : n ≤ m) (hm : m ≤ 16777216) :
    Calls Try.prog 18 #[.slice a n c, .slice b m e] w fun e w' => e = .returned (.int .i64 (common xs zs : Nat)) ∧ w' = w := by
  have HX := Lib.hid hx
  have HZ := Lib.hid hz
  clear hx hz
  go_enter Try.func18, Try.ntmps18
  go_wp2_with fail
  go_loopw [9] (fun cnt wr => ∃ i : Nat, i ≤ n ∧ cnt = .int .i64 i ∧ xs.take i = zs.take i ∧ wr = w) (fun cnt _ => n - (intOf cnt).toNat)
  case atStart => exact ⟨0, Nat.zero_le _, rfl, rfl, rfl⟩
  case round =>
    obtain ⟨i, hi, rfl, ht, rfl⟩ := hrel
    by_cases hlt : i < n
    · obtain ⟨b1, o1, x, rfl, hxi, hx8, hc1⟩ := HX.out.at hlt
      obtain ⟨b2, o2, z, rfl, hzi, hz8, hc2⟩ := HZ.out.at (Nat.lt_of_lt_of_le hlt hnm)
      have him : i < m := by omega
      by_cases he : x = z
      · subst he
        have X := Lib.hid (show xs.take (i + 1) = zs.take (i + 1) by rw [take_more hxi, take_more hzi, ht])
        clear hxi hzi ht
        go_wp2_with fail
        go_roundw
        case rel => exact ⟨i + 1, hlt, by go_num, X.out, trivial⟩
        case measure => simp [intOf]; omega
      · have X := Lib.hid (common_stop ht hxi hzi he)
        have u1 : ((z : Int) != (x : Int)) = true := by simp; omega
        have u2 : ((z : Int) == (x : Int)) = false := by simp; omega
        clear hxi hzi ht
        go_wp2_with fail
        go_ret
        exact ⟨by rw [X.out]; rfl, rfl⟩
    · obtain rfl : i = n := by omega
      have X := Lib.hid (show common xs zs = i from by
        have hl := HX.out.1
        rw [List.take_of_length_le (by omega)] at ht
        rw [← hl]
        exact common_all (by rw [hl]; exact ht))
      clear ht
      go_wp2_with fail
      go_ret
      exact ⟨by rw [X.out]; rfl, rfl⟩
end Go.Proofs.Ytaandnikamnbbaa
