/- The document's examples; PixMuls. -/
import Derived.Test.YtfofghakjjblfaaDoorPF
import Derived.Laws.StructEq
import Derived.Laws.Tables
namespace Go.Proofs.YtfofghakjjblfaaDoor
open Go.RowKit
set_option linter.unusedVariables false

theorem eq26 (a b c d a' b' c' d' : Int) (w : World) : (Op.equalIn 10000 26 (.agg #[.int .i64 a, .int .i64 b, .int .i64 c, .int .i64 d]) (.agg #[.int .i64 a', .int .i64 b', .int .i64 c', .int .i64 d'])).run Tryd.prog w = .ok (a == a' && b == b' && c == c' && d == d') w := by
  have u3 := Tryd.underlying3
  have a3 := Tryd.isAgg3
  have z3 := Tryd.sizeOf3
  rw [show (10000 : Nat) = 9999 + 1 from rfl, Op.equalIn]
  simp only [Sem.run_bind, run_underlying Tryd.underlying26, Result.andThen_ok]
  simp only [Std.Legacy.Range.forIn_eq_forIn_range', Std.Legacy.Range.size, Nat.sub_zero, Nat.add_sub_cancel, Nat.div_one, List.range'_succ, List.range'_zero, List.forIn_cons, List.forIn_nil]
  go_simp
  by_cases h1 : a = a' <;> by_cases h2 : b = b' <;> by_cases h3 : c = c' <;> by_cases h4 : d = d' <;> simp [h1, h2, h3, h4]
theorem eq26_self (a b c d : Int) (w : World) : (Op.equalIn 10000 26 (.agg #[.int .i64 a, .int .i64 b, .int .i64 c, .int .i64 d]) (.agg #[.int .i64 a, .int .i64 b, .int .i64 c, .int .i64 d])).run Tryd.prog w = .ok true w := by
  rw [eq26]; simp

/-- A law's end: true, and the old memory as it was. -/
def Yes (w : World) (e : Ending) (w' : World) : Prop := e = .returned (.bool true) ∧ Keeps none' w w'
theorem ex_way : (Px.way 3 ⟨128, 0, 0, 128⟩ ⟨0, 0, 255, 255⟩) = ⟨128, 0, 127, 255⟩ := by kernel_rfl
set_option maxHeartbeats 800000 in
theorem anchor_any (w : World) (hW : Ways w) : Calls Tryd.prog 12 #[] w (Yes w) := by
  have C1 := Lib.hid (mul_any (a := 128) (b := 128) (by decide) (by decide) w)
  have C2 := Lib.hid (mul_any (a := 255) (b := 7) (by decide) (by decide) w)
  have C3 := way_any 3 ⟨128, 0, 0, 128⟩ ⟨0, 0, 255, 255⟩ ⟨by decide, by decide, by decide, by decide⟩ ⟨by decide, by decide, by decide, by decide⟩ w hW
  rw [ex_way] at C3
  have C3 := Lib.hid C3
  rw [show Px.mul 128 128 = 64 by decide] at C1
  rw [show Px.mul 255 7 = 7 by decide] at C2
  clear hW
  go_enter Tryd.func12, Tryd.ntmps12
  go_wp2_with fail
  refine C1.out.mono ?_
  rintro e w' ⟨rfl, rfl⟩
  go_wp2_with fail
  refine C2.out.mono ?_
  rintro e w' ⟨rfl, rfl⟩
  go_wp2_with fail
  refine C3.out.mono ?_
  rintro e w' ⟨rfl, hk⟩
  have HK := Lib.hid hk
  clear hk
  have q := fun w => eq26_self 128 0 127 255 w
  go_wp2_with fail
  go_ret
  exact ⟨rfl, HK.out⟩

set_option maxHeartbeats 800000 in
theorem muls_walk (a b : Int) (w : World) (hW : Ways w) : Calls Tryd.prog 3 #[.int .i64 a, .int .i64 b] w (Yes w) := by
  have A := Lib.hid (anchor_any w hW)
  clear hW
  by_cases ha : Px.Byte a
  · by_cases hb : Px.Byte b
    · have Ca := Lib.hid (fun w => byteful_yes ha w)
      have Cb := Lib.hid (fun w => byteful_yes hb w)
      have M1 := Lib.hid (fun w => mul_any ha hb w)
      have M2 := Lib.hid (fun w => docMul_any ha hb w)
      have M3 := fun w => mul_any hb ha w
      rw [Px.mul_comm] at M3
      have M3 := Lib.hid M3
      have N1 := Lib.hid (fun w => bare_any ha hb w)
      have N2 := Lib.hid (fun w => docBare_any ha hb w)
      have N3 := Lib.hid (fun w => bare_any (Px.mul_byte ha hb) hb w)
      obtain ⟨d0, d1⟩ := Px.bare_byte (Px.mul_byte ha hb) hb
      obtain ⟨m0, m1⟩ := Px.mul_byte ha hb
      obtain ⟨p0, p1⟩ := Px.prod ha hb
      have hmb := Px.mul_bare ha hb
      have hmm : Px.mul a b = (a * b + 127) / 255 := rfl
      obtain ⟨a0, a1⟩ := ha
      obtain ⟨b0, b1⟩ := hb
      have t1 : decide (255 < 2 * (255 * Px.mul a b - a * b)) = false := by simp; omega
      have t2 : decide (255 < 2 * (a * b - 255 * Px.mul a b)) = false := by simp; omega
      clear hmm
      generalize Px.bare (Px.mul a b) b = v at *
      generalize Px.bare a b = u at *
      generalize Px.mul a b = m at *
      obtain ⟨q, hq⟩ : ∃ q, q = b * (v - a) := ⟨_, rfl⟩
      have q0 : -65025 ≤ b * (v - a) := by
        have := Int.mul_le_mul_of_nonneg_left (show -255 ≤ v - a by omega) b0
        omega
      have q1 : b * (v - a) ≤ 65025 := by
        have := Int.mul_le_mul_of_nonneg_left (show v - a ≤ 255 by omega) b0
        omega
      have hz : ∃ z1 z2 z3, (b == 0) = z1 ∧ decide (b * (v - a) ≤ 255) = z2 ∧ decide (-255 ≤ b * (v - a)) = z3 ∧ (z1 || (z2 && z3)) = true := by
        refine ⟨_, _, _, rfl, rfl, rfl, ?_⟩
        rcases hmb with h | ⟨h, h2⟩
        · simp [h]
        · simp [h, h2]
      clear hmb hq
      obtain ⟨z1, z2, z3, y1, y2, y3, hz⟩ := hz
      have HZ := Lib.hid hz
      clear hz
      go_enter Tryd.func3, Tryd.ntmps3
      go_wp2_with fail
      refine A.out.mono ?_
      rintro e w1 ⟨rfl, hk⟩
      have HK := Lib.hid hk
      clear hk
      go_wp2_with fail
      refine (Ca.out _).mono ?_
      rintro e w' ⟨rfl, rfl⟩
      go_wp2_with fail
      refine (Cb.out _).mono ?_
      rintro e w' ⟨rfl, rfl⟩
      go_wp2_with fail
      refine (M1.out _).mono ?_
      rintro e w' ⟨rfl, rfl⟩
      go_wp2_with fail
      refine (M2.out _).mono ?_
      rintro e w' ⟨rfl, rfl⟩
      go_wp2_with fail
      refine (M3.out _).mono ?_
      rintro e w' ⟨rfl, rfl⟩
      go_wp2_with fail
      refine (N1.out _).mono ?_
      rintro e w' ⟨rfl, rfl⟩
      go_wp2_with fail
      refine (N2.out _).mono ?_
      rintro e w' ⟨rfl, rfl⟩
      go_wp2_with fail
      refine (N3.out _).mono ?_
      rintro e w' ⟨rfl, rfl⟩
      cases z1
      · cases z2
        · exact absurd HZ.out (by simp)
        · cases z3
          · exact absurd HZ.out (by simp)
          · go_wp2_with fail
            go_ret
            exact ⟨rfl, HK.out⟩
      · go_wp2_with fail
        go_ret
        exact ⟨rfl, HK.out⟩
    · have Ca := Lib.hid (fun w => byteful_yes ha w)
      have Cb := Lib.hid (fun w => byteful_no hb w)
      go_enter Tryd.func3, Tryd.ntmps3
      go_wp2_with fail
      refine A.out.mono ?_
      rintro e w1 ⟨rfl, hk⟩
      have HK := Lib.hid hk
      clear hk
      go_wp2_with fail
      refine (Ca.out _).mono ?_
      rintro e w' ⟨rfl, rfl⟩
      go_wp2_with fail
      refine (Cb.out _).mono ?_
      rintro e w' ⟨rfl, rfl⟩
      go_wp2_with fail
      go_ret
      exact ⟨rfl, HK.out⟩
  · have Ca := Lib.hid (fun w => byteful_no ha w)
    go_enter Tryd.func3, Tryd.ntmps3
    go_wp2_with fail
    refine A.out.mono ?_
    rintro e w1 ⟨rfl, hk⟩
    have HK := Lib.hid hk
    clear hk
    go_wp2_with fail
    refine (Ca.out _).mono ?_
    rintro e w' ⟨rfl, rfl⟩
    go_wp2_with fail
    go_ret
    exact ⟨rfl, HK.out⟩
end Go.Proofs.YtfofghakjjblfaaDoor
