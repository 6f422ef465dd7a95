/- Mask. -/
import Derived.Test.YtboocllckolmgaaMB
namespace Go.Proofs.Ytboocllckolmgaa
open Go.RowKit
set_option linter.unusedVariables false

def sideB (n : Int) : Bool := decide (0 ≤ n) && decide (n ≤ 32768)
def areaB (w h : Int) : Bool := sideB w && sideB h && decide (w * h ≤ 4194304)
set_option maxRecDepth 100000 in
theorem side_any (w : World) (n : Int) : Calls Try.prog 34 #[.int .i64 n] w (fun e w' => e = .returned (.bool (sideB n)) ∧ w' = w) := by
  unfold sideB
  by_cases h1 : 0 ≤ n
  · have u1 : decide (0 ≤ n) = true := by simpa using h1
    rw [u1, Bool.true_and]
    by_cases h2 : n ≤ 32768
    · have u2 : decide (n ≤ 32768) = true := by simpa using h2
      rw [u2]
      go_enter Try.func34, Try.ntmps34
      go_wp2_with fail
      go_ret
      exact ⟨rfl, rfl⟩
    · have u2 : decide (n ≤ 32768) = false := by simpa using h2
      rw [u2]
      go_enter Try.func34, Try.ntmps34
      go_wp2_with fail
      go_ret
      exact ⟨rfl, rfl⟩
  · have u1 : decide (0 ≤ n) = false := by simpa using h1
    rw [u1, Bool.false_and]
    go_enter Try.func34, Try.ntmps34
    go_wp2_with fail
    go_ret
    exact ⟨rfl, rfl⟩
theorem side_iff {n : Int} : sideB n = true ↔ 0 ≤ n ∧ n ≤ 32768 := by simp [sideB]
set_option maxRecDepth 100000 in
theorem isArea_any (w : World) (m n : Int) : Calls Try.prog 28 #[.int .i64 m, .int .i64 n] w (fun e w' => e = .returned (.bool (areaB m n)) ∧ w' = w) := by
  have C1 := Lib.hid (side_any w m)
  have C2 := Lib.hid (side_any w n)
  unfold areaB
  cases h1 : sideB m with
  | false =>
    rw [h1] at C1
    rw [Bool.false_and, Bool.false_and]
    clear h1
    go_enter Try.func28, Try.ntmps28
    go_wp2_with fail
    refine C1.out.mono ?_
    rintro e w1 ⟨rfl, rfl⟩
    go_wp2_with fail
    go_ret
    exact ⟨rfl, rfl⟩
  | true =>
    rw [h1] at C1
    cases h2 : sideB n with
    | false =>
      rw [h2] at C2
      rw [Bool.and_false, Bool.false_and]
      clear h1 h2
      go_enter Try.func28, Try.ntmps28
      go_wp2_with fail
      refine C1.out.mono ?_
      rintro e w1 ⟨rfl, rfl⟩
      go_wp2_with fail
      refine C2.out.mono ?_
      rintro e w1 ⟨rfl, rfl⟩
      go_wp2_with fail
      go_ret
      exact ⟨rfl, rfl⟩
    | true =>
      rw [h2] at C2
      rw [Bool.true_and, Bool.true_and]
      have k1 := side_iff.1 h1
      have k2 := side_iff.1 h2
      have b : (m * n).natAbs ≤ 32768 * 32768 := by rw [Int.natAbs_mul]; exact Nat.mul_le_mul (by omega) (by omega)
      obtain ⟨p, hp⟩ : ∃ p, p = m * n := ⟨_, rfl⟩
      rw [← hp] at b ⊢
      have j1 : wrap64 (m * n) = p := by rw [← hp]; exact w64 p (by omega) (by omega)
      clear h1 h2 k1 k2 hp b
      by_cases h3 : p ≤ 4194304
      · have u : decide (p ≤ 4194304) = true := by simpa using h3
        rw [u]
        go_enter Try.func28, Try.ntmps28
        go_wp2_with fail
        refine C1.out.mono ?_
        rintro e w1 ⟨rfl, rfl⟩
        go_wp2_with fail
        refine C2.out.mono ?_
        rintro e w1 ⟨rfl, rfl⟩
        go_wp2_with fail
        go_ret
        exact ⟨rfl, rfl⟩
      · have u : decide (p ≤ 4194304) = false := by simpa using h3
        rw [u]
        go_enter Try.func28, Try.ntmps28
        go_wp2_with fail
        refine C1.out.mono ?_
        rintro e w1 ⟨rfl, rfl⟩
        go_wp2_with fail
        refine C2.out.mono ?_
        rintro e w1 ⟨rfl, rfl⟩
        go_wp2_with fail
        go_ret
        exact ⟨rfl, rfl⟩

theorem info5 : (Try.prog.info? 5).map (fun i => (i.zero, i.size, i.bytes)) = some (some (.int .u8 0), 1, 1) := by kernel_rfl
theorem run_make_bytes (k : Nat) (hk : k ≤ 4194304) (w : World) : (Instr.makeSlice 34 (.int .i64 (k : Int)) (.int .i64 (k : Int))).run Try.prog w = .ok (.slice (some ⟨w.heap.size, 0, none⟩) k k) (w.alloc (.cells (madeCells #[.int .u8 0] k) 5)) := by
  obtain ⟨i, hi, hzz⟩ := Option.map_eq_some_iff.1 info5
  simp only [Prod.mk.injEq] at hzz
  obtain ⟨hz, hs, hb⟩ := hzz
  have hr := run_make (P := Try.prog) w 34 5 i _ Try.underlying34 hi hz .i64 .i64 k k (by omega) (Int.le_refl _) (by rw [hb]; omega) (by omega)
  simp only [Int.toNat_natCast, hs, Nat.mul_one] at hr
  exact hr

set_option maxHeartbeats 1600000 in
theorem mask_no (w : World) (a : Option Addr) (n c : Nat) (ps : List Pt) (x y : Int) (h : Pts w a n ps) (hn : n ≤ 33554432) (hs : (shape ps && areaB x y) = false) :
    Calls Try.prog 17 #[.slice a n c, .int .i64 x, .int .i64 y] w (Refused w) := by
  have C := Lib.hid (shape_any w a n c ps h hn)
  clear h
  cases hsh : shape ps with
  | false =>
    rw [hsh] at C
    clear hs hsh
    go_enter Try.func17, Try.ntmps17
    go_wp2_with fail
    refine C.out.mono ?_
    rintro e w1 ⟨rfl, hb⟩
    have X := Lib.hid hb
    clear hb C
    go_wp2_with fail
    go_ret2
    exact ⟨rfl, X.out⟩
  | true =>
    rw [hsh] at C hs
    rw [Bool.true_and] at hs
    have CA := Lib.hid (fun w => isArea_any w x y)
    rw [hs] at CA
    clear hs hsh
    go_enter Try.func17, Try.ntmps17
    go_wp2_with fail
    refine C.out.mono ?_
    rintro e w1 ⟨rfl, hb⟩
    have X := Lib.hid hb
    clear hb C
    go_wp2_with fail
    refine (CA.out _).mono ?_
    rintro e w2 ⟨rfl, rfl⟩
    go_wp2_with fail
    go_ret2
    exact ⟨rfl, X.out⟩

/-- The mask as the document has it. -/
def maskF (ps : List Pt) (W : Nat) : Nat → Bool := fun j => insideB ps ⟨((j % W : Nat) : Int), ((j / W : Nat) : Int)⟩
def doneF (ps : List Pt) (W i : Nat) : Nat → Bool := fun j => if j < i * W then maskF ps W j else false
/-- What Mask tells. -/
def MaskSays (w : World) (ps : List Pt) (W H : Nat) (e : Ending) (w' : World) : Prop :=
  ∃ G, e = .returned (.tuple #[.slice (some ⟨G, 0, none⟩) (W * H) (W * H), .int .i64 0]) ∧ MaskB w' G (W * H) (maskF ps W) ∧ w.heap.size ≤ G ∧ Below w.heap.size w w'
theorem done_more {ps : List Pt} {W i N : Nat} : ∀ j, j < N → layF (i * W) W 0 (reachL (sidesL ps) (i : Int)) (doneF ps W i) j = doneF ps W (i + 1) j := by
  intro j _
  unfold layF doneF
  have e : (i + 1) * W = i * W + W := Nat.succ_mul i W
  by_cases h : i * W ≤ j ∧ j < i * W + W
  · rw [if_pos h, if_pos (Nat.zero_le _), if_pos (by omega), suf_inside (by omega)]
    unfold maskF
    have hW : 0 < W := by omega
    have e1 : j / W = i := Nat.div_eq_of_lt_le h.1 (by rw [e]; exact h.2)
    have e2 : j % W = j - i * W := by
      have := Nat.div_add_mod j W
      rw [e1, Nat.mul_comm] at this
      omega
    rw [e1, e2]
  · rw [if_neg h]
    by_cases h2 : j < i * W
    · rw [if_pos h2, if_pos (by omega)]
    · rw [if_neg h2, if_neg (by omega)]
end Go.Proofs.Ytboocllckolmgaa
