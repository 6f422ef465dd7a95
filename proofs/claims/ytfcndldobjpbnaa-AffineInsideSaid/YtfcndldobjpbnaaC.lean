/- Is it a map? The program's word and the document's. (printed by genC.py) -/
import Derived.Test.YtfcndldobjpbnaaB
namespace Go.Proofs.Ytfcndldobjpbnaa
open Go.RowKit
set_option linter.unusedVariables false

/-- Six numbers in a block. -/
def Six (w : World) (B ty : Nat) (m : Af.M) : Prop := w.heap[B]? = some (.cells #[.int .i64 m.a, .int .i64 m.b, .int .i64 m.c, .int .i64 m.d, .int .i64 m.e, .int .i64 m.f] ty (0, 0))
theorem lt_of_block {w : World} {R : Nat} {o : Obj} (h : w.heap[R]? = some o) : R < w.heap.size := by
  obtain ⟨h, -⟩ := Array.getElem?_eq_some_iff.1 h
  exact h
theorem Six.lt {w : World} {B ty : Nat} {m : Af.M} (h : Six w B ty m) : B < w.heap.size := lt_of_block h
theorem Six.c0 {w : World} {B ty : Nat} {m : Af.M} (h : Six w B ty m) : w.cell? ⟨B, 0, none⟩ = some (.int .i64 m.a) := by simp [World.cell?, show w.heap[B]? = _ from h]
theorem at23_0 (a b c d e f : Int) (w : World) : (Instr.index 23 (.agg #[.int .i64 a, .int .i64 b, .int .i64 c, .int .i64 d, .int .i64 e, .int .i64 f]) (.int .i64 0)).run Try.prog w = .ok (.int .i64 a) w := by kernel_rfl
theorem Six.c1 {w : World} {B ty : Nat} {m : Af.M} (h : Six w B ty m) : w.cell? ⟨B, 1, none⟩ = some (.int .i64 m.b) := by simp [World.cell?, show w.heap[B]? = _ from h]
theorem at23_1 (a b c d e f : Int) (w : World) : (Instr.index 23 (.agg #[.int .i64 a, .int .i64 b, .int .i64 c, .int .i64 d, .int .i64 e, .int .i64 f]) (.int .i64 1)).run Try.prog w = .ok (.int .i64 b) w := by kernel_rfl
theorem Six.c2 {w : World} {B ty : Nat} {m : Af.M} (h : Six w B ty m) : w.cell? ⟨B, 2, none⟩ = some (.int .i64 m.c) := by simp [World.cell?, show w.heap[B]? = _ from h]
theorem at23_2 (a b c d e f : Int) (w : World) : (Instr.index 23 (.agg #[.int .i64 a, .int .i64 b, .int .i64 c, .int .i64 d, .int .i64 e, .int .i64 f]) (.int .i64 2)).run Try.prog w = .ok (.int .i64 c) w := by kernel_rfl
theorem Six.c3 {w : World} {B ty : Nat} {m : Af.M} (h : Six w B ty m) : w.cell? ⟨B, 3, none⟩ = some (.int .i64 m.d) := by simp [World.cell?, show w.heap[B]? = _ from h]
theorem at23_3 (a b c d e f : Int) (w : World) : (Instr.index 23 (.agg #[.int .i64 a, .int .i64 b, .int .i64 c, .int .i64 d, .int .i64 e, .int .i64 f]) (.int .i64 3)).run Try.prog w = .ok (.int .i64 d) w := by kernel_rfl
theorem Six.c4 {w : World} {B ty : Nat} {m : Af.M} (h : Six w B ty m) : w.cell? ⟨B, 4, none⟩ = some (.int .i64 m.e) := by simp [World.cell?, show w.heap[B]? = _ from h]
theorem at23_4 (a b c d e f : Int) (w : World) : (Instr.index 23 (.agg #[.int .i64 a, .int .i64 b, .int .i64 c, .int .i64 d, .int .i64 e, .int .i64 f]) (.int .i64 4)).run Try.prog w = .ok (.int .i64 e) w := by kernel_rfl
theorem Six.c5 {w : World} {B ty : Nat} {m : Af.M} (h : Six w B ty m) : w.cell? ⟨B, 5, none⟩ = some (.int .i64 m.f) := by simp [World.cell?, show w.heap[B]? = _ from h]
theorem at23_5 (a b c d e f : Int) (w : World) : (Instr.index 23 (.agg #[.int .i64 a, .int .i64 b, .int .i64 c, .int .i64 d, .int .i64 e, .int .i64 f]) (.int .i64 5)).run Try.prog w = .ok (.int .i64 f) w := by kernel_rfl
theorem Six.fr {w : World} {B ty i : Nat} {m : Af.M} (h : Six w B ty m) : w.frozen? ⟨B, i, none⟩ = false := by simp [World.frozen?, show w.heap[B]? = _ from h]
theorem Six.new (w : World) (ty : Nat) (m : Af.M) : Six (w.alloc (.cells #[.int .i64 m.a, .int .i64 m.b, .int .i64 m.c, .int .i64 m.d, .int .i64 m.e, .int .i64 m.f] ty)) w.heap.size ty m := heap_alloc_new _ _
def Cnt6 (P0 P1 P2 P3 P4 P5 P6 : World → Prop) (c : Value) (w : World) : Prop := (c = .int .i64 0 ∧ P0 w) ∨ (c = .int .i64 1 ∧ P1 w) ∨ (c = .int .i64 2 ∧ P2 w) ∨ (c = .int .i64 3 ∧ P3 w) ∨ (c = .int .i64 4 ∧ P4 w) ∨ (c = .int .i64 5 ∧ P5 w) ∨ (c = .int .i64 6 ∧ P6 w)
def Cnt4 (P0 P1 P2 P3 P4 : World → Prop) (c : Value) (w : World) : Prop := (c = .int .i64 0 ∧ P0 w) ∨ (c = .int .i64 1 ∧ P1 w) ∨ (c = .int .i64 2 ∧ P2 w) ∨ (c = .int .i64 3 ∧ P3 w) ∨ (c = .int .i64 4 ∧ P4 w)
def Cnt2 (P4 P5 P6 : World → Prop) (c : Value) (w : World) : Prop := (c = .int .i64 4 ∧ P4 w) ∨ (c = .int .i64 5 ∧ P5 w) ∨ (c = .int .i64 6 ∧ P6 w)
def InM (w1 : World) (P : Prop) (w : World) : Prop := P ∧ w = w1
theorem slope_shift {n : Int} (h : Af.Slope n) : Af.Shift n := ⟨by have := h.1; omega, by have := h.2; omega⟩
theorem up_yes {n far : Int} (f0 : 0 ≤ far) (f1 : far ≤ 1099511627776) (h : Af.Up n far) (w : World) : Calls Try.prog 33 #[.int .i64 n, .int .i64 far] w fun e w' => e = .returned (.bool true) ∧ w' = w := by
  have := isUp_any n far f0 f1 w
  rwa [decide_eq_true h] at this
theorem up_no {n far : Int} (f0 : 0 ≤ far) (f1 : far ≤ 1099511627776) (h : ¬ Af.Up n far) (w : World) : Calls Try.prog 33 #[.int .i64 n, .int .i64 far] w fun e w' => e = .returned (.bool false) ∧ w' = w := by
  have := isUp_any n far f0 f1 w
  rwa [decide_eq_false h] at this
set_option maxHeartbeats 1600000 in
theorem right_any (m : Af.M) (w : World) : Calls Try.prog 15 #[.agg #[.int .i64 m.a, .int .i64 m.b, .int .i64 m.c, .int .i64 m.d, .int .i64 m.e, .int .i64 m.f]] w fun e w' =>
    e = .returned (.bool (decide m.ok)) ∧ w' = w.alloc (.cells #[.int .i64 m.a, .int .i64 m.b, .int .i64 m.c, .int .i64 m.d, .int .i64 m.e, .int .i64 m.f] 23) := by
  obtain ⟨a, b, c, d, e, f⟩ := m
  have HY := Lib.hid (show Af.Slope a ∧ Af.Slope b ∧ Af.Slope c ∧ Af.Slope d ∧ Af.Shift e ∧ Af.Shift f → decide (Af.M.ok ⟨a, b, c, d, e, f⟩) = true from fun h => decide_eq_true h)
  have HN := Lib.hid (show ¬ (Af.Slope a ∧ Af.Slope b ∧ Af.Slope c ∧ Af.Slope d ∧ Af.Shift e ∧ Af.Shift f) → decide (Af.M.ok ⟨a, b, c, d, e, f⟩) = false from fun h => decide_eq_false h)
  simp only
  generalize decide (Af.M.ok ⟨a, b, c, d, e, f⟩) = z at *
  have F0 := Six.new w 23 ⟨a, b, c, d, e, f⟩
  simp only at F0
  go_enter Try.func15, Try.ntmps15
  obtain ⟨B, hB⟩ : ∃ B, B = w.heap.size := ⟨_, rfl⟩
  rw [← hB] at F0
  obtain ⟨w1, hw1⟩ : ∃ w1, w1 = w.alloc (.cells #[.int .i64 a, .int .i64 b, .int .i64 c, .int .i64 d, .int .i64 e, .int .i64 f] 23) := ⟨_, rfl⟩
  rw [← hw1] at F0
  go_wp2_with fail
  rw [← hw1, ← hB]
  have HW1 := Lib.hid hw1
  clear hw1 hB
  have c0 := F0.c0
  have c1 := F0.c1
  have c2 := F0.c2
  have c3 := F0.c3
  have c4 := F0.c4
  have c5 := F0.c5
  clear F0
  simp only at c0 c1 c2 c3 c4 c5
  go_wp2_with fail
  clear c0 c1 c2 c3 c4 c5
  go_loopw [6] (Cnt6 (InM w1 (True)) (InM w1 (Af.Slope a)) (InM w1 (Af.Slope a ∧ Af.Slope b)) (InM w1 (Af.Slope a ∧ Af.Slope b ∧ Af.Slope c)) (InM w1 (Af.Slope a ∧ Af.Slope b ∧ Af.Slope c ∧ Af.Slope d)) (InM w1 (Af.Slope a ∧ Af.Slope b ∧ Af.Slope c ∧ Af.Slope d ∧ Af.Shift e)) (InM w1 (Af.Slope a ∧ Af.Slope b ∧ Af.Slope c ∧ Af.Slope d ∧ Af.Shift e ∧ Af.Shift f))) (fun cnt _ => 6 - (intOf cnt).toNat)
  case atStart => exact .inl ⟨rfl, trivial, rfl⟩
  case round =>
    rcases hrel with ⟨rfl, hW, rfl⟩ | ⟨rfl, hW, rfl⟩ | ⟨rfl, hW, rfl⟩ | ⟨rfl, hW, rfl⟩ | ⟨rfl, hW, rfl⟩ | ⟨rfl, hW, rfl⟩ | ⟨rfl, hW, rfl⟩
    · have HW := Lib.hid hW
      clear hW
      have hix := at23_0 a b c d e f wr
      by_cases hG : Af.Slope a
      · have C1 := Lib.hid (up_yes (by omega) (by omega) hG wr)
        have C2 := Lib.hid (up_yes (by omega) (by omega) (slope_shift hG) wr)
        have HG := Lib.hid hG
        clear hG
        go_wp2_with fail
        refine C1.out.mono ?_
        rintro e w' ⟨rfl, rfl⟩
        go_wp2_with fail
        refine C2.out.mono ?_
        rintro e w' ⟨rfl, rfl⟩
        go_wp2_with fail
        go_roundw
        case rel => exact .inr (.inl ⟨rfl, HG.out, rfl⟩)
        case measure => decide
      · have hz := HN.out (fun h => hG (h.1))
        subst hz
        have C1 := Lib.hid (up_no (by omega) (by omega) hG wr)
        clear hG
        go_wp2_with fail
        refine C1.out.mono ?_
        rintro e w' ⟨rfl, rfl⟩
        go_wp2_with fail
        go_ret
        exact ⟨rfl, HW1.out⟩
    · have HW := Lib.hid hW
      clear hW
      have hix := at23_1 a b c d e f wr
      by_cases hG : Af.Slope b
      · have C1 := Lib.hid (up_yes (by omega) (by omega) hG wr)
        have C2 := Lib.hid (up_yes (by omega) (by omega) (slope_shift hG) wr)
        have HG := Lib.hid hG
        clear hG
        go_wp2_with fail
        refine C1.out.mono ?_
        rintro e w' ⟨rfl, rfl⟩
        go_wp2_with fail
        refine C2.out.mono ?_
        rintro e w' ⟨rfl, rfl⟩
        go_wp2_with fail
        go_roundw
        case rel => exact .inr (.inr (.inl ⟨rfl, ⟨HW.out, HG.out⟩, rfl⟩))
        case measure => decide
      · have hz := HN.out (fun h => hG (h.2.1))
        subst hz
        have C1 := Lib.hid (up_no (by omega) (by omega) hG wr)
        clear hG
        go_wp2_with fail
        refine C1.out.mono ?_
        rintro e w' ⟨rfl, rfl⟩
        go_wp2_with fail
        go_ret
        exact ⟨rfl, HW1.out⟩
    · have HW := Lib.hid hW
      clear hW
      have hix := at23_2 a b c d e f wr
      by_cases hG : Af.Slope c
      · have C1 := Lib.hid (up_yes (by omega) (by omega) hG wr)
        have C2 := Lib.hid (up_yes (by omega) (by omega) (slope_shift hG) wr)
        have HG := Lib.hid hG
        clear hG
        go_wp2_with fail
        refine C1.out.mono ?_
        rintro e w' ⟨rfl, rfl⟩
        go_wp2_with fail
        refine C2.out.mono ?_
        rintro e w' ⟨rfl, rfl⟩
        go_wp2_with fail
        go_roundw
        case rel => exact .inr (.inr (.inr (.inl ⟨rfl, ⟨HW.out.1, HW.out.2, HG.out⟩, rfl⟩)))
        case measure => decide
      · have hz := HN.out (fun h => hG (h.2.2.1))
        subst hz
        have C1 := Lib.hid (up_no (by omega) (by omega) hG wr)
        clear hG
        go_wp2_with fail
        refine C1.out.mono ?_
        rintro e w' ⟨rfl, rfl⟩
        go_wp2_with fail
        go_ret
        exact ⟨rfl, HW1.out⟩
    · have HW := Lib.hid hW
      clear hW
      have hix := at23_3 a b c d e f wr
      by_cases hG : Af.Slope d
      · have C1 := Lib.hid (up_yes (by omega) (by omega) hG wr)
        have C2 := Lib.hid (up_yes (by omega) (by omega) (slope_shift hG) wr)
        have HG := Lib.hid hG
        clear hG
        go_wp2_with fail
        refine C1.out.mono ?_
        rintro e w' ⟨rfl, rfl⟩
        go_wp2_with fail
        refine C2.out.mono ?_
        rintro e w' ⟨rfl, rfl⟩
        go_wp2_with fail
        go_roundw
        case rel => exact .inr (.inr (.inr (.inr (.inl ⟨rfl, ⟨HW.out.1, HW.out.2.1, HW.out.2.2, HG.out⟩, rfl⟩))))
        case measure => decide
      · have hz := HN.out (fun h => hG (h.2.2.2.1))
        subst hz
        have C1 := Lib.hid (up_no (by omega) (by omega) hG wr)
        clear hG
        go_wp2_with fail
        refine C1.out.mono ?_
        rintro e w' ⟨rfl, rfl⟩
        go_wp2_with fail
        go_ret
        exact ⟨rfl, HW1.out⟩
    · have HW := Lib.hid hW
      clear hW
      have hix := at23_4 a b c d e f wr
      by_cases hG : Af.Shift e
      · have C1 := Lib.hid (up_yes (by omega) (by omega) hG wr)
        have HG := Lib.hid hG
        clear hG
        go_wp2_with fail
        refine C1.out.mono ?_
        rintro e w' ⟨rfl, rfl⟩
        go_wp2_with fail
        go_roundw
        case rel => exact .inr (.inr (.inr (.inr (.inr (.inl ⟨rfl, ⟨HW.out.1, HW.out.2.1, HW.out.2.2.1, HW.out.2.2.2, HG.out⟩, rfl⟩)))))
        case measure => decide
      · have hz := HN.out (fun h => hG (h.2.2.2.2.1))
        subst hz
        have C1 := Lib.hid (up_no (by omega) (by omega) hG wr)
        clear hG
        go_wp2_with fail
        refine C1.out.mono ?_
        rintro e w' ⟨rfl, rfl⟩
        go_wp2_with fail
        go_ret
        exact ⟨rfl, HW1.out⟩
    · have HW := Lib.hid hW
      clear hW
      have hix := at23_5 a b c d e f wr
      by_cases hG : Af.Shift f
      · have C1 := Lib.hid (up_yes (by omega) (by omega) hG wr)
        have HG := Lib.hid hG
        clear hG
        go_wp2_with fail
        refine C1.out.mono ?_
        rintro e w' ⟨rfl, rfl⟩
        go_wp2_with fail
        go_roundw
        case rel => exact .inr (.inr (.inr (.inr (.inr (.inr (⟨rfl, ⟨HW.out.1, HW.out.2.1, HW.out.2.2.1, HW.out.2.2.2.1, HW.out.2.2.2.2, HG.out⟩, rfl⟩))))))
        case measure => decide
      · have hz := HN.out (fun h => hG (h.2.2.2.2.2))
        subst hz
        have C1 := Lib.hid (up_no (by omega) (by omega) hG wr)
        clear hG
        go_wp2_with fail
        refine C1.out.mono ?_
        rintro e w' ⟨rfl, rfl⟩
        go_wp2_with fail
        go_ret
        exact ⟨rfl, HW1.out⟩
    · have hz := HY.out hW
      subst hz
      clear hW
      go_wp2_with fail
      go_ret
      exact ⟨rfl, HW1.out⟩
set_option maxHeartbeats 1600000 in
theorem docRight_any (m : Af.M) (w : World) : Calls Try.prog 16 #[.agg #[.int .i64 m.a, .int .i64 m.b, .int .i64 m.c, .int .i64 m.d, .int .i64 m.e, .int .i64 m.f]] w fun e w' =>
    e = .returned (.bool (decide m.ok)) ∧ w' = w.alloc (.cells #[.int .i64 m.a, .int .i64 m.b, .int .i64 m.c, .int .i64 m.d, .int .i64 m.e, .int .i64 m.f] 28) := by
  obtain ⟨a, b, c, d, e, f⟩ := m
  have HY := Lib.hid (show Af.Slope a ∧ Af.Slope b ∧ Af.Slope c ∧ Af.Slope d ∧ Af.Shift e ∧ Af.Shift f → decide (Af.M.ok ⟨a, b, c, d, e, f⟩) = true from fun h => decide_eq_true h)
  have HN := Lib.hid (show ¬ (Af.Slope a ∧ Af.Slope b ∧ Af.Slope c ∧ Af.Slope d ∧ Af.Shift e ∧ Af.Shift f) → decide (Af.M.ok ⟨a, b, c, d, e, f⟩) = false from fun h => decide_eq_false h)
  simp only
  generalize decide (Af.M.ok ⟨a, b, c, d, e, f⟩) = z at *
  have F0 := Six.new w 28 ⟨a, b, c, d, e, f⟩
  simp only at F0
  go_enter Try.func16, Try.ntmps16
  obtain ⟨B, hB⟩ : ∃ B, B = w.heap.size := ⟨_, rfl⟩
  rw [← hB] at F0
  obtain ⟨w1, hw1⟩ : ∃ w1, w1 = w.alloc (.cells #[.int .i64 a, .int .i64 b, .int .i64 c, .int .i64 d, .int .i64 e, .int .i64 f] 28) := ⟨_, rfl⟩
  rw [← hw1] at F0
  go_wp2_with fail
  rw [← hw1, ← hB]
  have HW1 := Lib.hid hw1
  clear hw1 hB
  have c0 := F0.c0
  have c1 := F0.c1
  have c2 := F0.c2
  have c3 := F0.c3
  have c4 := F0.c4
  have c5 := F0.c5
  clear F0
  simp only at c0 c1 c2 c3 c4 c5
  go_loopw [3] (Cnt4 (InM w1 (True)) (InM w1 (Af.Slope a)) (InM w1 (Af.Slope a ∧ Af.Slope b)) (InM w1 (Af.Slope a ∧ Af.Slope b ∧ Af.Slope c)) (InM w1 (Af.Slope a ∧ Af.Slope b ∧ Af.Slope c ∧ Af.Slope d))) (fun cnt _ => 4 - (intOf cnt).toNat)
  case atStart => exact .inl ⟨rfl, trivial, rfl⟩
  case round =>
    rcases hrel with ⟨rfl, hW, rfl⟩ | ⟨rfl, hW, rfl⟩ | ⟨rfl, hW, rfl⟩ | ⟨rfl, hW, rfl⟩ | ⟨rfl, hW, rfl⟩
    · have HW := Lib.hid hW
      clear hW
      by_cases hG : Af.Slope a
      · have t1 : decide (a < -16777216) = false := by have := hG.1; simp; omega
        have t2 : decide (16777216 < a) = false := by have := hG.2; simp; omega
        have HG := Lib.hid hG
        clear hG
        go_wp2_with fail
        go_roundw
        case rel => exact .inr (.inl ⟨rfl, HG.out, rfl⟩)
        case measure => decide
      · have hz := HN.out (fun h => hG (h.1))
        subst hz
        by_cases hb : a < -16777216
        · have t1 : decide (a < -16777216) = true := by simpa using hb
          clear hG hb
          go_wp2_with fail
          go_ret
          exact ⟨rfl, HW1.out⟩
        · have t1 : decide (a < -16777216) = false := by simpa using hb
          have t2 : decide (16777216 < a) = true := by
            have : ¬ a ≤ 16777216 := fun h => hG ⟨by omega, h⟩
            simp
            omega
          clear hG hb
          go_wp2_with fail
          go_ret
          exact ⟨rfl, HW1.out⟩
    · have HW := Lib.hid hW
      clear hW
      by_cases hG : Af.Slope b
      · have t1 : decide (b < -16777216) = false := by have := hG.1; simp; omega
        have t2 : decide (16777216 < b) = false := by have := hG.2; simp; omega
        have HG := Lib.hid hG
        clear hG
        go_wp2_with fail
        go_roundw
        case rel => exact .inr (.inr (.inl ⟨rfl, ⟨HW.out, HG.out⟩, rfl⟩))
        case measure => decide
      · have hz := HN.out (fun h => hG (h.2.1))
        subst hz
        by_cases hb : b < -16777216
        · have t1 : decide (b < -16777216) = true := by simpa using hb
          clear hG hb
          go_wp2_with fail
          go_ret
          exact ⟨rfl, HW1.out⟩
        · have t1 : decide (b < -16777216) = false := by simpa using hb
          have t2 : decide (16777216 < b) = true := by
            have : ¬ b ≤ 16777216 := fun h => hG ⟨by omega, h⟩
            simp
            omega
          clear hG hb
          go_wp2_with fail
          go_ret
          exact ⟨rfl, HW1.out⟩
    · have HW := Lib.hid hW
      clear hW
      by_cases hG : Af.Slope c
      · have t1 : decide (c < -16777216) = false := by have := hG.1; simp; omega
        have t2 : decide (16777216 < c) = false := by have := hG.2; simp; omega
        have HG := Lib.hid hG
        clear hG
        go_wp2_with fail
        go_roundw
        case rel => exact .inr (.inr (.inr (.inl ⟨rfl, ⟨HW.out.1, HW.out.2, HG.out⟩, rfl⟩)))
        case measure => decide
      · have hz := HN.out (fun h => hG (h.2.2.1))
        subst hz
        by_cases hb : c < -16777216
        · have t1 : decide (c < -16777216) = true := by simpa using hb
          clear hG hb
          go_wp2_with fail
          go_ret
          exact ⟨rfl, HW1.out⟩
        · have t1 : decide (c < -16777216) = false := by simpa using hb
          have t2 : decide (16777216 < c) = true := by
            have : ¬ c ≤ 16777216 := fun h => hG ⟨by omega, h⟩
            simp
            omega
          clear hG hb
          go_wp2_with fail
          go_ret
          exact ⟨rfl, HW1.out⟩
    · have HW := Lib.hid hW
      clear hW
      by_cases hG : Af.Slope d
      · have t1 : decide (d < -16777216) = false := by have := hG.1; simp; omega
        have t2 : decide (16777216 < d) = false := by have := hG.2; simp; omega
        have HG := Lib.hid hG
        clear hG
        go_wp2_with fail
        go_roundw
        case rel => exact .inr (.inr (.inr (.inr (⟨rfl, ⟨HW.out.1, HW.out.2.1, HW.out.2.2, HG.out⟩, rfl⟩))))
        case measure => decide
      · have hz := HN.out (fun h => hG (h.2.2.2.1))
        subst hz
        by_cases hb : d < -16777216
        · have t1 : decide (d < -16777216) = true := by simpa using hb
          clear hG hb
          go_wp2_with fail
          go_ret
          exact ⟨rfl, HW1.out⟩
        · have t1 : decide (d < -16777216) = false := by simpa using hb
          have t2 : decide (16777216 < d) = true := by
            have : ¬ d ≤ 16777216 := fun h => hG ⟨by omega, h⟩
            simp
            omega
          clear hG hb
          go_wp2_with fail
          go_ret
          exact ⟨rfl, HW1.out⟩
    · have HW4 := Lib.hid hW
      clear hW
      go_wp2_with fail
      go_loopw [4] (Cnt2 (InM wr (Af.Slope a ∧ Af.Slope b ∧ Af.Slope c ∧ Af.Slope d)) (InM wr (Af.Slope a ∧ Af.Slope b ∧ Af.Slope c ∧ Af.Slope d ∧ Af.Shift e)) (InM wr (Af.Slope a ∧ Af.Slope b ∧ Af.Slope c ∧ Af.Slope d ∧ Af.Shift e ∧ Af.Shift f))) (fun cnt _ => 6 - (intOf cnt).toNat)
      case atStart => exact .inl ⟨rfl, HW4.out, rfl⟩
      case round =>
        rcases hrel with ⟨rfl, hW, rfl⟩ | ⟨rfl, hW, rfl⟩ | ⟨rfl, hW, rfl⟩
        · have HW := Lib.hid hW
          clear hW
          by_cases hG : Af.Shift e
          · have t1 : decide (e < -68719476736) = false := by have := hG.1; simp; omega
            have t2 : decide (68719476736 < e) = false := by have := hG.2; simp; omega
            have HG := Lib.hid hG
            clear hG
            go_wp2_with fail
            go_roundw
            case rel => exact .inr (.inl ⟨rfl, ⟨HW.out.1, HW.out.2.1, HW.out.2.2.1, HW.out.2.2.2, HG.out⟩, rfl⟩)
            case measure => decide
          · have hz := HN.out (fun h => hG (h.2.2.2.2.1))
            subst hz
            by_cases hb : e < -68719476736
            · have t1 : decide (e < -68719476736) = true := by simpa using hb
              clear hG hb
              go_wp2_with fail
              go_ret
              exact ⟨rfl, HW1.out⟩
            · have t1 : decide (e < -68719476736) = false := by simpa using hb
              have t2 : decide (68719476736 < e) = true := by
                have : ¬ e ≤ 68719476736 := fun h => hG ⟨by omega, h⟩
                simp
                omega
              clear hG hb
              go_wp2_with fail
              go_ret
              exact ⟨rfl, HW1.out⟩
        · have HW := Lib.hid hW
          clear hW
          by_cases hG : Af.Shift f
          · have t1 : decide (f < -68719476736) = false := by have := hG.1; simp; omega
            have t2 : decide (68719476736 < f) = false := by have := hG.2; simp; omega
            have HG := Lib.hid hG
            clear hG
            go_wp2_with fail
            go_roundw
            case rel => exact .inr (.inr (⟨rfl, ⟨HW.out.1, HW.out.2.1, HW.out.2.2.1, HW.out.2.2.2.1, HW.out.2.2.2.2, HG.out⟩, rfl⟩))
            case measure => decide
          · have hz := HN.out (fun h => hG (h.2.2.2.2.2))
            subst hz
            by_cases hb : f < -68719476736
            · have t1 : decide (f < -68719476736) = true := by simpa using hb
              clear hG hb
              go_wp2_with fail
              go_ret
              exact ⟨rfl, HW1.out⟩
            · have t1 : decide (f < -68719476736) = false := by simpa using hb
              have t2 : decide (68719476736 < f) = true := by
                have : ¬ f ≤ 68719476736 := fun h => hG ⟨by omega, h⟩
                simp
                omega
              clear hG hb
              go_wp2_with fail
              go_ret
              exact ⟨rfl, HW1.out⟩
        · have hz := HY.out hW
          subst hz
          clear hW
          go_wp2_with fail
          go_ret
          exact ⟨rfl, HW1.out⟩
end Go.Proofs.Ytfcndldobjpbnaa
