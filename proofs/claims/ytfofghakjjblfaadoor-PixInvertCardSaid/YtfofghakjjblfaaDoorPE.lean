/- Is it a pixel? The ways, the program's and the document's. -/
import Derived.Test.YtfofghakjjblfaaDoorPD
namespace Go.Proofs.YtfofghakjjblfaaDoor
open Go.RowKit
set_option linter.unusedVariables false

theorem byteful_yes {a : Int} (h : Px.Byte a) (w : World) : Calls Tryd.prog 13 #[.int .i64 a] w fun e w' => e = .returned (.bool true) ∧ w' = w := by
  have := byteful_any a w
  rwa [decide_eq_true h] at this
theorem byteful_no {a : Int} (h : ¬ Px.Byte a) (w : World) : Calls Tryd.prog 13 #[.int .i64 a] w fun e w' => e = .returned (.bool false) ∧ w' = w := by
  have := byteful_any a w
  rwa [decide_eq_false h] at this
theorem at26_0 (x y z a : Int) (w : World) : (Instr.index 26 (.agg #[.int .i64 x, .int .i64 y, .int .i64 z, .int .i64 a]) (.int .i64 0)).run Tryd.prog w = .ok (.int .i64 x) w := by kernel_rfl
theorem at26_1 (x y z a : Int) (w : World) : (Instr.index 26 (.agg #[.int .i64 x, .int .i64 y, .int .i64 z, .int .i64 a]) (.int .i64 1)).run Tryd.prog w = .ok (.int .i64 y) w := by kernel_rfl
theorem at26_2 (x y z a : Int) (w : World) : (Instr.index 26 (.agg #[.int .i64 x, .int .i64 y, .int .i64 z, .int .i64 a]) (.int .i64 2)).run Tryd.prog w = .ok (.int .i64 z) w := by kernel_rfl
theorem at26_3 (x y z a : Int) (w : World) : (Instr.index 26 (.agg #[.int .i64 x, .int .i64 y, .int .i64 z, .int .i64 a]) (.int .i64 3)).run Tryd.prog w = .ok (.int .i64 a) w := by kernel_rfl
def Good (c a : Int) : Prop := Px.Byte c ∧ c ≤ a
def InPix (w1 : World) (P : Prop) (w : World) : Prop := P ∧ w = w1
set_option maxHeartbeats 1600000 in
theorem pixel_any (p : Px.Pix) (w : World) : Calls Tryd.prog 18 #[.agg #[.int .i64 p.r, .int .i64 p.g, .int .i64 p.b, .int .i64 p.a]] w fun e w' =>
    e = .returned (.bool (decide p.ok)) ∧ w' = w.alloc (.cells #[.int .i64 p.r, .int .i64 p.g, .int .i64 p.b, .int .i64 p.a] 26) := by
  obtain ⟨r, g, b, a⟩ := p
  have HY := Lib.hid (show Good r a ∧ Good g a ∧ Good b a ∧ Good a a → decide (Px.Pix.ok ⟨r, g, b, a⟩) = true from fun ⟨h1, h2, h3, h4⟩ => decide_eq_true ⟨h1.1, h2.1, h3.1, h4.1, h1.2, h2.2, h3.2⟩)
  have HN := Lib.hid (show ¬ (Good r a ∧ Good g a ∧ Good b a ∧ Good a a) → decide (Px.Pix.ok ⟨r, g, b, a⟩) = false from fun h => decide_eq_false (fun ⟨h1, h2, h3, h4, h5, h6, h7⟩ => h ⟨⟨h1, h5⟩, ⟨h2, h6⟩, ⟨h3, h7⟩, ⟨h4, Int.le_refl _⟩⟩))
  simp only
  generalize decide (Px.Pix.ok ⟨r, g, b, a⟩) = z at *
  have F0 := Four.new w r g b a
  go_enter Tryd.func18, Tryd.ntmps18
  obtain ⟨B, hB⟩ : ∃ B, B = w.heap.size := ⟨_, rfl⟩
  rw [← hB] at F0
  obtain ⟨w1, hw1⟩ : ∃ w1, w1 = w.alloc (.cells #[.int .i64 r, .int .i64 g, .int .i64 b, .int .i64 a] 26) := ⟨_, rfl⟩
  rw [← hw1] at F0
  go_wp2_with fail
  rw [← hw1, ← hB]
  have HW1 := Lib.hid hw1
  clear hw1 hB
  have c3 := F0.c3
  clear F0
  go_loopw [6] (Cnt4 (InPix w1 True) (InPix w1 (Good r a)) (InPix w1 (Good r a ∧ Good g a)) (InPix w1 (Good r a ∧ Good g a ∧ Good b a)) (InPix w1 (Good r a ∧ Good g a ∧ Good b a ∧ Good a a))) (fun cnt _ => 4 - (intOf cnt).toNat)
  case atStart => exact .inl ⟨rfl, trivial, rfl⟩
  case round =>
    rcases hrel with ⟨rfl, hW, rfl⟩ | ⟨rfl, hW, rfl⟩ | ⟨rfl, hW, rfl⟩ | ⟨rfl, hW, rfl⟩ | ⟨rfl, hW, rfl⟩
    · have HW := Lib.hid hW
      clear hW
      have hix := at26_0 r g b a wr
      by_cases hG : Good r a
      · have C := Lib.hid (byteful_yes hG.1 wr)
        have t : decide (a < r) = false := by have := hG.2; simp; omega
        have HG := Lib.hid hG
        clear hG
        go_wp2_with fail
        refine C.out.mono ?_
        rintro e w' ⟨rfl, rfl⟩
        go_wp2_with fail
        go_roundw
        case rel => exact .inr (.inl ⟨rfl, HG.out, rfl⟩)
        case measure => decide
      · have hz := HN.out (fun h => hG h.1)
        subst hz
        by_cases hb : Px.Byte r
        · have C := Lib.hid (byteful_yes hb wr)
          have t : decide (a < r) = true := by
            have : ¬ r ≤ a := fun h => hG ⟨hb, h⟩
            simp
            omega
          clear hG hb
          go_wp2_with fail
          refine C.out.mono ?_
          rintro e w' ⟨rfl, rfl⟩
          go_wp2_with fail
          go_ret
          exact ⟨rfl, HW1.out⟩
        · have C := Lib.hid (byteful_no hb wr)
          clear hG hb
          go_wp2_with fail
          refine C.out.mono ?_
          rintro e w' ⟨rfl, rfl⟩
          go_wp2_with fail
          go_ret
          exact ⟨rfl, HW1.out⟩
    · have HW := Lib.hid hW
      clear hW
      have hix := at26_1 r g b a wr
      by_cases hG : Good g a
      · have C := Lib.hid (byteful_yes hG.1 wr)
        have t : decide (a < g) = false := by have := hG.2; simp; omega
        have HG := Lib.hid hG
        clear hG
        go_wp2_with fail
        refine C.out.mono ?_
        rintro e w' ⟨rfl, rfl⟩
        go_wp2_with fail
        go_roundw
        case rel => exact .inr (.inr (.inl ⟨rfl, ⟨HW.out, HG.out⟩, rfl⟩))
        case measure => decide
      · have hz := HN.out (fun h => hG h.2.1)
        subst hz
        by_cases hb : Px.Byte g
        · have C := Lib.hid (byteful_yes hb wr)
          have t : decide (a < g) = true := by
            have : ¬ g ≤ a := fun h => hG ⟨hb, h⟩
            simp
            omega
          clear hG hb
          go_wp2_with fail
          refine C.out.mono ?_
          rintro e w' ⟨rfl, rfl⟩
          go_wp2_with fail
          go_ret
          exact ⟨rfl, HW1.out⟩
        · have C := Lib.hid (byteful_no hb wr)
          clear hG hb
          go_wp2_with fail
          refine C.out.mono ?_
          rintro e w' ⟨rfl, rfl⟩
          go_wp2_with fail
          go_ret
          exact ⟨rfl, HW1.out⟩
    · have HW := Lib.hid hW
      clear hW
      have hix := at26_2 r g b a wr
      by_cases hG : Good b a
      · have C := Lib.hid (byteful_yes hG.1 wr)
        have t : decide (a < b) = false := by have := hG.2; simp; omega
        have HG := Lib.hid hG
        clear hG
        go_wp2_with fail
        refine C.out.mono ?_
        rintro e w' ⟨rfl, rfl⟩
        go_wp2_with fail
        go_roundw
        case rel => exact .inr (.inr (.inr (.inl ⟨rfl, ⟨HW.out.1, HW.out.2, HG.out⟩, rfl⟩)))
        case measure => decide
      · have hz := HN.out (fun h => hG h.2.2.1)
        subst hz
        by_cases hb : Px.Byte b
        · have C := Lib.hid (byteful_yes hb wr)
          have t : decide (a < b) = true := by
            have : ¬ b ≤ a := fun h => hG ⟨hb, h⟩
            simp
            omega
          clear hG hb
          go_wp2_with fail
          refine C.out.mono ?_
          rintro e w' ⟨rfl, rfl⟩
          go_wp2_with fail
          go_ret
          exact ⟨rfl, HW1.out⟩
        · have C := Lib.hid (byteful_no hb wr)
          clear hG hb
          go_wp2_with fail
          refine C.out.mono ?_
          rintro e w' ⟨rfl, rfl⟩
          go_wp2_with fail
          go_ret
          exact ⟨rfl, HW1.out⟩
    · have HW := Lib.hid hW
      clear hW
      have hix := at26_3 r g b a wr
      by_cases hG : Good a a
      · have C := Lib.hid (byteful_yes hG.1 wr)
        have HG := Lib.hid hG
        clear hG
        go_wp2_with fail
        refine C.out.mono ?_
        rintro e w' ⟨rfl, rfl⟩
        go_wp2_with fail
        go_roundw
        case rel => exact .inr (.inr (.inr (.inr (⟨rfl, ⟨HW.out.1, HW.out.2.1, HW.out.2.2, HG.out⟩, rfl⟩))))
        case measure => decide
      · have hz := HN.out (fun h => hG h.2.2.2)
        subst hz
        by_cases hb : Px.Byte a
        · exact absurd ⟨hb, Int.le_refl _⟩ hG
        · have C := Lib.hid (byteful_no hb wr)
          clear hG hb
          go_wp2_with fail
          refine C.out.mono ?_
          rintro e w' ⟨rfl, rfl⟩
          go_wp2_with fail
          go_ret
          exact ⟨rfl, HW1.out⟩
    · have hz := HY.out hW
      subst hz
      clear hW
      go_wp2_with fail
      go_ret
      exact ⟨rfl, HW1.out⟩
end Go.Proofs.YtfofghakjjblfaaDoor
