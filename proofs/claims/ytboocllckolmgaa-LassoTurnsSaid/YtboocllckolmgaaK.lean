/- The document's example, as the laws ask it first. -/
import Derived.Test.YtboocllckolmgaaH
import Derived.Laws.StructEq
namespace Go.Proofs.Ytboocllckolmgaa
open Go.RowKit
set_option linter.unusedVariables false

/-- A law's end: true, and the old memory as it was. -/
def Yes (w : World) (e : Ending) (w' : World) : Prop := e = .returned (.bool true) ∧ Below w.heap.size w w'
def ex : List Pt := [⟨0, 0⟩, ⟨4, 0⟩, ⟨4, 3⟩, ⟨0, 3⟩]
theorem ex_shape : shape ex = true := by decide +kernel
theorem ex_area : areaZ ex = 24 := by decide +kernel
theorem ex_in : insideB ex ⟨3, 2⟩ = true := by decide +kernel
theorem ex_fits : ∀ p ∈ ex, Fits p := by
  intro p hp
  simp only [ex, List.mem_cons, List.not_mem_nil, or_false] at hp
  rcases hp with rfl | rfl | rfl | rfl <;> (unfold Fits; simp)
theorem ex_near : (shape ex && (near ⟨0, 1⟩ && near ⟨0, 0⟩) && (turned ex ⟨0, 1⟩ ⟨0, 0⟩).all near) = true := by decide +kernel
theorem ex_turned : (turned ex ⟨0, 1⟩ ⟨0, 0⟩)[2]? = some ⟨-3, 4⟩ := rfl
theorem ex_length : (turned ex ⟨0, 1⟩ ⟨0, 0⟩).length = 4 := by decide +kernel

set_option maxHeartbeats 1600000 in
theorem anchor_any (w : World) : Calls Try.prog 11 #[] w (Yes w) := by
  have P0 := pts_lit w #[.int .i64 0, .int .i64 0, .int .i64 4, .int .i64 0, .int .i64 4, .int .i64 3, .int .i64 0, .int .i64 3] 37 ex rfl ex_fits
  have B0 : Below w.heap.size w (w.alloc (.cells #[.int .i64 0, .int .i64 0, .int .i64 4, .int .i64 0, .int .i64 4, .int .i64 3, .int .i64 0, .int .i64 3] 37)) := (Below.refl _ _).alloc (Nat.le_refl _) _
  have A := Lib.hid (area_yes _ (some ⟨w.heap.size, 0, none⟩) 4 4 ex P0 ex_shape)
  rw [ex_area] at A
  have HP := Lib.hid (And.intro P0 B0)
  clear P0 B0
  go_enter Try.func11, Try.ntmps11
  go_wp2_with fail
  refine A.out.mono ?_
  rintro e w1 ⟨rfl, hb⟩
  have HP1 := Lib.hid (And.intro (HP.out.1.below hb) (below_more HP.out.2 hb (Nat.le_refl _)))
  clear hb A HP
  have W := Lib.hid (within_yes w1 (some ⟨w.heap.size, 0, none⟩) 4 4 ex ⟨3, 2⟩ HP1.out.1 (by decide) ex_shape)
  rw [ex_in] at W
  go_wp2_with fail
  refine W.out.mono ?_
  rintro e w2 ⟨rfl, hb⟩
  have HP2 := Lib.hid (And.intro (HP1.out.1.below hb) (below_more HP1.out.2 hb (Nat.le_refl _)))
  clear hb W HP1
  have T := Lib.hid (turn_any w2 (some ⟨w.heap.size, 0, none⟩) 4 4 ex ⟨0, 1⟩ ⟨0, 0⟩ HP2.out.1 (by omega) (by unfold Fits; simp) (by unfold Fits; simp))
  rw [ex_near] at T
  go_wp2_with fail
  refine T.out.mono ?_
  rintro e w3 ⟨g, he, hp, hg, hb⟩
  rw [ex_length] at he hp
  subst he
  obtain ⟨b, off, t, ht, ht2, _, c0, c1⟩ := hp.at (i := 2) (by omega)
  cases ht
  rw [ex_turned] at ht2
  cases ht2
  have HB3 := Lib.hid (below_more HP2.out.2 hb (Nat.le_refl _))
  clear hb hp T HP2
  simp only [Nat.zero_add] at c0 c1
  go_wp2_with fail
  go_ret
  exact ⟨rfl, HB3.out⟩
end Go.Proofs.Ytboocllckolmgaa
