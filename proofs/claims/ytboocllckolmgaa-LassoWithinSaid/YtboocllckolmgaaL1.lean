/- The walk of LassoWithin. -/
import Derived.Test.YtboocllckolmgaaP
namespace Go.Proofs.Ytboocllckolmgaa
open Go.RowKit
set_option linter.unusedVariables false

set_option maxHeartbeats 3200000 in
theorem within_law_a (w : World) (a : Option Addr) (n c : Nat) (ps : List Pt) (x y : Int) (h : Pts w a n ps) (hn : ¬ 1000 < n) (hq0 : Fits ⟨x, y⟩) (hs : shape ps = false) :
    Calls Try.prog 3 #[.slice a n c, .int .i64 x, .int .i64 y] w (Yes w) := by
  have CA := Lib.hid (anchor_any w)
  have HP := Lib.hid h
  have HQ := Lib.hid hq0
  have u : decide ((1000 : Int) < (n : Int)) = false := by simp; omega
  have HS := Lib.hid hs
  clear h hq0 hs
  go_enter Try.func3, Try.ntmps3
  go_wp2_with fail
  refine CA.out.mono ?_
  rintro e w1 ⟨rfl, hb⟩
  have H1 := Lib.hid (And.intro (HP.out.below hb) hb)
  clear hb CA HP
  have CW := Lib.hid (within_no w1 a n c ps ⟨x, y⟩ H1.out.1 (by omega) HQ.out (by rw [HS.out, Bool.false_and]))
  go_wp2_with fail
  refine CW.out.mono ?_
  rintro e w2 ⟨rfl, hb⟩
  have H2 := Lib.hid (And.intro (H1.out.1.below hb) (below_more H1.out.2 hb (Nat.le_refl _)))
  clear hb CW H1
  have CP := Lib.hid (plain_any w2 a n c ps H2.out.1 (by omega))
  have hl := H2.out.1.1
  go_wp2_with fail
  refine CP.out.mono ?_
  rintro e w3 ⟨aa, c3, rfl, hp, _, _, _, hb⟩
  rw [hl] at hp ⊢
  have H3 := Lib.hid (And.intro hp (below_more H2.out.2 hb (Nat.le_refl _)))
  clear hb CP H2 hp hl
  have CS := Lib.hid (docShape_any w3 aa n c3 ps H3.out.1 (by omega))
  rw [HS.out] at CS
  go_wp2_with fail
  refine CS.out.mono ?_
  rintro e w4 ⟨rfl, hb⟩
  have X := Lib.hid (below_more H3.out.2 hb (Nat.le_refl _))
  clear hb CS H3
  go_wp2_with fail
  go_ret
  exact ⟨rfl, X.out⟩

set_option maxHeartbeats 3200000 in
theorem within_law_b (w : World) (a : Option Addr) (n c : Nat) (ps : List Pt) (x y : Int) (h : Pts w a n ps) (hn : ¬ 1000 < n) (hq0 : Fits ⟨x, y⟩) (hs : shape ps = true) (hq : near ⟨x, y⟩ = false) :
    Calls Try.prog 3 #[.slice a n c, .int .i64 x, .int .i64 y] w (Yes w) := by
  have CA := Lib.hid (anchor_any w)
  have HP := Lib.hid h
  have HQ := Lib.hid hq0
  have u : decide ((1000 : Int) < (n : Int)) = false := by simp; omega
  have HS := Lib.hid hs
  have HN := Lib.hid hq
  clear h hq0 hs hq
  go_enter Try.func3, Try.ntmps3
  go_wp2_with fail
  refine CA.out.mono ?_
  rintro e w1 ⟨rfl, hb⟩
  have H1 := Lib.hid (And.intro (HP.out.below hb) hb)
  clear hb CA HP
  have CW := Lib.hid (within_no w1 a n c ps ⟨x, y⟩ H1.out.1 (by omega) HQ.out (by rw [HN.out, Bool.and_false]))
  go_wp2_with fail
  refine CW.out.mono ?_
  rintro e w2 ⟨rfl, hb⟩
  have H2 := Lib.hid (And.intro (H1.out.1.below hb) (below_more H1.out.2 hb (Nat.le_refl _)))
  clear hb CW H1
  have CP := Lib.hid (plain_any w2 a n c ps H2.out.1 (by omega))
  have hl := H2.out.1.1
  go_wp2_with fail
  refine CP.out.mono ?_
  rintro e w3 ⟨aa, c3, rfl, hp, _, _, _, hb⟩
  rw [hl] at hp ⊢
  have H3 := Lib.hid (And.intro hp (below_more H2.out.2 hb (Nat.le_refl _)))
  clear hb CP H2 hp hl
  have CS := Lib.hid (docShape_any w3 aa n c3 ps H3.out.1 (by omega))
  rw [HS.out] at CS
  go_wp2_with fail
  refine CS.out.mono ?_
  rintro e w4 ⟨rfl, hb⟩
  have H4 := Lib.hid (And.intro (H3.out.1.below hb) (below_more H3.out.2 hb (Nat.le_refl _)))
  clear hb CS H3
  have CR := Lib.hid (right_any w4 ⟨x, y⟩)
  rw [HN.out] at CR
  go_wp2_with fail
  refine CR.out.mono ?_
  rintro e w5 ⟨rfl, hb⟩
  have X := Lib.hid (below_more H4.out.2 hb (Nat.le_refl _))
  clear hb CR H4
  go_wp2_with fail
  go_ret
  exact ⟨rfl, X.out⟩

set_option maxHeartbeats 3200000 in
theorem within_law_c (w : World) (a : Option Addr) (n c : Nat) (ps : List Pt) (x y : Int) (h : Pts w a n ps) (hn : ¬ 1000 < n) (hq0 : Fits ⟨x, y⟩) (hs : shape ps = true) (hq : near ⟨x, y⟩ = true) :
    Calls Try.prog 3 #[.slice a n c, .int .i64 x, .int .i64 y] w (Yes w) := by
  have CA := Lib.hid (anchor_any w)
  have HP := Lib.hid h
  have HQ := Lib.hid hq0
  have u : decide ((1000 : Int) < (n : Int)) = false := by simp; omega
  have HS := Lib.hid hs
  have HN := Lib.hid hq
  clear h hq0 hs hq
  go_enter Try.func3, Try.ntmps3
  go_wp2_with fail
  refine CA.out.mono ?_
  rintro e w1 ⟨rfl, hb⟩
  have H1 := Lib.hid (And.intro (HP.out.below hb) hb)
  clear hb CA HP
  have CW := Lib.hid (within_yes w1 a n c ps ⟨x, y⟩ H1.out.1 HN.out HS.out)
  go_wp2_with fail
  refine CW.out.mono ?_
  rintro e w2 ⟨rfl, hb⟩
  have H2 := Lib.hid (And.intro (H1.out.1.below hb) (below_more H1.out.2 hb (Nat.le_refl _)))
  clear hb CW H1
  have CP := Lib.hid (plain_any w2 a n c ps H2.out.1 (by omega))
  have hl := H2.out.1.1
  go_wp2_with fail
  refine CP.out.mono ?_
  rintro e w3 ⟨aa, c3, rfl, hp, _, _, _, hb⟩
  rw [hl] at hp ⊢
  have H3 := Lib.hid (And.intro hp (below_more H2.out.2 hb (Nat.le_refl _)))
  clear hb CP H2 hp hl
  have CS := Lib.hid (docShape_any w3 aa n c3 ps H3.out.1 (by omega))
  rw [HS.out] at CS
  go_wp2_with fail
  refine CS.out.mono ?_
  rintro e w4 ⟨rfl, hb⟩
  have H4 := Lib.hid (And.intro (H3.out.1.below hb) (below_more H3.out.2 hb (Nat.le_refl _)))
  clear hb CS H3
  have CR := Lib.hid (right_any w4 ⟨x, y⟩)
  rw [HN.out] at CR
  go_wp2_with fail
  refine CR.out.mono ?_
  rintro e w5 ⟨rfl, hb⟩
  have H5 := Lib.hid (And.intro (H4.out.1.below hb) (below_more H4.out.2 hb (Nat.le_refl _)))
  clear hb CR H4
  obtain ⟨l1, l2, l3⟩ := shape_len HS.out
  have CD := Lib.hid (docWithin_any w5 aa n c3 ps ⟨x, y⟩ H5.out.1 (by have := H5.out.1.1; omega) l3 HN.out)
  rw [inside_same] at CD
  clear l1 l2 l3
  generalize insideB ps ⟨x, y⟩ = b at *
  go_wp2_with fail
  refine CD.out.mono ?_
  rintro e w6 ⟨rfl, hb⟩
  have X := Lib.hid (below_more H5.out.2 hb (Nat.le_refl _))
  clear hb CD H5
  cases b with
  | false =>
    go_wp2_with fail
    go_ret
    exact ⟨rfl, X.out⟩
  | true =>
    go_wp2_with fail
    go_ret
    exact ⟨rfl, X.out⟩

set_option maxHeartbeats 3200000 in
theorem within_law (w : World) (a : Option Addr) (n c : Nat) (ps : List Pt) (x y : Int) (hp : Pts w a n ps ∧ n ≤ c) (hx : -9223372036854775808 ≤ x ∧ x ≤ 9223372036854775807) (hy : -9223372036854775808 ≤ y ∧ y ≤ 9223372036854775807) :
    Calls Try.prog 3 #[.slice a n c, .int .i64 x, .int .i64 y] w (Yes w) := by
  have h := hp.1
  clear hp
  by_cases hn : 1000 < n
  · have CA := Lib.hid (anchor_any w)
    clear h hx hy
    have u : decide ((1000 : Int) < (n : Int)) = true := by simp; omega
    go_enter Try.func3, Try.ntmps3
    go_wp2_with fail
    refine CA.out.mono ?_
    rintro e w1 ⟨rfl, hb⟩
    have X := Lib.hid hb
    clear hb
    go_wp2_with fail
    go_ret
    exact ⟨rfl, X.out⟩
  · cases hs : shape ps with
    | false => exact within_law_a w a n c ps x y h hn ⟨hx, hy⟩ hs
    | true =>
      cases hq : near ⟨x, y⟩ with
      | false => exact within_law_b w a n c ps x y h hn ⟨hx, hy⟩ hs hq
      | true => exact within_law_c w a n c ps x y h hn ⟨hx, hy⟩ hs hq
end Go.Proofs.Ytboocllckolmgaa
