/- The walk of LassoMoves. -/
import Derived.Test.YtboocllckolmgaaP
namespace Go.Proofs.Ytboocllckolmgaa
open Go.RowKit
set_option linter.unusedVariables false

/-- A point moved. -/
def movePt (d p : Pt) : Pt := ⟨p.X + d.X, p.Y + d.Y⟩
theorem times_one (p d : Pt) : timesZ p ⟨1, 0⟩ d = movePt d p := by
  unfold timesZ movePt
  simp
theorem turned_move (ps : List Pt) (d : Pt) : turned ps ⟨1, 0⟩ d = ps.map (movePt d) := by
  unfold turned
  congr 1
  funext p
  exact times_one p d
theorem chainL_map (f : Pt → Pt) (p : Pt) (ps : List Pt) : chainL (f p) (ps.map f) = (chainL p ps).map (fun s => (f s.1, f s.2)) := by
  induction ps generalizing p with
  | nil => rfl
  | cons q qs ih => rw [List.map_cons, chainL, chainL, List.map_cons, ih]
theorem lastPt_map (f : Pt → Pt) (p : Pt) (ps : List Pt) : lastPt ((p :: ps).map f) = f (lastPt (p :: ps)) := by
  unfold lastPt
  rw [List.getLast?_map]
  cases h : (p :: ps).getLast? with
  | none => simp at h
  | some q => rfl
theorem sidesL_map (f : Pt → Pt) (ps : List Pt) : sidesL (ps.map f) = (sidesL ps).map (fun s => (f s.1, f s.2)) := by
  cases ps with
  | nil => rfl
  | cons p ps =>
    unfold sidesL
    rw [lastPt_map]
    exact chainL_map f _ _
theorem met_move (d q a b : Pt) : metR (movePt d q) (movePt d a, movePt d b) = metR q (a, b) := by
  unfold metR movePt
  simp only
  have e : nZ ⟨q.X + d.X, q.Y + d.Y⟩ ⟨a.X + d.X, a.Y + d.Y⟩ ⟨b.X + d.X, b.Y + d.Y⟩ = nZ q a b := by
    unfold nZ
    simp only
    grind
  rw [e]
  by_cases h1 : q.Y < a.Y
  · rw [if_pos h1, if_pos (show q.Y + d.Y < a.Y + d.Y by omega)]
    by_cases h2 : q.Y < b.Y
    · rw [if_pos h2, if_pos (show q.Y + d.Y < b.Y + d.Y by omega)]
    · rw [if_neg h2, if_neg (show ¬ q.Y + d.Y < b.Y + d.Y by omega)]
  · rw [if_neg h1, if_neg (show ¬ q.Y + d.Y < a.Y + d.Y by omega)]
    by_cases h2 : q.Y < b.Y
    · rw [if_pos h2, if_pos (show q.Y + d.Y < b.Y + d.Y by omega)]
    · rw [if_neg h2, if_neg (show ¬ q.Y + d.Y < b.Y + d.Y by omega)]
theorem inside_move (ps : List Pt) (d q : Pt) : insideB (ps.map (movePt d)) (movePt d q) = insideB ps q := by
  unfold insideB hits
  rw [sidesL_map, List.countP_map]
  have : (metB (movePt d q) ∘ fun s : Pt × Pt => (movePt d s.1, movePt d s.2)) = metB q := by
    funext s
    show metB (movePt d q) (movePt d s.1, movePt d s.2) = metB q s
    rw [met_same, met_same]
    exact met_move d q s.1 s.2
  rw [this]

set_option maxHeartbeats 1600000 in
theorem moves_out0 (w : World) (a : Option Addr) (n c : Nat) (ps : List Pt) (aX aY x y : Int) (h : Pts w a n ps)  (h0 : 300 < n) : Calls Try.prog 9 #[.slice a n c, .agg #[.int .i64 aX, .int .i64 aY], .int .i64 x, .int .i64 y] w (Yes w) := by
  have u0 : decide ((300 : Int) < (n : Int)) = true := by simp; omega
  have b0 : Below w.heap.size w (w.alloc (.cells #[.int .i64 aX, .int .i64 aY] 37)) := (Below.refl _ _).alloc (Nat.le_refl _) _
  have CA := Lib.hid (anchor_any (w.alloc (.cells #[.int .i64 aX, .int .i64 aY] 37)))
  have HO := Lib.hid (one_pt w ⟨aX, aY⟩ 37)
  have HB0 := Lib.hid b0
  clear b0
  clear h h0
  · go_enter Try.func9, Try.ntmps9
    go_wp2_with fail
    refine CA.out.mono ?_
    rintro e w1 ⟨rfl, hb⟩
    obtain ⟨x0, x1⟩ := HO.out
    have x0 := cell_keep x0 hb
    have x1 := cell_keep x1 hb
    simp only at x0 x1
    have X := Lib.hid (below_more HB0.out hb (Nat.le_refl _))
    clear hb CA HB0 HO
    go_wp2_with fail
    go_ret
    exact ⟨rfl, X.out⟩

set_option maxHeartbeats 1600000 in
theorem moves_out1 (w : World) (a : Option Addr) (n c : Nat) (ps : List Pt) (aX aY x y : Int) (h : Pts w a n ps) (h0 : ¬ 300 < n) (h1 : x < -1000) : Calls Try.prog 9 #[.slice a n c, .agg #[.int .i64 aX, .int .i64 aY], .int .i64 x, .int .i64 y] w (Yes w) := by
  have u0 : decide ((300 : Int) < (n : Int)) = false := by simp; omega
  have u1 : decide (x < -1000) = true := by simp; omega
  have b0 : Below w.heap.size w (w.alloc (.cells #[.int .i64 aX, .int .i64 aY] 37)) := (Below.refl _ _).alloc (Nat.le_refl _) _
  have CA := Lib.hid (anchor_any (w.alloc (.cells #[.int .i64 aX, .int .i64 aY] 37)))
  have HO := Lib.hid (one_pt w ⟨aX, aY⟩ 37)
  have HB0 := Lib.hid b0
  clear b0
  clear h h0 h1
  · go_enter Try.func9, Try.ntmps9
    go_wp2_with fail
    refine CA.out.mono ?_
    rintro e w1 ⟨rfl, hb⟩
    obtain ⟨x0, x1⟩ := HO.out
    have x0 := cell_keep x0 hb
    have x1 := cell_keep x1 hb
    simp only at x0 x1
    have X := Lib.hid (below_more HB0.out hb (Nat.le_refl _))
    clear hb CA HB0 HO
    go_wp2_with fail
    go_ret
    exact ⟨rfl, X.out⟩

set_option maxHeartbeats 1600000 in
theorem moves_out2 (w : World) (a : Option Addr) (n c : Nat) (ps : List Pt) (aX aY x y : Int) (h : Pts w a n ps) (h0 : ¬ 300 < n) (h1 : ¬ x < -1000) (h2 : 1000 < x) : Calls Try.prog 9 #[.slice a n c, .agg #[.int .i64 aX, .int .i64 aY], .int .i64 x, .int .i64 y] w (Yes w) := by
  have u0 : decide ((300 : Int) < (n : Int)) = false := by simp; omega
  have u1 : decide (x < -1000) = false := by simp; omega
  have u2 : decide (1000 < x) = true := by simp; omega
  have b0 : Below w.heap.size w (w.alloc (.cells #[.int .i64 aX, .int .i64 aY] 37)) := (Below.refl _ _).alloc (Nat.le_refl _) _
  have CA := Lib.hid (anchor_any (w.alloc (.cells #[.int .i64 aX, .int .i64 aY] 37)))
  have HO := Lib.hid (one_pt w ⟨aX, aY⟩ 37)
  have HB0 := Lib.hid b0
  clear b0
  clear h h0 h1 h2
  · go_enter Try.func9, Try.ntmps9
    go_wp2_with fail
    refine CA.out.mono ?_
    rintro e w1 ⟨rfl, hb⟩
    obtain ⟨x0, x1⟩ := HO.out
    have x0 := cell_keep x0 hb
    have x1 := cell_keep x1 hb
    simp only at x0 x1
    have X := Lib.hid (below_more HB0.out hb (Nat.le_refl _))
    clear hb CA HB0 HO
    go_wp2_with fail
    go_ret
    exact ⟨rfl, X.out⟩

set_option maxHeartbeats 1600000 in
theorem moves_out3 (w : World) (a : Option Addr) (n c : Nat) (ps : List Pt) (aX aY x y : Int) (h : Pts w a n ps) (h0 : ¬ 300 < n) (h1 : ¬ x < -1000) (h2 : ¬ 1000 < x) (h3 : y < -1000) : Calls Try.prog 9 #[.slice a n c, .agg #[.int .i64 aX, .int .i64 aY], .int .i64 x, .int .i64 y] w (Yes w) := by
  have u0 : decide ((300 : Int) < (n : Int)) = false := by simp; omega
  have u1 : decide (x < -1000) = false := by simp; omega
  have u2 : decide (1000 < x) = false := by simp; omega
  have u3 : decide (y < -1000) = true := by simp; omega
  have b0 : Below w.heap.size w (w.alloc (.cells #[.int .i64 aX, .int .i64 aY] 37)) := (Below.refl _ _).alloc (Nat.le_refl _) _
  have CA := Lib.hid (anchor_any (w.alloc (.cells #[.int .i64 aX, .int .i64 aY] 37)))
  have HO := Lib.hid (one_pt w ⟨aX, aY⟩ 37)
  have HB0 := Lib.hid b0
  clear b0
  clear h h0 h1 h2 h3
  · go_enter Try.func9, Try.ntmps9
    go_wp2_with fail
    refine CA.out.mono ?_
    rintro e w1 ⟨rfl, hb⟩
    obtain ⟨x0, x1⟩ := HO.out
    have x0 := cell_keep x0 hb
    have x1 := cell_keep x1 hb
    simp only at x0 x1
    have X := Lib.hid (below_more HB0.out hb (Nat.le_refl _))
    clear hb CA HB0 HO
    go_wp2_with fail
    go_ret
    exact ⟨rfl, X.out⟩

set_option maxHeartbeats 1600000 in
theorem moves_out4 (w : World) (a : Option Addr) (n c : Nat) (ps : List Pt) (aX aY x y : Int) (h : Pts w a n ps) (h0 : ¬ 300 < n) (h1 : ¬ x < -1000) (h2 : ¬ 1000 < x) (h3 : ¬ y < -1000) (h4 : 1000 < y) : Calls Try.prog 9 #[.slice a n c, .agg #[.int .i64 aX, .int .i64 aY], .int .i64 x, .int .i64 y] w (Yes w) := by
  have u0 : decide ((300 : Int) < (n : Int)) = false := by simp; omega
  have u1 : decide (x < -1000) = false := by simp; omega
  have u2 : decide (1000 < x) = false := by simp; omega
  have u3 : decide (y < -1000) = false := by simp; omega
  have u4 : decide (1000 < y) = true := by simp; omega
  have b0 : Below w.heap.size w (w.alloc (.cells #[.int .i64 aX, .int .i64 aY] 37)) := (Below.refl _ _).alloc (Nat.le_refl _) _
  have CA := Lib.hid (anchor_any (w.alloc (.cells #[.int .i64 aX, .int .i64 aY] 37)))
  have HO := Lib.hid (one_pt w ⟨aX, aY⟩ 37)
  have HB0 := Lib.hid b0
  clear b0
  clear h h0 h1 h2 h3 h4
  · go_enter Try.func9, Try.ntmps9
    go_wp2_with fail
    refine CA.out.mono ?_
    rintro e w1 ⟨rfl, hb⟩
    obtain ⟨x0, x1⟩ := HO.out
    have x0 := cell_keep x0 hb
    have x1 := cell_keep x1 hb
    simp only at x0 x1
    have X := Lib.hid (below_more HB0.out hb (Nat.le_refl _))
    clear hb CA HB0 HO
    go_wp2_with fail
    go_ret
    exact ⟨rfl, X.out⟩

set_option maxHeartbeats 1600000 in
theorem moves_out5 (w : World) (a : Option Addr) (n c : Nat) (ps : List Pt) (aX aY x y : Int) (h : Pts w a n ps) (h0 : ¬ 300 < n) (h1 : ¬ x < -1000) (h2 : ¬ 1000 < x) (h3 : ¬ y < -1000) (h4 : ¬ 1000 < y) (h5 : aX < -1000) : Calls Try.prog 9 #[.slice a n c, .agg #[.int .i64 aX, .int .i64 aY], .int .i64 x, .int .i64 y] w (Yes w) := by
  have u0 : decide ((300 : Int) < (n : Int)) = false := by simp; omega
  have u1 : decide (x < -1000) = false := by simp; omega
  have u2 : decide (1000 < x) = false := by simp; omega
  have u3 : decide (y < -1000) = false := by simp; omega
  have u4 : decide (1000 < y) = false := by simp; omega
  have u5 : decide (aX < -1000) = true := by simp; omega
  have b0 : Below w.heap.size w (w.alloc (.cells #[.int .i64 aX, .int .i64 aY] 37)) := (Below.refl _ _).alloc (Nat.le_refl _) _
  have CA := Lib.hid (anchor_any (w.alloc (.cells #[.int .i64 aX, .int .i64 aY] 37)))
  have HO := Lib.hid (one_pt w ⟨aX, aY⟩ 37)
  have HB0 := Lib.hid b0
  clear b0
  clear h h0 h1 h2 h3 h4 h5
  · go_enter Try.func9, Try.ntmps9
    go_wp2_with fail
    refine CA.out.mono ?_
    rintro e w1 ⟨rfl, hb⟩
    obtain ⟨x0, x1⟩ := HO.out
    have x0 := cell_keep x0 hb
    have x1 := cell_keep x1 hb
    simp only at x0 x1
    have X := Lib.hid (below_more HB0.out hb (Nat.le_refl _))
    clear hb CA HB0 HO
    go_wp2_with fail
    go_ret
    exact ⟨rfl, X.out⟩

set_option maxHeartbeats 1600000 in
theorem moves_out6 (w : World) (a : Option Addr) (n c : Nat) (ps : List Pt) (aX aY x y : Int) (h : Pts w a n ps) (h0 : ¬ 300 < n) (h1 : ¬ x < -1000) (h2 : ¬ 1000 < x) (h3 : ¬ y < -1000) (h4 : ¬ 1000 < y) (h5 : ¬ aX < -1000) (h6 : 1000 < aX) : Calls Try.prog 9 #[.slice a n c, .agg #[.int .i64 aX, .int .i64 aY], .int .i64 x, .int .i64 y] w (Yes w) := by
  have u0 : decide ((300 : Int) < (n : Int)) = false := by simp; omega
  have u1 : decide (x < -1000) = false := by simp; omega
  have u2 : decide (1000 < x) = false := by simp; omega
  have u3 : decide (y < -1000) = false := by simp; omega
  have u4 : decide (1000 < y) = false := by simp; omega
  have u5 : decide (aX < -1000) = false := by simp; omega
  have u6 : decide (1000 < aX) = true := by simp; omega
  have b0 : Below w.heap.size w (w.alloc (.cells #[.int .i64 aX, .int .i64 aY] 37)) := (Below.refl _ _).alloc (Nat.le_refl _) _
  have CA := Lib.hid (anchor_any (w.alloc (.cells #[.int .i64 aX, .int .i64 aY] 37)))
  have HO := Lib.hid (one_pt w ⟨aX, aY⟩ 37)
  have HB0 := Lib.hid b0
  clear b0
  clear h h0 h1 h2 h3 h4 h5 h6
  · go_enter Try.func9, Try.ntmps9
    go_wp2_with fail
    refine CA.out.mono ?_
    rintro e w1 ⟨rfl, hb⟩
    obtain ⟨x0, x1⟩ := HO.out
    have x0 := cell_keep x0 hb
    have x1 := cell_keep x1 hb
    simp only at x0 x1
    have X := Lib.hid (below_more HB0.out hb (Nat.le_refl _))
    clear hb CA HB0 HO
    go_wp2_with fail
    go_ret
    exact ⟨rfl, X.out⟩

set_option maxHeartbeats 1600000 in
theorem moves_out7 (w : World) (a : Option Addr) (n c : Nat) (ps : List Pt) (aX aY x y : Int) (h : Pts w a n ps) (h0 : ¬ 300 < n) (h1 : ¬ x < -1000) (h2 : ¬ 1000 < x) (h3 : ¬ y < -1000) (h4 : ¬ 1000 < y) (h5 : ¬ aX < -1000) (h6 : ¬ 1000 < aX) (h7 : aY < -1000) : Calls Try.prog 9 #[.slice a n c, .agg #[.int .i64 aX, .int .i64 aY], .int .i64 x, .int .i64 y] w (Yes w) := by
  have u0 : decide ((300 : Int) < (n : Int)) = false := by simp; omega
  have u1 : decide (x < -1000) = false := by simp; omega
  have u2 : decide (1000 < x) = false := by simp; omega
  have u3 : decide (y < -1000) = false := by simp; omega
  have u4 : decide (1000 < y) = false := by simp; omega
  have u5 : decide (aX < -1000) = false := by simp; omega
  have u6 : decide (1000 < aX) = false := by simp; omega
  have u7 : decide (aY < -1000) = true := by simp; omega
  have b0 : Below w.heap.size w (w.alloc (.cells #[.int .i64 aX, .int .i64 aY] 37)) := (Below.refl _ _).alloc (Nat.le_refl _) _
  have CA := Lib.hid (anchor_any (w.alloc (.cells #[.int .i64 aX, .int .i64 aY] 37)))
  have HO := Lib.hid (one_pt w ⟨aX, aY⟩ 37)
  have HB0 := Lib.hid b0
  clear b0
  clear h h0 h1 h2 h3 h4 h5 h6 h7
  · go_enter Try.func9, Try.ntmps9
    go_wp2_with fail
    refine CA.out.mono ?_
    rintro e w1 ⟨rfl, hb⟩
    obtain ⟨x0, x1⟩ := HO.out
    have x0 := cell_keep x0 hb
    have x1 := cell_keep x1 hb
    simp only at x0 x1
    have X := Lib.hid (below_more HB0.out hb (Nat.le_refl _))
    clear hb CA HB0 HO
    go_wp2_with fail
    go_ret
    exact ⟨rfl, X.out⟩

set_option maxHeartbeats 1600000 in
theorem moves_out8 (w : World) (a : Option Addr) (n c : Nat) (ps : List Pt) (aX aY x y : Int) (h : Pts w a n ps) (h0 : ¬ 300 < n) (h1 : ¬ x < -1000) (h2 : ¬ 1000 < x) (h3 : ¬ y < -1000) (h4 : ¬ 1000 < y) (h5 : ¬ aX < -1000) (h6 : ¬ 1000 < aX) (h7 : ¬ aY < -1000) (h8 : 1000 < aY) : Calls Try.prog 9 #[.slice a n c, .agg #[.int .i64 aX, .int .i64 aY], .int .i64 x, .int .i64 y] w (Yes w) := by
  have u0 : decide ((300 : Int) < (n : Int)) = false := by simp; omega
  have u1 : decide (x < -1000) = false := by simp; omega
  have u2 : decide (1000 < x) = false := by simp; omega
  have u3 : decide (y < -1000) = false := by simp; omega
  have u4 : decide (1000 < y) = false := by simp; omega
  have u5 : decide (aX < -1000) = false := by simp; omega
  have u6 : decide (1000 < aX) = false := by simp; omega
  have u7 : decide (aY < -1000) = false := by simp; omega
  have u8 : decide (1000 < aY) = true := by simp; omega
  have b0 : Below w.heap.size w (w.alloc (.cells #[.int .i64 aX, .int .i64 aY] 37)) := (Below.refl _ _).alloc (Nat.le_refl _) _
  have CA := Lib.hid (anchor_any (w.alloc (.cells #[.int .i64 aX, .int .i64 aY] 37)))
  have HO := Lib.hid (one_pt w ⟨aX, aY⟩ 37)
  have HB0 := Lib.hid b0
  clear b0
  clear h h0 h1 h2 h3 h4 h5 h6 h7 h8
  · go_enter Try.func9, Try.ntmps9
    go_wp2_with fail
    refine CA.out.mono ?_
    rintro e w1 ⟨rfl, hb⟩
    obtain ⟨x0, x1⟩ := HO.out
    have x0 := cell_keep x0 hb
    have x1 := cell_keep x1 hb
    simp only at x0 x1
    have X := Lib.hid (below_more HB0.out hb (Nat.le_refl _))
    clear hb CA HB0 HO
    go_wp2_with fail
    go_ret
    exact ⟨rfl, X.out⟩

set_option maxHeartbeats 3200000 in
theorem moves_in (w : World) (a : Option Addr) (n c : Nat) (ps : List Pt) (aX aY x y : Int) (h : Pts w a n ps) (h0 : ¬ 300 < n) (h1 : ¬ x < -1000) (h2 : ¬ 1000 < x) (h3 : ¬ y < -1000) (h4 : ¬ 1000 < y) (h5 : ¬ aX < -1000) (h6 : ¬ 1000 < aX) (h7 : ¬ aY < -1000) (h8 : ¬ 1000 < aY) : Calls Try.prog 9 #[.slice a n c, .agg #[.int .i64 aX, .int .i64 aY], .int .i64 x, .int .i64 y] w (Yes w) := by
  have u0 : decide ((300 : Int) < (n : Int)) = false := by simp; omega
  have u1 : decide (x < -1000) = false := by simp; omega
  have u2 : decide (1000 < x) = false := by simp; omega
  have u3 : decide (y < -1000) = false := by simp; omega
  have u4 : decide (1000 < y) = false := by simp; omega
  have u5 : decide (aX < -1000) = false := by simp; omega
  have u6 : decide (1000 < aX) = false := by simp; omega
  have u7 : decide (aY < -1000) = false := by simp; omega
  have u8 : decide (1000 < aY) = false := by simp; omega
  have b0 : Below w.heap.size w (w.alloc (.cells #[.int .i64 aX, .int .i64 aY] 37)) := (Below.refl _ _).alloc (Nat.le_refl _) _
  have CA := Lib.hid (anchor_any (w.alloc (.cells #[.int .i64 aX, .int .i64 aY] 37)))
  have HO := Lib.hid (one_pt w ⟨aX, aY⟩ 37)
  have HB0 := Lib.hid b0
  clear b0
  have HP := Lib.hid (h.below HB0.out)
  have hn : n ≤ 300 := by omega
  have hq : near ⟨x, y⟩ = true := near_iff.2 ⟨by simp only; omega, by simp only; omega⟩
  have hd : near ⟨aX, aY⟩ = true := near_iff.2 ⟨by simp only; omega, by simp only; omega⟩
  have hqd : near ⟨x + aX, y + aY⟩ = true := near_iff.2 ⟨by simp only; omega, by simp only; omega⟩
  have wx : -1000 ≤ x ∧ x ≤ 1000 := by omega
  have wy : -1000 ≤ y ∧ y ≤ 1000 := by omega
  have wa : -1000 ≤ aX ∧ aX ≤ 1000 := by omega
  have wb : -1000 ≤ aY ∧ aY ≤ 1000 := by omega
  have HN := Lib.hid (And.intro hq (And.intro hd hqd))
  clear hq hd hqd h h0 h1 h2 h3 h4 h5 h6 h7 h8
  · go_enter Try.func9, Try.ntmps9
    go_wp2_with fail
    refine CA.out.mono ?_
    rintro e w1 ⟨rfl, hb⟩
    obtain ⟨x0, x1⟩ := HO.out
    have x0 := cell_keep x0 hb
    have x1 := cell_keep x1 hb
    simp only at x0 x1
    have H1 := Lib.hid (And.intro (HP.out.below hb) (below_more HB0.out hb (Nat.le_refl _)))
    clear hb CA HB0 HO HP
    have fd : Fits ⟨aX, aY⟩ := ⟨by simp only; omega, by simp only; omega⟩
    have CT := Lib.hid (turn_any w1 a n c ps ⟨1, 0⟩ ⟨aX, aY⟩ H1.out.1 (by omega) ⟨by simp, by simp⟩ fd)
    have HX := Lib.hid (And.intro x0 x1)
    clear fd
    cases hok : (shape ps && (near ⟨1, 0⟩ && near ⟨aX, aY⟩) && (turned ps ⟨1, 0⟩ ⟨aX, aY⟩).all near) with
    | false =>
      rw [hok] at CT
      clear hok
      go_wp2_with fail
      refine CT.out.mono ?_
      rintro e w2 ⟨rfl, hb⟩
      have X := Lib.hid (below_more H1.out.2 hb (Nat.le_refl _))
      clear hb CT H1 x0 x1
      go_wp2_with fail
      go_ret
      exact ⟨rfl, X.out⟩
    | true =>
      rw [hok] at CT
      rw [Bool.and_eq_true, Bool.and_eq_true] at hok
      have HS := Lib.hid hok
      have hl := H1.out.1.1
      have htl : (turned ps ⟨1, 0⟩ ⟨aX, aY⟩).length = n := by unfold turned; rw [List.length_map, hl]
      have HT := Lib.hid (show shape (turned ps ⟨1, 0⟩ ⟨aX, aY⟩) = true by
        obtain ⟨l1, l2, _⟩ := shape_len hok.1.1
        unfold shape
        rw [hok.2, htl]
        simp; omega)
      have HE := Lib.hid (show insideB (turned ps ⟨1, 0⟩ ⟨aX, aY⟩) ⟨x + aX, y + aY⟩ = insideB ps ⟨x, y⟩ by
        rw [turned_move]
        exact inside_move ps ⟨aX, aY⟩ ⟨x, y⟩)
      have HL := Lib.hid htl
      clear hok hl htl
      go_wp2_with fail
      refine CT.out.mono ?_
      rintro e w2 ⟨g, he, hp, hg, hb⟩
      rw [HL.out] at he hp
      subst he
      have y0 := cell_keep x0 hb
      have y1 := cell_keep x1 hb
      have H2 := Lib.hid (And.intro (H1.out.1.below hb) (And.intro hp (below_more H1.out.2 hb (Nat.le_refl _))))
      have CW := Lib.hid (within_yes w2 a n c ps ⟨x, y⟩ (H1.out.1.below hb) HN.out.1 HS.out.1.1)
      clear hb CT H1 x0 x1 hp HX
      go_wp2_with fail
      refine CW.out.mono ?_
      rintro e w3 ⟨rfl, hb⟩
      have x0 := cell_keep y0 hb
      have x1 := cell_keep y1 hb
      have H3 := Lib.hid (below_more H2.out.2.2 hb (Nat.le_refl _))
      have CV := Lib.hid (within_yes w3 (some ⟨g, 0, none⟩) n n (turned ps ⟨1, 0⟩ ⟨aX, aY⟩) ⟨x + aX, y + aY⟩ (H2.out.2.1.below hb) HN.out.2.2 HT.out)
      rw [HE.out] at CV
      clear hb CW H2 y0 y1 HE
      generalize insideB ps ⟨x, y⟩ = bb at *
      go_wp2_with fail
      refine CV.out.mono ?_
      rintro e w4 ⟨rfl, hb⟩
      have X := Lib.hid (below_more H3.out hb (Nat.le_refl _))
      clear hb CV H3 x0 x1
      cases bb with
      | false =>
        go_wp2_with fail
        go_ret
        exact ⟨rfl, X.out⟩
      | true =>
        go_wp2_with fail
        go_ret
        exact ⟨rfl, X.out⟩

theorem moves_law (w : World) (a : Option Addr) (n c : Nat) (ps : List Pt) (d : Pt) (x y : Int) (hp : Pts w a n ps ∧ n ≤ c) (hd : Fits d) (hx : -9223372036854775808 ≤ x ∧ x ≤ 9223372036854775807) (hy : -9223372036854775808 ≤ y ∧ y ≤ 9223372036854775807) :
    Calls Try.prog 9 #[.slice a n c, .agg #[.int .i64 d.X, .int .i64 d.Y], .int .i64 x, .int .i64 y] w (Yes w) := by
  obtain ⟨aX, aY⟩ := d
  have h := hp.1
  by_cases h0 : 300 < n
  · exact moves_out0 w a n c ps aX aY x y h h0
  by_cases h1 : x < -1000
  · exact moves_out1 w a n c ps aX aY x y h h0 h1
  by_cases h2 : 1000 < x
  · exact moves_out2 w a n c ps aX aY x y h h0 h1 h2
  by_cases h3 : y < -1000
  · exact moves_out3 w a n c ps aX aY x y h h0 h1 h2 h3
  by_cases h4 : 1000 < y
  · exact moves_out4 w a n c ps aX aY x y h h0 h1 h2 h3 h4
  by_cases h5 : aX < -1000
  · exact moves_out5 w a n c ps aX aY x y h h0 h1 h2 h3 h4 h5
  by_cases h6 : 1000 < aX
  · exact moves_out6 w a n c ps aX aY x y h h0 h1 h2 h3 h4 h5 h6
  by_cases h7 : aY < -1000
  · exact moves_out7 w a n c ps aX aY x y h h0 h1 h2 h3 h4 h5 h6 h7
  by_cases h8 : 1000 < aY
  · exact moves_out8 w a n c ps aX aY x y h h0 h1 h2 h3 h4 h5 h6 h7 h8
  exact moves_in w a n c ps aX aY x y h h0 h1 h2 h3 h4 h5 h6 h7 h8
end Go.Proofs.Ytboocllckolmgaa
