/- The walk of LassoTurns. -/
import Derived.Test.YtboocllckolmgaaPA
namespace Go.Proofs.Ytboocllckolmgaa
open Go.RowKit
set_option linter.unusedVariables false

/-- The law's two points of the document's kind. -/
def Two31 (w : World) (Q R : Nat) (q r : Pt) : Prop :=
  (w.cell? ⟨Q, 0, none⟩ = some (.int .i64 q.X) ∧ w.cell? ⟨Q, 1, none⟩ = some (.int .i64 q.Y)) ∧ (w.cell? ⟨R, 0, none⟩ = some (.int .i64 r.X) ∧ w.cell? ⟨R, 1, none⟩ = some (.int .i64 r.Y))
theorem Two31.below {w w' : World} {Q R : Nat} {q r : Pt} (h : Two31 w Q R q r) (hb : Below w.heap.size w w') : Two31 w' Q R q r :=
  ⟨⟨cell_keep h.1.1 hb, cell_keep h.1.2 hb⟩, ⟨cell_keep h.2.1 hb, cell_keep h.2.2 hb⟩⟩
theorem two31_new (w : World) (p q : Pt) : ((OnePt ((w.alloc (.cells #[.int .i64 p.X, .int .i64 p.Y] 31)).alloc (.cells #[.int .i64 q.X, .int .i64 q.Y] 31)).drew w.heap.size 0 p) ∧ (OnePt ((w.alloc (.cells #[.int .i64 p.X, .int .i64 p.Y] 31)).alloc (.cells #[.int .i64 q.X, .int .i64 q.Y] 31)).drew (w.heap.size + 1) 0 q)) ∧ Below w.heap.size w ((w.alloc (.cells #[.int .i64 p.X, .int .i64 p.Y] 31)).alloc (.cells #[.int .i64 q.X, .int .i64 q.Y] 31)).drew := by
  have o1 := one_pt w p 31
  have o2 := one_pt (w.alloc (.cells #[.int .i64 p.X, .int .i64 p.Y] 31)) q 31
  have hs : (w.alloc (.cells #[.int .i64 p.X, .int .i64 p.Y] 31)).heap.size = w.heap.size + 1 := by simp
  rw [hs] at o2
  have b2 : Below (w.alloc (.cells #[.int .i64 p.X, .int .i64 p.Y] 31)).heap.size (w.alloc (.cells #[.int .i64 p.X, .int .i64 p.Y] 31)) ((w.alloc (.cells #[.int .i64 p.X, .int .i64 p.Y] 31)).alloc (.cells #[.int .i64 q.X, .int .i64 q.Y] 31)) := (Below.refl _ _).alloc (Nat.le_refl _) _
  have b1 : Below w.heap.size w (w.alloc (.cells #[.int .i64 p.X, .int .i64 p.Y] 31)) := (Below.refl _ _).alloc (Nat.le_refl _) _
  have b3 := below_more b1 b2 (Nat.le_refl _)
  have k1 : OnePt ((w.alloc (.cells #[.int .i64 p.X, .int .i64 p.Y] 31)).alloc (.cells #[.int .i64 q.X, .int .i64 q.Y] 31)) w.heap.size 0 p := ⟨cell_keep o1.1 b2, cell_keep o1.2 b2⟩
  exact ⟨⟨k1, o2⟩, ⟨b3.os, b3.tape, b3.output, b3.size, b3.block⟩⟩

set_option maxHeartbeats 1600000 in
theorem turns_out (w : World) (a : Option Addr) (n c : Nat) (ps : List Pt) (q r : Pt) (h : Pts w a n ps) (h0 : 1000 < n) : Calls Try.prog 5 #[.slice a n c, .agg #[.int .i64 q.X, .int .i64 q.Y], .agg #[.int .i64 r.X, .int .i64 r.Y]] w (Yes w) := by
  have u0 : decide ((1000 : Int) < (n : Int)) = true := by simp; omega
  have b0 : Below w.heap.size w ((w.alloc (.cells #[.int .i64 q.X, .int .i64 q.Y] 37)).alloc (.cells #[.int .i64 r.X, .int .i64 r.Y] 37)) := ((Below.refl _ _).alloc (Nat.le_refl _) _).alloc (by simp) _
  have CA := Lib.hid (anchor_any ((w.alloc (.cells #[.int .i64 q.X, .int .i64 q.Y] 37)).alloc (.cells #[.int .i64 r.X, .int .i64 r.Y] 37)))
  have BX := Lib.hid (boxes_new w q r)
  have HB0 := Lib.hid b0
  have HP := Lib.hid (h.below b0)
  clear b0 h
  clear BX
  go_enter Try.func5, Try.ntmps5
  go_wp2_with fail
  refine CA.out.mono ?_
  rintro e w1 ⟨rfl, hb⟩
  have X := Lib.hid (below_more HB0.out hb (Nat.le_refl _))
  clear hb CA HB0
  go_wp2_with fail
  go_ret
  exact ⟨rfl, X.out⟩

set_option maxRecDepth 100000 in
set_option maxHeartbeats 6400000 in
theorem turns_no0 (w : World) (a : Option Addr) (n c : Nat) (ps : List Pt) (q r : Pt) (h : Pts w a n ps) (h0 : ¬ 1000 < n) (hq : Fits q) (hr : Fits r) (hs : shape ps = false) : Calls Try.prog 5 #[.slice a n c, .agg #[.int .i64 q.X, .int .i64 q.Y], .agg #[.int .i64 r.X, .int .i64 r.Y]] w (Yes w) := by
  have u0 : decide ((1000 : Int) < (n : Int)) = false := by simp; omega
  have HSH := Lib.hid hs
  have HNO := Lib.hid (show (shape ps && (near q && near r)) = false by rw [hs, Bool.false_and])
  have HF := Lib.hid (And.intro hq hr)
  clear hs hq hr
  have b0 : Below w.heap.size w ((w.alloc (.cells #[.int .i64 q.X, .int .i64 q.Y] 37)).alloc (.cells #[.int .i64 r.X, .int .i64 r.Y] 37)) := ((Below.refl _ _).alloc (Nat.le_refl _) _).alloc (by simp) _
  have CA := Lib.hid (anchor_any ((w.alloc (.cells #[.int .i64 q.X, .int .i64 q.Y] 37)).alloc (.cells #[.int .i64 r.X, .int .i64 r.Y] 37)))
  have BX := Lib.hid (boxes_new w q r)
  have HB0 := Lib.hid b0
  have HP := Lib.hid (h.below b0)
  clear b0 h
  go_enter Try.func5, Try.ntmps5
  go_wp2_with fail
  refine CA.out.mono ?_
  rintro e w1 ⟨rfl, hb⟩
  have H1 := Lib.hid (And.intro (HP.out.below hb) (And.intro (BX.out.below hb) (below_more HB0.out hb (Nat.le_refl _))))
  clear hb CA HB0 BX HP
  have CP := Lib.hid (plain_any w1 a n c ps H1.out.1 (by omega))
  have hl := H1.out.1.1
  go_wp2_with fail
  refine CP.out.mono ?_
  rintro e w2 ⟨aa, c2, rfl, hp, _, _, _, hb⟩
  rw [hl] at hp ⊢
  obtain ⟨x0, x1, x2, x3⟩ := H1.out.2.1.below hb
  have s0 := World.block_lt_of_cell? _ _ x0
  have s1 := World.block_lt_of_cell? _ _ x2
  simp only at s0 s1
  have H2 := Lib.hid (And.intro (H1.out.1.below hb) (And.intro hp (And.intro (H1.out.2.1.below hb) (below_more H1.out.2.2 hb (Nat.le_refl _)))))
  have NA := Lib.hid (two31_new w2 q r)
  have NB := Lib.hid (two31_new w2 r q)
  clear hb CP H1 hp hl
  go_wp2_with fail
  go_region
  · obtain ⟨Q, R, hQ, hR⟩ : ∃ Q R, Q = w2.heap.size ∧ R = w2.heap.size + 1 := ⟨_, _, rfl, rfl⟩
    obtain ⟨Z, hZ⟩ : ∃ Z, Z = ((w2.alloc (.cells #[.int .i64 q.X, .int .i64 q.Y] 31)).alloc (.cells #[.int .i64 r.X, .int .i64 r.Y] 31)).drew := ⟨_, rfl⟩
    have TB := Lib.hid (show (Pts Z a n ps ∧ Pts Z aa n ps ∧ Boxes Z w.heap.size q r ∧ Below w.heap.size w Z) ∧ Two31 Z Q R q r by
      have t := NA.out
      rw [← hZ] at t
      refine ⟨⟨H2.out.1.below t.2, H2.out.2.1.below t.2, H2.out.2.2.1.below t.2, below_more H2.out.2.2.2 t.2 (Nat.le_refl _)⟩, ?_, ?_⟩
      · rw [hQ]; exact t.1.1
      · rw [hR]; exact t.1.2)
    rw [← hZ, ← hR, ← hQ]
    clear hQ hR hZ NA NB H2 x0 x1 x2 x3 s0 s1
    obtain ⟨x0, x1, x2, x3⟩ := TB.out.1.2.2.1
    obtain ⟨⟨z0, z1⟩, z2, z3⟩ := TB.out.2
    have CT := Lib.hid (turn_any Z a n c ps q r TB.out.1.1 (by omega) HF.out.1 HF.out.2)
    rw [HNO.out, Bool.false_and] at CT
    go_wp2_with fail
    refine CT.out.mono ?_
    rintro e w3 ⟨rfl, hb⟩
    have H3 := Lib.hid (show (Pts w3 a n ps ∧ Pts w3 aa n ps ∧ Boxes w3 w.heap.size q r ∧ Below w.heap.size w w3) ∧ Two31 w3 Q R q r from ⟨⟨TB.out.1.1.below hb, TB.out.1.2.1.below hb, TB.out.1.2.2.1.below hb, below_more TB.out.1.2.2.2 hb (Nat.le_refl _)⟩, TB.out.2.below hb⟩)
    clear hb TB CT x0 x1 x2 x3 z0 z1 z2 z3
    obtain ⟨x0, x1, x2, x3⟩ := H3.out.1.2.2.1
    obtain ⟨⟨z0, z1⟩, z2, z3⟩ := H3.out.2
    have CS := Lib.hid (docShape_any w3 aa n c2 ps H3.out.1.2.1 (by omega))
    rw [HSH.out] at CS
    go_wp2_with fail
    refine CS.out.mono ?_
    rintro e w4 ⟨rfl, hb⟩
    have H4 := Lib.hid (show (Pts w4 a n ps ∧ Pts w4 aa n ps ∧ Boxes w4 w.heap.size q r ∧ Below w.heap.size w w4) ∧ Two31 w4 Q R q r from ⟨⟨H3.out.1.1.below hb, H3.out.1.2.1.below hb, H3.out.1.2.2.1.below hb, below_more H3.out.1.2.2.2 hb (Nat.le_refl _)⟩, H3.out.2.below hb⟩)
    clear hb H3 CS x0 x1 x2 x3 z0 z1 z2 z3
    have X := Lib.hid H4.out.1.2.2.2
    clear H4
    go_wp2_with fail
    go_ret
    exact ⟨rfl, X.out⟩
  · obtain ⟨Q, R, hQ, hR⟩ : ∃ Q R, Q = w2.heap.size + 1 ∧ R = w2.heap.size := ⟨_, _, rfl, rfl⟩
    obtain ⟨Z, hZ⟩ : ∃ Z, Z = ((w2.alloc (.cells #[.int .i64 r.X, .int .i64 r.Y] 31)).alloc (.cells #[.int .i64 q.X, .int .i64 q.Y] 31)).drew := ⟨_, rfl⟩
    have TB := Lib.hid (show (Pts Z a n ps ∧ Pts Z aa n ps ∧ Boxes Z w.heap.size q r ∧ Below w.heap.size w Z) ∧ Two31 Z Q R q r by
      have t := NB.out
      rw [← hZ] at t
      refine ⟨⟨H2.out.1.below t.2, H2.out.2.1.below t.2, H2.out.2.2.1.below t.2, below_more H2.out.2.2.2 t.2 (Nat.le_refl _)⟩, ?_, ?_⟩
      · rw [hQ]; exact t.1.2
      · rw [hR]; exact t.1.1)
    rw [← hZ, ← hQ, ← hR]
    clear hQ hR hZ NA NB H2 x0 x1 x2 x3 s0 s1
    obtain ⟨x0, x1, x2, x3⟩ := TB.out.1.2.2.1
    obtain ⟨⟨z0, z1⟩, z2, z3⟩ := TB.out.2
    have CT := Lib.hid (turn_any Z a n c ps q r TB.out.1.1 (by omega) HF.out.1 HF.out.2)
    rw [HNO.out, Bool.false_and] at CT
    go_wp2_with fail
    refine CT.out.mono ?_
    rintro e w3 ⟨rfl, hb⟩
    have H3 := Lib.hid (show (Pts w3 a n ps ∧ Pts w3 aa n ps ∧ Boxes w3 w.heap.size q r ∧ Below w.heap.size w w3) ∧ Two31 w3 Q R q r from ⟨⟨TB.out.1.1.below hb, TB.out.1.2.1.below hb, TB.out.1.2.2.1.below hb, below_more TB.out.1.2.2.2 hb (Nat.le_refl _)⟩, TB.out.2.below hb⟩)
    clear hb TB CT x0 x1 x2 x3 z0 z1 z2 z3
    obtain ⟨x0, x1, x2, x3⟩ := H3.out.1.2.2.1
    obtain ⟨⟨z0, z1⟩, z2, z3⟩ := H3.out.2
    have CS := Lib.hid (docShape_any w3 aa n c2 ps H3.out.1.2.1 (by omega))
    rw [HSH.out] at CS
    go_wp2_with fail
    refine CS.out.mono ?_
    rintro e w4 ⟨rfl, hb⟩
    have H4 := Lib.hid (show (Pts w4 a n ps ∧ Pts w4 aa n ps ∧ Boxes w4 w.heap.size q r ∧ Below w.heap.size w w4) ∧ Two31 w4 Q R q r from ⟨⟨H3.out.1.1.below hb, H3.out.1.2.1.below hb, H3.out.1.2.2.1.below hb, below_more H3.out.1.2.2.2 hb (Nat.le_refl _)⟩, H3.out.2.below hb⟩)
    clear hb H3 CS x0 x1 x2 x3 z0 z1 z2 z3
    have X := Lib.hid H4.out.1.2.2.2
    clear H4
    go_wp2_with fail
    go_ret
    exact ⟨rfl, X.out⟩

set_option maxRecDepth 100000 in
set_option maxHeartbeats 6400000 in
theorem turns_no1 (w : World) (a : Option Addr) (n c : Nat) (ps : List Pt) (q r : Pt) (h : Pts w a n ps) (h0 : ¬ 1000 < n) (hq : Fits q) (hr : Fits r) (hs : shape ps = true) (hnq : near q = false) : Calls Try.prog 5 #[.slice a n c, .agg #[.int .i64 q.X, .int .i64 q.Y], .agg #[.int .i64 r.X, .int .i64 r.Y]] w (Yes w) := by
  have u0 : decide ((1000 : Int) < (n : Int)) = false := by simp; omega
  have HSH := Lib.hid hs
  have HNQ := Lib.hid hnq
  have HNO := Lib.hid (show (shape ps && (near q && near r)) = false by rw [hnq, Bool.false_and, Bool.and_false])
  have HF := Lib.hid (And.intro hq hr)
  clear hs hnq hq hr
  have b0 : Below w.heap.size w ((w.alloc (.cells #[.int .i64 q.X, .int .i64 q.Y] 37)).alloc (.cells #[.int .i64 r.X, .int .i64 r.Y] 37)) := ((Below.refl _ _).alloc (Nat.le_refl _) _).alloc (by simp) _
  have CA := Lib.hid (anchor_any ((w.alloc (.cells #[.int .i64 q.X, .int .i64 q.Y] 37)).alloc (.cells #[.int .i64 r.X, .int .i64 r.Y] 37)))
  have BX := Lib.hid (boxes_new w q r)
  have HB0 := Lib.hid b0
  have HP := Lib.hid (h.below b0)
  clear b0 h
  go_enter Try.func5, Try.ntmps5
  go_wp2_with fail
  refine CA.out.mono ?_
  rintro e w1 ⟨rfl, hb⟩
  have H1 := Lib.hid (And.intro (HP.out.below hb) (And.intro (BX.out.below hb) (below_more HB0.out hb (Nat.le_refl _))))
  clear hb CA HB0 BX HP
  have CP := Lib.hid (plain_any w1 a n c ps H1.out.1 (by omega))
  have hl := H1.out.1.1
  go_wp2_with fail
  refine CP.out.mono ?_
  rintro e w2 ⟨aa, c2, rfl, hp, _, _, _, hb⟩
  rw [hl] at hp ⊢
  obtain ⟨x0, x1, x2, x3⟩ := H1.out.2.1.below hb
  have s0 := World.block_lt_of_cell? _ _ x0
  have s1 := World.block_lt_of_cell? _ _ x2
  simp only at s0 s1
  have H2 := Lib.hid (And.intro (H1.out.1.below hb) (And.intro hp (And.intro (H1.out.2.1.below hb) (below_more H1.out.2.2 hb (Nat.le_refl _)))))
  have NA := Lib.hid (two31_new w2 q r)
  have NB := Lib.hid (two31_new w2 r q)
  clear hb CP H1 hp hl
  go_wp2_with fail
  go_region
  · obtain ⟨Q, R, hQ, hR⟩ : ∃ Q R, Q = w2.heap.size ∧ R = w2.heap.size + 1 := ⟨_, _, rfl, rfl⟩
    obtain ⟨Z, hZ⟩ : ∃ Z, Z = ((w2.alloc (.cells #[.int .i64 q.X, .int .i64 q.Y] 31)).alloc (.cells #[.int .i64 r.X, .int .i64 r.Y] 31)).drew := ⟨_, rfl⟩
    have TB := Lib.hid (show (Pts Z a n ps ∧ Pts Z aa n ps ∧ Boxes Z w.heap.size q r ∧ Below w.heap.size w Z) ∧ Two31 Z Q R q r by
      have t := NA.out
      rw [← hZ] at t
      refine ⟨⟨H2.out.1.below t.2, H2.out.2.1.below t.2, H2.out.2.2.1.below t.2, below_more H2.out.2.2.2 t.2 (Nat.le_refl _)⟩, ?_, ?_⟩
      · rw [hQ]; exact t.1.1
      · rw [hR]; exact t.1.2)
    rw [← hZ, ← hR, ← hQ]
    clear hQ hR hZ NA NB H2 x0 x1 x2 x3 s0 s1
    obtain ⟨x0, x1, x2, x3⟩ := TB.out.1.2.2.1
    obtain ⟨⟨z0, z1⟩, z2, z3⟩ := TB.out.2
    have CT := Lib.hid (turn_any Z a n c ps q r TB.out.1.1 (by omega) HF.out.1 HF.out.2)
    rw [HNO.out, Bool.false_and] at CT
    go_wp2_with fail
    refine CT.out.mono ?_
    rintro e w3 ⟨rfl, hb⟩
    have H3 := Lib.hid (show (Pts w3 a n ps ∧ Pts w3 aa n ps ∧ Boxes w3 w.heap.size q r ∧ Below w.heap.size w w3) ∧ Two31 w3 Q R q r from ⟨⟨TB.out.1.1.below hb, TB.out.1.2.1.below hb, TB.out.1.2.2.1.below hb, below_more TB.out.1.2.2.2 hb (Nat.le_refl _)⟩, TB.out.2.below hb⟩)
    clear hb TB CT x0 x1 x2 x3 z0 z1 z2 z3
    obtain ⟨x0, x1, x2, x3⟩ := H3.out.1.2.2.1
    obtain ⟨⟨z0, z1⟩, z2, z3⟩ := H3.out.2
    have CS := Lib.hid (docShape_any w3 aa n c2 ps H3.out.1.2.1 (by omega))
    rw [HSH.out] at CS
    go_wp2_with fail
    refine CS.out.mono ?_
    rintro e w4 ⟨rfl, hb⟩
    have H4 := Lib.hid (show (Pts w4 a n ps ∧ Pts w4 aa n ps ∧ Boxes w4 w.heap.size q r ∧ Below w.heap.size w w4) ∧ Two31 w4 Q R q r from ⟨⟨H3.out.1.1.below hb, H3.out.1.2.1.below hb, H3.out.1.2.2.1.below hb, below_more H3.out.1.2.2.2 hb (Nat.le_refl _)⟩, H3.out.2.below hb⟩)
    clear hb H3 CS x0 x1 x2 x3 z0 z1 z2 z3
    obtain ⟨x0, x1, x2, x3⟩ := H4.out.1.2.2.1
    obtain ⟨⟨z0, z1⟩, z2, z3⟩ := H4.out.2
    have CR := Lib.hid (right_any w4 q)
    rw [HNQ.out] at CR
    go_wp2_with fail
    refine CR.out.mono ?_
    rintro e w5 ⟨rfl, hb⟩
    have H5 := Lib.hid (show (Pts w5 a n ps ∧ Pts w5 aa n ps ∧ Boxes w5 w.heap.size q r ∧ Below w.heap.size w w5) ∧ Two31 w5 Q R q r from ⟨⟨H4.out.1.1.below hb, H4.out.1.2.1.below hb, H4.out.1.2.2.1.below hb, below_more H4.out.1.2.2.2 hb (Nat.le_refl _)⟩, H4.out.2.below hb⟩)
    clear hb H4 CR x0 x1 x2 x3 z0 z1 z2 z3
    have X := Lib.hid H5.out.1.2.2.2
    clear H5
    go_wp2_with fail
    go_ret
    exact ⟨rfl, X.out⟩
  · obtain ⟨Q, R, hQ, hR⟩ : ∃ Q R, Q = w2.heap.size + 1 ∧ R = w2.heap.size := ⟨_, _, rfl, rfl⟩
    obtain ⟨Z, hZ⟩ : ∃ Z, Z = ((w2.alloc (.cells #[.int .i64 r.X, .int .i64 r.Y] 31)).alloc (.cells #[.int .i64 q.X, .int .i64 q.Y] 31)).drew := ⟨_, rfl⟩
    have TB := Lib.hid (show (Pts Z a n ps ∧ Pts Z aa n ps ∧ Boxes Z w.heap.size q r ∧ Below w.heap.size w Z) ∧ Two31 Z Q R q r by
      have t := NB.out
      rw [← hZ] at t
      refine ⟨⟨H2.out.1.below t.2, H2.out.2.1.below t.2, H2.out.2.2.1.below t.2, below_more H2.out.2.2.2 t.2 (Nat.le_refl _)⟩, ?_, ?_⟩
      · rw [hQ]; exact t.1.2
      · rw [hR]; exact t.1.1)
    rw [← hZ, ← hQ, ← hR]
    clear hQ hR hZ NA NB H2 x0 x1 x2 x3 s0 s1
    obtain ⟨x0, x1, x2, x3⟩ := TB.out.1.2.2.1
    obtain ⟨⟨z0, z1⟩, z2, z3⟩ := TB.out.2
    have CT := Lib.hid (turn_any Z a n c ps q r TB.out.1.1 (by omega) HF.out.1 HF.out.2)
    rw [HNO.out, Bool.false_and] at CT
    go_wp2_with fail
    refine CT.out.mono ?_
    rintro e w3 ⟨rfl, hb⟩
    have H3 := Lib.hid (show (Pts w3 a n ps ∧ Pts w3 aa n ps ∧ Boxes w3 w.heap.size q r ∧ Below w.heap.size w w3) ∧ Two31 w3 Q R q r from ⟨⟨TB.out.1.1.below hb, TB.out.1.2.1.below hb, TB.out.1.2.2.1.below hb, below_more TB.out.1.2.2.2 hb (Nat.le_refl _)⟩, TB.out.2.below hb⟩)
    clear hb TB CT x0 x1 x2 x3 z0 z1 z2 z3
    obtain ⟨x0, x1, x2, x3⟩ := H3.out.1.2.2.1
    obtain ⟨⟨z0, z1⟩, z2, z3⟩ := H3.out.2
    have CS := Lib.hid (docShape_any w3 aa n c2 ps H3.out.1.2.1 (by omega))
    rw [HSH.out] at CS
    go_wp2_with fail
    refine CS.out.mono ?_
    rintro e w4 ⟨rfl, hb⟩
    have H4 := Lib.hid (show (Pts w4 a n ps ∧ Pts w4 aa n ps ∧ Boxes w4 w.heap.size q r ∧ Below w.heap.size w w4) ∧ Two31 w4 Q R q r from ⟨⟨H3.out.1.1.below hb, H3.out.1.2.1.below hb, H3.out.1.2.2.1.below hb, below_more H3.out.1.2.2.2 hb (Nat.le_refl _)⟩, H3.out.2.below hb⟩)
    clear hb H3 CS x0 x1 x2 x3 z0 z1 z2 z3
    obtain ⟨x0, x1, x2, x3⟩ := H4.out.1.2.2.1
    obtain ⟨⟨z0, z1⟩, z2, z3⟩ := H4.out.2
    have CR := Lib.hid (right_any w4 q)
    rw [HNQ.out] at CR
    go_wp2_with fail
    refine CR.out.mono ?_
    rintro e w5 ⟨rfl, hb⟩
    have H5 := Lib.hid (show (Pts w5 a n ps ∧ Pts w5 aa n ps ∧ Boxes w5 w.heap.size q r ∧ Below w.heap.size w w5) ∧ Two31 w5 Q R q r from ⟨⟨H4.out.1.1.below hb, H4.out.1.2.1.below hb, H4.out.1.2.2.1.below hb, below_more H4.out.1.2.2.2 hb (Nat.le_refl _)⟩, H4.out.2.below hb⟩)
    clear hb H4 CR x0 x1 x2 x3 z0 z1 z2 z3
    have X := Lib.hid H5.out.1.2.2.2
    clear H5
    go_wp2_with fail
    go_ret
    exact ⟨rfl, X.out⟩

set_option maxRecDepth 100000 in
set_option maxHeartbeats 6400000 in
theorem turns_no2 (w : World) (a : Option Addr) (n c : Nat) (ps : List Pt) (q r : Pt) (h : Pts w a n ps) (h0 : ¬ 1000 < n) (hq : Fits q) (hr : Fits r) (hs : shape ps = true) (hnq : near q = true) (hnr : near r = false) : Calls Try.prog 5 #[.slice a n c, .agg #[.int .i64 q.X, .int .i64 q.Y], .agg #[.int .i64 r.X, .int .i64 r.Y]] w (Yes w) := by
  have u0 : decide ((1000 : Int) < (n : Int)) = false := by simp; omega
  have HSH := Lib.hid hs
  have HNQ := Lib.hid hnq
  have HNR := Lib.hid hnr
  have HNO := Lib.hid (show (shape ps && (near q && near r)) = false by rw [hnr, Bool.and_false, Bool.and_false])
  have HF := Lib.hid (And.intro hq hr)
  clear hs hnq hnr hq hr
  have b0 : Below w.heap.size w ((w.alloc (.cells #[.int .i64 q.X, .int .i64 q.Y] 37)).alloc (.cells #[.int .i64 r.X, .int .i64 r.Y] 37)) := ((Below.refl _ _).alloc (Nat.le_refl _) _).alloc (by simp) _
  have CA := Lib.hid (anchor_any ((w.alloc (.cells #[.int .i64 q.X, .int .i64 q.Y] 37)).alloc (.cells #[.int .i64 r.X, .int .i64 r.Y] 37)))
  have BX := Lib.hid (boxes_new w q r)
  have HB0 := Lib.hid b0
  have HP := Lib.hid (h.below b0)
  clear b0 h
  go_enter Try.func5, Try.ntmps5
  go_wp2_with fail
  refine CA.out.mono ?_
  rintro e w1 ⟨rfl, hb⟩
  have H1 := Lib.hid (And.intro (HP.out.below hb) (And.intro (BX.out.below hb) (below_more HB0.out hb (Nat.le_refl _))))
  clear hb CA HB0 BX HP
  have CP := Lib.hid (plain_any w1 a n c ps H1.out.1 (by omega))
  have hl := H1.out.1.1
  go_wp2_with fail
  refine CP.out.mono ?_
  rintro e w2 ⟨aa, c2, rfl, hp, _, _, _, hb⟩
  rw [hl] at hp ⊢
  obtain ⟨x0, x1, x2, x3⟩ := H1.out.2.1.below hb
  have s0 := World.block_lt_of_cell? _ _ x0
  have s1 := World.block_lt_of_cell? _ _ x2
  simp only at s0 s1
  have H2 := Lib.hid (And.intro (H1.out.1.below hb) (And.intro hp (And.intro (H1.out.2.1.below hb) (below_more H1.out.2.2 hb (Nat.le_refl _)))))
  have NA := Lib.hid (two31_new w2 q r)
  have NB := Lib.hid (two31_new w2 r q)
  clear hb CP H1 hp hl
  go_wp2_with fail
  go_region
  · obtain ⟨Q, R, hQ, hR⟩ : ∃ Q R, Q = w2.heap.size ∧ R = w2.heap.size + 1 := ⟨_, _, rfl, rfl⟩
    obtain ⟨Z, hZ⟩ : ∃ Z, Z = ((w2.alloc (.cells #[.int .i64 q.X, .int .i64 q.Y] 31)).alloc (.cells #[.int .i64 r.X, .int .i64 r.Y] 31)).drew := ⟨_, rfl⟩
    have TB := Lib.hid (show (Pts Z a n ps ∧ Pts Z aa n ps ∧ Boxes Z w.heap.size q r ∧ Below w.heap.size w Z) ∧ Two31 Z Q R q r by
      have t := NA.out
      rw [← hZ] at t
      refine ⟨⟨H2.out.1.below t.2, H2.out.2.1.below t.2, H2.out.2.2.1.below t.2, below_more H2.out.2.2.2 t.2 (Nat.le_refl _)⟩, ?_, ?_⟩
      · rw [hQ]; exact t.1.1
      · rw [hR]; exact t.1.2)
    rw [← hZ, ← hR, ← hQ]
    clear hQ hR hZ NA NB H2 x0 x1 x2 x3 s0 s1
    obtain ⟨x0, x1, x2, x3⟩ := TB.out.1.2.2.1
    obtain ⟨⟨z0, z1⟩, z2, z3⟩ := TB.out.2
    have CT := Lib.hid (turn_any Z a n c ps q r TB.out.1.1 (by omega) HF.out.1 HF.out.2)
    rw [HNO.out, Bool.false_and] at CT
    go_wp2_with fail
    refine CT.out.mono ?_
    rintro e w3 ⟨rfl, hb⟩
    have H3 := Lib.hid (show (Pts w3 a n ps ∧ Pts w3 aa n ps ∧ Boxes w3 w.heap.size q r ∧ Below w.heap.size w w3) ∧ Two31 w3 Q R q r from ⟨⟨TB.out.1.1.below hb, TB.out.1.2.1.below hb, TB.out.1.2.2.1.below hb, below_more TB.out.1.2.2.2 hb (Nat.le_refl _)⟩, TB.out.2.below hb⟩)
    clear hb TB CT x0 x1 x2 x3 z0 z1 z2 z3
    obtain ⟨x0, x1, x2, x3⟩ := H3.out.1.2.2.1
    obtain ⟨⟨z0, z1⟩, z2, z3⟩ := H3.out.2
    have CS := Lib.hid (docShape_any w3 aa n c2 ps H3.out.1.2.1 (by omega))
    rw [HSH.out] at CS
    go_wp2_with fail
    refine CS.out.mono ?_
    rintro e w4 ⟨rfl, hb⟩
    have H4 := Lib.hid (show (Pts w4 a n ps ∧ Pts w4 aa n ps ∧ Boxes w4 w.heap.size q r ∧ Below w.heap.size w w4) ∧ Two31 w4 Q R q r from ⟨⟨H3.out.1.1.below hb, H3.out.1.2.1.below hb, H3.out.1.2.2.1.below hb, below_more H3.out.1.2.2.2 hb (Nat.le_refl _)⟩, H3.out.2.below hb⟩)
    clear hb H3 CS x0 x1 x2 x3 z0 z1 z2 z3
    obtain ⟨x0, x1, x2, x3⟩ := H4.out.1.2.2.1
    obtain ⟨⟨z0, z1⟩, z2, z3⟩ := H4.out.2
    have CR := Lib.hid (right_any w4 q)
    rw [HNQ.out] at CR
    go_wp2_with fail
    refine CR.out.mono ?_
    rintro e w5 ⟨rfl, hb⟩
    have H5 := Lib.hid (show (Pts w5 a n ps ∧ Pts w5 aa n ps ∧ Boxes w5 w.heap.size q r ∧ Below w.heap.size w w5) ∧ Two31 w5 Q R q r from ⟨⟨H4.out.1.1.below hb, H4.out.1.2.1.below hb, H4.out.1.2.2.1.below hb, below_more H4.out.1.2.2.2 hb (Nat.le_refl _)⟩, H4.out.2.below hb⟩)
    clear hb H4 CR x0 x1 x2 x3 z0 z1 z2 z3
    obtain ⟨x0, x1, x2, x3⟩ := H5.out.1.2.2.1
    obtain ⟨⟨z0, z1⟩, z2, z3⟩ := H5.out.2
    have CR := Lib.hid (right_any w5 r)
    rw [HNR.out] at CR
    go_wp2_with fail
    refine CR.out.mono ?_
    rintro e w6 ⟨rfl, hb⟩
    have H6 := Lib.hid (show (Pts w6 a n ps ∧ Pts w6 aa n ps ∧ Boxes w6 w.heap.size q r ∧ Below w.heap.size w w6) ∧ Two31 w6 Q R q r from ⟨⟨H5.out.1.1.below hb, H5.out.1.2.1.below hb, H5.out.1.2.2.1.below hb, below_more H5.out.1.2.2.2 hb (Nat.le_refl _)⟩, H5.out.2.below hb⟩)
    clear hb H5 CR x0 x1 x2 x3 z0 z1 z2 z3
    have X := Lib.hid H6.out.1.2.2.2
    clear H6
    go_wp2_with fail
    go_ret
    exact ⟨rfl, X.out⟩
  · obtain ⟨Q, R, hQ, hR⟩ : ∃ Q R, Q = w2.heap.size + 1 ∧ R = w2.heap.size := ⟨_, _, rfl, rfl⟩
    obtain ⟨Z, hZ⟩ : ∃ Z, Z = ((w2.alloc (.cells #[.int .i64 r.X, .int .i64 r.Y] 31)).alloc (.cells #[.int .i64 q.X, .int .i64 q.Y] 31)).drew := ⟨_, rfl⟩
    have TB := Lib.hid (show (Pts Z a n ps ∧ Pts Z aa n ps ∧ Boxes Z w.heap.size q r ∧ Below w.heap.size w Z) ∧ Two31 Z Q R q r by
      have t := NB.out
      rw [← hZ] at t
      refine ⟨⟨H2.out.1.below t.2, H2.out.2.1.below t.2, H2.out.2.2.1.below t.2, below_more H2.out.2.2.2 t.2 (Nat.le_refl _)⟩, ?_, ?_⟩
      · rw [hQ]; exact t.1.2
      · rw [hR]; exact t.1.1)
    rw [← hZ, ← hQ, ← hR]
    clear hQ hR hZ NA NB H2 x0 x1 x2 x3 s0 s1
    obtain ⟨x0, x1, x2, x3⟩ := TB.out.1.2.2.1
    obtain ⟨⟨z0, z1⟩, z2, z3⟩ := TB.out.2
    have CT := Lib.hid (turn_any Z a n c ps q r TB.out.1.1 (by omega) HF.out.1 HF.out.2)
    rw [HNO.out, Bool.false_and] at CT
    go_wp2_with fail
    refine CT.out.mono ?_
    rintro e w3 ⟨rfl, hb⟩
    have H3 := Lib.hid (show (Pts w3 a n ps ∧ Pts w3 aa n ps ∧ Boxes w3 w.heap.size q r ∧ Below w.heap.size w w3) ∧ Two31 w3 Q R q r from ⟨⟨TB.out.1.1.below hb, TB.out.1.2.1.below hb, TB.out.1.2.2.1.below hb, below_more TB.out.1.2.2.2 hb (Nat.le_refl _)⟩, TB.out.2.below hb⟩)
    clear hb TB CT x0 x1 x2 x3 z0 z1 z2 z3
    obtain ⟨x0, x1, x2, x3⟩ := H3.out.1.2.2.1
    obtain ⟨⟨z0, z1⟩, z2, z3⟩ := H3.out.2
    have CS := Lib.hid (docShape_any w3 aa n c2 ps H3.out.1.2.1 (by omega))
    rw [HSH.out] at CS
    go_wp2_with fail
    refine CS.out.mono ?_
    rintro e w4 ⟨rfl, hb⟩
    have H4 := Lib.hid (show (Pts w4 a n ps ∧ Pts w4 aa n ps ∧ Boxes w4 w.heap.size q r ∧ Below w.heap.size w w4) ∧ Two31 w4 Q R q r from ⟨⟨H3.out.1.1.below hb, H3.out.1.2.1.below hb, H3.out.1.2.2.1.below hb, below_more H3.out.1.2.2.2 hb (Nat.le_refl _)⟩, H3.out.2.below hb⟩)
    clear hb H3 CS x0 x1 x2 x3 z0 z1 z2 z3
    obtain ⟨x0, x1, x2, x3⟩ := H4.out.1.2.2.1
    obtain ⟨⟨z0, z1⟩, z2, z3⟩ := H4.out.2
    have CR := Lib.hid (right_any w4 q)
    rw [HNQ.out] at CR
    go_wp2_with fail
    refine CR.out.mono ?_
    rintro e w5 ⟨rfl, hb⟩
    have H5 := Lib.hid (show (Pts w5 a n ps ∧ Pts w5 aa n ps ∧ Boxes w5 w.heap.size q r ∧ Below w.heap.size w w5) ∧ Two31 w5 Q R q r from ⟨⟨H4.out.1.1.below hb, H4.out.1.2.1.below hb, H4.out.1.2.2.1.below hb, below_more H4.out.1.2.2.2 hb (Nat.le_refl _)⟩, H4.out.2.below hb⟩)
    clear hb H4 CR x0 x1 x2 x3 z0 z1 z2 z3
    obtain ⟨x0, x1, x2, x3⟩ := H5.out.1.2.2.1
    obtain ⟨⟨z0, z1⟩, z2, z3⟩ := H5.out.2
    have CR := Lib.hid (right_any w5 r)
    rw [HNR.out] at CR
    go_wp2_with fail
    refine CR.out.mono ?_
    rintro e w6 ⟨rfl, hb⟩
    have H6 := Lib.hid (show (Pts w6 a n ps ∧ Pts w6 aa n ps ∧ Boxes w6 w.heap.size q r ∧ Below w.heap.size w w6) ∧ Two31 w6 Q R q r from ⟨⟨H5.out.1.1.below hb, H5.out.1.2.1.below hb, H5.out.1.2.2.1.below hb, below_more H5.out.1.2.2.2 hb (Nat.le_refl _)⟩, H5.out.2.below hb⟩)
    clear hb H5 CR x0 x1 x2 x3 z0 z1 z2 z3
    have X := Lib.hid H6.out.1.2.2.2
    clear H6
    go_wp2_with fail
    go_ret
    exact ⟨rfl, X.out⟩
end Go.Proofs.Ytboocllckolmgaa
