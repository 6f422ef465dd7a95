/- The document's product. (printed by genJ.py) -/
import Derived.Test.YtfcndldobjpbnaaE
namespace Go.Proofs.Ytfcndldobjpbnaa
open Go.RowKit
set_option linter.unusedVariables false

theorem docRight_yes {m : Af.M} (h : m.ok) (w : World) : Calls Try.prog 16 #[.agg #[.int .i64 m.a, .int .i64 m.b, .int .i64 m.c, .int .i64 m.d, .int .i64 m.e, .int .i64 m.f]] w fun e w' => e = .returned (.bool true) ∧ Keeps none' w w' :=
  (docRight_any m w).mono fun e w' ⟨h1, h2⟩ => ⟨by rw [h1, decide_eq_true h], keeps_alloc h2⟩
theorem docRight_no {m : Af.M} (h : ¬ m.ok) (w : World) : Calls Try.prog 16 #[.agg #[.int .i64 m.a, .int .i64 m.b, .int .i64 m.c, .int .i64 m.d, .int .i64 m.e, .int .i64 m.f]] w fun e w' => e = .returned (.bool false) ∧ Keeps none' w w' :=
  (docRight_any m w).mono fun e w' ⟨h1, h2⟩ => ⟨by rw [h1, decide_eq_false h], keeps_alloc h2⟩
structure Trio (w : World) (A B R : Nat) (m n r : Af.M) (w' : World) : Prop where
  one : Six w' A 28 m
  two : Six w' B 28 n
  res : Six w' R 28 r
  keeps : Keeps none' w w'
  low : w.heap.size ≤ R
theorem Trio.later {w w1 w2 : World} {A B R : Nat} {m n r : Af.M} (h : Trio w A B R m n r w1) (k : Keeps none' w1 w2) : Trio w A B R m n r w2 :=
  ⟨h.one.later k, h.two.later k, h.res.later k, h.keeps.next k, h.low⟩
theorem Trio.new (w : World) (m n r : Af.M) : Trio w w.heap.size (w.heap.size + 1) (w.heap.size + 1 + 1) m n r (((w.alloc (.cells #[.int .i64 m.a, .int .i64 m.b, .int .i64 m.c, .int .i64 m.d, .int .i64 m.e, .int .i64 m.f] 28)).alloc (.cells #[.int .i64 n.a, .int .i64 n.b, .int .i64 n.c, .int .i64 n.d, .int .i64 n.e, .int .i64 n.f] 28)).alloc (.cells #[.int .i64 r.a, .int .i64 r.b, .int .i64 r.c, .int .i64 r.d, .int .i64 r.e, .int .i64 r.f] 28)) := by
  refine ⟨((Six.new _ _ _).alloc _).alloc _, ?_, ?_, (((Keeps.refl _ _).alloc _).alloc _).alloc _, by omega⟩
  · have := (Six.new (w.alloc (.cells #[.int .i64 m.a, .int .i64 m.b, .int .i64 m.c, .int .i64 m.d, .int .i64 m.e, .int .i64 m.f] 28)) 28 n).alloc (.cells #[.int .i64 r.a, .int .i64 r.b, .int .i64 r.c, .int .i64 r.d, .int .i64 r.e, .int .i64 r.f] 28)
    simpa using this
  · have := Six.new ((w.alloc (.cells #[.int .i64 m.a, .int .i64 m.b, .int .i64 m.c, .int .i64 m.d, .int .i64 m.e, .int .i64 m.f] 28)).alloc (.cells #[.int .i64 n.a, .int .i64 n.b, .int .i64 n.c, .int .i64 n.d, .int .i64 n.e, .int .i64 n.f] 28)) 28 r
    simpa using this
theorem Six.s0 {w : World} {B ty : Nat} {m : Af.M} (h : Six w B ty m) (v : Int) : Six (w.setCell ⟨B, 0, none⟩ (.int .i64 v)) B ty ⟨v, m.b, m.c, m.d, m.e, m.f⟩ := by
  unfold Six at *
  simp [World.setCell, Array.getElem?_modify, h]
theorem Six.s1 {w : World} {B ty : Nat} {m : Af.M} (h : Six w B ty m) (v : Int) : Six (w.setCell ⟨B, 1, none⟩ (.int .i64 v)) B ty ⟨m.a, v, m.c, m.d, m.e, m.f⟩ := by
  unfold Six at *
  simp [World.setCell, Array.getElem?_modify, h]
theorem Six.s2 {w : World} {B ty : Nat} {m : Af.M} (h : Six w B ty m) (v : Int) : Six (w.setCell ⟨B, 2, none⟩ (.int .i64 v)) B ty ⟨m.a, m.b, v, m.d, m.e, m.f⟩ := by
  unfold Six at *
  simp [World.setCell, Array.getElem?_modify, h]
theorem Six.s3 {w : World} {B ty : Nat} {m : Af.M} (h : Six w B ty m) (v : Int) : Six (w.setCell ⟨B, 3, none⟩ (.int .i64 v)) B ty ⟨m.a, m.b, m.c, v, m.e, m.f⟩ := by
  unfold Six at *
  simp [World.setCell, Array.getElem?_modify, h]
theorem Six.s4 {w : World} {B ty : Nat} {m : Af.M} (h : Six w B ty m) (v : Int) : Six (w.setCell ⟨B, 4, none⟩ (.int .i64 v)) B ty ⟨m.a, m.b, m.c, m.d, v, m.f⟩ := by
  unfold Six at *
  simp [World.setCell, Array.getElem?_modify, h]
theorem Six.s5 {w : World} {B ty : Nat} {m : Af.M} (h : Six w B ty m) (v : Int) : Six (w.setCell ⟨B, 5, none⟩ (.int .i64 v)) B ty ⟨m.a, m.b, m.c, m.d, m.e, v⟩ := by
  unfold Six at *
  simp [World.setCell, Array.getElem?_modify, h]
/-- Two maps, what is told, and the product under way. -/
structure Quad (w : World) (A B R G : Nat) (m n r o : Af.M) (w' : World) : Prop where
  trio : Trio w A B R m n r w'
  own : Six w' G 28 o
  apart : A ≠ G ∧ B ≠ G ∧ R ≠ G ∧ w.heap.size ≤ G
theorem Quad.later {w w1 w2 : World} {A B R G : Nat} {m n r o : Af.M} (h : Quad w A B R G m n r o w1) (k : Keeps none' w1 w2) : Quad w A B R G m n r o w2 :=
  ⟨h.trio.later k, h.own.later k, h.apart⟩
theorem Quad.set {w w1 : World} {A B R G i : Nat} {m n r o o' : Af.M} {v : Value} (h : Quad w A B R G m n r o w1) (ho : Six ((w1.drew).setCell ⟨G, i, none⟩ v) G 28 o') : Quad w A B R G m n r o' ((w1.drew).setCell ⟨G, i, none⟩ v) :=
  ⟨⟨Six.set (w := w1.drew) h.trio.one h.apart.1 v, Six.set (w := w1.drew) h.trio.two h.apart.2.1 v, Six.set (w := w1.drew) h.trio.res h.apart.2.2.1 v, h.trio.keeps.drew.setCell (fun e => by have := h.apart.2.2.2; simp only at e; omega) _, h.trio.low⟩, ho, h.apart⟩
theorem Quad.s0 {w w1 : World} {A B R G : Nat} {m n r o : Af.M} (h : Quad w A B R G m n r o w1) (v : Int) : Quad w A B R G m n r ⟨v, o.b, o.c, o.d, o.e, o.f⟩ (w1.drew.setCell ⟨G, 0, none⟩ (.int .i64 v)) := h.set (Six.s0 (w := w1.drew) h.own v)
theorem Quad.s1 {w w1 : World} {A B R G : Nat} {m n r o : Af.M} (h : Quad w A B R G m n r o w1) (v : Int) : Quad w A B R G m n r ⟨o.a, v, o.c, o.d, o.e, o.f⟩ (w1.drew.setCell ⟨G, 1, none⟩ (.int .i64 v)) := h.set (Six.s1 (w := w1.drew) h.own v)
theorem Quad.s2 {w w1 : World} {A B R G : Nat} {m n r o : Af.M} (h : Quad w A B R G m n r o w1) (v : Int) : Quad w A B R G m n r ⟨o.a, o.b, v, o.d, o.e, o.f⟩ (w1.drew.setCell ⟨G, 2, none⟩ (.int .i64 v)) := h.set (Six.s2 (w := w1.drew) h.own v)
theorem Quad.s3 {w w1 : World} {A B R G : Nat} {m n r o : Af.M} (h : Quad w A B R G m n r o w1) (v : Int) : Quad w A B R G m n r ⟨o.a, o.b, o.c, v, o.e, o.f⟩ (w1.drew.setCell ⟨G, 3, none⟩ (.int .i64 v)) := h.set (Six.s3 (w := w1.drew) h.own v)
theorem Quad.s4 {w w1 : World} {A B R G : Nat} {m n r o : Af.M} (h : Quad w A B R G m n r o w1) (v : Int) : Quad w A B R G m n r ⟨o.a, o.b, o.c, o.d, v, o.f⟩ (w1.drew.setCell ⟨G, 4, none⟩ (.int .i64 v)) := h.set (Six.s4 (w := w1.drew) h.own v)
theorem Quad.s5 {w w1 : World} {A B R G : Nat} {m n r o : Af.M} (h : Quad w A B R G m n r o w1) (v : Int) : Quad w A B R G m n r ⟨o.a, o.b, o.c, o.d, o.e, v⟩ (w1.drew.setCell ⟨G, 5, none⟩ (.int .i64 v)) := h.set (Six.s5 (w := w1.drew) h.own v)
theorem Quad.new {w w1 : World} {A B R : Nat} {m n r : Af.M} (h : Trio w A B R m n r w1) (o : Af.M) : Quad w A B R w1.heap.size m n r o (w1.alloc (.cells #[.int .i64 o.a, .int .i64 o.b, .int .i64 o.c, .int .i64 o.d, .int .i64 o.e, .int .i64 o.f] 28)) :=
  ⟨⟨h.one.alloc _, h.two.alloc _, h.res.alloc _, h.keeps.alloc _, h.low⟩, Six.new _ _ _, by have := h.one.lt; omega, by have := h.two.lt; omega, by have := h.res.lt; omega, h.keeps.size⟩
def Cnt2' (P0 P1 P2 : World → Prop) (c : Value) (w : World) : Prop := (c = .int .i64 0 ∧ P0 w) ∨ (c = .int .i64 1 ∧ P1 w) ∨ (c = .int .i64 2 ∧ P2 w)
set_option maxHeartbeats 800000 in
theorem docTimes_bad1 (m n : Af.M) (hm : ¬ m.ok) (w : World) : Calls Try.prog 14 #[.agg #[.int .i64 m.a, .int .i64 m.b, .int .i64 m.c, .int .i64 m.d, .int .i64 m.e, .int .i64 m.f], .agg #[.int .i64 n.a, .int .i64 n.b, .int .i64 n.c, .int .i64 n.d, .int .i64 n.e, .int .i64 n.f]] w (Told Af.zero 31 w) := by
  have T0 : Trio w w.heap.size (w.heap.size + 1) (w.heap.size + 1 + 1) m n Af.zero (((w.alloc (.cells #[.int .i64 m.a, .int .i64 m.b, .int .i64 m.c, .int .i64 m.d, .int .i64 m.e, .int .i64 m.f] 28)).alloc (.cells #[.int .i64 n.a, .int .i64 n.b, .int .i64 n.c, .int .i64 n.d, .int .i64 n.e, .int .i64 n.f] 28)).alloc (.cells #[.int .i64 0, .int .i64 0, .int .i64 0, .int .i64 0, .int .i64 0, .int .i64 0] 28)) := Trio.new w m n Af.zero
  have C := Lib.hid (fun w => docRight_no hm w)
  clear hm
  go_enter Try.func14, Try.ntmps14
  go_upto_region 1 with (fail)
  generalize ((w.alloc (.cells #[.int .i64 m.a, .int .i64 m.b, .int .i64 m.c, .int .i64 m.d, .int .i64 m.e, .int .i64 m.f] 28)).alloc (.cells #[.int .i64 n.a, .int .i64 n.b, .int .i64 n.c, .int .i64 n.d, .int .i64 n.e, .int .i64 n.f] 28)).alloc (.cells #[.int .i64 0, .int .i64 0, .int .i64 0, .int .i64 0, .int .i64 0, .int .i64 0] 28) = w1 at *
  obtain ⟨A, hA⟩ : ∃ A, A = w.heap.size := ⟨_, rfl⟩
  obtain ⟨B, hB⟩ : ∃ B, B = A + 1 := ⟨_, rfl⟩
  obtain ⟨R, hR⟩ : ∃ R, R = B + 1 := ⟨_, rfl⟩
  rw [← hA, ← hB, ← hR] at T0
  rw [← hA, ← hB, ← hR]
  clear hA hB hR
  have T := Lib.hid T0
  clear T0
  have c0 := T.out.one.c0
  have c1 := T.out.one.c1
  have c2 := T.out.one.c2
  have c3 := T.out.one.c3
  have c4 := T.out.one.c4
  have c5 := T.out.one.c5
  go_wp2_with fail
  refine (C.out _).mono ?_
  rintro e w2 ⟨rfl, hk⟩
  have T2 := Lib.hid (T.out.later hk)
  clear hk T c0 c1 c2 c3 c4 c5
  have k0 := T2.out.res.c0
  have k1 := T2.out.res.c1
  have k2 := T2.out.res.c2
  have k3 := T2.out.res.c3
  have k4 := T2.out.res.c4
  have k5 := T2.out.res.c5
  have f0 := T2.out.res.fr (i := 0)
  have f1 := T2.out.res.fr (i := 1)
  have f2 := T2.out.res.fr (i := 2)
  have f3 := T2.out.res.fr (i := 3)
  have f4 := T2.out.res.fr (i := 4)
  have f5 := T2.out.res.fr (i := 5)
  have X := Lib.hid (block_all T2.out.res Af.zero)
  have Y := Lib.hid (T2.out.keeps.all T2.out.low Af.zero)
  go_wp2_with fail
  refine bodyPost_ret (results_cell_row2 rfl _ _ R 28 #[.int .i64 0, .int .i64 0, .int .i64 0, .int .i64 0, .int .i64 0, .int .i64 0] (0, 0) _ rfl X.out Try.underlying28 rfl (by kernel_rfl)) rfl ?_
  exact ⟨rfl, Y.out⟩
set_option maxHeartbeats 800000 in
theorem docTimes_bad2 (m n : Af.M) (hm : m.ok) (hn : ¬ n.ok) (w : World) : Calls Try.prog 14 #[.agg #[.int .i64 m.a, .int .i64 m.b, .int .i64 m.c, .int .i64 m.d, .int .i64 m.e, .int .i64 m.f], .agg #[.int .i64 n.a, .int .i64 n.b, .int .i64 n.c, .int .i64 n.d, .int .i64 n.e, .int .i64 n.f]] w (Told Af.zero 31 w) := by
  have T0 : Trio w w.heap.size (w.heap.size + 1) (w.heap.size + 1 + 1) m n Af.zero (((w.alloc (.cells #[.int .i64 m.a, .int .i64 m.b, .int .i64 m.c, .int .i64 m.d, .int .i64 m.e, .int .i64 m.f] 28)).alloc (.cells #[.int .i64 n.a, .int .i64 n.b, .int .i64 n.c, .int .i64 n.d, .int .i64 n.e, .int .i64 n.f] 28)).alloc (.cells #[.int .i64 0, .int .i64 0, .int .i64 0, .int .i64 0, .int .i64 0, .int .i64 0] 28)) := Trio.new w m n Af.zero
  have C := Lib.hid (fun w => docRight_yes hm w)
  have D := Lib.hid (fun w => docRight_no hn w)
  clear hm hn
  go_enter Try.func14, Try.ntmps14
  go_upto_region 1 with (fail)
  generalize ((w.alloc (.cells #[.int .i64 m.a, .int .i64 m.b, .int .i64 m.c, .int .i64 m.d, .int .i64 m.e, .int .i64 m.f] 28)).alloc (.cells #[.int .i64 n.a, .int .i64 n.b, .int .i64 n.c, .int .i64 n.d, .int .i64 n.e, .int .i64 n.f] 28)).alloc (.cells #[.int .i64 0, .int .i64 0, .int .i64 0, .int .i64 0, .int .i64 0, .int .i64 0] 28) = w1 at *
  obtain ⟨A, hA⟩ : ∃ A, A = w.heap.size := ⟨_, rfl⟩
  obtain ⟨B, hB⟩ : ∃ B, B = A + 1 := ⟨_, rfl⟩
  obtain ⟨R, hR⟩ : ∃ R, R = B + 1 := ⟨_, rfl⟩
  rw [← hA, ← hB, ← hR] at T0
  rw [← hA, ← hB, ← hR]
  clear hA hB hR
  have T := Lib.hid T0
  clear T0
  have c0 := T.out.one.c0
  have c1 := T.out.one.c1
  have c2 := T.out.one.c2
  have c3 := T.out.one.c3
  have c4 := T.out.one.c4
  have c5 := T.out.one.c5
  go_wp2_with fail
  refine (C.out _).mono ?_
  rintro e w2 ⟨rfl, hk⟩
  have T2 := Lib.hid (T.out.later hk)
  clear hk T c0 c1 c2 c3 c4 c5
  have c0 := T2.out.two.c0
  have c1 := T2.out.two.c1
  have c2 := T2.out.two.c2
  have c3 := T2.out.two.c3
  have c4 := T2.out.two.c4
  have c5 := T2.out.two.c5
  go_wp2_with fail
  refine (D.out _).mono ?_
  rintro e w3 ⟨rfl, hk⟩
  have T3 := Lib.hid (T2.out.later hk)
  clear hk T2 c0 c1 c2 c3 c4 c5
  have k0 := T3.out.res.c0
  have k1 := T3.out.res.c1
  have k2 := T3.out.res.c2
  have k3 := T3.out.res.c3
  have k4 := T3.out.res.c4
  have k5 := T3.out.res.c5
  have f0 := T3.out.res.fr (i := 0)
  have f1 := T3.out.res.fr (i := 1)
  have f2 := T3.out.res.fr (i := 2)
  have f3 := T3.out.res.fr (i := 3)
  have f4 := T3.out.res.fr (i := 4)
  have f5 := T3.out.res.fr (i := 5)
  have X := Lib.hid (block_all T3.out.res Af.zero)
  have Y := Lib.hid (T3.out.keeps.all T3.out.low Af.zero)
  go_wp2_with fail
  refine bodyPost_ret (results_cell_row2 rfl _ _ R 28 #[.int .i64 0, .int .i64 0, .int .i64 0, .int .i64 0, .int .i64 0, .int .i64 0] (0, 0) _ rfl X.out Try.underlying28 rfl (by kernel_rfl)) rfl ?_
  exact ⟨rfl, Y.out⟩
end Go.Proofs.Ytfcndldobjpbnaa
