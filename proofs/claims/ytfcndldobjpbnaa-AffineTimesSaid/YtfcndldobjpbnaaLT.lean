/- AffineTimes: the walk. (printed by genLT.py) -/
import Derived.Test.YtfcndldobjpbnaaLA
import Derived.Test.YtfcndldobjpbnaaK
namespace Go.Proofs.Ytfcndldobjpbnaa
open Go.RowKit Go.Maps
set_option linter.unusedVariables false

theorem near_one (a b : Int) : Af.near (a * 65536 + b * 0) = a ∧ Af.near (a * 0 + b * 65536) = b ∧ Af.near (65536 * a + 0 * b) = a ∧ Af.near (0 * a + 65536 * b) = b := by unfold Af.near; omega
theorem times_one (m : Af.M) : m.times Af.one = m := by
  obtain ⟨a, b, c, d, e, f⟩ := m
  unfold Af.M.times Af.one Af.slopeU Af.slopeV Af.near
  simp only [Af.M.mk.injEq]
  omega
theorem one_times (m : Af.M) : Af.one.times m = m := by
  obtain ⟨a, b, c, d, e, f⟩ := m
  unfold Af.M.times Af.one Af.slopeU Af.slopeV Af.near
  simp only [Af.M.mk.injEq]
  omega
theorem one_ok : Af.one.ok := by decide
theorem timesE_one {m : Af.M} (h : m.ok) : Af.timesE m Af.one = (m, 0) := by unfold Af.timesE; rw [times_one]; simp [h, one_ok]
theorem one_timesE {m : Af.M} (h : m.ok) : Af.timesE Af.one m = (m, 0) := by unfold Af.timesE; rw [one_times]; simp [h, one_ok]
theorem keeps_cells {W W1 : World} (hb : Keeps none' W W1) : (∀ b o, b < W.heap.size → W1.cell? ⟨b, o, none⟩ = W.cell? ⟨b, o, none⟩) ∧ (∀ b o, b < W.heap.size → W1.frozen? ⟨b, o, none⟩ = W.frozen? ⟨b, o, none⟩) :=
  ⟨fun b o h => World.cell?_of_block (w := W) (hb.later b h), fun b o h => by simp only [World.frozen?]; rw [hb.later b h]⟩
/-- A block of noughts that was laid ahead of a call. -/
theorem zero_in {w w' : World} {G : Prop} (h : Six w' w.heap.size 23 Af.zero → Keeps none' (w.alloc (.cells #[.int .i64 0, .int .i64 0, .int .i64 0, .int .i64 0, .int .i64 0, .int .i64 0] 23)) w' → G) : Keeps none' (w.alloc (.cells #[.int .i64 0, .int .i64 0, .int .i64 0, .int .i64 0, .int .i64 0, .int .i64 0] 23)) w' → G := by
  intro k
  have := Six.new w 23 Af.zero
  exact h (Six.later (w := w.alloc (.cells #[.int .i64 0, .int .i64 0, .int .i64 0, .int .i64 0, .int .i64 0, .int .i64 0] 23)) this k) k
theorem zero_in' {w w' : World} {G : Prop} (h : Six w' w.heap.size 23 Af.zero → Keeps none' (w.alloc (.cells #[.int .i64 0, .int .i64 0, .int .i64 0, .int .i64 0, .int .i64 0, .int .i64 0] 23)).drew w' → G) : Keeps none' (w.alloc (.cells #[.int .i64 0, .int .i64 0, .int .i64 0, .int .i64 0, .int .i64 0, .int .i64 0] 23)).drew w' → G := by
  intro k
  have := Six.new w 23 Af.zero
  exact h (Six.later (w := (w.alloc (.cells #[.int .i64 0, .int .i64 0, .int .i64 0, .int .i64 0, .int .i64 0, .int .i64 0] 23)).drew) this k) k
/-- The map m in two blocks. -/
structure After (w : World) (A D : Nat) (m : Af.M) (w' : World) : Prop where
  one : Six w' A 23 m
  two : Six w' D 23 m
  keeps : Keeps none' w w'
theorem After.mk1 {w w9 : World} {A : Nat} {m : Af.M} (h : Six w9 A 23 m) (k : Keeps none' w w9) : After w A w9.heap.size m (w9.alloc (.cells #[.int .i64 m.a, .int .i64 m.b, .int .i64 m.c, .int .i64 m.d, .int .i64 m.e, .int .i64 m.f] 23)) := ⟨h.alloc _, Six.new _ _ _, k.alloc _⟩
theorem After.later {w w1 w2 : World} {A D : Nat} {m : Af.M} (h : After w A D m w1) (k : Keeps none' w1 w2) : After w A D m w2 := ⟨h.one.later k, h.two.later k, h.keeps.next k⟩
theorem After.alloc {w w1 : World} {A D : Nat} {m : Af.M} (h : After w A D m w1) (o : Obj) : After w A D m (w1.alloc o) := ⟨h.one.alloc _, h.two.alloc _, h.keeps.alloc _⟩
theorem After.mk3 {w w9 : World} {A D D2 : Nat} {m z : Af.M} (h : After w A D m w9) (h2 : Six w9 D2 23 z) (ha : A ≠ D2) (hb : D ≠ D2) (hd : w.heap.size ≤ D2) :
    After w A D m ((((((w9.setCell ⟨D2, 0, none⟩ (.int .i64 m.a)).setCell ⟨D2, 1, none⟩ (.int .i64 m.b)).setCell ⟨D2, 2, none⟩ (.int .i64 m.c)).setCell ⟨D2, 3, none⟩ (.int .i64 m.d)).setCell ⟨D2, 4, none⟩ (.int .i64 m.e)).setCell ⟨D2, 5, none⟩ (.int .i64 m.f)) ∧
    Six ((((((w9.setCell ⟨D2, 0, none⟩ (.int .i64 m.a)).setCell ⟨D2, 1, none⟩ (.int .i64 m.b)).setCell ⟨D2, 2, none⟩ (.int .i64 m.c)).setCell ⟨D2, 3, none⟩ (.int .i64 m.d)).setCell ⟨D2, 4, none⟩ (.int .i64 m.e)).setCell ⟨D2, 5, none⟩ (.int .i64 m.f)) D2 23 m :=
  ⟨⟨(((((h.one.set ha _).set ha _).set ha _).set ha _).set ha _).set ha _, (((((h.two.set hb _).set hb _).set hb _).set hb _).set hb _).set hb _, h.keeps.all hd m⟩, block_all h2 m⟩
theorem After.mk2 {w w9 : World} {A D : Nat} {m z : Af.M} (h : Six w9 A 23 m) (h2 : Six w9 D 23 z) (k : Keeps none' w w9) (ha : A ≠ D) (hd : w.heap.size ≤ D) :
    After w A D m ((((((w9.setCell ⟨D, 0, none⟩ (.int .i64 m.a)).setCell ⟨D, 1, none⟩ (.int .i64 m.b)).setCell ⟨D, 2, none⟩ (.int .i64 m.c)).setCell ⟨D, 3, none⟩ (.int .i64 m.d)).setCell ⟨D, 4, none⟩ (.int .i64 m.e)).setCell ⟨D, 5, none⟩ (.int .i64 m.f)) :=
  ⟨(((((h.set ha _).set ha _).set ha _).set ha _).set ha _).set ha _, block_all h2 m, k.all hd m⟩
set_option maxRecDepth 100000 in
set_option maxHeartbeats 6400000 in
theorem times_walk (m n : Af.M) (w : World) : Calls Try.prog 3 #[.agg #[.int .i64 m.a, .int .i64 m.b, .int .i64 m.c, .int .i64 m.d, .int .i64 m.e, .int .i64 m.f], .agg #[.int .i64 n.a, .int .i64 n.b, .int .i64 n.c, .int .i64 n.d, .int .i64 n.e, .int .i64 n.f]] w (Yes w) := by
  have F0 := Lib.hid ((Six.new w 23 m).alloc (.cells #[.int .i64 n.a, .int .i64 n.b, .int .i64 n.c, .int .i64 n.d, .int .i64 n.e, .int .i64 n.f] 23))
  have G0' := Six.new (w.alloc (.cells #[.int .i64 m.a, .int .i64 m.b, .int .i64 m.c, .int .i64 m.d, .int .i64 m.e, .int .i64 m.f] 23)) 23 n
  rw [show (w.alloc (.cells #[.int .i64 m.a, .int .i64 m.b, .int .i64 m.c, .int .i64 m.d, .int .i64 m.e, .int .i64 m.f] 23)).heap.size = w.heap.size + 1 by simp] at G0'
  have G0 := Lib.hid G0'
  clear G0'
  have K0 := Lib.hid (((Keeps.refl none' w).alloc (.cells #[.int .i64 m.a, .int .i64 m.b, .int .i64 m.c, .int .i64 m.d, .int .i64 m.e, .int .i64 m.f] 23)).alloc (.cells #[.int .i64 n.a, .int .i64 n.b, .int .i64 n.c, .int .i64 n.d, .int .i64 n.e, .int .i64 n.f] 23))
  have P := Lib.hid (fun w => times_any m n w)
  have D := Lib.hid (fun w => docTimes_any m n w)
  obtain ⟨q, hq⟩ : ∃ q, (Af.timesE m n).1 = q := ⟨_, rfl⟩
  obtain ⟨z, hz⟩ : ∃ z, (Af.timesE m n).2 = z := ⟨_, rfl⟩
  rw [hq, hz] at P D
  clear hq hz
  have EQ := fun w => eq23_self q w
  have EM := fun w => eq23_self m w
  have zz : (z == z) = true := by simp
  have zn : (z != z) = false := by simp
  go_enter Try.func3, Try.ntmps3
  go_upto_region 1 with (fail)
  generalize (w.alloc (.cells #[.int .i64 m.a, .int .i64 m.b, .int .i64 m.c, .int .i64 m.d, .int .i64 m.e, .int .i64 m.f] 23)).alloc (.cells #[.int .i64 n.a, .int .i64 n.b, .int .i64 n.c, .int .i64 n.d, .int .i64 n.e, .int .i64 n.f] 23) = w1 at *
  obtain ⟨A, hA⟩ : ∃ A, A = w.heap.size := ⟨_, rfl⟩
  obtain ⟨B, hB⟩ : ∃ B, B = A + 1 := ⟨_, rfl⟩
  rw [← hA] at F0
  rw [← hA, ← hB] at G0
  rw [← hA, ← hB]
  clear hA hB
  go_wp2_with fail
  refine (anchor_any _).mono ?_
  rintro e w2 ⟨rfl, hk⟩
  have F1 := Lib.hid (F0.out.later hk)
  have G1 := Lib.hid (G0.out.later hk)
  have K1 := Lib.hid (K0.out.next hk)
  clear hk F0 G0 K0
  have c0 := F1.out.c0
  have c1 := F1.out.c1
  have c2 := F1.out.c2
  have c3 := F1.out.c3
  have c4 := F1.out.c4
  have c5 := F1.out.c5
  have d0 := G1.out.c0
  have d1 := G1.out.c1
  have d2 := G1.out.c2
  have d3 := G1.out.c3
  have d4 := G1.out.c4
  have d5 := G1.out.c5
  go_wp2_with fail
  refine (P.out _).mono ?_
  rintro e w3 ⟨rfl, hk⟩
  have F2 := Lib.hid ((F1.out.later hk).alloc (.cells #[.int .i64 q.a, .int .i64 q.b, .int .i64 q.c, .int .i64 q.d, .int .i64 q.e, .int .i64 q.f] 23))
  have G2 := Lib.hid ((G1.out.later hk).alloc (.cells #[.int .i64 q.a, .int .i64 q.b, .int .i64 q.c, .int .i64 q.d, .int .i64 q.e, .int .i64 q.f] 23))
  have Q2 := Lib.hid (Six.new w3 23 q)
  have K2 := Lib.hid ((K1.out.next hk).alloc (.cells #[.int .i64 q.a, .int .i64 q.b, .int .i64 q.c, .int .i64 q.d, .int .i64 q.e, .int .i64 q.f] 23))
  clear hk F1 G1 K1 c0 c1 c2 c3 c4 c5 d0 d1 d2 d3 d4 d5
  go_upto_region 4 with (fail)
  generalize w3.alloc (.cells #[.int .i64 q.a, .int .i64 q.b, .int .i64 q.c, .int .i64 q.d, .int .i64 q.e, .int .i64 q.f] 23) = w4 at *
  generalize w3.heap.size = C at *
  have c0 := F2.out.c0
  have c1 := F2.out.c1
  have c2 := F2.out.c2
  have c3 := F2.out.c3
  have c4 := F2.out.c4
  have c5 := F2.out.c5
  have d0 := G2.out.c0
  have d1 := G2.out.c1
  have d2 := G2.out.c2
  have d3 := G2.out.c3
  have d4 := G2.out.c4
  have d5 := G2.out.c5
  go_wp2_with fail
  refine (D.out _).mono ?_
  rintro e w5 ⟨rfl, hk⟩
  have F3 := Lib.hid ((F2.out.later hk).alloc (.cells #[.int .i64 q.a, .int .i64 q.b, .int .i64 q.c, .int .i64 q.d, .int .i64 q.e, .int .i64 q.f] 28))
  have Q3 := Lib.hid ((Q2.out.later hk).alloc (.cells #[.int .i64 q.a, .int .i64 q.b, .int .i64 q.c, .int .i64 q.d, .int .i64 q.e, .int .i64 q.f] 28))
  have R3 := Lib.hid (Six.new w5 28 q)
  have K3 := Lib.hid ((K2.out.next hk).alloc (.cells #[.int .i64 q.a, .int .i64 q.b, .int .i64 q.c, .int .i64 q.d, .int .i64 q.e, .int .i64 q.f] 28))
  clear hk F2 G2 Q2 K2 c0 c1 c2 c3 c4 c5 d0 d1 d2 d3 d4 d5 P D
  go_upto_region 5 with (fail)
  generalize w5.alloc (.cells #[.int .i64 q.a, .int .i64 q.b, .int .i64 q.c, .int .i64 q.d, .int .i64 q.e, .int .i64 q.f] 28) = w6 at *
  generalize w5.heap.size = E at *
  have c0 := F3.out.c0
  have c1 := F3.out.c1
  have c2 := F3.out.c2
  have c3 := F3.out.c3
  have c4 := F3.out.c4
  have c5 := F3.out.c5
  have d0 := Q3.out.c0
  have d1 := Q3.out.c1
  have d2 := Q3.out.c2
  have d3 := Q3.out.c3
  have d4 := Q3.out.c4
  have d5 := Q3.out.c5
  have e0 := R3.out.c0
  have e1 := R3.out.c1
  have e2 := R3.out.c2
  have e3 := R3.out.c3
  have e4 := R3.out.c4
  have e5 := R3.out.c5
  have OW := Lib.hid (Keeps.refl none' w6)
  have OD := Lib.hid ((Keeps.refl none' w6).drew)
  obtain ⟨r, hr⟩ : ∃ r, decide m.ok = r := ⟨_, rfl⟩
  have rn : (r != r) = false := by simp
  have C1 : ∀ w', (w'.cell? ⟨A, 0, none⟩ = some (.int .i64 m.a) ∧ w'.cell? ⟨A, 1, none⟩ = some (.int .i64 m.b) ∧ w'.cell? ⟨A, 2, none⟩ = some (.int .i64 m.c) ∧ w'.cell? ⟨A, 3, none⟩ = some (.int .i64 m.d) ∧ w'.cell? ⟨A, 4, none⟩ = some (.int .i64 m.e) ∧ w'.cell? ⟨A, 5, none⟩ = some (.int .i64 m.f) ∧ w'.cell? ⟨C, 0, none⟩ = some (.int .i64 q.a) ∧ w'.cell? ⟨C, 1, none⟩ = some (.int .i64 q.b) ∧ w'.cell? ⟨C, 2, none⟩ = some (.int .i64 q.c) ∧ w'.cell? ⟨C, 3, none⟩ = some (.int .i64 q.d) ∧ w'.cell? ⟨C, 4, none⟩ = some (.int .i64 q.e) ∧ w'.cell? ⟨C, 5, none⟩ = some (.int .i64 q.f) ∧ w'.cell? ⟨E, 0, none⟩ = some (.int .i64 q.a) ∧ w'.cell? ⟨E, 1, none⟩ = some (.int .i64 q.b) ∧ w'.cell? ⟨E, 2, none⟩ = some (.int .i64 q.c) ∧ w'.cell? ⟨E, 3, none⟩ = some (.int .i64 q.d) ∧ w'.cell? ⟨E, 4, none⟩ = some (.int .i64 q.e) ∧ w'.cell? ⟨E, 5, none⟩ = some (.int .i64 q.f) ∧ Keeps none' w6 w') → Calls Try.prog 15 #[.agg #[.int .i64 m.a, .int .i64 m.b, .int .i64 m.c, .int .i64 m.d, .int .i64 m.e, .int .i64 m.f]] w' fun e w'' => e = .returned (.bool r) ∧ w''.cell? ⟨A, 0, none⟩ = some (.int .i64 m.a) ∧ w''.cell? ⟨A, 1, none⟩ = some (.int .i64 m.b) ∧ w''.cell? ⟨A, 2, none⟩ = some (.int .i64 m.c) ∧ w''.cell? ⟨A, 3, none⟩ = some (.int .i64 m.d) ∧ w''.cell? ⟨A, 4, none⟩ = some (.int .i64 m.e) ∧ w''.cell? ⟨A, 5, none⟩ = some (.int .i64 m.f) ∧ w''.cell? ⟨C, 0, none⟩ = some (.int .i64 q.a) ∧ w''.cell? ⟨C, 1, none⟩ = some (.int .i64 q.b) ∧ w''.cell? ⟨C, 2, none⟩ = some (.int .i64 q.c) ∧ w''.cell? ⟨C, 3, none⟩ = some (.int .i64 q.d) ∧ w''.cell? ⟨C, 4, none⟩ = some (.int .i64 q.e) ∧ w''.cell? ⟨C, 5, none⟩ = some (.int .i64 q.f) ∧ w''.cell? ⟨E, 0, none⟩ = some (.int .i64 q.a) ∧ w''.cell? ⟨E, 1, none⟩ = some (.int .i64 q.b) ∧ w''.cell? ⟨E, 2, none⟩ = some (.int .i64 q.c) ∧ w''.cell? ⟨E, 3, none⟩ = some (.int .i64 q.d) ∧ w''.cell? ⟨E, 4, none⟩ = some (.int .i64 q.e) ∧ w''.cell? ⟨E, 5, none⟩ = some (.int .i64 q.f) ∧ Keeps none' w6 w'' := by
    rintro w' ⟨h0, h1, h2, h3, h4, h5, h6, h7, h8, h9, h10, h11, h12, h13, h14, h15, h16, h17, h18⟩
    refine (right_any m w').mono ?_
    rintro e w'' ⟨h, hk⟩
    have k := keeps_alloc hk
    exact ⟨by rw [h, hr], k.cell h0, k.cell h1, k.cell h2, k.cell h3, k.cell h4, k.cell h5, k.cell h6, k.cell h7, k.cell h8, k.cell h9, k.cell h10, k.cell h11, k.cell h12, k.cell h13, k.cell h14, k.cell h15, k.cell h16, k.cell h17, h18.next k⟩
  have C2 : ∀ w', (w'.cell? ⟨A, 0, none⟩ = some (.int .i64 m.a) ∧ w'.cell? ⟨A, 1, none⟩ = some (.int .i64 m.b) ∧ w'.cell? ⟨A, 2, none⟩ = some (.int .i64 m.c) ∧ w'.cell? ⟨A, 3, none⟩ = some (.int .i64 m.d) ∧ w'.cell? ⟨A, 4, none⟩ = some (.int .i64 m.e) ∧ w'.cell? ⟨A, 5, none⟩ = some (.int .i64 m.f) ∧ w'.cell? ⟨C, 0, none⟩ = some (.int .i64 q.a) ∧ w'.cell? ⟨C, 1, none⟩ = some (.int .i64 q.b) ∧ w'.cell? ⟨C, 2, none⟩ = some (.int .i64 q.c) ∧ w'.cell? ⟨C, 3, none⟩ = some (.int .i64 q.d) ∧ w'.cell? ⟨C, 4, none⟩ = some (.int .i64 q.e) ∧ w'.cell? ⟨C, 5, none⟩ = some (.int .i64 q.f) ∧ w'.cell? ⟨E, 0, none⟩ = some (.int .i64 q.a) ∧ w'.cell? ⟨E, 1, none⟩ = some (.int .i64 q.b) ∧ w'.cell? ⟨E, 2, none⟩ = some (.int .i64 q.c) ∧ w'.cell? ⟨E, 3, none⟩ = some (.int .i64 q.d) ∧ w'.cell? ⟨E, 4, none⟩ = some (.int .i64 q.e) ∧ w'.cell? ⟨E, 5, none⟩ = some (.int .i64 q.f) ∧ Keeps none' w6 w') → Calls Try.prog 16 #[.agg #[.int .i64 m.a, .int .i64 m.b, .int .i64 m.c, .int .i64 m.d, .int .i64 m.e, .int .i64 m.f]] w' fun e w'' => e = .returned (.bool r) ∧ w''.cell? ⟨A, 0, none⟩ = some (.int .i64 m.a) ∧ w''.cell? ⟨A, 1, none⟩ = some (.int .i64 m.b) ∧ w''.cell? ⟨A, 2, none⟩ = some (.int .i64 m.c) ∧ w''.cell? ⟨A, 3, none⟩ = some (.int .i64 m.d) ∧ w''.cell? ⟨A, 4, none⟩ = some (.int .i64 m.e) ∧ w''.cell? ⟨A, 5, none⟩ = some (.int .i64 m.f) ∧ w''.cell? ⟨C, 0, none⟩ = some (.int .i64 q.a) ∧ w''.cell? ⟨C, 1, none⟩ = some (.int .i64 q.b) ∧ w''.cell? ⟨C, 2, none⟩ = some (.int .i64 q.c) ∧ w''.cell? ⟨C, 3, none⟩ = some (.int .i64 q.d) ∧ w''.cell? ⟨C, 4, none⟩ = some (.int .i64 q.e) ∧ w''.cell? ⟨C, 5, none⟩ = some (.int .i64 q.f) ∧ w''.cell? ⟨E, 0, none⟩ = some (.int .i64 q.a) ∧ w''.cell? ⟨E, 1, none⟩ = some (.int .i64 q.b) ∧ w''.cell? ⟨E, 2, none⟩ = some (.int .i64 q.c) ∧ w''.cell? ⟨E, 3, none⟩ = some (.int .i64 q.d) ∧ w''.cell? ⟨E, 4, none⟩ = some (.int .i64 q.e) ∧ w''.cell? ⟨E, 5, none⟩ = some (.int .i64 q.f) ∧ Keeps none' w6 w'' := by
    rintro w' ⟨h0, h1, h2, h3, h4, h5, h6, h7, h8, h9, h10, h11, h12, h13, h14, h15, h16, h17, h18⟩
    refine (docRight_any m w').mono ?_
    rintro e w'' ⟨h, hk⟩
    have k := keeps_alloc hk
    exact ⟨by rw [h, hr], k.cell h0, k.cell h1, k.cell h2, k.cell h3, k.cell h4, k.cell h5, k.cell h6, k.cell h7, k.cell h8, k.cell h9, k.cell h10, k.cell h11, k.cell h12, k.cell h13, k.cell h14, k.cell h15, k.cell h16, k.cell h17, h18.next k⟩
  have CALL1 := Lib.hid C1
  have CALL2 := Lib.hid C2
  have HR := Lib.hid hr
  clear C1 C2 hr
  go_region_held3 (fun w' => w'.cell? ⟨A, 0, none⟩ = some (.int .i64 m.a) ∧ w'.cell? ⟨A, 1, none⟩ = some (.int .i64 m.b) ∧ w'.cell? ⟨A, 2, none⟩ = some (.int .i64 m.c) ∧ w'.cell? ⟨A, 3, none⟩ = some (.int .i64 m.d) ∧ w'.cell? ⟨A, 4, none⟩ = some (.int .i64 m.e) ∧ w'.cell? ⟨A, 5, none⟩ = some (.int .i64 m.f) ∧ w'.cell? ⟨C, 0, none⟩ = some (.int .i64 q.a) ∧ w'.cell? ⟨C, 1, none⟩ = some (.int .i64 q.b) ∧ w'.cell? ⟨C, 2, none⟩ = some (.int .i64 q.c) ∧ w'.cell? ⟨C, 3, none⟩ = some (.int .i64 q.d) ∧ w'.cell? ⟨C, 4, none⟩ = some (.int .i64 q.e) ∧ w'.cell? ⟨C, 5, none⟩ = some (.int .i64 q.f) ∧ w'.cell? ⟨E, 0, none⟩ = some (.int .i64 q.a) ∧ w'.cell? ⟨E, 1, none⟩ = some (.int .i64 q.b) ∧ w'.cell? ⟨E, 2, none⟩ = some (.int .i64 q.c) ∧ w'.cell? ⟨E, 3, none⟩ = some (.int .i64 q.d) ∧ w'.cell? ⟨E, 4, none⟩ = some (.int .i64 q.e) ∧ w'.cell? ⟨E, 5, none⟩ = some (.int .i64 q.f) ∧ Keeps none' w6 w') (first | exact ⟨c0, c1, c2, c3, c4, c5, d0, d1, d2, d3, d4, d5, e0, e1, e2, e3, e4, e5, OW.out⟩ | exact ⟨c0, c1, c2, c3, c4, c5, d0, d1, d2, d3, d4, d5, e0, e1, e2, e3, e4, e5, OD.out⟩ | (refine ⟨‹_›, ‹_›, ‹_›, ‹_›, ‹_›, ‹_›, ‹_›, ‹_›, ‹_›, ‹_›, ‹_›, ‹_›, ‹_›, ‹_›, ‹_›, ‹_›, ‹_›, ‹_›, ‹_›⟩) | go_keep)
    (first | (go_at_call 15; refine (CALL1.out _ ⟨‹_›, ‹_›, ‹_›, ‹_›, ‹_›, ‹_›, ‹_›, ‹_›, ‹_›, ‹_›, ‹_›, ‹_›, ‹_›, ‹_›, ‹_›, ‹_›, ‹_›, ‹_›, ‹_›⟩).mono ?_; rintro e w' ⟨rfl, k0, k1, k2, k3, k4, k5, k6, k7, k8, k9, k10, k11, k12, k13, k14, k15, k16, k17, k18⟩) | (go_at_call 16; refine (CALL2.out _ ⟨‹_›, ‹_›, ‹_›, ‹_›, ‹_›, ‹_›, ‹_›, ‹_›, ‹_›, ‹_›, ‹_›, ‹_›, ‹_›, ‹_›, ‹_›, ‹_›, ‹_›, ‹_›, ‹_›⟩).mono ?_; rintro e w' ⟨rfl, k0, k1, k2, k3, k4, k5, k6, k7, k8, k9, k10, k11, k12, k13, k14, k15, k16, k17, k18⟩))
  obtain ⟨w7, hw7⟩ : ∃ w7, w7 = w' := ⟨_, rfl⟩
  have F4 := Lib.hid (F3.out.later k18)
  have K4 := Lib.hid (K3.out.next k18)
  clear CALL1 CALL2 OW OD c0 c1 c2 c3 c4 c5 d0 d1 d2 d3 d4 d5 e0 e1 e2 e3 e4 e5 F3 Q3 R3 K3 rn EQ zz zn
  rename_i hHeld
  clear hHeld k0 k1 k2 k3 k4 k5 k6 k7 k8 k9 k10 k11 k12 k13 k14 k15 k16 k17 k18
  rw [← hw7] at F4 K4
  rw [← hw7]
  clear hw7
  have c0 := F4.out.c0
  have c1 := F4.out.c1
  have c2 := F4.out.c2
  have c3 := F4.out.c3
  have c4 := F4.out.c4
  have c5 := F4.out.c5
  cases r with
  | false =>
    have hno : ¬ m.ok := of_decide_eq_false HR.out
    have RN := Lib.hid (fun w => right_no hno w)
    clear hno
    go_wp2_with fail
    refine (RN.out _).mono ?_
    rintro e w8 ⟨rfl, hk⟩
    have K5 := Lib.hid (K4.out.next hk)
    clear hk K4 F4 c0 c1 c2 c3 c4 c5
    go_wp2_with fail
    go_ret
    exact ⟨rfl, K5.out⟩
  | true =>
    have hyes : m.ok := of_decide_eq_true HR.out
    have RN := Lib.hid (fun w => right_yes hyes w)
    have T1 := Lib.hid (show ∀ w, Calls Try.prog 13 #[.agg #[.int .i64 m.a, .int .i64 m.b, .int .i64 m.c, .int .i64 m.d, .int .i64 m.e, .int .i64 m.f], .agg #[.int .i64 65536, .int .i64 0, .int .i64 0, .int .i64 65536, .int .i64 0, .int .i64 0]] w (Told m 0 w) from fun w => by have := times_any m Af.one w; rw [timesE_one hyes] at this; exact this)
    have T2 := Lib.hid (show ∀ w, Calls Try.prog 13 #[.agg #[.int .i64 65536, .int .i64 0, .int .i64 0, .int .i64 65536, .int .i64 0, .int .i64 0], .agg #[.int .i64 m.a, .int .i64 m.b, .int .i64 m.c, .int .i64 m.d, .int .i64 m.e, .int .i64 m.f]] w (Told m 0 w) from fun w => by have := times_any Af.one m w; rw [one_timesE hyes] at this; exact this)
    clear hyes
    go_wp2_with fail
    refine (RN.out _).mono ?_
    rintro e w8 ⟨rfl, hk⟩
    have F5 := Lib.hid (F4.out.later hk)
    have K5 := Lib.hid (K4.out.next hk)
    clear hk K4 F4 c0 c1 c2 c3 c4 c5 RN
    have c0 := F5.out.c0
    have c1 := F5.out.c1
    have c2 := F5.out.c2
    have c3 := F5.out.c3
    have c4 := F5.out.c4
    have c5 := F5.out.c5
    go_upto_region 9 with (fail)
    have AL := Lib.hid (show A < w8.heap.size ∧ w.heap.size ≤ w8.heap.size from ⟨F5.out.lt, K5.out.size⟩)
    go_cut [9, 10] from 45 (fun s9 s10 w' => ∃ D : Nat, s9 = .pointer (some ⟨D, 0, none⟩) ∧ s10 = .int .i64 0 ∧ After w A D m w')
    case first =>
      have HF := Lib.hid (And.intro (show Six w8.drew A 23 m from F5.out) (show Six (w8.alloc (.cells #[.int .i64 0, .int .i64 0, .int .i64 0, .int .i64 0, .int .i64 0, .int .i64 0] 23)).drew A 23 m from F5.out.alloc _))
      have HK := Lib.hid (And.intro (show Keeps none' w w8.drew from K5.out.drew) (show Keeps none' w (w8.alloc (.cells #[.int .i64 0, .int .i64 0, .int .i64 0, .int .i64 0, .int .i64 0, .int .i64 0] 23)).drew from (K5.out.alloc _).drew))
      have e0 := (F5.out.alloc (.cells #[.int .i64 0, .int .i64 0, .int .i64 0, .int .i64 0, .int .i64 0, .int .i64 0] 23)).c0
      have e1 := (F5.out.alloc (.cells #[.int .i64 0, .int .i64 0, .int .i64 0, .int .i64 0, .int .i64 0, .int .i64 0] 23)).c1
      have e2 := (F5.out.alloc (.cells #[.int .i64 0, .int .i64 0, .int .i64 0, .int .i64 0, .int .i64 0, .int .i64 0] 23)).c2
      have e3 := (F5.out.alloc (.cells #[.int .i64 0, .int .i64 0, .int .i64 0, .int .i64 0, .int .i64 0, .int .i64 0] 23)).c3
      have e4 := (F5.out.alloc (.cells #[.int .i64 0, .int .i64 0, .int .i64 0, .int .i64 0, .int .i64 0, .int .i64 0] 23)).c4
      have e5 := (F5.out.alloc (.cells #[.int .i64 0, .int .i64 0, .int .i64 0, .int .i64 0, .int .i64 0, .int .i64 0] 23)).c5
      go_region_law (first
        | (go_simp; (with_reducible refine (one_any _).mono ?_); rintro e w7 ⟨rfl, hk⟩; have FF := Lib.hid (show Six w7 A 23 m from by first | (with_reducible exact HF.out.1.later hk) | (with_reducible exact HF.out.2.later hk)); have KK := Lib.hid (show Keeps none' w w7 from by first | (with_reducible exact HK.out.1.next hk) | (with_reducible exact HK.out.2.next hk)); have HA := Lib.hid (FF.out.alloc (.cells #[.int .i64 0, .int .i64 0, .int .i64 0, .int .i64 0, .int .i64 0, .int .i64 0] 23)); have HB := Lib.hid (KK.out.alloc (.cells #[.int .i64 0, .int .i64 0, .int .i64 0, .int .i64 0, .int .i64 0, .int .i64 0] 23)); have b0 := FF.out.c0; have b1 := FF.out.c1; have b2 := FF.out.c2; have b3 := FF.out.c3; have b4 := FF.out.c4; have b5 := FF.out.c5; have a0 := HA.out.c0; have a1 := HA.out.c1; have a2 := HA.out.c2; have a3 := HA.out.c3; have a4 := HA.out.c4; have a5 := HA.out.c5; (first | (revert hk; (with_reducible refine zero_in' ?_); intro ZB hk) | skip))
        | (go_simp; (with_reducible refine (T1.out _).mono ?_); rintro e w9 ⟨rfl, hk⟩; have FG := Lib.hid (show Six w9 A 23 m from by first | (with_reducible exact FF.out.later hk) | (with_reducible exact HA.out.later hk)); have KG := Lib.hid (show Keeps none' w w9 from by first | (with_reducible exact KK.out.next hk) | (with_reducible exact HB.out.next hk)); (first | (revert hk; (with_reducible refine zero_in ?_); intro ZB hk; have zc0 := ZB.c0; have zc1 := ZB.c1; have zc2 := ZB.c2; have zc3 := ZB.c3; have zc4 := ZB.c4; have zc5 := ZB.c5; have zf0 := ZB.fr (i := 0); have zf1 := ZB.fr (i := 1); have zf2 := ZB.fr (i := 2); have zf3 := ZB.fr (i := 3); have zf4 := ZB.fr (i := 4); have zf5 := ZB.fr (i := 5)) | ((with_reducible have ZB := Six.later ZB hk); have zc0 := ZB.c0; have zc1 := ZB.c1; have zc2 := ZB.c2; have zc3 := ZB.c3; have zc4 := ZB.c4; have zc5 := ZB.c5; have zf0 := ZB.fr (i := 0); have zf1 := ZB.fr (i := 1); have zf2 := ZB.fr (i := 2); have zf3 := ZB.fr (i := 3); have zf4 := ZB.fr (i := 4); have zf5 := ZB.fr (i := 5)) | skip)))
      all_goals
        have X1 := Lib.hid (After.mk1 FG.out KG.out)
        first
          | (have X2 := Lib.hid (After.mk2 FG.out ZB KG.out (by have := FF.out.lt; omega) (by have := KK.out.size; omega)))
          | (have X2 := Lib.hid (After.mk2 FG.out ZB KG.out (by have := AL.out; omega) (by have := AL.out; omega)))
          | (have X2 := Lib.hid trivial)
        clear FG KG FF KK HA HB HF HK e0 e1 e2 e3 e4 e5 b0 b1 b2 b3 b4 b5 a0 a1 a2 a3 a4 a5 c0 c1 c2 c3 c4 c5 T1 T2

        go_wp2_with fail
        go_meet
        case rel => refine ⟨_, rfl, rfl, ?_⟩; first | (with_reducible exact X1.out) | (with_reducible exact X2.out)
    case rest =>
      obtain ⟨D, rfl, rfl, hA⟩ := hcut
      obtain ⟨wq, rfl⟩ : ∃ wq : World, wq = wc := ⟨_, rfl⟩
      have AF := Lib.hid hA
      clear hA
      clear AL
      have AL := Lib.hid (show A < wq.heap.size ∧ D < wq.heap.size ∧ w.heap.size ≤ wq.heap.size from ⟨AF.out.one.lt, AF.out.two.lt, AF.out.keeps.size⟩)
      go_upto_region 10 with (fail)
      go_cut [11, 12] from 51 (fun s11 s12 w' => ∃ D2 : Nat, s11 = .pointer (some ⟨D2, 0, none⟩) ∧ s12 = .int .i64 0 ∧ After w A D m w' ∧ Six w' D2 23 m)
      case first =>
        have HF := Lib.hid (And.intro (show After w A D m wq.drew from ⟨AF.out.one, AF.out.two, AF.out.keeps.drew⟩) (show After w A D m (wq.alloc (.cells #[.int .i64 0, .int .i64 0, .int .i64 0, .int .i64 0, .int .i64 0, .int .i64 0] 23)).drew from ⟨AF.out.one.alloc _, AF.out.two.alloc _, (AF.out.keeps.alloc _).drew⟩))
        have e0 := (AF.out.one.alloc (.cells #[.int .i64 0, .int .i64 0, .int .i64 0, .int .i64 0, .int .i64 0, .int .i64 0] 23)).c0
        have e1 := (AF.out.one.alloc (.cells #[.int .i64 0, .int .i64 0, .int .i64 0, .int .i64 0, .int .i64 0, .int .i64 0] 23)).c1
        have e2 := (AF.out.one.alloc (.cells #[.int .i64 0, .int .i64 0, .int .i64 0, .int .i64 0, .int .i64 0, .int .i64 0] 23)).c2
        have e3 := (AF.out.one.alloc (.cells #[.int .i64 0, .int .i64 0, .int .i64 0, .int .i64 0, .int .i64 0, .int .i64 0] 23)).c3
        have e4 := (AF.out.one.alloc (.cells #[.int .i64 0, .int .i64 0, .int .i64 0, .int .i64 0, .int .i64 0, .int .i64 0] 23)).c4
        have e5 := (AF.out.one.alloc (.cells #[.int .i64 0, .int .i64 0, .int .i64 0, .int .i64 0, .int .i64 0, .int .i64 0] 23)).c5
        have c0 := AF.out.one.c0
        have c1 := AF.out.one.c1
        have c2 := AF.out.one.c2
        have c3 := AF.out.one.c3
        have c4 := AF.out.one.c4
        have c5 := AF.out.one.c5
        go_region_law (first
          | (go_simp; (with_reducible refine (one_any _).mono ?_); rintro e w7 ⟨rfl, hk⟩; have FF := Lib.hid (show After w A D m w7 from by first | (with_reducible exact HF.out.1.later hk) | (with_reducible exact HF.out.2.later hk)); have HA := Lib.hid (FF.out.alloc (.cells #[.int .i64 0, .int .i64 0, .int .i64 0, .int .i64 0, .int .i64 0, .int .i64 0] 23)); have b0 := FF.out.one.c0; have b1 := FF.out.one.c1; have b2 := FF.out.one.c2; have b3 := FF.out.one.c3; have b4 := FF.out.one.c4; have b5 := FF.out.one.c5; have a0 := HA.out.one.c0; have a1 := HA.out.one.c1; have a2 := HA.out.one.c2; have a3 := HA.out.one.c3; have a4 := HA.out.one.c4; have a5 := HA.out.one.c5; (first | (revert hk; (with_reducible refine zero_in' ?_); intro ZB hk) | skip))
          | (go_simp; (with_reducible refine (T2.out _).mono ?_); rintro e w9 ⟨rfl, hk⟩; have FG := Lib.hid (show After w A D m w9 from by first | (with_reducible exact FF.out.later hk) | (with_reducible exact HA.out.later hk)); (first | (revert hk; (with_reducible refine zero_in ?_); intro ZB hk; have zc0 := ZB.c0; have zc1 := ZB.c1; have zc2 := ZB.c2; have zc3 := ZB.c3; have zc4 := ZB.c4; have zc5 := ZB.c5; have zf0 := ZB.fr (i := 0); have zf1 := ZB.fr (i := 1); have zf2 := ZB.fr (i := 2); have zf3 := ZB.fr (i := 3); have zf4 := ZB.fr (i := 4); have zf5 := ZB.fr (i := 5)) | ((with_reducible have ZB := Six.later ZB hk); have zc0 := ZB.c0; have zc1 := ZB.c1; have zc2 := ZB.c2; have zc3 := ZB.c3; have zc4 := ZB.c4; have zc5 := ZB.c5; have zf0 := ZB.fr (i := 0); have zf1 := ZB.fr (i := 1); have zf2 := ZB.fr (i := 2); have zf3 := ZB.fr (i := 3); have zf4 := ZB.fr (i := 4); have zf5 := ZB.fr (i := 5)) | skip)))
        all_goals
          have X1 := Lib.hid (And.intro (FG.out.alloc (.cells #[.int .i64 m.a, .int .i64 m.b, .int .i64 m.c, .int .i64 m.d, .int .i64 m.e, .int .i64 m.f] 23)) (Six.new w9 23 m))
          first
            | (have X2 := Lib.hid (After.mk3 FG.out ZB (by have := FF.out.one.lt; omega) (by have := FF.out.two.lt; omega) (by have := FF.out.keeps.size; omega)))
            | (have X2 := Lib.hid (After.mk3 FG.out ZB (by have := AL.out; omega) (by have := AL.out; omega) (by have := AL.out; omega)))
            | (have X2 := Lib.hid trivial)
          clear FG FF HA HF e0 e1 e2 e3 e4 e5 b0 b1 b2 b3 b4 b5 a0 a1 a2 a3 a4 a5 c0 c1 c2 c3 c4 c5 T1 T2
          go_wp2_with fail
          go_meet
          case rel => refine ⟨_, rfl, rfl, ?_⟩; first | (with_reducible exact X1.out) | (with_reducible exact X2.out)
      case rest =>
        obtain ⟨D2, rfl, rfl, hA⟩ := hcut
        have AG := Lib.hid hA
        clear hA AF AL T1 T2
        have c0 := AG.out.1.one.c0
        have c1 := AG.out.1.one.c1
        have c2 := AG.out.1.one.c2
        have c3 := AG.out.1.one.c3
        have c4 := AG.out.1.one.c4
        have c5 := AG.out.1.one.c5
        have d0 := AG.out.1.two.c0
        have d1 := AG.out.1.two.c1
        have d2 := AG.out.1.two.c2
        have d3 := AG.out.1.two.c3
        have d4 := AG.out.1.two.c4
        have d5 := AG.out.1.two.c5
        have e0 := AG.out.2.c0
        have e1 := AG.out.2.c1
        have e2 := AG.out.2.c2
        have e3 := AG.out.2.c3
        have e4 := AG.out.2.c4
        have e5 := AG.out.2.c5
        go_wp2_with fail
        go_ret
        exact ⟨rfl, AG.out.1.keeps⟩
end Go.Proofs.Ytfcndldobjpbnaa
