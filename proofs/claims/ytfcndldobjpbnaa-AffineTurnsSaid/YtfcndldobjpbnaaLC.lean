/- AffineTurns: turns by quarters, mirrors, moves. (printed by genLC.py) -/
import Derived.Test.YtfcndldobjpbnaaLA
namespace Go.Proofs.Ytfcndldobjpbnaa
open Go.RowKit Go.Maps
set_option linter.unusedVariables false

namespace Af
def quarter : M := ⟨0, -65536, 65536, 0, 0, 0⟩
def turn (s : Bool) : Nat → M
  | 0 => if s then ⟨-65536, 0, 0, 65536, 0, 0⟩ else one
  | k + 1 => quarter.times (turn s k)
theorem turn_next : ∀ (s : Bool) (k : Nat), k ≤ 8 → timesE quarter (turn s k) = (turn s (k + 1), 0)
  | true, 0, _ => by decide +kernel
  | true, 1, _ => by decide +kernel
  | true, 2, _ => by decide +kernel
  | true, 3, _ => by decide +kernel
  | true, 4, _ => by decide +kernel
  | true, 5, _ => by decide +kernel
  | true, 6, _ => by decide +kernel
  | true, 7, _ => by decide +kernel
  | true, 8, _ => by decide +kernel
  | false, 0, _ => by decide +kernel
  | false, 1, _ => by decide +kernel
  | false, 2, _ => by decide +kernel
  | false, 3, _ => by decide +kernel
  | false, 4, _ => by decide +kernel
  | false, 5, _ => by decide +kernel
  | false, 6, _ => by decide +kernel
  | false, 7, _ => by decide +kernel
  | false, 8, _ => by decide +kernel
  | _, k + 9, h => absurd h (by omega)
/-- The slopes of a turn. -/
def Unit (a b c d : Int) : Prop := (b = 0 ∧ c = 0 ∧ (a = 65536 ∨ a = -65536) ∧ (d = 65536 ∨ d = -65536)) ∨ (a = 0 ∧ d = 0 ∧ (b = 65536 ∨ b = -65536) ∧ (c = 65536 ∨ c = -65536))
instance (a b c d : Int) : Decidable (Unit a b c d) := inferInstanceAs (Decidable (_ ∨ _))
theorem turn_unit : ∀ (s : Bool) (k : Nat), k ≤ 9 → Unit (turn s k).a (turn s k).b (turn s k).c (turn s k).d
  | true, 0, _ => by decide +kernel
  | true, 1, _ => by decide +kernel
  | true, 2, _ => by decide +kernel
  | true, 3, _ => by decide +kernel
  | true, 4, _ => by decide +kernel
  | true, 5, _ => by decide +kernel
  | true, 6, _ => by decide +kernel
  | true, 7, _ => by decide +kernel
  | true, 8, _ => by decide +kernel
  | true, 9, _ => by decide +kernel
  | false, 0, _ => by decide +kernel
  | false, 1, _ => by decide +kernel
  | false, 2, _ => by decide +kernel
  | false, 3, _ => by decide +kernel
  | false, 4, _ => by decide +kernel
  | false, 5, _ => by decide +kernel
  | false, 6, _ => by decide +kernel
  | false, 7, _ => by decide +kernel
  | false, 8, _ => by decide +kernel
  | false, 9, _ => by decide +kernel
  | _, k + 10, h => absurd h (by omega)
theorem unit_back4 {a b c d e f : Int} (h : Unit a b c d) : M.back4 ⟨a, b, c, d, e, f⟩ = ⟨a, c, b, d, 0, 0⟩ := by
  show (⟨round (d * 4294967296) (a * d - b * c), round (-b * 4294967296) (a * d - b * c), round (-c * 4294967296) (a * d - b * c), round (a * 4294967296) (a * d - b * c), 0, 0⟩ : M) = _
  rcases h with ⟨rfl, rfl, rfl | rfl, rfl | rfl⟩ | ⟨rfl, rfl, rfl | rfl, rfl | rfl⟩ <;> decide +kernel
def shifted (a b c d x y : Int) : M := ⟨a, b, c, d, 65536 * x, 65536 * y⟩
def unshift (a b c d x y : Int) : M := ⟨a, c, b, d, -(a * x + c * y), -(b * x + d * y)⟩
theorem unit_back {a b c d x y : Int} (h : Unit a b c d) : (shifted a b c d x y).back = unshift a b c d x y := by
  show { (shifted a b c d x y).back4 with e := near (-(slopeU (shifted a b c d x y).back4 (65536 * x) (65536 * y))), f := near (-(slopeV (shifted a b c d x y).back4 (65536 * x) (65536 * y))) } = _
  rw [show (shifted a b c d x y).back4 = _ from unit_back4 h]
  unfold unshift slopeU slopeV near
  simp only [M.mk.injEq, true_and]
  rcases h with ⟨rfl, rfl, rfl | rfl, rfl | rfl⟩ | ⟨rfl, rfl, rfl | rfl, rfl | rfl⟩ <;> omega
theorem unit_ok {a b c d x y : Int} (h : Unit a b c d) (hx : -32768 ≤ x ∧ x ≤ 32768) (hy : -32768 ≤ y ∧ y ≤ 32768) : (shifted a b c d x y).ok ∧ (unshift a b c d x y).ok ∧ (shifted a b c d x y).area ≠ 0 := by
  unfold shifted unshift M.ok M.area Slope Shift Up
  simp only
  rcases h with ⟨rfl, rfl, rfl | rfl, rfl | rfl⟩ | ⟨rfl, rfl, rfl | rfl, rfl | rfl⟩ <;> (refine ⟨?_, ?_, ?_⟩ <;> omega)
theorem unit_times {a b c d x y : Int} (h : Unit a b c d) : (shifted a b c d x y).times (unshift a b c d x y) = one ∧ (unshift a b c d x y).times (shifted a b c d x y) = one := by
  unfold shifted unshift M.times one slopeU slopeV near
  simp only [M.mk.injEq]
  rcases h with ⟨rfl, rfl, rfl | rfl, rfl | rfl⟩ | ⟨rfl, rfl, rfl | rfl, rfl | rfl⟩ <;> (refine ⟨⟨?_, ?_, ?_, ?_, ?_, ?_⟩, ?_, ?_, ?_, ?_, ?_, ?_⟩ <;> omega)
theorem unit_all {a b c d x y : Int} (h : Unit a b c d) (hx : -32768 ≤ x ∧ x ≤ 32768) (hy : -32768 ≤ y ∧ y ≤ 32768) :
    backE (shifted a b c d x y) = (unshift a b c d x y, 0) ∧ timesE (shifted a b c d x y) (unshift a b c d x y) = (one, 0) ∧ timesE (unshift a b c d x y) (shifted a b c d x y) = (one, 0) := by
  obtain ⟨h1, h2, h3⟩ := unit_ok h hx hy
  obtain ⟨t1, t2⟩ := unit_times (x := x) (y := y) h
  have ho : one.ok := by decide
  unfold backE timesE
  rw [t1, t2, unit_back h, if_pos h1, if_pos ⟨h3, h2⟩, if_pos ⟨h1, h2, ho⟩, if_pos ⟨h2, h1, ho⟩]
  exact ⟨rfl, rfl, rfl⟩
end Af
set_option maxRecDepth 100000 in
set_option maxHeartbeats 6400000 in
theorem turns_walk (q : Int) (s : Bool) (x y : Int) (w : World) (hq : -9223372036854775808 ≤ q ∧ q ≤ 9223372036854775807) (hx : -9223372036854775808 ≤ x ∧ x ≤ 9223372036854775807) (hy : -9223372036854775808 ≤ y ∧ y ≤ 9223372036854775807) :
    Calls Try.prog 5 #[.int .i64 q, .bool s, .int .i64 x, .int .i64 y] w (Yes w) := by
  clear hq hx hy
  go_enter Try.func5, Try.ntmps5
  go_wp2_with fail
  refine (anchor_any _).mono ?_
  rintro e w2 ⟨rfl, hk⟩
  have K1 := Lib.hid hk
  clear hk
  by_cases g0 : q < 0
  · have t_g0 : decide (q < 0) = true := by simp; omega
    clear g0
    go_wp2_with fail
    go_ret
    exact ⟨rfl, K1.out⟩
  have t_g0 : decide (q < 0) = false := by simp; omega
  by_cases g1 : 9 < q
  · have t_g1 : decide (9 < q) = true := by simp; omega
    clear g0 g1
    go_wp2_with fail
    go_ret
    exact ⟨rfl, K1.out⟩
  have t_g1 : decide (9 < q) = false := by simp; omega
  by_cases g2 : x < -32768
  · have t_g2 : decide (x < -32768) = true := by simp; omega
    clear g0 g1 g2
    go_wp2_with fail
    go_ret
    exact ⟨rfl, K1.out⟩
  have t_g2 : decide (x < -32768) = false := by simp; omega
  by_cases g3 : 32768 < x
  · have t_g3 : decide (32768 < x) = true := by simp; omega
    clear g0 g1 g2 g3
    go_wp2_with fail
    go_ret
    exact ⟨rfl, K1.out⟩
  have t_g3 : decide (32768 < x) = false := by simp; omega
  by_cases g4 : y < -32768
  · have t_g4 : decide (y < -32768) = true := by simp; omega
    clear g0 g1 g2 g3 g4
    go_wp2_with fail
    go_ret
    exact ⟨rfl, K1.out⟩
  have t_g4 : decide (y < -32768) = false := by simp; omega
  by_cases g5 : 32768 < y
  · have t_g5 : decide (32768 < y) = true := by simp; omega
    clear g0 g1 g2 g3 g4 g5
    go_wp2_with fail
    go_ret
    exact ⟨rfl, K1.out⟩
  have t_g5 : decide (32768 < y) = false := by simp; omega
  obtain ⟨k, rfl⟩ : ∃ k : Nat, q = k := ⟨q.toNat, by omega⟩
  have hk9 : k ≤ 9 := by omega
  have HX := Lib.hid (show (-32768 ≤ x ∧ x ≤ 32768) ∧ (-32768 ≤ y ∧ y ≤ 32768) from ⟨⟨by omega, by omega⟩, by omega, by omega⟩)
  have u1 : decide (9 < k) = false := by simp; omega
  clear g0 g1 g2 g3 g4 g5
  go_wp2_with fail
  refine (one_any _).mono ?_
  rintro e w3 ⟨rfl, hk⟩
  have K2 := Lib.hid ((K1.out.next hk).alloc (.cells #[.int .i64 65536, .int .i64 0, .int .i64 0, .int .i64 65536, .int .i64 0, .int .i64 0] 23))
  have L2 := Lib.hid (show w.heap.size ≤ w3.heap.size from (K1.out.next hk).size)
  have M2' := Six.new w3 23 Af.one
  have M2 := Lib.hid (show Six (w3.alloc (.cells #[.int .i64 65536, .int .i64 0, .int .i64 0, .int .i64 65536, .int .i64 0, .int .i64 0] 23)) w3.heap.size 23 Af.one from M2')
  clear hk K1 M2' t_g0 t_g1 u1 t_g2 t_g3 t_g4 t_g5
  go_upto_region 6 with (fail)
  generalize w3.alloc (.cells #[.int .i64 65536, .int .i64 0, .int .i64 0, .int .i64 65536, .int .i64 0, .int .i64 0] 23) = w4 at *
  generalize w3.heap.size = G at *
  have TURN : ∀ w5 : World, Six w5 G 23 (Af.turn s 0) → Keeps none' w w5 → True := fun _ _ _ => trivial
  clear TURN
  cases s
  · have M3 := Lib.hid (show Six w4 G 23 (Af.turn false 0) from M2.out)
    go_wp2_with fail
    go_loopw [10] (fun cnt wr => ∃ i : Nat, i ≤ k ∧ cnt = .int .i64 i ∧ Six wr G 23 (Af.turn false i) ∧ Keeps none' w wr) (fun cnt _ => k - (intOf cnt).toNat)
    case atStart => exact ⟨0, Nat.zero_le _, rfl, M3.out, K2.out⟩
    case round =>
      obtain ⟨i, hi, rfl, hT, hkp⟩ := hrel
      have T := Lib.hid hT
      have K := Lib.hid hkp
      clear hT hkp M3 K2
      have c0 := T.out.c0
      have c1 := T.out.c1
      have c2 := T.out.c2
      have c3 := T.out.c3
      have c4 := T.out.c4
      have c5 := T.out.c5
      have f0 := T.out.fr (i := 0)
      have f1 := T.out.fr (i := 1)
      have f2 := T.out.fr (i := 2)
      have f3 := T.out.fr (i := 3)
      have f4 := T.out.fr (i := 4)
      have f5 := T.out.fr (i := 5)
      by_cases hlt : i < k
      · have TN := Lib.hid (fun w => times_any Af.quarter (Af.turn false i) w)
        rw [Af.turn_next false i (by omega)] at TN
        generalize hn : Af.turn false (i + 1) = nx at *
        generalize Af.turn false i = cur at *
        have HNX := Lib.hid hn
        clear hn
        go_wp2_with fail
        refine (TN.out _).mono ?_
        rintro e w6 ⟨rfl, hk⟩
        have T2 := Lib.hid (T.out.later hk)
        have K2 := Lib.hid (K.out.next hk)
        clear hk T K TN c0 c1 c2 c3 c4 c5 f0 f1 f2 f3 f4 f5
        have c0 := T2.out.c0
        have c1 := T2.out.c1
        have c2 := T2.out.c2
        have c3 := T2.out.c3
        have c4 := T2.out.c4
        have c5 := T2.out.c5
        have f0 := T2.out.fr (i := 0)
        have f1 := T2.out.fr (i := 1)
        have f2 := T2.out.fr (i := 2)
        have f3 := T2.out.fr (i := 3)
        have f4 := T2.out.fr (i := 4)
        have f5 := T2.out.fr (i := 5)
        have X := Lib.hid (block_all T2.out nx)
        have Y := Lib.hid (K2.out.all L2.out nx)
        go_wp2_with fail
        go_roundw
        case rel => exact ⟨i + 1, by omega, by go_num, by rw [HNX.out]; exact X.out, Y.out⟩
        case measure => simp [intOf]; omega
      · obtain rfl : i = k := by omega
        have t9 : decide (i < i) = false := by simp
        have HU := Lib.hid (Af.turn_unit false i (by omega))
        obtain ⟨hx, hy⟩ := HX.out
        obtain ⟨e1, e2, e3⟩ := Af.unit_all (x := x) (y := y) HU.out hx hy
        generalize Af.turn false i = cur at *
        obtain ⟨a, b, c, d, e', f'⟩ := cur
        simp only at e1 e2 e3
        have BK := Lib.hid (fun w => back_any (Af.shifted a b c d x y) w)
        rw [e1] at BK
        have T1 := Lib.hid (fun w => times_any (Af.shifted a b c d x y) (Af.unshift a b c d x y) w)
        rw [e2] at T1
        have T2 := Lib.hid (fun w => times_any (Af.unshift a b c d x y) (Af.shifted a b c d x y) w)
        rw [e3] at T2
        have w1' := wrap_i64 (65536 * x) (by omega) (by omega)
        have w2' := wrap_i64 (65536 * y) (by omega) (by omega)
        have X := Lib.hid ((T.out.s45 (65536 * x) (65536 * y)))
        have Y := Lib.hid ((K.out.setCell (p := ⟨G, 4, none⟩) (fun e => by have := L2.out; simp only at e; omega) (.int .i64 (65536 * x))).setCell (p := ⟨G, 5, none⟩) (fun e => by have := L2.out; simp only at e; omega) (.int .i64 (65536 * y)))
        have X1 := Lib.hid (show Six _ G 23 (Af.shifted a b c d x y) from X.out)
        clear X e1 e2 e3 T K HU
        go_upto_region 16 with (fail)
        clear c0 c1 c2 c3 c4 c5 f0 f1 f2 f3 f4 f5 w1' w2'
        generalize (wr.setCell ⟨G, 4, none⟩ (.int .i64 (65536 * x))).setCell ⟨G, 5, none⟩ (.int .i64 (65536 * y)) = w7 at *
        generalize Af.shifted a b c d x y = P at *
        generalize Af.unshift a b c d x y = Q at *
        have c0 := X1.out.c0
        have c1 := X1.out.c1
        have c2 := X1.out.c2
        have c3 := X1.out.c3
        have c4 := X1.out.c4
        have c5 := X1.out.c5
        go_wp2_with fail
        refine (BK.out _).mono ?_
        rintro e w8 ⟨rfl, hk⟩
        have X2 := Lib.hid ((X1.out.later hk).alloc (.cells #[.int .i64 Q.a, .int .i64 Q.b, .int .i64 Q.c, .int .i64 Q.d, .int .i64 Q.e, .int .i64 Q.f] 23))
        have Q2 := Lib.hid (Six.new w8 23 Q)
        have Y2 := Lib.hid ((Y.out.next hk).alloc (.cells #[.int .i64 Q.a, .int .i64 Q.b, .int .i64 Q.c, .int .i64 Q.d, .int .i64 Q.e, .int .i64 Q.f] 23))
        clear hk X1 Y BK c0 c1 c2 c3 c4 c5
        go_upto_region 19 with (fail)
        generalize w8.alloc (.cells #[.int .i64 Q.a, .int .i64 Q.b, .int .i64 Q.c, .int .i64 Q.d, .int .i64 Q.e, .int .i64 Q.f] 23) = w9 at *
        generalize w8.heap.size = H at *
        have c0 := X2.out.c0
        have c1 := X2.out.c1
        have c2 := X2.out.c2
        have c3 := X2.out.c3
        have c4 := X2.out.c4
        have c5 := X2.out.c5
        have d0 := Q2.out.c0
        have d1 := Q2.out.c1
        have d2 := Q2.out.c2
        have d3 := Q2.out.c3
        have d4 := Q2.out.c4
        have d5 := Q2.out.c5
        go_wp2_with fail
        refine (T1.out _).mono ?_
        rintro e wa ⟨rfl, hk⟩
        have X3 := Lib.hid ((X2.out.later hk).alloc (.cells #[.int .i64 Af.one.a, .int .i64 Af.one.b, .int .i64 Af.one.c, .int .i64 Af.one.d, .int .i64 Af.one.e, .int .i64 Af.one.f] 23))
        have Q3 := Lib.hid ((Q2.out.later hk).alloc (.cells #[.int .i64 Af.one.a, .int .i64 Af.one.b, .int .i64 Af.one.c, .int .i64 Af.one.d, .int .i64 Af.one.e, .int .i64 Af.one.f] 23))
        have R3 := Lib.hid (Six.new wa 23 Af.one)
        have Y3 := Lib.hid ((Y2.out.next hk).alloc (.cells #[.int .i64 Af.one.a, .int .i64 Af.one.b, .int .i64 Af.one.c, .int .i64 Af.one.d, .int .i64 Af.one.e, .int .i64 Af.one.f] 23))
        clear hk X2 Q2 Y2 T1 c0 c1 c2 c3 c4 c5 d0 d1 d2 d3 d4 d5
        go_upto_region 20 with (fail)
        generalize wa.alloc (.cells #[.int .i64 Af.one.a, .int .i64 Af.one.b, .int .i64 Af.one.c, .int .i64 Af.one.d, .int .i64 Af.one.e, .int .i64 Af.one.f] 23) = wb at *
        generalize wa.heap.size = I at *
        have c0 := X3.out.c0
        have c1 := X3.out.c1
        have c2 := X3.out.c2
        have c3 := X3.out.c3
        have c4 := X3.out.c4
        have c5 := X3.out.c5
        have d0 := Q3.out.c0
        have d1 := Q3.out.c1
        have d2 := Q3.out.c2
        have d3 := Q3.out.c3
        have d4 := Q3.out.c4
        have d5 := Q3.out.c5
        go_wp2_with fail
        refine (T2.out _).mono ?_
        rintro e wc ⟨rfl, hk⟩
        have R4 := Lib.hid ((R3.out.later hk).alloc (.cells #[.int .i64 Af.one.a, .int .i64 Af.one.b, .int .i64 Af.one.c, .int .i64 Af.one.d, .int .i64 Af.one.e, .int .i64 Af.one.f] 23))
        have U4 := Lib.hid (Six.new wc 23 Af.one)
        have Y4 := Lib.hid ((Y3.out.next hk).alloc (.cells #[.int .i64 Af.one.a, .int .i64 Af.one.b, .int .i64 Af.one.c, .int .i64 Af.one.d, .int .i64 Af.one.e, .int .i64 Af.one.f] 23))
        clear hk X3 Q3 R3 Y3 T2 c0 c1 c2 c3 c4 c5 d0 d1 d2 d3 d4 d5
        go_upto_region 21 with (fail)
        generalize wc.alloc (.cells #[.int .i64 Af.one.a, .int .i64 Af.one.b, .int .i64 Af.one.c, .int .i64 Af.one.d, .int .i64 Af.one.e, .int .i64 Af.one.f] 23) = wd at *
        generalize wc.heap.size = J at *
        have p0 : wd.cell? ⟨I, 0, none⟩ = some (.int .i64 65536) := R4.out.c0
        have p1 : wd.cell? ⟨I, 1, none⟩ = some (.int .i64 0) := R4.out.c1
        have p2 : wd.cell? ⟨I, 2, none⟩ = some (.int .i64 0) := R4.out.c2
        have p3 : wd.cell? ⟨I, 3, none⟩ = some (.int .i64 65536) := R4.out.c3
        have p4 : wd.cell? ⟨I, 4, none⟩ = some (.int .i64 0) := R4.out.c4
        have p5 : wd.cell? ⟨I, 5, none⟩ = some (.int .i64 0) := R4.out.c5
        have q0 : wd.cell? ⟨J, 0, none⟩ = some (.int .i64 65536) := U4.out.c0
        have q1 : wd.cell? ⟨J, 1, none⟩ = some (.int .i64 0) := U4.out.c1
        have q2 : wd.cell? ⟨J, 2, none⟩ = some (.int .i64 0) := U4.out.c2
        have q3 : wd.cell? ⟨J, 3, none⟩ = some (.int .i64 65536) := U4.out.c3
        have q4 : wd.cell? ⟨J, 4, none⟩ = some (.int .i64 0) := U4.out.c4
        have q5 : wd.cell? ⟨J, 5, none⟩ = some (.int .i64 0) := U4.out.c5
        have OW := Lib.hid (Keeps.refl none' wd)
        have OD := Lib.hid ((Keeps.refl none' wd).drew)
        have EQ : ∀ w, (Op.equalIn 10000 23 (.agg #[.int .i64 65536, .int .i64 0, .int .i64 0, .int .i64 65536, .int .i64 0, .int .i64 0]) (.agg #[.int .i64 65536, .int .i64 0, .int .i64 0, .int .i64 65536, .int .i64 0, .int .i64 0])).run Try.prog w = .ok true w := fun w => eq23_self Af.one w
        have C1 : ∀ w', (w'.cell? ⟨I, 0, none⟩ = some (.int .i64 65536) ∧ w'.cell? ⟨I, 1, none⟩ = some (.int .i64 0) ∧ w'.cell? ⟨I, 2, none⟩ = some (.int .i64 0) ∧ w'.cell? ⟨I, 3, none⟩ = some (.int .i64 65536) ∧ w'.cell? ⟨I, 4, none⟩ = some (.int .i64 0) ∧ w'.cell? ⟨I, 5, none⟩ = some (.int .i64 0) ∧ w'.cell? ⟨J, 0, none⟩ = some (.int .i64 65536) ∧ w'.cell? ⟨J, 1, none⟩ = some (.int .i64 0) ∧ w'.cell? ⟨J, 2, none⟩ = some (.int .i64 0) ∧ w'.cell? ⟨J, 3, none⟩ = some (.int .i64 65536) ∧ w'.cell? ⟨J, 4, none⟩ = some (.int .i64 0) ∧ w'.cell? ⟨J, 5, none⟩ = some (.int .i64 0) ∧ Keeps none' wd w') → Calls Try.prog 17 #[] w' fun e w'' => e = .returned (.agg #[.int .i64 65536, .int .i64 0, .int .i64 0, .int .i64 65536, .int .i64 0, .int .i64 0]) ∧ w''.cell? ⟨I, 0, none⟩ = some (.int .i64 65536) ∧ w''.cell? ⟨I, 1, none⟩ = some (.int .i64 0) ∧ w''.cell? ⟨I, 2, none⟩ = some (.int .i64 0) ∧ w''.cell? ⟨I, 3, none⟩ = some (.int .i64 65536) ∧ w''.cell? ⟨I, 4, none⟩ = some (.int .i64 0) ∧ w''.cell? ⟨I, 5, none⟩ = some (.int .i64 0) ∧ w''.cell? ⟨J, 0, none⟩ = some (.int .i64 65536) ∧ w''.cell? ⟨J, 1, none⟩ = some (.int .i64 0) ∧ w''.cell? ⟨J, 2, none⟩ = some (.int .i64 0) ∧ w''.cell? ⟨J, 3, none⟩ = some (.int .i64 65536) ∧ w''.cell? ⟨J, 4, none⟩ = some (.int .i64 0) ∧ w''.cell? ⟨J, 5, none⟩ = some (.int .i64 0) ∧ Keeps none' wd w'' := by
          rintro w' ⟨h0, h1, h2, h3, h4, h5, h6, h7, h8, h9, h10, h11, h12⟩
          refine (one_any w').mono ?_
          rintro e w'' ⟨h, k⟩
          exact ⟨h, k.cell h0, k.cell h1, k.cell h2, k.cell h3, k.cell h4, k.cell h5, k.cell h6, k.cell h7, k.cell h8, k.cell h9, k.cell h10, k.cell h11, h12.next k⟩
        have CALL1 := Lib.hid C1
        clear C1
        go_region_held3 (fun w' => w'.cell? ⟨I, 0, none⟩ = some (.int .i64 65536) ∧ w'.cell? ⟨I, 1, none⟩ = some (.int .i64 0) ∧ w'.cell? ⟨I, 2, none⟩ = some (.int .i64 0) ∧ w'.cell? ⟨I, 3, none⟩ = some (.int .i64 65536) ∧ w'.cell? ⟨I, 4, none⟩ = some (.int .i64 0) ∧ w'.cell? ⟨I, 5, none⟩ = some (.int .i64 0) ∧ w'.cell? ⟨J, 0, none⟩ = some (.int .i64 65536) ∧ w'.cell? ⟨J, 1, none⟩ = some (.int .i64 0) ∧ w'.cell? ⟨J, 2, none⟩ = some (.int .i64 0) ∧ w'.cell? ⟨J, 3, none⟩ = some (.int .i64 65536) ∧ w'.cell? ⟨J, 4, none⟩ = some (.int .i64 0) ∧ w'.cell? ⟨J, 5, none⟩ = some (.int .i64 0) ∧ Keeps none' wd w') (first | exact ⟨p0, p1, p2, p3, p4, p5, q0, q1, q2, q3, q4, q5, OW.out⟩ | exact ⟨p0, p1, p2, p3, p4, p5, q0, q1, q2, q3, q4, q5, OD.out⟩ | (refine ⟨‹_›, ‹_›, ‹_›, ‹_›, ‹_›, ‹_›, ‹_›, ‹_›, ‹_›, ‹_›, ‹_›, ‹_›, ‹_›⟩) | go_keep)
          (first | (go_at_call 17; refine (CALL1.out _ ⟨‹_›, ‹_›, ‹_›, ‹_›, ‹_›, ‹_›, ‹_›, ‹_›, ‹_›, ‹_›, ‹_›, ‹_›, ‹_›⟩).mono ?_; rintro e w' ⟨rfl, k0, k1, k2, k3, k4, k5, k6, k7, k8, k9, k10, k11, k12⟩))
        all_goals
          have Z := Lib.hid (Y4.out.next k12)
          go_wp2_with fail
          go_ret
          exact ⟨rfl, Z.out⟩
  · have c0 := M2.out.c0
    have f0 := M2.out.fr (i := 0)
    have M3 := Lib.hid (show Six (w4.setCell ⟨G, 0, none⟩ (.int .i64 (-65536))) G 23 (Af.turn true 0) from M2.out.s0 (-65536))
    have K3 := Lib.hid (K2.out.setCell (p := ⟨G, 0, none⟩) (fun e => by have := L2.out; simp only at e; omega) (.int .i64 (-65536)))
    clear M2 K2
    go_wp2_with fail
    go_loopw [10] (fun cnt wr => ∃ i : Nat, i ≤ k ∧ cnt = .int .i64 i ∧ Six wr G 23 (Af.turn true i) ∧ Keeps none' w wr) (fun cnt _ => k - (intOf cnt).toNat)
    case atStart => exact ⟨0, Nat.zero_le _, rfl, M3.out, K3.out⟩
    case round =>
      obtain ⟨i, hi, rfl, hT, hkp⟩ := hrel
      have T := Lib.hid hT
      have K := Lib.hid hkp
      clear hT hkp M3 K3
      have c0 := T.out.c0
      have c1 := T.out.c1
      have c2 := T.out.c2
      have c3 := T.out.c3
      have c4 := T.out.c4
      have c5 := T.out.c5
      have f0 := T.out.fr (i := 0)
      have f1 := T.out.fr (i := 1)
      have f2 := T.out.fr (i := 2)
      have f3 := T.out.fr (i := 3)
      have f4 := T.out.fr (i := 4)
      have f5 := T.out.fr (i := 5)
      by_cases hlt : i < k
      · have TN := Lib.hid (fun w => times_any Af.quarter (Af.turn true i) w)
        rw [Af.turn_next true i (by omega)] at TN
        generalize hn : Af.turn true (i + 1) = nx at *
        generalize Af.turn true i = cur at *
        have HNX := Lib.hid hn
        clear hn
        go_wp2_with fail
        refine (TN.out _).mono ?_
        rintro e w6 ⟨rfl, hk⟩
        have T2 := Lib.hid (T.out.later hk)
        have K2 := Lib.hid (K.out.next hk)
        clear hk T K TN c0 c1 c2 c3 c4 c5 f0 f1 f2 f3 f4 f5
        have c0 := T2.out.c0
        have c1 := T2.out.c1
        have c2 := T2.out.c2
        have c3 := T2.out.c3
        have c4 := T2.out.c4
        have c5 := T2.out.c5
        have f0 := T2.out.fr (i := 0)
        have f1 := T2.out.fr (i := 1)
        have f2 := T2.out.fr (i := 2)
        have f3 := T2.out.fr (i := 3)
        have f4 := T2.out.fr (i := 4)
        have f5 := T2.out.fr (i := 5)
        have X := Lib.hid (block_all T2.out nx)
        have Y := Lib.hid (K2.out.all L2.out nx)
        go_wp2_with fail
        go_roundw
        case rel => exact ⟨i + 1, by omega, by go_num, by rw [HNX.out]; exact X.out, Y.out⟩
        case measure => simp [intOf]; omega
      · obtain rfl : i = k := by omega
        have t9 : decide (i < i) = false := by simp
        have HU := Lib.hid (Af.turn_unit true i (by omega))
        obtain ⟨hx, hy⟩ := HX.out
        obtain ⟨e1, e2, e3⟩ := Af.unit_all (x := x) (y := y) HU.out hx hy
        generalize Af.turn true i = cur at *
        obtain ⟨a, b, c, d, e', f'⟩ := cur
        simp only at e1 e2 e3
        have BK := Lib.hid (fun w => back_any (Af.shifted a b c d x y) w)
        rw [e1] at BK
        have T1 := Lib.hid (fun w => times_any (Af.shifted a b c d x y) (Af.unshift a b c d x y) w)
        rw [e2] at T1
        have T2 := Lib.hid (fun w => times_any (Af.unshift a b c d x y) (Af.shifted a b c d x y) w)
        rw [e3] at T2
        have w1' := wrap_i64 (65536 * x) (by omega) (by omega)
        have w2' := wrap_i64 (65536 * y) (by omega) (by omega)
        have X := Lib.hid ((T.out.s45 (65536 * x) (65536 * y)))
        have Y := Lib.hid ((K.out.setCell (p := ⟨G, 4, none⟩) (fun e => by have := L2.out; simp only at e; omega) (.int .i64 (65536 * x))).setCell (p := ⟨G, 5, none⟩) (fun e => by have := L2.out; simp only at e; omega) (.int .i64 (65536 * y)))
        have X1 := Lib.hid (show Six _ G 23 (Af.shifted a b c d x y) from X.out)
        clear X e1 e2 e3 T K HU
        go_upto_region 16 with (fail)
        clear c0 c1 c2 c3 c4 c5 f0 f1 f2 f3 f4 f5 w1' w2'
        generalize (wr.setCell ⟨G, 4, none⟩ (.int .i64 (65536 * x))).setCell ⟨G, 5, none⟩ (.int .i64 (65536 * y)) = w7 at *
        generalize Af.shifted a b c d x y = P at *
        generalize Af.unshift a b c d x y = Q at *
        have c0 := X1.out.c0
        have c1 := X1.out.c1
        have c2 := X1.out.c2
        have c3 := X1.out.c3
        have c4 := X1.out.c4
        have c5 := X1.out.c5
        go_wp2_with fail
        refine (BK.out _).mono ?_
        rintro e w8 ⟨rfl, hk⟩
        have X2 := Lib.hid ((X1.out.later hk).alloc (.cells #[.int .i64 Q.a, .int .i64 Q.b, .int .i64 Q.c, .int .i64 Q.d, .int .i64 Q.e, .int .i64 Q.f] 23))
        have Q2 := Lib.hid (Six.new w8 23 Q)
        have Y2 := Lib.hid ((Y.out.next hk).alloc (.cells #[.int .i64 Q.a, .int .i64 Q.b, .int .i64 Q.c, .int .i64 Q.d, .int .i64 Q.e, .int .i64 Q.f] 23))
        clear hk X1 Y BK c0 c1 c2 c3 c4 c5
        go_upto_region 19 with (fail)
        generalize w8.alloc (.cells #[.int .i64 Q.a, .int .i64 Q.b, .int .i64 Q.c, .int .i64 Q.d, .int .i64 Q.e, .int .i64 Q.f] 23) = w9 at *
        generalize w8.heap.size = H at *
        have c0 := X2.out.c0
        have c1 := X2.out.c1
        have c2 := X2.out.c2
        have c3 := X2.out.c3
        have c4 := X2.out.c4
        have c5 := X2.out.c5
        have d0 := Q2.out.c0
        have d1 := Q2.out.c1
        have d2 := Q2.out.c2
        have d3 := Q2.out.c3
        have d4 := Q2.out.c4
        have d5 := Q2.out.c5
        go_wp2_with fail
        refine (T1.out _).mono ?_
        rintro e wa ⟨rfl, hk⟩
        have X3 := Lib.hid ((X2.out.later hk).alloc (.cells #[.int .i64 Af.one.a, .int .i64 Af.one.b, .int .i64 Af.one.c, .int .i64 Af.one.d, .int .i64 Af.one.e, .int .i64 Af.one.f] 23))
        have Q3 := Lib.hid ((Q2.out.later hk).alloc (.cells #[.int .i64 Af.one.a, .int .i64 Af.one.b, .int .i64 Af.one.c, .int .i64 Af.one.d, .int .i64 Af.one.e, .int .i64 Af.one.f] 23))
        have R3 := Lib.hid (Six.new wa 23 Af.one)
        have Y3 := Lib.hid ((Y2.out.next hk).alloc (.cells #[.int .i64 Af.one.a, .int .i64 Af.one.b, .int .i64 Af.one.c, .int .i64 Af.one.d, .int .i64 Af.one.e, .int .i64 Af.one.f] 23))
        clear hk X2 Q2 Y2 T1 c0 c1 c2 c3 c4 c5 d0 d1 d2 d3 d4 d5
        go_upto_region 20 with (fail)
        generalize wa.alloc (.cells #[.int .i64 Af.one.a, .int .i64 Af.one.b, .int .i64 Af.one.c, .int .i64 Af.one.d, .int .i64 Af.one.e, .int .i64 Af.one.f] 23) = wb at *
        generalize wa.heap.size = I at *
        have c0 := X3.out.c0
        have c1 := X3.out.c1
        have c2 := X3.out.c2
        have c3 := X3.out.c3
        have c4 := X3.out.c4
        have c5 := X3.out.c5
        have d0 := Q3.out.c0
        have d1 := Q3.out.c1
        have d2 := Q3.out.c2
        have d3 := Q3.out.c3
        have d4 := Q3.out.c4
        have d5 := Q3.out.c5
        go_wp2_with fail
        refine (T2.out _).mono ?_
        rintro e wc ⟨rfl, hk⟩
        have R4 := Lib.hid ((R3.out.later hk).alloc (.cells #[.int .i64 Af.one.a, .int .i64 Af.one.b, .int .i64 Af.one.c, .int .i64 Af.one.d, .int .i64 Af.one.e, .int .i64 Af.one.f] 23))
        have U4 := Lib.hid (Six.new wc 23 Af.one)
        have Y4 := Lib.hid ((Y3.out.next hk).alloc (.cells #[.int .i64 Af.one.a, .int .i64 Af.one.b, .int .i64 Af.one.c, .int .i64 Af.one.d, .int .i64 Af.one.e, .int .i64 Af.one.f] 23))
        clear hk X3 Q3 R3 Y3 T2 c0 c1 c2 c3 c4 c5 d0 d1 d2 d3 d4 d5
        go_upto_region 21 with (fail)
        generalize wc.alloc (.cells #[.int .i64 Af.one.a, .int .i64 Af.one.b, .int .i64 Af.one.c, .int .i64 Af.one.d, .int .i64 Af.one.e, .int .i64 Af.one.f] 23) = wd at *
        generalize wc.heap.size = J at *
        have p0 : wd.cell? ⟨I, 0, none⟩ = some (.int .i64 65536) := R4.out.c0
        have p1 : wd.cell? ⟨I, 1, none⟩ = some (.int .i64 0) := R4.out.c1
        have p2 : wd.cell? ⟨I, 2, none⟩ = some (.int .i64 0) := R4.out.c2
        have p3 : wd.cell? ⟨I, 3, none⟩ = some (.int .i64 65536) := R4.out.c3
        have p4 : wd.cell? ⟨I, 4, none⟩ = some (.int .i64 0) := R4.out.c4
        have p5 : wd.cell? ⟨I, 5, none⟩ = some (.int .i64 0) := R4.out.c5
        have q0 : wd.cell? ⟨J, 0, none⟩ = some (.int .i64 65536) := U4.out.c0
        have q1 : wd.cell? ⟨J, 1, none⟩ = some (.int .i64 0) := U4.out.c1
        have q2 : wd.cell? ⟨J, 2, none⟩ = some (.int .i64 0) := U4.out.c2
        have q3 : wd.cell? ⟨J, 3, none⟩ = some (.int .i64 65536) := U4.out.c3
        have q4 : wd.cell? ⟨J, 4, none⟩ = some (.int .i64 0) := U4.out.c4
        have q5 : wd.cell? ⟨J, 5, none⟩ = some (.int .i64 0) := U4.out.c5
        have OW := Lib.hid (Keeps.refl none' wd)
        have OD := Lib.hid ((Keeps.refl none' wd).drew)
        have EQ : ∀ w, (Op.equalIn 10000 23 (.agg #[.int .i64 65536, .int .i64 0, .int .i64 0, .int .i64 65536, .int .i64 0, .int .i64 0]) (.agg #[.int .i64 65536, .int .i64 0, .int .i64 0, .int .i64 65536, .int .i64 0, .int .i64 0])).run Try.prog w = .ok true w := fun w => eq23_self Af.one w
        have C1 : ∀ w', (w'.cell? ⟨I, 0, none⟩ = some (.int .i64 65536) ∧ w'.cell? ⟨I, 1, none⟩ = some (.int .i64 0) ∧ w'.cell? ⟨I, 2, none⟩ = some (.int .i64 0) ∧ w'.cell? ⟨I, 3, none⟩ = some (.int .i64 65536) ∧ w'.cell? ⟨I, 4, none⟩ = some (.int .i64 0) ∧ w'.cell? ⟨I, 5, none⟩ = some (.int .i64 0) ∧ w'.cell? ⟨J, 0, none⟩ = some (.int .i64 65536) ∧ w'.cell? ⟨J, 1, none⟩ = some (.int .i64 0) ∧ w'.cell? ⟨J, 2, none⟩ = some (.int .i64 0) ∧ w'.cell? ⟨J, 3, none⟩ = some (.int .i64 65536) ∧ w'.cell? ⟨J, 4, none⟩ = some (.int .i64 0) ∧ w'.cell? ⟨J, 5, none⟩ = some (.int .i64 0) ∧ Keeps none' wd w') → Calls Try.prog 17 #[] w' fun e w'' => e = .returned (.agg #[.int .i64 65536, .int .i64 0, .int .i64 0, .int .i64 65536, .int .i64 0, .int .i64 0]) ∧ w''.cell? ⟨I, 0, none⟩ = some (.int .i64 65536) ∧ w''.cell? ⟨I, 1, none⟩ = some (.int .i64 0) ∧ w''.cell? ⟨I, 2, none⟩ = some (.int .i64 0) ∧ w''.cell? ⟨I, 3, none⟩ = some (.int .i64 65536) ∧ w''.cell? ⟨I, 4, none⟩ = some (.int .i64 0) ∧ w''.cell? ⟨I, 5, none⟩ = some (.int .i64 0) ∧ w''.cell? ⟨J, 0, none⟩ = some (.int .i64 65536) ∧ w''.cell? ⟨J, 1, none⟩ = some (.int .i64 0) ∧ w''.cell? ⟨J, 2, none⟩ = some (.int .i64 0) ∧ w''.cell? ⟨J, 3, none⟩ = some (.int .i64 65536) ∧ w''.cell? ⟨J, 4, none⟩ = some (.int .i64 0) ∧ w''.cell? ⟨J, 5, none⟩ = some (.int .i64 0) ∧ Keeps none' wd w'' := by
          rintro w' ⟨h0, h1, h2, h3, h4, h5, h6, h7, h8, h9, h10, h11, h12⟩
          refine (one_any w').mono ?_
          rintro e w'' ⟨h, k⟩
          exact ⟨h, k.cell h0, k.cell h1, k.cell h2, k.cell h3, k.cell h4, k.cell h5, k.cell h6, k.cell h7, k.cell h8, k.cell h9, k.cell h10, k.cell h11, h12.next k⟩
        have CALL1 := Lib.hid C1
        clear C1
        go_region_held3 (fun w' => w'.cell? ⟨I, 0, none⟩ = some (.int .i64 65536) ∧ w'.cell? ⟨I, 1, none⟩ = some (.int .i64 0) ∧ w'.cell? ⟨I, 2, none⟩ = some (.int .i64 0) ∧ w'.cell? ⟨I, 3, none⟩ = some (.int .i64 65536) ∧ w'.cell? ⟨I, 4, none⟩ = some (.int .i64 0) ∧ w'.cell? ⟨I, 5, none⟩ = some (.int .i64 0) ∧ w'.cell? ⟨J, 0, none⟩ = some (.int .i64 65536) ∧ w'.cell? ⟨J, 1, none⟩ = some (.int .i64 0) ∧ w'.cell? ⟨J, 2, none⟩ = some (.int .i64 0) ∧ w'.cell? ⟨J, 3, none⟩ = some (.int .i64 65536) ∧ w'.cell? ⟨J, 4, none⟩ = some (.int .i64 0) ∧ w'.cell? ⟨J, 5, none⟩ = some (.int .i64 0) ∧ Keeps none' wd w') (first | exact ⟨p0, p1, p2, p3, p4, p5, q0, q1, q2, q3, q4, q5, OW.out⟩ | exact ⟨p0, p1, p2, p3, p4, p5, q0, q1, q2, q3, q4, q5, OD.out⟩ | (refine ⟨‹_›, ‹_›, ‹_›, ‹_›, ‹_›, ‹_›, ‹_›, ‹_›, ‹_›, ‹_›, ‹_›, ‹_›, ‹_›⟩) | go_keep)
          (first | (go_at_call 17; refine (CALL1.out _ ⟨‹_›, ‹_›, ‹_›, ‹_›, ‹_›, ‹_›, ‹_›, ‹_›, ‹_›, ‹_›, ‹_›, ‹_›, ‹_›⟩).mono ?_; rintro e w' ⟨rfl, k0, k1, k2, k3, k4, k5, k6, k7, k8, k9, k10, k11, k12⟩))
        all_goals
          have Z := Lib.hid (Y4.out.next k12)
          go_wp2_with fail
          go_ret
          exact ⟨rfl, Z.out⟩
end Go.Proofs.Ytfcndldobjpbnaa
