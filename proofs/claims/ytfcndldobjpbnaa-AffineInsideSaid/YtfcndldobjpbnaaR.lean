/- A pixel's four numbers: taken apart, put together. -/
import Derived.Test.YtfcndldobjpbnaaQ
namespace Go.Proofs.Ytfcndldobjpbnaa
open Go.RowKit Go.Maps
set_option linter.unusedVariables false

theorem ofInt_i64 (a : Nat) (ha : a < 9223372036854775808) : (BitVec.ofInt 64 (a : Int)).toNat = a := by
  rw [BitVec.ofInt_natCast, BitVec.toNat_ofNat]; exact Nat.mod_eq_of_lt (by omega)
theorem i64_and_nat (a b : Nat) (ha : a < 9223372036854775808) (hb : b < 9223372036854775808) : bits .and .i64 (a : Int) (b : Int) = ((a &&& b : Nat) : Int) := by
  have hx : a &&& b < 2 ^ 63 := Nat.and_lt_two_pow _ (by omega)
  show IntKind.i64.wrap ((BitVec.ofInt 64 (a : Int) &&& BitVec.ofInt 64 (b : Int)).toNat : Int) = _
  rw [BitVec.toNat_and, ofInt_i64 a ha, ofInt_i64 b hb, wrap_i64 _ (by omega) (by omega)]
theorem i64_or_nat (a b : Nat) (ha : a < 9223372036854775808) (hb : b < 9223372036854775808) : bits .or .i64 (a : Int) (b : Int) = ((a ||| b : Nat) : Int) := by
  have hx : a ||| b < 2 ^ 63 := Nat.or_lt_two_pow (by omega) (by omega)
  show IntKind.i64.wrap ((BitVec.ofInt 64 (a : Int) ||| BitVec.ofInt 64 (b : Int)).toNat : Int) = _
  rw [BitVec.toNat_or, ofInt_i64 a ha, ofInt_i64 b hb, wrap_i64 _ (by omega) (by omega)]

/-- Four numbers in a block. -/
abbrev four (x y z a : Int) : Array Value := #[.int .i64 x, .int .i64 y, .int .i64 z, .int .i64 a]
def Four (w : World) (B : Nat) (x y z a : Int) : Prop := w.heap[B]? = some (.cells #[.int .i64 x, .int .i64 y, .int .i64 z, .int .i64 a] 39 (0, 0))
theorem Four.lt {w : World} {B : Nat} {x y z a : Int} (h : Four w B x y z a) : B < w.heap.size := lt_of_block h
theorem Four.later {w w' : World} {B : Nat} {x y z a : Int} (h : Four w B x y z a) (k : Keeps none' w w') : Four w' B x y z a := (k.later B h.lt).trans h
theorem Four.drew {w : World} {B : Nat} {x y z a : Int} (h : Four w B x y z a) : Four w.drew B x y z a := h
theorem Four.c0 {w : World} {B : Nat} {x y z a : Int} (h : Four w B x y z a) : w.cell? ⟨B, 0, none⟩ = some (.int .i64 x) := by simp [World.cell?, show w.heap[B]? = _ from h]
theorem Four.c1 {w : World} {B : Nat} {x y z a : Int} (h : Four w B x y z a) : w.cell? ⟨B, 1, none⟩ = some (.int .i64 y) := by simp [World.cell?, show w.heap[B]? = _ from h]
theorem Four.c2 {w : World} {B : Nat} {x y z a : Int} (h : Four w B x y z a) : w.cell? ⟨B, 2, none⟩ = some (.int .i64 z) := by simp [World.cell?, show w.heap[B]? = _ from h]
theorem Four.c3 {w : World} {B : Nat} {x y z a : Int} (h : Four w B x y z a) : w.cell? ⟨B, 3, none⟩ = some (.int .i64 a) := by simp [World.cell?, show w.heap[B]? = _ from h]
theorem Four.fr {w : World} {B i : Nat} {x y z a : Int} (h : Four w B x y z a) : w.frozen? ⟨B, i, none⟩ = false := by simp [World.frozen?, show w.heap[B]? = _ from h]
theorem Four.s0 {w : World} {B : Nat} {x y z a : Int} (h : Four w B x y z a) (v : Int) : Four (w.setCell ⟨B, 0, none⟩ (.int .i64 v)) B v y z a := block_set h _
theorem Four.s1 {w : World} {B : Nat} {x y z a : Int} (h : Four w B x y z a) (v : Int) : Four (w.setCell ⟨B, 1, none⟩ (.int .i64 v)) B x v z a := block_set h _
theorem Four.s2 {w : World} {B : Nat} {x y z a : Int} (h : Four w B x y z a) (v : Int) : Four (w.setCell ⟨B, 2, none⟩ (.int .i64 v)) B x y v a := block_set h _
theorem Four.s3 {w : World} {B : Nat} {x y z a : Int} (h : Four w B x y z a) (v : Int) : Four (w.setCell ⟨B, 3, none⟩ (.int .i64 v)) B x y z v := block_set h _
theorem Four.set {w : World} {B R i : Nat} {x y z a : Int} (h : Four w B x y z a) (hn : B ≠ R) (v : Value) : Four (w.setCell ⟨R, i, none⟩ v) B x y z a := (Below.heap_setCell _ _ _ _ hn).trans h
theorem Four.new (w : World) (x y z a : Int) : Four (w.alloc (.cells #[.int .i64 x, .int .i64 y, .int .i64 z, .int .i64 a] 39)) w.heap.size x y z a := heap_alloc_new _ _
theorem Four.alloc {w : World} {B : Nat} {x y z a : Int} (h : Four w B x y z a) (o : Obj) : Four (w.alloc o) B x y z a := (Below.heap_alloc _ _ _ h.lt).trans h


namespace Af
def p0 (v : Int) : Int := v / 16777216 % 256
def p1 (v : Int) : Int := v / 65536 % 256
def p2 (v : Int) : Int := v / 256 % 256
def p3 (v : Int) : Int := v % 256
def join (a b c d : Int) : Int := ((a * 256 + b) * 256 + c) * 256 + d
def Byte (a : Int) : Prop := 0 ≤ a ∧ a ≤ 255
theorem p0_byte (v : Int) : Byte (p0 v) := by unfold p0 Byte; omega
theorem p1_byte (v : Int) : Byte (p1 v) := by unfold p1 Byte; omega
theorem p2_byte (v : Int) : Byte (p2 v) := by unfold p2 Byte; omega
theorem p3_byte (v : Int) : Byte (p3 v) := by unfold p3 Byte; omega
theorem join_num {a b c d : Int} (ha : Byte a) (hb : Byte b) (hc : Byte c) (hd : Byte d) : Num (join a b c d) := by unfold join Num Byte at *; omega
theorem join_parts {v : Int} (h : Num v) : join (p0 v) (p1 v) (p2 v) (p3 v) = v := by unfold join p0 p1 p2 p3 Num at *; omega
end Af
theorem or_split (a b : Int) (i : Nat) (hi : i ≤ 32) (ha : 0 ≤ a) (ha2 : a < 4294967296) (hb : 0 ≤ b) (hb2 : b < 2 ^ i) (hs : (2 ^ i : Nat) * a.toNat < 9223372036854775808) : bits .or .i64 ((2 ^ i : Nat) * a) b = (2 ^ i : Nat) * a + b := by
  obtain ⟨m, rfl⟩ : ∃ m : Nat, a = m := ⟨a.toNat, by omega⟩
  obtain ⟨n, rfl⟩ : ∃ n : Nat, b = n := ⟨b.toNat, by omega⟩
  have hn : n < 2 ^ i := by exact_mod_cast hb2
  have hp : 2 ^ i ≤ 2 ^ 32 := Nat.pow_le_pow_right (by omega) hi
  have e : ((2 ^ i : Nat) : Int) * (m : Int) = ((2 ^ i * m : Nat) : Int) := by rw [Int.natCast_mul]
  rw [e, i64_or_nat _ _ (by simpa using hs) (by omega), ← Nat.two_pow_add_eq_or_of_lt hn]
  simp
set_option maxHeartbeats 800000 in
theorem split_any (v : Int) (h : Af.Num v) (w : World) : Calls Try.prog 49 #[.int .i64 v] w fun e w' =>
    e = .returned (.agg #[.int .i64 (Af.p0 v), .int .i64 (Af.p1 v), .int .i64 (Af.p2 v), .int .i64 (Af.p3 v)]) ∧ Keeps none' w w' := by
  have m0 := i64_mask8 (v / 16777216)
  have m1 := i64_mask8 (v / 65536)
  have m2 := i64_mask8 (v / 256)
  have m3 := i64_mask8 v
  rw [show v / 16777216 % 256 = Af.p0 v from rfl] at m0
  rw [show v / 65536 % 256 = Af.p1 v from rfl] at m1
  rw [show v / 256 % 256 = Af.p2 v from rfl] at m2
  rw [show v % 256 = Af.p3 v from rfl] at m3
  obtain ⟨h0, h1⟩ := h
  generalize Af.p0 v = a at *
  generalize Af.p1 v = b at *
  generalize Af.p2 v = c at *
  generalize Af.p3 v = d at *
  go_enter Try.func49, Try.ntmps49
  go_wp2_with fail
  refine bodyPost_ret (results_cell_row rfl _ _ w.heap.size 39 #[.int .i64 a, .int .i64 b, .int .i64 c, .int .i64 d] (0, 0) _ rfl (heap_alloc_new _ _) Try.underlying39 rfl (by kernel_rfl)) rfl ?_
  exact ⟨rfl, keeps_alloc rfl⟩
set_option maxHeartbeats 800000 in
theorem join_any (a b c d : Int) (ha : Af.Byte a) (hb : Af.Byte b) (hc : Af.Byte c) (hd : Af.Byte d) (w : World) :
    Calls Try.prog 48 #[.agg #[.int .i64 a, .int .i64 b, .int .i64 c, .int .i64 d]] w (SaysI (Af.join a b c d) w) := by
  have HJ := Lib.hid (show Af.join a b c d = ((a * 256 + b) * 256 + c) * 256 + d from rfl)
  obtain ⟨a0, a1⟩ := ha
  obtain ⟨b0, b1⟩ := hb
  obtain ⟨c0, c1⟩ := hc
  obtain ⟨d0, d1⟩ := hd
  have K0 := Lib.hid (keeps_alloc (w := w) (o := .cells #[.int .i64 a, .int .i64 b, .int .i64 c, .int .i64 d] 39) rfl)
  have o1 := or_split a (b * 65536) 24 (by omega) (by omega) (by omega) (by omega) (by omega) (by omega)
  have o2 := or_split (a * 256 + b) (c * 256) 16 (by omega) (by omega) (by omega) (by omega) (by omega) (by omega)
  have o3 := or_split ((a * 256 + b) * 256 + c) d 8 (by omega) (by omega) (by omega) (by omega) (by omega) (by omega)
  have O1 : bits .or .i64 (a * 16777216) (b * 65536) = a * 16777216 + b * 65536 := by
    rw [show a * 16777216 = ((2 ^ 24 : Nat) : Int) * a by omega]; exact o1
  have O2 : bits .or .i64 (a * 16777216 + b * 65536) (c * 256) = a * 16777216 + b * 65536 + c * 256 := by
    rw [show a * 16777216 + b * 65536 = ((2 ^ 16 : Nat) : Int) * (a * 256 + b) by omega]; exact o2
  have O3 : bits .or .i64 (a * 16777216 + b * 65536 + c * 256) d = Af.join a b c d := by
    rw [show a * 16777216 + b * 65536 + c * 256 = ((2 ^ 8 : Nat) : Int) * ((a * 256 + b) * 256 + c) by omega, o3, HJ.out]; omega
  clear o1 o2 o3
  generalize Af.join a b c d = z at *
  go_enter Try.func48, Try.ntmps48
  go_wp2_with fail
  go_ret
  exact ⟨rfl, K0.out⟩
theorem part_any (v : Int) (h : Af.Num v) (c : Int) (hc : c = 0 ∨ c = 1 ∨ c = 2 ∨ c = 3) (w : World) :
    Calls Try.prog 44 #[.int .i64 v, .int .i64 c] w fun e w' => e = .returned (.int .i64 (if c = 0 then Af.p0 v else if c = 1 then Af.p1 v else if c = 2 then Af.p2 v else Af.p3 v)) ∧ w' = w := by
  have e0 := Lib.hid (show Af.p0 v = v / 16777216 % 256 from rfl)
  have e1 := Lib.hid (show Af.p1 v = v / 65536 % 256 from rfl)
  have e2 := Lib.hid (show Af.p2 v = v / 256 % 256 from rfl)
  have e3 := Lib.hid (show Af.p3 v = v % 256 from rfl)
  obtain ⟨h0, h1⟩ := h
  rcases hc with rfl | rfl | rfl | rfl
  · go_enter Try.func44, Try.ntmps44
    go_wp2_with fail
    go_ret
    exact ⟨by rw [e0.out]; rfl, rfl⟩
  · go_enter Try.func44, Try.ntmps44
    go_wp2_with fail
    go_ret
    exact ⟨by rw [e1.out]; rfl, rfl⟩
  · go_enter Try.func44, Try.ntmps44
    go_wp2_with fail
    go_ret
    exact ⟨by rw [e2.out]; rfl, rfl⟩
  · go_enter Try.func44, Try.ntmps44
    go_wp2_with fail
    go_ret
    exact ⟨by rw [e3.out]; rfl, rfl⟩
theorem part_0 (v : Int) (h : Af.Num v) (w : World) : Calls Try.prog 44 #[.int .i64 v, .int .i64 0] w fun e w' => e = .returned (.int .i64 (Af.p0 v)) ∧ w' = w :=
  (part_any v h 0 (by omega) w).mono fun e w' ⟨h1, h2⟩ => ⟨h1, h2⟩
theorem part_1 (v : Int) (h : Af.Num v) (w : World) : Calls Try.prog 44 #[.int .i64 v, .int .i64 1] w fun e w' => e = .returned (.int .i64 (Af.p1 v)) ∧ w' = w :=
  (part_any v h 1 (by omega) w).mono fun e w' ⟨h1, h2⟩ => ⟨h1, h2⟩
theorem part_2 (v : Int) (h : Af.Num v) (w : World) : Calls Try.prog 44 #[.int .i64 v, .int .i64 2] w fun e w' => e = .returned (.int .i64 (Af.p2 v)) ∧ w' = w :=
  (part_any v h 2 (by omega) w).mono fun e w' ⟨h1, h2⟩ => ⟨h1, h2⟩
theorem part_3 (v : Int) (h : Af.Num v) (w : World) : Calls Try.prog 44 #[.int .i64 v, .int .i64 3] w fun e w' => e = .returned (.int .i64 (Af.p3 v)) ∧ w' = w :=
  (part_any v h 3 (by omega) w).mono fun e w' ⟨h1, h2⟩ => ⟨h1, h2⟩
end Go.Proofs.Ytfcndldobjpbnaa
