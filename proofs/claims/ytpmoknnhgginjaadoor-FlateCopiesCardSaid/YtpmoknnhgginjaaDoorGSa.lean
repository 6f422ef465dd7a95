/- Texts of a layer, one behind the other. -/
import Derived.Test.YtpmoknnhgginjaaDoorProg
import Derived.WalkKit
import Derived.Laws.BitsAllLaws
import Derived.WalkLawsBesides
import Derived.OneCell
import Derived.Outline
import Derived.Lib.Hide
import Derived.BigQuiet
import Derived.Deep.QuietTactic
import Derived.Deep.DeepMust
import Derived.Laws.AppendOwnNone
import Derived.Maps.AppendAt
import Derived.StillTailTactics
import Derived.LoopTactic
import Derived.RegionTactic
import Derived.BigRegion
import Derived.Deep.RegionLaw
import Derived.Laws.CopyOwn
import Derived.WalkSpells
/- Rows of bits as plain data: a row's number in either order, a number's row, the bytes of a row; and what the whole numbers' bitwise operators answer. -/
namespace Go.Proofs.YtpmoknnhgginjaaDoor.Bi
set_option linter.unusedVariables false
open Go.RowKit

/-- The number of a row whose first bit is the lowest. -/
def lowv : List Bool → Nat
  | [] => 0
  | b :: l => b.toNat + 2 * lowv l

theorem lowv_lt (l : List Bool) : lowv l < 2 ^ l.length := by
  induction l with
  | nil => simp [lowv]
  | cons b l ih => simp only [lowv, List.length_cons, Nat.pow_succ]; cases b <;> simp <;> omega

theorem lowv_append (a b : List Bool) : lowv (a ++ b) = lowv a + 2 ^ a.length * lowv b := by
  induction a with
  | nil => simp [lowv]
  | cons x a ih =>
    simp only [lowv, List.cons_append, List.length_cons, Nat.pow_succ, ih]
    rw [Nat.mul_right_comm, Nat.mul_add]
    rw [Nat.mul_comm _ 2]
    omega

theorem lowv_split (l : List Bool) (n : Nat) (h : n ≤ l.length) : lowv l = lowv (l.take n) + 2 ^ n * lowv (l.drop n) := by
  have e := lowv_append (l.take n) (l.drop n)
  rw [List.take_append_drop, List.length_take, Nat.min_eq_left h] at e
  exact e

theorem lowv_drop (l : List Bool) (n : Nat) : lowv (l.drop n) = lowv l / 2 ^ n := by
  by_cases h : n ≤ l.length
  · have e := lowv_split l n h
    have hlt := lowv_lt (l.take n)
    rw [List.length_take, Nat.min_eq_left h] at hlt
    rw [e, Nat.add_mul_div_left _ _ (Nat.two_pow_pos n), Nat.div_eq_of_lt hlt, Nat.zero_add]
  · rw [List.drop_eq_nil_of_le (by omega)]
    have hlt := lowv_lt l
    have hp : 2 ^ l.length ≤ 2 ^ n := Nat.pow_le_pow_right (by omega) (by omega)
    rw [Nat.div_eq_of_lt (by omega)]
    rfl

theorem lowv_take (l : List Bool) (n : Nat) : lowv (l.take n) = lowv l % 2 ^ n := by
  by_cases h : n ≤ l.length
  · have e := lowv_split l n h
    have hlt := lowv_lt (l.take n)
    rw [List.length_take, Nat.min_eq_left h] at hlt
    rw [e, Nat.add_mul_mod_self_left, Nat.mod_eq_of_lt hlt]
  · rw [List.take_of_length_le (by omega)]
    have hlt := lowv_lt l
    have hp : 2 ^ l.length ≤ 2 ^ n := Nat.pow_le_pow_right (by omega) (by omega)
    rw [Nat.mod_eq_of_lt (by omega)]

/-- The n lowest bits of a number, the lowest first. -/
def lowr (v : Nat) : Nat → List Bool
  | 0 => []
  | n + 1 => decide (v % 2 = 1) :: lowr (v / 2) n

theorem lowr_length (v n : Nat) : (lowr v n).length = n := by
  induction n generalizing v with
  | zero => rfl
  | succ n ih => simp [lowr, ih]

theorem lowv_lowr (v n : Nat) : lowv (lowr v n) = v % 2 ^ n := by
  induction n generalizing v with
  | zero => simp [lowr, lowv, Nat.mod_one]
  | succ n ih =>
    simp only [lowr, lowv, ih, Nat.pow_succ]
    rw [Nat.mul_comm (2 ^ n) 2, Nat.mod_mul]
    by_cases h : v % 2 = 1
    · simp [h]
    · simp [h]; omega

theorem lowr_lowv (l : List Bool) : lowr (lowv l) l.length = l := by
  induction l with
  | nil => rfl
  | cons b l ih =>
    simp only [lowv, List.length_cons, lowr]
    have e1 : (b.toNat + 2 * lowv l) / 2 = lowv l := by cases b <;> simp <;> omega
    have e2 : decide ((b.toNat + 2 * lowv l) % 2 = 1) = b := by cases b <;> simp
    rw [e1, e2, ih]

theorem lowv_inj {a b : List Bool} (hl : a.length = b.length) (h : lowv a = lowv b) : a = b := by
  rw [← lowr_lowv a, ← lowr_lowv b, hl, h]

/-- A row's number in an order, and a number's row. -/
def val (high : Bool) (l : List Bool) : Nat := if high then lowv l.reverse else lowv l
def row (high : Bool) (v n : Nat) : List Bool := if high then (lowr v n).reverse else lowr v n

theorem val_lt (high : Bool) (l : List Bool) : val high l < 2 ^ l.length := by
  cases high
  · exact lowv_lt l
  · have := lowv_lt l.reverse; simpa [val] using this
theorem row_length (high : Bool) (v n : Nat) : (row high v n).length = n := by
  cases high <;> simp [row, lowr_length]
theorem val_row {high : Bool} {v n : Nat} (h : v < 2 ^ n) : val high (row high v n) = v := by
  cases high <;> simp [val, row, lowv_lowr, Nat.mod_eq_of_lt h]
theorem row_val (high : Bool) (l : List Bool) : row high (val high l) l.length = l := by
  cases high
  · exact lowr_lowv l
  · have e := lowr_lowv l.reverse
    rw [List.length_reverse] at e
    simp [row, val, e]

theorem low_append (a b : List Bool) : val false (a ++ b) = val false a + 2 ^ a.length * val false b := lowv_append a b
theorem high_append (a b : List Bool) : val true (a ++ b) = val true a * 2 ^ b.length + val true b := by
  simp only [val, if_true, List.reverse_append, lowv_append, List.length_reverse]
  rw [Nat.mul_comm, Nat.add_comm]
theorem low_drop (l : List Bool) (n : Nat) : val false (l.drop n) = val false l / 2 ^ n := lowv_drop l n
theorem low_take (l : List Bool) (n : Nat) : val false (l.take n) = val false l % 2 ^ n := lowv_take l n
theorem high_drop (l : List Bool) (n : Nat) : val true (l.drop n) = val true l % 2 ^ (l.length - n) := by
  simp only [val, if_true, List.reverse_drop, lowv_take]
theorem high_take (l : List Bool) (n : Nat) : val true (l.take n) = val true l / 2 ^ (l.length - n) := by
  simp only [val, if_true, List.reverse_take, lowv_drop]

/-- The byte of at most eight bits; noughts lack behind. -/
def byteOf (high : Bool) (ch : List Bool) : Nat := if high then val true ch * 2 ^ (8 - ch.length) else val false ch
/-- A row's i-th byte. -/
def byteAt (high : Bool) (l : List Bool) (i : Nat) : Nat := byteOf high ((l.drop (8 * i)).take 8)
/-- A row's first q bytes. -/
def fulls (high : Bool) (l : List Bool) (q : Nat) : List Int := (List.range q).map fun i => (byteAt high l i : Int)
/-- All its bytes. -/
def packed (high : Bool) (l : List Bool) : List Int := fulls high l ((l.length + 7) / 8)

theorem byteOf_lt (high : Bool) {ch : List Bool} (h : ch.length ≤ 8) : byteOf high ch < 256 := by
  have hlt := val_lt high ch
  cases high
  · have hp : 2 ^ ch.length ≤ 2 ^ 8 := Nat.pow_le_pow_right (by omega) h
    simp only [byteOf, Bool.false_eq_true, if_false]; omega
  · simp only [byteOf, if_true]
    have e : 2 ^ ch.length * 2 ^ (8 - ch.length) = 256 := by rw [← Nat.pow_add, show ch.length + (8 - ch.length) = 8 by omega]
    have : val true ch * 2 ^ (8 - ch.length) < 2 ^ ch.length * 2 ^ (8 - ch.length) := Nat.mul_lt_mul_of_pos_right hlt (Nat.two_pow_pos _)
    omega
theorem byteAt_lt (high : Bool) (l : List Bool) (i : Nat) : byteAt high l i < 256 := byteOf_lt high (by simp; omega)
theorem fulls_length (high : Bool) (l : List Bool) (q : Nat) : (fulls high l q).length = q := by simp [fulls]
theorem fulls_byte (high : Bool) (l : List Bool) (q : Nat) : ∀ x ∈ fulls high l q, 0 ≤ x ∧ x ≤ 255 := by
  intro x hx
  simp only [fulls, List.mem_map] at hx
  obtain ⟨i, _, rfl⟩ := hx
  have := byteAt_lt high l i
  omega
theorem fulls_succ (high : Bool) (l : List Bool) (q : Nat) : fulls high l (q + 1) = fulls high l q ++ [(byteAt high l q : Int)] := by
  simp [fulls, List.range_succ]
theorem fulls_get (high : Bool) (l : List Bool) (q i : Nat) (h : i < q) : (fulls high l q)[i]? = some (byteAt high l i : Int) := by
  simp [fulls, h]
/-- Bits behind a full byte don't turn it. -/
theorem fulls_more (high : Bool) (l m : List Bool) (q : Nat) (h : 8 * q ≤ l.length) : fulls high (l ++ m) q = fulls high l q := by
  simp only [fulls]
  refine List.map_congr_left ?_
  intro i hi
  rw [List.mem_range] at hi
  simp only [byteAt]
  rw [List.drop_append_of_le_length (by omega), List.take_append_of_le_length (by simp; omega)]
theorem byteAt_full (high : Bool) (l : List Bool) (q : Nat) (h : 8 * q + 8 ≤ l.length) : byteAt high l q = val high ((l.drop (8 * q)).take 8) := by
  have e : ((l.drop (8 * q)).take 8).length = 8 := by simp; omega
  simp only [byteAt, byteOf, e]
  cases high <;> simp

/-! What the operators answer. -/
theorem wrap_i64 (n : Int) (h0 : -9223372036854775808 ≤ n) (h1 : n ≤ 9223372036854775807) : IntKind.i64.wrap n = n := by
  simp [IntKind.wrap, IntKind.bits, IntKind.signed]
  omega
theorem ofInt_i64 (a : Nat) (ha : a < 9223372036854775808) : (BitVec.ofInt 64 (a : Int)).toNat = a := by
  rw [BitVec.ofInt_natCast, BitVec.toNat_ofNat]; exact Nat.mod_eq_of_lt (by omega)
theorem i64_and_nat (a b : Nat) (ha : a < 9223372036854775808) (hb : b < 9223372036854775808) : bits .and .i64 (a : Int) (b : Int) = ((a &&& b : Nat) : Int) := by
  have hx : a &&& b < 2 ^ 63 := Nat.and_lt_two_pow _ (by omega)
  show IntKind.i64.wrap ((BitVec.ofInt 64 (a : Int) &&& BitVec.ofInt 64 (b : Int)).toNat : Int) = _
  rw [BitVec.toNat_and, ofInt_i64 a ha, ofInt_i64 b hb, wrap_i64 _ (by omega) (by omega)]
theorem i64_or_nat (a b : Nat) (ha : a < 9223372036854775808) (hb : b < 9223372036854775808) : bits .or .i64 (a : Int) (b : Int) = ((a ||| b : Nat) : Int) := by
  have hx : a ||| b < 2 ^ 63 := Nat.or_lt_two_pow (by omega) (by omega)
  show IntKind.i64.wrap ((BitVec.ofInt 64 (a : Int) ||| BitVec.ofInt 64 (b : Int)).toNat : Int) = _
  rw [BitVec.toNat_or, ofInt_i64 a ha, ofInt_i64 b hb, wrap_i64 _ (by omega) (by omega)]
theorem i64_mask (a n : Nat) (ha : a < 9223372036854775808) (hn : n ≤ 62) : bits .and .i64 (a : Int) ((2 ^ n - 1 : Nat) : Int) = ((a % 2 ^ n : Nat) : Int) := by
  have hp : 2 ^ n ≤ 2 ^ 62 := Nat.pow_le_pow_right (by omega) hn
  rw [i64_and_nat a _ ha (by omega), Nat.and_two_pow_sub_one_eq_mod]
/-- The lowest bit, of a number below 0 too. -/
theorem i64_one (v : Int) (h0 : -9223372036854775808 ≤ v) (h1 : v ≤ 9223372036854775807) : bits .and .i64 v 1 = v % 2 := by
  show IntKind.i64.wrap ((BitVec.ofInt 64 v &&& BitVec.ofInt 64 1).toNat : Int) = _
  have e1 : (BitVec.ofInt 64 1).toNat = 1 := by decide
  rw [BitVec.toNat_and, e1, Nat.and_one_is_mod, BitVec.toNat_ofInt]
  rw [wrap_i64 _ (by omega) (by omega)]
  simp
  omega
theorem shl_i64 (x n : Nat) (hn : n ≤ 40) (hx : x * 2 ^ n ≤ 9223372036854775807) : IntKind.i64.wrap ((x : Int) * 2 ^ min n 64) = ((x * 2 ^ n : Nat) : Int) := by
  rw [Nat.min_eq_left (by omega)]
  have e : (x : Int) * 2 ^ n = ((x * 2 ^ n : Nat) : Int) := by simp
  rw [e]
  exact wrap_i64 _ (by omega) (by omega)
end Go.Proofs.YtpmoknnhgginjaaDoor.Bi

/- What memory holds of a writer; the contracts of mask, New and Count. -/
namespace Go.Proofs.YtpmoknnhgginjaaDoor.Bi
set_option linter.unusedVariables false
open Go.RowKit

/-- The blocks outside S are as they were. -/
structure Keeps (S : Nat → Prop) (w w' : World) : Prop where
  os : w'.os = w.os
  tape : w'.tape = w.tape
  output : w'.output = w.output
  size : w.heap.size ≤ w'.heap.size
  block : ∀ k, k < w.heap.size → ¬ S k → w'.heap[k]? = w.heap[k]?

theorem Keeps.refl (S : Nat → Prop) (w : World) : Keeps S w w := ⟨rfl, rfl, rfl, Nat.le_refl _, fun _ _ _ => rfl⟩
theorem Keeps.trans {S S1 : Nat → Prop} {a b c : World} (h : Keeps S a b) (k : Keeps S1 b c) (hS : ∀ i, i < a.heap.size → S1 i → S i) : Keeps S a c :=
  ⟨k.os.trans h.os, k.tape.trans h.tape, k.output.trans h.output, Nat.le_trans h.size k.size,
    fun i hi hn => (k.block i (Nat.lt_of_lt_of_le hi h.size) (fun s => hn (hS i hi s))).trans (h.block i hi hn)⟩
theorem Keeps.mono {S S1 : Nat → Prop} {a b : World} (h : Keeps S a b) (hS : ∀ i, i < a.heap.size → S i → S1 i) : Keeps S1 a b :=
  ⟨h.os, h.tape, h.output, h.size, fun i hi hn => h.block i hi (fun s => hn (hS i hi s))⟩
theorem Keeps.drewN {S : Nat → Prop} {a w : World} (h : Keeps S a w) (n : Nat) : Keeps S a (w.drewN n) := ⟨h.os, h.tape, h.output, h.size, h.block⟩
theorem Keeps.drew {S : Nat → Prop} {a w : World} (h : Keeps S a w) : Keeps S a w.drew := ⟨h.os, h.tape, h.output, h.size, h.block⟩
theorem Keeps.alloc {S : Nat → Prop} {a w : World} (h : Keeps S a w) (o : Obj) : Keeps S a (w.alloc o) :=
  ⟨h.os, h.tape, h.output, by have := h.size; simp; omega, fun i hi hn => (Below.heap_alloc _ _ _ (Nat.lt_of_lt_of_le hi h.size)).trans (h.block i hi hn)⟩
theorem Keeps.setCell {S : Nat → Prop} {a w : World} (h : Keeps S a w) {p : Addr} (hp : p.block < a.heap.size → S p.block) (u : Value) : Keeps S a (w.setCell p u) :=
  ⟨h.os, h.tape, h.output, by simp [World.setCell]; exact h.size, fun i hi hn => (Below.heap_setCell _ _ _ _ (fun e => hn (by subst e; exact hp hi))).trans (h.block i hi hn)⟩
theorem Keeps.grown {S : Nat → Prop} {a w w' : World} {row : Option Nat} (h : Keeps S a w) (hg : w.grownBy w' row) (hr : ∀ k, k < a.heap.size → row = some k → S k) : Keeps S a w' :=
  ⟨hg.os.trans h.os, hg.tape.trans h.tape, hg.output.trans h.output, Nat.le_trans h.size hg.size,
    fun i hi hn => (hg.block i (Nat.lt_of_lt_of_le hi h.size) (fun e => hn (hr i hi e.symm))).trans (h.block i hi hn)⟩
theorem Keeps.below {S : Nat → Prop} {B : Nat} {w w' : World} (h : Keeps S w w') (hB : B ≤ w.heap.size) (hS : ∀ k, k < B → ¬ S k) : Below B w w' :=
  ⟨h.os, h.tape, h.output, h.size, fun k hk => h.block k (by omega) (hS k hk)⟩
theorem below_keeps {w w' : World} (h : Below w.heap.size w w') : Keeps (fun _ => False) w w' := ⟨h.os, h.tape, h.output, h.size, fun k hk _ => h.block k hk⟩

/-- A writer at block P; its full bytes lie in block D; both from B on. -/
structure Raw (w : World) (B P : Nat) (D : Option Nat) (high : Bool) (xs : List Int) (rest used : Int) : Prop where
  at_ : B ≤ P
  byte : ∀ x ∈ xs, 0 ≤ x ∧ x ≤ 255
  holds : ∃ v, w.heap[P]? = some (.cells #[.bool high, v, .int .i64 rest, .int .i64 used] 47 (0, 0)) ∧ w.ownsRow B 5 1 v xs.length (xs.map (Value.int .u8)) ∧ v.ownBlock = D
  apart : D ≠ some P

variable {w w' : World} {B P : Nat} {D : Option Nat} {high : Bool} {xs : List Int} {rest used : Int}

/-- What stays: a writer whose two blocks are as they were. -/
theorem Raw.kept (h : Raw w B P D high xs rest used) (hP : w'.heap[P]? = w.heap[P]?) (hD : ∀ k, D = some k → w'.heap[k]? = w.heap[k]?) : Raw w' B P D high xs rest used := by
  obtain ⟨v, hb, hv, hd⟩ := h.holds
  refine ⟨h.at_, h.byte, ⟨v, hP.trans hb, ?_, hd⟩, h.apart⟩
  obtain ⟨h1, h2⟩ := hv
  refine ⟨h1, ?_⟩
  rcases h2 with h2 | ⟨g, cap, cur, rfl, hg, hh, r⟩
  · exact Or.inl h2
  · exact Or.inr ⟨g, cap, cur, rfl, hg, (hD g (by rw [← hd]; rfl)).trans hh, r⟩
theorem Raw.lt (h : Raw w B P D high xs rest used) : P < w.heap.size := by
  obtain ⟨v, hb, _⟩ := h.holds
  exact lt_of_block hb
theorem Raw.data_lt (h : Raw w B P D high xs rest used) {k : Nat} (hk : D = some k) : B ≤ k ∧ k < w.heap.size := by
  obtain ⟨v, _, hv, hd⟩ := h.holds
  exact hv.lt k (hd.trans hk)
theorem Raw.keeps {S : Nat → Prop} (h : Raw w B P D high xs rest used) (hk : Keeps S w w') (hP : ¬ S P) (hD : ∀ k, D = some k → ¬ S k) : Raw w' B P D high xs rest used :=
  h.kept (hk.block P h.lt hP) (fun k e => hk.block k (h.data_lt e).2 (hD k e))

theorem block_set {w : World} {R i : Nat} {c : Array Value} {t : TypeId} {f : Nat × Nat} (h : w.heap[R]? = some (.cells c t f)) (u : Value) :
    (w.setCell ⟨R, i, none⟩ u).heap[R]? = some (.cells (c.setIfInBounds i u) t f) := by
  simp only [World.setCell, Array.getElem?_modify, h]
  simp
/-- The cells of a writer's block. -/
theorem writer_cells {w : World} {R : Nat} {a b c d : Value} {t : TypeId} (h : w.heap[R]? = some (.cells #[a, b, c, d] t (0, 0))) :
    w.cell? ⟨R, 0, none⟩ = some a ∧ w.cell? ⟨R, 1, none⟩ = some b ∧ w.cell? ⟨R, 2, none⟩ = some c ∧ w.cell? ⟨R, 3, none⟩ = some d := by
  simp [World.cell?, h]
theorem block_free {w : World} {R : Nat} {c : Array Value} {t : TypeId} (h : w.heap[R]? = some (.cells c t (0, 0))) (i : Nat) : w.frozen? ⟨R, i, none⟩ = false := by
  simp [World.frozen?, h]
theorem Raw.set_rest (h : Raw w B P D high xs rest used) (r : Int) : Raw (w.setCell ⟨P, 2, none⟩ (.int .i64 r)) B P D high xs r used := by
  obtain ⟨v, hb, hv, hd⟩ := h.holds
  refine ⟨h.at_, h.byte, ⟨v, ?_, ownsRow_setCell_other hv (by rw [hd]; exact h.apart) _, hd⟩, h.apart⟩
  rw [block_set hb]; simp
theorem Raw.set_used (h : Raw w B P D high xs rest used) (r : Int) : Raw (w.setCell ⟨P, 3, none⟩ (.int .i64 r)) B P D high xs rest r := by
  obtain ⟨v, hb, hv, hd⟩ := h.holds
  refine ⟨h.at_, h.byte, ⟨v, ?_, ownsRow_setCell_other hv (by rw [hd]; exact h.apart) _, hd⟩, h.apart⟩
  rw [block_set hb]; simp
/-- The full bytes' value set. -/
theorem Raw.set_full {w1 : World} {D' : Option Nat} {ys : List Int} (h : Raw w B P D high xs rest used) (hP : w1.heap[P]? = w.heap[P]?) (V : Value) (hy : ∀ x ∈ ys, 0 ≤ x ∧ x ≤ 255)
    (hown : w1.ownsRow B 5 1 V ys.length (ys.map (Value.int .u8))) (hV : V.ownBlock = D') (ha : D' ≠ some P) :
    Raw (w1.setCell ⟨P, 1, none⟩ V) B P D' high ys rest used := by
  obtain ⟨v, hb, _, _⟩ := h.holds
  refine ⟨h.at_, hy, ⟨V, ?_, ownsRow_setCell_other hown (by rw [hV]; exact ha) _, hV⟩, ha⟩
  rw [block_set (hP.trans hb) V]; simp
/-- What a walk reads of one. -/
theorem Raw.open (h : Raw w B P D high xs rest used) : ∃ a c, w.cell? ⟨P, 0, none⟩ = some (.bool high) ∧ w.cell? ⟨P, 1, none⟩ = some (.slice a xs.length c) ∧ w.cell? ⟨P, 2, none⟩ = some (.int .i64 rest) ∧ w.cell? ⟨P, 3, none⟩ = some (.int .i64 used) ∧
    (∀ i, w.frozen? ⟨P, i, none⟩ = false) ∧ w.ownsRow B 5 1 (.slice a xs.length c) xs.length (xs.map (Value.int .u8)) ∧ (Value.slice a xs.length c).ownBlock = D := by
  obtain ⟨v, hb, hv, hd⟩ := h.holds
  obtain ⟨h0, h1, h2, h3⟩ := writer_cells hb
  obtain ⟨a, c, rfl⟩ : ∃ a c, v = .slice a xs.length c := by
    rcases hv.2 with ⟨h, h'⟩ | ⟨g, cap, _, h, _⟩
    · exact ⟨_, _, by rw [h, h']⟩
    · exact ⟨_, _, h⟩
  exact ⟨a, c, h0, h1, h2, h3, fun i => block_free hb i, hv, hd⟩

/-- A writer of a row of bits. -/
def Wr (w : World) (B P : Nat) (D : Option Nat) (high : Bool) (L : List Bool) : Prop :=
  Raw w B P D high (fulls high L (L.length / 8)) (val high (L.drop (8 * (L.length / 8))) : Nat) (L.length % 8 : Nat)

theorem two_pow_cast (n : Nat) : ((2 : Int) ^ n) = ((2 ^ n : Nat) : Int) := by simp

theorem mask_any (w : World) (n : Nat) (hn : n ≤ 40) : Calls Tryd.prog 17 #[.int .i64 n] w fun e w' => e = .returned (.int .i64 ((2 ^ n - 1 : Nat) : Int)) ∧ w = w' := by
  have e2 : wrap64 (wrap64 (2 ^ n) - 1) = ((2 ^ n - 1 : Nat) : Int) := by
    have hp : 2 ^ n ≤ 2 ^ 40 := Nat.pow_le_pow_right (by omega) hn
    have hp1 : 0 < 2 ^ n := Nat.two_pow_pos n
    rw [two_pow_cast]
    generalize 2 ^ n = p at *
    rw [IntWalk.wrap64_in (p : Int) (by omega), IntWalk.wrap64_in _ (by omega)]
    omega
  have E := Lib.hid e2
  clear e2
  go_enter Tryd.func17, Tryd.ntmps17
  go_wp2
  go_ret
  exact ⟨congrArg (fun z => Ending.returned (.int .i64 z)) E.out, rfl⟩

theorem new_any (w : World) (B : Nat) (hB : B ≤ w.heap.size) (high : Bool) :
    Calls Tryd.prog 6 #[.bool high] w fun e w' => e = .returned (.pointer (some ⟨w.heap.size, 0, none⟩)) ∧ Wr w' B w.heap.size none high [] ∧ w'.heap.size = w.heap.size + 1 ∧ Keeps (fun _ => False) w w' := by
  go_enter Tryd.func6, Tryd.ntmps6
  go_wp2
  go_ret
  refine ⟨rfl, ⟨hB, by simp [fulls], ⟨.slice none 0 0, ?_, World.ownsRow_nil _ _ _ _, rfl⟩, by simp⟩, by simp, (Keeps.refl _ _).alloc _⟩
  rw [heap_alloc_new]
  cases high <;> rfl

end Go.Proofs.YtpmoknnhgginjaaDoor.Bi

/- The contract of putLow. -/
namespace Go.Proofs.YtpmoknnhgginjaaDoor.Bi
set_option linter.unusedVariables false
open Go.RowKit

theorem info5 : (Tryd.prog.info? 5).map (fun i => (i.zero, i.size, i.bytes)) = some (some (.int .u8 0), 1, 1) := by kernel_rfl

/-- Behind a call that a writer goes on by: its row, and what else stays. -/
def Then (w : World) (B P : Nat) (D : Option Nat) (high : Bool) (L : List Bool) (w' : World) : Prop :=
  ∃ D', Wr w' B P D' high L ∧ Keeps (fun k => k = P ∨ some k = D) w w' ∧ (D' = D ∨ ∃ k, D' = some k ∧ w.heap.size ≤ k)

/-- Within the loop: q bytes of the row are full. -/
def Part (w : World) (B P : Nat) (D : Option Nat) (M : List Bool) (q : Nat) (wr : World) : Prop :=
  8 * q ≤ M.length ∧ ∃ D', Raw wr B P D' false (fulls false M q) (val false (M.drop (8 * q)) : Nat) ((M.length - 8 * q : Nat) : Int) ∧ Keeps (fun k => k = P ∨ some k = D) w wr ∧ (D' = D ∨ ∃ k, D' = some k ∧ w.heap.size ≤ k)

/-- A writer's count as it lies in memory. -/
def usedOf (P : Nat) (w : World) : Nat := match w.cell? ⟨P, 3, none⟩ with
  | some (.int _ n) => n.toNat
  | _ => 0
theorem usedOf_eq {P : Nat} {w : World} {n : Int} (h : w.cell? ⟨P, 3, none⟩ = some (.int .i64 n)) : usedOf P w = n.toNat := by
  unfold usedOf; rw [h]

theorem wrap_u8_nat (n : Nat) : IntKind.u8.wrap (n : Int) = ((n % 256 : Nat) : Int) := by
  simp [IntKind.wrap, IntKind.bits, IntKind.signed]

/-- One byte more. -/
theorem Raw.pushed {w W w1 : World} {B P : Nat} {D : Option Nat} {high : Bool} {xs : List Int} {rest used b : Int} (h : Raw w B P D high xs rest used) (hb : 0 ≤ b ∧ b ≤ 255)
    (hW : Below w.heap.size w W) {v v' : Value} (hv : v.ownBlock = D) (hown : w1.ownsRow B 5 1 v' (xs.length + 1) (xs.map (Value.int .u8) ++ [.int .u8 b])) (hg : W.grownBy w1 v.ownBlock) (hat : v'.ownBlock = v.ownBlock ∨ v'.ownBlock = some W.heap.size) :
    ∃ D', Raw (w1.setCell ⟨P, 1, none⟩ v') B P D' high (xs ++ [b]) rest used ∧ Keeps (fun k => k = P ∨ some k = D) w (w1.setCell ⟨P, 1, none⟩ v') ∧ (D' = D ∨ ∃ k, D' = some k ∧ w.heap.size ≤ k) := by
  have hPlt := h.lt
  have hPW : P < W.heap.size := Nat.lt_of_lt_of_le hPlt hW.size
  have hP : w1.heap[P]? = w.heap[P]? := (hg.block P hPW (by rw [hv]; exact fun e => h.apart e.symm)).trans (hW.block P hPlt)
  have hD' : v'.ownBlock = D ∨ ∃ k, v'.ownBlock = some k ∧ w.heap.size ≤ k := by
    rcases hat with e | e
    · exact Or.inl (e.trans hv)
    · exact Or.inr ⟨_, e, hW.size⟩
  have ha : v'.ownBlock ≠ some P := by
    rcases hD' with e | ⟨k, e, hk⟩
    · rw [e]; exact h.apart
    · rw [e]; simp; omega
  refine ⟨v'.ownBlock, h.set_full hP v' ?_ (by simpa using hown) rfl ha, ?_, hD'⟩
  · intro x hx
    rcases List.mem_append.1 hx with hx | hx
    · exact h.byte x hx
    · rw [List.mem_singleton] at hx; subst hx; exact hb
  · refine Keeps.setCell (p := ⟨P, 1, none⟩) ?_ (fun _ => Or.inl rfl) _
    exact ((below_keeps hW).mono (fun _ _ f => f.elim)).grown hg (fun k _ e => Or.inr (e.symm.trans hv))

theorem Then.step {w W w' : World} {P : Nat} {D D1 : Option Nat} (hk : Keeps (fun k => k = P ∨ some k = D) w W) (hD : D1 = D ∨ ∃ k, D1 = some k ∧ w.heap.size ≤ k)
    {D' : Option Nat} (hk' : Keeps (fun k => k = P ∨ some k = D1) W w') (hD' : D' = D1 ∨ ∃ k, D' = some k ∧ W.heap.size ≤ k) : Keeps (fun k => k = P ∨ some k = D) w w' ∧ (D' = D ∨ ∃ k, D' = some k ∧ w.heap.size ≤ k) := by
  refine ⟨hk.trans hk' ?_, ?_⟩
  · intro i hi h
    rcases h with h | h
    · exact Or.inl h
    · rcases hD with rfl | ⟨k, rfl, hk2⟩
      · exact Or.inr h
      · simp only [Option.some.injEq] at h; omega
  · rcases hD' with rfl | ⟨k, h1, h2⟩
    · exact hD
    · exact Or.inr ⟨k, h1, Nat.le_trans hk.size h2⟩

theorem own_kept {w w' : World} {B n : Nat} {v : Value} {xs : List Value} (h : w.ownsRow B 5 1 v n xs) (hk : ∀ k, v.ownBlock = some k → w'.heap[k]? = w.heap[k]?) : w'.ownsRow B 5 1 v n xs := by
  obtain ⟨h1, h2⟩ := h
  refine ⟨h1, ?_⟩
  rcases h2 with h2 | ⟨g, cap, cur, rfl, hg, hh, r⟩
  · exact Or.inl h2
  · exact Or.inr ⟨g, cap, cur, rfl, hg, (hk g rfl).trans hh, r⟩

/-- append of one byte to a row of the call's own, as one step. -/
theorem run_append_byte (w : World) (ty : TypeId) (base n : Nat) (v : Value) (xs : List Int) (hown : w.ownsRow base 5 1 v n (xs.map (Value.int .u8))) (ad : Addr) (c : Nat) (b : Int) (hcell : w.cell? ad = some (.int .u8 b)) (hb : n ≤ 33554432) (hbase : base ≤ w.heap.size) :
    ∃ aa cap w', (Builtin.append_ #[26, 26] ty #[v, .slice (some ad) 1 c]).run Tryd.prog w = .ok (.slice aa (n + 1) cap) w' ∧
      w'.ownsRow base 5 1 (.slice aa (n + 1) cap) (n + 1) (xs.map (Value.int .u8) ++ [.int .u8 b]) ∧ w.grownBy w' v.ownBlock ∧ ((Value.slice aa (n + 1) cap).ownBlock = v.ownBlock ∨ (Value.slice aa (n + 1) cap).ownBlock = some w.heap.size) := by
  obtain ⟨i0, hi, hz0, hz1, hz2⟩ := info_parts info5
  obtain ⟨v', w', hr, h1, h2, h4, h5⟩ := run_append_own_at (P := Tryd.prog) w base 26 ty 5 i0 (.int .u8 0) 1 1 Tryd.underlying26 hi hz0 hz1 hz2 rfl (by decide) v n _ hown ad 1 c [.int .u8 b] rfl
    (by
      intro j u hj
      cases j with
      | zero => simp only [List.getElem?_cons_zero, Option.some.injEq] at hj; subst hj; exact hcell
      | succ j => simp at hj)
    (by intro u hu; simp only [List.mem_singleton] at hu; subst hu; rfl) (by unfold maxLen; omega) (by omega) hbase
  rcases h1.2 with ⟨e, _⟩ | ⟨g, cap, _, e, _⟩
  · have := (h4.1 e).2
    omega
  · subst e
    exact ⟨_, _, w', hr, h1, h2, h5⟩

theorem step_append_byte {w : World} {ops : Array Oper} {o : Oper} {a : Act} {K : Act → World → Prop} {Q : Exit → Act → World → Prop} {E : Prop} (hgd : o.guard = none) (s x : Operand) (ho : o.op = .call { callee := .builtin .append, args := #[s, x], argTypes := #[26, 26] })
    (base n : Nat) (v : Value) (xs : List Int) (hs : a.eval s = v) (hown : w.ownsRow base 5 1 v n (xs.map (Value.int .u8)))
    (ad : Addr) (c : Nat) (b : Int) (hx : a.eval x = .slice (some ad) 1 c) (hcell : w.cell? ad = some (.int .u8 b)) (hb : n ≤ 33554432) (hbase : base ≤ w.heap.size)
    (h : ∀ aa cap w', w'.ownsRow base 5 1 (.slice aa (n + 1) cap) (n + 1) (xs.map (Value.int .u8) ++ [.int .u8 b]) → w.grownBy w' v.ownBlock → ((Value.slice aa (n + 1) cap).ownBlock = v.ownBlock ∨ (Value.slice aa (n + 1) cap).ownBlock = some w.heap.size) → K (a.put o.dst (.slice aa (n + 1) cap)) w') :
    if Region.wanted o (yielded ops a.tmps) = true then Oper.wp Tryd.prog o a w K Q else E := by
  have hw : Region.wanted o (yielded ops a.tmps) = true := by simp [Region.wanted, hgd]
  rw [if_pos hw]
  obtain ⟨aa, cap, w', hr, h1, h2, h3⟩ := run_append_byte w o.type base n v xs hown ad c b hcell hb hbase
  unfold Oper.wp execOp
  simp only [ho, resolve, invoke, builtin, Sem.run_bind, Sem.run_pure, Result.andThen_ok, List.map_toArray, List.map_cons, List.map_nil, hs, hx, hr]
  exact h aa cap w' h1 h2 h3

theorem part_step {w wr w2 : World} {B P : Nat} {D D1 D2 : Option Nat} {M : List Bool} {q s R : Nat} (hk : Keeps (fun k => k = P ∨ some k = D) w wr) (hD : D1 = D ∨ ∃ k, D1 = some k ∧ w.heap.size ≤ k) (hs : s = M.length - 8 * q) (hge : 8 ≤ s) (hR : val false (M.drop (8 * q)) = R)
    (r2 : Raw w2 B P D2 false (fulls false M q ++ [IntKind.u8.wrap (R : Int)]) R ((M.length - 8 * q : Nat) : Int)) (b2 : Keeps (fun k => k = P ∨ some k = D1) wr w2) (d2 : D2 = D1 ∨ ∃ k, D2 = some k ∧ wr.heap.size ≤ k) :
    Part w B P D M (q + 1) ((w2.setCell ⟨P, 2, none⟩ (.int .i64 ((R : Int) / 256))).setCell ⟨P, 3, none⟩ (.int .i64 ((s : Int) - 8))) := by
  obtain ⟨h1, h2⟩ := Then.step hk hD b2 d2
  refine ⟨by omega, D2, ?_, ((h1.setCell (p := ⟨P, 2, none⟩) (fun _ => Or.inl rfl) _).setCell (p := ⟨P, 3, none⟩) (fun _ => Or.inl rfl) _), h2⟩
  have k := (Raw.set_rest r2 ((R : Int) / 256)).set_used ((s : Int) - 8)
  have e1 : fulls false M (q + 1) = fulls false M q ++ [IntKind.u8.wrap (R : Int)] := by
    rw [fulls_succ, byteAt_full _ _ _ (by omega), low_take, hR, wrap_u8_nat]
  have e2 : val false (M.drop (8 * (q + 1))) = R / 256 := by
    rw [show 8 * (q + 1) = 8 * q + 8 by omega, ← List.drop_drop, low_drop, hR]
  rw [e1, e2, show ((R / 256 : Nat) : Int) = (R : Int) / 256 by simp, show ((M.length - 8 * (q + 1) : Nat) : Int) = (s : Int) - 8 by omega]
  exact k

theorem part_used {w wr : World} {B P : Nat} {D : Option Nat} {M : List Bool} {q : Nat} (h : Part w B P D M q wr) : usedOf P wr = M.length - 8 * q := by
  obtain ⟨h1, D', h2, h3⟩ := h
  obtain ⟨a, c, _, _, _, k3, _⟩ := h2.open
  rw [usedOf_eq k3, Int.toNat_natCast]

theorem part_done {w wr : World} {B P : Nat} {D : Option Nat} {M : List Bool} {q : Nat} (h : Part w B P D M q wr) (hlt : M.length - 8 * q < 8) : Then w B P D false M wr := by
  obtain ⟨h1, D', h2, h3⟩ := h
  have e : q = M.length / 8 := by omega
  subst e
  refine ⟨D', ?_, h3⟩
  rw [show M.length - 8 * (M.length / 8) = M.length % 8 by omega] at h2
  exact h2

set_option maxRecDepth 100000 in
set_option maxHeartbeats 800000 in
theorem putLow_any (w : World) (B P : Nat) (D : Option Nat) (L : List Bool) (h : Wr w B P D false L) (hB : B ≤ w.heap.size) (hl : L.length ≤ 16777216) (v n : Nat) (hn : n ≤ 24) (hv : v < 2 ^ n) :
    Calls Tryd.prog 19 #[.pointer (some ⟨P, 0, none⟩), .int .i64 v, .int .i64 n] w fun e w' => e = .returned (.tuple #[]) ∧ Then w B P D false (L ++ row false v n) w' := by
  have hu : L.length % 8 < 8 := Nat.mod_lt _ (by omega)
  have hr := val_lt false (L.drop (8 * (L.length / 8)))
  rw [List.length_drop, show L.length - 8 * (L.length / 8) = L.length % 8 by omega] at hr
  obtain ⟨a, c, h0, h1, h2, h3, hf, hown, hd⟩ := Raw.open h
  have f2 := hf 2
  have f3 := hf 3
  have hM : (L ++ row false v n).length = L.length + n := by rw [List.length_append, row_length]
  have hp : Part w B P D (L ++ row false v n) (L.length / 8) ((w.setCell ⟨P, 2, none⟩ (.int .i64 ((val false ((L ++ row false v n).drop (8 * (L.length / 8))) : Nat) : Int))).setCell ⟨P, 3, none⟩ (.int .i64 (((L.length % 8 : Nat) : Int) + n))).drew := by
    refine ⟨by omega, D, ?_, (((Keeps.refl _ w).setCell (p := ⟨P, 2, none⟩) (fun _ => Or.inl rfl) _).setCell (p := ⟨P, 3, none⟩) (fun _ => Or.inl rfl) _).drew, Or.inl rfl⟩
    have k := (Raw.set_rest h ((val false ((L ++ row false v n).drop (8 * (L.length / 8))) : Nat) : Int)).set_used (((L.length % 8 : Nat) : Int) + n)
    rw [fulls_more _ _ _ _ (by omega), hM, show ((L.length + n - 8 * (L.length / 8) : Nat) : Int) = ((L.length % 8 : Nat) : Int) + n by omega]
    exact k.kept rfl (fun _ _ => rfl)
  have he : bits .or .i64 ((val false (L.drop (8 * (L.length / 8))) : Nat) : Int) (wrap64 ((v : Int) * 2 ^ (L.length % 8))) = ((val false ((L ++ row false v n).drop (8 * (L.length / 8))) : Nat) : Int) := by
    have hu2 : 2 ^ (L.length % 8) ≤ 2 ^ 7 := Nat.pow_le_pow_right (by omega) (by omega)
    have hn2 : 2 ^ n ≤ 2 ^ 24 := Nat.pow_le_pow_right (by omega) hn
    have hb : v * 2 ^ (L.length % 8) ≤ 2 ^ 24 * 2 ^ 7 := Nat.mul_le_mul (by omega) hu2
    rw [two_pow_cast, ← Int.natCast_mul, IntWalk.wrap64_in _ (by omega), i64_or_nat _ _ (by omega) (by omega), List.drop_append_of_le_length (by omega), low_append, val_row hv, List.length_drop, show L.length - 8 * (L.length / 8) = L.length % 8 by omega, Nat.or_comm, nat_join (L.length % 8) _ _ (Nat.mul_mod_left _ _) hr, Nat.mul_comm, Nat.add_comm]
  generalize val false ((L ++ row false v n).drop (8 * (L.length / 8))) = r1 at *
  generalize val false (L.drop (8 * (L.length / 8))) = r0 at *
  generalize L.length / 8 = q0 at *
  generalize L.length % 8 = u at *
  generalize L ++ row false v n = M at *
  have HP := Lib.hid hp
  have HE := Lib.hid he
  have ML := Lib.hid (show M.length ≤ 33554432 by omega)
  clear hown hd h hr hf h0 h1 hp he hM hv
  go_enter Tryd.func19, Tryd.ntmps19
  go_wp2
  go_region
  rw [HE.out]
  go_wp2
  go_loopw [] (fun wr => ∃ q, Part w B P D M q wr) (fun wr => usedOf P wr)
  case atStart => exact ⟨q0, HP.out⟩
  case round =>
    obtain ⟨q, hq, D1, hraw, hk, hD⟩ := hrel
    obtain ⟨a1, c1, k0, k1, k2, k3, kf, kown, kd⟩ := hraw.open
    have f1' := kf 1
    have f2' := kf 2
    have f3' := kf 3
    obtain ⟨s, hs⟩ : ∃ s : Nat, s = M.length - 8 * q := ⟨_, rfl⟩
    have PT := Lib.hid (show Part w B P D M q wr from ⟨hq, D1, hraw, hk, hD⟩)
    have hs25 : s ≤ 33554432 := by have := ML.out; omega
    have HV := Lib.hid kown
    have HD := Lib.hid kd
    have HR := Lib.hid hraw
    have HK := Lib.hid hk
    have HD1 := Lib.hid hD
    have HQ := Lib.hid hq
    rw [← hs] at k3
    have HS := Lib.hid hs
    rw [fulls_length] at k1
    clear kown kd hraw hk hD hq k0 hs kf
    obtain ⟨i0, hi, hz0, hz1, hz2⟩ := info_parts info5
    by_cases hge : 8 ≤ s
    · generalize hR : val false (M.drop (8 * q)) = R at *
      have LB := Lib.hid (show Below wr.heap.size wr ((wr.alloc (.cells #[.int .u8 (IntKind.u8.wrap (R : Int))] 5)).drew) from ((Below.refl _ _).alloc (Nat.le_refl _) _).drew)
      have HV1 := Lib.hid (show ((wr.alloc (.cells #[.int .u8 (IntKind.u8.wrap (R : Int))] 5)).drew).ownsRow B 5 1 (.slice a1 q c1) q ((fulls false M q).map (Value.int .u8)) by
        have k := HV.out
        have hd := HD.out
        rw [fulls_length] at k hd
        exact own_kept k (fun k e => LB.out.block k (HR.out.data_lt (hd.symm.trans e)).2))
      have hPlt := HR.out.lt
      have hsz : B ≤ wr.heap.size := by have := HK.out.size; omega
      have hq25 : q ≤ 33554432 := by have := HQ.out; have := ML.out; omega
      have P1 := Lib.hid (fun (aa : Option Addr) (cap : Nat) (w1 : World) (hown : w1.ownsRow B 5 1 (.slice aa (q + 1) cap) (q + 1) ((fulls false M q).map (Value.int .u8) ++ [.int .u8 (IntKind.u8.wrap (R : Int))])) (hg : ((wr.alloc (.cells #[.int .u8 (IntKind.u8.wrap (R : Int))] 5)).drew).grownBy w1 (Value.slice a1 q c1).ownBlock)
          (hat : (Value.slice aa (q + 1) cap).ownBlock = (Value.slice a1 q c1).ownBlock ∨ (Value.slice aa (q + 1) cap).ownBlock = some ((wr.alloc (.cells #[.int .u8 (IntKind.u8.wrap (R : Int))] 5)).drew).heap.size) =>
        HR.out.pushed (b := IntKind.u8.wrap (R : Int)) (by rw [wrap_u8_nat]; omega) LB.out (v := .slice a1 q c1) (v' := .slice aa (q + 1) cap) (by have := HD.out; rw [fulls_length] at this; exact this) (by rw [fulls_length]; exact hown) hg hat)
      have P2 := Lib.hid (fun (w1 : World) (hg : ((wr.alloc (.cells #[.int .u8 (IntKind.u8.wrap (R : Int))] 5)).drew).grownBy w1 (Value.slice a1 q c1).ownBlock) => show w1.cell? ⟨P, 1, none⟩ = some (.slice a1 q c1) ∧ w1.frozen? ⟨P, 1, none⟩ = false by
        have hPlt := HR.out.lt
        have hP : w1.heap[P]? = wr.heap[P]? := (hg.block P (Nat.lt_of_lt_of_le hPlt LB.out.size) (by have := HD.out; rw [fulls_length] at this; rw [this]; exact fun e => HR.out.apart e.symm)).trans (LB.out.block P hPlt)
        exact ⟨(World.cell?_of_block (w := wr) hP).trans k1, (World.frozen?_of_block (w := wr) hP).trans f1'⟩)
      go_wp2
      go_region_law (refine step_append_byte (by rfl) (.tmp 43) (.tmp 49) (by rfl) B q (.slice a1 q c1) (fulls false M q) (by rfl) HV1.out ⟨wr.heap.size, 0, none⟩ 1 (IntKind.u8.wrap (R : Int)) (by rfl) (by simp) hq25 (by simp; omega) ?_; intro aa cap w1 hown1 hgrow1 hat1; have q1 := P2.out w1 hgrow1)
      all_goals
        obtain ⟨D2, r2, b2, d2⟩ := P1.out _ _ _ hown1 hgrow1 hat1
        obtain ⟨a3, c3, g0, g1, g2, g3, gf, gown, gd⟩ := r2.open
        have gf2 := gf 2
        have gf3 := gf 3
        rw [← HS.out] at g3
        have X := Lib.hid (part_step HK.out HD1.out HS.out hge hR r2 b2 d2)
        clear hown1 hgrow1 hat1 q1 r2 b2 d2 g0 g1 gf gown gd
        generalize w1.setCell ⟨P, 1, none⟩ (.slice aa (q + 1) cap) = w2 at *
        clear k1 k2 k3 f1' f2' f3'
        go_wp2
        go_roundw
        case rel => exact ⟨q + 1, X.out⟩
        case measure =>
          rw [part_used PT.out, part_used X.out]
          have := HS.out
          omega
    · go_wp2
      go_end0
      exact ⟨rfl, part_done PT.out (by have := HS.out; omega)⟩
end Go.Proofs.YtpmoknnhgginjaaDoor.Bi

/- The contract of putHigh. -/
namespace Go.Proofs.YtpmoknnhgginjaaDoor.Bi
set_option linter.unusedVariables false
open Go.RowKit

/-- Within the loop: q bytes of the row are full; the number is still that of all bits behind the first q0 bytes. -/
def PartH (w : World) (B P : Nat) (D : Option Nat) (M : List Bool) (V : Nat) (q : Nat) (wr : World) : Prop :=
  8 * q ≤ M.length ∧ ∃ D', Raw wr B P D' true (fulls true M q) (V : Nat) ((M.length - 8 * q : Nat) : Int) ∧ Keeps (fun k => k = P ∨ some k = D) w wr ∧ (D' = D ∨ ∃ k, D' = some k ∧ w.heap.size ≤ k)

theorem partH_used {w wr : World} {B P : Nat} {D : Option Nat} {M : List Bool} {V q : Nat} (h : PartH w B P D M V q wr) : usedOf P wr = M.length - 8 * q := by
  obtain ⟨h1, D', h2, h3⟩ := h
  obtain ⟨a, c, _, _, _, k3, _⟩ := h2.open
  rw [usedOf_eq k3, Int.toNat_natCast]

/-- The byte that is next. -/
theorem next_byte (M : List Bool) (q0 q t V : Nat) (hq : q0 ≤ q) (ht : M.length = 8 * q + 8 + t) (hV : val true (M.drop (8 * q0)) = V) : IntKind.u8.wrap ((V : Int) / 2 ^ t) = (byteAt true M q : Int) := by
  rw [byteAt_full _ _ _ (by omega), two_pow_cast, ← Int.natCast_ediv, wrap_u8_nat, high_take, List.length_drop, show M.length - 8 * q - 8 = t by omega]
  congr 1
  have e : M.drop (8 * q) = (M.drop (8 * q0)).drop (8 * q - 8 * q0) := by rw [List.drop_drop]; congr 1; omega
  rw [e, high_drop, hV, List.length_drop, show M.length - 8 * q0 - (8 * q - 8 * q0) = t + 8 by omega, Nat.pow_add, Nat.mod_mul_right_div_self]

theorem partH_step {w wr w2 : World} {B P : Nat} {D D1 D2 : Option Nat} {M : List Bool} {V q t : Nat} {b : Int} (hk : Keeps (fun k => k = P ∨ some k = D) w wr) (hD : D1 = D ∨ ∃ k, D1 = some k ∧ w.heap.size ≤ k) (hs : M.length = 8 * q + 8 + t) (hb : b = (byteAt true M q : Int))
    (r2 : Raw w2 B P D2 true (fulls true M q ++ [b]) V (t : Nat)) (b2 : Keeps (fun k => k = P ∨ some k = D1) wr w2) (d2 : D2 = D1 ∨ ∃ k, D2 = some k ∧ wr.heap.size ≤ k) :
    PartH w B P D M V (q + 1) w2 := by
  obtain ⟨h1, h2⟩ := Then.step hk hD b2 d2
  refine ⟨by omega, D2, ?_, h1, h2⟩
  rw [fulls_succ, ← hb, show M.length - 8 * (q + 1) = t by omega]
  exact r2

theorem partH_done {w wr : World} {B P : Nat} {D : Option Nat} {M : List Bool} {V q0 q s : Nat} (hq : q0 ≤ q) (hs : M.length = 8 * q + s) (hs8 : s < 8) (hV : val true (M.drop (8 * q0)) = V) (hVlt : V < 2147483648) (h : PartH w B P D M V q wr) :
    Then w B P D true M ((wr.setCell ⟨P, 2, none⟩ (.int .i64 (bits .and .i64 (V : Int) ((2 ^ s - 1 : Nat) : Int)))).drew) := by
  obtain ⟨h1, D', h2, h3, h4⟩ := h
  have e1 : q = M.length / 8 := by omega
  have e2 : val true (M.drop (8 * (M.length / 8))) = V % 2 ^ s := by
    rw [show M.drop (8 * (M.length / 8)) = (M.drop (8 * q0)).drop (8 * q - 8 * q0) by rw [List.drop_drop]; congr 1; omega, high_drop, hV, List.length_drop, show M.length - 8 * q0 - (8 * q - 8 * q0) = s by omega]
  rw [i64_mask V s (by omega) (by omega), ← e2]
  refine ⟨D', ?_, (h3.setCell (p := ⟨P, 2, none⟩) (fun _ => Or.inl rfl) _).drew, h4⟩
  have k := Raw.set_rest h2 ((val true (M.drop (8 * (M.length / 8))) : Nat) : Int)
  rw [show M.length - 8 * q = M.length % 8 by omega, e1] at k
  exact k.kept rfl (fun _ _ => rfl)

set_option maxRecDepth 100000 in
set_option maxHeartbeats 800000 in
theorem putHigh_any (w : World) (B P : Nat) (D : Option Nat) (L : List Bool) (h : Wr w B P D true L) (hB : B ≤ w.heap.size) (hl : L.length ≤ 16777216) (v n : Nat) (hn : n ≤ 24) (hv : v < 2 ^ n) :
    Calls Tryd.prog 18 #[.pointer (some ⟨P, 0, none⟩), .int .i64 v, .int .i64 n] w fun e w' => e = .returned (.tuple #[]) ∧ Then w B P D true (L ++ row true v n) w' := by
  have hu : L.length % 8 < 8 := Nat.mod_lt _ (by omega)
  have hr := val_lt true (L.drop (8 * (L.length / 8)))
  rw [List.length_drop, show L.length - 8 * (L.length / 8) = L.length % 8 by omega] at hr
  obtain ⟨a, c, h0, h1, h2, h3, hf, hown, hd⟩ := Raw.open h
  have f2 := hf 2
  have f3 := hf 3
  have hM : (L ++ row true v n).length = L.length + n := by rw [List.length_append, row_length]
  have hp : PartH w B P D (L ++ row true v n) (val true ((L ++ row true v n).drop (8 * (L.length / 8)))) (L.length / 8) ((w.setCell ⟨P, 2, none⟩ (.int .i64 ((val true ((L ++ row true v n).drop (8 * (L.length / 8))) : Nat) : Int))).setCell ⟨P, 3, none⟩ (.int .i64 (((L.length % 8 : Nat) : Int) + n))) := by
    refine ⟨by omega, D, ?_, (((Keeps.refl _ w).setCell (p := ⟨P, 2, none⟩) (fun _ => Or.inl rfl) _).setCell (p := ⟨P, 3, none⟩) (fun _ => Or.inl rfl) _), Or.inl rfl⟩
    have k := (Raw.set_rest h ((val true ((L ++ row true v n).drop (8 * (L.length / 8))) : Nat) : Int)).set_used (((L.length % 8 : Nat) : Int) + n)
    rw [fulls_more _ _ _ _ (by omega), hM, show ((L.length + n - 8 * (L.length / 8) : Nat) : Int) = ((L.length % 8 : Nat) : Int) + n by omega]
    exact k
  have hu2 : 2 ^ (L.length % 8) ≤ 2 ^ 7 := Nat.pow_le_pow_right (by omega) (by omega)
  have hn2 : 2 ^ n ≤ 2 ^ 24 := Nat.pow_le_pow_right (by omega) hn
  have hVlt : val true ((L ++ row true v n).drop (8 * (L.length / 8))) < 2147483648 := by
    have h1 := val_lt true ((L ++ row true v n).drop (8 * (L.length / 8)))
    rw [List.length_drop, hM] at h1
    have h2 : 2 ^ (L.length + n - 8 * (L.length / 8)) ≤ 2 ^ 31 := Nat.pow_le_pow_right (by omega) (by omega)
    omega
  have he : bits .or .i64 (wrap64 (((val true (L.drop (8 * (L.length / 8))) : Nat) : Int) * 2 ^ n)) v = ((val true ((L ++ row true v n).drop (8 * (L.length / 8))) : Nat) : Int) := by
    have hb : val true (L.drop (8 * (L.length / 8))) * 2 ^ n ≤ 2 ^ 7 * 2 ^ 24 := Nat.mul_le_mul (by omega) hn2
    rw [two_pow_cast, ← Int.natCast_mul, IntWalk.wrap64_in _ (by omega), i64_or_nat _ _ (by omega) (by omega), List.drop_append_of_le_length (by omega), high_append, val_row hv, row_length, nat_join n _ _ (Nat.mul_mod_left _ _) hv]
  generalize hV : val true ((L ++ row true v n).drop (8 * (L.length / 8))) = V at *
  generalize val true (L.drop (8 * (L.length / 8))) = r0 at *
  have hq08 : L.length = 8 * (L.length / 8) + L.length % 8 := by omega
  generalize L.length / 8 = q0 at *
  generalize L.length % 8 = u at *
  generalize L ++ row true v n = M at *
  have HP := Lib.hid hp
  have HE := Lib.hid he
  have ML := Lib.hid (show M.length ≤ 33554432 ∧ M.length ≤ 8 * q0 + 31 by omega)
  have HV := Lib.hid hV
  have HL := Lib.hid hVlt
  clear hown hd h hr hf h0 h1 hp he hM hv hV hu2 hn2 hVlt
  go_enter Tryd.func18, Tryd.ntmps18
  go_wp2
  rw [HE.out]
  go_loopw [] (fun wr => ∃ q, q0 ≤ q ∧ PartH w B P D M V q wr) (fun wr => usedOf P wr)
  case atStart => exact ⟨q0, Nat.le_refl _, HP.out⟩
  case round =>
    obtain ⟨q, hq0, hp⟩ := hrel
    have PT := Lib.hid hp
    obtain ⟨hq, D1, hraw, hk, hD⟩ := hp
    obtain ⟨a1, c1, k0, k1, k2, k3, kf, kown, kd⟩ := hraw.open
    have f1' := kf 1
    have f2' := kf 2
    have f3' := kf 3
    obtain ⟨s, hs⟩ : ∃ s : Nat, s = M.length - 8 * q := ⟨_, rfl⟩
    have hs25 : s ≤ 31 := by have := ML.out; omega
    have HV0 := Lib.hid kown
    have HD := Lib.hid kd
    have HR := Lib.hid hraw
    have HK := Lib.hid hk
    have HD1 := Lib.hid hD
    have HQ := Lib.hid hq
    rw [← hs] at k3
    have HS := Lib.hid hs
    rw [fulls_length] at k1
    clear kown kd hraw hk hD hq k0 hs kf
    by_cases hge : 8 ≤ s
    · obtain ⟨t, rfl⟩ : ∃ t, s = t + 8 := ⟨s - 8, by omega⟩
      go_wp2
      have hm1 := HR.out.set_used (t : Int)
      have hm2 : Keeps (fun k => k = P ∨ some k = D1) wr (wr.setCell ⟨P, 3, none⟩ (.int .i64 (t : Int))) := (Keeps.refl _ wr).setCell (p := ⟨P, 3, none⟩) (fun _ => Or.inl rfl) _
      obtain ⟨a2, c2, m0, m1, m2, m3, mf, mown, md⟩ := hm1.open
      rw [fulls_length] at m1
      have mf1 := mf 1
      generalize wr.setCell ⟨P, 3, none⟩ (.int .i64 (t : Int)) = wm at *
      have hPlt := hm1.lt
      have hBm : B ≤ wm.heap.size := by have := HK.out.size; have := hm2.size; omega
      have hq25 : q ≤ 33554432 := by have := HQ.out; have := ML.out; omega
      have hb : IntKind.u8.wrap ((V : Int) / 2 ^ t) = (byteAt true M q : Int) := next_byte M q0 q t V hq0 (by have := HS.out; have := HQ.out; omega) HV.out
      have LB := Lib.hid (show Below wm.heap.size wm ((wm.alloc (.cells #[.int .u8 (IntKind.u8.wrap ((V : Int) / 2 ^ t))] 5)).drew) from ((Below.refl _ _).alloc (Nat.le_refl _) _).drew)
      have HV1 := Lib.hid (show ((wm.alloc (.cells #[.int .u8 (IntKind.u8.wrap ((V : Int) / 2 ^ t))] 5)).drew).ownsRow B 5 1 (.slice a2 q c2) q ((fulls true M q).map (Value.int .u8)) by
        have k := mown
        have hd := md
        rw [fulls_length] at k hd
        exact own_kept k (fun k e => LB.out.block k (hm1.data_lt (hd.symm.trans e)).2))
      have P1 := Lib.hid (fun (aa : Option Addr) (cap : Nat) (w1 : World) (hown : w1.ownsRow B 5 1 (.slice aa (q + 1) cap) (q + 1) ((fulls true M q).map (Value.int .u8) ++ [.int .u8 (IntKind.u8.wrap ((V : Int) / 2 ^ t))])) (hg : ((wm.alloc (.cells #[.int .u8 (IntKind.u8.wrap ((V : Int) / 2 ^ t))] 5)).drew).grownBy w1 (Value.slice a2 q c2).ownBlock)
          (hat : (Value.slice aa (q + 1) cap).ownBlock = (Value.slice a2 q c2).ownBlock ∨ (Value.slice aa (q + 1) cap).ownBlock = some ((wm.alloc (.cells #[.int .u8 (IntKind.u8.wrap ((V : Int) / 2 ^ t))] 5)).drew).heap.size) =>
        hm1.pushed (b := IntKind.u8.wrap ((V : Int) / 2 ^ t)) (by rw [hb]; have := byteAt_lt true M q; omega) LB.out (v := .slice a2 q c2) (v' := .slice aa (q + 1) cap) (by have := md; rw [fulls_length] at this; exact this) (by rw [fulls_length]; exact hown) hg hat)
      have P2 := Lib.hid (fun (w1 : World) (hg : ((wm.alloc (.cells #[.int .u8 (IntKind.u8.wrap ((V : Int) / 2 ^ t))] 5)).drew).grownBy w1 (Value.slice a2 q c2).ownBlock) => show w1.cell? ⟨P, 1, none⟩ = some (.slice a2 q c2) ∧ w1.frozen? ⟨P, 1, none⟩ = false by
        have hP : w1.heap[P]? = wm.heap[P]? := (hg.block P (Nat.lt_of_lt_of_le hPlt LB.out.size) (by have := md; rw [fulls_length] at this; rw [this]; exact fun e => hm1.apart e.symm)).trans (LB.out.block P hPlt)
        exact ⟨(World.cell?_of_block (w := wm) hP).trans m1, (World.frozen?_of_block (w := wm) hP).trans mf1⟩)
      have HM2 := Lib.hid hm2
      have HB := Lib.hid hb
      clear hb hm1 hm2 m0 mf mown md k1 k2 k3 f1' f2' f3'
      go_region_law (refine step_append_byte (by rfl) (.tmp 41) (.tmp 52) (by rfl) B q (.slice a2 q c2) (fulls true M q) (by rfl) HV1.out ⟨wm.heap.size, 0, none⟩ 1 (IntKind.u8.wrap ((V : Int) / 2 ^ t)) (by rfl) (by simp) hq25 (by simp; omega) ?_; intro aa cap w1 hown1 hgrow1 hat1; have q1 := P2.out w1 hgrow1)
      all_goals
        obtain ⟨D2, r2, b2, d2⟩ := P1.out _ _ _ hown1 hgrow1 hat1
        have X := Lib.hid (partH_step HK.out HD1.out (by have := HS.out; have := HQ.out; omega) HB.out r2 (HM2.out.trans b2 (fun _ _ h => h)) (d2.imp id (fun ⟨k, e1, e2⟩ => ⟨k, e1, Nat.le_trans HM2.out.size e2⟩)))
        clear hown1 hgrow1 hat1 q1 r2 b2 d2
        generalize w1.setCell ⟨P, 1, none⟩ (.slice aa (q + 1) cap) = w2 at *
        go_wp2
        go_roundw
        case rel => exact ⟨q + 1, by omega, X.out⟩
        case measure =>
          rw [partH_used PT.out, partH_used X.out]
          have := HS.out
          omega
    · have hm : M.length - 8 * q < 8 := by have := HS.out; omega
      have CM := Lib.hid ((mask_any wr.drew s (by omega)).mono (fun e w' h => (⟨h.1, h.2.symm⟩ : e = .returned (.int .i64 ((2 ^ s - 1 : Nat) : Int)) ∧ w' = wr.drew)))
      have X := Lib.hid (partH_done (wr := wr) (s := s) hq0 (by have := HS.out; have := HQ.out; omega) (by omega) HV.out HL.out PT.out)
      go_wp2
      go_still_tail 9, (by kernel_rfl)
      still_call CM.out
      try refine wpStill_nil ?_
      change wpList _ _ _ _ _ wr.drew
      go_wp2
      go_end0
      exact ⟨rfl, X.out⟩
end Go.Proofs.YtpmoknnhgginjaaDoor.Bi

/- The contracts of Put, Fill and of the law's 'right'. -/
namespace Go.Proofs.YtpmoknnhgginjaaDoor.Bi
set_option linter.unusedVariables false
open Go.RowKit

/-- May a number be written so? -/
def fits (v n : Int) : Bool := decide (0 ≤ n ∧ n ≤ 24 ∧ 0 ≤ v ∧ v < ((2 ^ n.toNat : Nat) : Int))
/-- The row behind a Put. -/
def put (high : Bool) (L : List Bool) (v n : Int) : List Bool := if fits v n then L ++ row high v.toNat n.toNat else L
/-- The row behind a Fill. -/
def fill (L : List Bool) (bit : Int) : List Bool := L ++ List.replicate ((8 - L.length % 8) % 8) (decide (bit % 2 = 1))

theorem Then.refl {w : World} {B P : Nat} {D : Option Nat} {high : Bool} {L : List Bool} (h : Wr w B P D high L) : Then w B P D high L w := ⟨D, h, Keeps.refl _ _, Or.inl rfl⟩

theorem put_length (high : Bool) (L : List Bool) (v n : Int) : (put high L v n).length ≤ L.length + 24 := by
  unfold put
  split
  · rename_i h
    simp only [fits, decide_eq_true_eq] at h
    rw [List.length_append, row_length]
    omega
  · omega

theorem put_no (w : World) (P : Nat) (v n : Int) (h : n < 0 ∨ 24 < n ∨ v < 0) :
    Calls Tryd.prog 7 #[.pointer (some ⟨P, 0, none⟩), .int .i64 v, .int .i64 n] w fun e w' => e = .returned (.bool false) ∧ w = w' := by
  by_cases c0 : n < 0
  · have t0 : decide (n < 0) = true := by simpa using c0
    go_enter Tryd.func7, Tryd.ntmps7
    go_wp2
    go_ret
    exact ⟨rfl, rfl⟩
  · have t0 : decide (n < 0) = false := by simpa using c0
    by_cases c1 : 24 < n
    · have t1 : decide (24 < n) = true := by simpa using c1
      go_enter Tryd.func7, Tryd.ntmps7
      go_wp2
      go_ret
      exact ⟨rfl, rfl⟩
    · have t1 : decide (24 < n) = false := by simpa using c1
      have c2 : v < 0 := by omega
      have t2 : decide (v < 0) = true := by simpa using c2
      go_enter Tryd.func7, Tryd.ntmps7
      go_wp2
      go_ret
      exact ⟨rfl, rfl⟩

theorem put_big (w : World) (P : Nat) (v n : Nat) (hn : n ≤ 24) (h : 2 ^ n ≤ v) :
    Calls Tryd.prog 7 #[.pointer (some ⟨P, 0, none⟩), .int .i64 v, .int .i64 n] w fun e w' => e = .returned (.bool false) ∧ w = w' := by
  have CM := Lib.hid (mask_any w n (by omega))
  have hp : 0 < 2 ^ n := Nat.two_pow_pos n
  have t3 : decide (2 ^ n - 1 < v) = true := by simp only [decide_eq_true_eq]; omega
  generalize 2 ^ n - 1 = p at *
  clear h hp
  go_enter Tryd.func7, Tryd.ntmps7
  go_wp2_with fail
  refine CM.out.mono ?_
  rintro e w' ⟨rfl, rfl⟩
  go_wp2_with fail
  go_ret
  exact ⟨rfl, rfl⟩

theorem put_yes (w : World) (B P : Nat) (D : Option Nat) (high : Bool) (L : List Bool) (h : Wr w B P D high L) (hB : B ≤ w.heap.size) (hl : L.length ≤ 16777216) (v n : Nat) (hn : n ≤ 24) (hv : v < 2 ^ n) :
    Calls Tryd.prog 7 #[.pointer (some ⟨P, 0, none⟩), .int .i64 v, .int .i64 n] w fun e w' => e = .returned (.bool true) ∧ Then w B P D high (L ++ row high v n) w' := by
  have CM := Lib.hid (mask_any w n (by omega))
  obtain ⟨a, c, h0, h1, h2, h3, hf, hown, hd⟩ := Raw.open h
  have t3 : decide (2 ^ n - 1 < v) = false := by simp only [decide_eq_false_iff_not]; omega
  cases high
  · have CP := Lib.hid (putLow_any w B P D L h hB hl v n hn hv)
    generalize 2 ^ n - 1 = p at *
    clear h h1 h2 h3 hf hown hd hv
    go_enter Tryd.func7, Tryd.ntmps7
    go_wp2_with fail
    refine CM.out.mono ?_
    rintro e w' ⟨rfl, rfl⟩
    go_wp2_with fail
    refine CP.out.mono ?_
    rintro e w' ⟨rfl, hp⟩
    go_wp2_with fail
    go_ret
    exact ⟨rfl, hp⟩
  · have CP := Lib.hid (putHigh_any w B P D L h hB hl v n hn hv)
    generalize 2 ^ n - 1 = p at *
    clear h h1 h2 h3 hf hown hd hv
    go_enter Tryd.func7, Tryd.ntmps7
    go_wp2_with fail
    refine CM.out.mono ?_
    rintro e w' ⟨rfl, rfl⟩
    go_wp2_with fail
    refine CP.out.mono ?_
    rintro e w' ⟨rfl, hp⟩
    go_wp2_with fail
    go_ret
    exact ⟨rfl, hp⟩

theorem put_any (w : World) (B P : Nat) (D : Option Nat) (high : Bool) (L : List Bool) (h : Wr w B P D high L) (hB : B ≤ w.heap.size) (hl : L.length ≤ 16777216) (v n : Int) :
    Calls Tryd.prog 7 #[.pointer (some ⟨P, 0, none⟩), .int .i64 v, .int .i64 n] w fun e w' => e = .returned (.bool (fits v n)) ∧ Then w B P D high (put high L v n) w' := by
  by_cases c0 : n < 0 ∨ 24 < n ∨ v < 0
  · have e1 : fits v n = false := by simp only [fits, decide_eq_false_iff_not]; omega
    have e2 : put high L v n = L := by simp [put, e1]
    rw [e1, e2]
    exact (put_no w P v n c0).mono (fun e w' ⟨h1, h2⟩ => ⟨h1, h2 ▸ Then.refl h⟩)
  · obtain ⟨V, rfl⟩ := Int.eq_ofNat_of_zero_le (show 0 ≤ v by omega)
    obtain ⟨N, rfl⟩ := Int.eq_ofNat_of_zero_le (show 0 ≤ n by omega)
    by_cases c1 : V < 2 ^ N
    · have e1 : fits V N = true := by simp only [fits, decide_eq_true_eq, Int.toNat_natCast]; omega
      have e2 : put high L V N = L ++ row high V N := by simp [put, e1]
      rw [e1, e2]
      exact put_yes w B P D high L h hB hl V N (by omega) c1
    · have e1 : fits V N = false := by simp only [fits, decide_eq_false_iff_not, Int.toNat_natCast]; omega
      have e2 : put high L V N = L := by simp [put, e1]
      rw [e1, e2]
      exact (put_big w P V N (by omega) (by omega)).mono (fun e w' ⟨h1, h2⟩ => ⟨h1, h2 ▸ Then.refl h⟩)

theorem lowr_zero (n : Nat) : lowr 0 n = List.replicate n false := by
  induction n with
  | zero => rfl
  | succ n ih => simp [lowr, ih, List.replicate_succ]
theorem lowr_ones (n : Nat) : lowr (2 ^ n - 1) n = List.replicate n true := by
  induction n with
  | zero => rfl
  | succ n ih =>
    have hp : 0 < 2 ^ n := Nat.two_pow_pos n
    have e1 : (2 ^ (n + 1) - 1) % 2 = 1 := by rw [Nat.pow_succ]; omega
    have e2 : (2 ^ (n + 1) - 1) / 2 = 2 ^ n - 1 := by rw [Nat.pow_succ]; omega
    simp [lowr, e1, e2, ih, List.replicate_succ]
theorem row_zero (high : Bool) (n : Nat) : row high 0 n = List.replicate n false := by
  cases high <;> simp [row, lowr_zero]
theorem row_ones (high : Bool) (n : Nat) : row high (2 ^ n - 1) n = List.replicate n true := by
  cases high <;> simp [row, lowr_ones]

theorem fill_any (w : World) (B P : Nat) (D : Option Nat) (high : Bool) (L : List Bool) (h : Wr w B P D high L) (hB : B ≤ w.heap.size) (hl : L.length ≤ 16777216) (bit : Int) (hb0 : -9223372036854775808 ≤ bit) (hb1 : bit ≤ 9223372036854775807) :
    Calls Tryd.prog 8 #[.pointer (some ⟨P, 0, none⟩), .int .i64 bit] w fun e w' => e = .returned (.tuple #[]) ∧ Then w B P D high (fill L bit) w' := by
  obtain ⟨a, c, h0, h1, h2, h3, hf, hown, hd⟩ := Raw.open h
  obtain ⟨u, hu⟩ : ∃ u, u = L.length % 8 := ⟨_, rfl⟩
  rw [← hu] at h3
  by_cases hz : u = 0
  · subst hz
    have e1 : fill L bit = L := by simp [fill, ← hu]
    rw [e1]
    have X := Lib.hid (Then.refl h)
    clear h h0 h1 h2 hf hown hd hu
    go_enter Tryd.func8, Tryd.ntmps8
    go_wp2
    (try simp only [Exit.inBlock, Exit.then])
    refine bodyPost_ret (results_none rfl _ _ _) rfl ?_
    exact ⟨rfl, X.out⟩
  · obtain ⟨l, hl8⟩ : ∃ l, l = 8 - u := ⟨_, rfl⟩
    have hu8 : u < 8 := by omega
    have CM := Lib.hid (mask_any w l (by omega))
    have e0 : (8 : Int) - (u : Int) = (l : Int) := by omega
    have hp : 0 < 2 ^ l := Nat.two_pow_pos l
    have hp2 : 2 ^ l ≤ 2 ^ 8 := Nat.pow_le_pow_right (by omega) (by omega)
    have e4 : fill L bit = L ++ List.replicate l (decide (bit % 2 = 1)) := by
      unfold fill; rw [← hu, show (8 - u) % 8 = l by omega]
    have CP : Calls Tryd.prog 7 #[.pointer (some ⟨P, 0, none⟩), .int .i64 (bits .and .i64 bit 1 * ((2 ^ l - 1 : Nat) : Int)), .int .i64 l] w fun e w' => e = .returned (.bool true) ∧ Then w B P D high (fill L bit) w' := by
      rw [i64_one bit hb0 hb1, e4]
      rcases (show bit % 2 = 0 ∨ bit % 2 = 1 by omega) with e | e
      · rw [e, Int.zero_mul]
        have k := put_yes w B P D high L h hB hl 0 l (by omega) hp
        rw [row_zero] at k
        simpa using k
      · rw [e, Int.one_mul]
        have k := put_yes w B P D high L h hB hl (2 ^ l - 1) l (by omega) (by omega)
        rw [row_ones] at k
        simpa using k
    have hbit : 0 ≤ bits .and .i64 bit 1 ∧ bits .and .i64 bit 1 ≤ 1 := by rw [i64_one bit hb0 hb1]; omega
    have hz2 : wrap64 (bits .and .i64 bit 1 * ((2 ^ l - 1 : Nat) : Int)) = bits .and .i64 bit 1 * ((2 ^ l - 1 : Nat) : Int) := by
      generalize bits .and .i64 bit 1 = z at *
      rcases (show z = 0 ∨ z = 1 by omega) with e | e
      · rw [e]; simp; exact IntWalk.wrap64_in 0 (by omega)
      · rw [e]; simp only [Int.one_mul]; exact IntWalk.wrap64_in _ (by omega)
    have CP := Lib.hid CP
    have HZ := Lib.hid hz2
    clear h h0 h1 h2 hf hown hd e4 hz2 hu hl8
    generalize 2 ^ l - 1 = p at *
    have hzu : ((u : Int) == 0) = false := by simp; omega
    go_enter Tryd.func8, Tryd.ntmps8
    go_wp2_with fail
    refine CM.out.mono ?_
    rintro e w' ⟨rfl, rfl⟩
    go_wp2_with fail
    rw [HZ.out]
    refine CP.out.mono ?_
    rintro e w' ⟨rfl, hp⟩
    go_wp2_with fail
    go_end0
    exact ⟨rfl, hp⟩

end Go.Proofs.YtpmoknnhgginjaaDoor.Bi

/- The contract of Bytes. -/
namespace Go.Proofs.YtpmoknnhgginjaaDoor.Bi
set_option linter.unusedVariables false
open Go.RowKit

/-- make with a length and a capacity. -/
theorem wpList_make_cap {w : World} {ops : Array Oper} {rest : List Oper} {o : Oper} {a : Act} {Q : Exit → Act → World → Prop} (hg : o.guard = none) (l c : Operand) (hop : o.op = Op.makeSlice 26 l c)
    (n m : Nat) (hl : a.eval l = .int .i64 n) (hc : a.eval c = .int .i64 m) (hnm : n ≤ m) (hm : m ≤ 33554432)
    (hK : ∀ w', w'.ownsRow w.heap.size 5 1 (.slice (some ⟨w.heap.size, 0, none⟩) n m) n ((madeCells #[.int .u8 0] m).toList.take n) → w'.heap[w.heap.size]? = some (.cells (madeCells #[.int .u8 0] m) 5 (0, 0)) → Below w.heap.size w w' → wpList Tryd.prog ops Q rest (a.put o.dst (.slice (some ⟨w.heap.size, 0, none⟩) n m)) w') :
    wpList Tryd.prog ops Q (o :: rest) a w := by
  obtain ⟨i0, hi, hz0, hz1, hz2⟩ := info_parts info5
  have hr := run_make (P := Tryd.prog) w 26 5 i0 (.int .u8 0) Tryd.underlying26 hi hz0 .i64 .i64 n m (by omega) (by omega) (by rw [hz2]; omega) (by omega)
  rw [hz1, Nat.mul_one, Int.toNat_natCast, Int.toNat_natCast] at hr
  refine wpList_plain hg fun K hK' => ?_
  unfold Oper.wp
  simp [execOp, hop, hl, hc, hr, Result.andThen]
  refine hK' _ _ (hK _ ⟨?_, Or.inr ⟨w.heap.size, m, madeCells #[.int .u8 0] m, rfl, Nat.le_refl _, ?_, hnm, by unfold maxLen; omega, by simp [size_madeCells], by simp⟩⟩ ?_ ((Below.refl _ _).alloc (Nat.le_refl _) _))
  · simp [size_madeCells]; omega
  · exact heap_alloc_new _ _
  · exact heap_alloc_new _ _

theorem wpList_append_byte {w : World} {ops : Array Oper} {rest : List Oper} {o : Oper} {a : Act} {Q : Exit → Act → World → Prop} (hgd : o.guard = none) (s x : Operand) (ho : o.op = .call { callee := .builtin .append, args := #[s, x], argTypes := #[26, 26] })
    (base n : Nat) (v : Value) (xs : List Int) (hs : a.eval s = v) (hown : w.ownsRow base 5 1 v n (xs.map (Value.int .u8)))
    (ad : Addr) (c : Nat) (b : Int) (hx : a.eval x = .slice (some ad) 1 c) (hcell : w.cell? ad = some (.int .u8 b)) (hb : n ≤ 33554432) (hbase : base ≤ w.heap.size)
    (h : ∀ aa cap w', w'.ownsRow base 5 1 (.slice aa (n + 1) cap) (n + 1) (xs.map (Value.int .u8) ++ [.int .u8 b]) → w.grownBy w' v.ownBlock → ((Value.slice aa (n + 1) cap).ownBlock = v.ownBlock ∨ (Value.slice aa (n + 1) cap).ownBlock = some w.heap.size) → wpList Tryd.prog ops Q rest (a.put o.dst (.slice aa (n + 1) cap)) w') :
    wpList Tryd.prog ops Q (o :: rest) a w := by
  refine wpList_plain hgd fun K hK => ?_
  obtain ⟨aa, cap, w', hr, h1, h2, h3⟩ := run_append_byte w o.type base n v xs hown ad c b hcell hb hbase
  unfold Oper.wp execOp
  simp only [ho, resolve, invoke, builtin, Sem.run_bind, Sem.run_pure, Result.andThen_ok, List.map_toArray, List.map_cons, List.map_nil, hs, hx, hr]
  exact hK _ _ (h aa cap w' h1 h2 h3)

/-- What Bytes tells: memory of its own. -/
def Told (w : World) (ys : List Int) (e : Ending) (w' : World) : Prop :=
  ∃ aa c, e = .returned (.slice aa ys.length c) ∧ w'.ownsRow w.heap.size 5 1 (.slice aa ys.length c) ys.length (ys.map (Value.int .u8)) ∧ Below w.heap.size w w'

theorem packed_zero (high : Bool) (L : List Bool) (h : L.length % 8 = 0) : packed high L = fulls high L (L.length / 8) := by
  unfold packed; rw [show (L.length + 7) / 8 = L.length / 8 by omega]
theorem packed_rest (high : Bool) (L : List Bool) (h : L.length % 8 ≠ 0) : packed high L = fulls high L (L.length / 8) ++ [(byteAt high L (L.length / 8) : Int)] := by
  unfold packed; rw [show (L.length + 7) / 8 = L.length / 8 + 1 by omega, fulls_succ]
theorem byteAt_rest (high : Bool) (L : List Bool) : byteAt high L (L.length / 8) = if high then val true (L.drop (8 * (L.length / 8))) * 2 ^ (8 - L.length % 8) else val false (L.drop (8 * (L.length / 8))) := by
  unfold byteAt byteOf
  rw [List.take_of_length_le (by simp; omega), List.length_drop, show L.length - 8 * (L.length / 8) = L.length % 8 by omega]

theorem Told.grown {w w2 W w3 : World} {xs : List Int} {b : Int} {aa : Option Addr} {cap g c n : Nat} (hn : n = xs.length) (hb : Below w.heap.size w w2) (hW : Below w.heap.size w2 W) (hg : W.grownBy w3 (Value.slice (some ⟨g, 0, none⟩) n c).ownBlock) (hge : w.heap.size ≤ g)
    (hown : w3.ownsRow w.heap.size 5 1 (.slice aa (n + 1) cap) (n + 1) (xs.map (Value.int .u8) ++ [.int .u8 b])) : Told w (xs ++ [b]) (.returned (.slice aa (n + 1) cap)) w3 := by
  subst hn
  refine ⟨aa, cap, by simp, by simpa using hown, ?_⟩
  have h1 := hb.trans hW
  exact h1.trans ⟨hg.os, hg.tape, hg.output, hg.size, fun k hk => hg.block k (Nat.lt_of_lt_of_le hk h1.size) (by intro e; simp [Value.ownBlock] at e; omega)⟩

set_option maxRecDepth 100000 in
set_option maxHeartbeats 800000 in
theorem bytes_any (w : World) (B P : Nat) (D : Option Nat) (high : Bool) (L : List Bool) (h : Wr w B P D high L) (hl : L.length ≤ 16777216) :
    Calls Tryd.prog 9 #[.pointer (some ⟨P, 0, none⟩)] w (Told w (packed high L)) := by
  have hPlt := Raw.lt h
  have hfb := fulls_byte high L (L.length / 8)
  obtain ⟨a, c, h0, h1, h2, h3, hf, hown, hd⟩ := Raw.open h
  have hsrc : ∀ j v, ((fulls high L (L.length / 8)).map (Value.int .u8))[j]? = some v → ∃ ad, a = some ad ∧ w.cell? (ad.add j) = some v := by
    intro j v hj
    rcases hown.2 with ⟨e, e2⟩ | ⟨g, cap, _, e, _⟩
    · have := (List.getElem?_eq_some_iff.1 hj).1
      simp only [List.length_map] at this
      omega
    · cases e
      exact ⟨_, rfl, hown.cells (g := g) rfl j v hj⟩
  rw [fulls_length] at h1
  have hpk := packed_rest high L
  have hpz := packed_zero high L
  have hbr := byteAt_rest high L
  have hrl := val_lt high (L.drop (8 * (L.length / 8)))
  rw [List.length_drop, show L.length - 8 * (L.length / 8) = L.length % 8 by omega] at hrl
  have hfl := fulls_length high L (L.length / 8)
  have hu8 : L.length % 8 < 8 := Nat.mod_lt _ (by omega)
  have hq : L.length / 8 ≤ 16777216 := by omega
  clear h hf hown hd
  generalize fulls high L (L.length / 8) = xs at *
  generalize byteAt high L (L.length / 8) = bt at *
  generalize hr : val high (L.drop (8 * (L.length / 8))) = r at *
  generalize packed high L = pk at *
  generalize L.length / 8 = q at *
  generalize L.length % 8 = u at *
  have HS := Lib.hid hsrc
  have HPK := Lib.hid hpk
  have HPZ := Lib.hid hpz
  have HBR := Lib.hid hbr
  have HRL := Lib.hid hrl
  have HR := Lib.hid hr
  have HFL := Lib.hid hfl
  clear hsrc hpk hpz hbr hrl hfl hfb hl hr
  go_enter Tryd.func9, Tryd.ntmps9
  go_wp2
  go_still_tail 11, (by kernel_rfl)
  change wpList _ _ _ _ _ w.drew
  go_wp2_with (at_make; go_must (refine wpList_make_cap rfl (.tmp 8) (.tmp 14) rfl q (q + 1) rfl ?c1 (by omega) (by omega) ?c2))
  case c1 =>
    show Value.int .i64 (IntKind.i64.wrap ((q : Int) + 1)) = _
    rw [wrap_i64 _ (by omega) (by omega)]
    simp
  case c2 =>
    intro w1 hown1 hb1 hbel1
    have hg1 : w1.heap[w.heap.size]? = some (.cells (madeCells #[.int .u8 0] (q + 1)).toList.toArray 5 (0, 0)) := by simpa using hb1
    have hbl : Below w.heap.size w w1 := ⟨hbel1.os, hbel1.tape, hbel1.output, hbel1.size, fun k hk => hbel1.block k hk⟩
    have k0 : w1.cell? ⟨P, 0, none⟩ = some (.bool high) := (hbl.cell (p := ⟨P, 0, none⟩) hPlt).trans h0
    have k1 : w1.cell? ⟨P, 1, none⟩ = some (.slice a q c) := (hbl.cell (p := ⟨P, 1, none⟩) hPlt).trans h1
    have HS1 := Lib.hid (show ∀ j v, (xs.map (Value.int .u8))[j]? = some v → ∃ ad, a = some ad ∧ w1.cell? (ad.add j) = some v by
      intro j v hj
      obtain ⟨ad, e, hc⟩ := HS.out j v hj
      exact ⟨ad, e, (World.cell?_of_block (w := w) (hbl.block _ (World.block_lt_of_cell? w _ hc))).trans hc⟩)
    have HB := Lib.hid hbl
    have HG := Lib.hid hg1
    clear hown1 hb1 hbel1 hg1 hbl
    go_wp2_with (with_reducible refine wpList_copy_splice rfl (.tmp 16) (.tmp 20) 26 26 rfl 5 Tryd.underlying26 (by kernel_rfl) (some ⟨w.heap.size, 0, none⟩) a q (q + 1) q c rfl rfl w.heap.size 0 _ 5 HG.out (xs.map (Value.int .u8)) ?d1 ?d2 ?d3 ?d4 w.heap.size w HB.out (Nat.le_refl _) ?d5)
    case d1 => rw [List.length_map, HFL.out]; simp
    case d2 =>
      intro hp
      obtain ⟨ad, e, _⟩ := HS1.out 0 _ (List.getElem?_eq_getElem (by simpa using hp))
      refine ⟨ad, e, ?_⟩
      intro j v hj
      obtain ⟨ad', e', h⟩ := HS1.out j (.int .u8 v) (by rw [List.getElem?_map, hj]; rfl)
      rw [e] at e'
      cases e'
      exact h
    case d3 => have := HFL.out; simp [size_madeCells]; omega
    case d4 => intro u hu; simp only [List.mem_map] at hu; obtain ⟨y, _, rfl⟩ := hu; rfl
    case d5 =>
      intro w2 hh hb2
      have m0 : w2.cell? ⟨P, 0, none⟩ = some (.bool high) := (hb2.cell (p := ⟨P, 0, none⟩) hPlt).trans h0
      have m2 : w2.cell? ⟨P, 2, none⟩ = some (.int .i64 r) := (hb2.cell (p := ⟨P, 2, none⟩) hPlt).trans h2
      have m3 : w2.cell? ⟨P, 3, none⟩ = some (.int .i64 u) := (hb2.cell (p := ⟨P, 3, none⟩) hPlt).trans h3
      have hP2 : P < w2.heap.size := Nat.lt_of_lt_of_le hPlt hb2.size
      have hown2 : w2.ownsRow w.heap.size 5 1 (.slice (some ⟨w.heap.size, 0, none⟩) q (q + 1)) q (xs.map (Value.int .u8)) := by
        refine ⟨by simp [HFL.out], Or.inr ⟨w.heap.size, q + 1, _, rfl, Nat.le_refl _, hh.out, by omega, by unfold maxLen; omega, ?_, ?_⟩⟩
        · simp only [splice, List.take_zero, List.nil_append, List.length_map, List.size_toArray, List.length_append, List.length_drop, Array.length_toList, size_madeCells, HFL.out]
          omega
        · simp only [splice, List.take_zero, List.nil_append, Nat.zero_add, Nat.mul_one]
          rw [List.take_append_of_le_length (by simp [HFL.out]), List.take_of_length_le (by simp [HFL.out])]
      have HB2 := Lib.hid hb2
      have HO2 := Lib.hid hown2
      have hw2 : w.heap.size ≤ w2.heap.size := hb2.size
      clear hh hb2 hown2 k0 k1 h0 h1 h2 h3
      by_cases hz : u = 0
      · subst hz
        go_wp2
        go_ret
        have e1 := HPZ.out trivial
        rw [e1]
        exact ⟨_, _, by rw [HFL.out]; rfl, by rw [HFL.out]; exact HO2.out, HB2.out⟩
      · have hzu : ((u : Int) == 0) = false := by simp; omega
        cases high
        · have OW := Lib.hid (own_kept (w' := w2.alloc (.cells #[.int .u8 (bt : Int)] 5)) HO2.out (fun k e => Below.heap_alloc _ _ _ ((HO2.out.lt k e).2)))
          have hbt : IntKind.u8.wrap (r : Int) = (bt : Int) := by
            have h1 := HBR.out
            have h2 := HRL.out
            have h3 : 2 ^ u ≤ 2 ^ 8 := Nat.pow_le_pow_right (by omega) (by omega)
            simp only [Bool.false_eq_true, if_false] at h1
            rw [HR.out] at h1
            rw [wrap_u8_nat]
            omega
          go_wp2_with (at_builtin; go_must (refine wpList_append_byte rfl (.tmp 46) (.tmp 52) rfl w.heap.size q (.slice (some ⟨w.heap.size, 0, none⟩) q (q + 1)) xs rfl ?e1 ⟨w2.heap.size, 0, none⟩ 1 (bt : Int) rfl ?e2 (by omega) ?e3 ?e4))
          case e1 => exact OW.out
          case e2 => simp
          case e3 => simp; omega
          case e4 =>
            intro aa cap w3 hown3 hg3 hat3
            have X := Lib.hid (Told.grown HFL.out.symm HB2.out ((Below.refl _ _).alloc hw2 _) hg3 (Nat.le_refl _) hown3)
            clear hown3 hg3 hat3
            go_wp2
            go_ret
            rw [HPK.out (by omega)]
            exact X.out
        · have OW := Lib.hid (own_kept (w' := (w2.alloc (.cells #[.int .u8 (bt : Int)] 5)).drew) HO2.out (fun k e => Below.heap_alloc _ _ _ ((HO2.out.lt k e).2)))
          have hbt : IntKind.u8.wrap (wrap64 ((r : Int) * 2 ^ (8 - u))) = (bt : Int) := by
            have h1 := HBR.out
            have h2 := HRL.out
            simp only [if_true] at h1
            rw [HR.out] at h1
            have e : 2 ^ u * 2 ^ (8 - u) = 256 := by rw [← Nat.pow_add, show u + (8 - u) = 8 by omega]
            have h3 : r * 2 ^ (8 - u) < 2 ^ u * 2 ^ (8 - u) := Nat.mul_lt_mul_of_pos_right h2 (Nat.two_pow_pos _)
            rw [two_pow_cast, ← Int.natCast_mul, IntWalk.wrap64_in _ (by omega), wrap_u8_nat]
            omega
          obtain ⟨t, ht⟩ : ∃ t, t = 8 - u := ⟨_, rfl⟩
          have h8u : (8 : Int) - (u : Int) = (t : Int) := by omega
          have ht8 : t ≤ 8 := by omega
          rw [← ht] at hbt
          have hw8 : IntKind.i64.wrap (t : Int) = (t : Int) := wrap_i64 _ (by omega) (by omega)
          have hbt2 : IntKind.u8.wrap (IntKind.i64.wrap ((r : Int) * 2 ^ t)) = (bt : Int) := by rw [← hbt, IntWalk.i64_left]
          have hbt3 : IntKind.u8.wrap (IntKind.i64.wrap ((r : Int) * 2 ^ min t 64)) = (bt : Int) := by rw [← hbt2, Nat.min_eq_left (by omega)]
          clear ht
          go_wp2
          go_region_law (refine step_append_byte (by rfl) (.tmp 32) (.tmp 44) (by rfl) w.heap.size q (.slice (some ⟨w.heap.size, 0, none⟩) q (q + 1)) xs (by rfl) OW.out ⟨w2.heap.size, 0, none⟩ 1 (bt : Int) (by rfl) (by simp) (by omega) (by simp; omega) ?_; intro aa cap w3 hown3 hg3 hat3)
          all_goals
            have X := Lib.hid (Told.grown HFL.out.symm HB2.out (((Below.refl _ _).alloc hw2 _).drew) hg3 (Nat.le_refl _) hown3)
            clear hown3 hg3 hat3
            go_wp2
            go_ret
            rw [HPK.out (by omega)]
            exact X.out
end Go.Proofs.YtpmoknnhgginjaaDoor.Bi

/- A writer of the law's own: its methods' contracts over the world at the law's start; two writers; a block that neither reaches; the document's example. -/
namespace Go.Proofs.YtpmoknnhgginjaaDoor.Bi
set_option linter.unusedVariables false
open Go.RowKit

/-- Nothing that was there has turned. -/
def Yes (w : World) (e : Ending) (w' : World) : Prop := e = .returned (.bool true) ∧ Keeps (fun _ => False) w w'

theorem Keeps.own {S : Nat → Prop} {w W W' : World} (h : Keeps (fun _ => False) w W) (k : Keeps S W W') (hS : ∀ i, S i → w.heap.size ≤ i) : Keeps (fun _ => False) w W' :=
  h.trans k (fun i hi s => by have := hS i s; omega)
theorem Keeps.one (w : World) (R i : Nat) (u : Value) : Keeps (fun k => k = R) w (w.setCell ⟨R, i, none⟩ u) := (Keeps.refl (fun k => k = R) w).setCell (p := ⟨R, i, none⟩) (fun _ => rfl) u

/-- A writer of the law's own, which began at w. -/
def St (w : World) (P : Nat) (high : Bool) (L : List Bool) (W : World) : Prop := ∃ D, Wr W w.heap.size P D high L ∧ Keeps (fun _ => False) w W
/-- The same, and a block that it doesn't reach. -/
def StP (w : World) (P : Nat) (high : Bool) (L : List Bool) (O : Nat) (ob : Obj) (W : World) : Prop :=
  ∃ D, Wr W w.heap.size P D high L ∧ Keeps (fun _ => False) w W ∧ W.heap[O]? = some ob ∧ O ≠ P ∧ D ≠ some O

variable {w W W' : World} {P R O : Nat} {high hr : Bool} {L L' M M' : List Bool} {ob : Obj}

theorem St.keeps (h : St w P high L W) : Keeps (fun _ => False) w W := by obtain ⟨D, h1, h2⟩ := h; exact h2
theorem St.size (h : St w P high L W) : w.heap.size ≤ W.heap.size := h.keeps.size
theorem St.lt (h : St w P high L W) : P < W.heap.size := by obtain ⟨D, h1, h2⟩ := h; exact Raw.lt h1
theorem StP.st (h : StP w P high L O ob W) : St w P high L W := by obtain ⟨D, h1, h2, h3⟩ := h; exact ⟨D, h1, h2⟩
theorem StP.pin (h : StP w P high L O ob W) : W.heap[O]? = some ob := by obtain ⟨D, h1, h2, h3, h4⟩ := h; exact h3
/-- Blocks that it doesn't reach have turned. -/
theorem St.other {S : Nat → Prop} (h : St w P high L W) (hk : Keeps S W W') (hS : ∀ k, k < W.heap.size → ¬ S k) : St w P high L W' := by
  obtain ⟨D, h1, h2⟩ := h
  refine ⟨D, Raw.keeps h1 hk (hS _ (Raw.lt h1)) (fun k e => hS k (Raw.data_lt h1 e).2), h2.trans hk (fun i hi s => hS i (Nat.lt_of_lt_of_le hi h2.size) s)⟩
theorem St.below (h : St w P high L W) (hb : Below W.heap.size W W') : St w P high L W' := h.other (below_keeps hb) (fun _ _ h => h)
theorem St.drewN (h : St w P high L W) (n : Nat) : St w P high L (W.drewN n) := h.below ⟨rfl, rfl, rfl, Nat.le_refl _, fun _ _ => rfl⟩
theorem St.alloc (h : St w P high L W) (c : Array Value) (t : TypeId) : StP w P high L W.heap.size (.cells c t (0, 0)) (W.alloc (.cells c t)) := by
  have hb : Below W.heap.size W (W.alloc (.cells c t)) := (Below.refl _ _).alloc (Nat.le_refl _) _
  have hP := h.lt
  obtain ⟨D, h1, h2⟩ := h
  exact ⟨D, Raw.kept h1 (hb.block _ (Raw.lt h1)) (fun k e => hb.block _ (Raw.data_lt h1 e).2), h2.own (below_keeps hb) (fun _ h => h.elim), heap_alloc_new _ _, by omega, fun e => by have := (Raw.data_lt h1 e).2; omega⟩
theorem StP.below (h : StP w P high L O ob W) (hb : Below W.heap.size W W') : StP w P high L O ob W' := by
  obtain ⟨D, h1, h2, h3, h4⟩ := h
  exact ⟨D, Raw.kept h1 (hb.block _ (Raw.lt h1)) (fun k e => hb.block _ (Raw.data_lt h1 e).2), h2.own (below_keeps hb) (fun _ h => h.elim), (hb.block _ (lt_of_block h3)).trans h3, h4⟩
theorem StP.drewN (h : StP w P high L O ob W) (n : Nat) : StP w P high L O ob (W.drewN n) := h.below ⟨rfl, rfl, rfl, Nat.le_refl _, fun _ _ => rfl⟩
theorem StP.drew (h : StP w P high L O ob W) : StP w P high L O ob W.drew := h.below ⟨rfl, rfl, rfl, Nat.le_refl _, fun _ _ => rfl⟩

theorem StP.step {D : Option Nat} (h1 : Wr W w.heap.size P D high L) (h2 : Keeps (fun _ => False) w W) (h3 : W.heap[O]? = some ob ∧ O ≠ P ∧ D ≠ some O) (ht : Then W w.heap.size P D high L' W') : StP w P high L' O ob W' := by
  obtain ⟨D', q1, q2, q3⟩ := ht
  have hO := lt_of_block h3.1
  refine ⟨D', q1, h2.own q2 ?_, (q2.block O hO ?_).trans h3.1, h3.2.1, ?_⟩
  · rintro i (e | e)
    · rw [e]; exact h1.at_
    · exact (Raw.data_lt h1 e.symm).1
  · rintro (e | e)
    · exact h3.2.1 e
    · exact h3.2.2 e.symm
  · rcases q3 with e | ⟨k, e, hk⟩
    · rw [e]; exact h3.2.2
    · rw [e]; simp; omega
theorem St.step {D : Option Nat} (h1 : Wr W w.heap.size P D high L) (h2 : Keeps (fun _ => False) w W) (ht : Then W w.heap.size P D high L' W') : St w P high L' W' := by
  obtain ⟨D', q1, q2, q3⟩ := ht
  refine ⟨D', q1, h2.own q2 ?_⟩
  rintro i (e | e)
  · rw [e]; exact h1.at_
  · exact (Raw.data_lt h1 e.symm).1

theorem new_st (hk : Keeps (fun _ => False) w W) (high : Bool) :
    Calls Tryd.prog 6 #[.bool high] W fun e W' => e = .returned (.pointer (some ⟨W.heap.size, 0, none⟩)) ∧ St w W.heap.size high [] W' := by
  refine (new_any W w.heap.size hk.size high).mono ?_
  rintro e W' ⟨he, hr, _, hk'⟩
  exact ⟨he, none, hr, hk.own hk' (fun _ h => h.elim)⟩
theorem put_st (h : St w P high L W) (hl : L.length ≤ 16777216) (v n : Int) :
    Calls Tryd.prog 7 #[.pointer (some ⟨P, 0, none⟩), .int .i64 v, .int .i64 n] W fun e W' => e = .returned (.bool (fits v n)) ∧ St w P high (put high L v n) W' := by
  obtain ⟨D, h1, h2⟩ := h
  exact (put_any W _ P D high L h1 h2.size hl v n).mono (fun e W' ⟨he, ht⟩ => ⟨he, St.step h1 h2 ht⟩)
theorem put_stP (h : StP w P high L O ob W) (hl : L.length ≤ 16777216) (v n : Int) :
    Calls Tryd.prog 7 #[.pointer (some ⟨P, 0, none⟩), .int .i64 v, .int .i64 n] W fun e W' => e = .returned (.bool (fits v n)) ∧ StP w P high (put high L v n) O ob W' := by
  obtain ⟨D, h1, h2, h3⟩ := h
  exact (put_any W _ P D high L h1 h2.size hl v n).mono (fun e W' ⟨he, ht⟩ => ⟨he, StP.step h1 h2 h3 ht⟩)
theorem fill_stP (h : StP w P high L O ob W) (hl : L.length ≤ 16777216) (bit : Int) (hb0 : -9223372036854775808 ≤ bit) (hb1 : bit ≤ 9223372036854775807) :
    Calls Tryd.prog 8 #[.pointer (some ⟨P, 0, none⟩), .int .i64 bit] W fun e W' => e = .returned (.tuple #[]) ∧ StP w P high (fill L bit) O ob W' := by
  obtain ⟨D, h1, h2, h3⟩ := h
  exact (fill_any W _ P D high L h1 h2.size hl bit hb0 hb1).mono (fun e W' ⟨he, ht⟩ => ⟨he, StP.step h1 h2 h3 ht⟩)
theorem bytes_st (h : St w P high L W) (hl : L.length ≤ 16777216) : Calls Tryd.prog 9 #[.pointer (some ⟨P, 0, none⟩)] W (Told W (packed high L)) := by
  obtain ⟨D, h1, h2⟩ := h
  exact bytes_any W _ P D high L h1 hl
/-- Two writers of the law's own; and a block that neither reaches. -/
def TwoP (w : World) (P : Nat) (high : Bool) (L : List Bool) (R : Nat) (hr : Bool) (M : List Bool) (O : Nat) (ob : Obj) (W : World) : Prop :=
  ∃ D E, Wr W w.heap.size P D high L ∧ Wr W w.heap.size R E hr M ∧ (P ≠ R ∧ D ≠ some R ∧ E ≠ some P ∧ ∀ k, D = some k → E ≠ some k) ∧ Keeps (fun _ => False) w W ∧ (W.heap[O]? = some ob ∧ O ≠ P ∧ D ≠ some O ∧ O ≠ R ∧ E ≠ some O)
def Two (w : World) (P : Nat) (high : Bool) (L : List Bool) (R : Nat) (hr : Bool) (M : List Bool) (W : World) : Prop :=
  ∃ D E, Wr W w.heap.size P D high L ∧ Wr W w.heap.size R E hr M ∧ (P ≠ R ∧ D ≠ some R ∧ E ≠ some P ∧ ∀ k, D = some k → E ≠ some k) ∧ Keeps (fun _ => False) w W

theorem TwoP.two (h : TwoP w P high L R hr M O ob W) : Two w P high L R hr M W := by obtain ⟨D, E, h1, h2, h3, h4, h5⟩ := h; exact ⟨D, E, h1, h2, h3, h4⟩
theorem TwoP.pin (h : TwoP w P high L R hr M O ob W) : W.heap[O]? = some ob := by obtain ⟨D, E, h1, h2, h3, h4, h5⟩ := h; exact h5.1
theorem Two.swap (h : Two w P high L R hr M W) : Two w R hr M P high L W := by
  obtain ⟨D, E, h1, h2, ⟨a, b, c, d⟩, h4⟩ := h
  exact ⟨E, D, h2, h1, ⟨fun e => a e.symm, c, b, fun k e1 e2 => d k e2 e1⟩, h4⟩
theorem TwoP.swap (h : TwoP w P high L R hr M O ob W) : TwoP w R hr M P high L O ob W := by
  obtain ⟨D, E, h1, h2, ⟨a, b, c, d⟩, h4, ⟨p, q, r, s, t⟩⟩ := h
  exact ⟨E, D, h2, h1, ⟨fun e => a e.symm, c, b, fun k e1 e2 => d k e2 e1⟩, h4, ⟨p, s, t, q, r⟩⟩
theorem Two.st (h : Two w P high L R hr M W) : St w P high L W := by obtain ⟨D, E, h1, h2, h3, h4⟩ := h; exact ⟨D, h1, h4⟩
theorem Two.keeps (h : Two w P high L R hr M W) : Keeps (fun _ => False) w W := h.st.keeps
theorem Two.other {S : Nat → Prop} (h : Two w P high L R hr M W) (hk : Keeps S W W') (hS : ∀ k, k < W.heap.size → ¬ S k) : Two w P high L R hr M W' := by
  obtain ⟨D, E, h1, h2, h3, h4⟩ := h
  exact ⟨D, E, Raw.keeps h1 hk (hS _ (Raw.lt h1)) (fun k e => hS k (Raw.data_lt h1 e).2), Raw.keeps h2 hk (hS _ (Raw.lt h2)) (fun k e => hS k (Raw.data_lt h2 e).2), h3, h4.trans hk (fun i hi s => hS i (Nat.lt_of_lt_of_le hi h4.size) s)⟩
theorem Two.below (h : Two w P high L R hr M W) (hb : Below W.heap.size W W') : Two w P high L R hr M W' := h.other (below_keeps hb) (fun _ _ h => h)
theorem Two.drewN (h : Two w P high L R hr M W) (n : Nat) : Two w P high L R hr M (W.drewN n) := h.below ⟨rfl, rfl, rfl, Nat.le_refl _, fun _ _ => rfl⟩
theorem Two.alloc (h : Two w P high L R hr M W) (c : Array Value) (t : TypeId) : TwoP w P high L R hr M W.heap.size (.cells c t (0, 0)) (W.alloc (.cells c t)) := by
  have hb : Below W.heap.size W (W.alloc (.cells c t)) := (Below.refl _ _).alloc (Nat.le_refl _) _
  have h' := h.below hb
  have hP := h.st.lt
  have hR := h.swap.st.lt
  obtain ⟨D, E, h1, h2, h3, h4⟩ := h
  exact ⟨D, E, Raw.kept h1 (hb.block _ (Raw.lt h1)) (fun k e => hb.block _ (Raw.data_lt h1 e).2), Raw.kept h2 (hb.block _ (Raw.lt h2)) (fun k e => hb.block _ (Raw.data_lt h2 e).2), h3, h4.own (below_keeps hb) (fun _ h => h.elim),
    heap_alloc_new _ _, by omega, fun e => by have := (Raw.data_lt h1 e).2; omega, by omega, fun e => by have := (Raw.data_lt h2 e).2; omega⟩
theorem TwoP.below (h : TwoP w P high L R hr M O ob W) (hb : Below W.heap.size W W') : TwoP w P high L R hr M O ob W' := by
  obtain ⟨D, E, h1, h2, h3, h4, h5⟩ := h
  exact ⟨D, E, Raw.kept h1 (hb.block _ (Raw.lt h1)) (fun k e => hb.block _ (Raw.data_lt h1 e).2), Raw.kept h2 (hb.block _ (Raw.lt h2)) (fun k e => hb.block _ (Raw.data_lt h2 e).2), h3, h4.own (below_keeps hb) (fun _ h => h.elim),
    (hb.block _ (lt_of_block h5.1)).trans h5.1, h5.2⟩
theorem TwoP.drewN (h : TwoP w P high L R hr M O ob W) (n : Nat) : TwoP w P high L R hr M O ob (W.drewN n) := h.below ⟨rfl, rfl, rfl, Nat.le_refl _, fun _ _ => rfl⟩

theorem TwoP.step {D E : Option Nat} (h1 : Wr W w.heap.size P D high L) (h2 : Wr W w.heap.size R E hr M) (h3 : P ≠ R ∧ D ≠ some R ∧ E ≠ some P ∧ ∀ k, D = some k → E ≠ some k) (h4 : Keeps (fun _ => False) w W) (h5 : W.heap[O]? = some ob ∧ O ≠ P ∧ D ≠ some O ∧ O ≠ R ∧ E ≠ some O)
    (ht : Then W w.heap.size P D high L' W') : TwoP w P high L' R hr M O ob W' := by
  obtain ⟨D', q1, q2, q3⟩ := ht
  obtain ⟨a, b, c, d⟩ := h3
  obtain ⟨p, q, r, s, t⟩ := h5
  have hO := lt_of_block p
  have hR := Raw.lt h2
  refine ⟨D', E, q1, Raw.keeps h2 q2 ?_ ?_, ⟨a, ?_, c, ?_⟩, h4.own q2 ?_, (q2.block O hO ?_).trans p, q, ?_, s, t⟩
  · rintro (e | e)
    · exact a e.symm
    · exact b e.symm
  · rintro k ek (e | e)
    · exact c (ek.trans (by rw [e]))
    · exact d k e.symm ek
  · rcases q3 with e | ⟨k, e, hk⟩
    · rw [e]; exact b
    · rw [e]; simp; omega
  · intro k ek
    rcases q3 with e | ⟨k', e, hk⟩
    · exact d k (e ▸ ek)
    · intro e2
      have := (Raw.data_lt h2 e2).2
      rw [e] at ek
      simp only [Option.some.injEq] at ek
      omega
  · rintro i (e | e)
    · rw [e]; exact h1.at_
    · exact (Raw.data_lt h1 e.symm).1
  · rintro (e | e)
    · exact q e
    · exact r e.symm
  · rcases q3 with e | ⟨k, e, hk⟩
    · rw [e]; exact r
    · rw [e]; simp; omega

theorem put_twoP (h : TwoP w P high L R hr M O ob W) (hl : L.length ≤ 16777216) (v n : Int) :
    Calls Tryd.prog 7 #[.pointer (some ⟨P, 0, none⟩), .int .i64 v, .int .i64 n] W fun e W' => e = .returned (.bool (fits v n)) ∧ TwoP w P high (put high L v n) R hr M O ob W' := by
  obtain ⟨D, E, h1, h2, h3, h4, h5⟩ := h
  exact (put_any W _ P D high L h1 h4.size hl v n).mono (fun e W' ⟨he, ht⟩ => ⟨he, TwoP.step h1 h2 h3 h4 h5 ht⟩)
theorem new_two (h : St w P high L W) (hr : Bool) :
    Calls Tryd.prog 6 #[.bool hr] W fun e W' => e = .returned (.pointer (some ⟨W.heap.size, 0, none⟩)) ∧ Two w P high L W.heap.size hr [] W' := by
  refine (new_any W w.heap.size h.size hr).mono ?_
  rintro e W' ⟨he, hn, _, hk'⟩
  have hP := h.lt
  obtain ⟨D, h1, h2⟩ := h
  refine ⟨he, D, none, Raw.keeps h1 hk' (fun h => h) (fun _ _ h => h), hn, ⟨by omega, ?_, by simp, by simp⟩, h2.own hk' (fun _ h => h.elim)⟩
  intro e; have := (Raw.data_lt h1 e).2; omega
end Go.Proofs.YtpmoknnhgginjaaDoor.Bi

/- The bits of bytes as a row; the contracts of highFirst and lowFirst. -/
namespace Go.Proofs.YtpmoknnhgginjaaDoor.Bi
set_option linter.unusedVariables false
open Go.RowKit

/-- The bits of bytes, one byte behind the other. -/
def rowOf (high : Bool) : List Nat → List Bool
  | [] => []
  | y :: ys => row high y 8 ++ rowOf high ys

theorem rowOf_length (high : Bool) (ys : List Nat) : (rowOf high ys).length = 8 * ys.length := by
  induction ys with
  | nil => rfl
  | cons y ys ih => simp only [rowOf, List.length_append, row_length, ih, List.length_cons]; omega
theorem rowOf_append (high : Bool) (xs ys : List Nat) : rowOf high (xs ++ ys) = rowOf high xs ++ rowOf high ys := by
  induction xs with
  | nil => rfl
  | cons x xs ih => simp [rowOf, ih]
theorem rowOf_drop (high : Bool) (ys : List Nat) (k : Nat) : rowOf high (ys.drop k) = (rowOf high ys).drop (8 * k) := by
  induction k generalizing ys with
  | zero => simp
  | succ k ih =>
    cases ys with
    | nil => simp [rowOf]
    | cons y ys =>
      simp only [List.drop_succ_cons, ih, rowOf]
      rw [show 8 * (k + 1) = (row high y 8).length + 8 * k by rw [row_length]; omega, ← List.drop_drop, List.drop_left]
theorem rowOf_take (high : Bool) (ys : List Nat) (k : Nat) : rowOf high (ys.take k) = (rowOf high ys).take (8 * k) := by
  induction k generalizing ys with
  | zero => simp [rowOf]
  | succ k ih =>
    cases ys with
    | nil => simp [rowOf]
    | cons y ys =>
      simp only [List.take_succ_cons, ih, rowOf]
      rw [show 8 * (k + 1) = (row high y 8).length + 8 * k by rw [row_length]; omega, List.take_length_add_append]
theorem take_one_more {ys : List Nat} {i y : Nat} (h : ys[i]? = some y) : ys.take (i + 1) = ys.take i ++ [y] := by
  rw [List.take_add_one, h]; rfl

theorem low_more {ys : List Nat} {i y : Nat} (h : ys[i]? = some y) (hy : y < 256) : val false (rowOf false (ys.take (i + 1))) = val false (rowOf false (ys.take i)) + y * 2 ^ (8 * i) := by
  have hi : i < ys.length := (List.getElem?_eq_some_iff.1 h).1
  rw [take_one_more h, rowOf_append, low_append, rowOf_length, List.length_take, Nat.min_eq_left (by omega)]
  simp only [rowOf, List.append_nil]
  rw [val_row (by omega), Nat.mul_comm]
theorem high_more {ys : List Nat} {i y : Nat} (h : ys[i]? = some y) (hy : y < 256) : val true (rowOf true (ys.take (i + 1))) = val true (rowOf true (ys.take i)) * 256 + y := by
  rw [take_one_more h, rowOf_append, high_append]
  simp only [rowOf, List.append_nil]
  rw [val_row (by omega), row_length]

theorem or_high (V y : Nat) (hV : V < 16777216) (hy : y < 256) : bits .or .i64 ((V : Int) * 256) (y : Int) = ((V * 256 + y : Nat) : Int) := by
  rw [show ((V : Int) * 256) = ((V * 256 : Nat) : Int) by simp, i64_or_nat _ _ (by omega) (by omega), nat_join 8 _ _ (by omega) (by omega)]
theorem or_low (V y i : Nat) (hV : V < 2 ^ (8 * i)) (hi : i < 4) (hy : y < 256) : bits .or .i64 (V : Int) ((y * 2 ^ (8 * i) : Nat) : Int) = ((V + y * 2 ^ (8 * i) : Nat) : Int) := by
  have h1 : 2 ^ (8 * i) ≤ 2 ^ 24 := Nat.pow_le_pow_right (by omega) (by omega)
  have h2 : y * 2 ^ (8 * i) ≤ 256 * 2 ^ 24 := Nat.mul_le_mul (by omega) h1
  rw [i64_or_nat _ _ (by omega) (by omega), Nat.or_comm, nat_join (8 * i) _ _ (Nat.mul_mod_left _ _) hV, Nat.add_comm]

/-- Bytes that a slice value leads to. -/
def Bytes (w : World) (a : Option Addr) (n : Nat) (ys : List Nat) : Prop :=
  ys.length = n ∧ (∀ y ∈ ys, y < 256) ∧ (0 < n → ∃ b off, a = some ⟨b, off, none⟩ ∧ ∀ (j y : Nat), ys[j]? = some y → w.cell? ⟨b, off + j, none⟩ = some (.int .u8 (y : Int)))

theorem Bytes.later {w w' : World} {a : Option Addr} {n : Nat} {ys : List Nat} (h : Bytes w a n ys) (hk : ∀ k, k < w.heap.size → w'.heap[k]? = w.heap[k]?) : Bytes w' a n ys := by
  obtain ⟨h1, h2, h3⟩ := h
  refine ⟨h1, h2, fun hp => ?_⟩
  obtain ⟨b, off, e, hc⟩ := h3 hp
  exact ⟨b, off, e, fun j y hj => (World.cell?_of_block (w := w) (hk _ (World.block_lt_of_cell? w _ (hc j y hj)))).trans (hc j y hj)⟩

theorem highFirst_any (w : World) (a : Option Addr) (n c : Nat) (ys : List Nat) (h : Bytes w a n ys) (hn : n ≤ 4) :
    Calls Tryd.prog 40 #[.slice a n c] w fun e w' => e = .returned (.int .i64 (val true (rowOf true ys) : Nat)) ∧ w' = w := by
  obtain ⟨hl, hb, hc⟩ := h
  have HL := Lib.hid hl
  have HB := Lib.hid hb
  have HC := Lib.hid hc
  clear hl hb hc
  go_enter Tryd.func40, Tryd.ntmps40
  go_wp2
  go_loopw [3, 8] (fun v cnt wr => ∃ i : Nat, i ≤ n ∧ cnt = .int .i64 i ∧ v = .int .i64 (val true (rowOf true (ys.take i)) : Nat) ∧ wr = w) (fun _ cnt _ => n - (intOf cnt).toNat)
  case atStart => exact ⟨0, Nat.zero_le _, rfl, rfl, rfl⟩
  case round =>
    obtain ⟨i, hi, rfl, rfl, rfl⟩ := hrel
    by_cases hlt : i < n
    · obtain ⟨b, off, rfl, hcell⟩ := HC.out (by omega)
      obtain ⟨y, hy⟩ : ∃ y, ys[i]? = some y := ⟨_, List.getElem?_eq_getElem (by rw [HL.out]; exact hlt)⟩
      have c0 := hcell i y hy
      have hy8 : y < 256 := HB.out y (List.mem_of_getElem? hy)
      have hm := Lib.hid (high_more hy hy8)
      have hV : val true (rowOf true (ys.take i)) < 16777216 := by
        have h1 := val_lt true (rowOf true (ys.take i))
        rw [rowOf_length, List.length_take] at h1
        have h2 : 2 ^ (8 * min i ys.length) ≤ 2 ^ 24 := Nat.pow_le_pow_right (by omega) (by omega)
        omega
      generalize val true (rowOf true (ys.take i)) = V at *
      clear hcell hy
      go_wp2
      go_roundw
      case rel => exact ⟨i + 1, hlt, by go_num, by rw [hm.out, or_high V y hV hy8], trivial⟩
      case measure => simp [intOf]; omega
    · obtain rfl : i = n := by omega
      rw [List.take_of_length_le (by rw [HL.out]; omega)]
      go_wp2
      go_ret
      exact ⟨rfl, rfl⟩

theorem lowFirst_any (w : World) (a : Option Addr) (n c : Nat) (ys : List Nat) (h : Bytes w a n ys) (hn : n ≤ 4) :
    Calls Tryd.prog 41 #[.slice a n c] w fun e w' => e = .returned (.int .i64 (val false (rowOf false ys) : Nat)) ∧ w' = w := by
  obtain ⟨hl, hb, hc⟩ := h
  have HL := Lib.hid hl
  have HB := Lib.hid hb
  have HC := Lib.hid hc
  clear hl hb hc
  go_enter Tryd.func41, Tryd.ntmps41
  go_wp2
  go_loopw [3, 8] (fun v cnt wr => ∃ i : Nat, i ≤ n ∧ cnt = .int .i64 i ∧ v = .int .i64 (val false (rowOf false (ys.take i)) : Nat) ∧ wr = w) (fun _ cnt _ => n - (intOf cnt).toNat)
  case atStart => exact ⟨0, Nat.zero_le _, rfl, rfl, rfl⟩
  case round =>
    obtain ⟨i, hi, rfl, rfl, rfl⟩ := hrel
    by_cases hlt : i < n
    · obtain ⟨b, off, rfl, hcell⟩ := HC.out (by omega)
      obtain ⟨y, hy⟩ : ∃ y, ys[i]? = some y := ⟨_, List.getElem?_eq_getElem (by rw [HL.out]; exact hlt)⟩
      have c0 := hcell i y hy
      have hy8 : y < 256 := HB.out y (List.mem_of_getElem? hy)
      have hm := Lib.hid (low_more hy hy8)
      have hV : val false (rowOf false (ys.take i)) < 2 ^ (8 * i) := by
        have h1 := val_lt false (rowOf false (ys.take i))
        rw [rowOf_length, List.length_take, Nat.min_eq_left (by rw [HL.out]; omega)] at h1
        exact h1
      have HO := Lib.hid (or_low _ y i hV (by omega) hy8)
      have HW := Lib.hid (show wrap64 ((y : Int) * 2 ^ (8 * i)) = ((y * 2 ^ (8 * i) : Nat) : Int) by
        have h1 : 2 ^ (8 * i) ≤ 2 ^ 24 := Nat.pow_le_pow_right (by omega) (by omega)
        have h2 : y * 2 ^ (8 * i) ≤ 256 * 2 ^ 24 := Nat.mul_le_mul (by omega) h1
        rw [two_pow_cast, ← Int.natCast_mul, IntWalk.wrap64_in _ (by omega)])
      generalize val false (rowOf false (ys.take i)) = V at *
      clear hcell hy hV
      go_wp2
      go_roundw
      case rel => exact ⟨i + 1, hlt, by go_num, by rw [hm.out, HW.out, HO.out], trivial⟩
      case measure => simp [intOf]; omega
    · obtain rfl : i = n := by omega
      rw [List.take_of_length_le (by rw [HL.out]; omega)]
      go_wp2
      go_ret
      exact ⟨rfl, rfl⟩

/-- A reader at block P over the bytes ds, which lie in block D; it stands at a bit. -/
structure Rd (w : World) (B P D : Nat) (high : Bool) (ds : List Nat) (pos : Nat) : Prop where
  at_ : B ≤ P
  dat_ : B ≤ D
  ne : D ≠ P
  byte : ∀ y ∈ ds, y < 256
  block : w.heap[P]? = some (.cells #[.bool high, .slice (some ⟨D, 0, none⟩) ds.length ds.length, .int .i64 (pos : Int)] 64 (0, 0))
  data : w.heap[D]? = some (.cells (ds.map (fun y : Nat => Value.int .u8 (y : Int))).toArray 5 (0, 0))
  pos_le : pos ≤ 8 * ds.length
  len : ds.length ≤ 16777216

theorem reader_cells {w : World} {R : Nat} {a b c : Value} {t : TypeId} (h : w.heap[R]? = some (.cells #[a, b, c] t (0, 0))) :
    w.cell? ⟨R, 0, none⟩ = some a ∧ w.cell? ⟨R, 1, none⟩ = some b ∧ w.cell? ⟨R, 2, none⟩ = some c := by
  simp [World.cell?, h]

theorem Rd.kept {w w' : World} {B P D pos : Nat} {high : Bool} {ds : List Nat} (h : Rd w B P D high ds pos) (hP : w'.heap[P]? = w.heap[P]?) (hD : w'.heap[D]? = w.heap[D]?) : Rd w' B P D high ds pos :=
  ⟨h.at_, h.dat_, h.ne, h.byte, hP.trans h.block, hD.trans h.data, h.pos_le, h.len⟩
theorem Rd.set {w : World} {B P D pos p' : Nat} {high : Bool} {ds : List Nat} (h : Rd w B P D high ds pos) (hp : p' ≤ 8 * ds.length) : Rd (w.setCell ⟨P, 2, none⟩ (.int .i64 (p' : Int))) B P D high ds p' := by
  refine ⟨h.at_, h.dat_, h.ne, h.byte, ?_, ?_, hp, h.len⟩
  · rw [block_set h.block]; simp
  · rw [Below.heap_setCell _ _ _ _ h.ne]; exact h.data
theorem Rd.bytes {w : World} {B P D pos : Nat} {high : Bool} {ds : List Nat} (h : Rd w B P D high ds pos) (k m : Nat) : Bytes w (some ⟨D, k, none⟩) ((ds.drop k).take m).length ((ds.drop k).take m) := by
  refine ⟨rfl, fun y hy => h.byte y (List.mem_of_mem_drop (List.mem_of_mem_take hy)), fun _ => ⟨D, k, rfl, fun j y hj => ?_⟩⟩
  rw [List.getElem?_take] at hj
  split at hj
  · rw [List.getElem?_drop] at hj
    simp [World.cell?, h.data, hj]
  · cases hj
theorem Rd.lt {w : World} {B P D pos : Nat} {high : Bool} {ds : List Nat} (h : Rd w B P D high ds pos) : P < w.heap.size ∧ D < w.heap.size := ⟨lt_of_block h.block, lt_of_block h.data⟩

theorem at_any (w : World) (B P D pos : Nat) (high : Bool) (ds : List Nat) (h : Rd w B P D high ds pos) :
    Calls Tryd.prog 23 #[.pointer (some ⟨P, 0, none⟩)] w fun e w' => e = .returned (.int .i64 pos) ∧ w' = w := by
  obtain ⟨h0, h1, h2⟩ := reader_cells h.block
  clear h h0 h1
  go_enter Tryd.func23, Tryd.ntmps23
  go_wp2
  go_ret
  exact ⟨rfl, rfl⟩

theorem left_any (w : World) (B P D pos : Nat) (high : Bool) (ds : List Nat) (h : Rd w B P D high ds pos) :
    Calls Tryd.prog 39 #[.pointer (some ⟨P, 0, none⟩)] w fun e w' => e = .returned (.int .i64 ((8 * ds.length - pos : Nat) : Int)) ∧ ∃ n, w' = w.drewN n := by
  obtain ⟨h0, h1, h2⟩ := reader_cells h.block
  have hp := h.pos_le
  have hl := h.len
  clear h h0
  have e : ((8 * ds.length - pos : Nat) : Int) = 8 * (ds.length : Int) - pos := by omega
  rw [e]
  clear e
  generalize ds.length = n at *
  go_enter Tryd.func39, Tryd.ntmps39
  go_wp2
  go_quiet (fail)
  go_wp2
  go_ret
  exact ⟨rfl, _, rfl⟩

theorem align_any (w : World) (B P D pos : Nat) (high : Bool) (ds : List Nat) (h : Rd w B P D high ds pos) :
    Calls Tryd.prog 42 #[.pointer (some ⟨P, 0, none⟩)] w fun e w' => e = .returned (.tuple #[]) ∧ Rd w' B P D high ds ((pos + 7) / 8 * 8) ∧ Keeps (fun k => k = P) w w' := by
  obtain ⟨h0, h1, h2⟩ := reader_cells h.block
  have f2 := block_free h.block 2
  have hp := h.pos_le
  have hl := h.len
  have X := Lib.hid (And.intro (h.set (p' := (pos + 7) / 8 * 8) (by omega)) (Keeps.one w P 2 (.int .i64 (((pos + 7) / 8 * 8 : Nat) : Int))))
  clear h h0 h1
  go_enter Tryd.func42, Tryd.ntmps42
  go_wp2
  go_end0
  rw [show ((pos : Int) + 7) / 8 * 8 = (((pos + 7) / 8 * 8 : Nat) : Int) by omega]
  exact ⟨rfl, X.out⟩

theorem open_any (w : World) (B : Nat) (hB : B ≤ w.heap.size) (a : Option Addr) (n c : Nat) (ds : List Nat) (high : Bool) (h : Bytes w a n ds) (hn : n ≤ 16777216) :
    Calls Tryd.prog 20 #[.slice a n c, .bool high] w fun e w' => ∃ P, e = .returned (.pointer (some ⟨P, 0, none⟩)) ∧ Rd w' B P w.heap.size high ds 0 ∧ w.heap.size ≤ P ∧ Below w.heap.size w w' := by
  have S := Lib.hid h
  clear h
  go_enter Tryd.func20, Tryd.ntmps20
  go_wp2_with (at_make; go_must (refine wpList_make_cap rfl (.tmp 7) (.tmp 7) rfl n n rfl rfl (Nat.le_refl _) (by omega) ?c2))
  case c2 =>
    intro w1 hown1 hb1 hbel1
    have hg1 : w1.heap[w.heap.size]? = some (.cells (madeCells #[.int .u8 0] n).toList.toArray 5 (0, 0)) := by simpa using hb1
    have HB := Lib.hid hbel1
    have HG := Lib.hid hg1
    have S1 := Lib.hid (S.out.later (fun k hk => hbel1.block k hk))
    have hw1 := lt_of_block hb1
    clear hown1 hb1 hbel1 hg1
    go_wp2_with (with_reducible refine wpList_copy_splice rfl (.tmp 9) (.tmp 10) 26 26 rfl 5 Tryd.underlying26 (by kernel_rfl) (some ⟨w.heap.size, 0, none⟩) a n n n c rfl rfl w.heap.size 0 _ 5 HG.out (ds.map (fun y : Nat => Value.int .u8 (y : Int))) ?d1 ?d2 ?d3 ?d4 w.heap.size w HB.out (Nat.le_refl _) ?d5)
    case d1 => rw [List.length_map, S1.out.1]; simp
    case d2 =>
      intro hp
      obtain ⟨b, off, e, hc⟩ := S1.out.2.2 (by have := S1.out.1; omega)
      refine ⟨⟨b, off, none⟩, e, ?_⟩
      intro j y hj
      have k := hc j y hj
      have e3 : ((⟨b, off, none⟩ : Addr).add j) = ⟨b, off + j, none⟩ := by
        unfold Addr.add
        split
        · rename_i h; subst h; rfl
        · rfl
      rw [e3]
      exact k
    case d3 => have := S1.out.1; simp [size_madeCells]; omega
    case d4 => intro u hu; simp only [List.mem_map] at hu; obtain ⟨y, _, rfl⟩ := hu; rfl
    case d5 =>
      intro w2 hh hb2
      have X := Lib.hid (show w2.heap[w.heap.size]? = some (.cells (ds.map (fun y : Nat => Value.int .u8 (y : Int))).toArray 5 (0, 0)) by
        rw [hh.out]
        have e : ∀ Z : List Value, Z.length = n → splice Z 0 (ds.map (fun y : Nat => Value.int .u8 (y : Int))) = ds.map (fun y : Nat => Value.int .u8 (y : Int)) := by
          intro Z hZ
          have := S1.out.1
          unfold splice
          rw [List.drop_eq_nil_of_le (by simp; omega)]
          simp
        rw [e _ (by simp [size_madeCells])])
      have Y := Lib.hid hb2
      have hw2 : w.heap.size < w2.heap.size := lt_of_block X.out
      clear hh hb2
      go_wp2
      go_ret
      have hnl : ds.length = n := S.out.1
      subst hnl
      refine ⟨_, rfl, ⟨by omega, hB, by omega, S.out.2.1, ?_, ?_, by omega, hn⟩, by omega, Y.out.alloc (by omega) _⟩
      · rw [heap_alloc_new]; rfl
      · rw [Below.heap_alloc _ _ _ hw2]; exact X.out

theorem get_no (w : World) (B P D pos : Nat) (high : Bool) (ds : List Nat) (h : Rd w B P D high ds pos) (n : Int) (hn : n < 0 ∨ 24 < n ∨ ((8 * ds.length - pos : Nat) : Int) < n) :
    Calls Tryd.prog 30 #[.pointer (some ⟨P, 0, none⟩), .int .i64 n] w fun e w' => e = .returned (.tuple #[.int .i64 0, .bool false]) ∧ ∃ q, w' = w.drewN q := by
  by_cases c0 : n < 0
  · have t0 : decide (n < 0) = true := by simpa using c0
    clear h hn
    go_enter Tryd.func30, Tryd.ntmps30
    go_wp2
    go_ret2
    exact ⟨rfl, 0, rfl⟩
  have t0 : decide (n < 0) = false := by simpa using c0
  by_cases c1 : 24 < n
  · have t1 : decide (24 < n) = true := by simpa using c1
    clear h hn
    go_enter Tryd.func30, Tryd.ntmps30
    go_wp2
    go_ret2
    exact ⟨rfl, 0, rfl⟩
  have t1 : decide (24 < n) = false := by simpa using c1
  have C := Lib.hid (left_any w B P D pos high ds h)
  have t2 : decide (((8 * ds.length - pos : Nat) : Int) < n) = true := by simp only [decide_eq_true_eq]; omega
  clear h hn
  generalize ((8 * ds.length - pos : Nat) : Int) = z at *
  go_enter Tryd.func30, Tryd.ntmps30
  go_wp2_with fail
  refine C.out.mono ?_
  rintro e w' ⟨rfl, q, rfl⟩
  go_wp2_with fail
  go_ret2
  exact ⟨rfl, q, rfl⟩

end Go.Proofs.YtpmoknnhgginjaaDoor.Bi

/- The contract of Get. -/
namespace Go.Proofs.YtpmoknnhgginjaaDoor.Bi
set_option linter.unusedVariables false
open Go.RowKit

theorem got_high (ds : List Nat) (pos n f l s : Nat) (hn : n ≤ 24) (hf : f = pos / 8) (hl : l = (pos + n + 7) / 8) (hs : s = 8 * l - (pos + n)) (hle : l ≤ ds.length) :
    bits .and .i64 (((val true (rowOf true ((ds.drop f).take (l - f))) : Nat) : Int) / 2 ^ s) ((2 ^ n - 1 : Nat) : Int) = ((val true (((rowOf true ds).drop pos).take n) : Nat) : Int) := by
  have hT : (rowOf true ((ds.drop f).take (l - f))).length = 8 * (l - f) := by rw [rowOf_length]; simp; omega
  have hlt : val true (rowOf true ((ds.drop f).take (l - f))) < 2 ^ 32 := by
    have h1 := val_lt true (rowOf true ((ds.drop f).take (l - f)))
    have h2 : 2 ^ (rowOf true ((ds.drop f).take (l - f))).length ≤ 2 ^ 32 := Nat.pow_le_pow_right (by omega) (by omega)
    omega
  have hlt2 : val true (rowOf true ((ds.drop f).take (l - f))) / 2 ^ s ≤ val true (rowOf true ((ds.drop f).take (l - f))) := Nat.div_le_self _ _
  rw [two_pow_cast, ← Int.natCast_ediv, i64_mask _ _ (by omega) (by omega)]
  congr 1
  have e1 := high_take (rowOf true ((ds.drop f).take (l - f))) (8 * (l - f) - s)
  rw [hT, show 8 * (l - f) - (8 * (l - f) - s) = s by omega] at e1
  have e2 := high_drop ((rowOf true ((ds.drop f).take (l - f))).take (8 * (l - f) - s)) (8 * (l - f) - s - n)
  rw [List.length_take, hT, show min (8 * (l - f) - s) (8 * (l - f)) - (8 * (l - f) - s - n) = n by omega] at e2
  rw [← e1, ← e2, rowOf_take, rowOf_drop, List.take_take, List.drop_take, List.drop_drop]
  rw [show 8 * f + (8 * (l - f) - s - n) = pos by omega, show min (8 * (l - f) - s) (8 * (l - f)) - (8 * (l - f) - s - n) = n by omega]

theorem got_low (ds : List Nat) (pos n f l r : Nat) (hn : n ≤ 24) (hf : f = pos / 8) (hl : l = (pos + n + 7) / 8) (hr : r = pos % 8) (hle : l ≤ ds.length) :
    bits .and .i64 (((val false (rowOf false ((ds.drop f).take (l - f))) : Nat) : Int) / 2 ^ r) ((2 ^ n - 1 : Nat) : Int) = ((val false (((rowOf false ds).drop pos).take n) : Nat) : Int) := by
  have hT : (rowOf false ((ds.drop f).take (l - f))).length = 8 * (l - f) := by rw [rowOf_length]; simp; omega
  have hlt : val false (rowOf false ((ds.drop f).take (l - f))) < 2 ^ 32 := by
    have h1 := val_lt false (rowOf false ((ds.drop f).take (l - f)))
    have h2 : 2 ^ (rowOf false ((ds.drop f).take (l - f))).length ≤ 2 ^ 32 := Nat.pow_le_pow_right (by omega) (by omega)
    omega
  have hlt2 : val false (rowOf false ((ds.drop f).take (l - f))) / 2 ^ r ≤ val false (rowOf false ((ds.drop f).take (l - f))) := Nat.div_le_self _ _
  rw [two_pow_cast, ← Int.natCast_ediv, i64_mask _ _ (by omega) (by omega)]
  congr 1
  rw [← low_drop, ← low_take, rowOf_take, rowOf_drop, List.drop_take, List.drop_drop, List.take_take]
  rw [show 8 * f + r = pos by omega, show min n (8 * (l - f) - r) = n by omega]

theorem bytes_none (w : World) (a : Option Addr) : Bytes w a 0 [] := ⟨rfl, by simp, fun h => by omega⟩

/-- What Get leaves. -/
def Got (w : World) (B P D pos n : Nat) (high : Bool) (ds : List Nat) (e : Ending) (w' : World) : Prop :=
  e = .returned (.tuple #[.int .i64 (val high (((rowOf high ds).drop pos).take n) : Nat), .bool true]) ∧ Rd w' B P D high ds (pos + n) ∧ Keeps (fun k => k = P) w w'

theorem Got.of {w : World} {B P D pos n : Nat} {high : Bool} {ds : List Nat} (h : Rd w B P D high ds pos) (hl : pos + n ≤ 8 * ds.length) (q : Nat) {W : World} (hW : (w.drewN q).setCell ⟨P, 2, none⟩ (.int .i64 ((pos : Int) + n)) = W) :
    (∀ k m, Bytes W (some ⟨D, k, none⟩) ((ds.drop k).take m).length ((ds.drop k).take m)) ∧ W.cell? ⟨P, 0, none⟩ = some (.bool high) ∧ ∀ q2, Got w B P D pos n high ds (.returned (.tuple #[.int .i64 (val high (((rowOf high ds).drop pos).take n) : Nat), .bool true])) (W.drewN q2) := by
  have h1 : Rd (w.drewN q) B P D high ds pos := h.kept rfl rfl
  have h2 := h1.set (p' := pos + n) hl
  rw [show ((pos + n : Nat) : Int) = (pos : Int) + n by omega, hW] at h2
  refine ⟨fun k m => h2.bytes k m, (reader_cells h2.block).1, fun q2 => ⟨rfl, h2.kept rfl rfl, ?_⟩⟩
  rw [← hW]
  exact (((Keeps.refl (fun k => k = P) w).drewN q).setCell (p := ⟨P, 2, none⟩) (fun _ => rfl) _).drewN q2

set_option maxRecDepth 100000 in
set_option maxHeartbeats 800000 in
theorem get_high (w : World) (B P D pos : Nat) (ds : List Nat) (h : Rd w B P D true ds pos) (n : Nat) (hn : n ≤ 24) (hl : pos + n ≤ 8 * ds.length) (hp : pos < 8 * ds.length) :
    Calls Tryd.prog 30 #[.pointer (some ⟨P, 0, none⟩), .int .i64 n] w (Got w B P D pos n true ds) := by
  obtain ⟨h0, h1, h2⟩ := reader_cells h.block
  have f2 := block_free h.block 2
  have hlen := h.len
  obtain ⟨f, hf⟩ : ∃ f, f = pos / 8 := ⟨_, rfl⟩
  obtain ⟨l, hl'⟩ : ∃ l, l = (pos + n + 7) / 8 := ⟨_, rfl⟩
  obtain ⟨s, hs⟩ : ∃ s, s = 8 * l - (pos + n) := ⟨_, rfl⟩
  have ef : (pos : Int) / 8 = (f : Int) := by omega
  have el : ((pos : Int) + n + 7) / 8 = (l : Int) := by omega
  have es : 8 * (l : Int) - ((pos : Int) + n) = (s : Int) := by omega
  have hfl : f ≤ l := by omega
  have hlm : l ≤ ds.length := by omega
  have hs8 : s ≤ 8 := by omega
  have hlf : l - f ≤ 4 := by omega
  have t2 : decide (((8 * ds.length - pos : Nat) : Int) < (n : Int)) = false := by simp only [decide_eq_false_iff_not]; omega
  have C := Lib.hid (left_any w B P D pos true ds h)
  have G := Lib.hid (fun q W hW => Got.of (n := n) h hl q (W := W) hW)
  have HG := Lib.hid (got_high ds pos n f l s hn hf hl' hs hlm)
  have hne : ¬ ds.length = f := by omega
  have HT := Lib.hid (show ((ds.drop f).take (l - f)).length = l - f by simp; omega)
  clear h hf hl' hs
  generalize hz : ((8 * ds.length - pos : Nat) : Int) = z at *
  clear hz
  go_enter Tryd.func30, Tryd.ntmps30
  go_wp2_with fail
  refine C.out.mono ?_
  rintro e w' ⟨rfl, q, rfl⟩
  go_wp2_with fail
  go_quiet (fail)
  go_wp2_with fail
  generalize hW : (w.drewN (q + nq)).setCell ⟨P, 2, none⟩ (.int .i64 ((pos : Int) + n)) = W at *
  obtain ⟨hby, hc0, hgot⟩ := G.out _ _ hW
  have CH := Lib.hid (fun (q2 c : Nat) => highFirst_any (W.drewN q2) (some ⟨D, f, none⟩) (l - f) c ((ds.drop f).take (l - f)) (by have k := hby f (l - f); rw [HT.out] at k; exact k.later (fun _ _ => rfl)) hlf)
  have CM := Lib.hid (fun q2 : Nat => (mask_any (W.drewN q2) n (by omega)).mono (fun e w' h => (⟨h.1, h.2.symm⟩ : e = .returned (.int .i64 ((2 ^ n - 1 : Nat) : Int)) ∧ w' = W.drewN q2)))
  have HGOT := Lib.hid hgot
  generalize val true (rowOf true ((ds.drop f).take (l - f))) = V at *
  generalize 2 ^ n - 1 = mk at *
  clear hby hgot hW h0 h1 h2 f2
  go_quiet (first
    | (go_at_call 40; exact Calls.quiet_of_same (CH.out _ _))
    | (go_at_call 17; exact Calls.quiet_of_same (CM.out _)))
  go_wp2_with fail
  go_ret2
  have k := HGOT.out nq
  rw [← HG.out] at k
  exact k
set_option maxRecDepth 100000 in
set_option maxHeartbeats 800000 in
theorem get_low (w : World) (B P D pos : Nat) (ds : List Nat) (h : Rd w B P D false ds pos) (n : Nat) (hn : n ≤ 24) (hl : pos + n ≤ 8 * ds.length) (hp : pos < 8 * ds.length) :
    Calls Tryd.prog 30 #[.pointer (some ⟨P, 0, none⟩), .int .i64 n] w (Got w B P D pos n false ds) := by
  obtain ⟨h0, h1, h2⟩ := reader_cells h.block
  have f2 := block_free h.block 2
  have hlen := h.len
  obtain ⟨f, hf⟩ : ∃ f, f = pos / 8 := ⟨_, rfl⟩
  obtain ⟨l, hl'⟩ : ∃ l, l = (pos + n + 7) / 8 := ⟨_, rfl⟩
  obtain ⟨s, hs⟩ : ∃ s, s = pos % 8 := ⟨_, rfl⟩
  have ef : (pos : Int) / 8 = (f : Int) := by omega
  have el : ((pos : Int) + n + 7) / 8 = (l : Int) := by omega
  have es : (pos : Int) % 8 = (s : Int) := by omega
  have hfl : f ≤ l := by omega
  have hlm : l ≤ ds.length := by omega
  have hs8 : s ≤ 8 := by omega
  have hlf : l - f ≤ 4 := by omega
  have t2 : decide (((8 * ds.length - pos : Nat) : Int) < (n : Int)) = false := by simp only [decide_eq_false_iff_not]; omega
  have C := Lib.hid (left_any w B P D pos false ds h)
  have G := Lib.hid (fun q W hW => Got.of (n := n) h hl q (W := W) hW)
  have HG := Lib.hid (got_low ds pos n f l s hn hf hl' hs hlm)
  have hne : ¬ ds.length = f := by omega
  have HT := Lib.hid (show ((ds.drop f).take (l - f)).length = l - f by simp; omega)
  clear h hf hl' hs
  generalize hz : ((8 * ds.length - pos : Nat) : Int) = z at *
  clear hz
  go_enter Tryd.func30, Tryd.ntmps30
  go_wp2_with fail
  refine C.out.mono ?_
  rintro e w' ⟨rfl, q, rfl⟩
  go_wp2_with fail
  go_quiet (fail)
  go_wp2_with fail
  generalize hW : (w.drewN (q + nq)).setCell ⟨P, 2, none⟩ (.int .i64 ((pos : Int) + n)) = W at *
  obtain ⟨hby, hc0, hgot⟩ := G.out _ _ hW
  have CH := Lib.hid (fun (q2 c : Nat) => lowFirst_any (W.drewN q2) (some ⟨D, f, none⟩) (l - f) c ((ds.drop f).take (l - f)) (by have k := hby f (l - f); rw [HT.out] at k; exact k.later (fun _ _ => rfl)) hlf)
  have CM := Lib.hid (fun q2 : Nat => (mask_any (W.drewN q2) n (by omega)).mono (fun e w' h => (⟨h.1, h.2.symm⟩ : e = .returned (.int .i64 ((2 ^ n - 1 : Nat) : Int)) ∧ w' = W.drewN q2)))
  have HGOT := Lib.hid hgot
  generalize val false (rowOf false ((ds.drop f).take (l - f))) = V at *
  generalize 2 ^ n - 1 = mk at *
  clear hby hgot hW h0 h1 h2 f2
  go_quiet (first
    | (go_at_call 41; exact Calls.quiet_of_same (CH.out _ _))
    | (go_at_call 17; exact Calls.quiet_of_same (CM.out _)))
  go_wp2_with fail
  go_ret2
  have k := HGOT.out nq
  rw [← HG.out] at k
  exact k

set_option maxRecDepth 100000 in
set_option maxHeartbeats 800000 in
/-- Nothing is read at the end. -/
theorem get_end (w : World) (B P D : Nat) (high : Bool) (ds : List Nat) (h : Rd w B P D high ds (8 * ds.length)) :
    Calls Tryd.prog 30 #[.pointer (some ⟨P, 0, none⟩), .int .i64 0] w (Got w B P D (8 * ds.length) 0 high ds) := by
  obtain ⟨h0, h1, h2⟩ := reader_cells h.block
  have f2 := block_free h.block 2
  have hlen := h.len
  have C := Lib.hid (left_any w B P D (8 * ds.length) high ds h)
  have G := Lib.hid (fun (q : Nat) (W : World) (hW : (w.drewN q).setCell ⟨P, 2, none⟩ (.int .i64 (8 * (ds.length : Int))) = W) => Got.of (n := 0) h (Nat.le_refl _) q (W := W) (by rw [← hW]; simp))
  have CH := Lib.hid (fun (W : World) (q2 c : Nat) (a : Option Addr) => show Calls Tryd.prog 40 #[.slice a 0 c] (W.drewN q2) fun e w' => e = .returned (.int .i64 0) ∧ w' = W.drewN q2 from highFirst_any (W.drewN q2) a 0 c [] (bytes_none _ _) (by omega))
  have CL := Lib.hid (fun (W : World) (q2 c : Nat) (a : Option Addr) => show Calls Tryd.prog 41 #[.slice a 0 c] (W.drewN q2) fun e w' => e = .returned (.int .i64 0) ∧ w' = W.drewN q2 from lowFirst_any (W.drewN q2) a 0 c [] (bytes_none _ _) (by omega))
  have CM := Lib.hid (fun (W : World) (q2 : Nat) => show Calls Tryd.prog 17 #[.int .i64 0] (W.drewN q2) fun e w' => e = .returned (.int .i64 0) ∧ w' = W.drewN q2 from (mask_any (W.drewN q2) 0 (by omega)).mono (fun e w' h => ⟨h.1, h.2.symm⟩))
  have eb : bits .and .i64 0 0 = 0 := by decide
  rw [Nat.sub_self] at C
  clear h
  generalize ds.length = m at *
  push_cast at h2
  have e8 : (8 * (m : Int) + 7) / 8 = (m : Int) := by omega
  have e9 : (8 * m + 7) / 8 = m := by omega
  cases high
  · skip
    go_enter Tryd.func30, Tryd.ntmps30
    go_wp2_with fail
    refine C.out.mono ?_
    rintro e w' ⟨rfl, q, rfl⟩
    go_wp2_with fail
    go_quiet (fail)
    go_wp2_with fail
    generalize hW : (w.drewN (q + nq)).setCell ⟨P, 2, none⟩ (.int .i64 (8 * (m : Int))) = W at *
    obtain ⟨hby, hc0, hgot⟩ := G.out _ _ hW
    have HGOT := Lib.hid hgot
    have CM1 := Lib.hid (CM.out W)
    have CX1 := Lib.hid (CL.out W)
    clear hby hgot hW h0 h1 h2 f2
    go_quiet (first
      | (go_at_call 41; exact Calls.quiet_of_same (CX1.out _ _ _))
      | (go_at_call 17; exact Calls.quiet_of_same (CM1.out _)))
    go_wp2_with fail
    go_ret2
    have k := HGOT.out nq
    rw [List.take_zero] at k
    exact k
  · skip
    go_enter Tryd.func30, Tryd.ntmps30
    go_wp2_with fail
    refine C.out.mono ?_
    rintro e w' ⟨rfl, q, rfl⟩
    go_wp2_with fail
    go_quiet (fail)
    go_wp2_with fail
    generalize hW : (w.drewN (q + nq)).setCell ⟨P, 2, none⟩ (.int .i64 (8 * (m : Int))) = W at *
    obtain ⟨hby, hc0, hgot⟩ := G.out _ _ hW
    have HGOT := Lib.hid hgot
    have CM1 := Lib.hid (CM.out W)
    have CX1 := Lib.hid (CH.out W)
    clear hby hgot hW h0 h1 h2 f2
    go_quiet (first
      | (go_at_call 40; exact Calls.quiet_of_same (CX1.out _ _ _))
      | (go_at_call 17; exact Calls.quiet_of_same (CM1.out _)))
    go_wp2_with fail
    go_ret2
    have k := HGOT.out nq
    rw [List.take_zero] at k
    exact k

theorem get_yes (w : World) (B P D pos : Nat) (high : Bool) (ds : List Nat) (h : Rd w B P D high ds pos) (n : Nat) (hn : n ≤ 24) (hl : pos + n ≤ 8 * ds.length) :
    Calls Tryd.prog 30 #[.pointer (some ⟨P, 0, none⟩), .int .i64 n] w (Got w B P D pos n high ds) := by
  by_cases hp : pos < 8 * ds.length
  · cases high
    · exact get_low w B P D pos ds h n hn hl hp
    · exact get_high w B P D pos ds h n hn hl hp
  · have e1 : pos = 8 * ds.length := by have := h.pos_le; omega
    have e2 : n = 0 := by omega
    subst e1
    subst e2
    exact get_end w B P D high ds h
end Go.Proofs.YtpmoknnhgginjaaDoor.Bi

/- The bits of a row's bytes are the row and noughts. -/
namespace Go.Proofs.YtpmoknnhgginjaaDoor.Bi
set_option linter.unusedVariables false
open Go.RowKit

/-- A row's bytes as numbers. -/
def packedN (high : Bool) (L : List Bool) : List Nat := (List.range ((L.length + 7) / 8)).map (byteAt high L)
theorem packed_eq (high : Bool) (L : List Bool) : packed high L = (packedN high L).map (fun y : Nat => (y : Int)) := by simp [packed, packedN, fulls]
theorem packedN_length (high : Bool) (L : List Bool) : (packedN high L).length = (L.length + 7) / 8 := by simp [packedN]
theorem packedN_byte (high : Bool) (L : List Bool) : ∀ y ∈ packedN high L, y < 256 := by
  intro y hy
  simp only [packedN, List.mem_map] at hy
  obtain ⟨i, _, rfl⟩ := hy
  exact byteAt_lt high L i

theorem byteAt_succ (high : Bool) (L : List Bool) (i : Nat) : byteAt high L (i + 1) = byteAt high (L.drop 8) i := by
  unfold byteAt
  rw [List.drop_drop, show 8 + 8 * i = 8 * (i + 1) by omega]
theorem packedN_cons (high : Bool) (L : List Bool) (h : 0 < L.length) : packedN high L = byteOf high (L.take 8) :: packedN high (L.drop 8) := by
  unfold packedN
  rw [show (L.length + 7) / 8 = (L.drop 8).length / 8 + ((L.length + 7) / 8 - (L.drop 8).length / 8) by simp; omega]
  have e : (L.drop 8).length / 8 + ((L.length + 7) / 8 - (L.drop 8).length / 8) = ((L.drop 8).length + 7) / 8 + 1 := by simp; omega
  rw [e, List.range_succ_eq_map, List.map_cons, List.map_map]
  have e0 : byteAt high L 0 = byteOf high (L.take 8) := by simp [byteAt]
  rw [e0]
  congr 1
  refine List.map_congr_left ?_
  intro i _
  exact byteAt_succ high L i

/-- A byte's bits are the bits that it was made of, and noughts. -/
theorem row_byteOf (high : Bool) (ch : List Bool) (h : ch.length ≤ 8) : row high (byteOf high ch) 8 = ch ++ List.replicate (8 - ch.length) false := by
  have hl : (ch ++ List.replicate (8 - ch.length) false).length = 8 := by simp; omega
  have hv : val high (ch ++ List.replicate (8 - ch.length) false) = byteOf high ch := by
    cases high
    · rw [low_append]
      have : val false (List.replicate (8 - ch.length) false) = 0 := by
        rw [← row_zero false, val_row (Nat.two_pow_pos _)]
      rw [this]
      simp [byteOf]
    · rw [high_append]
      have : val true (List.replicate (8 - ch.length) false) = 0 := by
        rw [← row_zero true, val_row (Nat.two_pow_pos _)]
      rw [this, List.length_replicate]
      simp [byteOf]
  rw [← hv]
  have k := row_val high (ch ++ List.replicate (8 - ch.length) false)
  rw [hl] at k
  exact k

theorem rowOf_packed (high : Bool) (n : Nat) : ∀ L : List Bool, L.length ≤ 8 * n → ∃ k, rowOf high (packedN high L) = L ++ List.replicate k false := by
  induction n with
  | zero =>
    intro L hL
    obtain rfl : L = [] := List.eq_nil_of_length_eq_zero (by omega)
    exact ⟨0, rfl⟩
  | succ n ih =>
    intro L hL
    by_cases h0 : L.length = 0
    · obtain rfl : L = [] := List.eq_nil_of_length_eq_zero h0
      exact ⟨0, rfl⟩
    · rw [packedN_cons high L (by omega)]
      simp only [rowOf]
      rw [row_byteOf high _ (by simp; omega)]
      by_cases h8 : 8 ≤ L.length
      · obtain ⟨k, hk⟩ := ih (L.drop 8) (by simp; omega)
        rw [hk, List.length_take, Nat.min_eq_left h8]
        refine ⟨k, ?_⟩
        simp only [Nat.sub_self, List.replicate_zero, List.append_nil]
        rw [← List.append_assoc, List.take_append_drop]
      · rw [List.take_of_length_le (by omega), List.drop_eq_nil_of_le (by omega)]
        exact ⟨8 - L.length, by simp [packedN, rowOf]⟩
end Go.Proofs.YtpmoknnhgginjaaDoor.Bi
