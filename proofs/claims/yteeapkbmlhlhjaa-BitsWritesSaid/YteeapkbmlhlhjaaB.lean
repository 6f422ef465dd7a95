/- What memory holds of a writer; the contracts of mask, New and Count. -/
import Derived.Test.YteeapkbmlhlhjaaA
import Derived.WalkLawsBesides
import Derived.OneCell
import Derived.Outline
import Derived.Lib.Hide
import Derived.BigQuiet
import Derived.Deep.QuietTactic
namespace Go.Proofs.Yteeapkbmlhlhjaa
open Go.RowKit

/-- The blocks outside S are as they were. -/
structure Keeps (S : Nat → Prop) (w w' : World) : Prop where
  os : w'.os = w.os
  tape : w'.tape = w.tape
  output : w'.output = w.output
  size : w.heap.size ≤ w'.heap.size
  block : ∀ k, k < w.heap.size → ¬ S k → w'.heap[k]? = w.heap[k]?

theorem Keeps.refl (S : Nat → Prop) (w : World) : Keeps S w w := ⟨rfl, rfl, rfl, Nat.le_refl _, fun _ _ _ => rfl⟩
theorem Keeps.trans {S S1 : Nat → Prop} {a b c : World} (h : Keeps S a b) (k : Keeps S1 b c) (hS : ∀ i, i < a.heap.size → S1 i → S i) : Keeps S a c :=
  ⟨k.os.trans h.os, k.tape.trans h.tape, k.output.trans h.output, Nat.le_trans h.size k.size,
    fun i hi hn => (k.block i (Nat.lt_of_lt_of_le hi h.size) (fun s => hn (hS i hi s))).trans (h.block i hi hn)⟩
theorem Keeps.mono {S S1 : Nat → Prop} {a b : World} (h : Keeps S a b) (hS : ∀ i, i < a.heap.size → S i → S1 i) : Keeps S1 a b :=
  ⟨h.os, h.tape, h.output, h.size, fun i hi hn => h.block i hi (fun s => hn (hS i hi s))⟩
theorem Keeps.drewN {S : Nat → Prop} {a w : World} (h : Keeps S a w) (n : Nat) : Keeps S a (w.drewN n) := ⟨h.os, h.tape, h.output, h.size, h.block⟩
theorem Keeps.drew {S : Nat → Prop} {a w : World} (h : Keeps S a w) : Keeps S a w.drew := ⟨h.os, h.tape, h.output, h.size, h.block⟩
theorem Keeps.alloc {S : Nat → Prop} {a w : World} (h : Keeps S a w) (o : Obj) : Keeps S a (w.alloc o) :=
  ⟨h.os, h.tape, h.output, by have := h.size; simp; omega, fun i hi hn => (Below.heap_alloc _ _ _ (Nat.lt_of_lt_of_le hi h.size)).trans (h.block i hi hn)⟩
theorem Keeps.setCell {S : Nat → Prop} {a w : World} (h : Keeps S a w) {p : Addr} (hp : p.block < a.heap.size → S p.block) (u : Value) : Keeps S a (w.setCell p u) :=
  ⟨h.os, h.tape, h.output, by simp [World.setCell]; exact h.size, fun i hi hn => (Below.heap_setCell _ _ _ _ (fun e => hn (by subst e; exact hp hi))).trans (h.block i hi hn)⟩
theorem Keeps.grown {S : Nat → Prop} {a w w' : World} {row : Option Nat} (h : Keeps S a w) (hg : w.grownBy w' row) (hr : ∀ k, k < a.heap.size → row = some k → S k) : Keeps S a w' :=
  ⟨hg.os.trans h.os, hg.tape.trans h.tape, hg.output.trans h.output, Nat.le_trans h.size hg.size,
    fun i hi hn => (hg.block i (Nat.lt_of_lt_of_le hi h.size) (fun e => hn (hr i hi e.symm))).trans (h.block i hi hn)⟩
theorem Keeps.below {S : Nat → Prop} {B : Nat} {w w' : World} (h : Keeps S w w') (hB : B ≤ w.heap.size) (hS : ∀ k, k < B → ¬ S k) : Below B w w' :=
  ⟨h.os, h.tape, h.output, h.size, fun k hk => h.block k (by omega) (hS k hk)⟩
theorem below_keeps {w w' : World} (h : Below w.heap.size w w') : Keeps (fun _ => False) w w' := ⟨h.os, h.tape, h.output, h.size, fun k hk _ => h.block k hk⟩

/-- A writer at block P; its full bytes lie in block D; both from B on. -/
structure Raw (w : World) (B P : Nat) (D : Option Nat) (high : Bool) (xs : List Int) (rest used : Int) : Prop where
  at_ : B ≤ P
  byte : ∀ x ∈ xs, 0 ≤ x ∧ x ≤ 255
  holds : ∃ v, w.heap[P]? = some (.cells #[.bool high, v, .int .i64 rest, .int .i64 used] 46 (0, 0)) ∧ w.ownsRow B 5 1 v xs.length (xs.map (Value.int .u8)) ∧ v.ownBlock = D
  apart : D ≠ some P

variable {w w' : World} {B P : Nat} {D : Option Nat} {high : Bool} {xs : List Int} {rest used : Int}

/-- What stays: a writer whose two blocks are as they were. -/
theorem Raw.kept (h : Raw w B P D high xs rest used) (hP : w'.heap[P]? = w.heap[P]?) (hD : ∀ k, D = some k → w'.heap[k]? = w.heap[k]?) : Raw w' B P D high xs rest used := by
  obtain ⟨v, hb, hv, hd⟩ := h.holds
  refine ⟨h.at_, h.byte, ⟨v, hP.trans hb, ?_, hd⟩, h.apart⟩
  obtain ⟨h1, h2⟩ := hv
  refine ⟨h1, ?_⟩
  rcases h2 with h2 | ⟨g, cap, cur, rfl, hg, hh, r⟩
  · exact Or.inl h2
  · exact Or.inr ⟨g, cap, cur, rfl, hg, (hD g (by rw [← hd]; rfl)).trans hh, r⟩
theorem Raw.lt (h : Raw w B P D high xs rest used) : P < w.heap.size := by
  obtain ⟨v, hb, _⟩ := h.holds
  exact lt_of_block hb
theorem Raw.data_lt (h : Raw w B P D high xs rest used) {k : Nat} (hk : D = some k) : B ≤ k ∧ k < w.heap.size := by
  obtain ⟨v, _, hv, hd⟩ := h.holds
  exact hv.lt k (hd.trans hk)
theorem Raw.keeps {S : Nat → Prop} (h : Raw w B P D high xs rest used) (hk : Keeps S w w') (hP : ¬ S P) (hD : ∀ k, D = some k → ¬ S k) : Raw w' B P D high xs rest used :=
  h.kept (hk.block P h.lt hP) (fun k e => hk.block k (h.data_lt e).2 (hD k e))

theorem block_set {w : World} {R i : Nat} {c : Array Value} {t : TypeId} {f : Nat × Nat} (h : w.heap[R]? = some (.cells c t f)) (u : Value) :
    (w.setCell ⟨R, i, none⟩ u).heap[R]? = some (.cells (c.setIfInBounds i u) t f) := by
  simp only [World.setCell, Array.getElem?_modify, h]
  simp
/-- The cells of a writer's block. -/
theorem writer_cells {w : World} {R : Nat} {a b c d : Value} {t : TypeId} (h : w.heap[R]? = some (.cells #[a, b, c, d] t (0, 0))) :
    w.cell? ⟨R, 0, none⟩ = some a ∧ w.cell? ⟨R, 1, none⟩ = some b ∧ w.cell? ⟨R, 2, none⟩ = some c ∧ w.cell? ⟨R, 3, none⟩ = some d := by
  simp [World.cell?, h]
theorem block_free {w : World} {R : Nat} {c : Array Value} {t : TypeId} (h : w.heap[R]? = some (.cells c t (0, 0))) (i : Nat) : w.frozen? ⟨R, i, none⟩ = false := by
  simp [World.frozen?, h]
theorem Raw.set_rest (h : Raw w B P D high xs rest used) (r : Int) : Raw (w.setCell ⟨P, 2, none⟩ (.int .i64 r)) B P D high xs r used := by
  obtain ⟨v, hb, hv, hd⟩ := h.holds
  refine ⟨h.at_, h.byte, ⟨v, ?_, ownsRow_setCell_other hv (by rw [hd]; exact h.apart) _, hd⟩, h.apart⟩
  rw [block_set hb]; simp
theorem Raw.set_used (h : Raw w B P D high xs rest used) (r : Int) : Raw (w.setCell ⟨P, 3, none⟩ (.int .i64 r)) B P D high xs rest r := by
  obtain ⟨v, hb, hv, hd⟩ := h.holds
  refine ⟨h.at_, h.byte, ⟨v, ?_, ownsRow_setCell_other hv (by rw [hd]; exact h.apart) _, hd⟩, h.apart⟩
  rw [block_set hb]; simp
/-- The full bytes' value set. -/
theorem Raw.set_full {w1 : World} {D' : Option Nat} {ys : List Int} (h : Raw w B P D high xs rest used) (hP : w1.heap[P]? = w.heap[P]?) (V : Value) (hy : ∀ x ∈ ys, 0 ≤ x ∧ x ≤ 255)
    (hown : w1.ownsRow B 5 1 V ys.length (ys.map (Value.int .u8))) (hV : V.ownBlock = D') (ha : D' ≠ some P) :
    Raw (w1.setCell ⟨P, 1, none⟩ V) B P D' high ys rest used := by
  obtain ⟨v, hb, _, _⟩ := h.holds
  refine ⟨h.at_, hy, ⟨V, ?_, ownsRow_setCell_other hown (by rw [hV]; exact ha) _, hV⟩, ha⟩
  rw [block_set (hP.trans hb) V]; simp
/-- What a walk reads of one. -/
theorem Raw.open (h : Raw w B P D high xs rest used) : ∃ a c, w.cell? ⟨P, 0, none⟩ = some (.bool high) ∧ w.cell? ⟨P, 1, none⟩ = some (.slice a xs.length c) ∧ w.cell? ⟨P, 2, none⟩ = some (.int .i64 rest) ∧ w.cell? ⟨P, 3, none⟩ = some (.int .i64 used) ∧
    (∀ i, w.frozen? ⟨P, i, none⟩ = false) ∧ w.ownsRow B 5 1 (.slice a xs.length c) xs.length (xs.map (Value.int .u8)) ∧ (Value.slice a xs.length c).ownBlock = D := by
  obtain ⟨v, hb, hv, hd⟩ := h.holds
  obtain ⟨h0, h1, h2, h3⟩ := writer_cells hb
  obtain ⟨a, c, rfl⟩ : ∃ a c, v = .slice a xs.length c := by
    rcases hv.2 with ⟨h, h'⟩ | ⟨g, cap, _, h, _⟩
    · exact ⟨_, _, by rw [h, h']⟩
    · exact ⟨_, _, h⟩
  exact ⟨a, c, h0, h1, h2, h3, fun i => block_free hb i, hv, hd⟩

/-- A writer of a row of bits. -/
def Wr (w : World) (B P : Nat) (D : Option Nat) (high : Bool) (L : List Bool) : Prop :=
  Raw w B P D high (fulls high L (L.length / 8)) (val high (L.drop (8 * (L.length / 8))) : Nat) (L.length % 8 : Nat)

theorem two_pow_cast (n : Nat) : ((2 : Int) ^ n) = ((2 ^ n : Nat) : Int) := by simp

theorem mask_any (w : World) (n : Nat) (hn : n ≤ 40) : Calls Try.prog 21 #[.int .i64 n] w fun e w' => e = .returned (.int .i64 ((2 ^ n - 1 : Nat) : Int)) ∧ w = w' := by
  have e2 : wrap64 (wrap64 (2 ^ n) - 1) = ((2 ^ n - 1 : Nat) : Int) := by
    have hp : 2 ^ n ≤ 2 ^ 40 := Nat.pow_le_pow_right (by omega) hn
    have hp1 : 0 < 2 ^ n := Nat.two_pow_pos n
    rw [two_pow_cast]
    generalize 2 ^ n = p at *
    rw [IntWalk.wrap64_in (p : Int) (by omega), IntWalk.wrap64_in _ (by omega)]
    omega
  have E := Lib.hid e2
  clear e2
  go_enter Try.func21, Try.ntmps21
  go_wp2
  go_ret
  exact ⟨congrArg (fun z => Ending.returned (.int .i64 z)) E.out, rfl⟩

theorem new_any (w : World) (B : Nat) (hB : B ≤ w.heap.size) (high : Bool) :
    Calls Try.prog 9 #[.bool high] w fun e w' => e = .returned (.pointer (some ⟨w.heap.size, 0, none⟩)) ∧ Wr w' B w.heap.size none high [] ∧ w'.heap.size = w.heap.size + 1 ∧ Keeps (fun _ => False) w w' := by
  go_enter Try.func9, Try.ntmps9
  go_wp2
  go_ret
  refine ⟨rfl, ⟨hB, by simp [fulls], ⟨.slice none 0 0, ?_, World.ownsRow_nil _ _ _ _, rfl⟩, by simp⟩, by simp, (Keeps.refl _ _).alloc _⟩
  rw [heap_alloc_new]
  cases high <;> rfl

theorem count_any (w : World) (B P : Nat) (D : Option Nat) (high : Bool) (L : List Bool) (h : Wr w B P D high L) (hl : L.length ≤ 16777216) :
    Calls Try.prog 15 #[.pointer (some ⟨P, 0, none⟩)] w fun e w' => e = .returned (.int .i64 L.length) ∧ ∃ n, w' = w.drewN n := by
  obtain ⟨a, c, h0, h1, h2, h3, hf, hv, hd⟩ := Raw.open h
  rw [fulls_length] at h1
  clear hv h
  have e : 8 * (L.length / 8) + L.length % 8 = L.length := by omega
  generalize L.length / 8 = q at *
  generalize L.length % 8 = u at *
  clear hd
  go_enter Try.func15, Try.ntmps15
  go_wp2
  go_quiet (fail)
  go_wp2
  go_ret
  exact ⟨by rw [← e]; simp, _, rfl⟩
end Go.Proofs.Yteeapkbmlhlhjaa
