/- The plain model of a reel, what memory holds of one, and the contract of the method that counts calls down. -/
import Derived.Test.YthddjfaeacmlhaaDoorProg
import Derived.WalkKit
import Derived.WalkLawsBesides
import Derived.OneCell
import Derived.Outline
namespace Go.Proofs.YthddjfaeacmlhaaDoor.Re
open Go.RowKit

/-- A reel, as plain data. -/
structure M where
  cap : Int
  xs : List Int
  safe : Int
  left : Int
  down : Bool

structure M.Ok (m : M) : Prop where
  cap0 : 0 ≤ m.cap
  cap1 : m.cap ≤ 16777216
  len : (m.xs.length : Int) ≤ m.cap
  safe0 : 0 ≤ m.safe
  safe1 : m.safe ≤ m.xs.length
  left0 : -1 ≤ m.left
  left1 : m.left ≤ 9223372036854775807
  byte : ∀ x ∈ m.xs, 0 ≤ x ∧ x ≤ 255

/-- A call of an armed one. -/
def M.spend (m : M) : Int × M :=
  if m.left = 0 then (11, { m with down := true }) else if 0 < m.left then (0, { m with left := m.left - 1 }) else (0, m)

/-- The blocks outside S are as they were. -/
structure Keeps (S : Nat → Prop) (w w' : World) : Prop where
  os : w'.os = w.os
  tape : w'.tape = w.tape
  output : w'.output = w.output
  size : w.heap.size ≤ w'.heap.size
  block : ∀ k, k < w.heap.size → ¬ S k → w'.heap[k]? = w.heap[k]?

theorem Keeps.refl (S : Nat → Prop) (w : World) : Keeps S w w := ⟨rfl, rfl, rfl, Nat.le_refl _, fun _ _ _ => rfl⟩
theorem Keeps.trans {S S1 : Nat → Prop} {a b c : World} (h : Keeps S a b) (k : Keeps S1 b c) (hS : ∀ i, i < a.heap.size → S1 i → S i) : Keeps S a c :=
  ⟨k.os.trans h.os, k.tape.trans h.tape, k.output.trans h.output, Nat.le_trans h.size k.size,
    fun i hi hn => (k.block i (Nat.lt_of_lt_of_le hi h.size) (fun s => hn (hS i hi s))).trans (h.block i hi hn)⟩
theorem Keeps.mono {S S1 : Nat → Prop} {a b : World} (h : Keeps S a b) (hS : ∀ i, i < a.heap.size → S i → S1 i) : Keeps S1 a b :=
  ⟨h.os, h.tape, h.output, h.size, fun i hi hn => h.block i hi (fun s => hn (hS i hi s))⟩
theorem Keeps.drewN {S : Nat → Prop} {a w : World} (h : Keeps S a w) (n : Nat) : Keeps S a (w.drewN n) := ⟨h.os, h.tape, h.output, h.size, h.block⟩
theorem Keeps.drew {S : Nat → Prop} {a w : World} (h : Keeps S a w) : Keeps S a w.drew := ⟨h.os, h.tape, h.output, h.size, h.block⟩
theorem Keeps.alloc {S : Nat → Prop} {a w : World} (h : Keeps S a w) (o : Obj) : Keeps S a (w.alloc o) :=
  ⟨h.os, h.tape, h.output, by have := h.size; simp; omega, fun i hi hn => (Below.heap_alloc _ _ _ (Nat.lt_of_lt_of_le hi h.size)).trans (h.block i hi hn)⟩
theorem Keeps.setCell {S : Nat → Prop} {a w : World} (h : Keeps S a w) {p : Addr} (hp : p.block < a.heap.size → S p.block) (u : Value) : Keeps S a (w.setCell p u) :=
  ⟨h.os, h.tape, h.output, by simp [World.setCell]; exact h.size, fun i hi hn => (Below.heap_setCell _ _ _ _ (fun e => hn (by subst e; exact hp hi))).trans (h.block i hi hn)⟩
theorem Keeps.grown {S : Nat → Prop} {a w w' : World} {row : Option Nat} (h : Keeps S a w) (hg : w.grownBy w' row) (hr : ∀ k, k < a.heap.size → row = some k → S k) : Keeps S a w' :=
  ⟨hg.os.trans h.os, hg.tape.trans h.tape, hg.output.trans h.output, Nat.le_trans h.size hg.size,
    fun i hi hn => (hg.block i (Nat.lt_of_lt_of_le hi h.size) (fun e => hn (hr i hi e.symm))).trans (h.block i hi hn)⟩
theorem Keeps.below {S : Nat → Prop} {B : Nat} {w w' : World} (h : Keeps S w w') (hB : B ≤ w.heap.size) (hS : ∀ k, k < B → ¬ S k) : Below B w w' :=
  ⟨h.os, h.tape, h.output, h.size, fun k hk => h.block k (by omega) (hS k hk)⟩

/-- A reel at block R; what it holds lies in block D; both from B on. -/
structure Reel (w : World) (B R : Nat) (D : Option Nat) (m : M) : Prop where
  ok : m.Ok
  at_ : B ≤ R
  holds : ∃ v, w.heap[R]? = some (.cells #[.int .i64 m.cap, v, .int .i64 m.safe, .int .i64 m.left, .bool m.down] 59 (0, 0)) ∧
    w.ownsRow B 5 1 v m.xs.length (m.xs.map (Value.int .u8)) ∧ v.ownBlock = D
  apart : D ≠ some R

theorem own_data_lt {w : World} {B : Nat} {v : Value} {n : Nat} {xs : List Value} (h : w.ownsRow B 5 1 v n xs) {k : Nat} (hk : v.ownBlock = some k) : B ≤ k ∧ k < w.heap.size := h.lt k hk

/-- What stays: a reel whose two blocks are as they were. -/
theorem Reel.kept {w w' : World} {B R : Nat} {D : Option Nat} {m : M} (h : Reel w B R D m) (hR : w'.heap[R]? = w.heap[R]?) (hD : ∀ k, D = some k → w'.heap[k]? = w.heap[k]?) : Reel w' B R D m := by
  obtain ⟨v, hb, hv, hd⟩ := h.holds
  refine ⟨h.ok, h.at_, ⟨v, hR.trans hb, ?_, hd⟩, h.apart⟩
  obtain ⟨h1, h2⟩ := hv
  refine ⟨h1, ?_⟩
  rcases h2 with h2 | ⟨g, cap, cur, rfl, hg, hh, r⟩
  · exact Or.inl h2
  · exact Or.inr ⟨g, cap, cur, rfl, hg, (hD g (by rw [← hd]; rfl)).trans hh, r⟩

theorem Reel.lt {w : World} {B R : Nat} {D : Option Nat} {m : M} (h : Reel w B R D m) : R < w.heap.size := by
  obtain ⟨v, hb, _⟩ := h.holds
  exact lt_of_block hb
theorem Reel.data_lt {w : World} {B R : Nat} {D : Option Nat} {m : M} (h : Reel w B R D m) {k : Nat} (hk : D = some k) : B ≤ k ∧ k < w.heap.size := by
  obtain ⟨v, _, hv, hd⟩ := h.holds
  exact hv.lt k (hd.trans hk)

theorem Reel.keeps {S : Nat → Prop} {w w' : World} {B R : Nat} {D : Option Nat} {m : M} (h : Reel w B R D m) (hk : Keeps S w w') (hR : ¬ S R) (hD : ∀ k, D = some k → ¬ S k) : Reel w' B R D m :=
  h.kept (hk.block R h.lt hR) (fun k e => hk.block k (h.data_lt e).2 (hD k e))

theorem block_set {w : World} {R i : Nat} {c : Array Value} {t : TypeId} {f : Nat × Nat} (h : w.heap[R]? = some (.cells c t f)) (u : Value) :
    (w.setCell ⟨R, i, none⟩ u).heap[R]? = some (.cells (c.setIfInBounds i u) t f) := by
  simp only [World.setCell, Array.getElem?_modify, h]
  simp

/-- The cells of a reel's block. -/
theorem reel_cells {w : World} {R : Nat} {a b c d e : Value} {t : TypeId} (h : w.heap[R]? = some (.cells #[a, b, c, d, e] t (0, 0))) :
    w.cell? ⟨R, 0, none⟩ = some a ∧ w.cell? ⟨R, 1, none⟩ = some b ∧ w.cell? ⟨R, 2, none⟩ = some c ∧ w.cell? ⟨R, 3, none⟩ = some d ∧ w.cell? ⟨R, 4, none⟩ = some e := by
  simp [World.cell?, h]
theorem reel_free {w : World} {R : Nat} {c : Array Value} {t : TypeId} (h : w.heap[R]? = some (.cells c t (0, 0))) (i : Nat) : w.frozen? ⟨R, i, none⟩ = false := by
  simp [World.frozen?, h]

/-- Behind a call of one reel's method: its answer, what the reel is, what else stays. -/
def After (w : World) (B R : Nat) (D : Option Nat) (r : Int × M) (e : Ending) (w' : World) : Prop :=
  e = .returned (.int .i64 r.1) ∧ ∃ D', Reel w' B R D' r.2 ∧ Keeps (fun k => k = R ∨ some k = D) w w' ∧ (D' = D ∨ ∃ k, D' = some k ∧ w.heap.size ≤ k)

theorem spend_raw (R : Nat) (left : Int) (w : World) (hlo : -1 ≤ left) (hhi : left ≤ 9223372036854775807)
    (h3 : w.cell? ⟨R, 3, none⟩ = some (.int .i64 left)) (h4 : w.cell? ⟨R, 4, none⟩ = some (.bool false))
    (f3 : w.frozen? ⟨R, 3, none⟩ = false) (f4 : w.frozen? ⟨R, 4, none⟩ = false) :
    Calls Tryd.prog 41 #[.pointer (some ⟨R, 0, none⟩)] w fun e w' =>
      e = .returned (.int .i64 (if left = 0 then 11 else 0)) ∧
      w' = (if left = 0 then w.setCell ⟨R, 4, none⟩ (.bool true) else if 0 < left then w.setCell ⟨R, 3, none⟩ (.int .i64 (left - 1)) else w) := by
  by_cases h0 : left = 0
  · subst h0
    go_enter Tryd.func41, Tryd.ntmps41
    go_wp2
    go_ret
    exact ⟨rfl, rfl⟩
  · by_cases h1 : 0 < left
    · rw [if_neg h0, if_neg h0, if_pos h1]
      have hb : ((left : Int) == 0) = false := by simpa using h0
      go_enter Tryd.func41, Tryd.ntmps41
      go_wp2
      go_ret
      exact ⟨rfl, rfl⟩
    · rw [if_neg h0, if_neg h0, if_neg h1]
      have hb : ((left : Int) == 0) = false := by simpa using h0
      go_enter Tryd.func41, Tryd.ntmps41
      go_wp2
      go_ret
      exact ⟨rfl, rfl⟩

/-- A cell of the reel's block set: what the reel is then. -/
theorem Reel.set {w : World} {B R : Nat} {D : Option Nat} {m m' : M} {i : Nat} {u : Value} (h : Reel w B R D m) (ok : m'.Ok) (hx : m'.xs = m.xs)
    (hc : ∀ v : Value, (#[.int .i64 m.cap, v, .int .i64 m.safe, .int .i64 m.left, .bool m.down] : Array Value).setIfInBounds i u = #[.int .i64 m'.cap, v, .int .i64 m'.safe, .int .i64 m'.left, .bool m'.down]) :
    Reel (w.setCell ⟨R, i, none⟩ u) B R D m' := by
  obtain ⟨v, hb, hv, hd⟩ := h.holds
  refine ⟨ok, h.at_, ⟨v, ?_, ?_, hd⟩, h.apart⟩
  · rw [block_set hb, hc v]
  · rw [hx]; exact ownsRow_setCell_other hv (by rw [hd]; exact h.apart) u

theorem spend_any (w : World) (B R : Nat) (D : Option Nat) (m : M) (h : Reel w B R D m) (hd : m.down = false) :
    Calls Tryd.prog 41 #[.pointer (some ⟨R, 0, none⟩)] w (After w B R D m.spend) := by
  obtain ⟨v, hb, hv, hD⟩ := h.holds
  obtain ⟨h0, h1, h2, h3, h4⟩ := reel_cells hb
  refine (spend_raw R m.left w h.ok.left0 h.ok.left1 h3 (by rw [h4, hd]) (reel_free hb 3) (reel_free hb 4)).mono ?_
  rintro e w' ⟨rfl, rfl⟩
  have ok := h.ok
  by_cases c0 : m.left = 0
  · simp only [After, M.spend, if_pos c0]
    refine ⟨trivial, D, h.set ⟨ok.cap0, ok.cap1, ok.len, ok.safe0, ok.safe1, ok.left0, ok.left1, ok.byte⟩ rfl (by intro v; simp), (Keeps.refl _ _).setCell (fun _ => Or.inl rfl) _, Or.inl rfl⟩
  · by_cases c1 : 0 < m.left
    · simp only [After, M.spend, if_neg c0, if_pos c1]
      refine ⟨trivial, D, h.set ⟨ok.cap0, ok.cap1, ok.len, ok.safe0, ok.safe1, by simp; omega, by have := ok.left1; simp; omega, ok.byte⟩ rfl (by intro v; simp), (Keeps.refl _ _).setCell (fun _ => Or.inl rfl) _, Or.inl rfl⟩
    · simp only [After, M.spend, if_neg c0, if_neg c1]
      exact ⟨trivial, D, h, Keeps.refl _ _, Or.inl rfl⟩
end Go.Proofs.YthddjfaeacmlhaaDoor.Re
