/- What stays; a map's slope, and where a place goes. -/
import Derived.Test.YtfcndldobjpbnaaC
namespace Go.Proofs.Ytfcndldobjpbnaa
open Go.RowKit
set_option linter.unusedVariables false

/-- The blocks outside S are as they were. -/
structure Keeps (S : Nat → Prop) (w w' : World) : Prop where
  os : w'.os = w.os
  tape : w'.tape = w.tape
  output : w'.output = w.output
  size : w.heap.size ≤ w'.heap.size
  block : ∀ k, k < w.heap.size → ¬ S k → w'.heap[k]? = w.heap[k]?

theorem Keeps.refl (S : Nat → Prop) (w : World) : Keeps S w w := ⟨rfl, rfl, rfl, Nat.le_refl _, fun _ _ _ => rfl⟩
theorem Keeps.trans {S S1 : Nat → Prop} {a b c : World} (h : Keeps S a b) (k : Keeps S1 b c) (hS : ∀ i, i < a.heap.size → S1 i → S i) : Keeps S a c :=
  ⟨k.os.trans h.os, k.tape.trans h.tape, k.output.trans h.output, Nat.le_trans h.size k.size,
    fun i hi hn => (k.block i (Nat.lt_of_lt_of_le hi h.size) (fun s => hn (hS i hi s))).trans (h.block i hi hn)⟩
theorem Keeps.drewN {S : Nat → Prop} {a w : World} (h : Keeps S a w) (n : Nat) : Keeps S a (w.drewN n) := ⟨h.os, h.tape, h.output, h.size, h.block⟩
theorem Keeps.drew {S : Nat → Prop} {a w : World} (h : Keeps S a w) : Keeps S a w.drew := ⟨h.os, h.tape, h.output, h.size, h.block⟩
theorem Keeps.alloc {S : Nat → Prop} {a w : World} (h : Keeps S a w) (o : Obj) : Keeps S a (w.alloc o) :=
  ⟨h.os, h.tape, h.output, by have := h.size; simp; omega, fun i hi hn => (Below.heap_alloc _ _ _ (Nat.lt_of_lt_of_le hi h.size)).trans (h.block i hi hn)⟩
theorem Keeps.setCell {S : Nat → Prop} {a w : World} (h : Keeps S a w) {p : Addr} (hp : p.block < a.heap.size → S p.block) (u : Value) : Keeps S a (w.setCell p u) :=
  ⟨h.os, h.tape, h.output, by simp [World.setCell]; exact h.size, fun i hi hn => (Below.heap_setCell _ _ _ _ (fun e => hn (by subst e; exact hp hi))).trans (h.block i hi hn)⟩
theorem Keeps.below {S : Nat → Prop} {B : Nat} {w w' : World} (h : Keeps S w w') (hB : B ≤ w.heap.size) (hS : ∀ k, k < B → ¬ S k) : Below B w w' :=
  ⟨h.os, h.tape, h.output, h.size, fun k hk => h.block k (by omega) (hS k hk)⟩
/-- Nothing that was there has changed. -/
def none' : Nat → Prop := fun _ => False
theorem Keeps.later {w w' : World} (h : Keeps none' w w') : ∀ k, k < w.heap.size → w'.heap[k]? = w.heap[k]? := fun k hk => h.block k hk (fun h => h)
theorem Keeps.next {a b c : World} (h : Keeps none' a b) (k : Keeps none' b c) : Keeps none' a c := h.trans k (fun _ _ h => h)
theorem block_set {w : World} {R i : Nat} {c : Array Value} {t : TypeId} {f : Nat × Nat} (h : w.heap[R]? = some (.cells c t f)) (u : Value) :
    (w.setCell ⟨R, i, none⟩ u).heap[R]? = some (.cells (c.setIfInBounds i u) t f) := by
  simp only [World.setCell, Array.getElem?_modify, h]
  simp
theorem Keeps.cell {w w' : World} (h : Keeps none' w w') {p : Addr} {v : Value} (hc : w.cell? p = some v) : w'.cell? p = some v := by
  have hb := World.block_lt_of_cell? w _ hc
  exact (World.cell?_of_block (w := w) (h.later p.block hb)).trans hc
theorem Six.later {w w' : World} {B ty : Nat} {m : Af.M} (h : Six w B ty m) (k : Keeps none' w w') : Six w' B ty m := (k.later B h.lt).trans h
theorem Six.alloc {w : World} {B ty : Nat} {m : Af.M} (h : Six w B ty m) (o : Obj) : Six (w.alloc o) B ty m := (Below.heap_alloc _ _ _ h.lt).trans h
theorem Six.set {w : World} {B R i ty : Nat} {m : Af.M} (h : Six w B ty m) (hn : B ≠ R) (v : Value) : Six (w.setCell ⟨R, i, none⟩ v) B ty m := (Below.heap_setCell _ _ _ _ hn).trans h
theorem keeps_alloc {w w' : World} {o : Obj} (h : w' = w.alloc o) : Keeps none' w w' := by rw [h]; exact (Keeps.refl _ _).alloc _

def Both (x y : Int) (w : World) (e : Ending) (w' : World) : Prop := e = .returned (.tuple #[.int .i64 x, .int .i64 y]) ∧ Keeps none' w w'

set_option maxHeartbeats 800000 in
theorem slope_any (m : Af.M) (x y q : Int) (hm : m.ok) (hx : Af.Up x q) (hy : Af.Up y q) (hq : 0 ≤ q) (hq2 : q ≤ 68719476736) (w : World) :
    Calls Try.prog 30 #[.agg #[.int .i64 m.a, .int .i64 m.b, .int .i64 m.c, .int .i64 m.d, .int .i64 m.e, .int .i64 m.f], .int .i64 x, .int .i64 y] w (Both (Af.slopeU m x y) (Af.slopeV m x y) w) := by
  have HE := Lib.hid (And.intro (show Af.slopeU m x y = m.a * x + m.b * y from rfl) (show Af.slopeV m x y = m.c * x + m.d * y from rfl))
  obtain ⟨ha, hb, hc, hd, -⟩ := hm
  obtain ⟨a0, a1⟩ := Af.up_mul ha hx (by omega) hq
  obtain ⟨b0, b1⟩ := Af.up_mul hb hy (by omega) hq
  obtain ⟨c0, c1⟩ := Af.up_mul hc hx (by omega) hq
  obtain ⟨d0, d1⟩ := Af.up_mul hd hy (by omega) hq
  clear ha hb hc hd hx hy
  have F0 := Six.new w 23 m
  have w1 := wrap_i64 (m.a * x) (by omega) (by omega)
  have w2 := wrap_i64 (m.b * y) (by omega) (by omega)
  have w3 := wrap_i64 (m.c * x) (by omega) (by omega)
  have w4 := wrap_i64 (m.d * y) (by omega) (by omega)
  have w5 := wrap_i64 (m.a * x + m.b * y) (by omega) (by omega)
  have w6 := wrap_i64 (m.c * x + m.d * y) (by omega) (by omega)
  have K0 := Lib.hid (keeps_alloc (w := w) (o := .cells #[.int .i64 m.a, .int .i64 m.b, .int .i64 m.c, .int .i64 m.d, .int .i64 m.e, .int .i64 m.f] 23) rfl)
  clear hq hq2 a0 a1 b0 b1 c0 c1 d0 d1
  go_enter Try.func30, Try.ntmps30
  go_wp2_with fail
  generalize w.alloc (.cells #[.int .i64 m.a, .int .i64 m.b, .int .i64 m.c, .int .i64 m.d, .int .i64 m.e, .int .i64 m.f] 23) = w7 at *
  generalize w.heap.size = B at *
  have c0 := F0.c0
  have c1 := F0.c1
  have c2 := F0.c2
  have c3 := F0.c3
  clear F0
  go_quiet (fail)
  go_wp2_with fail
  go_ret2
  exact ⟨by rw [HE.out.1, HE.out.2]; rfl, K0.out.drewN _⟩
end Go.Proofs.Ytfcndldobjpbnaa
