/- Arrays of four numbers in memory; Unmultiply and Multiply. -/
import Derived.Test.YtfofghakjjblfaaDoorPC
namespace Go.Proofs.YtfofghakjjblfaaDoor
open Go.RowKit
set_option linter.unusedVariables false

/-- The blocks outside S are as they were. -/
structure Keeps (S : Nat → Prop) (w w' : World) : Prop where
  os : w'.os = w.os
  tape : w'.tape = w.tape
  output : w'.output = w.output
  size : w.heap.size ≤ w'.heap.size
  block : ∀ k, k < w.heap.size → ¬ S k → w'.heap[k]? = w.heap[k]?

theorem Keeps.refl (S : Nat → Prop) (w : World) : Keeps S w w := ⟨rfl, rfl, rfl, Nat.le_refl _, fun _ _ _ => rfl⟩
theorem Keeps.trans {S S1 : Nat → Prop} {a b c : World} (h : Keeps S a b) (k : Keeps S1 b c) (hS : ∀ i, i < a.heap.size → S1 i → S i) : Keeps S a c :=
  ⟨k.os.trans h.os, k.tape.trans h.tape, k.output.trans h.output, Nat.le_trans h.size k.size,
    fun i hi hn => (k.block i (Nat.lt_of_lt_of_le hi h.size) (fun s => hn (hS i hi s))).trans (h.block i hi hn)⟩
theorem Keeps.drewN {S : Nat → Prop} {a w : World} (h : Keeps S a w) (n : Nat) : Keeps S a (w.drewN n) := ⟨h.os, h.tape, h.output, h.size, h.block⟩
theorem Keeps.drew {S : Nat → Prop} {a w : World} (h : Keeps S a w) : Keeps S a w.drew := ⟨h.os, h.tape, h.output, h.size, h.block⟩
theorem Keeps.alloc {S : Nat → Prop} {a w : World} (h : Keeps S a w) (o : Obj) : Keeps S a (w.alloc o) :=
  ⟨h.os, h.tape, h.output, by have := h.size; simp; omega, fun i hi hn => (Below.heap_alloc _ _ _ (Nat.lt_of_lt_of_le hi h.size)).trans (h.block i hi hn)⟩
theorem Keeps.setCell {S : Nat → Prop} {a w : World} (h : Keeps S a w) {p : Addr} (hp : p.block < a.heap.size → S p.block) (u : Value) : Keeps S a (w.setCell p u) :=
  ⟨h.os, h.tape, h.output, by simp [World.setCell]; exact h.size, fun i hi hn => (Below.heap_setCell _ _ _ _ (fun e => hn (by subst e; exact hp hi))).trans (h.block i hi hn)⟩
theorem Keeps.below {S : Nat → Prop} {B : Nat} {w w' : World} (h : Keeps S w w') (hB : B ≤ w.heap.size) (hS : ∀ k, k < B → ¬ S k) : Below B w w' :=
  ⟨h.os, h.tape, h.output, h.size, fun k hk => h.block k (by omega) (hS k hk)⟩
/-- Nothing that was there has changed. -/
def none' : Nat → Prop := fun _ => False
theorem Keeps.later {w w' : World} (h : Keeps none' w w') : ∀ k, k < w.heap.size → w'.heap[k]? = w.heap[k]? := fun k hk => h.block k hk (fun h => h)
theorem Keeps.next {a b c : World} (h : Keeps none' a b) (k : Keeps none' b c) : Keeps none' a c := h.trans k (fun _ _ h => h)
theorem block_set {w : World} {R i : Nat} {c : Array Value} {t : TypeId} {f : Nat × Nat} (h : w.heap[R]? = some (.cells c t f)) (u : Value) :
    (w.setCell ⟨R, i, none⟩ u).heap[R]? = some (.cells (c.setIfInBounds i u) t f) := by
  simp only [World.setCell, Array.getElem?_modify, h]
  simp
theorem lt_of_block {w : World} {R : Nat} {o : Obj} (h : w.heap[R]? = some o) : R < w.heap.size := by
  obtain ⟨h, -⟩ := Array.getElem?_eq_some_iff.1 h
  exact h

/-- Four numbers in a block. -/
abbrev four (x y z a : Int) : Array Value := #[.int .i64 x, .int .i64 y, .int .i64 z, .int .i64 a]
def Four (w : World) (B : Nat) (x y z a : Int) : Prop := w.heap[B]? = some (.cells #[.int .i64 x, .int .i64 y, .int .i64 z, .int .i64 a] 26 (0, 0))
theorem Four.lt {w : World} {B : Nat} {x y z a : Int} (h : Four w B x y z a) : B < w.heap.size := lt_of_block h
theorem Four.later {w w' : World} {B : Nat} {x y z a : Int} (h : Four w B x y z a) (k : Keeps none' w w') : Four w' B x y z a := (k.later B h.lt).trans h
theorem Four.drew {w : World} {B : Nat} {x y z a : Int} (h : Four w B x y z a) : Four w.drew B x y z a := h
theorem Four.c0 {w : World} {B : Nat} {x y z a : Int} (h : Four w B x y z a) : w.cell? ⟨B, 0, none⟩ = some (.int .i64 x) := by simp [World.cell?, show w.heap[B]? = _ from h]
theorem Four.c1 {w : World} {B : Nat} {x y z a : Int} (h : Four w B x y z a) : w.cell? ⟨B, 1, none⟩ = some (.int .i64 y) := by simp [World.cell?, show w.heap[B]? = _ from h]
theorem Four.c2 {w : World} {B : Nat} {x y z a : Int} (h : Four w B x y z a) : w.cell? ⟨B, 2, none⟩ = some (.int .i64 z) := by simp [World.cell?, show w.heap[B]? = _ from h]
theorem Four.c3 {w : World} {B : Nat} {x y z a : Int} (h : Four w B x y z a) : w.cell? ⟨B, 3, none⟩ = some (.int .i64 a) := by simp [World.cell?, show w.heap[B]? = _ from h]
theorem Four.fr {w : World} {B i : Nat} {x y z a : Int} (h : Four w B x y z a) : w.frozen? ⟨B, i, none⟩ = false := by simp [World.frozen?, show w.heap[B]? = _ from h]
theorem Four.s0 {w : World} {B : Nat} {x y z a : Int} (h : Four w B x y z a) (v : Int) : Four (w.setCell ⟨B, 0, none⟩ (.int .i64 v)) B v y z a := block_set h _
theorem Four.s1 {w : World} {B : Nat} {x y z a : Int} (h : Four w B x y z a) (v : Int) : Four (w.setCell ⟨B, 1, none⟩ (.int .i64 v)) B x v z a := block_set h _
theorem Four.s2 {w : World} {B : Nat} {x y z a : Int} (h : Four w B x y z a) (v : Int) : Four (w.setCell ⟨B, 2, none⟩ (.int .i64 v)) B x y v a := block_set h _
theorem Four.s3 {w : World} {B : Nat} {x y z a : Int} (h : Four w B x y z a) (v : Int) : Four (w.setCell ⟨B, 3, none⟩ (.int .i64 v)) B x y z v := block_set h _
theorem Four.set {w : World} {B R i : Nat} {x y z a : Int} (h : Four w B x y z a) (hn : B ≠ R) (v : Value) : Four (w.setCell ⟨R, i, none⟩ v) B x y z a := (Below.heap_setCell _ _ _ _ hn).trans h
theorem Four.new (w : World) (x y z a : Int) : Four (w.alloc (.cells #[.int .i64 x, .int .i64 y, .int .i64 z, .int .i64 a] 26)) w.heap.size x y z a := heap_alloc_new _ _
theorem Four.alloc {w : World} {B : Nat} {x y z a : Int} (h : Four w B x y z a) (o : Obj) : Four (w.alloc o) B x y z a := (Below.heap_alloc _ _ _ h.lt).trans h

/-- A loop's counter up to three. -/
def Cnt3 (P0 P1 P2 P3 : World → Prop) (c : Value) (w : World) : Prop := (c = .int .i64 0 ∧ P0 w) ∨ (c = .int .i64 1 ∧ P1 w) ∨ (c = .int .i64 2 ∧ P2 w) ∨ (c = .int .i64 3 ∧ P3 w)
def Cnt4 (P0 P1 P2 P3 P4 : World → Prop) (c : Value) (w : World) : Prop := (c = .int .i64 0 ∧ P0 w) ∨ (c = .int .i64 1 ∧ P1 w) ∨ (c = .int .i64 2 ∧ P2 w) ∨ (c = .int .i64 3 ∧ P3 w) ∨ (c = .int .i64 4 ∧ P4 w)

/-- One block under way, another one ready. -/
structure Way1 (w : World) (B R : Nat) (x y z a : Int) (wr : World) : Prop where
  on : Four wr B x y z a
  res : Four wr R 0 0 0 0
  keeps : Keeps none' w wr
theorem Way1.s0 {w : World} {B R : Nat} {x y z a : Int} {wr : World} (h : Way1 w B R x y z a wr) (hB : w.heap.size ≤ B) (hR : B < R) (v : Int) : Way1 w B R v y z a (wr.drew.setCell ⟨B, 0, none⟩ (.int .i64 v)) :=
  ⟨h.on.drew.s0 v, h.res.drew.set (by omega) _, h.keeps.drew.setCell (fun e => by simp only at e; omega) _⟩
theorem Way1.s1 {w : World} {B R : Nat} {x y z a : Int} {wr : World} (h : Way1 w B R x y z a wr) (hB : w.heap.size ≤ B) (hR : B < R) (v : Int) : Way1 w B R x v z a (wr.drew.setCell ⟨B, 1, none⟩ (.int .i64 v)) :=
  ⟨h.on.drew.s1 v, h.res.drew.set (by omega) _, h.keeps.drew.setCell (fun e => by simp only at e; omega) _⟩
theorem Way1.s2 {w : World} {B R : Nat} {x y z a : Int} {wr : World} (h : Way1 w B R x y z a wr) (hB : w.heap.size ≤ B) (hR : B < R) (v : Int) : Way1 w B R x y v a (wr.drew.setCell ⟨B, 2, none⟩ (.int .i64 v)) :=
  ⟨h.on.drew.s2 v, h.res.drew.set (by omega) _, h.keeps.drew.setCell (fun e => by simp only at e; omega) _⟩

theorem Way1.put {w : World} {B R : Nat} {x y z a : Int} {wr : World} (h : Way1 w B R x y z a wr) (hB : w.heap.size ≤ B) (hR : B < R) :
    Four ((((wr.setCell ⟨R, 0, none⟩ (.int .i64 x)).setCell ⟨R, 1, none⟩ (.int .i64 y)).setCell ⟨R, 2, none⟩ (.int .i64 z)).setCell ⟨R, 3, none⟩ (.int .i64 a)) R x y z a ∧
    Keeps none' w ((((wr.setCell ⟨R, 0, none⟩ (.int .i64 x)).setCell ⟨R, 1, none⟩ (.int .i64 y)).setCell ⟨R, 2, none⟩ (.int .i64 z)).setCell ⟨R, 3, none⟩ (.int .i64 a)) :=
  ⟨(((h.res.s0 x).s1 y).s2 z).s3 a, (((h.keeps.setCell (fun e => by simp only at e; omega) _).setCell (fun e => by simp only at e; omega) _).setCell (fun e => by simp only at e; omega) _).setCell (fun e => by simp only at e; omega) _⟩

def Px.Pix.cells (p : Px.Pix) : Array Value := #[.int .i64 p.r, .int .i64 p.g, .int .i64 p.b, .int .i64 p.a]

set_option maxHeartbeats 800000 in
theorem multiply_any (p : Px.Pix) (hp : p.bytes) (w : World) : Calls Tryd.prog 27 #[.agg #[.int .i64 p.r, .int .i64 p.g, .int .i64 p.b, .int .i64 p.a]] w fun e w' =>
    e = .returned (.agg #[.int .i64 (Px.mult p).r, .int .i64 (Px.mult p).g, .int .i64 (Px.mult p).b, .int .i64 (Px.mult p).a]) ∧ Keeps none' w w' := by
  obtain ⟨r, g, b, a⟩ := p
  obtain ⟨hr, hg, hb, ha⟩ := hp
  simp only at hr hg hb ha
  unfold Px.mult
  simp only
  have Cr := Lib.hid (fun w => mul_any hr ha w)
  have Cg := Lib.hid (fun w => mul_any hg ha w)
  have Cb := Lib.hid (fun w => mul_any hb ha w)
  clear hr hg hb ha
  generalize Px.mul r a = mr at *
  generalize Px.mul g a = mg at *
  generalize Px.mul b a = mb at *
  have W0 := Lib.hid (show Way1 w w.heap.size (w.heap.size + 1) r g b a ((w.alloc (.cells #[.int .i64 r, .int .i64 g, .int .i64 b, .int .i64 a] 26)).alloc (.cells #[.int .i64 0, .int .i64 0, .int .i64 0, .int .i64 0] 26)) from
    ⟨(Four.new _ _ _ _ _).alloc _, by have := Four.new (w.alloc (.cells #[.int .i64 r, .int .i64 g, .int .i64 b, .int .i64 a] 26)) 0 0 0 0; simpa using this, ((Keeps.refl _ _).alloc _).alloc _⟩)
  go_enter Tryd.func27, Tryd.ntmps27
  go_wp2_with fail
  generalize (w.alloc (.cells #[.int .i64 r, .int .i64 g, .int .i64 b, .int .i64 a] 26)).alloc (.cells #[.int .i64 0, .int .i64 0, .int .i64 0, .int .i64 0] 26) = w1 at *
  obtain ⟨B, hB⟩ : ∃ B, B = w.heap.size := ⟨_, rfl⟩
  obtain ⟨R, hR⟩ : ∃ R, R = B + 1 := ⟨_, rfl⟩
  rw [← hB, ← hR] at W0
  rw [← hB, ← hR]
  have LB : w.heap.size ≤ B := by omega
  have LR : B < R := by omega
  clear hB hR
  go_loopw [4] (Cnt3 (Way1 w B R r g b a) (Way1 w B R mr g b a) (Way1 w B R mr mg b a) (Way1 w B R mr mg mb a)) (fun cnt _ => 3 - (intOf cnt).toNat)
  case atStart => exact .inl ⟨rfl, W0.out⟩
  case round =>
    rcases hrel with ⟨rfl, hW⟩ | ⟨rfl, hW⟩ | ⟨rfl, hW⟩ | ⟨rfl, hW⟩
    · have c0 := hW.on.c0
      have c3 := hW.on.c3
      have f0 := hW.on.fr (i := 0)
      have X := Lib.hid (hW.s0 LB LR mr)
      clear hW
      go_wp2_with fail
      go_still_tail 7, (by kernel_rfl)
      still_call (Cr.out _)
      repeat still_step
      try refine wpStill_nil ?_
      change wpList _ _ _ _ _ wr.drew
      go_wp2_with fail
      go_roundw
      case rel => exact .inr (.inl ⟨rfl, X.out⟩)
      case measure => decide
    · have c1 := hW.on.c1
      have c3 := hW.on.c3
      have f1 := hW.on.fr (i := 1)
      have X := Lib.hid (hW.s1 LB LR mg)
      clear hW
      go_wp2_with fail
      go_still_tail 7, (by kernel_rfl)
      still_call (Cg.out _)
      repeat still_step
      try refine wpStill_nil ?_
      change wpList _ _ _ _ _ wr.drew
      go_wp2_with fail
      go_roundw
      case rel => exact .inr (.inr (.inl ⟨rfl, X.out⟩))
      case measure => decide
    · have c2 := hW.on.c2
      have c3 := hW.on.c3
      have f2 := hW.on.fr (i := 2)
      have X := Lib.hid (hW.s2 LB LR mb)
      clear hW
      go_wp2_with fail
      go_still_tail 7, (by kernel_rfl)
      still_call (Cb.out _)
      repeat still_step
      try refine wpStill_nil ?_
      change wpList _ _ _ _ _ wr.drew
      go_wp2_with fail
      go_roundw
      case rel => exact .inr (.inr (.inr ⟨rfl, X.out⟩))
      case measure => decide
    · have c0 := hW.on.c0
      have c1 := hW.on.c1
      have c2 := hW.on.c2
      have c3 := hW.on.c3
      have f0 := hW.res.fr (i := 0)
      have f1 := hW.res.fr (i := 1)
      have f2 := hW.res.fr (i := 2)
      have f3 := hW.res.fr (i := 3)
      have r0 := hW.res.c0
      have r1 := hW.res.c1
      have r2 := hW.res.c2
      have r3 := hW.res.c3
      have h := Lib.hid (hW.put LB LR)
      clear hW
      go_wp2_with fail
      refine bodyPost_ret (results_cell_row rfl _ _ R 26 #[.int .i64 mr, .int .i64 mg, .int .i64 mb, .int .i64 a] (0, 0) _ rfl h.out.1 Tryd.underlying26 rfl (by kernel_rfl)) rfl ?_
      exact ⟨rfl, h.out.2⟩
set_option maxHeartbeats 800000 in
theorem unmultiply_any (p : Px.Pix) (hp : p.bytes) (w : World) : Calls Tryd.prog 26 #[.agg #[.int .i64 p.r, .int .i64 p.g, .int .i64 p.b, .int .i64 p.a]] w fun e w' =>
    e = .returned (.agg #[.int .i64 (Px.unmul p).r, .int .i64 (Px.unmul p).g, .int .i64 (Px.unmul p).b, .int .i64 (Px.unmul p).a]) ∧ Keeps none' w w' := by
  obtain ⟨r, g, b, a⟩ := p
  obtain ⟨hr, hg, hb, ha⟩ := hp
  simp only at hr hg hb ha
  unfold Px.unmul
  simp only
  have Cr := Lib.hid (fun w => bare_any hr ha w)
  have Cg := Lib.hid (fun w => bare_any hg ha w)
  have Cb := Lib.hid (fun w => bare_any hb ha w)
  clear hr hg hb ha
  generalize Px.bare r a = mr at *
  generalize Px.bare g a = mg at *
  generalize Px.bare b a = mb at *
  have W0 := Lib.hid (show Way1 w w.heap.size (w.heap.size + 1) r g b a ((w.alloc (.cells #[.int .i64 r, .int .i64 g, .int .i64 b, .int .i64 a] 26)).alloc (.cells #[.int .i64 0, .int .i64 0, .int .i64 0, .int .i64 0] 26)) from
    ⟨(Four.new _ _ _ _ _).alloc _, by have := Four.new (w.alloc (.cells #[.int .i64 r, .int .i64 g, .int .i64 b, .int .i64 a] 26)) 0 0 0 0; simpa using this, ((Keeps.refl _ _).alloc _).alloc _⟩)
  go_enter Tryd.func26, Tryd.ntmps26
  go_wp2_with fail
  generalize (w.alloc (.cells #[.int .i64 r, .int .i64 g, .int .i64 b, .int .i64 a] 26)).alloc (.cells #[.int .i64 0, .int .i64 0, .int .i64 0, .int .i64 0] 26) = w1 at *
  obtain ⟨B, hB⟩ : ∃ B, B = w.heap.size := ⟨_, rfl⟩
  obtain ⟨R, hR⟩ : ∃ R, R = B + 1 := ⟨_, rfl⟩
  rw [← hB, ← hR] at W0
  rw [← hB, ← hR]
  have LB : w.heap.size ≤ B := by omega
  have LR : B < R := by omega
  clear hB hR
  go_loopw [4] (Cnt3 (Way1 w B R r g b a) (Way1 w B R mr g b a) (Way1 w B R mr mg b a) (Way1 w B R mr mg mb a)) (fun cnt _ => 3 - (intOf cnt).toNat)
  case atStart => exact .inl ⟨rfl, W0.out⟩
  case round =>
    rcases hrel with ⟨rfl, hW⟩ | ⟨rfl, hW⟩ | ⟨rfl, hW⟩ | ⟨rfl, hW⟩
    · have c0 := hW.on.c0
      have c3 := hW.on.c3
      have f0 := hW.on.fr (i := 0)
      have X := Lib.hid (hW.s0 LB LR mr)
      clear hW
      go_wp2_with fail
      go_still_tail 7, (by kernel_rfl)
      still_call (Cr.out _)
      repeat still_step
      try refine wpStill_nil ?_
      change wpList _ _ _ _ _ wr.drew
      go_wp2_with fail
      go_roundw
      case rel => exact .inr (.inl ⟨rfl, X.out⟩)
      case measure => decide
    · have c1 := hW.on.c1
      have c3 := hW.on.c3
      have f1 := hW.on.fr (i := 1)
      have X := Lib.hid (hW.s1 LB LR mg)
      clear hW
      go_wp2_with fail
      go_still_tail 7, (by kernel_rfl)
      still_call (Cg.out _)
      repeat still_step
      try refine wpStill_nil ?_
      change wpList _ _ _ _ _ wr.drew
      go_wp2_with fail
      go_roundw
      case rel => exact .inr (.inr (.inl ⟨rfl, X.out⟩))
      case measure => decide
    · have c2 := hW.on.c2
      have c3 := hW.on.c3
      have f2 := hW.on.fr (i := 2)
      have X := Lib.hid (hW.s2 LB LR mb)
      clear hW
      go_wp2_with fail
      go_still_tail 7, (by kernel_rfl)
      still_call (Cb.out _)
      repeat still_step
      try refine wpStill_nil ?_
      change wpList _ _ _ _ _ wr.drew
      go_wp2_with fail
      go_roundw
      case rel => exact .inr (.inr (.inr ⟨rfl, X.out⟩))
      case measure => decide
    · have c0 := hW.on.c0
      have c1 := hW.on.c1
      have c2 := hW.on.c2
      have c3 := hW.on.c3
      have f0 := hW.res.fr (i := 0)
      have f1 := hW.res.fr (i := 1)
      have f2 := hW.res.fr (i := 2)
      have f3 := hW.res.fr (i := 3)
      have r0 := hW.res.c0
      have r1 := hW.res.c1
      have r2 := hW.res.c2
      have r3 := hW.res.c3
      have h := Lib.hid (hW.put LB LR)
      clear hW
      go_wp2_with fail
      refine bodyPost_ret (results_cell_row rfl _ _ R 26 #[.int .i64 mr, .int .i64 mg, .int .i64 mb, .int .i64 a] (0, 0) _ rfl h.out.1 Tryd.underlying26 rfl (by kernel_rfl)) rfl ?_
      exact ⟨rfl, h.out.2⟩
end Go.Proofs.YtfofghakjjblfaaDoor
