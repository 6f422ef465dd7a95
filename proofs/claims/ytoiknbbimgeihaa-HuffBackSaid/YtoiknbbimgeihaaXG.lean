/- A struct of two rows of the call's own, each grown by one number. -/
import Derived.Test.YtoiknbbimgeihaaXF
import Derived.Deep.DeepMust
import Derived.LoopTactic
import Derived.RegionTactic
import Derived.BigRegion
namespace Go.Proofs.Ytoiknbbimgeihaa
open Go.RowKit
set_option linter.unusedVariables false

theorem block_set {w : World} {R i : Nat} {c : Array Value} {t : TypeId} {f : Nat × Nat} (h : w.heap[R]? = some (.cells c t f)) (u : Value) :
    (w.setCell ⟨R, i, none⟩ u).heap[R]? = some (.cells (c.setIfInBounds i u) t f) := by
  simp [World.setCell, h, Array.getElem?_modify]
theorem lt_of_block {w : World} {k : Nat} {o : Obj} (h : w.heap[k]? = some o) : k < w.heap.size := by
  rcases Nat.lt_or_ge k w.heap.size with hlt | hge
  · exact hlt
  · rw [Array.getElem?_eq_none hge] at h; cases h

/-- A struct of two rows. -/
structure Two (w : World) (B D : Nat) (vx vy : Value) (xs ys : List Int) : Prop where
  at_ : B ≤ D
  blk : w.heap[D]? = some (.cells #[vx, vy] 56 (0, 0))
  ox : w.ownsRow B 3 1 vx xs.length (vals xs)
  oy : w.ownsRow B 3 1 vy ys.length (vals ys)
  ax : vx.ownBlock ≠ some D
  ay : vy.ownBlock ≠ some D
  ap : ∀ k, vx.ownBlock = some k → vy.ownBlock ≠ some k
theorem Two.cells {w : World} {B D : Nat} {vx vy : Value} {xs ys : List Int} (h : Two w B D vx vy xs ys) :
    w.cell? ⟨D, 0, none⟩ = some vx ∧ w.cell? ⟨D, 1, none⟩ = some vy ∧ w.frozen? ⟨D, 0, none⟩ = false ∧ w.frozen? ⟨D, 1, none⟩ = false := by
  have hb := h.blk
  refine ⟨?_, ?_, ?_, ?_⟩ <;> simp [World.cell?, World.frozen?, hb]
theorem Two.lt {w : World} {B D : Nat} {vx vy : Value} {xs ys : List Int} (h : Two w B D vx vy xs ys) : D < w.heap.size := lt_of_block h.blk
/-- What stays. -/
theorem Two.later {w w' : World} {B D : Nat} {vx vy : Value} {xs ys : List Int} (h : Two w B D vx vy xs ys) (hk : ∀ k, k < w.heap.size → w'.heap[k]? = w.heap[k]?) : Two w' B D vx vy xs ys :=
  ⟨h.at_, (hk D h.lt).trans h.blk, own_kept h.ox (fun k e => hk k (own_lt h.ox k e).2), own_kept h.oy (fun k e => hk k (own_lt h.oy k e).2), h.ax, h.ay, h.ap⟩
/-- One number more in the first row. -/
theorem Two.push0 {w W w1 : World} {B D : Nat} {vx vy v' : Value} {xs ys : List Int} {z : Int} (h : Two w B D vx vy xs ys) (hW : Below w.heap.size w W)
    (hown : w1.ownsRow B 3 1 v' (xs.length + 1) (vals (xs ++ [z]))) (hg : W.grownBy w1 vx.ownBlock) (hat : v'.ownBlock = vx.ownBlock ∨ v'.ownBlock = some W.heap.size) :
    Two (w1.setCell ⟨D, 0, none⟩ v') B D v' vy (xs ++ [z]) ys := by
  have hD := h.lt
  have hDW : D < W.heap.size := Nat.lt_of_lt_of_le hD hW.size
  have hP : w1.heap[D]? = w.heap[D]? := (hg.block D hDW (fun e => h.ax e.symm)).trans (hW.block D hD)
  have hv : v'.ownBlock ≠ some D := by
    rcases hat with e | e
    · rw [e]; exact h.ax
    · rw [e]; simp; omega
  have hoy1 : w1.ownsRow B 3 1 vy ys.length (vals ys) := own_kept h.oy (fun k e => by
    have hk := (own_lt h.oy k e).2
    exact (hg.block k (Nat.lt_of_lt_of_le hk hW.size) (fun e2 => h.ap k e2.symm e)).trans (hW.block k hk))
  refine ⟨h.at_, ?_, ownsRow_setCell_other (by rw [List.length_append]; exact hown) hv _, ownsRow_setCell_other hoy1 h.ay _, hv, h.ay, fun k e1 e2 => ?_⟩
  · rw [block_set (hP.trans h.blk)]; simp
  · rcases hat with e | e
    · exact h.ap k (e ▸ e1) e2
    · rw [e] at e1
      have := (own_lt h.oy k e2).2
      have hs := hW.size
      simp only [Option.some.injEq] at e1
      omega
/-- One number more in the second row. -/
theorem Two.push1 {w W w1 : World} {B D : Nat} {vx vy v' : Value} {xs ys : List Int} {z : Int} (h : Two w B D vx vy xs ys) (hW : Below w.heap.size w W)
    (hown : w1.ownsRow B 3 1 v' (ys.length + 1) (vals (ys ++ [z]))) (hg : W.grownBy w1 vy.ownBlock) (hat : v'.ownBlock = vy.ownBlock ∨ v'.ownBlock = some W.heap.size) :
    Two (w1.setCell ⟨D, 1, none⟩ v') B D vx v' xs (ys ++ [z]) := by
  have hD := h.lt
  have hDW : D < W.heap.size := Nat.lt_of_lt_of_le hD hW.size
  have hP : w1.heap[D]? = w.heap[D]? := (hg.block D hDW (fun e => h.ay e.symm)).trans (hW.block D hD)
  have hv : v'.ownBlock ≠ some D := by
    rcases hat with e | e
    · rw [e]; exact h.ay
    · rw [e]; simp; omega
  have hox1 : w1.ownsRow B 3 1 vx xs.length (vals xs) := own_kept h.ox (fun k e => by
    have hk := (own_lt h.ox k e).2
    exact (hg.block k (Nat.lt_of_lt_of_le hk hW.size) (fun e2 => h.ap k e e2.symm)).trans (hW.block k hk))
  refine ⟨h.at_, ?_, ownsRow_setCell_other hox1 h.ax _, ownsRow_setCell_other (by rw [List.length_append]; exact hown) hv _, h.ax, hv, fun k e1 e2 => ?_⟩
  · rw [block_set (hP.trans h.blk)]; simp
  · rcases hat with e | e
    · exact h.ap k e1 (e ▸ e2)
    · rw [e] at e2
      have := (own_lt h.ox k e1).2
      have hs := hW.size
      simp only [Option.some.injEq] at e2
      omega
theorem below_join {B : Nat} {w w1 w2 : World} (h : Below B w w1) (h2 : Below w1.heap.size w1 w2) (hB : B ≤ w.heap.size) : Below B w w2 :=
  h.trans ⟨h2.os, h2.tape, h2.output, h2.size, fun k hk => h2.block k (Nat.lt_of_lt_of_le hk (Nat.le_trans hB h.size))⟩
/-- .. and what else stays. -/
theorem below_push {w0 w W w1 : World} {B D i : Nat} {vx vy v v' : Value} {xs ys : List Int} (h : Two w B D vx vy xs ys) (hv : v = vx ∨ v = vy) (hb : Below B w0 w) (hB : B ≤ w0.heap.size) (hW : Below w.heap.size w W) (hg : W.grownBy w1 v.ownBlock) :
    Below B w0 (w1.setCell ⟨D, i, none⟩ v') := by
  refine below_set (grown_below hB (below_join hb hW hB) hg (fun k e => ?_)) h.at_ _
  rcases hv with rfl | rfl
  · exact (own_lt h.ox k e).1
  · exact (own_lt h.oy k e).1
theorem Two.grow0 {w0 w X : World} {B D : Nat} {vx vy : Value} {xs ys : List Int} (h : Two w B D vx vy xs ys) (hb : Below B w0 w) (hB : B ≤ w0.heap.size) (hX : Below w.heap.size w X) (z : Int) :
    X.ownsRow B 3 1 vx xs.length (vals xs) ∧ ∀ (aa : Option Addr) (cap : Nat) (w1 : World), w1.ownsRow B 3 1 (.slice aa (xs.length + 1) cap) (xs.length + 1) (vals (xs ++ [z])) → X.grownBy w1 vx.ownBlock →
      ((Value.slice aa (xs.length + 1) cap).ownBlock = vx.ownBlock ∨ (Value.slice aa (xs.length + 1) cap).ownBlock = some X.heap.size) →
      (w1.cell? ⟨D, 0, none⟩ = some vx ∧ w1.frozen? ⟨D, 0, none⟩ = false) ∧ Two (w1.setCell ⟨D, 0, none⟩ (.slice aa (xs.length + 1) cap)) B D (.slice aa (xs.length + 1) cap) vy (xs ++ [z]) ys ∧ Below B w0 (w1.setCell ⟨D, 0, none⟩ (.slice aa (xs.length + 1) cap)) := by
  obtain ⟨c0, c1, f0, f1⟩ := h.cells
  refine ⟨own_kept h.ox (fun k e => hX.block k (own_lt h.ox k e).2), fun aa cap w1 hown hg hat => ⟨?_, h.push0 hX hown hg hat, below_push h (Or.inl rfl) hb hB hX hg⟩⟩
  have hP : w1.heap[D]? = w.heap[D]? := (hg.block _ (Nat.lt_of_lt_of_le h.lt hX.size) (fun e => h.ax e.symm)).trans (hX.block _ h.lt)
  exact ⟨(World.cell?_of_block (w := w) hP).trans c0, (World.frozen?_of_block (w := w) hP).trans f0⟩
theorem Two.grow1 {w0 w X : World} {B D : Nat} {vx vy : Value} {xs ys : List Int} (h : Two w B D vx vy xs ys) (hb : Below B w0 w) (hB : B ≤ w0.heap.size) (hX : Below w.heap.size w X) (z : Int) :
    X.ownsRow B 3 1 vy ys.length (vals ys) ∧ ∀ (aa : Option Addr) (cap : Nat) (w1 : World), w1.ownsRow B 3 1 (.slice aa (ys.length + 1) cap) (ys.length + 1) (vals (ys ++ [z])) → X.grownBy w1 vy.ownBlock →
      ((Value.slice aa (ys.length + 1) cap).ownBlock = vy.ownBlock ∨ (Value.slice aa (ys.length + 1) cap).ownBlock = some X.heap.size) →
      (w1.cell? ⟨D, 1, none⟩ = some vy ∧ w1.frozen? ⟨D, 1, none⟩ = false) ∧ Two (w1.setCell ⟨D, 1, none⟩ (.slice aa (ys.length + 1) cap)) B D vx (.slice aa (ys.length + 1) cap) xs (ys ++ [z]) ∧ Below B w0 (w1.setCell ⟨D, 1, none⟩ (.slice aa (ys.length + 1) cap)) := by
  obtain ⟨c0, c1, f0, f1⟩ := h.cells
  refine ⟨own_kept h.oy (fun k e => hX.block k (own_lt h.oy k e).2), fun aa cap w1 hown hg hat => ⟨?_, h.push1 hX hown hg hat, below_push h (Or.inr rfl) hb hB hX hg⟩⟩
  have hP : w1.heap[D]? = w.heap[D]? := (hg.block _ (Nat.lt_of_lt_of_le h.lt hX.size) (fun e => h.ay e.symm)).trans (hX.block _ h.lt)
  exact ⟨(World.cell?_of_block (w := w) hP).trans c1, (World.frozen?_of_block (w := w) hP).trans f1⟩
end Go.Proofs.Ytoiknbbimgeihaa
