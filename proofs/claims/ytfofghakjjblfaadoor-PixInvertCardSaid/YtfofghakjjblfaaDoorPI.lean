/- The document's Way. -/
import Derived.Test.YtfofghakjjblfaaDoorPH
namespace Go.Proofs.YtfofghakjjblfaaDoor
open Go.RowKit
set_option linter.unusedVariables false

def cellsF (A : Int) : Array Value := #[.int .i64 0, .int .i64 255, .int .i64 0, .int .i64 255, .int .i64 (255 - A), .int .i64 A, .int .i64 0, .int .i64 (255 - A), .int .i64 0, .int .i64 A, .int .i64 (255 - A), .int .i64 (255 - A)]
def cellsG (S : Int) : Array Value := #[.int .i64 0, .int .i64 0, .int .i64 255, .int .i64 (255 - S), .int .i64 255, .int .i64 0, .int .i64 S, .int .i64 0, .int .i64 (255 - S), .int .i64 (255 - S), .int .i64 S, .int .i64 (255 - S)]
theorem cellsF_at (A : Int) : ∀ n, n < 12 → (cellsF A)[n]? = some (.int .i64 (Px.shareOf (Px.wayRow n).1 A))
  | 0, _ => rfl | 1, _ => rfl | 2, _ => rfl | 3, _ => rfl | 4, _ => rfl | 5, _ => rfl | 6, _ => rfl | 7, _ => rfl | 8, _ => rfl | 9, _ => rfl | 10, _ => rfl | 11, _ => rfl
  | n + 12, h => absurd h (by omega)
theorem cellsG_at (A : Int) : ∀ n, n < 12 → (cellsG A)[n]? = some (.int .i64 (Px.shareOf (Px.wayRow n).2 A))
  | 0, _ => rfl | 1, _ => rfl | 2, _ => rfl | 3, _ => rfl | 4, _ => rfl | 5, _ => rfl | 6, _ => rfl | 7, _ => rfl | 8, _ => rfl | 9, _ => rfl | 10, _ => rfl | 11, _ => rfl
  | n + 12, h => absurd h (by omega)

/-- What the document's Way has under way. -/
structure LayD (w : World) (S D R U V L n : Nat) (f g : Int) (s d : Px.Pix) (x y z a : Int) (wr : World) : Prop where
  lay : Lay w S D R L s d x y z a wr
  rf : wr.cell? ⟨U, n, none⟩ = some (.int .i64 f)
  rg : wr.cell? ⟨V, n, none⟩ = some (.int .i64 g)
theorem cell_set_other {w : World} {B L i j : Nat} {v u : Value} (h : w.cell? ⟨B, i, none⟩ = some v) (hn : B ≠ L) : (w.setCell ⟨L, j, none⟩ u).cell? ⟨B, i, none⟩ = some v :=
  (World.cell?_of_block (w := w) (Below.heap_setCell _ _ _ _ hn)).trans h
section
variable {w : World} {S D R U V L n : Nat} {f g : Int} {s d : Px.Pix} {x y z a : Int} {wr : World}
theorem LayD.s0 (h : LayD w S D R U V L n f g s d x y z a wr) (p : Apart w S D R L) (q : U ≠ L ∧ V ≠ L) (v : Int) : LayD w S D R U V L n f g s d v y z a (wr.drew.setCell ⟨L, 0, none⟩ (.int .i64 v)) :=
  ⟨h.lay.s0 p v, cell_set_other (w := wr.drew) h.rf q.1, cell_set_other (w := wr.drew) h.rg q.2⟩
theorem LayD.s1 (h : LayD w S D R U V L n f g s d x y z a wr) (p : Apart w S D R L) (q : U ≠ L ∧ V ≠ L) (v : Int) : LayD w S D R U V L n f g s d x v z a (wr.drew.setCell ⟨L, 1, none⟩ (.int .i64 v)) :=
  ⟨h.lay.s1 p v, cell_set_other (w := wr.drew) h.rf q.1, cell_set_other (w := wr.drew) h.rg q.2⟩
theorem LayD.s2 (h : LayD w S D R U V L n f g s d x y z a wr) (p : Apart w S D R L) (q : U ≠ L ∧ V ≠ L) (v : Int) : LayD w S D R U V L n f g s d x y v a (wr.drew.setCell ⟨L, 2, none⟩ (.int .i64 v)) :=
  ⟨h.lay.s2 p v, cell_set_other (w := wr.drew) h.rf q.1, cell_set_other (w := wr.drew) h.rg q.2⟩
theorem LayD.s3 (h : LayD w S D R U V L n f g s d x y z a wr) (p : Apart w S D R L) (q : U ≠ L ∧ V ≠ L) (v : Int) : LayD w S D R U V L n f g s d x y z v (wr.drew.setCell ⟨L, 3, none⟩ (.int .i64 v)) :=
  ⟨h.lay.s3 p v, cell_set_other (w := wr.drew) h.rf q.1, cell_set_other (w := wr.drew) h.rg q.2⟩
/-- Set twice at one place: the second stands. -/
theorem LayD.t0 (h : LayD w S D R U V L n f g s d x y z a wr) (p : Apart w S D R L) (q : U ≠ L ∧ V ≠ L) (u v : Int) : LayD w S D R U V L n f g s d v y z a ((wr.drew.setCell ⟨L, 0, none⟩ (.int .i64 u)).setCell ⟨L, 0, none⟩ (.int .i64 v)) := by
  obtain ⟨⟨h1, h2, h3, h4, h5⟩, h6, h7⟩ := h.s0 p q u
  obtain ⟨p1, p2, p3, p4⟩ := p
  exact ⟨⟨h1.set (by omega) _, h2.set (by omega) _, h3.set (by omega) _, h4.s0 v, h5.setCell (fun e => by simp only at e; omega) _⟩, cell_set_other h6 q.1, cell_set_other h7 q.2⟩
theorem LayD.t1 (h : LayD w S D R U V L n f g s d x y z a wr) (p : Apart w S D R L) (q : U ≠ L ∧ V ≠ L) (u v : Int) : LayD w S D R U V L n f g s d x v z a ((wr.drew.setCell ⟨L, 1, none⟩ (.int .i64 u)).setCell ⟨L, 1, none⟩ (.int .i64 v)) := by
  obtain ⟨⟨h1, h2, h3, h4, h5⟩, h6, h7⟩ := h.s1 p q u
  obtain ⟨p1, p2, p3, p4⟩ := p
  exact ⟨⟨h1.set (by omega) _, h2.set (by omega) _, h3.set (by omega) _, h4.s1 v, h5.setCell (fun e => by simp only at e; omega) _⟩, cell_set_other h6 q.1, cell_set_other h7 q.2⟩
theorem LayD.t2 (h : LayD w S D R U V L n f g s d x y z a wr) (p : Apart w S D R L) (q : U ≠ L ∧ V ≠ L) (u v : Int) : LayD w S D R U V L n f g s d x y v a ((wr.drew.setCell ⟨L, 2, none⟩ (.int .i64 u)).setCell ⟨L, 2, none⟩ (.int .i64 v)) := by
  obtain ⟨⟨h1, h2, h3, h4, h5⟩, h6, h7⟩ := h.s2 p q u
  obtain ⟨p1, p2, p3, p4⟩ := p
  exact ⟨⟨h1.set (by omega) _, h2.set (by omega) _, h3.set (by omega) _, h4.s2 v, h5.setCell (fun e => by simp only at e; omega) _⟩, cell_set_other h6 q.1, cell_set_other h7 q.2⟩
theorem LayD.t3 (h : LayD w S D R U V L n f g s d x y z a wr) (p : Apart w S D R L) (q : U ≠ L ∧ V ≠ L) (u v : Int) : LayD w S D R U V L n f g s d x y z v ((wr.drew.setCell ⟨L, 3, none⟩ (.int .i64 u)).setCell ⟨L, 3, none⟩ (.int .i64 v)) := by
  obtain ⟨⟨h1, h2, h3, h4, h5⟩, h6, h7⟩ := h.s3 p q u
  obtain ⟨p1, p2, p3, p4⟩ := p
  exact ⟨⟨h1.set (by omega) _, h2.set (by omega) _, h3.set (by omega) _, h4.s3 v, h5.setCell (fun e => by simp only at e; omega) _⟩, cell_set_other h6 q.1, cell_set_other h7 q.2⟩
end

theorem layD_new (w : World) (s d : Px.Pix) (n : Nat) (f g : Int) (hf : (cellsF d.a)[n]? = some (.int .i64 f)) (hg : (cellsG s.a)[n]? = some (.int .i64 g)) :
    LayD w w.heap.size (w.heap.size + 1) (w.heap.size + 1 + 1) (w.heap.size + 1 + 1 + 1) (w.heap.size + 1 + 1 + 1 + 1) (w.heap.size + 1 + 1 + 1 + 1 + 1) n f g s d 0 0 0 0 ((((((w.alloc (.cells #[.int .i64 s.r, .int .i64 s.g, .int .i64 s.b, .int .i64 s.a] 26)).alloc (.cells #[.int .i64 d.r, .int .i64 d.g, .int .i64 d.b, .int .i64 d.a] 26)).alloc (.cells #[.int .i64 0, .int .i64 0, .int .i64 0, .int .i64 0] 26)).alloc (.cells (cellsF d.a) 37)).alloc (.cells (cellsG s.a) 37)).alloc (.cells #[.int .i64 0, .int .i64 0, .int .i64 0, .int .i64 0] 26)) := by
  obtain ⟨F1, F2, F3⟩ := three_new w s d
  have K1 := (((Keeps.refl none' w).alloc (.cells #[.int .i64 s.r, .int .i64 s.g, .int .i64 s.b, .int .i64 s.a] 26)).alloc (.cells #[.int .i64 d.r, .int .i64 d.g, .int .i64 d.b, .int .i64 d.a] 26)).alloc (.cells #[.int .i64 0, .int .i64 0, .int .i64 0, .int .i64 0] 26)
  obtain ⟨w3, hw3⟩ : ∃ w3, w3 = ((w.alloc (.cells #[.int .i64 s.r, .int .i64 s.g, .int .i64 s.b, .int .i64 s.a] 26)).alloc (.cells #[.int .i64 d.r, .int .i64 d.g, .int .i64 d.b, .int .i64 d.a] 26)).alloc (.cells #[.int .i64 0, .int .i64 0, .int .i64 0, .int .i64 0] 26) := ⟨_, rfl⟩
  have hs : w3.heap.size = w.heap.size + 1 + 1 + 1 := by rw [hw3]; simp
  rw [← hw3] at F1 F2 F3 K1 ⊢
  rw [← hs]
  have hs4 : (w3.alloc (.cells (cellsF d.a) 37)).heap.size = w3.heap.size + 1 := by simp
  have hs5 : ((w3.alloc (.cells (cellsF d.a) 37)).alloc (.cells (cellsG s.a) 37)).heap.size = w3.heap.size + 1 + 1 := by simp
  have B1 : (w3.alloc (.cells (cellsF d.a) 37)).heap[w3.heap.size]? = some (.cells (cellsF d.a) 37 (0, 0)) := heap_alloc_new _ _
  have B2 : ((w3.alloc (.cells (cellsF d.a) 37)).alloc (.cells (cellsG s.a) 37)).heap[w3.heap.size + 1]? = some (.cells (cellsG s.a) 37 (0, 0)) := by rw [← hs4]; exact heap_alloc_new _ _
  have B3 := (Below.heap_alloc _ (.cells (cellsG s.a) 37) _ (lt_of_block B1)).trans B1
  have B4 := (Below.heap_alloc _ (.cells #[.int .i64 0, .int .i64 0, .int .i64 0, .int .i64 0] 26) _ (lt_of_block B3)).trans B3
  have B5 := (Below.heap_alloc _ (.cells #[.int .i64 0, .int .i64 0, .int .i64 0, .int .i64 0] 26) _ (lt_of_block B2)).trans B2
  refine ⟨⟨((F1.alloc _).alloc _).alloc _, ((F2.alloc _).alloc _).alloc _, ((F3.alloc _).alloc _).alloc _, ?_, ((K1.alloc _).alloc _).alloc _⟩, ?_, ?_⟩
  · rw [← hs5]; exact Four.new _ _ _ _ _
  · exact (cell_of_row _ _ n _ 37 (0, 0) B4).trans hf
  · exact (cell_of_row _ _ n _ 37 (0, 0) B5).trans hg
end Go.Proofs.YtfofghakjjblfaaDoor
