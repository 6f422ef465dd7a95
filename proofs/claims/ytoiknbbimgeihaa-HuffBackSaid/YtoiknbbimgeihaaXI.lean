/- Rows of things that are told; the walk of bought. -/
import Derived.Test.YtoiknbbimgeihaaXH
import Derived.Laws.MakeOwn
namespace Go.Proofs.Ytoiknbbimgeihaa
open Go.RowKit
set_option linter.unusedVariables false

theorem Ints.laterAt {w w' : World} {a : Option Addr} {n : Nat} {zs : List Int} (h : Ints w a n zs) (hk : ∀ x, a = some x → w'.heap[x.block]? = w.heap[x.block]?) : Ints w' a n zs := by
  obtain ⟨h1, h2, h3⟩ := h
  refine ⟨h1, h2, fun hp => ?_⟩
  obtain ⟨b, off, e, hc⟩ := h3 hp
  have hb : w'.heap[b]? = w.heap[b]? := hk _ e
  exact ⟨b, off, e, fun j y hj => (World.cell?_of_block (w := w) hb).trans (hc j y hj)⟩
theorem rowP_le {ws : List Nat} {B : Nat} (h : ∀ u ∈ ws, u ≤ B) (j : Nat) : ∀ p ∈ Huff.rowP ws j, p ≤ B * 2 ^ j := by
  induction j with
  | zero => intro p hp; simp [Huff.rowP] at hp
  | succ j ih =>
    refine mix_le (fun p hp => ?_) (fun p hp => ?_)
    · have := h p hp
      have := Nat.le_mul_of_pos_right B (Nat.two_pow_pos (j + 1))
      omega
    · have := pairs_le ih p hp
      rw [Nat.pow_succ, ← Nat.mul_assoc]
      omega
theorem rowP_length (ws : List Nat) (j : Nat) : (Huff.rowP ws (j + 1)).length = ws.length + (Huff.pairs (Huff.rowP ws j)).length := by
  rw [Huff.rowP, Huff.mix_length]
theorem rowP_short (ws : List Nat) (j : Nat) : (Huff.rowP ws j).length ≤ 2 * ws.length := by
  induction j with
  | zero => simp [Huff.rowP]
  | succ j ih => rw [rowP_length, Huff.pairs_length]; omega

/-- One row of things in memory. -/
def OneRow (w : World) (ws : List Nat) (G j : Nat) : Prop :=
  ∃ ax cx ay cy, w.cell? ⟨G, j * 2, none⟩ = some (.slice ax (Huff.rowP ws (j + 1)).length cx) ∧ w.cell? ⟨G, j * 2 + 1, none⟩ = some (.slice ay ((Huff.rowP ws (j + 1)).length + 1) cy) ∧
    Ints w ax (Huff.rowP ws (j + 1)).length (natZ (Huff.rowP ws (j + 1))) ∧ Ints w ay ((Huff.rowP ws (j + 1)).length + 1) (natZ (cntsTo ws (Huff.pairs (Huff.rowP ws j)) (Huff.rowP ws (j + 1)).length)) ∧
    (∀ x, ax = some x → x.block ≠ G) ∧ (∀ x, ay = some x → x.block ≠ G)
structure RA (w : World) (ws : List Nat) (G most i : Nat) : Prop where
  blk : ∃ cur, w.heap[G]? = some (.cells cur 56 (0, 0)) ∧ cur.size = 2 * most
  rows : ∀ j, j < i → OneRow w ws G j
theorem RA.lt {w : World} {ws : List Nat} {G most i : Nat} (h : RA w ws G most i) : G < w.heap.size := by
  obtain ⟨cur, hb, _⟩ := h.blk
  exact lt_of_block hb
theorem RA.later {w w' : World} {ws : List Nat} {G most i : Nat} (h : RA w ws G most i) (hk : ∀ k, k < w.heap.size → w'.heap[k]? = w.heap[k]?) : RA w' ws G most i := by
  have hG := h.lt
  obtain ⟨⟨cur, hb, hs⟩, hr⟩ := h
  refine ⟨⟨cur, (hk G hG).trans hb, hs⟩, fun j hj => ?_⟩
  obtain ⟨ax, cx, ay, cy, h1, h2, h3, h4, h5, h6⟩ := hr j hj
  exact ⟨ax, cx, ay, cy, (World.cell?_of_block (w := w) (hk G hG)).trans h1, (World.cell?_of_block (w := w) (hk G hG)).trans h2, h3.later hk, h4.later hk, h5, h6⟩
theorem RA.spot {w : World} {ws : List Nat} {G most i k : Nat} (h : RA w ws G most i) (hk : k < 2 * most) : ∃ v, w.cell? ⟨G, k, none⟩ = some v ∧ w.frozen? ⟨G, k, none⟩ = false := by
  obtain ⟨cur, hb, hs⟩ := h.blk
  have hl : k < cur.size := by omega
  exact ⟨cur[k], by simp [World.cell?, hb, hl], by simp [World.frozen?, hb]⟩
/-- One row more. -/
theorem RA.step {w w2 : World} {ws : List Nat} {G most i : Nat} (h : RA w2 ws G most i) (hi : i < most) (vx vy : Value) (hG : G < w.heap.size)
    (ax : Option Addr) (cx : Nat) (ay : Option Addr) (cy : Nat) (hx : vx = .slice ax (Huff.rowP ws (i + 1)).length cx) (hy : vy = .slice ay ((Huff.rowP ws (i + 1)).length + 1) cy)
    (i1 : Ints w2 ax (Huff.rowP ws (i + 1)).length (natZ (Huff.rowP ws (i + 1)))) (i2 : Ints w2 ay ((Huff.rowP ws (i + 1)).length + 1) (natZ (cntsTo ws (Huff.pairs (Huff.rowP ws i)) (Huff.rowP ws (i + 1)).length)))
    (f1 : ∀ x, ax = some x → w.heap.size ≤ x.block) (f2 : ∀ x, ay = some x → w.heap.size ≤ x.block) : RA ((w2.setCell ⟨G, i * 2, none⟩ vx).setCell ⟨G, i * 2 + 1, none⟩ vy) ws G most (i + 1) ∧ ((w2.setCell ⟨G, i * 2, none⟩ vx).setCell ⟨G, i * 2 + 1, none⟩ vy).cell? ⟨G, i * 2, none⟩ = some vx := by
  obtain ⟨⟨cur, hb, hs⟩, hr⟩ := h
  have hW : ((w2.setCell ⟨G, i * 2, none⟩ vx).setCell ⟨G, i * 2 + 1, none⟩ vy).heap[G]? = some (.cells ((cur.setIfInBounds (i * 2) vx).setIfInBounds (i * 2 + 1) vy) 56 (0, 0)) := block_set (block_set hb _) _
  have hk : ∀ k, k ≠ G → ((w2.setCell ⟨G, i * 2, none⟩ vx).setCell ⟨G, i * 2 + 1, none⟩ vy).heap[k]? = w2.heap[k]? := fun k hk =>
    (Below.heap_setCell _ _ _ _ (by simpa using hk)).trans (Below.heap_setCell _ _ _ _ (by simpa using hk))
  have hcell : ∀ k, ((w2.setCell ⟨G, i * 2, none⟩ vx).setCell ⟨G, i * 2 + 1, none⟩ vy).cell? ⟨G, k, none⟩ = ((cur.setIfInBounds (i * 2) vx).setIfInBounds (i * 2 + 1) vy)[k]? := fun k => by
    simp [World.cell?, hW]
  have hold : ∀ k, w2.cell? ⟨G, k, none⟩ = cur[k]? := fun k => by simp [World.cell?, hb]
  refine ⟨⟨⟨_, hW, by simpa using hs⟩, fun j hj => ?_⟩, by rw [hcell, Array.getElem?_setIfInBounds_ne (by omega), Array.getElem?_setIfInBounds_self_of_lt (by omega)]⟩
  by_cases hji : j = i
  · subst hji
    refine ⟨ax, cx, ay, cy, ?_, ?_, i1.laterAt (fun x hx => hk _ (by have := f1 x hx; omega)), i2.laterAt (fun x hx => hk _ (by have := f2 x hx; omega)), fun x hx => by have := f1 x hx; omega, fun x hx => by have := f2 x hx; omega⟩
    · rw [hcell, Array.getElem?_setIfInBounds_ne (by omega), Array.getElem?_setIfInBounds_self_of_lt (by omega), hx]
    · rw [hcell, Array.getElem?_setIfInBounds_self_of_lt (by simp; omega), hy]
  · obtain ⟨bx, dx, by', dy, h1, h2, h3, h4, h5, h6⟩ := hr j (by omega)
    refine ⟨bx, dx, by', dy, ?_, ?_, h3.laterAt (fun x hx => hk _ (h5 x hx)), h4.laterAt (fun x hx => hk _ (h6 x hx)), h5, h6⟩
    · rw [hcell, Array.getElem?_setIfInBounds_ne (by omega), Array.getElem?_setIfInBounds_ne (by omega), ← hold, h1]
    · rw [hcell, Array.getElem?_setIfInBounds_ne (by omega), Array.getElem?_setIfInBounds_ne (by omega), ← hold, h2]
end Go.Proofs.Ytoiknbbimgeihaa
