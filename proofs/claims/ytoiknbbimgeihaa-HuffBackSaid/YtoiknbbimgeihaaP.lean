/- No code begins with another one; each is below two to its length: as plain data. -/
import Derived.Test.YtoiknbbimgeihaaO
namespace Go.Proofs.Ytoiknbbimgeihaa
open Go.RowKit
set_option linter.unusedVariables false

theorem code_none (l : List Nat) (i : Nat) (h : l.getD i 0 = 0) : outOf l (Huff.ordered l 16) i = 0 := by
  unfold outOf
  rw [find_none l (Huff.ordered l 16) 0 i (fun hm => by have := (Huff.mem_ordered l 16 i).1 hm; omega)]
/-- A symbol's span, and its code. -/
theorem code_at (l : List Nat) (i : Nat) (hi : i < l.length) (h1 : 1 ≤ l.getD i 0) (h2 : l.getD i 0 ≤ 16) : ∃ p, (i, p) ∈ Huff.all l ∧ outOf l (Huff.ordered l 16) i = p / Huff.room l i ∧ outOf l (Huff.ordered l 16) i * Huff.room l i = p := by
  obtain ⟨p, hp⟩ := Huff.all_sym l i hi h1 h2
  have e := outOf_mem l (Huff.ordered l 16) i p (Huff.nodup_ordered l 16) hp
  refine ⟨p, hp, e, ?_⟩
  rw [e]
  exact Nat.div_mul_cancel (Huff.all_even l (i, p) hp)
theorem code_below (l : List Nat) (i : Nat) (hi : i < l.length) (h1 : 1 ≤ l.getD i 0) (h2 : l.getD i 0 ≤ 16) (hw : Huff.rooms l (Huff.ordered l 16) ≤ 65536) : outOf l (Huff.ordered l 16) i < 2 ^ l.getD i 0 := by
  obtain ⟨p, hp, e, _⟩ := code_at l i hi h1 h2
  have k := Huff.code_lt l (i, p) hp h2 hw
  rw [e]
  exact k
/-- Bits that a code begins with, as rows of sixteen: a code's span holds what begins with it. -/
theorem code_apart (l : List Nat) (i j : Nat) (hi : i < l.length) (hj : j < l.length) (h1 : 1 ≤ l.getD i 0) (h2 : l.getD i 0 ≤ l.getD j 0) (h3 : l.getD j 0 ≤ 16) (hne : i ≠ j) :
    outOf l (Huff.ordered l 16) j / 2 ^ (l.getD j 0 - l.getD i 0) ≠ outOf l (Huff.ordered l 16) i := by
  intro e
  obtain ⟨p, hp, _, ep⟩ := code_at l i hi h1 (by omega)
  obtain ⟨q, hq, _, eq⟩ := code_at l j hj (by omega) h3
  generalize outOf l (Huff.ordered l 16) i = x at *
  generalize outOf l (Huff.ordered l 16) j = y at *
  have hroom : Huff.room l i = 2 ^ (l.getD j 0 - l.getD i 0) * Huff.room l j := by
    unfold Huff.room
    rw [← Nat.pow_add, show l.getD j 0 - l.getD i 0 + (16 - l.getD j 0) = 16 - l.getD i 0 by omega]
  have hd := Nat.two_pow_pos (l.getD j 0 - l.getD i 0)
  generalize 2 ^ (l.getD j 0 - l.getD i 0) = D at *
  have hr := Huff.room_pos l j
  have k1 : x * D ≤ y := by rw [← e]; exact Nat.div_mul_le_self _ _
  have k2 : y < (x + 1) * D := by rw [← e, Nat.mul_comm]; exact Nat.lt_mul_div_succ _ hd
  have m1 : x * D * Huff.room l j ≤ y * Huff.room l j := Nat.mul_le_mul_right _ k1
  have m2 : y * Huff.room l j < (x + 1) * D * Huff.room l j := Nat.mul_lt_mul_of_pos_right k2 hr
  rw [Nat.mul_assoc, ← hroom, ep, eq] at m1
  rw [Nat.mul_assoc, ← hroom, eq, Nat.add_mul, Nat.one_mul, ep] at m2
  exact hne (Huff.all_apart l i j p q q hp hq m1 m2 (Nat.le_refl _) (by omega))
/-- Rows of sixteen bits, of whole lengths: each begins with a code. -/
theorem code_whole (l : List Nat) (hl : ∀ s, l.getD s 0 ≤ 16) (hw : Huff.rooms l (Huff.ordered l 16) = 65536) (v : Nat) (hv : v < 65536) : ∃ i, i < l.length ∧ 1 ≤ l.getD i 0 ∧ v / 2 ^ (16 - l.getD i 0) = outOf l (Huff.ordered l 16) i := by
  obtain ⟨x, hx, h1, h2⟩ := Huff.all_cover l v (by rw [hw]; exact hv)
  have hm : x.1 ∈ Huff.ordered l 16 := by
    have : x.1 ∈ (Huff.all l).map Prod.fst := List.mem_map.2 ⟨x, hx, rfl⟩
    rw [Huff.all, Huff.spans_syms] at this
    exact this
  obtain ⟨m1, m2, m3⟩ := (Huff.mem_ordered l 16 x.1).1 hm
  refine ⟨x.1, m1, m2, ?_⟩
  have e := outOf_mem l (Huff.ordered l 16) x.1 x.2 (Huff.nodup_ordered l 16) hx
  rw [e]
  exact (Huff.code_begins l x hx v).2 ⟨h1, h2⟩
end Go.Proofs.Ytoiknbbimgeihaa
