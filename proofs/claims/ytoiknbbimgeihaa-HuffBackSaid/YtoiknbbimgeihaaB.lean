/- The document's codes, symbol by symbol, as plain data; the contract of the document's Codes. -/
import Derived.Test.YtoiknbbimgeihaaA
import Derived.Test.YtoiknbbimgeihaaPL
namespace Go.Proofs.Ytoiknbbimgeihaa
open Go.RowKit
set_option linter.unusedVariables false

/-- A symbol's code, of the symbols so far: where its span begins, by its room. -/
def outOf (l os : List Nat) (t : Nat) : Nat := match (Huff.spans l 0 os).find? (fun x => x.1 == t) with
  | some x => x.2 / Huff.room l x.1
  | none => 0
def codesOf (l : List Nat) : List Nat := (List.range l.length).map (outOf l (Huff.ordered l 16))
theorem outOf_nil (l : List Nat) (t : Nat) : outOf l [] t = 0 := rfl
theorem find_none (l os : List Nat) (p t : Nat) (h : t ∉ os) : (Huff.spans l p os).find? (fun x => x.1 == t) = none := by
  rw [List.find?_eq_none]
  intro x hx
  have hm : x.1 ∈ (Huff.spans l p os).map Prod.fst := List.mem_map.2 ⟨x, hx, rfl⟩
  rw [Huff.spans_syms] at hm
  intro e
  exact h ((beq_iff_eq.1 e) ▸ hm)
theorem outOf_snoc (l os : List Nat) (s t : Nat) (hs : s ∉ os) : outOf l (os ++ [s]) t = if t = s then Huff.rooms l os / Huff.room l s else outOf l os t := by
  unfold outOf
  rw [Huff.spans_append, List.find?_append, Nat.zero_add]
  by_cases h : t = s
  · subst h
    rw [find_none l os 0 t hs, if_pos rfl]
    simp [Huff.spans]
  · rw [if_neg h]
    have e : List.find? (fun x => x.1 == t) (Huff.spans l (Huff.rooms l os) [s]) = none := find_none l [s] _ t (by simpa using h)
    rw [e]
    cases List.find? (fun x => x.1 == t) (Huff.spans l 0 os) <;> rfl
theorem outOf_mem (l os : List Nat) (t p : Nat) (hn : os.Nodup) (h : (t, p) ∈ Huff.spans l 0 os) : outOf l os t = p / Huff.room l t := by
  have key : ∀ (L : List (Nat × Nat)), (L.map Prod.fst).Nodup → (t, p) ∈ L → L.find? (fun x => x.1 == t) = some (t, p) := by
    intro L hL hm
    induction L with
    | nil => cases hm
    | cons x L ih =>
      rw [List.map_cons, List.nodup_cons] at hL
      rcases List.mem_cons.1 hm with e | hm
      · subst e; simp
      · have hx : x.1 ≠ t := fun e => hL.1 (e ▸ List.mem_map.2 ⟨_, hm, rfl⟩)
        rw [List.find?_cons_of_neg (by simpa using hx)]
        exact ih hL.2 hm
  unfold outOf
  rw [key _ (by rw [Huff.spans_syms]; exact hn) h]
theorem codesOf_get (l : List Nat) (j : Nat) (hj : j < l.length) : (codesOf l).getD j 0 = outOf l (Huff.ordered l 16) j := by
  unfold codesOf
  generalize Huff.ordered l 16 = os
  rw [List.getD_eq_getElem?_getD, List.getElem?_map, List.getElem?_range hj, Option.map_some, Option.getD_some]
theorem codesOf_length (l : List Nat) : (codesOf l).length = l.length := by simp [codesOf]

/-- The symbols of one length, of those below s. -/
def upto (l : List Nat) (n s : Nat) : List Nat := (List.range s).filter (fun t => l.getD t 0 == n)
theorem upto_zero (l : List Nat) (n : Nat) : upto l n 0 = [] := rfl
theorem upto_succ (l : List Nat) (n s : Nat) : upto l n (s + 1) = upto l n s ++ (if l.getD s 0 = n then [s] else []) := by
  unfold upto
  rw [List.range_succ, List.filter_append]
  congr 1
  by_cases h : l.getD s 0 = n
  · rw [if_pos h, List.filter_cons_of_pos (by rw [h]; exact beq_self_eq_true n)]; rfl
  · rw [if_neg h, List.filter_cons_of_neg (by simpa using h)]; rfl
theorem upto_all (l : List Nat) (n : Nat) : upto l n l.length = Huff.ofLen l n := rfl
theorem upto_lt (l : List Nat) (n s t : Nat) (h : t ∈ upto l n s) : t < s ∧ l.getD t 0 = n := by
  unfold upto at h
  simpa using h
/-- The symbols so far. -/
def sofar (l : List Nat) (n s : Nat) : List Nat := Huff.ordered l n ++ upto l (n + 1) s
theorem sofar_prefix (l : List Nat) (n s : Nat) (hs : s ≤ l.length) (hn : n < 16) : ∃ rest, sofar l n s ++ rest = Huff.ordered l 16 := by
  have h1 : ∃ r, upto l (n + 1) s ++ r = Huff.ofLen l (n + 1) := by
    refine ⟨((List.range' s (l.length - s)).filter (fun t => l.getD t 0 == n + 1)), ?_⟩
    unfold upto Huff.ofLen
    rw [← List.filter_append]
    congr 1
    have e : List.range' 0 s ++ List.range' (0 + s) (l.length - s) = List.range' 0 (s + (l.length - s)) := List.range'_append_1
    rw [Nat.zero_add, show s + (l.length - s) = l.length by omega] at e
    rw [List.range_eq_range', List.range_eq_range', e]
  have h2 : ∀ k, ∃ r, Huff.ordered l (n + 1) ++ r = Huff.ordered l (n + 1 + k) := by
    intro k
    induction k with
    | zero => exact ⟨[], by simp⟩
    | succ k ih =>
      obtain ⟨r, hr⟩ := ih
      exact ⟨r ++ Huff.ofLen l (n + 1 + k + 1), by rw [← List.append_assoc, hr]; rfl⟩
  obtain ⟨r1, e1⟩ := h1
  obtain ⟨r2, e2⟩ := h2 (15 - n)
  rw [show n + 1 + (15 - n) = 16 by omega] at e2
  refine ⟨r1 ++ r2, ?_⟩
  unfold sofar
  rw [List.append_assoc, ← List.append_assoc _ r1, e1, ← List.append_assoc, ← e2]
  rfl
theorem sofar_rooms (l : List Nat) (n s : Nat) (hs : s ≤ l.length) (hn : n < 16) (hw : Huff.rooms l (Huff.ordered l 16) ≤ 65536) : Huff.rooms l (sofar l n s) ≤ 65536 := by
  obtain ⟨r, e⟩ := sofar_prefix l n s hs hn
  rw [← e, Huff.rooms_append] at hw
  omega
theorem sofar_not (l : List Nat) (n s : Nat) (h : l.getD s 0 = n + 1) : s ∉ sofar l n s := by
  unfold sofar
  rw [List.mem_append]
  rintro (h1 | h1)
  · have := (Huff.mem_ordered l n s).1 h1; omega
  · have := upto_lt l (n + 1) s s h1; omega
theorem sofar_end (l : List Nat) (n : Nat) : sofar l n l.length = sofar l (n + 1) 0 := by
  unfold sofar
  rw [upto_zero, List.append_nil, upto_all]
  rfl
theorem sofar_zero (l : List Nat) (n : Nat) : sofar l n 0 = Huff.ordered l n := by
  unfold sofar
  rw [upto_zero, List.append_nil]
theorem sofar_skip (l : List Nat) (n s : Nat) (h : l.getD s 0 ≠ n + 1) : sofar l n (s + 1) = sofar l n s := by
  unfold sofar
  rw [upto_succ, if_neg h, List.append_nil]
theorem sofar_more (l : List Nat) (n s : Nat) (h : l.getD s 0 = n + 1) : sofar l n (s + 1) = sofar l n s ++ [s] := by
  unfold sofar
  rw [upto_succ, if_pos h, List.append_assoc]

/-- The last code and its length, so far. -/
def Last (l os : List Nat) (n last code : Nat) : Prop :=
  (os = [] ∧ last = 0 ∧ code = 0) ∨ (1 ≤ last ∧ last ≤ n ∧ (code + 1) * 2 ^ (16 - last) = Huff.rooms l os)
/-- The next code. -/
def nextCode (n last code : Nat) : Nat := if last = 0 then 0 else (code + 1) * 2 ^ (n - last)
theorem last_next {l os : List Nat} {n last code s : Nat} (h : Last l os n last code) (hn : n ≤ 16) (hs : l.getD s 0 = n) (h1 : 1 ≤ n) :
    Huff.rooms l os / Huff.room l s = nextCode n last code ∧ Last l (os ++ [s]) n n (nextCode n last code) ∧ nextCode n last code * 2 ^ (16 - n) = Huff.rooms l os := by
  have hr : Huff.room l s = 2 ^ (16 - n) := by unfold Huff.room; rw [hs]
  have hp : nextCode n last code * 2 ^ (16 - n) = Huff.rooms l os := by
    rcases h with ⟨rfl, rfl, rfl⟩ | ⟨h1, h2, h3⟩
    · simp [nextCode, Huff.rooms_nil]
    · rw [← h3, nextCode, if_neg (by omega), Nat.mul_assoc, ← Nat.pow_add, show n - last + (16 - n) = 16 - last by omega]
  refine ⟨?_, Or.inr ⟨h1, Nat.le_refl _, ?_⟩, hp⟩
  · rw [hr, ← hp, Nat.mul_div_cancel _ (Nat.two_pow_pos _)]
  · rw [Huff.rooms_append, Nat.add_mul, Nat.one_mul, hp, Huff.rooms_cons, Huff.rooms_nil, hr, Nat.add_zero]

theorem Last.le {l os : List Nat} {n last code : Nat} (h : Last l os n last code) : last ≤ n := by
  rcases h with ⟨_, rfl, _⟩ | ⟨_, h, _⟩
  · omega
  · exact h
theorem Last.later {l os : List Nat} {n m last code : Nat} (h : Last l os n last code) (hm : n ≤ m) : Last l os m last code := by
  rcases h with h | ⟨h1, h2, h3⟩
  · exact Or.inl h
  · exact Or.inr ⟨h1, by omega, h3⟩
theorem Last.code_le {l os : List Nat} {n last code : Nat} (h : Last l os n last code) (hr : Huff.rooms l os ≤ 65536) : code ≤ 65536 := by
  rcases h with ⟨_, _, rfl⟩ | ⟨h1, h2, h3⟩
  · omega
  · have hp := Nat.two_pow_pos (16 - last)
    have : (code + 1) * 1 ≤ (code + 1) * 2 ^ (16 - last) := Nat.mul_le_mul_left _ hp
    omega

/-- A row of whole numbers that the call writes. -/
def Row (w : World) (g n : Nat) (f : Nat → Int) : Prop :=
  ∃ cur : Array Value, w.heap[g]? = some (.cells cur 3 (0, 0)) ∧ n ≤ cur.size ∧ ∀ j, j < n → cur[j]? = some (.int .i64 (f j))
theorem Row.cell {w : World} {g n j : Nat} {f : Nat → Int} (h : Row w g n f) (hj : j < n) : w.cell? ⟨g, j, none⟩ = some (.int .i64 (f j)) ∧ w.frozen? ⟨g, j, none⟩ = false := by
  obtain ⟨cur, h1, h2, h3⟩ := h
  exact ⟨by simp [World.cell?, h1, h3 j hj], by simp [World.frozen?, h1]⟩
theorem Row.set {w : World} {g n i : Nat} {f f' : Nat → Int} {z : Int} (h : Row w g n f) (hi : i < n) (hf : ∀ j, j < n → f' j = if j = i then z else f j) : Row (w.setCell ⟨g, i, none⟩ (.int .i64 z)) g n f' := by
  obtain ⟨cur, h1, h2, h3⟩ := h
  refine ⟨cur.setIfInBounds i (.int .i64 z), ?_, by simpa using h2, fun j hj => ?_⟩
  · simp only [World.setCell, Array.getElem?_modify, h1]
    simp
  · rw [hf j hj]
    by_cases e : i = j
    · subst e
      rw [Array.getElem?_setIfInBounds_self_of_lt (by omega), if_pos rfl]
    · rw [Array.getElem?_setIfInBounds_ne e, if_neg (fun h => e h.symm)]
      exact h3 j hj
theorem Row.lt {w : World} {g n : Nat} {f : Nat → Int} (h : Row w g n f) : g < w.heap.size := by
  obtain ⟨cur, h1, _⟩ := h
  exact lt_of_block h1
theorem Row.later {w w' : World} {g n : Nat} {f : Nat → Int} (h : Row w g n f) (hb : w'.heap[g]? = w.heap[g]?) : Row w' g n f := by
  obtain ⟨cur, h1, h2⟩ := h
  exact ⟨cur, hb.trans h1, h2⟩
theorem Row.congr {w : World} {g n : Nat} {f f' : Nat → Int} (h : Row w g n f) (he : ∀ j, j < n → f' j = f j) : Row w g n f' := by
  obtain ⟨cur, h1, h2, h3⟩ := h
  exact ⟨cur, h1, h2, fun j hj => by rw [he j hj]; exact h3 j hj⟩
theorem Row.ints {w : World} {g n : Nat} {f : Nat → Int} {zs : List Int} (h : Row w g n f) (hl : zs.length = n) (hz : ∀ z ∈ zs, -9223372036854775808 ≤ z ∧ z ≤ 9223372036854775807) (hf : ∀ j, j < n → zs[j]? = some (f j)) : Ints w (some ⟨g, 0, none⟩) n zs := by
  refine ⟨hl, hz, fun _ => ⟨g, 0, rfl, fun j z hj => ?_⟩⟩
  have hjn : j < n := by have := (List.getElem?_eq_some_iff.1 hj).1; omega
  have k := (h.cell hjn).1
  have e := hf j hjn
  rw [hj] at e
  rw [Option.some.inj e, Nat.zero_add]
  exact k
theorem made_row (w : World) (n : Nat) : Row (w.alloc (.cells (madeCells #[.int .i64 0] n) 3)) w.heap.size n (fun _ => 0) :=
  ⟨_, heap_alloc_new _ _, by rw [size_madeCells]; exact Nat.le_refl _, fun j hj => by simp [madeCells, hj, Nat.mod_one]⟩
theorem below_set {B : Nat} {w w1 : World} (h : Below B w w1) {g i : Nat} (hg : B ≤ g) (v : Value) : Below B w (w1.setCell ⟨g, i, none⟩ v) :=
  ⟨h.os, h.tape, h.output, by simp [World.setCell]; exact h.size, fun k hk => (Below.heap_setCell _ _ _ _ (by simp only; omega)).trans (h.block k hk)⟩
theorem info3 : (Try.prog.info? 3).map (fun i => (i.zero, i.size, i.bytes)) = some (some (.int .i64 0), 1, 8) := by kernel_rfl
end Go.Proofs.Ytoiknbbimgeihaa
