/- The cost of lengths, and the document's least of the counts that are put in order. -/
import Derived.Test.YtoiknbbimgeihaaL
namespace Go.Proofs.Ytoiknbbimgeihaa
open Go.RowKit
set_option linter.unusedVariables false

theorem zs_range (zs : List Int) : zs = (List.range zs.length).map (fun i => zs.getD i 0) := by
  apply List.ext_getElem
  · simp
  · intro i h1 h2
    simp only [List.getElem_map, List.getElem_range]
    rw [List.getD_eq_getElem?_getD, List.getElem?_eq_getElem h1]
    rfl
theorem filter_pos (zs : List Int) : zs.filter (fun z => decide (0 < z)) = (posI zs).map (fun i => zs.getD i 0) := by
  have e : ∀ L : List Nat, (L.map (fun i => zs.getD i 0)).filter (fun z => decide (0 < z)) = (L.filter (fun i => decide (0 < zs.getD i 0))).map (fun i => zs.getD i 0) := by
    intro L
    rw [List.filter_map]
    rfl
  have k := e (List.range zs.length)
  rw [← zs_range] at k
  exact k
theorem ws_filter (zs : List Int) : wsOf zs = (zs.filter (fun z => decide (0 < z))).map Int.toNat := by
  rw [filter_pos, List.map_map]
  rfl
/-- The counts above 0 in order. -/
def ordered (zs : List Int) : List Nat := (sortD [] zs).map Int.toNat
theorem ordered_perm (zs : List Int) : (wsOf zs).Perm (ordered zs) := by
  rw [ws_filter]
  exact ((sortD_perm [] zs).map Int.toNat).symm
theorem ordered_ints (zs : List Int) : ints (ordered zs) = sortD [] zs := by
  have hp : ∀ z ∈ sortD [] zs, 0 < z := by
    intro z hz
    have := (sortD_perm [] zs).mem_iff.1 hz
    rw [List.nil_append, List.mem_filter] at this
    simpa using this.2
  unfold ints ordered
  rw [List.map_map]
  conv => rhs; rw [← List.map_id (sortD [] zs)]
  refine List.map_congr_left (fun z hz => ?_)
  have := hp z hz
  simp only [Function.comp, id]
  omega
theorem ordered_falls (zs : List Int) : Huff.Falling (ordered zs) := by
  have h := sortD_fall [] zs List.Pairwise.nil
  unfold ordered
  generalize sortD [] zs = l at *
  induction l with
  | nil => trivial
  | cons x l ih =>
    obtain ⟨h1, h2⟩ := List.pairwise_cons.1 h
    refine ⟨fun y hy => ?_, ih h2⟩
    obtain ⟨z, hz, rfl⟩ := List.mem_map.1 hy
    have := h1 z hz
    omega
theorem ordered_length (zs : List Int) : (ordered zs).length = (posI zs).length := by
  rw [← (ordered_perm zs).length_eq]; simp [wsOf]
theorem sum_perm {a b : List Nat} (h : a.Perm b) : a.sum = b.sum := by
  induction h with
  | nil => rfl
  | cons x _ ih => simp [ih]
  | swap x y l => simp only [List.sum_cons]; omega
  | trans _ _ i1 i2 => exact i1.trans i2
theorem sum_le_of (l : List Nat) (B : Nat) (h : ∀ x ∈ l, x ≤ B) : l.sum ≤ B * l.length := by
  induction l with
  | nil => simp
  | cons x l ih =>
    rw [List.sum_cons, List.length_cons, Nat.mul_add, Nat.mul_one]
    have := ih (fun y hy => h y (List.mem_cons_of_mem _ hy))
    have := h x (List.mem_cons_self ..)
    omega

/-- What lengths cost, count by count. -/
def cost (zs ls : List Int) (k : Nat) : Int := ((List.range k).map (fun i => zs.getD i 0 * ls.getD i 0)).sum
theorem cost_succ (zs ls : List Int) (k : Nat) : cost zs ls (k + 1) = cost zs ls k + zs.getD k 0 * ls.getD k 0 := by
  unfold cost
  rw [List.range_succ, List.map_append, List.sum_append]
  simp
theorem cost_over (zs ls : List Int) (L : List Nat) (h : ∀ i ∈ L, 0 ≤ zs.getD i 0 ∧ (0 < zs.getD i 0 → 0 ≤ ls.getD i 0)) :
    (L.map (fun i => zs.getD i 0 * ls.getD i 0)).sum = ((Huff.dot ((L.filter (fun i => decide (0 < zs.getD i 0))).map (fun i => (zs.getD i 0).toNat)) ((L.filter (fun i => decide (0 < zs.getD i 0))).map (fun i => (ls.getD i 0).toNat)) : Nat) : Int) := by
  induction L with
  | nil => rfl
  | cons i L ih =>
    obtain ⟨h0, h1⟩ := h i (List.mem_cons_self ..)
    rw [List.map_cons, List.sum_cons, ih (fun j hj => h j (List.mem_cons_of_mem _ hj))]
    by_cases hp : 0 < zs.getD i 0
    · rw [List.filter_cons_of_pos (by simpa using hp), List.map_cons, List.map_cons, Huff.dot_cons]
      have hl := h1 hp
      rw [Int.natCast_add, Int.natCast_mul, Int.toNat_of_nonneg h0, Int.toNat_of_nonneg hl]
    · rw [List.filter_cons_of_neg (by simpa using hp), show zs.getD i 0 = 0 by omega]
      simp
theorem best_cost {zs ls : List Int} {most : Nat} (h : Best zs ls most) (hz : ∀ z ∈ zs, 0 ≤ z) : cost zs ls zs.length = (Huff.dot (wsOf zs) (esOf zs ls) : Nat) := by
  have k := cost_over zs ls (List.range zs.length) (fun i hi => by
    have hl : i < zs.length := List.mem_range.1 hi
    exact ⟨hz _ (getD_mem hl), fun e => by have := (h.pos i hl e).1; omega⟩)
  unfold cost
  rw [k]
  rfl
/-- Least lengths cost what the document finds. -/
theorem cost_least {zs ls : List Int} {r : Nat} (h : Best zs ls (r + 1)) (hz : ∀ z ∈ zs, 0 ≤ z) : cost zs ls zs.length = enc (Huff.least r (ordered zs) 2) + ((ordered zs).sum : Nat) := by
  obtain ⟨v, h1, h2⟩ := Huff.best_is_least r (wsOf zs) (ordered zs) (esOf zs ls) (ordered_perm zs) (ordered_falls zs) h.may h.best
  rw [best_cost h hz, h2, h1]
  simp [enc]
/-- One count alone. -/
theorem cost_one {zs ls : List Int} {most : Nat} (h : Best zs ls most) (hz : ∀ z ∈ zs, 0 ≤ z) (h1 : (posI zs).length = 1) (hm : 1 ≤ most) : cost zs ls zs.length = ((ordered zs).sum : Nat) := by
  rw [best_cost h hz, ← sum_perm (ordered_perm zs)]
  have hw : (wsOf zs).length = 1 := by simpa [wsOf] using h1
  have he := h.may.len
  have hb := h.best
  have hp := h.may.pos
  generalize wsOf zs = ws at *
  generalize esOf zs ls = es at *
  match ws, hw with
  | [a], _ =>
    match es, he with
    | [e], _ =>
      have k := hb [1] ⟨rfl, by simp, by simpa using hm, by simp only [Huff.kraft]; exact Nat.pow_le_pow_right (by omega) (by omega)⟩
      have p := hp e (by simp)
      simp only [Huff.dot, Nat.mul_one, Nat.add_zero, List.sum_cons, List.sum_nil] at k ⊢
      have : a * 1 ≤ a * e := Nat.mul_le_mul_left _ p
      omega
theorem cost_none {zs ls : List Int} {most : Nat} (h : Best zs ls most) (hz : ∀ z ∈ zs, 0 ≤ z) (h1 : (posI zs).length = 0) : cost zs ls zs.length = 0 := by
  rw [best_cost h hz]
  have e : wsOf zs = [] := by
    unfold wsOf
    rw [List.eq_nil_of_length_eq_zero h1]
    rfl
  rw [e, Huff.dot_nil]
  rfl
end Go.Proofs.Ytoiknbbimgeihaa
