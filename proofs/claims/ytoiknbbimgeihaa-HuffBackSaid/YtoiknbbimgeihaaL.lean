/- What follows of lengths that cost least: their weight, their order, that they are whole. -/
import Derived.Test.YtoiknbbimgeihaaK
namespace Go.Proofs.Ytoiknbbimgeihaa
open Go.RowKit
set_option linter.unusedVariables false

theorem kraft_scale (most : Nat) (hm : most ≤ 16) (es : List Nat) (h : ∀ e ∈ es, e ≤ most) : Huff.kraft 16 es = 2 ^ (16 - most) * Huff.kraft most es := by
  induction es with
  | nil => rfl
  | cons e es ih =>
    have he := h e (List.mem_cons_self ..)
    rw [Huff.kraft, Huff.kraft, ih (fun x hx => h x (List.mem_cons_of_mem _ hx)), Nat.mul_add, ← Nat.pow_add, show 16 - most + (most - e) = 16 - e by omega]
theorem weight_over (zs ls : List Int) (L : List Nat) (h : ∀ i ∈ L, 0 ≤ zs.getD i 0 ∧ (zs.getD i 0 = 0 → ls.getD i 0 = 0) ∧ (0 < zs.getD i 0 → 1 ≤ ls.getD i 0)) :
    (L.map (fun i => wt (ls.getD i 0).toNat)).sum = Huff.kraft 16 ((L.filter (fun i => decide (0 < zs.getD i 0))).map (fun i => (ls.getD i 0).toNat)) := by
  induction L with
  | nil => rfl
  | cons i L ih =>
    obtain ⟨h0, h1, h2⟩ := h i (List.mem_cons_self ..)
    rw [List.map_cons, List.sum_cons, ih (fun j hj => h j (List.mem_cons_of_mem _ hj))]
    by_cases hp : 0 < zs.getD i 0
    · rw [List.filter_cons_of_pos (by simpa using hp), List.map_cons, Huff.kraft]
      have := h2 hp
      rw [wt, if_neg (by omega)]
    · rw [List.filter_cons_of_neg (by simpa using hp), h1 (by omega)]
      simp [wt]
theorem nats_range (ls : List Int) : nats ls = (List.range ls.length).map (fun i => (ls.getD i 0).toNat) := by
  unfold nats
  apply List.ext_getElem
  · simp
  · intro i h1 h2
    simp only [List.length_map] at h1
    simp only [List.getElem_map, List.getElem_range]
    rw [List.getD_eq_getElem?_getD, List.getElem?_eq_getElem h1]
    rfl
theorem getD_mem {zs : List Int} {i : Nat} (h : i < zs.length) : zs.getD i 0 ∈ zs := by
  rw [List.getD_eq_getElem?_getD, List.getElem?_eq_getElem h]
  exact List.getElem_mem h

theorem best_weight {zs ls : List Int} {most : Nat} (h : Best zs ls most) (hz : ∀ z ∈ zs, 0 ≤ z) (hm : most ≤ 16) : weightS (nats ls) = 2 ^ (16 - most) * Huff.kraft most (esOf zs ls) := by
  have k := weight_over zs ls (List.range ls.length) (fun i hi => by
    have hl : i < zs.length := by have := List.mem_range.1 hi; have := h.len; omega
    exact ⟨hz _ (getD_mem hl), fun e => h.zero i hl e, fun e => (h.pos i hl e).1⟩)
  unfold weightS
  rw [nats_range, List.map_map]
  have e : ((List.range ls.length).map (wt ∘ fun i => (ls.getD i 0).toNat)).sum = ((List.range ls.length).map (fun i => wt (ls.getD i 0).toNat)).sum := rfl
  rw [e, k, h.len]
  exact kraft_scale most hm _ h.may.le
theorem best_lens {zs ls : List Int} {most : Nat} (h : Best zs ls most) (hz : ∀ z ∈ zs, 0 ≤ z) (hl : zs.length ≤ 300) (hm : most ≤ 16) : lensOk ls = true ∧ weightZ ls ≤ 65536 := by
  have h1 : lensOk ls = true := by
    unfold lensOk
    simp only [decide_eq_true_eq]
    refine ⟨by rw [h.len]; exact hl, fun z hz2 => ?_⟩
    obtain ⟨i, hi⟩ := List.getElem?_of_mem hz2
    have hil : i < ls.length := (List.getElem?_eq_some_iff.1 hi).1
    have hg : ls.getD i 0 = z := by rw [List.getD_eq_getElem?_getD, hi]; rfl
    have hil2 : i < zs.length := by have := h.len; omega
    have h0 := hz _ (getD_mem hil2)
    by_cases hp : 0 < zs.getD i 0
    · have := h.pos i hil2 hp
      rw [hg] at this
      omega
    · have := h.zero i hil2 (by omega)
      rw [hg] at this
      omega
  refine ⟨h1, ?_⟩
  unfold weightZ
  rw [h1, if_pos rfl, best_weight h hz hm]
  have h2 : 2 ^ (16 - most) * Huff.kraft most (esOf zs ls) ≤ 2 ^ (16 - most) * 2 ^ most := Nat.mul_le_mul_left _ h.may.room
  rw [← Nat.pow_add, show 16 - most + most = 16 by omega] at h2
  exact h2
theorem ws_pos (zs : List Int) : ∀ w ∈ wsOf zs, 0 < w := by
  intro w hw
  unfold wsOf posI at hw
  obtain ⟨i, hi, rfl⟩ := List.mem_map.1 hw
  have := (List.mem_filter.1 hi).2
  simp only [decide_eq_true_eq] at this
  omega
theorem best_full {zs ls : List Int} {most : Nat} (h : Best zs ls most) (hz : ∀ z ∈ zs, 0 ≤ z) (hl : zs.length ≤ 300) (hm : most ≤ 16) (h2 : 2 ≤ (posI zs).length) : weightZ ls = 65536 := by
  unfold weightZ
  rw [(best_lens h hz hl hm).1, if_pos rfl, best_weight h hz hm, Huff.best_whole most (wsOf zs) (esOf zs ls) (by simpa [wsOf] using h2) (ws_pos zs) h.may h.best, ← Nat.pow_add, show 16 - most + most = 16 by omega]
theorem posI_at {zs : List Int} {i : Nat} (h : i < zs.length) (hp : 0 < zs.getD i 0) : ∃ k, ∃ hk : k < (posI zs).length, (posI zs)[k] = i := by
  have hm : i ∈ posI zs := List.mem_filter.2 ⟨List.mem_range.2 h, by simpa using hp⟩
  obtain ⟨k, hk, e⟩ := List.getElem_of_mem hm
  exact ⟨k, hk, e⟩
/-- What is there more often has no longer code. -/
theorem best_pair {zs ls : List Int} {most i j : Nat} (h : Best zs ls most) (hi : i < zs.length) (hj : j < zs.length) (h1 : zs.getD j 0 < zs.getD i 0) (h2 : 0 < zs.getD j 0) : ls.getD i 0 ≤ ls.getD j 0 := by
  obtain ⟨k, hk, ek⟩ := posI_at hi (by omega)
  obtain ⟨m, hm, em⟩ := posI_at hj h2
  have hek : k < (esOf zs ls).length := by simpa [esOf] using hk
  have hem : m < (esOf zs ls).length := by simpa [esOf] using hm
  have q := Huff.best_order most (wsOf zs) (esOf zs ls) h.may h.best k m hek hem (by
    simp only [wsOf, List.getElem_map, ek, em]
    omega)
  simp only [esOf, List.getElem_map, ek, em] at q
  have := h.pos i hi (by omega)
  have := h.pos j hj h2
  omega
end Go.Proofs.Ytoiknbbimgeihaa
