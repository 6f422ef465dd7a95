/- What is met on the way along a code, bit by bit: as plain data. -/
import Derived.Test.YtoiknbbimgeihaaP
namespace Go.Proofs.Ytoiknbbimgeihaa
open Go.RowKit
set_option linter.unusedVariables false

theorem nats_at {zs : List Int} {i : Nat} (hl : lensOk zs = true) (hi : i < zs.length) : zs.getD i 0 = (((nats zs).getD i 0 : Nat) : Int) ∧ (nats zs).getD i 0 ≤ 16 := by
  have h : zs[i]? = some (zs.getD i 0) := by rw [List.getD_eq_getElem?_getD, List.getElem?_eq_getElem hi]; rfl
  have h2 := nats_get h
  unfold lensOk at hl
  simp only [decide_eq_true_eq] at hl
  have h3 := hl.2 _ (getD_mem hi)
  rw [h2]
  omega
theorem codesZ_at {zs : List Int} {i : Nat} (hi : i < zs.length) : (codesZ zs).getD i 0 = ((outOf (nats zs) (Huff.ordered (nats zs) 16) i : Nat) : Int) := by
  have hl : i < (codesOf (nats zs)).length := by rw [codesOf_length, nats_length]; exact hi
  have e := codesOf_get (nats zs) i (by rw [nats_length]; exact hi)
  unfold codesZ
  rw [List.getD_eq_getElem?_getD, List.getElem?_map, List.getElem?_eq_getElem hl]
  rw [List.getD_eq_getElem?_getD, List.getElem?_eq_getElem hl] at e
  simp only [Option.getD_some] at e
  simp only [Option.map_some, Option.getD_some, e]
theorem findS_is {zs cs : List Int} {n v : Int} {k s : Nat} (h : findS zs cs n v k = some s) : s < k ∧ zs.getD s 0 = n ∧ cs.getD s 0 = v := by
  unfold findS at h
  have h1 := List.find?_some h
  have h2 := List.mem_of_find?_eq_some h
  unfold isCode at h1
  simp only [Bool.and_eq_true, beq_iff_eq] at h1
  exact ⟨List.mem_range.1 h2, h1.1, h1.2⟩
theorem findS_has {zs cs : List Int} {n v : Int} {k s : Nat} (hs : s < k) (h1 : zs.getD s 0 = n) (h2 : cs.getD s 0 = v) : ∃ t, findS zs cs n v k = some t := by
  cases h : findS zs cs n v k with
  | some t => exact ⟨t, rfl⟩
  | none =>
    unfold findS at h
    rw [List.find?_eq_none] at h
    exfalso
    refine h s (List.mem_range.2 hs) ?_
    unfold isCode
    rw [h1, h2]
    simp
/-- A code amid: no code ends there, one goes on. -/
theorem amid {zs : List Int} (hm : mayCode zs = true) {s k : Nat} (hs : s < zs.length) (hk1 : 1 ≤ k) (hk : k < (nats zs).getD s 0) :
    findS zs (codesZ zs) (k : Nat) ((outOf (nats zs) (Huff.ordered (nats zs) 16) s / 2 ^ ((nats zs).getD s 0 - k) : Nat) : Int) zs.length = none ∧ beginsS zs (codesZ zs) (k : Nat) ((outOf (nats zs) (Huff.ordered (nats zs) 16) s / 2 ^ ((nats zs).getD s 0 - k) : Nat) : Int) zs.length = true := by
  have hl : lensOk zs = true := by unfold mayCode at hm; simp only [Bool.and_eq_true] at hm; exact hm.1
  constructor
  · cases h : findS zs (codesZ zs) (k : Nat) ((outOf (nats zs) (Huff.ordered (nats zs) 16) s / 2 ^ ((nats zs).getD s 0 - k) : Nat) : Int) zs.length with
    | none => rfl
    | some t =>
      exfalso
      obtain ⟨h1, h2, h3⟩ := findS_is h
      rw [codesZ_at h1] at h3
      obtain ⟨q1, q2⟩ := nats_at hl h1
      rw [q1] at h2
      have e2 : (nats zs).getD t 0 = k := by omega
      have hne : t ≠ s := by rintro rfl; omega
      have r := code_apart (nats zs) t s (by rw [nats_length]; exact h1) (by rw [nats_length]; exact hs) (by omega) (by omega) (nats_at hl hs).2 hne
      rw [e2] at r
      exact r (by omega)
  · unfold beginsS
    rw [List.any_eq_true]
    refine ⟨s, List.mem_range.2 hs, ?_⟩
    unfold longer
    obtain ⟨q1, q2⟩ := nats_at hl hs
    rw [q1, codesZ_at hs]
    simp only [Bool.and_eq_true, decide_eq_true_eq, beq_iff_eq]
    refine ⟨by omega, ?_⟩
    rw [show ((((nats zs).getD s 0 : Nat) : Int) - (k : Int)).toNat = (nats zs).getD s 0 - k by omega]
    simp
/-- A code's end. -/
theorem ended {zs : List Int} (hm : mayCode zs = true) {s : Nat} (hs : s < zs.length) (h1 : 1 ≤ (nats zs).getD s 0) :
    findS zs (codesZ zs) ((nats zs).getD s 0 : Nat) ((outOf (nats zs) (Huff.ordered (nats zs) 16) s : Nat) : Int) zs.length = some s := by
  have hl : lensOk zs = true := by unfold mayCode at hm; simp only [Bool.and_eq_true] at hm; exact hm.1
  obtain ⟨t, ht⟩ := findS_has (n := ((nats zs).getD s 0 : Nat)) hs (nats_at hl hs).1 (codesZ_at hs)
  obtain ⟨k1, k2, k3⟩ := findS_is ht
  rw [ht]
  congr 1
  rw [codesZ_at k1] at k3
  obtain ⟨q1, q2⟩ := nats_at hl k1
  rw [q1] at k2
  have e2 : (nats zs).getD t 0 = (nats zs).getD s 0 := by omega
  rcases Nat.decEq t s with hne | he
  · exfalso
    have r := code_apart (nats zs) t s (by rw [nats_length]; exact k1) (by rw [nats_length]; exact hs) (by omega) (by omega) (nats_at hl hs).2 hne
    rw [e2, Nat.sub_self, Nat.pow_zero, Nat.div_one] at r
    exact r (by omega)
  · exact he
end Go.Proofs.Ytoiknbbimgeihaa
