/- A tree of ways, laid code by code: what it tells on the way. No program in it. -/
import Derived.WalkKit
namespace Go.Proofs.Ytoiknbbimgeihaa.Trie
set_option linter.unusedVariables false

/-- The first j bits of a code of so many bits. -/
def pre (L C j : Nat) : Nat × Nat := (j, C / 2 ^ (L - j))
theorem pre_all (L C : Nat) : pre L C L = (L, C) := by simp [pre]
theorem pre_next {L C j : Nat} (h : j + 1 ≤ L) : (pre L C (j + 1)).2 = 2 * (pre L C j).2 + C / 2 ^ (L - (j + 1)) % 2 := by
  simp only [pre]
  have e : L - j = (L - (j + 1)) + 1 := by omega
  rw [e, Nat.pow_succ, ← Nat.div_div_eq_div_mul]
  omega
theorem pre_half {L C j : Nat} (h : j + 1 ≤ L) : (pre L C (j + 1)).2 / 2 = (pre L C j).2 := by
  have := pre_next (C := C) h
  omega

/-- No code begins another. -/
def Apart (l c : Nat → Nat) (N : Nat) : Prop := ∀ s t, s < N → t < N → s ≠ t → 0 < l s → l s ≤ l t → (pre (l t) (c t) (l s)).2 ≠ c s

/-- The tree, the codes of the first k symbols laid, that of one more under way. -/
structure Tree (l c : Nat → Nat) (k : Nat) (ps : List (Nat × Nat)) (way : Nat → Nat → Int) : Prop where
  root : ps[0]? = some (0, 0)
  inj : ∀ (i j : Nat) (p : Nat × Nat), ps[i]? = some p → ps[j]? = some p → i = j
  down : ∀ (st b t n v : Nat), ps[st]? = some (n, v) → b < 2 → way st b = (t : Int) → 0 < t → ps[t]? = some (n + 1, 2 * v + b)
  leaf : ∀ (st b n v : Nat), ps[st]? = some (n, v) → b < 2 → way st b < 0 → ∃ s : Nat, s < k ∧ way st b = -(s : Int) - 1 ∧ l s = n + 1 ∧ c s = 2 * v + b
  have_ : ∀ (s j : Nat), s < k → j < l s → ∃ st : Nat, ps[st]? = some (pre (l s) (c s) j)
  ends : ∀ (s st : Nat), s < k → 0 < l s → ps[st]? = some (pre (l s) (c s) (l s - 1)) → way st (c s % 2) = -(s : Int) - 1
  of_ : ∀ (st : Nat) (p : Nat × Nat), ps[st]? = some p → 0 < st → ∃ s j : Nat, s < k + 1 ∧ 0 < j ∧ j < l s ∧ p = pre (l s) (c s) j
  up : ∀ (t : Nat) (p : Nat × Nat), ps[t]? = some p → 0 < t → ∃ st b n v : Nat, ps[st]? = some (n, v) ∧ b < 2 ∧ way st b = (t : Int)

theorem Tree.parent {l c : Nat → Nat} {k : Nat} {ps : List (Nat × Nat)} {way : Nat → Nat → Int} (h : Tree l c k ps way) {st t n v b : Nat} (hs : ps[st]? = some (n, v)) (hb : b < 2) (ht : ps[t]? = some (n + 1, 2 * v + b)) (h0 : 0 < t) : way st b = (t : Int) := by
  obtain ⟨st', b', n', v', h1, h2, h3⟩ := h.up t _ ht h0
  have h4 := h.down st' b' t n' v' h1 h2 h3 h0
  rw [ht, Option.some.injEq, Prod.mk.injEq] at h4
  have e1 : b' = b := by omega
  have e2 : (n', v') = (n, v) := by rw [Prod.mk.injEq]; omega
  rw [e2] at h1
  have := h.inj _ _ _ h1 hs
  subst this e1
  exact h3

/-- The empty tree. -/
theorem tree_none (l c : Nat → Nat) : Tree l c 0 [(0, 0)] (fun _ _ => 0) := {
  root := rfl
  inj := fun i j p h1 h2 => by
    match i, j, h1, h2 with
    | 0, 0, _, _ => rfl
    | i + 1, _, h1, _ => simp at h1
    | 0, j + 1, _, h2 => simp at h2
  down := fun st b t n v _ _ h h0 => by omega
  leaf := fun st b n v _ _ h => by omega
  have_ := fun s j h => absurd h (by omega)
  ends := fun s st h => absurd h (by omega)
  of_ := fun st p h h0 => by
    match st, h with
    | 0, _ => omega
    | st + 1, h => simp at h
  up := fun t p h h0 => by
    match t, h with
    | 0, _ => omega
    | t + 1, h => simp at h }

/-- A symbol without a code. -/
theorem Tree.skip {l c : Nat → Nat} {k : Nat} {ps : List (Nat × Nat)} {way : Nat → Nat → Int} (h : Tree l c k ps way) (h0 : l k = 0) : Tree l c (k + 1) ps way := {
  root := h.root
  inj := h.inj
  down := h.down
  leaf := fun st b n v h1 h2 h3 => by
    obtain ⟨s, q⟩ := h.leaf st b n v h1 h2 h3
    exact ⟨s, by omega, q.2⟩
  have_ := fun s j h1 h2 => by
    rcases Nat.lt_or_ge s k with h3 | h3
    · exact h.have_ s j h3 h2
    · obtain rfl : s = k := by omega
      omega
  ends := fun s st h1 h2 h3 => by
    rcases Nat.lt_or_ge s k with h4 | h4
    · exact h.ends s st h4 h2 h3
    · obtain rfl : s = k := by omega
      omega
  of_ := fun st p h1 h2 => by
    obtain ⟨s, j, q⟩ := h.of_ st p h1 h2
    exact ⟨s, j, by omega, q.2⟩
  up := h.up }

/-- On the way along the code under way: no leaf there. -/
theorem Tree.no_leaf {l c : Nat → Nat} {k N : Nat} {ps : List (Nat × Nat)} {way : Nat → Nat → Int} (h : Tree l c k ps way) (ha : Apart l c N) (hk : k < N) {st j : Nat} (hs : ps[st]? = some (pre (l k) (c k) j)) (hj : j + 1 ≤ l k) :
    0 ≤ way st (c k / 2 ^ (l k - (j + 1)) % 2) := by
  rcases Int.lt_or_le (way st (c k / 2 ^ (l k - (j + 1)) % 2)) 0 with hlt | hge
  · exfalso
    obtain ⟨s, h1, h2, h3, h4⟩ := h.leaf st _ _ _ hs (Nat.mod_lt _ (by omega)) hlt
    have h5 := pre_next (C := c k) hj
    simp only [pre] at h3 h4 h5
    refine ha s k (by omega) hk (by omega) (by omega) (by omega) ?_
    simp only [pre]
    rw [h3, h4]
    exact h5
  · exact hge
/-- A state more. -/
theorem Tree.grow {l c : Nat → Nat} {k : Nat} {ps : List (Nat × Nat)} {way way' : Nat → Nat → Int} (h : Tree l c k ps way) {st j b : Nat} (hs : ps[st]? = some (pre (l k) (c k) j)) (hj : j + 1 < l k) (hb : b = c k / 2 ^ (l k - (j + 1)) % 2) (h0 : way st b = 0)
    (hw : ∀ st' b', b' < 2 → way' st' b' = if st' = st ∧ b' = b then (ps.length : Int) else if st' = ps.length then 0 else way st' b') : Tree l c k (ps ++ [pre (l k) (c k) (j + 1)]) way' := by
  have hstl : st < ps.length := (List.getElem?_eq_some_iff.1 hs).1
  have hb2 : b < 2 := by rw [hb]; exact Nat.mod_lt _ (by omega)
  have hold : ∀ (i : Nat) (p : Nat × Nat), (ps ++ [pre (l k) (c k) (j + 1)])[i]? = some p → (i < ps.length ∧ ps[i]? = some p) ∨ (i = ps.length ∧ p = pre (l k) (c k) (j + 1)) := by
    intro i p hi
    rcases Nat.lt_or_ge i ps.length with hlt | hge
    · rw [List.getElem?_append_left hlt] at hi
      exact Or.inl ⟨hlt, hi⟩
    · rw [List.getElem?_append_right hge] at hi
      have hl := (List.getElem?_eq_some_iff.1 hi).1
      simp only [List.length_cons, List.length_nil] at hl
      have e : i = ps.length := by omega
      subst e
      rw [Nat.sub_self] at hi
      simp only [List.getElem?_cons_zero, Option.some.injEq] at hi
      exact Or.inr ⟨rfl, hi.symm⟩
  have hkeep : ∀ (i : Nat) (p : Nat × Nat), ps[i]? = some p → (ps ++ [pre (l k) (c k) (j + 1)])[i]? = some p := fun i p hi => by
    rw [List.getElem?_append_left (List.getElem?_eq_some_iff.1 hi).1]; exact hi
  have hnew : (ps ++ [pre (l k) (c k) (j + 1)])[ps.length]? = some (pre (l k) (c k) (j + 1)) := by
    rw [List.getElem?_append_right (Nat.le_refl _), Nat.sub_self]; rfl
  have hnext := pre_next (C := c k) (show j + 1 ≤ l k by omega)
  rw [← hb] at hnext
  have hpn : pre (l k) (c k) (j + 1) = (j + 1, 2 * (pre (l k) (c k) j).2 + b) := Prod.ext rfl hnext
  have hfresh : ∀ t : Nat, ps[t]? ≠ some (pre (l k) (c k) (j + 1)) := by
    intro t ht
    have ht0 : 0 < t := by
      rcases Nat.eq_zero_or_pos t with e | e
      · subst e
        rw [h.root, Option.some.injEq, hpn, Prod.mk.injEq] at ht
        omega
      · exact e
    have := h.parent (st := st) (n := j) (v := (pre (l k) (c k) j).2) hs hb2 (by rw [ht, hpn]) ht0
    omega
  refine ⟨hkeep _ _ h.root, ?_, ?_, ?_, ?_, ?_, ?_, ?_⟩
  · intro i i' p h1 h2
    rcases hold i p h1 with ⟨l1, q1⟩ | ⟨e1, q1⟩ <;> rcases hold i' p h2 with ⟨l2, q2⟩ | ⟨e2, q2⟩
    · exact h.inj _ _ _ q1 q2
    · exact absurd (q2 ▸ q1) (hfresh i)
    · exact absurd (q1 ▸ q2) (hfresh i')
    · omega
  · intro st' b' t n v h1 h2 h3 h4
    rw [hw st' b' h2] at h3
    split at h3
    · rename_i hc
      obtain ⟨rfl, rfl⟩ := hc
      obtain rfl : t = ps.length := by omega
      rcases hold _ _ h1 with ⟨l1, q1⟩ | ⟨e1, q1⟩
      · rw [hs, Option.some.injEq] at q1
        rw [hnew, hpn, q1]
        have : n = j := by have := congrArg Prod.fst q1; simp only [pre] at this; omega
        rw [this]
      · omega
    · split at h3
      · omega
      · rename_i hne
        rcases hold _ _ h1 with ⟨l1, q1⟩ | ⟨e1, q1⟩
        · exact hkeep _ _ (h.down st' b' t n v q1 h2 h3 h4)
        · exact absurd e1 hne
  · intro st' b' n v h1 h2 h3
    rw [hw st' b' h2] at h3 ⊢
    split at h3
    · omega
    · rename_i hc
      rw [if_neg hc]
      split at h3
      · omega
      · rename_i hne
        rw [if_neg hne]
        rcases hold _ _ h1 with ⟨l1, q1⟩ | ⟨e1, q1⟩
        · exact h.leaf st' b' n v q1 h2 h3
        · exact absurd e1 hne
  · intro s j' h1 h2
    obtain ⟨st', h3⟩ := h.have_ s j' h1 h2
    exact ⟨st', hkeep _ _ h3⟩
  · intro s st' h1 h2 h3
    rcases hold _ _ h3 with ⟨l1, q1⟩ | ⟨e1, q1⟩
    · have h4 := h.ends s st' h1 h2 q1
      rw [hw _ _ (Nat.mod_lt _ (by omega)), if_neg, if_neg (by omega)]
      · exact h4
      · rintro ⟨rfl, e⟩
        rw [e, h0] at h4
        omega
    · obtain ⟨st2, h5⟩ := h.have_ s (l s - 1) h1 (by omega)
      exact absurd (q1 ▸ h5) (hfresh st2)
  · intro st' p h1 h2
    rcases hold _ _ h1 with ⟨l1, q1⟩ | ⟨e1, q1⟩
    · exact h.of_ st' p q1 h2
    · exact ⟨k, j + 1, by omega, by omega, hj, q1⟩
  · intro t p h1 h2
    rcases hold _ _ h1 with ⟨l1, q1⟩ | ⟨e1, q1⟩
    · obtain ⟨st', b', n, v, h3, h4, h5⟩ := h.up t p q1 h2
      refine ⟨st', b', n, v, hkeep _ _ h3, h4, ?_⟩
      rw [hw _ _ h4, if_neg, if_neg]
      · exact h5
      · have := (List.getElem?_eq_some_iff.1 h3).1; omega
      · rintro ⟨rfl, rfl⟩
        omega
    · subst e1
      exact ⟨st, b, _, _, hkeep _ _ hs, hb2, by rw [hw _ _ hb2, if_pos ⟨rfl, rfl⟩]⟩
/-- The code's end. -/
theorem Tree.close {l c : Nat → Nat} {k N : Nat} {ps : List (Nat × Nat)} {way way' : Nat → Nat → Int} (h : Tree l c k ps way) (ha : Apart l c N) (hk : k < N) {st : Nat} (hl : 0 < l k) (hs : ps[st]? = some (pre (l k) (c k) (l k - 1))) (hall : ∀ j, j < l k → ∃ st : Nat, ps[st]? = some (pre (l k) (c k) j))
    (hw : ∀ st' b', b' < 2 → way' st' b' = if st' = st ∧ b' = c k % 2 then -(k : Int) - 1 else way st' b') : Tree l c (k + 1) ps way' := by
  have hnext := pre_next (L := l k) (C := c k) (j := l k - 1) (by omega)
  rw [show l k - 1 + 1 = l k by omega, pre_all, Nat.sub_self, Nat.pow_zero, Nat.div_one] at hnext
  simp only at hnext
  have hb2 : c k % 2 < 2 := Nat.mod_lt _ (by omega)
  have hz : way st (c k % 2) = 0 := by
    have h1 := h.no_leaf ha hk hs (by omega)
    rw [show l k - 1 + 1 = l k by omega, Nat.sub_self, Nat.pow_zero, Nat.div_one] at h1
    rcases Int.lt_or_eq_of_le h1 with h2 | h2
    · exfalso
      obtain ⟨t, ht⟩ := Int.eq_ofNat_of_zero_le h1
      have h3 := h.down st _ t _ _ hs hb2 ht (by omega)
      obtain ⟨s, j, q1, q2, q3, q4⟩ := h.of_ t _ h3 (by omega)
      have e1 : j = l k := by
        have := congrArg Prod.fst q4
        simp only [pre] at this
        omega
      subst e1
      have e2 := congrArg Prod.snd q4
      simp only at e2
      have hne : k ≠ s := by rintro rfl; omega
      refine ha k s hk (by omega) hne hl (by omega) ?_
      rw [← e2]
      simp only [pre] at hnext
      omega
    · exact h2.symm
  refine ⟨h.root, h.inj, ?_, ?_, ?_, ?_, ?_, ?_⟩
  · intro st' b' t n v h1 h2 h3 h4
    rw [hw _ _ h2] at h3
    split at h3
    · omega
    · exact h.down st' b' t n v h1 h2 h3 h4
  · intro st' b' n v h1 h2 h3
    rw [hw _ _ h2] at h3 ⊢
    split at h3
    · rename_i hc
      rw [if_pos hc]
      obtain ⟨rfl, rfl⟩ := hc
      rw [hs, Option.some.injEq] at h1
      refine ⟨k, by omega, rfl, ?_, ?_⟩
      · have := congrArg Prod.fst h1
        simp only [pre] at this
        omega
      · have := congrArg Prod.snd h1
        simp only at this
        omega
    · rename_i hc
      rw [if_neg hc]
      obtain ⟨s, q⟩ := h.leaf st' b' n v h1 h2 h3
      exact ⟨s, by omega, q.2⟩
  · intro s j h1 h2
    rcases Nat.lt_or_ge s k with h3 | h3
    · exact h.have_ s j h3 h2
    · obtain rfl : s = k := by omega
      exact hall j h2
  · intro s st' h1 h2 h3
    rcases Nat.lt_or_ge s k with h4 | h4
    · have h5 := h.ends s st' h4 h2 h3
      rw [hw _ _ (Nat.mod_lt _ (by omega)), if_neg]
      · exact h5
      · rintro ⟨rfl, e⟩
        rw [e, hz] at h5
        omega
    · obtain rfl : s = k := by omega
      have := h.inj _ _ _ h3 hs
      subst this
      rw [hw _ _ hb2, if_pos ⟨rfl, rfl⟩]
  · intro st' p h1 h2
    obtain ⟨s, j, q⟩ := h.of_ st' p h1 h2
    exact ⟨s, j, by omega, q.2⟩
  · intro t p h1 h2
    obtain ⟨st', b', n, v, h3, h4, h5⟩ := h.up t p h1 h2
    refine ⟨st', b', n, v, h3, h4, ?_⟩
    rw [hw _ _ h4, if_neg]
    · exact h5
    · rintro ⟨rfl, rfl⟩
      omega
end Go.Proofs.Ytoiknbbimgeihaa.Trie
