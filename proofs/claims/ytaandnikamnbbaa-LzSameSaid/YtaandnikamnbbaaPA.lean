/- Places sorted by bytes, as plain data. -/
namespace Go.Proofs.Ytaandnikamnbbaa.Lz

/-- The places whose key is x, in their order. -/
def ofKey (key : Nat → Nat) (ps : List Nat) (x : Nat) : List Nat := ps.filter (fun p => key p == x)
/-- How many have a key below x. -/
def below (key : Nat → Nat) (ps : List Nat) (x : Nat) : Nat := (ps.filter (fun p => decide (key p < x))).length
/-- All whose keys are below x, by their keys. -/
def upTo (key : Nat → Nat) (ps : List Nat) : Nat → List Nat
  | 0 => []
  | x + 1 => upTo key ps x ++ ofKey key ps x
def byKey (key : Nat → Nat) (ps : List Nat) : List Nat := upTo key ps 256

theorem below_zero (key : Nat → Nat) (ps : List Nat) : below key ps 0 = 0 := by simp [below]
theorem below_succ (key : Nat → Nat) (ps : List Nat) (x : Nat) : below key ps (x + 1) = below key ps x + (ofKey key ps x).length := by
  unfold below ofKey
  induction ps with
  | nil => rfl
  | cons p ps ih =>
    by_cases h1 : key p < x
    · rw [List.filter_cons_of_pos (by simp; omega), List.filter_cons_of_pos (by simp; omega), List.filter_cons_of_neg (by simp; omega), List.length_cons, List.length_cons]
      omega
    · by_cases h2 : key p = x
      · rw [List.filter_cons_of_pos (by simp; omega), List.filter_cons_of_neg (by simp; omega), List.filter_cons_of_pos (by simp; omega), List.length_cons, List.length_cons]
        omega
      · rw [List.filter_cons_of_neg (by simp; omega), List.filter_cons_of_neg (by simp; omega), List.filter_cons_of_neg (by simp; omega)]
        exact ih
theorem below_all (key : Nat → Nat) (ps : List Nat) (h : ∀ p ∈ ps, key p < 256) : below key ps 256 = ps.length := by
  unfold below
  rw [List.filter_eq_self.2 (fun p hp => by simpa using h p hp)]
theorem below_mono (key : Nat → Nat) (ps : List Nat) {x y : Nat} (h : x < y) : below key ps x + (ofKey key ps x).length ≤ below key ps y := by
  obtain ⟨d, rfl⟩ := Nat.exists_eq_add_of_lt h
  induction d with
  | zero => rw [Nat.add_zero, below_succ]; exact Nat.le_refl _
  | succ d ih =>
    rw [show x + (d + 1) + 1 = (x + d + 1) + 1 by omega, below_succ key ps (x + d + 1)]
    have := ih (by omega)
    omega
theorem below_le (key : Nat → Nat) (ps : List Nat) (h : ∀ p ∈ ps, key p < 256) {x : Nat} (hx : x < 256) : below key ps x + (ofKey key ps x).length ≤ ps.length := by
  rw [← below_all key ps h]
  exact below_mono key ps hx
theorem upTo_length (key : Nat → Nat) (ps : List Nat) (x : Nat) : (upTo key ps x).length = below key ps x := by
  induction x with
  | zero => rw [below_zero]; rfl
  | succ x ih => rw [upTo, List.length_append, ih, below_succ]
theorem byKey_length (key : Nat → Nat) (ps : List Nat) (h : ∀ p ∈ ps, key p < 256) : (byKey key ps).length = ps.length := by
  unfold byKey
  rw [upTo_length, below_all key ps h]
theorem upTo_at (key : Nat → Nat) (ps : List Nat) {x r : Nat} (hr : r < (ofKey key ps x).length) (m : Nat) (hm : x < m) : (upTo key ps m)[below key ps x + r]? = (ofKey key ps x)[r]? := by
  obtain ⟨d, rfl⟩ := Nat.exists_eq_add_of_lt hm
  induction d with
  | zero => rw [Nat.add_zero, upTo, List.getElem?_append_right (by rw [upTo_length]; omega), upTo_length, Nat.add_sub_cancel_left]
  | succ d ih =>
    rw [show x + (d + 1) + 1 = (x + d + 1) + 1 by omega, upTo, List.getElem?_append_left (by
      rw [upTo_length]
      have := below_mono key ps (show x < x + d + 1 by omega)
      omega)]
    exact ih (by omega)
theorem upTo_place (key : Nat → Nat) (ps : List Nat) (m t : Nat) (ht : t < below key ps m) : ∃ x r, x < m ∧ r < (ofKey key ps x).length ∧ t = below key ps x + r := by
  induction m with
  | zero => rw [below_zero] at ht; omega
  | succ m ih =>
    rw [below_succ] at ht
    by_cases h : t < below key ps m
    · obtain ⟨x, r, h1, h2, h3⟩ := ih h
      exact ⟨x, r, by omega, h2, h3⟩
    · exact ⟨m, t - below key ps m, by omega, by omega, by omega⟩
theorem mem_upTo (key : Nat → Nat) (ps : List Nat) (m p : Nat) : p ∈ upTo key ps m ↔ p ∈ ps ∧ key p < m := by
  induction m with
  | zero => simp [upTo]
  | succ m ih =>
    rw [upTo, List.mem_append, ih]
    unfold ofKey
    rw [List.mem_filter, beq_iff_eq]
    constructor
    · rintro (⟨h1, h2⟩ | ⟨h1, h2⟩)
      · exact ⟨h1, by omega⟩
      · exact ⟨h1, by omega⟩
    · rintro ⟨h1, h2⟩
      by_cases h : key p = m
      · exact Or.inr ⟨h1, h⟩
      · exact Or.inl ⟨h1, by omega⟩
theorem mem_byKey (key : Nat → Nat) (ps : List Nat) (h : ∀ p ∈ ps, key p < 256) (p : Nat) : p ∈ byKey key ps ↔ p ∈ ps := by
  unfold byKey
  rw [mem_upTo]
  exact ⟨fun h => h.1, fun hp => ⟨hp, h p hp⟩⟩
theorem byKey_order {R : Nat → Nat → Prop} (key : Nat → Nat) (ps : List Nat) (h : ps.Pairwise R) : (byKey key ps).Pairwise (fun a b => key a < key b ∨ (key a = key b ∧ R a b)) := by
  unfold byKey
  generalize 256 = m
  induction m with
  | zero => exact List.Pairwise.nil
  | succ m ih =>
    rw [upTo, List.pairwise_append]
    refine ⟨ih, ?_, ?_⟩
    · have h2 : (ofKey key ps m).Pairwise R := h.filter _
      refine h2.imp_of_mem (fun {a b} ha hb hr => ?_)
      unfold ofKey at ha hb
      rw [List.mem_filter, beq_iff_eq] at ha hb
      exact Or.inr ⟨by omega, hr⟩
    · intro a ha b hb
      have h1 := ((mem_upTo key ps m a).1 ha).2
      unfold ofKey at hb
      rw [List.mem_filter, beq_iff_eq] at hb
      exact Or.inl (by omega)

/-- What one more place changes. -/
theorem ofKey_snoc (key : Nat → Nat) (ps : List Nat) (p x : Nat) : ofKey key (ps ++ [p]) x = ofKey key ps x ++ (if key p = x then [p] else []) := by
  unfold ofKey
  rw [List.filter_append]
  congr 1
  by_cases h : key p = x
  · rw [if_pos h, List.filter_cons_of_pos (by simpa using h)]; rfl
  · rw [if_neg h, List.filter_cons_of_neg (by simpa using h)]; rfl
theorem take_snoc {ps : List Nat} {i p : Nat} (h : ps[i]? = some p) : ps.take (i + 1) = ps.take i ++ [p] := by
  rw [List.take_add_one, h]; rfl
/-- The next place of a key. -/
theorem ofKey_next (key : Nat → Nat) {ps : List Nat} {i p : Nat} (h : ps[i]? = some p) : (ofKey key ps (key p))[(ofKey key (ps.take i) (key p)).length]? = some p ∧ (ofKey key (ps.take i) (key p)).length < (ofKey key ps (key p)).length := by
  obtain ⟨hl, e⟩ := List.getElem?_eq_some_iff.1 h
  have hs : ps = ps.take i ++ p :: ps.drop (i + 1) := by
    conv => lhs; rw [← List.take_append_drop i ps, List.drop_eq_getElem_cons hl, e]
  have hf : ofKey key ps (key p) = ofKey key (ps.take i) (key p) ++ p :: ofKey key (ps.drop (i + 1)) (key p) := by
    conv => lhs; rw [hs]
    unfold ofKey
    rw [List.filter_append, List.filter_cons_of_pos (by simp)]
  rw [hf]
  refine ⟨by rw [List.getElem?_append_right (Nat.le_refl _), Nat.sub_self]; rfl, by rw [List.length_append, List.length_cons]; omega⟩
theorem ofKey_take_le (key : Nat → Nat) (ps : List Nat) (i x : Nat) : (ofKey key (ps.take i) x).length ≤ (ofKey key ps x).length := by
  unfold ofKey
  exact ((List.take_sublist i ps).filter _).length_le
end Go.Proofs.Ytaandnikamnbbaa.Lz
