/- The sorted places of bytes; how far back the same three stood; copies and tokens, as plain data. -/
import Derived.Test.YtaandnikamnbbaaPA
namespace Go.Proofs.Ytaandnikamnbbaa.Lz

/-- The byte k behind a place. -/
def keyAt (ys : List Nat) (k p : Nat) : Nat := (ys.drop (min k ys.length)).getD p 0
theorem keyAt_eq (ys : List Nat) (k p : Nat) : keyAt ys k p = ys.getD (min k ys.length + p) 0 := by
  unfold keyAt
  rw [List.getD_eq_getElem?_getD, List.getElem?_drop, List.getD_eq_getElem?_getD]
theorem keyAt_lt {ys : List Nat} (hy : ∀ y ∈ ys, y < 256) (k p : Nat) : keyAt ys k p < 256 := by
  rw [keyAt_eq, List.getD_eq_getElem?_getD]
  cases hz : ys[min k ys.length + p]? with
  | none => simp
  | some z => exact hy z (List.mem_of_getElem? hz)
def stage (ys : List Nat) : Nat → List Nat
  | 0 => List.range (ys.length - 2)
  | t + 1 => byKey (keyAt ys (2 - t)) (stage ys t)
theorem mem_stage {ys : List Nat} (hy : ∀ y ∈ ys, y < 256) (t p : Nat) : p ∈ stage ys t ↔ p < ys.length - 2 := by
  induction t with
  | zero => simp [stage]
  | succ t ih => rw [stage, mem_byKey _ _ (fun p _ => keyAt_lt hy _ p), ih]
theorem stage_length {ys : List Nat} (hy : ∀ y ∈ ys, y < 256) (t : Nat) : (stage ys t).length = ys.length - 2 := by
  induction t with
  | zero => simp [stage]
  | succ t ih => rw [stage, byKey_length _ _ (fun p _ => keyAt_lt hy _ p), ih]
/-- Do the same three bytes stand at both places? -/
def same3 (ys : List Nat) (p q : Nat) : Bool := ys.getD p 0 == ys.getD q 0 && ys.getD (p + 1) 0 == ys.getD (q + 1) 0 && ys.getD (p + 2) 0 == ys.getD (q + 2) 0
theorem same3_iff (ys : List Nat) (p q : Nat) : same3 ys p q = true ↔ ys.getD p 0 = ys.getD q 0 ∧ ys.getD (p + 1) 0 = ys.getD (q + 1) 0 ∧ ys.getD (p + 2) 0 = ys.getD (q + 2) 0 := by
  unfold same3
  simp [and_assoc]
/-- Ahead by the three bytes, then by place. -/
def Lex (ys : List Nat) (a b : Nat) : Prop :=
  ys.getD a 0 < ys.getD b 0 ∨ (ys.getD a 0 = ys.getD b 0 ∧ (ys.getD (a + 1) 0 < ys.getD (b + 1) 0 ∨ (ys.getD (a + 1) 0 = ys.getD (b + 1) 0 ∧ (ys.getD (a + 2) 0 < ys.getD (b + 2) 0 ∨ (ys.getD (a + 2) 0 = ys.getD (b + 2) 0 ∧ a < b)))))
theorem stage_order {ys : List Nat} (hy : ∀ y ∈ ys, y < 256) (hn : 2 ≤ ys.length) : (stage ys 3).Pairwise (Lex ys) := by
  have h0 : (stage ys 0).Pairwise (fun a b => a < b) := List.pairwise_lt_range
  have h1 := byKey_order (keyAt ys 2) _ h0
  have h2 := byKey_order (keyAt ys 1) _ h1
  have h3 := byKey_order (keyAt ys 0) _ h2
  have k : ∀ k, k ≤ 2 → ∀ p, keyAt ys k p = ys.getD (p + k) 0 := fun k hk p => by rw [keyAt_eq, Nat.min_eq_left (by omega), Nat.add_comm]
  refine List.Pairwise.imp ?_ h3
  intro a b h
  rw [k 0 (by omega), k 0 (by omega), k 1 (by omega), k 1 (by omega), k 2 (by omega), k 2 (by omega)] at h
  simpa [Lex] using h
/-- What stands just ahead of a place among the sorted ones, if the same three bytes stood ahead of it. -/
theorem stage_ahead {ys : List Nat} (hy : ∀ y ∈ ys, y < 256) {p q : Nat} (hq : q + 2 < ys.length) (hp : p < q) (hs : same3 ys p q = true) :
    ∃ i r, (stage ys 3)[i + 1]? = some q ∧ (stage ys 3)[i]? = some r ∧ same3 ys r q = true ∧ p ≤ r ∧ r < q := by
  have ho := stage_order hy (show 2 ≤ ys.length by omega)
  have mq : q ∈ stage ys 3 := (mem_stage hy 3 q).2 (by omega)
  have mp : p ∈ stage ys 3 := (mem_stage hy 3 p).2 (by omega)
  obtain ⟨j, hj⟩ := List.getElem?_of_mem mq
  obtain ⟨i, hi⟩ := List.getElem?_of_mem mp
  generalize stage ys 3 = S at *
  have hlt := List.pairwise_iff_getElem.1 ho
  obtain ⟨hjl, ej⟩ := List.getElem?_eq_some_iff.1 hj
  obtain ⟨hil, ei⟩ := List.getElem?_eq_some_iff.1 hi
  rw [same3_iff] at hs
  have hij : i < j := by
    rcases Nat.lt_trichotomy i j with h | h | h
    · exact h
    · subst h; rw [hi] at hj; cases hj; omega
    · have := hlt j i hjl hil h
      rw [ej, ei] at this
      unfold Lex at this
      omega
  obtain ⟨k, rfl⟩ : ∃ k, j = k + 1 := ⟨j - 1, by omega⟩
  have hkl : k < S.length := by omega
  refine ⟨k, S[k], hj, List.getElem?_eq_getElem hkl, ?_⟩
  have h1 := hlt k (k + 1) hkl hjl (by omega)
  rw [ej] at h1
  rw [same3_iff]
  by_cases hik : i = k
  · subst hik
    rw [ei]
    exact ⟨hs, Nat.le_refl _, hp⟩
  · have h2 := hlt i k hil hkl (by omega)
    rw [ei] at h2
    unfold Lex at h1 h2
    generalize S[k] = r at *
    omega

/-- How far back the same three bytes stood last, as the sorted places tell. -/
def backsTo (ys S : List Nat) : Nat → List Nat
  | 0 => List.replicate ys.length 0
  | i + 1 => if i = 0 then backsTo ys S i else if same3 ys (S.getD (i - 1) 0) (S.getD i 0) = true then (backsTo ys S i).set (S.getD i 0) (S.getD i 0 - S.getD (i - 1) 0) else backsTo ys S i
def backs (ys : List Nat) : List Nat := backsTo ys (stage ys 3) (stage ys 3).length
theorem backsTo_length (ys S : List Nat) (i : Nat) : (backsTo ys S i).length = ys.length := by
  induction i with
  | zero => simp [backsTo]
  | succ i ih =>
    rw [backsTo]
    split
    · exact ih
    · split
      · rw [List.length_set, ih]
      · exact ih
theorem backs_length (ys : List Nat) : (backs ys).length = ys.length := backsTo_length _ _ _
theorem getD_set {l : List Nat} (i j z : Nat) : (l.set i z).getD j 0 = if j = i ∧ i < l.length then z else l.getD j 0 := by
  rw [List.getD_eq_getElem?_getD, List.getD_eq_getElem?_getD]
  by_cases h : j = i
  · subst h
    by_cases h2 : j < l.length
    · rw [List.getElem?_set_self h2, if_pos ⟨rfl, h2⟩]; rfl
    · rw [if_neg (by omega), List.getElem?_eq_none (by rw [List.length_set]; omega), List.getElem?_eq_none (by omega)]
  · rw [List.getElem?_set_ne (fun e => h e.symm), if_neg (fun e => h e.1)]
/-- What is told of a place. -/
def Good (ys : List Nat) (t z : Nat) : Prop := z = 0 ∨ (z ≤ t ∧ 0 < z ∧ t + 2 < ys.length ∧ same3 ys (t - z) t = true)
theorem stage_get {ys : List Nat} (hy : ∀ y ∈ ys, y < 256) {i : Nat} (hi : i < (stage ys 3).length) : (stage ys 3)[i]? = some ((stage ys 3).getD i 0) ∧ (stage ys 3).getD i 0 + 2 < ys.length := by
  have h1 : (stage ys 3)[i]? = some ((stage ys 3).getD i 0) := by rw [List.getD_eq_getElem?_getD, List.getElem?_eq_getElem hi]; rfl
  have := (mem_stage hy 3 _).1 (List.mem_of_getElem? h1)
  exact ⟨h1, by omega⟩
theorem stage_lt {ys : List Nat} (hy : ∀ y ∈ ys, y < 256) {i : Nat} (hi : i + 1 < (stage ys 3).length) (hs : same3 ys ((stage ys 3).getD i 0) ((stage ys 3).getD (i + 1) 0) = true) : (stage ys 3).getD i 0 < (stage ys 3).getD (i + 1) 0 := by
  have hn : 2 ≤ ys.length := by have := stage_length hy 3; omega
  have ho := List.pairwise_iff_getElem.1 (stage_order hy hn) i (i + 1) (by omega) hi (by omega)
  have e1 : (stage ys 3)[i] = (stage ys 3).getD i 0 := by rw [List.getD_eq_getElem?_getD, List.getElem?_eq_getElem (by omega)]; rfl
  have e2 : (stage ys 3)[i + 1] = (stage ys 3).getD (i + 1) 0 := by rw [List.getD_eq_getElem?_getD, List.getElem?_eq_getElem hi]; rfl
  rw [e1, e2] at ho
  rw [same3_iff] at hs
  unfold Lex at ho
  omega
theorem backsTo_good {ys : List Nat} (hy : ∀ y ∈ ys, y < 256) (i : Nat) (hi : i ≤ (stage ys 3).length) (t : Nat) : Good ys t ((backsTo ys (stage ys 3) i).getD t 0) := by
  induction i with
  | zero =>
    left
    rw [backsTo, List.getD_eq_getElem?_getD]
    by_cases h : t < ys.length
    · rw [List.getElem?_replicate, if_pos h]; rfl
    · rw [List.getElem?_replicate, if_neg h]; rfl
  | succ i ih =>
    rw [backsTo]
    split
    · exact ih (by omega)
    · rename_i h0
      split
      · rename_i hs
        rw [getD_set]
        split
        · rename_i ht
          obtain ⟨j, rfl⟩ : ∃ j, i = j + 1 := ⟨i - 1, by omega⟩
          rw [Nat.add_sub_cancel] at hs ⊢
          have hl := stage_lt hy (by omega) hs
          have hg := stage_get hy (show j + 1 < (stage ys 3).length by omega)
          rw [ht.1]
          generalize (stage ys 3).getD j 0 = a at *
          generalize (stage ys 3).getD (j + 1) 0 = b at *
          exact Or.inr ⟨by omega, by omega, hg.2, by rw [show b - (b - a) = a by omega]; exact hs⟩
        · exact ih (by omega)
      · exact ih (by omega)
theorem backs_good {ys : List Nat} (hy : ∀ y ∈ ys, y < 256) (t : Nat) : Good ys t ((backs ys).getD t 0) := backsTo_good hy _ (Nat.le_refl _) t
theorem lex_irrefl (ys : List Nat) (a : Nat) : ¬ Lex ys a a := by unfold Lex; omega
theorem getD_of {S : List Nat} {i : Nat} (h : i < S.length) : S[i] = S.getD i 0 := by rw [List.getD_eq_getElem?_getD, List.getElem?_eq_getElem h]; rfl
theorem apart_of {ys S : List Nat} (h : S.Pairwise (Lex ys)) (i j : Nat) (hij : i < j) (hj : j < S.length) : S.getD i 0 ≠ S.getD j 0 := by
  have ho := List.pairwise_iff_getElem.1 h i j (by omega) hj hij
  rw [getD_of, getD_of] at ho
  intro e
  rw [e] at ho
  exact lex_irrefl ys _ ho
theorem stage_apart {ys : List Nat} (hy : ∀ y ∈ ys, y < 256) (hn : 2 ≤ ys.length) : ∀ i j, i < j → j < (stage ys 3).length → (stage ys 3).getD i 0 ≠ (stage ys 3).getD j 0 := apart_of (stage_order hy hn)
theorem backsTo_keep (ys S : List Nat) (hn : ∀ i j, i < j → j < S.length → S.getD i 0 ≠ S.getD j 0) (i : Nat) (m : Nat) (hi : i + 1 + m ≤ S.length) : (backsTo ys S (i + 1 + m)).getD (S.getD i 0) 0 = (backsTo ys S (i + 1)).getD (S.getD i 0) 0 := by
  induction m with
  | zero => rfl
  | succ m ih =>
    have hne := hn i (i + 1 + m) (by omega) (by omega)
    rw [← Nat.add_assoc, backsTo, if_neg (by omega)]
    split
    · rw [getD_set, if_neg (fun h => hne h.1)]
      exact ih (by omega)
    · exact ih (by omega)
/-- Where the same three bytes stood, it is told. -/
theorem backs_pos {ys : List Nat} (hy : ∀ y ∈ ys, y < 256) {p q : Nat} (hq : q + 2 < ys.length) (hp : p < q) (hs : same3 ys p q = true) : 0 < (backs ys).getD q 0 ∧ (backs ys).getD q 0 ≤ q - p := by
  obtain ⟨i, r, h1, h2, h3, h4, h5⟩ := stage_ahead hy hq hp hs
  have hil : i + 1 < (stage ys 3).length := (List.getElem?_eq_some_iff.1 h1).1
  have e1 : (stage ys 3).getD (i + 1) 0 = q := by rw [List.getD_eq_getElem?_getD, h1]; rfl
  have e2 : (stage ys 3).getD i 0 = r := by rw [List.getD_eq_getElem?_getD, h2]; rfl
  have hk := backsTo_keep ys (stage ys 3) (stage_apart hy (by omega)) (i + 1) ((stage ys 3).length - (i + 2)) (by omega)
  rw [show i + 1 + 1 + ((stage ys 3).length - (i + 2)) = (stage ys 3).length by omega, e1] at hk
  unfold backs
  rw [hk, backsTo, if_neg (by omega), Nat.add_sub_cancel, e1, e2, if_pos h3, getD_set, if_pos ⟨rfl, by rw [backsTo_length]; omega⟩]
  omega
end Go.Proofs.Ytaandnikamnbbaa.Lz
