/- Two rising rows merged, how many of the first things are of the first row; the packages' rows made so; how often each symbol is bought. No program in it. -/
import Derived.Test.YtoiknbbimgeihaaPG
namespace Go.Proofs.Ytoiknbbimgeihaa.Huff
set_option linter.unusedVariables false

/-- Two rows as one, of the first row first. -/
def mix {α : Type} (f : α → Nat) : List α → List α → List α
  | [], bs => bs
  | as, [] => as
  | a :: as, b :: bs => if f a ≤ f b then a :: mix f as (b :: bs) else b :: mix f (a :: as) bs
termination_by as bs => as.length + bs.length
/-- How many of the first t things are of the first row. -/
def cnt : List Nat → List Nat → Nat → Nat
  | _, _, 0 => 0
  | [], _, _ + 1 => 0
  | _ :: as, [], t + 1 => cnt as [] t + 1
  | a :: as, b :: bs, t + 1 => if a ≤ b then cnt as (b :: bs) t + 1 else cnt (a :: as) bs t
termination_by _ _ t => t

theorem mix_nil {α : Type} (f : α → Nat) (as : List α) : mix f as [] = as := by cases as <;> simp [mix]
theorem mix_nil_left {α : Type} (f : α → Nat) (bs : List α) : mix f [] bs = bs := by simp [mix]
theorem mix_cons {α : Type} (f : α → Nat) (a : α) (as : List α) (b : α) (bs : List α) : mix f (a :: as) (b :: bs) = if f a ≤ f b then a :: mix f as (b :: bs) else b :: mix f (a :: as) bs := by rw [mix]
theorem cnt_zero (as bs : List Nat) : cnt as bs 0 = 0 := by cases as <;> cases bs <;> simp [cnt]
theorem cnt_nil (bs : List Nat) (t : Nat) : cnt [] bs t = 0 := by cases t <;> simp [cnt]
theorem cnt_one (a : Nat) (as : List Nat) (t : Nat) : cnt (a :: as) [] (t + 1) = cnt as [] t + 1 := by rw [cnt]
theorem cnt_cons (a : Nat) (as : List Nat) (b : Nat) (bs : List Nat) (t : Nat) : cnt (a :: as) (b :: bs) (t + 1) = if a ≤ b then cnt as (b :: bs) t + 1 else cnt (a :: as) bs t := by rw [cnt]

theorem mix_map {α : Type} (f : α → Nat) (as bs : List α) : (mix f as bs).map f = mix id (as.map f) (bs.map f) := by
  match as, bs with
  | [], bs => simp [mix_nil_left]
  | a :: as, [] => simp [mix_nil]
  | a :: as, b :: bs =>
    rw [mix_cons, List.map_cons, List.map_cons, mix_cons]
    simp only [id]
    by_cases h : f a ≤ f b
    · rw [if_pos h, if_pos h, List.map_cons, mix_map f as (b :: bs), List.map_cons]
    · rw [if_neg h, if_neg h, List.map_cons, mix_map f (a :: as) bs, List.map_cons]
termination_by as.length + bs.length
theorem mix_perm {α : Type} (f : α → Nat) (as bs : List α) : (mix f as bs).Perm (as ++ bs) := by
  match as, bs with
  | [], bs => rw [mix_nil_left]; exact List.Perm.refl _
  | a :: as, [] => rw [mix_nil, List.append_nil]
  | a :: as, b :: bs =>
    rw [mix_cons]
    by_cases h : f a ≤ f b
    · rw [if_pos h]
      exact (List.perm_cons a).2 (mix_perm f as (b :: bs))
    · rw [if_neg h]
      exact ((List.perm_cons b).2 (mix_perm f (a :: as) bs)).trans List.perm_middle.symm
termination_by as.length + bs.length
theorem mix_length {α : Type} (f : α → Nat) (as bs : List α) : (mix f as bs).length = as.length + bs.length := by rw [(mix_perm f as bs).length_eq, List.length_append]
theorem mix_sorted (as bs : List Nat) (ha : as.Pairwise (· ≤ ·)) (hb : bs.Pairwise (· ≤ ·)) : (mix id as bs).Pairwise (· ≤ ·) := by
  match as, bs with
  | [], bs => rw [mix_nil_left]; exact hb
  | a :: as, [] => rw [mix_nil]; exact ha
  | a :: as, b :: bs =>
    rw [List.pairwise_cons] at ha hb
    rw [mix_cons]
    simp only [id]
    by_cases h : a ≤ b
    · rw [if_pos h, List.pairwise_cons]
      refine ⟨fun x hx => ?_, mix_sorted as (b :: bs) ha.2 (List.pairwise_cons.2 hb)⟩
      have := (mix_perm id as (b :: bs)).subset hx
      simp only [List.mem_append, List.mem_cons] at this
      rcases this with h1 | rfl | h1
      · exact ha.1 x h1
      · exact h
      · exact Nat.le_trans h (hb.1 x h1)
    · rw [if_neg h, List.pairwise_cons]
      refine ⟨fun x hx => ?_, mix_sorted (a :: as) bs (List.pairwise_cons.2 ha) hb.2⟩
      have := (mix_perm id (a :: as) bs).subset hx
      simp only [List.mem_append, List.mem_cons] at this
      rcases this with (rfl | h1) | h1
      · omega
      · have := ha.1 x h1; omega
      · exact hb.1 x h1
termination_by as.length + bs.length

/-- The first t things: so many of either row; and what is left is the rest of both, merged. -/
theorem mix_parts {α : Type} (f : α → Nat) (as bs : List α) (t : Nat) (ht : t ≤ as.length + bs.length) :
    cnt (as.map f) (bs.map f) t ≤ as.length ∧ cnt (as.map f) (bs.map f) t ≤ t ∧ t - cnt (as.map f) (bs.map f) t ≤ bs.length ∧
      ((mix f as bs).take t).Perm (as.take (cnt (as.map f) (bs.map f) t) ++ bs.take (t - cnt (as.map f) (bs.map f) t)) ∧
      (mix f as bs).drop t = mix f (as.drop (cnt (as.map f) (bs.map f) t)) (bs.drop (t - cnt (as.map f) (bs.map f) t)) ∧
      (∀ s, cnt (as.map f) (bs.map f) (t + s) = cnt (as.map f) (bs.map f) t + cnt ((as.drop (cnt (as.map f) (bs.map f) t)).map f) ((bs.drop (t - cnt (as.map f) (bs.map f) t)).map f) s) := by
  match t, as, bs with
  | 0, as, bs => simp [cnt_zero]
  | t + 1, [], bs => simp [cnt_nil, mix_nil_left] at ht ⊢; exact ht
  | t + 1, a :: as, [] =>
    obtain ⟨h1, h2, h3, h4, h5, h6⟩ := mix_parts f as [] t (by simp at ht ⊢; omega)
    simp only [List.map_cons, List.map_nil, cnt_one, mix_nil] at *
    refine ⟨by simp only [List.length_cons]; omega, by omega, by simp only [List.length_nil] at *; omega, ?_, ?_, ?_⟩
    · rw [List.take_succ_cons, List.take_succ_cons, List.cons_append, show t + 1 - (cnt (as.map f) [] t + 1) = t - cnt (as.map f) [] t by omega]
      exact (List.perm_cons a).2 h4
    · rw [List.drop_succ_cons, List.drop_succ_cons, show t + 1 - (cnt (as.map f) [] t + 1) = t - cnt (as.map f) [] t by omega]
      exact h5
    · intro s
      rw [show t + 1 + s = (t + s) + 1 by omega, cnt_one, List.drop_succ_cons, h6 s, show t + 1 - (cnt (as.map f) [] t + 1) = t - cnt (as.map f) [] t by omega]
      omega
  | t + 1, a :: as, b :: bs =>
    simp only [List.map_cons, cnt_cons, mix_cons]
    by_cases h : f a ≤ f b
    · obtain ⟨h1, h2, h3, h4, h5, h6⟩ := mix_parts f as (b :: bs) t (by simp at ht ⊢; omega)
      simp only [if_pos h]
      simp only [List.map_cons] at h1 h2 h3 h4 h5 h6
      have e : t + 1 - (cnt (as.map f) (f b :: bs.map f) t + 1) = t - cnt (as.map f) (f b :: bs.map f) t := by omega
      refine ⟨by simp only [List.length_cons]; omega, by omega, by rw [e]; exact h3, ?_, ?_, ?_⟩
      · rw [List.take_succ_cons, List.take_succ_cons, List.cons_append, e]
        exact (List.perm_cons a).2 h4
      · rw [List.drop_succ_cons, List.drop_succ_cons, e]
        exact h5
      · intro s
        rw [show t + 1 + s = (t + s) + 1 by omega, cnt_cons, if_pos h, List.drop_succ_cons, h6 s, e]
        omega
    · obtain ⟨h1, h2, h3, h4, h5, h6⟩ := mix_parts f (a :: as) bs t (by simp at ht ⊢; omega)
      simp only [if_neg h]
      simp only [List.map_cons] at h1 h2 h3 h4 h5 h6
      have e : t + 1 - cnt (f a :: as.map f) (bs.map f) t = (t - cnt (f a :: as.map f) (bs.map f) t) + 1 := by omega
      refine ⟨h1, by omega, by rw [e]; simp only [List.length_cons]; omega, ?_, ?_, ?_⟩
      · rw [List.take_succ_cons, e, List.take_succ_cons]
        exact ((List.perm_cons b).2 h4).trans List.perm_middle.symm
      · rw [List.drop_succ_cons, e, List.drop_succ_cons]
        exact h5
      · intro s
        rw [show t + 1 + s = (t + s) + 1 by omega, cnt_cons, if_neg h, h6 s, e, List.drop_succ_cons]
termination_by t

/-- The next thing. -/
theorem mix_next (as bs : List Nat) (t : Nat) (ht : t < as.length + bs.length) :
    let i := cnt as bs t
    i ≤ t ∧ i ≤ as.length ∧ t - i ≤ bs.length ∧
      ((t - i = bs.length ∨ (i < as.length ∧ as.getD i 0 ≤ bs.getD (t - i) 0)) → i < as.length ∧ cnt as bs (t + 1) = i + 1 ∧ (mix id as bs)[t]? = some (as.getD i 0)) ∧
      (¬ (t - i = bs.length ∨ (i < as.length ∧ as.getD i 0 ≤ bs.getD (t - i) 0)) → t - i < bs.length ∧ cnt as bs (t + 1) = i ∧ (mix id as bs)[t]? = some (bs.getD (t - i) 0)) := by
  obtain ⟨h1, h2, h3, h4, h5, h6⟩ := mix_parts id as bs t (by omega)
  simp only [List.map_id] at h1 h2 h3 h4 h5 h6
  intro i
  change i ≤ _ at h1
  change i ≤ _ at h2
  change t - i ≤ _ at h3
  change _ = mix id (as.drop i) (bs.drop (t - i)) at h5
  have h7 : cnt as bs (t + 1) = i + cnt (as.drop i) (bs.drop (t - i)) 1 := h6 1
  have h8 : (mix id as bs)[t]? = (mix id (as.drop i) (bs.drop (t - i)))[0]? := by rw [← h5, List.getElem?_drop]; rfl
  clear_value i
  refine ⟨h2, h1, h3, fun h => ?_, fun h => ?_⟩
  · have hi : i < as.length := by
      rcases h with h | h
      · omega
      · exact h.1
    have ha : as.drop i = as.getD i 0 :: as.drop (i + 1) := by
      rw [List.drop_eq_getElem_cons hi, List.getD_eq_getElem?_getD, List.getElem?_eq_getElem hi]; rfl
    refine ⟨hi, ?_⟩
    rw [h7, h8, ha]
    by_cases hb : t - i = bs.length
    · rw [hb, List.drop_length, mix_nil, cnt_one, cnt_zero]
      exact ⟨by omega, rfl⟩
    · have hbl : t - i < bs.length := by omega
      have hbd : bs.drop (t - i) = bs.getD (t - i) 0 :: bs.drop (t - i + 1) := by
        rw [List.drop_eq_getElem_cons hbl, List.getD_eq_getElem?_getD, List.getElem?_eq_getElem hbl]; rfl
      have hle : as.getD i 0 ≤ bs.getD (t - i) 0 := by
        rcases h with h | h
        · exact absurd h hb
        · exact h.2
      rw [hbd, mix_cons, cnt_cons]
      simp only [id, if_pos hle, cnt_zero]
      exact ⟨trivial, rfl⟩
  · have hbl : t - i < bs.length := by
      have : ¬ t - i = bs.length := fun e => h (Or.inl e)
      omega
    have hbd : bs.drop (t - i) = bs.getD (t - i) 0 :: bs.drop (t - i + 1) := by
      rw [List.drop_eq_getElem_cons hbl, List.getD_eq_getElem?_getD, List.getElem?_eq_getElem hbl]; rfl
    refine ⟨hbl, ?_⟩
    rw [h7, h8, hbd]
    by_cases hi : i < as.length
    · have ha : as.drop i = as.getD i 0 :: as.drop (i + 1) := by
        rw [List.drop_eq_getElem_cons hi, List.getD_eq_getElem?_getD, List.getElem?_eq_getElem hi]; rfl
      have hle : ¬ as.getD i 0 ≤ bs.getD (t - i) 0 := fun e => h (Or.inr ⟨hi, e⟩)
      rw [ha, mix_cons, cnt_cons]
      simp only [id, if_neg hle, cnt_zero]
      exact ⟨by omega, rfl⟩
    · rw [List.drop_eq_nil_of_le (by omega), mix_nil_left, cnt_nil]
      exact ⟨by omega, rfl⟩

theorem pairs_rise (a b : Nat) (l : List Nat) (k1 : ∀ y ∈ l, a ≤ y) (k2 : ∀ y ∈ l, b ≤ y) (x : Nat) (hx : x ∈ pairs l) : a + b ≤ x := by
  match l with
  | [] => simp [pairs] at hx
  | [_] => simp [pairs] at hx
  | c :: d :: l =>
    rw [pairs, List.mem_cons] at hx
    rcases hx with rfl | hx
    · have := k1 c (by simp); have := k2 d (by simp); omega
    · exact pairs_rise a b l (fun y hy => k1 y (by simp [hy])) (fun y hy => k2 y (by simp [hy])) x hx
theorem pairs_sorted (l : List Nat) (h : l.Pairwise (· ≤ ·)) : (pairs l).Pairwise (· ≤ ·) := by
  match l with
  | [] => simp [pairs]
  | [_] => simp [pairs]
  | a :: b :: l =>
    simp only [List.pairwise_cons] at h
    obtain ⟨h1, h2, h3⟩ := h
    rw [pairs, List.pairwise_cons]
    exact ⟨fun x hx => pairs_rise a b l (fun y hy => h1 y (by simp [hy])) (fun y hy => h2 y hy) x hx, pairs_sorted l h3⟩

/-- The rows of prices. -/
def rowP (ws : List Nat) : Nat → List Nat
  | 0 => []
  | j + 1 => mix id ws (pairs (rowP ws j))
/-- The rows of things. -/
def rowI (ws : List Nat) : Nat → List It
  | 0 => []
  | j + 1 => mix (weightOf ws) (coinsOf ws.length) (joinTwo (rowI ws j))
theorem rowI_prices (ws : List Nat) (j : Nat) : (rowI ws j).map (weightOf ws) = rowP ws j := by
  induction j with
  | zero => rfl
  | succ j ih => rw [rowI, rowP, mix_map, coins_weights, ← pairs_join, ih]
theorem rowP_sorted (ws : List Nat) (h : ws.Pairwise (· ≤ ·)) (j : Nat) : (rowP ws j).Pairwise (· ≤ ·) := by
  induction j with
  | zero => exact List.Pairwise.nil
  | succ j ih => exact mix_sorted _ _ h (pairs_sorted _ ih)
theorem rowI_rows (ws : List Nat) : RowsOf ws.length (rowI ws) := ⟨rfl, fun j => mix_perm _ _ _⟩
theorem rowI_length (ws : List Nat) (j : Nat) : (rowI ws j).length = (rowP ws j).length := by rw [← rowI_prices, List.length_map]

/-- How many of the symbols have a bit at each length, the shortest first. -/
def bought (ws : List Nat) : Nat → Nat → List Nat
  | 0, _ => []
  | j + 1, t => cnt ws (pairs (rowP ws j)) t :: bought ws j (2 * (t - cnt ws (pairs (rowP ws j)) t))

theorem flat_pairs (L : List It) (m : Nat) (h : 2 * m ≤ L.length) : flat ((joinTwo L).take m) = flat (L.take (2 * m)) := by
  match L, m with
  | _, 0 => simp [flat]
  | [], m + 1 => simp at h
  | [_], m + 1 => simp at h; omega
  | a :: b :: L, m + 1 =>
    have ih := flat_pairs L m (by simp at h; omega)
    rw [joinTwo, List.take_succ_cons, show 2 * (m + 1) = 2 * m + 1 + 1 by omega, List.take_succ_cons, List.take_succ_cons]
    unfold flat at *
    simp only [List.flatten_cons, ih, List.append_assoc]
theorem joinTwo_length (L : List It) : (joinTwo L).length = L.length / 2 := by
  match L with
  | [] => simp [joinTwo]
  | [_] => simp [joinTwo]
  | a :: b :: L =>
    have ih := joinTwo_length L
    simp only [joinTwo, List.length_cons, ih]
    omega
theorem coins_take (n c : Nat) (h : c ≤ n) : flat ((coinsOf n).take c) = List.range c := by
  have e : (coinsOf n).take c = coinsOf c := by
    unfold coinsOf
    rw [← List.map_take]
    congr 1
    rw [List.take_range]
    congr 1
    omega
  rw [e, flat_coins]
theorem count_range (c s : Nat) : (List.range c).count s = if s < c then 1 else 0 := by
  induction c with
  | zero => simp
  | succ c ih =>
    rw [List.range_succ, List.count_append, ih, List.count_singleton]
    by_cases h : s < c
    · have h3 : s < c + 1 := by omega
      have h4 : (c == s) = false := by simp; omega
      simp [h, h3, h4]
    · by_cases h2 : s = c
      · subst h2; simp
      · have h3 : ¬ s < c + 1 := by omega
        have h4 : (c == s) = false := by simp; omega
        simp [h, h3, h4]

/-- At each level: what is bought is within what there is. -/
theorem bought_at (ws : List Nat) (j t : Nat) (ht : t ≤ (rowP ws (j + 1)).length) :
    cnt ws (pairs (rowP ws j)) t ≤ ws.length ∧ cnt ws (pairs (rowP ws j)) t ≤ t ∧ 2 * (t - cnt ws (pairs (rowP ws j)) t) ≤ (rowP ws j).length := by
  have hl : t ≤ ws.length + (pairs (rowP ws j)).length := by rw [rowP, mix_length] at ht; exact ht
  obtain ⟨h1, h2, h3, -⟩ := mix_parts id ws (pairs (rowP ws j)) t hl
  simp only [List.map_id] at h1 h2 h3
  rw [pairs_length] at h3
  exact ⟨h1, h2, by omega⟩

theorem bought_counts (ws : List Nat) (j t s : Nat) (ht : t ≤ (rowP ws j).length) : (flat ((rowI ws j).take t)).count s = ((bought ws j t).filter (fun c => decide (s < c))).length := by
  induction j generalizing t with
  | zero => simp [rowI, bought, flat]
  | succ j ih =>
    obtain ⟨k1, k2, k3⟩ := bought_at ws j t ht
    have hl : t ≤ (coinsOf ws.length).length + (joinTwo (rowI ws j)).length := by
      rw [← rowI_length, rowI, mix_length] at ht; exact ht
    obtain ⟨-, -, -, h4, -, -⟩ := mix_parts (weightOf ws) (coinsOf ws.length) (joinTwo (rowI ws j)) t hl
    rw [coins_weights, ← pairs_join, rowI_prices] at h4
    rw [rowI, bought]
    generalize hc : cnt ws (pairs (rowP ws j)) t = c at *
    rw [count_perm (flat_perm h4), flat_append, List.count_append, coins_take _ _ k1, count_range, flat_pairs _ _ (by rw [rowI_length]; exact k3), ih _ k3, List.filter_cons]
    by_cases h : s < c
    · rw [if_pos h, if_pos (by simpa using h), List.length_cons]; omega
    · rw [if_neg h, if_neg (by simpa using h)]; omega

/-- THE LENGTHS THAT ARE BOUGHT COST LEAST. -/
theorem bought_best (ws : List Nat) (h2 : 2 ≤ ws.length) (hs : ws.Pairwise (· ≤ ·)) (most : Nat) (h1 : 1 ≤ most) (hn : ws.length ≤ 2 ^ most) :
    2 * ws.length - 2 ≤ (rowP ws most).length ∧
      May most ws ((List.range ws.length).map (fun s => ((bought ws most (2 * ws.length - 2)).filter (fun c => decide (s < c))).length)) ∧
      ∀ es, May most ws es → dot ws ((List.range ws.length).map (fun s => ((bought ws most (2 * ws.length - 2)).filter (fun c => decide (s < c))).length)) ≤ dot ws es := by
  have hr : ∀ j, ((rowI ws (j + 1)).map (weightOf ws)).Pairwise (· ≤ ·) := fun j => by rw [rowI_prices]; exact rowP_sorted ws hs _
  have B := fun es h => package_best ws h2 (rowI ws) (rowI_rows ws) hr most es h
  have b0 := B _ (may_some most ws.length ws rfl hn h1)
  have hl : 2 * ws.length - 2 ≤ (rowP ws most).length := by rw [← rowI_length]; exact b0.1
  have e : countsOf ws.length (flat ((rowI ws most).take (2 * ws.length - 2))) = (List.range ws.length).map (fun s => ((bought ws most (2 * ws.length - 2)).filter (fun c => decide (s < c))).length) := by
    unfold countsOf
    apply List.map_congr_left
    intro s _
    exact bought_counts ws most _ s hl
  rw [← e]
  exact ⟨hl, b0.2.1, fun es h => (B es h).2.2⟩
theorem bought_length (ws : List Nat) (j t : Nat) : (bought ws j t).length = j := by
  induction j generalizing t with
  | zero => rfl
  | succ j ih => rw [bought, List.length_cons, ih]
end Go.Proofs.Ytoiknbbimgeihaa.Huff
