/- The least cost of lengths, level by level from the top: what the recursion finds is the least of all lengths that fit. No program in it. -/
import Derived.WalkKit
namespace Go.Proofs.Ytoiknbbimgeihaa.Huff

/-- The smaller of two, where there are any. -/
def omin : Option Nat → Option Nat → Option Nat
  | none, b => b
  | a, none => a
  | some a, some b => some (min a b)
theorem omin_le_left {a : Option Nat} {x : Nat} (b : Option Nat) (h : a = some x) : ∃ v, omin a b = some v ∧ v ≤ x := by
  subst h
  cases b with
  | none => exact ⟨x, rfl, Nat.le_refl _⟩
  | some b => exact ⟨min x b, rfl, Nat.min_le_left _ _⟩
theorem omin_le_right {b : Option Nat} {x : Nat} (a : Option Nat) (h : b = some x) : ∃ v, omin a b = some v ∧ v ≤ x := by
  subst h
  cases a with
  | none => exact ⟨x, rfl, Nat.le_refl _⟩
  | some a => exact ⟨min a x, rfl, Nat.min_le_right _ _⟩
theorem omin_is {a b : Option Nat} {v : Nat} (h : omin a b = some v) : a = some v ∨ b = some v := by
  cases a with
  | none => exact Or.inr (by cases b <;> exact h)
  | some a => cases b with
    | none => exact Or.inl h
    | some b =>
      simp only [omin, Option.some.injEq] at h
      rcases Nat.le_total a b with e | e
      · left; rw [← h, Nat.min_eq_left e]
      · right; rw [← h, Nat.min_eq_right e]

/-- The least that symbols cost still, with p open places and r levels below. -/
def least : Nat → List Nat → Nat → Option Nat
  | _, [], _ => some 0
  | _, _ :: _, 0 => none
  | 0, _ :: cs, p + 1 => least 0 cs p
  | r + 1, a :: cs, p + 1 => omin (least (r + 1) cs p) ((least r (a :: cs) (2 * (p + 1))).map (· + (a :: cs).sum))
termination_by r cs _ => (r, cs.length)

theorem least_nil (r p : Nat) : least r [] p = some 0 := by cases r <;> simp [least]
theorem least_none (r a : Nat) (cs : List Nat) : least r (a :: cs) 0 = none := by cases r <;> simp [least]
theorem least_flat (a : Nat) (cs : List Nat) (p : Nat) : least 0 (a :: cs) (p + 1) = least 0 cs p := by simp [least]
theorem least_deep (r a : Nat) (cs : List Nat) (p : Nat) : least (r + 1) (a :: cs) (p + 1) = omin (least (r + 1) cs p) ((least r (a :: cs) (2 * (p + 1))).map (· + (a :: cs).sum)) := by rw [least]

/-- What lengths cost. -/
def dot : List Nat → List Nat → Nat
  | c :: cs, e :: es => c * e + dot cs es
  | _, _ => 0
/-- The room that lengths take, with r levels. -/
def kraft (r : Nat) : List Nat → Nat
  | [] => 0
  | e :: es => 2 ^ (r - e) + kraft r es
/-- Lengths for symbols, of at most r, within p places. -/
structure Fits (r : Nat) (cs es : List Nat) (p : Nat) : Prop where
  len : es.length = cs.length
  le : ∀ e ∈ es, e ≤ r
  room : kraft r es ≤ p * 2 ^ r

theorem dot_nil (es : List Nat) : dot [] es = 0 := by cases es <;> rfl
theorem dot_cons (c e : Nat) (cs es : List Nat) : dot (c :: cs) (e :: es) = c * e + dot cs es := rfl
theorem dot_succ (cs es : List Nat) (h : es.length = cs.length) : dot cs (es.map (· + 1)) = dot cs es + cs.sum := by
  induction cs generalizing es with
  | nil => simp [dot_nil]
  | cons c cs ih => cases es with
    | nil => simp at h
    | cons e es =>
      rw [List.map_cons, dot_cons, dot_cons, ih es (by simpa using h), List.sum_cons, Nat.mul_add, Nat.mul_one]
      omega
theorem kraft_succ (r : Nat) (es : List Nat) : kraft (r + 1) (es.map (· + 1)) = kraft r es := by
  induction es with
  | nil => rfl
  | cons e es ih =>
    rw [List.map_cons, kraft, kraft, ih]
    congr 2
    omega

/-- What is found are lengths that fit. -/
theorem least_fits (r : Nat) (cs : List Nat) (p v : Nat) (h : least r cs p = some v) : ∃ es, Fits r cs es p ∧ dot cs es = v := by
  induction r generalizing cs p v with
  | zero =>
    induction cs generalizing p v with
    | nil =>
      rw [least_nil] at h
      exact ⟨[], ⟨rfl, by simp, by simp [kraft]⟩, by rw [dot_nil]; exact Option.some.inj h⟩
    | cons a cs ih =>
      cases p with
      | zero => rw [least_none] at h; cases h
      | succ p =>
        rw [least_flat] at h
        obtain ⟨es, hf, hd⟩ := ih p v h
        refine ⟨0 :: es, ⟨by simp [hf.len], ?_, ?_⟩, by rw [dot_cons, hd]; omega⟩
        · intro e he
          rcases List.mem_cons.1 he with rfl | he
          · exact Nat.le_refl _
          · exact hf.le e he
        · have := hf.room
          rw [kraft]
          simp only [Nat.pow_zero, Nat.mul_one, Nat.sub_self] at this ⊢
          omega
  | succ r ihr =>
    induction cs generalizing p v with
    | nil =>
      rw [least_nil] at h
      exact ⟨[], ⟨rfl, by simp, by simp [kraft]⟩, by rw [dot_nil]; exact Option.some.inj h⟩
    | cons a cs ih =>
      cases p with
      | zero => rw [least_none] at h; cases h
      | succ p =>
        rw [least_deep] at h
        rcases omin_is h with h1 | h1
        · obtain ⟨es, hf, hd⟩ := ih p v h1
          refine ⟨0 :: es, ⟨by simp [hf.len], ?_, ?_⟩, by rw [dot_cons, hd]; omega⟩
          · intro e he
            rcases List.mem_cons.1 he with rfl | he
            · omega
            · exact hf.le e he
          · have := hf.room
            rw [kraft, Nat.sub_zero, Nat.add_mul]
            omega
        · cases h2 : least r (a :: cs) (2 * (p + 1)) with
          | none => rw [h2] at h1; cases h1
          | some u =>
            rw [h2] at h1
            simp only [Option.map_some, Option.some.injEq] at h1
            obtain ⟨es, hf, hd⟩ := ihr (a :: cs) (2 * (p + 1)) u h2
            refine ⟨es.map (· + 1), ⟨by simp [hf.len], ?_, ?_⟩, by rw [dot_succ _ _ hf.len, hd, h1]⟩
            · intro e he
              obtain ⟨x, hx, rfl⟩ := List.mem_map.1 he
              have := hf.le x hx
              omega
            · have := hf.room
              rw [kraft_succ, Nat.pow_succ]
              rw [show (p + 1) * (2 ^ r * 2) = 2 * (p + 1) * 2 ^ r by rw [Nat.mul_comm (2 ^ r) 2, ← Nat.mul_assoc, Nat.mul_comm (p + 1) 2]]
              exact this

/-- Falling counts. -/
def Falling : List Nat → Prop
  | [] => True
  | c :: cs => (∀ x ∈ cs, x ≤ c) ∧ Falling cs

theorem dot_set (cs es : List Nat) (k x : Nat) (h : es.length = cs.length) (hk : k < es.length) (h0 : es[k] = 0) : dot cs (es.set k x) = dot cs es + cs[k]'(by omega) * x := by
  induction cs generalizing es k with
  | nil => exact absurd hk (by rw [h]; simp)
  | cons c cs ih => cases es with
    | nil => simp at h
    | cons e es =>
      cases k with
      | zero =>
        simp only [List.getElem_cons_zero] at h0
        subst h0
        simp only [List.set_cons_zero, dot_cons, List.getElem_cons_zero]
        omega
      | succ k =>
        simp only [List.set_cons_succ, dot_cons, List.getElem_cons_succ] at h0 ⊢
        rw [ih es k (by simpa using h) (by simpa using hk) h0]
        omega
theorem kraft_set (r : Nat) (es : List Nat) (k x : Nat) (hk : k < es.length) (h0 : es[k] = 0) : kraft r (es.set k x) + 2 ^ r = kraft r es + 2 ^ (r - x) := by
  induction es generalizing k with
  | nil => simp at hk
  | cons e es ih =>
    cases k with
    | zero =>
      simp only [List.getElem_cons_zero] at h0
      subst h0
      simp only [List.set_cons_zero, kraft, Nat.sub_zero]
      omega
    | succ k =>
      simp only [List.set_cons_succ, kraft, List.getElem_cons_succ] at h0 ⊢
      have := ih k (by simpa using hk) h0
      omega

/-- No lengths that fit cost less. -/
theorem least_le (r : Nat) (cs es : List Nat) (p : Nat) (hc : Falling cs) (h : Fits r cs es p) : ∃ v, least r cs p = some v ∧ v ≤ dot cs es := by
  induction r generalizing cs es p with
  | zero =>
    induction cs generalizing es p with
    | nil => exact ⟨0, least_nil _ _, Nat.zero_le _⟩
    | cons a cs ih => cases es with
      | nil => have := h.len; simp at this
      | cons e es =>
        have he : e = 0 := by have := h.le e (List.mem_cons_self ..); omega
        subst he
        have hr := h.room
        rw [kraft] at hr
        simp only [Nat.pow_zero, Nat.mul_one, Nat.sub_self] at hr
        cases p with
        | zero => omega
        | succ p =>
          rw [least_flat, dot_cons]
          obtain ⟨v, h1, h2⟩ := ih es p hc.2 ⟨by have := h.len; simpa using this, fun x hx => h.le x (List.mem_cons_of_mem _ hx), by simp only [Nat.pow_zero, Nat.mul_one]; omega⟩
          exact ⟨v, h1, by omega⟩
  | succ r ihr =>
    induction cs generalizing es p with
    | nil => exact ⟨0, least_nil _ _, Nat.zero_le _⟩
    | cons a cs ih => cases es with
      | nil => have := h.len; simp at this
      | cons e es =>
        have hlen : es.length = cs.length := by have := h.len; simpa using this
        have hp : 0 < p := by
          have hr := h.room
          rw [kraft] at hr
          have := Nat.two_pow_pos (r + 1 - e)
          rcases Nat.eq_zero_or_pos p with rfl | h
          · omega
          · exact h
        obtain ⟨p, rfl⟩ : ∃ q, p = q + 1 := ⟨p - 1, by omega⟩
        rw [least_deep]
        -- a 0 among them is brought to the front
        by_cases hz : e = 0 ∨ ∃ k, ∃ hk : k < es.length, es[k] = 0
        · have key : ∃ es', Fits (r + 1) cs es' p ∧ dot cs es' ≤ dot (a :: cs) (e :: es) := by
            rcases hz with rfl | ⟨k, hk, h0⟩
            · refine ⟨es, ⟨hlen, fun x hx => h.le x (List.mem_cons_of_mem _ hx), ?_⟩, by rw [dot_cons]; omega⟩
              have hr := h.room
              rw [kraft, Nat.sub_zero, Nat.add_mul] at hr
              omega
            · refine ⟨es.set k e, ⟨by simp [hlen], ?_, ?_⟩, ?_⟩
              · intro x hx
                rcases List.mem_or_eq_of_mem_set hx with hx | rfl
                · exact h.le x (List.mem_cons_of_mem _ hx)
                · exact h.le _ (List.mem_cons_self ..)
              · have hr := h.room
                have hs := kraft_set (r + 1) es k e hk h0
                rw [kraft, Nat.add_mul] at hr
                omega
              · rw [dot_set cs es k e hlen hk h0, dot_cons]
                have hle : cs[k]'(by omega) ≤ a := hc.1 _ (List.getElem_mem _)
                have := Nat.mul_le_mul_right e hle
                omega
          obtain ⟨es', hf, hd⟩ := key
          obtain ⟨v, h1, h2⟩ := ih es' p hc.2 hf
          obtain ⟨u, h3, h4⟩ := omin_le_left ((least r (a :: cs) (2 * (p + 1))).map (· + (a :: cs).sum)) h1
          exact ⟨u, h3, by omega⟩
        · have hpos : ∀ x ∈ e :: es, 1 ≤ x := by
            intro x hx
            rcases List.mem_cons.1 hx with rfl | hx
            · have : x ≠ 0 := fun e0 => hz (Or.inl e0)
              omega
            · obtain ⟨k, hk, rfl⟩ := List.mem_iff_getElem.1 hx
              have : es[k] ≠ 0 := fun e0 => hz (Or.inr ⟨k, hk, e0⟩)
              omega
          obtain ⟨fs, hfs⟩ : ∃ fs : List Nat, e :: es = fs.map (· + 1) := by
            refine ⟨(e :: es).map (· - 1), ?_⟩
            rw [List.map_map]
            have : ∀ l : List Nat, (∀ x ∈ l, 1 ≤ x) → l = l.map ((· + 1) ∘ (· - 1)) := by
              intro l hl
              induction l with
              | nil => rfl
              | cons y l ihl =>
                rw [List.map_cons, ← ihl (fun x hx => hl x (List.mem_cons_of_mem _ hx))]
                have := hl y (List.mem_cons_self ..)
                simp only [Function.comp]
                congr 1
                omega
            exact this _ hpos
          rw [hfs] at h ⊢
          have hl2 : fs.length = (a :: cs).length := by have := h.len; simpa using this
          obtain ⟨v, h1, h2⟩ := ihr (a :: cs) fs (2 * (p + 1)) hc ⟨hl2, fun x hx => by have := h.le (x + 1) (List.mem_map.2 ⟨x, hx, rfl⟩); omega, by
            have hr := h.room
            rw [kraft_succ, Nat.pow_succ] at hr
            rw [show 2 * (p + 1) * 2 ^ r = (p + 1) * (2 ^ r * 2) by rw [Nat.mul_comm (2 ^ r) 2, ← Nat.mul_assoc, Nat.mul_comm (p + 1) 2]]
            exact hr⟩
          obtain ⟨u, h3, h4⟩ := omin_le_right (least (r + 1) cs p) (show (least r (a :: cs) (2 * (p + 1))).map (· + (a :: cs).sum) = some (v + (a :: cs).sum) by rw [h1]; rfl)
          refine ⟨u, h3, ?_⟩
          rw [dot_succ _ _ hl2]
          omega

/-- Where there is a place for each, none costs more. -/
theorem least_all (r : Nat) (cs : List Nat) (p : Nat) (h : cs.length ≤ p) : least r cs p = some 0 := by
  induction cs generalizing p with
  | nil => exact least_nil _ _
  | cons a cs ih =>
    simp only [List.length_cons] at h
    obtain ⟨p, rfl⟩ : ∃ q, p = q + 1 := ⟨p - 1, by omega⟩
    have h1 := ih p (by omega)
    cases r with
    | zero => rw [least_flat]; exact h1
    | succ r =>
      rw [least_deep]
      obtain ⟨v, h2, h3⟩ := omin_le_left ((least r (a :: cs) (2 * (p + 1))).map (· + (a :: cs).sum)) h1
      rw [h2]
      congr 1
      omega
/-- More places than symbols are as many as symbols. -/
theorem least_cap (r : Nat) (cs : List Nat) (p n : Nat) (h : cs.length ≤ n) : least r cs (min p n) = least r cs p := by
  rcases Nat.le_total p n with e | e
  · rw [Nat.min_eq_left e]
  · rw [Nat.min_eq_right e, least_all r cs n h, least_all r cs p (by omega)]
end Go.Proofs.Ytoiknbbimgeihaa.Huff
/- Packages of coins, merged row by row: no lengths cost less than the first of the last row. No program in it. -/
namespace Go.Proofs.Ytoiknbbimgeihaa.Huff

/-- Two by two. -/
def pairs : List Nat → List Nat
  | a :: b :: l => (a + b) :: pairs l
  | _ => []
theorem pairs_length (l : List Nat) : (pairs l).length = l.length / 2 := by
  match l with
  | [] => simp [pairs]
  | [_] => simp [pairs]
  | a :: b :: l =>
    have ih := pairs_length l
    simp only [pairs, List.length_cons, ih]
    omega
theorem pairs_take (l : List Nat) (k : Nat) : ((pairs l).take k).sum ≤ (l.take (2 * k)).sum := by
  match l, k with
  | _, 0 => simp
  | [], k + 1 => simp [pairs]
  | [_], k + 1 => simp [pairs]
  | a :: b :: l, k + 1 =>
    have ih := pairs_take l k
    rw [show 2 * (k + 1) = 2 * k + 1 + 1 by omega]
    simp only [pairs, List.take_succ_cons, List.sum_cons]
    omega

/-- The first of a sorted list are as little as any others of it. -/
theorem sorted_first (L M R : List Nat) (hs : L.Pairwise (· ≤ ·)) (hp : L.Perm (M ++ R)) : (L.take M.length).sum ≤ M.sum := by
  induction L generalizing M R with
  | nil => simp
  | cons x L ih =>
    cases M with
    | nil => simp
    | cons y M =>
      obtain ⟨hx, hs'⟩ := List.pairwise_cons.1 hs
      by_cases hm : x ∈ (y :: M)
      · have h1 : (y :: M).Perm (x :: (y :: M).erase x) := List.perm_cons_erase hm
        have h2 : L.Perm ((y :: M).erase x ++ R) := by
          have := hp.trans (h1.append_right R)
          rw [List.cons_append] at this
          exact (List.perm_cons x).1 this
        have h3 := ih _ _ hs' h2
        have hl : (y :: M).length = ((y :: M).erase x).length + 1 := by have := h1.length_eq; simpa using this
        have hsum : (y :: M).sum = x + ((y :: M).erase x).sum := by have := h1.sum_nat; simpa using this
        rw [hl, hsum, List.take_succ_cons, List.sum_cons]
        omega
      · have hr : x ∈ R := by
          have : x ∈ (y :: M) ++ R := hp.subset (List.mem_cons_self ..)
          rcases List.mem_append.1 this with h | h
          · exact absurd h hm
          · exact h
        have hy : x ≤ y := by
          have : y ∈ x :: L := hp.symm.subset (by simp)
          rcases List.mem_cons.1 this with h | h
          · omega
          · exact hx y h
        have h1 : R.Perm (x :: R.erase x) := List.perm_cons_erase hr
        have h2 : L.Perm (M ++ (y :: R.erase x)) := by
          have e1 : (x :: L).Perm (x :: (M ++ (y :: R.erase x))) := by
            refine hp.trans ?_
            refine ((List.Perm.refl (y :: M)).append h1).trans ?_
            have e2 : ((y :: M) ++ (x :: R.erase x)).Perm (x :: ((y :: M) ++ R.erase x)) := List.perm_middle
            refine e2.trans ((List.perm_cons x).2 ?_)
            have e3 : (M ++ (y :: R.erase x)).Perm (y :: (M ++ R.erase x)) := List.perm_middle
            exact e3.symm
          exact (List.perm_cons x).1 e1
        have h3 := ih _ _ hs' h2
        rw [List.length_cons, List.take_succ_cons, List.sum_cons, List.sum_cons]
        omega
theorem take_sum_le (l : List Nat) (a b : Nat) (h : a ≤ b) : (l.take a).sum ≤ (l.take b).sum := by
  induction l generalizing a b with
  | nil => simp
  | cons x l ih => cases a with
    | zero => simp
    | succ a =>
      obtain ⟨b, rfl⟩ : ∃ c, b = c + 1 := ⟨b - 1, by omega⟩
      have := ih a b (by omega)
      simp only [List.take_succ_cons, List.sum_cons]
      omega

/-- The coins that lengths lay on the uppermost level, and the others. -/
def sel : List Nat → List Nat → List Nat
  | w :: ws, e :: es => if e = 0 then sel ws es else w :: sel ws es
  | _, _ => []
def rest : List Nat → List Nat → List Nat
  | w :: ws, e :: es => if e = 0 then w :: rest ws es else rest ws es
  | ws, [] => ws
  | [], _ => []
theorem sel_perm (ws es : List Nat) (h : es.length = ws.length) : ws.Perm (sel ws es ++ rest ws es) := by
  induction ws generalizing es with
  | nil => cases es with
    | nil => simp [sel, rest]
    | cons e es => simp at h
  | cons w ws ih => cases es with
    | nil => simp at h
    | cons e es =>
      have ih := ih es (by simpa using h)
      by_cases he : e = 0
      · simp only [sel, rest, he, if_true]
        exact ((List.perm_cons w).2 ih).trans List.perm_middle.symm
      · simp only [sel, rest, he, if_false]
        exact (List.perm_cons w).2 ih
theorem dot_sel (ws es : List Nat) (h : es.length = ws.length) : dot ws es = (sel ws es).sum + dot ws (es.map (· - 1)) := by
  induction ws generalizing es with
  | nil => simp [dot_nil, sel]
  | cons w ws ih => cases es with
    | nil => simp at h
    | cons e es =>
      have ih := ih es (by simpa using h)
      rw [List.map_cons, dot_cons, dot_cons, ih]
      by_cases he : e = 0
      · subst he
        simp [sel]
      · obtain ⟨f, rfl⟩ : ∃ f, e = f + 1 := ⟨e - 1, by omega⟩
        simp only [sel, he, if_false, List.sum_cons, Nat.add_sub_cancel, Nat.mul_add, Nat.mul_one]
        omega

/-- The width of the coins that lengths take, with j levels. -/
def width (j : Nat) : List Nat → Nat
  | [] => 0
  | e :: es => (2 ^ j - 2 ^ (j - e)) + width j es
theorem width_succ (ws es : List Nat) (j : Nat) (h : es.length = ws.length) (hj : ∀ e ∈ es, e ≤ j + 1) : width (j + 1) es = (sel ws es).length * 2 ^ j + width j (es.map (· - 1)) := by
  induction ws generalizing es with
  | nil =>
    have : es = [] := List.eq_nil_of_length_eq_zero (by simpa using h)
    subst this
    simp [sel, width]
  | cons w ws ih => cases es with
    | nil => simp at h
    | cons e es =>
      have ih := ih es (by simpa using h) (fun x hx => hj x (List.mem_cons_of_mem _ hx))
      rw [List.map_cons, width, width, ih]
      by_cases he : e = 0
      · subst he
        simp [sel]
      · have hle := hj e (List.mem_cons_self ..)
        obtain ⟨f, rfl⟩ : ∃ f, e = f + 1 := ⟨e - 1, by omega⟩
        have hp : 2 ^ (j - f) ≤ 2 ^ j := Nat.pow_le_pow_right (by omega) (by omega)
        simp only [sel, he, if_false, List.length_cons, Nat.add_sub_cancel, Nat.add_mul, Nat.one_mul]
        rw [show j + 1 - (f + 1) = j - f by omega, Nat.pow_succ]
        omega

/-- The rows: each is sorted, of all coins and of the row ahead two by two. -/
def Rows (ws : List Nat) (L : Nat → List Nat) : Prop := L 0 = [] ∧ ∀ j, (L (j + 1)).Pairwise (· ≤ ·) ∧ (L (j + 1)).Perm (ws ++ pairs (L j))

theorem rows_le (ws : List Nat) (L : Nat → List Nat) (hL : Rows ws L) (j k : Nat) (es : List Nat) (h : es.length = ws.length) (hj : ∀ e ∈ es, e ≤ j) (hw : k * 2 ^ j ≤ 2 * width j es) :
    k ≤ (L j).length ∧ ((L j).take k).sum ≤ dot ws es := by
  induction j generalizing k es with
  | zero =>
    have hz : width 0 es = 0 := by
      have : ∀ l : List Nat, (∀ e ∈ l, e ≤ 0) → width 0 l = 0 := by
        intro l hl
        induction l with
        | nil => rfl
        | cons e l ih =>
          have := hl e (List.mem_cons_self ..)
          rw [width, ih (fun x hx => hl x (List.mem_cons_of_mem _ hx))]
          simp
      exact this es hj
    rw [hz] at hw
    simp only [Nat.pow_zero, Nat.mul_one, Nat.mul_zero, Nat.le_zero] at hw
    subst hw
    simp
  | succ j ih =>
    obtain ⟨hs, hp⟩ := hL.2 j
    have hsel := sel_perm ws es h
    rw [dot_sel ws es h]
    rw [width_succ ws es j h hj, Nat.pow_succ] at hw
    have hlen : (L (j + 1)).length = ws.length + (pairs (L j)).length := by have := hp.length_eq; simpa using this
    have hsl : (sel ws es).length ≤ ws.length := by have := hsel.length_eq; simp only [List.length_append] at this; omega
    by_cases hk : k ≤ (sel ws es).length
    · refine ⟨by omega, ?_⟩
      have h1 := sorted_first (L (j + 1)) (sel ws es) (rest ws es ++ pairs (L j)) hs (by
        rw [← List.append_assoc]
        exact hp.trans (hsel.append_right _))
      have h2 := take_sum_le (L (j + 1)) k (sel ws es).length hk
      omega
    · have hw2 : 2 * (k - (sel ws es).length) * 2 ^ j ≤ 2 * width j (es.map (· - 1)) := by
        obtain ⟨d, hd⟩ : ∃ d, k = (sel ws es).length + d := ⟨k - (sel ws es).length, by omega⟩
        rw [hd, Nat.add_sub_cancel_left]
        rw [hd, Nat.add_mul] at hw
        have e1 : (sel ws es).length * (2 ^ j * 2) = 2 * ((sel ws es).length * 2 ^ j) := by rw [← Nat.mul_assoc, Nat.mul_comm]
        have e2 : d * (2 ^ j * 2) = 2 * (d * 2 ^ j) := by rw [← Nat.mul_assoc, Nat.mul_comm]
        rw [e1, e2] at hw
        rw [Nat.mul_assoc]
        omega
      obtain ⟨h1, h2⟩ := ih (2 * (k - (sel ws es).length)) (es.map (· - 1)) (by simpa using h) (by
        intro x hx
        obtain ⟨y, hy, rfl⟩ := List.mem_map.1 hx
        have := hj y hy
        omega) hw2
      have hpl : k - (sel ws es).length ≤ (pairs (L j)).length := by rw [pairs_length]; omega
      refine ⟨by omega, ?_⟩
      have h3 := pairs_take (L j) (k - (sel ws es).length)
      have h4 := sorted_first (L (j + 1)) (sel ws es ++ (pairs (L j)).take (k - (sel ws es).length)) (rest ws es ++ (pairs (L j)).drop (k - (sel ws es).length)) hs (by
        refine hp.trans ?_
        refine (hsel.append_right _).trans ?_
        have e1 : pairs (L j) = (pairs (L j)).take (k - (sel ws es).length) ++ (pairs (L j)).drop (k - (sel ws es).length) := (List.take_append_drop _ _).symm
        conv => lhs; rw [e1]
        rw [List.append_assoc, List.append_assoc]
        refine (List.Perm.refl _).append ?_
        rw [← List.append_assoc, ← List.append_assoc]
        exact List.perm_append_comm.append_right _)
      rw [List.length_append, List.length_take, Nat.min_eq_left hpl, List.sum_append] at h4
      rw [show (sel ws es).length + (k - (sel ws es).length) = k by omega] at h4
      omega

/-- Lengths that aren't too many take as much width as the first of the last row. -/
theorem width_kraft (j : Nat) (es : List Nat) (hj : ∀ e ∈ es, e ≤ j) : width j es + kraft j es = es.length * 2 ^ j := by
  induction es with
  | nil => simp [width, kraft]
  | cons e es ih =>
    have hp : 2 ^ (j - e) ≤ 2 ^ j := Nat.pow_le_pow_right (by omega) (by omega)
    have := ih (fun x hx => hj x (List.mem_cons_of_mem _ hx))
    rw [width, kraft, List.length_cons, Nat.add_mul, Nat.one_mul]
    omega
/-- No lengths that aren't too many cost less than the first 2 n - 2 of the last row. -/
theorem package_least (ws : List Nat) (L : Nat → List Nat) (hL : Rows ws L) (j : Nat) (es : List Nat) (h : es.length = ws.length) (hj : ∀ e ∈ es, e ≤ j) (hk : kraft j es ≤ 2 ^ j) :
    2 * ws.length - 2 ≤ (L j).length ∧ ((L j).take (2 * ws.length - 2)).sum ≤ dot ws es := by
  refine rows_le ws L hL j _ es h hj ?_
  have hw := width_kraft j es hj
  rw [h] at hw
  rcases Nat.eq_zero_or_pos ws.length with h0 | h0
  · rw [h0]; simp
  · obtain ⟨n, hn⟩ : ∃ n, ws.length = n + 1 := ⟨ws.length - 1, by omega⟩
    rw [hn, Nat.add_mul, Nat.one_mul] at hw
    rw [hn, show 2 * (n + 1) - 2 = 2 * n by omega, Nat.mul_assoc]
    omega
end Go.Proofs.Ytoiknbbimgeihaa.Huff
/- Packages of coins, merged row by row: how often each symbol stands in the first of the last row are lengths that aren't too many, and cost just those. No program in it. -/
namespace Go.Proofs.Ytoiknbbimgeihaa.Huff

/-- A coin or a package: the symbols that it is of. -/
abbrev It := List Nat
def joinTwo : List It → List It
  | a :: b :: l => (a ++ b) :: joinTwo l
  | _ => []
def coinsOf (n : Nat) : List It := (List.range n).map (fun i => [i])
def flat (M : List It) : List Nat := M.flatten
/-- How often each of n symbols stands in a list. -/
def countsOf (n : Nat) (f : List Nat) : List Nat := (List.range n).map (fun i => f.count i)
def weightOf (ws : List Nat) (it : It) : Nat := (it.map (fun s => ws.getD s 0)).sum

theorem countsOf_length (n : Nat) (f : List Nat) : (countsOf n f).length = n := by simp [countsOf]
theorem countsOf_get (n : Nat) (f : List Nat) (i : Nat) (h : i < n) : (countsOf n f)[i]'(by rw [countsOf_length]; exact h) = f.count i := by simp [countsOf]

theorem dot_inc (ws l : List Nat) (s : Nat) (h : l.length = ws.length) (hs : s < l.length) : dot ws (l.set s (l[s] + 1)) = dot ws l + ws.getD s 0 := by
  induction ws generalizing l s with
  | nil => exact absurd hs (by rw [h]; simp)
  | cons w ws ih => cases l with
    | nil => simp at h
    | cons e l => cases s with
      | zero => simp only [List.set_cons_zero, List.getElem_cons_zero, dot_cons, Nat.mul_add, Nat.mul_one, List.getD_cons_zero]; omega
      | succ s =>
        simp only [List.set_cons_succ, List.getElem_cons_succ, dot_cons, List.getD_cons_succ]
        rw [ih l s (by simpa using h) (by simpa using hs)]
        omega
theorem countsOf_cons (n s : Nat) (f : List Nat) (hs : s < n) : countsOf n (s :: f) = (countsOf n f).set s ((countsOf n f)[s]'(by rw [countsOf_length]; exact hs) + 1) := by
  apply List.ext_getElem
  · simp [countsOf]
  · intro i h1 h2
    rw [countsOf_length] at h1
    rw [countsOf_get _ _ _ h1, List.getElem_set]
    by_cases e : s = i
    · subst e
      rw [if_pos rfl, countsOf_get _ _ _ h1, List.count_cons_self]
    · rw [if_neg e, countsOf_get _ _ _ h1, List.count_cons_of_ne e]
theorem dot_zero (ws : List Nat) (n : Nat) : dot ws (List.replicate n 0) = 0 := by
  induction ws generalizing n with
  | nil => exact dot_nil _
  | cons w ws ih => cases n with
    | zero => rfl
    | succ n => rw [List.replicate_succ, dot_cons, ih]; omega
/-- What stands in a list costs what its symbols cost, so often as they stand there. -/
theorem dot_counts (ws : List Nat) (f : List Nat) (h : ∀ s ∈ f, s < ws.length) : dot ws (countsOf ws.length f) = (f.map (fun s => ws.getD s 0)).sum := by
  induction f with
  | nil =>
    have e : countsOf ws.length [] = List.replicate ws.length 0 := by
      apply List.ext_getElem
      · simp [countsOf]
      · intro i h1 h2; simp [countsOf]
    rw [e, dot_zero]; rfl
  | cons s f ih =>
    have hs := h s (List.mem_cons_self ..)
    rw [countsOf_cons _ _ _ hs, dot_inc _ _ _ (by rw [countsOf_length]) (by rw [countsOf_length]; exact hs), ih (fun x hx => h x (List.mem_cons_of_mem _ hx)), List.map_cons, List.sum_cons]
    omega
theorem weight_flat (ws : List Nat) (M : List It) : (M.map (weightOf ws)).sum = ((flat M).map (fun s => ws.getD s 0)).sum := by
  induction M with
  | nil => rfl
  | cons a M ih =>
    have e : flat (a :: M) = a ++ flat M := rfl
    rw [e, List.map_append, List.sum_append, List.map_cons, List.sum_cons, ih]
    rfl

theorem flat_append (M N : List It) : flat (M ++ N) = flat M ++ flat N := List.flatten_append
theorem flat_perm {M N : List It} (h : M.Perm N) : (flat M).Perm (flat N) := h.flatten
theorem count_perm {f g : List Nat} (h : f.Perm g) (i : Nat) : f.count i = g.count i := h.count_eq i

/-- What is within two lists together is of both. -/
theorem split_perm (M R C P : List It) (h : (M ++ R).Perm (C ++ P)) : ∃ A A' B B', M.Perm (A ++ B) ∧ C.Perm (A ++ A') ∧ P.Perm (B ++ B') := by
  induction M generalizing C P with
  | nil => exact ⟨[], C, [], P, List.Perm.refl _, List.Perm.refl _, List.Perm.refl _⟩
  | cons x M ih =>
    have hx : x ∈ C ++ P := h.subset (by simp)
    rcases List.mem_append.1 hx with hx | hx
    · have h1 : C.Perm (x :: C.erase x) := List.perm_cons_erase hx
      have h2 : (M ++ R).Perm (C.erase x ++ P) := (List.perm_cons x).1 (h.trans (h1.append_right P))
      obtain ⟨A, A', B, B', p1, p2, p3⟩ := ih _ _ h2
      exact ⟨x :: A, A', B, B', (List.perm_cons x).2 p1, h1.trans ((List.perm_cons x).2 p2), p3⟩
    · have h1 : P.Perm (x :: P.erase x) := List.perm_cons_erase hx
      have h2 : (M ++ R).Perm (C ++ P.erase x) := by
        have e : (x :: (M ++ R)).Perm (x :: (C ++ P.erase x)) := h.trans (((List.Perm.refl C).append h1).trans List.perm_middle)
        exact (List.perm_cons x).1 e
      obtain ⟨A, A', B, B', p1, p2, p3⟩ := ih _ _ h2
      exact ⟨A, A', x :: B, B', ((List.perm_cons x).2 p1).trans List.perm_middle.symm, p2, h1.trans ((List.perm_cons x).2 p3)⟩

/-- Some of the packages are of twice as many of the row ahead. -/
theorem unjoin (L B B' : List It) (h : (joinTwo L).Perm (B ++ B')) : ∃ N N', L.Perm (N ++ N') ∧ N.length = 2 * B.length ∧ (flat N).Perm (flat B) := by
  match L with
  | [] =>
    have e : B = [] := by have := h.length_eq; simp [joinTwo] at this; exact List.eq_nil_of_length_eq_zero (by omega)
    subst e
    exact ⟨[], [], List.Perm.refl _, rfl, List.Perm.refl _⟩
  | [a] =>
    have e : B = [] := by have := h.length_eq; simp [joinTwo] at this; exact List.eq_nil_of_length_eq_zero (by omega)
    subst e
    exact ⟨[], [a], List.Perm.refl _, rfl, List.Perm.refl _⟩
  | a :: b :: L =>
    have h' : ((a ++ b) :: joinTwo L).Perm (B ++ B') := h
    have hx : (a ++ b) ∈ B ++ B' := h'.subset (List.mem_cons_self ..)
    rcases List.mem_append.1 hx with hx | hx
    · have h1 : B.Perm ((a ++ b) :: B.erase (a ++ b)) := List.perm_cons_erase hx
      have h2 : (joinTwo L).Perm (B.erase (a ++ b) ++ B') := (List.perm_cons _).1 (h'.trans (h1.append_right B'))
      obtain ⟨N, N', p1, p2, p3⟩ := unjoin L _ _ h2
      refine ⟨a :: b :: N, N', (List.perm_cons a).2 ((List.perm_cons b).2 p1), ?_, ?_⟩
      · have := h1.length_eq
        simp only [List.length_cons] at this ⊢
        omega
      · have e1 : flat (a :: b :: N) = (a ++ b) ++ flat N := by simp [flat]
        have e2 : flat ((a ++ b) :: B.erase (a ++ b)) = (a ++ b) ++ flat (B.erase (a ++ b)) := rfl
        rw [e1]
        refine ((List.Perm.refl _).append p3).trans ?_
        rw [← e2]
        exact (flat_perm h1).symm
    · have h1 : B'.Perm ((a ++ b) :: B'.erase (a ++ b)) := List.perm_cons_erase hx
      have h2 : (joinTwo L).Perm (B ++ B'.erase (a ++ b)) := by
        have e : ((a ++ b) :: joinTwo L).Perm ((a ++ b) :: (B ++ B'.erase (a ++ b))) := h'.trans (((List.Perm.refl B).append h1).trans List.perm_middle)
        exact (List.perm_cons _).1 e
      obtain ⟨N, N', p1, p2, p3⟩ := unjoin L _ _ h2
      refine ⟨N, a :: b :: N', ?_, p2, p3⟩
      have e1 : (a :: b :: L).Perm (a :: b :: (N ++ N')) := (List.perm_cons a).2 ((List.perm_cons b).2 p1)
      have e2 : (N ++ (a :: b :: N')).Perm (a :: b :: (N ++ N')) := List.perm_middle.trans ((List.perm_cons a).2 List.perm_middle)
      exact e1.trans e2.symm

/-- The rows: each is of all coins and of the row ahead two by two. -/
def RowsOf (n : Nat) (R : Nat → List It) : Prop := R 0 = [] ∧ ∀ j, (R (j + 1)).Perm (coinsOf n ++ joinTwo (R j))

theorem flat_coins (n : Nat) : flat (coinsOf n) = List.range n := by
  unfold flat coinsOf
  induction n with
  | zero => rfl
  | succ n ih => rw [List.range_succ, List.map_append, List.flatten_append, ih]; rfl
theorem count_coins (n i : Nat) : (flat (coinsOf n)).count i ≤ 1 := by
  rw [flat_coins]
  exact List.nodup_iff_count.1 List.nodup_range i
theorem flat_joinTwo (L : List It) : ∃ t, flat L = flat (joinTwo L) ++ t := by
  match L with
  | [] => exact ⟨[], rfl⟩
  | [a] => exact ⟨a, by simp [flat, joinTwo]⟩
  | a :: b :: L =>
    obtain ⟨t, h⟩ := flat_joinTwo L
    refine ⟨t, ?_⟩
    have e1 : flat (a :: b :: L) = (a ++ b) ++ flat L := by simp [flat]
    have e2 : flat (joinTwo (a :: b :: L)) = (a ++ b) ++ flat (joinTwo L) := rfl
    rw [e1, e2, h]
    simp only [List.append_assoc]
theorem rows_count (n : Nat) (R : Nat → List It) (hR : RowsOf n R) (j i : Nat) : (flat (R j)).count i ≤ j := by
  induction j with
  | zero => rw [hR.1]; simp [flat]
  | succ j ih =>
    rw [count_perm (flat_perm (hR.2 j)), flat_append, List.count_append]
    have h1 := count_coins n i
    obtain ⟨t, h2⟩ := flat_joinTwo (R j)
    rw [h2, List.count_append] at ih
    omega
theorem rows_syms (n : Nat) (R : Nat → List It) (hR : RowsOf n R) (j : Nat) : ∀ s ∈ flat (R j), s < n := by
  induction j with
  | zero => rw [hR.1]; intro s hs; simp [flat] at hs
  | succ j ih =>
    intro s hs
    have hs2 := (flat_perm (hR.2 j)).subset hs
    rw [flat_append] at hs2
    rcases List.mem_append.1 hs2 with h | h
    · rw [flat_coins] at h; exact List.mem_range.1 h
    · obtain ⟨t, h2⟩ := flat_joinTwo (R j)
      exact ih s (by rw [h2]; exact List.mem_append_left _ h)

/-- One level more: what the coins on it take. -/
theorem width_more (j : Nat) (as es fs : List Nat) (h1 : as.length = es.length) (h2 : fs.length = es.length) (ha : ∀ i (h : i < es.length), fs[i]'(by omega) = as[i]'(by omega) + es[i]) (h01 : ∀ a ∈ as, a ≤ 1) (hj : ∀ e ∈ es, e ≤ j) :
    as.sum * 2 ^ j + width j es ≤ width (j + 1) fs := by
  induction es generalizing as fs with
  | nil =>
    obtain rfl : as = [] := List.eq_nil_of_length_eq_zero (by simpa using h1)
    simp [width]
  | cons e es ih => cases as with
    | nil => simp at h1
    | cons a as => cases fs with
      | nil => simp at h2
      | cons f fs =>
        have e0 := ha 0 (by simp)
        simp only [List.getElem_cons_zero] at e0
        have ih := ih as fs (by simpa using h1) (by simpa using h2) (fun i h => by have := ha (i + 1) (by simpa using h); simpa using this) (fun x hx => h01 x (List.mem_cons_of_mem _ hx)) (fun x hx => hj x (List.mem_cons_of_mem _ hx))
        have ha1 := h01 a (List.mem_cons_self ..)
        have hej := hj e (List.mem_cons_self ..)
        have hp : 2 ^ (j - e) ≤ 2 ^ j := Nat.pow_le_pow_right (by omega) (by omega)
        rw [width, width, List.sum_cons, Nat.add_mul]
        subst e0
        rcases (show a = 0 ∨ a = 1 by omega) with rfl | rfl
        · rw [Nat.zero_add, show j + 1 - e = (j - e) + 1 by omega, Nat.pow_succ, Nat.pow_succ]
          omega
        · rw [show j + 1 - (1 + e) = j - e by omega, Nat.pow_succ]
          omega
theorem countsOf_sum (n : Nat) (f : List Nat) (h : ∀ s ∈ f, s < n) : (countsOf n f).sum = f.length := by
  have key := dot_counts (List.replicate n 1) f (by simpa using h)
  have e1 : ∀ l : List Nat, dot (List.replicate l.length 1) l = l.sum := by
    intro l
    induction l with
    | nil => rfl
    | cons x l ih => rw [List.length_cons, List.replicate_succ, dot_cons, ih, List.sum_cons]; omega
  have e2 := e1 (countsOf n f)
  rw [countsOf_length] at e2
  rw [List.length_replicate, e2] at key
  rw [key]
  have e3 : ∀ g : List Nat, (∀ s ∈ g, s < n) → (g.map (fun s => (List.replicate n 1).getD s 0)).sum = g.length := by
    intro g hg
    induction g with
    | nil => rfl
    | cons s g ih =>
      rw [List.map_cons, List.sum_cons, ih (fun x hx => hg x (List.mem_cons_of_mem _ hx)), List.length_cons]
      have := hg s (List.mem_cons_self ..)
      rw [List.getD_eq_getElem?_getD, List.getElem?_replicate, if_pos this]
      simp only [Option.getD_some]
      omega
  exact e3 f h

/-- So many of a row take so much width. -/
theorem rows_width (n : Nat) (R : Nat → List It) (hR : RowsOf n R) (j : Nat) (M M' : List It) (h : (R j).Perm (M ++ M')) : M.length * 2 ^ j ≤ 2 * width j (countsOf n (flat M)) := by
  induction j generalizing M M' with
  | zero =>
    rw [hR.1] at h
    have : M = [] := by have := h.length_eq; simp at this; exact List.eq_nil_of_length_eq_zero (by omega)
    subst this
    simp
  | succ j ih =>
    obtain ⟨A, A', B, B', p1, p2, p3⟩ := split_perm M M' _ _ (h.symm.trans (hR.2 j))
    obtain ⟨N, N', q1, q2, q3⟩ := unjoin (R j) B B' p3
    have hN := ih N N' q1
    have hflat : (flat M).Perm (flat A ++ flat N) := by
      have h1 := flat_perm p1
      rw [flat_append] at h1
      exact h1.trans ((List.Perm.refl _).append q3.symm)
    have hA : (flat A).length = A.length := by
      have hc : ∀ x ∈ A, x.length = 1 := by
        intro x hx
        have : x ∈ coinsOf n := p2.symm.subset (List.mem_append_left _ hx)
        simp only [coinsOf, List.mem_map] at this
        obtain ⟨i, _, rfl⟩ := this
        rfl
      have : ∀ L : List It, (∀ x ∈ L, x.length = 1) → (flat L).length = L.length := by
        intro L hL
        induction L with
        | nil => rfl
        | cons x L ihl =>
          have e : flat (x :: L) = x ++ flat L := rfl
          rw [e, List.length_append, ihl (fun y hy => hL y (List.mem_cons_of_mem _ hy)), hL x (List.mem_cons_self ..), List.length_cons]
          omega
      exact this A hc
    have hAs : ∀ s ∈ flat A, s < n := by
      intro s hs
      have h1 : s ∈ flat (A ++ A') := by rw [flat_append]; exact List.mem_append_left _ hs
      have h2 := (flat_perm p2).symm.subset h1
      rw [flat_coins] at h2
      exact List.mem_range.1 h2
    have hw := width_more j (countsOf n (flat A)) (countsOf n (flat N)) (countsOf n (flat M)) (by rw [countsOf_length, countsOf_length]) (by rw [countsOf_length, countsOf_length])
      (by
        intro i hi
        rw [countsOf_length] at hi
        rw [countsOf_get _ _ _ hi, countsOf_get _ _ _ hi, countsOf_get _ _ _ hi, count_perm hflat, List.count_append])
      (by
        intro a ha
        simp only [countsOf, List.mem_map] at ha
        obtain ⟨i, _, rfl⟩ := ha
        have h1 := count_coins n i
        have h2 := count_perm (flat_perm p2) i
        rw [flat_append, List.count_append] at h2
        omega)
      (by
        intro e he
        simp only [countsOf, List.mem_map] at he
        obtain ⟨i, _, rfl⟩ := he
        have h1 := rows_count n R hR j i
        have h2 := count_perm (flat_perm q1) i
        rw [flat_append, List.count_append] at h2
        omega)
    rw [countsOf_sum n (flat A) hAs, hA] at hw
    have hl : M.length = A.length + B.length := by have := p1.length_eq; simpa using this
    rw [q2, Nat.mul_assoc] at hN
    rw [hl, Nat.pow_succ, ← Nat.mul_assoc, Nat.add_mul]
    omega

/-- How often each symbol stands in the first 2 n - 2 of the j-th row: lengths of at most j bits that aren't too many, none of them 0. -/
theorem package_fits (n : Nat) (hn : 2 ≤ n) (R : Nat → List It) (hR : RowsOf n R) (j : Nat) (hl : 2 * n - 2 ≤ (R j).length) :
    (∀ e ∈ countsOf n (flat ((R j).take (2 * n - 2))), e ≤ j) ∧ kraft j (countsOf n (flat ((R j).take (2 * n - 2)))) ≤ 2 ^ j := by
  have hp : (R j).Perm ((R j).take (2 * n - 2) ++ (R j).drop (2 * n - 2)) := by rw [List.take_append_drop]
  have hle : ∀ e ∈ countsOf n (flat ((R j).take (2 * n - 2))), e ≤ j := by
    intro e he
    simp only [countsOf, List.mem_map] at he
    obtain ⟨i, _, rfl⟩ := he
    have h1 := rows_count n R hR j i
    have h2 := count_perm (flat_perm hp) i
    rw [flat_append, List.count_append] at h2
    omega
  refine ⟨hle, ?_⟩
  have hw := rows_width n R hR j _ _ hp
  have hk := width_kraft j _ hle
  rw [countsOf_length] at hk
  rw [List.length_take, Nat.min_eq_left hl] at hw
  obtain ⟨m, rfl⟩ : ∃ m, n = m + 1 := ⟨n - 1, by omega⟩
  rw [show 2 * (m + 1) - 2 = 2 * m by omega, Nat.mul_assoc] at hw
  rw [Nat.add_mul, Nat.one_mul] at hk
  rw [show 2 * (m + 1) - 2 = 2 * m by omega] at hk ⊢
  omega
end Go.Proofs.Ytoiknbbimgeihaa.Huff
/- What the packages give costs just what the recursion from the top finds: both are the least. No program in it. -/
namespace Go.Proofs.Ytoiknbbimgeihaa.Huff

theorem pairs_join (ws : List Nat) (L : List It) : pairs (L.map (weightOf ws)) = (joinTwo L).map (weightOf ws) := by
  match L with
  | [] => rfl
  | [_] => rfl
  | a :: b :: L =>
    have ih := pairs_join ws L
    simp only [List.map_cons, pairs, joinTwo, ih, weightOf, List.map_append, List.sum_append]
theorem coins_weights (ws : List Nat) : (coinsOf ws.length).map (weightOf ws) = ws := by
  apply List.ext_getElem
  · simp [coinsOf]
  · intro i h1 h2
    simp [coinsOf, weightOf, List.getD_eq_getElem?_getD, List.getElem?_eq_getElem h2]

/-- Lengths that may be: of each at least 1, at most so many bits, not too many. -/
structure May (most : Nat) (ws es : List Nat) : Prop where
  len : es.length = ws.length
  pos : ∀ e ∈ es, 1 ≤ e
  le : ∀ e ∈ es, e ≤ most
  room : kraft most es ≤ 2 ^ most

theorem kraft_mem (j e : Nat) (es : List Nat) (h : e ∈ es) : 2 ^ (j - e) ≤ kraft j es := by
  induction es with
  | nil => cases h
  | cons x es ih =>
    rw [kraft]
    rcases List.mem_cons.1 h with rfl | h
    · omega
    · exact Nat.le_trans (ih h) (Nat.le_add_left _ _)
theorem kraft_pos (j : Nat) (es : List Nat) : es.length ≤ kraft j es := by
  induction es with
  | nil => simp
  | cons x es ih =>
    rw [kraft, List.length_cons]
    have := Nat.two_pow_pos (j - x)
    omega
/-- Where there are two or more, none is 0. -/
theorem no_zero (j : Nat) (es : List Nat) (h2 : 2 ≤ es.length) (hk : kraft j es ≤ 2 ^ j) : ∀ e ∈ es, 1 ≤ e := by
  intro e he
  rcases Nat.eq_zero_or_pos e with rfl | h
  · exfalso
    have key : ∀ l : List Nat, 0 ∈ l → 2 ≤ l.length → 2 ^ j + 1 ≤ kraft j l := by
      intro l hl hlen
      cases l with
      | nil => cases hl
      | cons x l =>
        rw [kraft]
        rcases List.mem_cons.1 hl with rfl | hm
        · have := kraft_pos j l
          simp only [List.length_cons] at hlen
          rw [Nat.sub_zero]
          omega
        · have h1 := kraft_mem j 0 l hm
          have h3 := Nat.two_pow_pos (j - x)
          rw [Nat.sub_zero] at h1
          omega
    have := key es he h2
    omega
  · exact h

/-- The packages' lengths may be, and none that may be cost less. -/
theorem package_best (ws : List Nat) (h2 : 2 ≤ ws.length) (R : Nat → List It) (hR : RowsOf ws.length R) (hs : ∀ j, ((R (j + 1)).map (weightOf ws)).Pairwise (· ≤ ·)) (most : Nat) (es : List Nat) (h : May most ws es) :
    2 * ws.length - 2 ≤ (R most).length ∧ May most ws (countsOf ws.length (flat ((R most).take (2 * ws.length - 2)))) ∧ dot ws (countsOf ws.length (flat ((R most).take (2 * ws.length - 2)))) ≤ dot ws es := by
  have hL : Rows ws (fun j => (R j).map (weightOf ws)) := by
    refine ⟨by simp [hR.1], fun j => ⟨hs j, ?_⟩⟩
    have e := (hR.2 j).map (weightOf ws)
    rw [List.map_append, coins_weights, ← pairs_join] at e
    exact e
  obtain ⟨h3, h4⟩ := package_least ws _ hL most es h.len h.le h.room
  simp only [List.length_map] at h3
  obtain ⟨h5, h6⟩ := package_fits ws.length h2 R hR most h3
  refine ⟨h3, ⟨countsOf_length _ _, no_zero most _ (by rw [countsOf_length]; exact h2) h6, h5, h6⟩, ?_⟩
  rw [dot_counts ws _ (by
    intro s hsf
    refine rows_syms ws.length R hR most s ?_
    have hp : (R most).Perm ((R most).take (2 * ws.length - 2) ++ (R most).drop (2 * ws.length - 2)) := by rw [List.take_append_drop]
    refine (flat_perm hp).symm.subset ?_
    rw [flat_append]
    exact List.mem_append_left _ hsf), ← weight_flat]
  rw [← List.map_take] at h4
  exact h4

/-- The same lengths for the same counts in another order. -/
theorem dot_perm {ws cs : List Nat} (h : ws.Perm cs) (es : List Nat) (hl : es.length = ws.length) : ∃ fs, es.Perm fs ∧ dot cs fs = dot ws es := by
  induction h generalizing es with
  | nil => exact ⟨es, List.Perm.refl _, rfl⟩
  | cons x _ ih => cases es with
    | nil => simp at hl
    | cons e es =>
      obtain ⟨fs, p, hd⟩ := ih es (by simpa using hl)
      exact ⟨e :: fs, (List.perm_cons e).2 p, by rw [dot_cons, dot_cons, hd]⟩
  | swap x y l => cases es with
    | nil => simp at hl
    | cons e es => cases es with
      | nil => simp at hl
      | cons f es => exact ⟨f :: e :: es, List.Perm.swap _ _ _, by simp only [dot_cons]; omega⟩
  | trans h1 _ ih1 ih2 =>
    obtain ⟨fs, p, hd⟩ := ih1 es hl
    obtain ⟨gs, q, hd2⟩ := ih2 fs (by rw [← p.length_eq, hl, h1.length_eq])
    exact ⟨gs, p.trans q, hd2.trans hd⟩
theorem kraft_perm (j : Nat) {es fs : List Nat} (h : es.Perm fs) : kraft j es = kraft j fs := by
  induction h with
  | nil => rfl
  | cons x _ ih => rw [kraft, kraft, ih]
  | swap x y l => simp only [kraft]; omega
  | trans _ _ ih1 ih2 => exact ih1.trans ih2
theorem May.perm {most : Nat} {ws cs es fs : List Nat} (h : May most ws es) (hp : es.Perm fs) (hl : ws.length = cs.length) : May most cs fs :=
  ⟨by rw [← hp.length_eq, h.len, hl], fun e he => h.pos e (hp.symm.subset he), fun e he => h.le e (hp.symm.subset he), by rw [← kraft_perm most hp]; exact h.room⟩

/-- Lengths that may be, a bit less each. -/
theorem May.fits {r : Nat} {cs es : List Nat} (h : May (r + 1) cs es) : ∃ fs, es = fs.map (· + 1) ∧ Fits r cs fs 2 ∧ dot cs es = dot cs fs + cs.sum := by
  have e : es = (es.map (· - 1)).map (· + 1) := by
    rw [List.map_map]
    have : ∀ l : List Nat, (∀ x ∈ l, 1 ≤ x) → l = l.map ((· + 1) ∘ (· - 1)) := by
      intro l hl
      induction l with
      | nil => rfl
      | cons y l ihl =>
        rw [List.map_cons, ← ihl (fun x hx => hl x (List.mem_cons_of_mem _ hx))]
        have := hl y (List.mem_cons_self ..)
        simp only [Function.comp]
        congr 1
        omega
    exact this es h.pos
  refine ⟨es.map (· - 1), e, ⟨by simp [h.len], ?_, ?_⟩, ?_⟩
  · intro x hx
    obtain ⟨y, hy, rfl⟩ := List.mem_map.1 hx
    have := h.le y hy
    omega
  · have hr := h.room
    rw [e, kraft_succ, Nat.pow_succ, Nat.mul_comm] at hr
    exact hr
  · have k := dot_succ cs (es.map (· - 1)) (by simp [h.len])
    rw [← e] at k
    exact k
theorem Fits.may {r : Nat} {cs fs : List Nat} (h : Fits r cs fs 2) : May (r + 1) cs (fs.map (· + 1)) := by
  refine ⟨by simp [h.len], ?_, ?_, ?_⟩
  · intro x hx
    obtain ⟨y, _, rfl⟩ := List.mem_map.1 hx
    omega
  · intro x hx
    obtain ⟨y, hy, rfl⟩ := List.mem_map.1 hx
    have := h.le y hy
    omega
  · rw [kraft_succ, Nat.pow_succ, Nat.mul_comm]
    exact h.room

/-- Lengths that may be and that none that may be undercut cost what the recursion finds. -/
theorem best_is_least (r : Nat) (ws cs es : List Nat) (hp : ws.Perm cs) (hc : Falling cs) (h : May (r + 1) ws es) (hb : ∀ fs, May (r + 1) ws fs → dot ws es ≤ dot ws fs) :
    ∃ v, least r cs 2 = some v ∧ dot ws es = v + cs.sum := by
  obtain ⟨es2, p1, d1⟩ := dot_perm hp es h.len
  obtain ⟨fs, e1, f1, d2⟩ := (h.perm p1 hp.length_eq).fits
  obtain ⟨v, l1, l2⟩ := least_le r cs fs 2 hc f1
  refine ⟨v, l1, ?_⟩
  obtain ⟨gs, f2, d3⟩ := least_fits r cs 2 v l1
  obtain ⟨hs, p2, d4⟩ := dot_perm hp.symm (gs.map (· + 1)) (by simp [f2.len])
  have m := f2.may.perm p2 hp.symm.length_eq
  have := hb hs m
  have d5 := dot_succ cs gs f2.len
  omega
/-- Enough places for all. -/
theorem may_some (most n : Nat) (ws : List Nat) (hn : ws.length = n) (hm : n ≤ 2 ^ most) (h1 : 1 ≤ most) : May most ws (List.replicate n most) := by
  refine ⟨by simp [hn], ?_, ?_, ?_⟩
  · intro e he; rw [List.eq_of_mem_replicate he]; exact h1
  · intro e he; rw [List.eq_of_mem_replicate he]; exact Nat.le_refl _
  · have : ∀ k, kraft most (List.replicate k most) = k := by
      intro k
      induction k with
      | zero => rfl
      | succ k ih => rw [List.replicate_succ, kraft, ih, Nat.sub_self]; omega
    rw [this]; exact hm
end Go.Proofs.Ytoiknbbimgeihaa.Huff
/- Of the least lengths: what is there more often is no longer; two symbols or more take all room. No program in it. -/
namespace Go.Proofs.Ytoiknbbimgeihaa.Huff

theorem dot_put (ws es : List Nat) (i x : Nat) (h : es.length = ws.length) (hi : i < es.length) : dot ws (es.set i x) + ws[i]'(by omega) * es[i] = dot ws es + ws[i]'(by omega) * x := by
  induction ws generalizing es i with
  | nil => exact absurd hi (by rw [h]; simp)
  | cons w ws ih => cases es with
    | nil => simp at h
    | cons e es => cases i with
      | zero => simp only [List.set_cons_zero, List.getElem_cons_zero, dot_cons]; omega
      | succ i =>
        simp only [List.set_cons_succ, List.getElem_cons_succ, dot_cons]
        have := ih es i (by simpa using h) (by simpa using hi)
        omega
theorem kraft_put (j : Nat) (es : List Nat) (i x : Nat) (hi : i < es.length) : kraft j (es.set i x) + 2 ^ (j - es[i]) = kraft j es + 2 ^ (j - x) := by
  induction es generalizing i with
  | nil => simp at hi
  | cons e es ih => cases i with
    | zero => simp only [List.set_cons_zero, List.getElem_cons_zero, kraft]; omega
    | succ i =>
      simp only [List.set_cons_succ, List.getElem_cons_succ, kraft]
      have := ih i (by simpa using hi)
      omega

theorem swap_gain (A B C q f a b : Nat) (d1 : B + (q + 1 + a) * (f + 1 + b) = A + (q + 1 + a) * f) (d2 : C + q * f = B + q * (f + 1 + b)) (hle : A ≤ C) : False := by
  have x1 : (q + 1 + a) * (f + 1 + b) = q * (f + 1 + b) + (1 + a) * (f + 1 + b) := by rw [show q + 1 + a = q + (1 + a) by omega, Nat.add_mul]
  have x2 : (q + 1 + a) * f = q * f + (1 + a) * f := by rw [show q + 1 + a = q + (1 + a) by omega, Nat.add_mul]
  have x3 : (1 + a) * (f + 1 + b) = (1 + a) * f + (1 + a) * (1 + b) := by rw [show f + 1 + b = f + (1 + b) by omega, Nat.mul_add]
  have x4 : 0 < (1 + a) * (1 + b) := Nat.mul_pos (by omega) (by omega)
  rw [x1, x2] at d1
  omega
theorem best_order (most : Nat) (ws es : List Nat) (h : May most ws es) (hb : ∀ fs, May most ws fs → dot ws es ≤ dot ws fs) (i j : Nat) (hi : i < es.length) (hj : j < es.length)
    (hw : ws[j]'(by have := h.len; omega) < ws[i]'(by have := h.len; omega)) : es[i] ≤ es[j] := by
  have hlen := h.len
  rcases Nat.lt_or_ge es[j] es[i] with hlt | hge
  · exfalso
    have hij : i ≠ j := by
      intro e
      subst e
      omega
    have hj2 : j < (es.set i es[j]).length := by simpa using hj
    have e1 : (es.set i es[j])[j]'hj2 = es[j] := List.getElem_set_ne hij hj2
    have d1 := dot_put ws es i es[j] hlen hi
    have d2 := dot_put ws (es.set i es[j]) j es[i] (by simpa using hlen) hj2
    have k1 := kraft_put most es i es[j] hi
    have k2 := kraft_put most (es.set i es[j]) j es[i] hj2
    rw [e1] at d2 k2
    have hm : May most ws ((es.set i es[j]).set j es[i]) := by
      refine ⟨by simp [hlen], ?_, ?_, ?_⟩
      · intro e he
        rcases List.mem_or_eq_of_mem_set he with he | rfl
        · rcases List.mem_or_eq_of_mem_set he with he | rfl
          · exact h.pos e he
          · exact h.pos _ (List.getElem_mem _)
        · exact h.pos _ (List.getElem_mem _)
      · intro e he
        rcases List.mem_or_eq_of_mem_set he with he | rfl
        · rcases List.mem_or_eq_of_mem_set he with he | rfl
          · exact h.le e he
          · exact h.le _ (List.getElem_mem _)
        · exact h.le _ (List.getElem_mem _)
      · have := h.room
        omega
    have hle := hb _ hm
    obtain ⟨a, ha⟩ : ∃ a, ws[i]'(by omega) = ws[j]'(by omega) + 1 + a := ⟨ws[i]'(by omega) - ws[j]'(by omega) - 1, by omega⟩
    obtain ⟨b, hb2⟩ : ∃ b, es[i] = es[j] + 1 + b := ⟨es[i] - es[j] - 1, by omega⟩
    rw [ha, hb2] at d1
    rw [hb2] at d2 hle
    exact swap_gain _ _ _ _ _ a b d1 d2 hle
  · exact hge

/-- Room is taken in steps of the longest. -/
theorem kraft_dvd (most m : Nat) (es : List Nat) (h : ∀ e ∈ es, e ≤ m) : 2 ^ (most - m) ∣ kraft most es := by
  induction es with
  | nil => exact Nat.dvd_zero _
  | cons e es ih =>
    rw [kraft]
    refine Nat.dvd_add (Nat.pow_dvd_pow 2 ?_) (ih (fun x hx => h x (List.mem_cons_of_mem _ hx)))
    have := h e (List.mem_cons_self ..)
    omega
theorem exists_longest (es : List Nat) (h : es ≠ []) : ∃ i, ∃ hi : i < es.length, ∀ e ∈ es, e ≤ es[i] := by
  induction es with
  | nil => exact absurd rfl h
  | cons x es ih =>
    by_cases h0 : es = []
    · subst h0
      exact ⟨0, by simp, by intro e he; simp at he; subst he; exact Nat.le_refl _⟩
    · obtain ⟨i, hi, hm⟩ := ih h0
      by_cases hx : x ≤ es[i]
      · refine ⟨i + 1, by simpa using hi, ?_⟩
        intro e he
        rcases List.mem_cons.1 he with rfl | he
        · exact hx
        · exact hm e he
      · refine ⟨0, by simp, ?_⟩
        intro e he
        rcases List.mem_cons.1 he with rfl | he
        · exact Nat.le_refl _
        · have := hm e he
          simp only [List.getElem_cons_zero]
          omega

theorem best_whole (most : Nat) (ws es : List Nat) (h2 : 2 ≤ ws.length) (hw : ∀ w ∈ ws, 0 < w) (h : May most ws es) (hb : ∀ fs, May most ws fs → dot ws es ≤ dot ws fs) : kraft most es = 2 ^ most := by
  have hlen := h.len
  have hroom := h.room
  rcases Nat.lt_or_ge (kraft most es) (2 ^ most) with hlt | hge
  · exfalso
    obtain ⟨i, hi, hm⟩ := exists_longest es (by intro e; rw [e] at hlen; simp at hlen; omega)
    have hpos := h.pos _ (List.getElem_mem hi)
    have hmost := h.le _ (List.getElem_mem hi)
    -- there is room for one step of the longest
    have hd := kraft_dvd most es[i] es hm
    have hd2 : 2 ^ (most - es[i]) ∣ 2 ^ most := Nat.pow_dvd_pow 2 (by omega)
    have hstep : kraft most es + 2 ^ (most - es[i]) ≤ 2 ^ most := by
      obtain ⟨a, ha⟩ := hd
      obtain ⟨b, hb2⟩ := hd2
      rw [ha, hb2] at hlt ⊢
      have hp := Nat.two_pow_pos (most - es[i])
      have hab : a < b := Nat.lt_of_mul_lt_mul_left hlt
      have : 2 ^ (most - es[i]) * (a + 1) ≤ 2 ^ (most - es[i]) * b := Nat.mul_le_mul_left _ hab
      rw [Nat.mul_add, Nat.mul_one] at this
      exact this
    by_cases h1 : es[i] = 1
    · -- all are 1: two of them take all room
      have hall : ∀ e ∈ es, e = 1 := by
        intro e he
        have h3 := hm e he
        have h4 := h.pos e he
        omega
      have hk : ∀ l : List Nat, (∀ e ∈ l, e = 1) → kraft most l = l.length * 2 ^ (most - 1) := by
        intro l hl
        induction l with
        | nil => simp [kraft]
        | cons x l ihl =>
          rw [kraft, ihl (fun y hy => hl y (List.mem_cons_of_mem _ hy)), hl x (List.mem_cons_self ..), List.length_cons, Nat.add_mul]
          omega
      have hk2 := hk es hall
      have h5 : 2 * 2 ^ (most - 1) ≤ es.length * 2 ^ (most - 1) := Nat.mul_le_mul_right _ (by omega)
      have h6 : 2 ^ most = 2 * 2 ^ (most - 1) := by
        obtain ⟨m, rfl⟩ : ∃ m, most = m + 1 := ⟨most - 1, by omega⟩
        rw [Nat.pow_succ, Nat.add_sub_cancel, Nat.mul_comm]
      omega
    · have d1 := dot_put ws es i (es[i] - 1) hlen hi
      have k1 := kraft_put most es i (es[i] - 1) hi
      have hpw : 2 ^ (most - (es[i] - 1)) = 2 * 2 ^ (most - es[i]) := by
        rw [show most - (es[i] - 1) = (most - es[i]) + 1 by omega, Nat.pow_succ, Nat.mul_comm]
      have hm2 : May most ws (es.set i (es[i] - 1)) := by
        refine ⟨by simp [hlen], ?_, ?_, by omega⟩
        · intro e he
          rcases List.mem_or_eq_of_mem_set he with he | rfl
          · exact h.pos e he
          · omega
        · intro e he
          rcases List.mem_or_eq_of_mem_set he with he | rfl
          · exact h.le e he
          · omega
      have hle := hb _ hm2
      have hwi := hw _ (List.getElem_mem (show i < ws.length by omega))
      obtain ⟨f, hf⟩ : ∃ f, es[i] = f + 1 := ⟨es[i] - 1, by omega⟩
      rw [hf, Nat.add_sub_cancel, Nat.mul_add, Nat.mul_one] at d1
      rw [hf, Nat.add_sub_cancel] at hle
      omega
  · omega
end Go.Proofs.Ytoiknbbimgeihaa.Huff
